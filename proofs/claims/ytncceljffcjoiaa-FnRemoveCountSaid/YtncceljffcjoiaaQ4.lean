/-
  Texts of this proof, one behind the other: Ro, Lp, Lt, La, Li, Ld, Mw.
-/
import Derived.Laws.Concat
import Derived.Test.YtncceljffcjoiaaRk
import Derived.Test.YtncceljffcjoiaaTt
/-
  WALKS: the reader's 'of' (a text out of a list). For any seat.
-/
namespace Go.Proofs.Ytncceljffcjoiaa
open Go.RowKit
set_option linter.unusedVariables false

/-- One of the texts of a list, the reader one place on. -/
def OfPost (N0 B p : Nat) (xs : List ByteArray) (W : World) (e : Ending) (W' : World) : Prop :=
  ∃ x ∈ xs, e = .returned (.string x) ∧ RdAt N0 W' B (p + 1) ∧ W.grownBy W' (some B)

set_option maxHeartbeats 1000000 in
theorem of_c (N0 B p L c : Nat) (xs : List ByteArray) (hx : 1 ≤ xs.length) (hx2 : xs.length ≤ 1000) (hLB : L ≠ B) (W : World) (hp : p < 30000) (hR : RdAt N0 W B p)
    (hc : ∀ j x, xs[j]? = some x → W.cell? ⟨L, j, none⟩ = some (.string x)) :
    Calls Try.prog 40 #[.pointer (some ⟨B, 0, none⟩), .slice (some ⟨L, 0, none⟩) xs.length c] W (OfPost N0 B p xs W) := by
  have HP := Lib.hid (fun W hR => pick_c N0 B p xs.length (by omega) (by omega) W hp hR)
  have HC := Lib.hid hc
  clear hc
  go_enter Try.func40, Try.ntmps40
  go_wp2_with fail
  refine (HP.out W hR).mono ?_
  rintro e W1 ⟨r, rfl, h0, h1, hR1, hg⟩
  obtain ⟨k, rfl⟩ := Int.eq_ofNat_of_zero_le h0
  have hk : k < xs.length := by omega
  obtain ⟨x, hxk⟩ : ∃ x, xs[k]? = some x := ⟨xs[k], List.getElem?_eq_getElem hk⟩
  have hcell : W1.cell? ⟨L, k, none⟩ = some (.string x) := hg.cell (HC.out k x hxk) (by simpa using hLB)
  have HX := Lib.hid hxk
  clear hxk h0 h1 hR
  go_wp2
  go_ret
  exact ⟨x, List.mem_of_getElem? HX.out, rfl, hR1, hg⟩

/-- 'of' at a list that is written out on the spot. -/
theorem of_lit (N0 B p : Nat) (xs : List ByteArray) (n : Nat) (hn : xs.length = n) (hx : 1 ≤ n) (hx2 : n ≤ 1000) (W : World) (hp : p < 30000) (hR : RdAt N0 W B p) (cs : Array Value) (hcs : cs = (xs.map Value.string).toArray) :
    Calls Try.prog 40 #[.pointer (some ⟨B, 0, none⟩), .slice (some ⟨W.heap.size, 0, none⟩) n n] (W.alloc (.cells cs 9)) (OfPost N0 B p xs W) := by
  have hg : W.grownBy (W.alloc (.cells cs 9)) none := World.grownBy_alloc W _ none
  subst hn
  refine (of_c N0 B p W.heap.size xs.length xs hx hx2 (by have := hR.lt; omega) _ hp (hR.keep (Below.refl W.heap.size W |>.alloc (Nat.le_refl _) _)) ?_).mono ?_
  · intro j x hj
    subst hcs
    rw [World.cell?_alloc_new]
    simp [hj]
  · rintro e W' ⟨x, hx, he, hR', hg'⟩
    exact ⟨x, hx, he, hR', grownBy_trans (grownBy_none hg _) hg'⟩

/-- A text of modest length; the reader some places on. -/
def StrPost (N0 B p d m : Nat) (W : World) (e : Ending) (W' : World) : Prop :=
  ∃ (s : ByteArray) (q : Nat), e = .returned (.string s) ∧ s.size ≤ m ∧ q ≤ p + d ∧ RdAt N0 W' B q ∧ W.grownBy W' (some B)

end Go.Proofs.Ytncceljffcjoiaa

/-
  WALKS: paths that are drawn (spec.l91Path). For any seat.
-/
namespace Go.Proofs.Ytncceljffcjoiaa
open Go.RowKit
set_option linter.unusedVariables false

def oddTexts : List ByteArray := [⟨#[]⟩, ⟨#[47]⟩, ⟨#[97]⟩, ⟨#[47, 101]⟩, ⟨#[47, 97, 47]⟩, ⟨#[47, 47, 97]⟩, ⟨#[47, 97, 47, 98, 47, 99, 47, 100, 47, 97]⟩, ⟨#[47, 97, 98]⟩]
def letterTexts : List ByteArray := [⟨#[97]⟩, ⟨#[98]⟩, ⟨#[97]⟩, ⟨#[98]⟩, ⟨#[99]⟩, ⟨#[100]⟩]

def PathRel (N0 B p : Nat) (n : Int) (W : World) (out i : Value) (wr : World) : Prop :=
  ∃ (k : Nat) (s : ByteArray), i = .int .i64 k ∧ k ≤ 4 ∧ (k : Int) ≤ 1 + n ∧ out = .string s ∧ s.size = 2 * k ∧ RdAt N0 wr B (p + 3 + k) ∧ W.grownBy wr (some B)

set_option maxHeartbeats 1000000 in
set_option maxRecDepth 100000 in
theorem l91Path_c (N0 B p : Nat) (W : World) (hp : p < 29000) (hR : RdAt N0 W B p) :
    Calls Try.prog 41 #[.pointer (some ⟨B, 0, none⟩)] W (StrPost N0 B p 7 64 W) := by
  have HP1 := Lib.hid (fun W hR => pick_c N0 B p 24 (by omega) (by omega) W (by omega) hR)
  go_enter Try.func41, Try.ntmps41
  go_wp2_with fail
  refine (HP1.out W hR).mono ?_
  rintro e W1 ⟨r, rfl, h0, h1, hR1, hg1⟩
  by_cases hr : r = 0
  · subst hr
    clear h0 h1 hR
    have HO := Lib.hid (of_lit N0 B (p + 1) oddTexts 8 rfl (by omega) (by omega) W1 (by omega) hR1 _ rfl)
    simp only [oddTexts, List.map_cons, List.map_nil] at HO
    go_wp2_with fail
    refine HO.out.mono ?_
    rintro e W2 ⟨x, hx, rfl, hR2, hg2⟩
    go_wp2
    go_ret
    refine ⟨x, p + 1 + 1, rfl, ?_, by omega, hR2, grownBy_trans hg1 hg2⟩
    simp at hx
    rcases hx with rfl | rfl | rfl | rfl | rfl | rfl | rfl | rfl <;> decide
  · have hr' : (r == 0) = false := by simpa using hr
    have HP2 := Lib.hid (fun W hR => pick_c N0 B (p + 1) 4 (by omega) (by omega) W (by omega) hR)
    have HP3 := Lib.hid (fun W hR => pick_c N0 B (p + 1 + 1) 2 (by omega) (by omega) W (by omega) hR)
    clear h0 h1 hR hr
    go_wp2_with fail
    refine (HP2.out W1 hR1).mono ?_
    rintro e W2 ⟨a, rfl, a0, a1, hR2, hg2⟩
    go_wp2_with fail
    refine (HP3.out W2 hR2).mono ?_
    rintro e W3 ⟨b, rfl, b0, b1, hR3, hg3⟩
    have hg : W.grownBy W3 (some B) := grownBy_trans hg1 (grownBy_trans hg2 hg3)
    have hn : IntKind.i64.wrap (a * b) = a * b := by
      have hb : b = 0 ∨ b = 1 := by omega
      rcases hb with rfl | rfl
      · simp [IntKind.wrap_i64]
      · rw [Int.mul_one]; exact IntWalk.i64_in _ (by omega)
    have hab : 0 ≤ a * b ∧ a * b ≤ 3 := by
      have hb : b = 0 ∨ b = 1 := by omega
      rcases hb with rfl | rfl <;> omega
    obtain ⟨hab0, hab3⟩ := hab
    clear hg1 hg2 hg3 hR1 hR2 a0 a1 b0 b1 hr'
    go_wp2
    go_loopw [4, 5] (fun out i wr => PathRel N0 B p (a * b) W out i wr) (fun _ i _ => (1 + a * b - intOf i).toNat)
    case atStart => exact ⟨0, ⟨#[]⟩, rfl, by omega, by omega, rfl, rfl, hR3, hg⟩
    case round =>
      obtain ⟨k, s, rfl, hk4, hkn, rfl, hs, hRk, hgk⟩ := hrel
      by_cases hlt : (k : Int) < 1 + a * b
      · have hk3 : k ≤ 3 := by omega
        have HO := Lib.hid (of_lit N0 B (p + 3 + k) letterTexts 6 rfl (by omega) (by omega) wr (by omega) hRk _ rfl)
        simp only [letterTexts, List.map_cons, List.map_nil] at HO
        have HS := Lib.hid hs
        have hs8 : s.size ≤ 8 := by omega
        clear hs
        go_wp2_with fail
        refine HO.out.mono ?_
        rintro e W5 ⟨x, hx, rfl, hR5, hg5⟩
        have hx1 : x.size = 1 := by
          simp at hx
          rcases hx with rfl | rfl | rfl | rfl | rfl | rfl <;> rfl
        have HX := Lib.hid hx1
        have hx8 : x.size ≤ 1 := by omega
        clear hx hx1
        go_wp2
        refine ⟨⟨k + 1, s ++ ⟨#[47]⟩ ++ x, by go_num, by omega, by omega, rfl, ?_, hR5, grownBy_trans hgk hg5⟩, ?_⟩
        · rw [ByteArray.size_append, ByteArray.size_append, HS.out, HX.out]
          show 2 * k + 1 + 1 = _
          omega
        · simp [intOf]; omega
      · have hk : (1 : Int) + a * b ≤ k := by omega
        have HS := Lib.hid hs
        clear hs hlt
        go_wp2
        go_ret
        refine ⟨s, p + 3 + k, rfl, by have := HS.out; omega, by omega, hRk, hgk⟩

end Go.Proofs.Ytncceljffcjoiaa

/-
  WALKS: trees that are drawn (spec.l91Tree).
-/
namespace Go.Proofs.Ytncceljffcjoiaa
open Go.RowKit
set_option linter.unusedVariables false

/-- A drawn list of nodes, of the call's own. -/
def TreeDraw (N0 B p m c d : Nat) (W : World) (ok : List Nd → Prop) (e : Ending) (W' : World) : Prop :=
  ∃ (sl : Value) (out : List Nd) (q : Nat), e = .returned sl ∧ W'.ownsRow W.heap.size 62 3 sl out.length (flatN out) ∧ ok out ∧ out.length ≤ c ∧ Short m out ∧ q ≤ p + d ∧ RdAt N0 W' B q ∧ W.grownBy W' (some B)

def TreeRel (N0 B p : Nat) (n : Int) (W : World) (o i : Value) (wr : World) : Prop :=
  ∃ (acc : List Nd) (j q : Nat), i = .int .i64 j ∧ (j : Int) ≤ n ∧ wr.ownsRow W.heap.size 62 3 o acc.length (flatN acc) ∧ Hid (validT acc = true) ∧ Hid (Short 64 acc) ∧ Hid (q ≤ p + 11 * j) ∧ RdAt N0 wr B q ∧ Hid (W.grownBy wr (some B))

set_option maxHeartbeats 2000000 in
set_option maxRecDepth 100000 in
theorem l91Tree_c (N0 B p : Nat) (n : Int) (hn0 : 0 ≤ n) (hn : n ≤ 60) (W : World) (hp : p < 20000) (hR : RdAt N0 W B p) :
    Calls Try.prog 39 #[.pointer (some ⟨B, 0, none⟩), .int .i64 n] W (TreeDraw N0 B p 64 10 660 W (fun out => validT out = true)) := by
  have HLT := Lib.hid hR.lt
  have HP := Lib.hid (fun q W hq hR => l91Path_c N0 B q W hq hR)
  have HC := Lib.hid (fun q W hq hR => l91Content_c N0 B q W hq hR)
  have HPP := Lib.hid hp
  have HN := Lib.hid hn
  go_enter Try.func39, Try.ntmps39
  go_wp2
  go_loopw [5, 6, 7, 8] (fun o i _ _ wr => TreeRel N0 B p n W o i wr) (fun _ i _ _ _ => (n - intOf i).toNat)
  case atStart => exact ⟨[], 0, p, rfl, hn0, World.ownsRow_lit (e := 62) (size := 3) W #[] 0 (Nat.le_refl _) (by simp [maxLen]) rfl, (by show validT [] = true; rfl), (by intro x hx; cases hx), (by show p ≤ _; omega), hR.alloc _, grownBy_new _ _ _⟩
  case round =>
    obtain ⟨acc, j, q, rfl, hj, hrow, HV, HS, HQ, hRq, HG⟩ := hrel
    by_cases hlt : (j : Int) < n
    · have HJ := Lib.hid hlt
      clear hj hR
      go_wp2_with fail
      refine (HP.out q _ (by have h5 := HQ.out; have h6 := HPP.out; have h7 := HN.out; omega) hRq).mono ?_; rintro e W2 ⟨s, q2, rfl, hs, hq2, hR2, hg2⟩
      have hrow2 := own_reader hrow HLT.out hg2
      have HS2 := Lib.hid (And.intro hs hq2)
      clear hs hq2 hrow hRq
      go_wp2_with fail
      refine (HC.out q2 _ (by have h5 := HQ.out; have h6 := HPP.out; have h7 := HN.out; have h8 := HS2.out.2; omega) hR2).mono ?_; rintro e W3 ⟨k, v, q3, rfl, -, -, -, -, hq3, hR3, hg3⟩
      have hrow3 := own_reader hrow2 HLT.out hg3
      have HQ3 := Lib.hid hq3
      have HG3 := Lib.hid (grownBy_trans HG.out (grownBy_trans hg2 hg3))
      obtain ⟨ao, co, rfl, hNo⟩ := nodes_of_own hrow3
      have hlen := ((validT_iff acc).1 HV.out).2.2
      have HTP := Lib.hid (specTreePut_c ao acc.length co acc s k v (by omega) (fun n hn => by have := HS.out n hn; omega) (by have := HS2.out.1; omega) W3 hNo)
      clear hq3 hrow2 hR2 hg2 hg3 hNo hlen
      go_wp2_with fail
      refine HTP.out.mono ?_; rintro e W4 ⟨sl, out, b, rfl, hb, hown, hb4⟩
      have HR4 := Lib.hid (hR3.keep hb4)
      have HG4 := Lib.hid (grownBy_below HG3.out hb4)
      cases b with
      | true =>
        have hr : treePut acc s k v = some out := by
          rcases hb with ⟨-, h⟩ | ⟨h, -⟩
          · exact h
          · cases h
        obtain ⟨-, -, -, h5, h6⟩ := treePut_some hr
        have HV4 : Hid (validT out = true) := h6
        have HS4 : Hid (Short 64 out) := by show Short 64 out; rw [h5]; exact short_put HS.out HS2.out.1
        have hown4 := own_mono hown HG3.out.size
        clear hb hr h5 h6 hown hb4 hrow3 hR3
        go_wp2
        go_roundw
        case rel => exact ⟨out, j + 1, q3, by go_num, by have := HJ.out; omega, hown4, HV4, HS4, (by show q3 ≤ _; have h5 := HQ.out; have h6 := HQ3.out; have h7 := HS2.out.2; omega), HR4.out, HG4⟩
        case measure => have := HJ.out; simp [intOf]; omega
      | false =>
        have hown4 := own_below hrow3 hb4
        clear hb hown hb4 hrow3 hR3
        go_wp2
        go_roundw
        case rel => exact ⟨acc, j + 1, q3, by go_num, by have := HJ.out; omega, hown4, HV, HS, (by show q3 ≤ _; have h5 := HQ.out; have h6 := HQ3.out; have h7 := HS2.out.2; omega), HR4.out, HG4⟩
        case measure => have := HJ.out; simp [intOf]; omega
    · have hge : n ≤ (j : Int) := by omega
      have HJ := Lib.hid hj
      clear hj hR
      go_wp2
      go_ret
      exact ⟨_, acc, q, rfl, hrow, HV.out, ((validT_iff acc).1 HV.out).2.2, HS.out, by have h5 := HQ.out; have h6 := HJ.out; have h7 := HN.out; omega, hRq, HG.out⟩

end Go.Proofs.Ytncceljffcjoiaa

/-
  WALKS: trees that are drawn, seldom invalid ones (spec.l91Any).
-/
namespace Go.Proofs.Ytncceljffcjoiaa
open Go.RowKit
set_option linter.unusedVariables false

theorem flatN_set : ∀ (ns : List Nd) (i : Nat) (n : Nd) (k v : Int), ns[i]? = some n → ((flatN ns).set (i * 3 + 1) (.int .i64 k)).set (i * 3 + 2) (.int .i64 v) = flatN (ns.set i ⟨n.p, k, v⟩)
  | [], i, n, k, v, h => by simp at h
  | m :: r, 0, n, k, v, h => by
    simp at h
    subst h
    rfl
  | m :: r, i + 1, n, k, v, h => by
    have ih := flatN_set r i n k v (by simpa using h)
    have e : ∀ (x : Nd) (t : List Nd), flatN (x :: t) = .string x.p :: .int .i64 x.k :: .int .i64 x.v :: flatN t := fun _ _ => rfl
    rw [List.set_cons_succ, e m r, e m (r.set i _), ← ih, show (i + 1) * 3 + 1 = (i * 3 + 1) + 3 by omega, show (i + 1) * 3 + 2 = (i * 3 + 2) + 3 by omega]
    rfl

theorem own_set {W : World} {base : Nat} {e : TypeId} {g cap : Nat} {ns : List Nd} {i : Nat} {n : Nd} (h : W.ownsRow base e 3 (.slice (some ⟨g, 0, none⟩) ns.length cap) ns.length (flatN ns)) (hn : ns[i]? = some n) (k v : Int) :
    ((W.setCell ⟨g, i * 3 + 1, none⟩ (.int .i64 k)).setCell ⟨g, i * 3 + 1 + 1, none⟩ (.int .i64 v)).ownsRow base e 3 (.slice (some ⟨g, 0, none⟩) ns.length cap) (ns.set i ⟨n.p, k, v⟩).length (flatN (ns.set i ⟨n.p, k, v⟩)) := by
  have := ((h.stored (i * 3 + 1) (.int .i64 k)).1.stored (i * 3 + 2) (.int .i64 v)).1
  rw [flatN_set ns i n k v hn] at this
  rw [List.length_set]
  exact this

theorem own_slice {W : World} {base : Nat} {e : TypeId} {v : Value} {ns : List Nd} (h : W.ownsRow base e 3 v ns.length (flatN ns)) (h0 : 0 < ns.length) : ∃ g cap, v = .slice (some ⟨g, 0, none⟩) ns.length cap ∧ base ≤ g ∧ g < W.heap.size := by
  rcases h.2 with ⟨_, h1⟩ | ⟨g, cap, cur, rfl, h1, h2, _⟩
  · omega
  · exact ⟨g, cap, rfl, h1, by rw [Array.getElem?_eq_some_iff] at h2; exact h2.1⟩

theorem short_set {m : Nat} {ns : List Nd} {i : Nat} {n : Nd} {k v : Int} (h : Short m ns) (hn : ns[i]? = some n) : Short m (ns.set i ⟨n.p, k, v⟩) := by
  intro x hx
  rcases List.mem_or_eq_of_mem_set hx with h1 | rfl
  · exact h x h1
  · exact h n (List.mem_of_getElem? hn)

set_option maxHeartbeats 2000000 in
set_option maxRecDepth 100000 in
theorem l91Any_c (N0 B p : Nat) (W : World) (hp : p < 10000) (hR : RdAt N0 W B p) :
    Calls Try.prog 19 #[.pointer (some ⟨B, 0, none⟩)] W (TreeDraw N0 B p 64 11 670 W (fun _ => True)) := by
  obtain ⟨i0, hi, hz0, hz1, hz2⟩ := info_parts infoNode
  have HLT := Lib.hid hR.lt
  have HLE := Lib.hid hR.le
  have HP1 := Lib.hid (fun W hR => pick_c N0 B p 16 (by omega) (by omega) W (by omega) hR)
  have HP2 := Lib.hid (fun W hR => pick_c N0 B (p + 1) 8 (by omega) (by omega) W (by omega) hR)
  have HT := Lib.hid (fun n h0 h1 W hR => l91Tree_c N0 B (p + 1 + 1) n h0 h1 W (by omega) hR)
  have HPK := Lib.hid (fun q n h0 h1 W hq hR => pick_c N0 B q n h0 h1 W hq hR)
  have HPP := Lib.hid hp
  clear hp
  go_enter Try.func19, Try.ntmps19
  go_wp2_with fail
  refine (HP1.out _ hR).mono ?_; rintro e W1 ⟨n, rfl, n0, n1, hR1, hg1⟩
  have HN := Lib.hid (And.intro n0 n1)
  clear n0 n1 hR
  go_wp2_with fail
  refine (HP2.out _ hR1).mono ?_; rintro e W2 ⟨r, rfl, r0, r1, hR2, hg2⟩
  have HG2 := Lib.hid (grownBy_trans hg1 hg2)
  clear hg1 hg2 hR1
  by_cases hr : r = 0
  · subst hr
    clear r0 r1
    go_wp2_with fail
    refine (HT.out 60 (by omega) (by omega) _ hR2).mono ?_; rintro e W3 ⟨sl, out, q, rfl, hown0, -, hlen, hsh, hq, hR3, hg3⟩
    have hown := own_mono hown0 HG2.out.size
    have HG3 := Lib.hid (grownBy_trans HG2.out hg3)
    have HSH := Lib.hid hsh
    have HLN := Lib.hid hlen
    have HQ := Lib.hid hq
    clear hown0 hg3 hsh hlen hq hR2
    by_cases hl0 : out.length = 0
    · obtain ⟨a, cap, rfl, -⟩ := nodes_of_own hown
      have HO := Lib.hid hown
      have hl0' : (out.length : Int) = 0 := by omega
      clear hl0 hown
      go_wp2
      go_ret
      exact ⟨_, out, q, rfl, HO.out, trivial, by have := HLN.out; omega, HSH.out, by have := HQ.out; omega, hR3, HG3.out⟩
    · have hl0 : 0 < out.length := by omega
      have hl1 : (0 : Int) < out.length := by omega
      obtain ⟨g, cap, rfl, hgb, hgw⟩ := own_slice hown hl0
      have HB := Lib.hid (And.intro hgb hgb)
      clear hgb hgw
      go_wp2_with fail
      refine (HPK.out q out.length (by omega) (by have := HLN.out; omega) _ (by have := HQ.out; have := HPP.out; omega) hR3).mono ?_; rintro e W4 ⟨k', rfl, k0, k1, hR4, hg4⟩
      obtain ⟨k, rfl⟩ := Int.eq_ofNat_of_zero_le k0
      have HK := Lib.hid (show k < out.length by omega)
      have hown4 := own_reader hown HLT.out hg4
      clear k0 k1 hown hR3
      go_wp2_with fail
      refine (HPK.out (q + 1) 30 (by omega) (by omega) _ (by have := HQ.out; have := HPP.out; omega) hR4).mono ?_; rintro e W5 ⟨tt, rfl, t0, t1, hR5, hg5⟩
      have HO5 := Lib.hid (own_reader hown4 HLT.out hg5)
      have HG5 := Lib.hid (grownBy_trans HG3.out (grownBy_trans hg4 hg5))
      have HR5 := Lib.hid hR5
      obtain ⟨x, hx⟩ : ∃ x, out[k]? = some x := ⟨_, List.getElem?_eq_getElem HK.out⟩
      have HX := Lib.hid hx
      clear hx hg4 hg5 hR4 hR5 hown4
      by_cases ht : tt = 0
      · subst ht
        clear t0 t1
        have c1 : W5.cell? ⟨g, k * 3 + 1, none⟩ = some (.int .i64 x.k) := by rw [HO5.out.cellAt _ (by have := HK.out; omega)]; exact (flatN_get out k x HX.out).2.1
        have c2 : W5.cell? ⟨g, k * 3 + 2, none⟩ = some (.int .i64 x.v) := by rw [HO5.out.cellAt _ (by have := HK.out; omega)]; exact (flatN_get out k x HX.out).2.2
        have z1 := HO5.out.frozenAt (k * 3 + 1)
        have z2 := HO5.out.frozenAt (k * 3 + 2)
        have hkl : (k : Int) < out.length := by have := HK.out; omega
        clear hl0
        go_wp2
        go_ret
        exact ⟨_, out.set k ⟨x.p, 0, 0⟩, q + 1 + 1, rfl, own_set HO5.out HX.out 0 0, trivial, by rw [List.length_set]; have := HLN.out; omega, short_set HSH.out HX.out, by have := HQ.out; omega,
          (HR5.out.setNew _ _ (by have := HLE.out; have := HB.out.1; show N0 ≤ g; omega)).setNew _ _ (by have := HLE.out; have := HB.out.1; show N0 ≤ g; omega), grownBy_setCell_new (grownBy_setCell_new HG5.out _ _ HB.out.1) _ _ HB.out.1⟩
      · have ht0 : (tt == 0) = false := beq_eq_false_iff_ne.2 ht
        clear ht
        by_cases ht : tt = 1
        · subst ht
          clear t0 t1
          have c0 : W5.cell? ⟨g, k * 3, none⟩ = some (.string x.p) := by rw [HO5.out.cellAt _ (by have := HK.out; omega)]; exact (flatN_get out k x HX.out).1
          have c1 : W5.cell? ⟨g, k * 3 + 1, none⟩ = some (.int .i64 x.k) := by rw [HO5.out.cellAt _ (by have := HK.out; omega)]; exact (flatN_get out k x HX.out).2.1
          have c2 : W5.cell? ⟨g, k * 3 + 2, none⟩ = some (.int .i64 x.v) := by rw [HO5.out.cellAt _ (by have := HK.out; omega)]; exact (flatN_get out k x HX.out).2.2
          have hkl : (k : Int) < out.length := by have := HK.out; omega
          clear hl0
          go_wp2_with (at_builtin; refine wpList_append_own _ rfl _ _ 23 rfl W.heap.size 62 i0 (.agg #[.string ⟨#[]⟩, .int .i64 0, .int .i64 0]) 3 32 Try.underlying23 hi hz0 hz1 hz2 rfl (by decide) _ _ _ rfl (HO5.out.alloc _) ⟨W5.heap.size, 0, none⟩ 1 1 [.string x.p, .int .i64 x.k, .int .i64 x.v] rfl rfl (cell_three_new _ _ _ _ _) (fun x hx => by simp at hx; rcases hx with rfl | rfl | rfl <;> rfl) (by unfold maxLen; have := HLN.out; omega) (by have := HLN.out; omega) (by have := HG5.out.size; simp; omega) ?_; intro v' w6 ho6 hg6 hn6)
          go_ret
          have hown6 := own_push x ho6
          have hfar : W.heap.size ≤ g := HB.out.1
          have hg7 : W5.grownBy w6 (some g) := grownBy_trans (grownBy_new W5 _ _) hg6
          have hR6 : RdAt N0 w6 B (q + 1 + 1) := by
            have hle := HLE.out
            exact HR5.out.kept ⟨hg7.os, hg7.tape, hg7.output, hg7.size, fun b hb => hg7.block b (Nat.lt_of_lt_of_le hb HR5.out.le) (by simp; omega)⟩
          have hG6 : W.grownBy w6 (some B) := ⟨HG5.out.os ▸ hg7.os ▸ rfl, hg7.tape.trans HG5.out.tape, hg7.output.trans HG5.out.output, Nat.le_trans HG5.out.size hg7.size, fun b hb hne => (hg7.block b (Nat.lt_of_lt_of_le hb HG5.out.size) (by simp; omega)).trans (HG5.out.block b hb hne)⟩
          have hsh6 : Short 64 (out ++ [x]) := by
            intro y hy
            rcases List.mem_append.1 hy with h | h
            · exact HSH.out y h
            · rw [List.mem_singleton] at h
              subst h
              exact HSH.out _ (List.mem_of_getElem? HX.out)
          exact ⟨_, out ++ [x], q + 1 + 1, rfl, hown6, trivial, by simp; have := HLN.out; omega, hsh6, by have := HQ.out; omega, hR6, hG6⟩
        · have ht1 : (tt == 1) = false := beq_eq_false_iff_ne.2 ht
          clear ht
          by_cases ht : tt = 2
          · subst ht
            clear t0 t1
            have c1 : W5.cell? ⟨g, k * 3 + 1, none⟩ = some (.int .i64 x.k) := by rw [HO5.out.cellAt _ (by have := HK.out; omega)]; exact (flatN_get out k x HX.out).2.1
            have c2 : W5.cell? ⟨g, k * 3 + 2, none⟩ = some (.int .i64 x.v) := by rw [HO5.out.cellAt _ (by have := HK.out; omega)]; exact (flatN_get out k x HX.out).2.2
            have z1 := HO5.out.frozenAt (k * 3 + 1)
            have z2 := HO5.out.frozenAt (k * 3 + 2)
            have hkl : (k : Int) < out.length := by have := HK.out; omega
            clear hl0
            go_wp2
            go_ret
            exact ⟨_, out.set k ⟨x.p, 2, 0⟩, q + 1 + 1, rfl, own_set HO5.out HX.out 2 0, trivial, by rw [List.length_set]; have := HLN.out; omega, short_set HSH.out HX.out, by have := HQ.out; omega,
              (HR5.out.setNew _ _ (by have := HLE.out; have := HB.out.1; show N0 ≤ g; omega)).setNew _ _ (by have := HLE.out; have := HB.out.1; show N0 ≤ g; omega), grownBy_setCell_new (grownBy_setCell_new HG5.out _ _ HB.out.1) _ _ HB.out.1⟩
          · have ht2 : (tt == 2) = false := beq_eq_false_iff_ne.2 ht
            have HO6 := HO5
            clear ht t0 t1
            go_wp2
            go_ret
            exact ⟨_, out, q + 1 + 1, rfl, HO6.out, trivial, by have := HLN.out; omega, HSH.out, by have := HQ.out; omega, HR5.out, HG5.out⟩
  · have hr' : (r == 0) = false := beq_eq_false_iff_ne.2 hr
    clear r0 r1 hr
    go_wp2_with fail
    refine (HT.out n HN.out.1 (by have := HN.out.2; omega) _ hR2).mono ?_; rintro e W3 ⟨sl, out, q, rfl, hown0, -, hlen, hsh, hq, hR3, hg3⟩
    have hown := own_mono hown0 HG2.out.size
    have HG3 := Lib.hid (grownBy_trans HG2.out hg3)
    have HSH := Lib.hid hsh
    have HLN := Lib.hid hlen
    have HQ := Lib.hid hq
    clear hown0 hg3 hsh hlen hq hR2
    by_cases hl0 : out.length = 0
    · obtain ⟨a, cap, rfl, -⟩ := nodes_of_own hown
      have HO := Lib.hid hown
      have hl0' : (out.length : Int) = 0 := by omega
      clear hl0 hown
      go_wp2
      go_ret
      exact ⟨_, out, q, rfl, HO.out, trivial, by have := HLN.out; omega, HSH.out, by have := HQ.out; omega, hR3, HG3.out⟩
    · have hl0 : 0 < out.length := by omega
      have hl1 : (0 : Int) < out.length := by omega
      obtain ⟨g, cap, rfl, hgb, hgw⟩ := own_slice hown hl0
      have HB := Lib.hid (And.intro hgb hgb)
      clear hgb hgw
      go_wp2_with fail
      refine (HPK.out q out.length (by omega) (by have := HLN.out; omega) _ (by have := HQ.out; have := HPP.out; omega) hR3).mono ?_; rintro e W4 ⟨k', rfl, k0, k1, hR4, hg4⟩
      obtain ⟨k, rfl⟩ := Int.eq_ofNat_of_zero_le k0
      have HK := Lib.hid (show k < out.length by omega)
      have hown4 := own_reader hown HLT.out hg4
      clear k0 k1 hown hR3
      go_wp2_with fail
      refine (HPK.out (q + 1) 30 (by omega) (by omega) _ (by have := HQ.out; have := HPP.out; omega) hR4).mono ?_; rintro e W5 ⟨tt, rfl, t0, t1, hR5, hg5⟩
      have HO5 := Lib.hid (own_reader hown4 HLT.out hg5)
      have HG5 := Lib.hid (grownBy_trans HG3.out (grownBy_trans hg4 hg5))
      have HR5 := Lib.hid hR5
      obtain ⟨x, hx⟩ : ∃ x, out[k]? = some x := ⟨_, List.getElem?_eq_getElem HK.out⟩
      have HX := Lib.hid hx
      clear hx hg4 hg5 hR4 hR5 hown4
      by_cases ht : tt = 0
      · subst ht
        clear t0 t1
        have c1 : W5.cell? ⟨g, k * 3 + 1, none⟩ = some (.int .i64 x.k) := by rw [HO5.out.cellAt _ (by have := HK.out; omega)]; exact (flatN_get out k x HX.out).2.1
        have c2 : W5.cell? ⟨g, k * 3 + 2, none⟩ = some (.int .i64 x.v) := by rw [HO5.out.cellAt _ (by have := HK.out; omega)]; exact (flatN_get out k x HX.out).2.2
        have z1 := HO5.out.frozenAt (k * 3 + 1)
        have z2 := HO5.out.frozenAt (k * 3 + 2)
        have hkl : (k : Int) < out.length := by have := HK.out; omega
        clear hl0
        go_wp2
        go_ret
        exact ⟨_, out.set k ⟨x.p, 0, 0⟩, q + 1 + 1, rfl, own_set HO5.out HX.out 0 0, trivial, by rw [List.length_set]; have := HLN.out; omega, short_set HSH.out HX.out, by have := HQ.out; omega,
          (HR5.out.setNew _ _ (by have := HLE.out; have := HB.out.1; show N0 ≤ g; omega)).setNew _ _ (by have := HLE.out; have := HB.out.1; show N0 ≤ g; omega), grownBy_setCell_new (grownBy_setCell_new HG5.out _ _ HB.out.1) _ _ HB.out.1⟩
      · have ht0 : (tt == 0) = false := beq_eq_false_iff_ne.2 ht
        clear ht
        by_cases ht : tt = 1
        · subst ht
          clear t0 t1
          have c0 : W5.cell? ⟨g, k * 3, none⟩ = some (.string x.p) := by rw [HO5.out.cellAt _ (by have := HK.out; omega)]; exact (flatN_get out k x HX.out).1
          have c1 : W5.cell? ⟨g, k * 3 + 1, none⟩ = some (.int .i64 x.k) := by rw [HO5.out.cellAt _ (by have := HK.out; omega)]; exact (flatN_get out k x HX.out).2.1
          have c2 : W5.cell? ⟨g, k * 3 + 2, none⟩ = some (.int .i64 x.v) := by rw [HO5.out.cellAt _ (by have := HK.out; omega)]; exact (flatN_get out k x HX.out).2.2
          have hkl : (k : Int) < out.length := by have := HK.out; omega
          clear hl0
          go_wp2_with (at_builtin; refine wpList_append_own _ rfl _ _ 23 rfl W.heap.size 62 i0 (.agg #[.string ⟨#[]⟩, .int .i64 0, .int .i64 0]) 3 32 Try.underlying23 hi hz0 hz1 hz2 rfl (by decide) _ _ _ rfl (HO5.out.alloc _) ⟨W5.heap.size, 0, none⟩ 1 1 [.string x.p, .int .i64 x.k, .int .i64 x.v] rfl rfl (cell_three_new _ _ _ _ _) (fun x hx => by simp at hx; rcases hx with rfl | rfl | rfl <;> rfl) (by unfold maxLen; have := HLN.out; omega) (by have := HLN.out; omega) (by have := HG5.out.size; simp; omega) ?_; intro v' w6 ho6 hg6 hn6)
          go_ret
          have hown6 := own_push x ho6
          have hfar : W.heap.size ≤ g := HB.out.1
          have hg7 : W5.grownBy w6 (some g) := grownBy_trans (grownBy_new W5 _ _) hg6
          have hR6 : RdAt N0 w6 B (q + 1 + 1) := by
            have hle := HLE.out
            exact HR5.out.kept ⟨hg7.os, hg7.tape, hg7.output, hg7.size, fun b hb => hg7.block b (Nat.lt_of_lt_of_le hb HR5.out.le) (by simp; omega)⟩
          have hG6 : W.grownBy w6 (some B) := ⟨HG5.out.os ▸ hg7.os ▸ rfl, hg7.tape.trans HG5.out.tape, hg7.output.trans HG5.out.output, Nat.le_trans HG5.out.size hg7.size, fun b hb hne => (hg7.block b (Nat.lt_of_lt_of_le hb HG5.out.size) (by simp; omega)).trans (HG5.out.block b hb hne)⟩
          have hsh6 : Short 64 (out ++ [x]) := by
            intro y hy
            rcases List.mem_append.1 hy with h | h
            · exact HSH.out y h
            · rw [List.mem_singleton] at h
              subst h
              exact HSH.out _ (List.mem_of_getElem? HX.out)
          exact ⟨_, out ++ [x], q + 1 + 1, rfl, hown6, trivial, by simp; have := HLN.out; omega, hsh6, by have := HQ.out; omega, hR6, hG6⟩
        · have ht1 : (tt == 1) = false := beq_eq_false_iff_ne.2 ht
          clear ht
          by_cases ht : tt = 2
          · subst ht
            clear t0 t1
            have c1 : W5.cell? ⟨g, k * 3 + 1, none⟩ = some (.int .i64 x.k) := by rw [HO5.out.cellAt _ (by have := HK.out; omega)]; exact (flatN_get out k x HX.out).2.1
            have c2 : W5.cell? ⟨g, k * 3 + 2, none⟩ = some (.int .i64 x.v) := by rw [HO5.out.cellAt _ (by have := HK.out; omega)]; exact (flatN_get out k x HX.out).2.2
            have z1 := HO5.out.frozenAt (k * 3 + 1)
            have z2 := HO5.out.frozenAt (k * 3 + 2)
            have hkl : (k : Int) < out.length := by have := HK.out; omega
            clear hl0
            go_wp2
            go_ret
            exact ⟨_, out.set k ⟨x.p, 2, 0⟩, q + 1 + 1, rfl, own_set HO5.out HX.out 2 0, trivial, by rw [List.length_set]; have := HLN.out; omega, short_set HSH.out HX.out, by have := HQ.out; omega,
              (HR5.out.setNew _ _ (by have := HLE.out; have := HB.out.1; show N0 ≤ g; omega)).setNew _ _ (by have := HLE.out; have := HB.out.1; show N0 ≤ g; omega), grownBy_setCell_new (grownBy_setCell_new HG5.out _ _ HB.out.1) _ _ HB.out.1⟩
          · have ht2 : (tt == 2) = false := beq_eq_false_iff_ne.2 ht
            have HO6 := HO5
            clear ht t0 t1
            go_wp2
            go_ret
            exact ⟨_, out, q + 1 + 1, rfl, HO6.out, trivial, by have := HLN.out; omega, HSH.out, by have := HQ.out; omega, HR5.out, HG5.out⟩

end Go.Proofs.Ytncceljffcjoiaa

/-
  WALKS: spec.l91In: a path of a drawn tree, or any path.
-/
namespace Go.Proofs.Ytncceljffcjoiaa
open Go.RowKit
set_option linter.unusedVariables false

def twoLetters : List ByteArray := [⟨#[97]⟩, ⟨#[98]⟩]

set_option maxHeartbeats 2000000 in
set_option maxRecDepth 100000 in
theorem l91In_c (N0 B p base : Nat) (sl : Value) (ns : List Nd) (hlen : ns.length ≤ 1000) (hs : Short 64 ns) (hb : B < base) (W : World) (hown : W.ownsRow base 62 3 sl ns.length (flatN ns)) (hp : p < 20000) (hR : RdAt N0 W B p) :
    Calls Try.prog 20 #[.pointer (some ⟨B, 0, none⟩), sl] W (StrPost N0 B p 8 66 W) := by
  have HPath := Lib.hid (fun q W hq hR => l91Path_c N0 B q W hq hR)
  have HPK := Lib.hid (fun q n h0 h1 W hq hR => pick_c N0 B q n h0 h1 W hq hR)
  have HPP := Lib.hid hp
  have HS := Lib.hid hs
  have HB := Lib.hid hb
  have HLN := Lib.hid hlen
  clear hp hs hb hlen
  by_cases h0 : ns.length = 0
  · obtain ⟨a, cap, rfl, -⟩ := nodes_of_own hown
    have h0' : (ns.length : Int) = 0 := by omega
    clear h0 hown
    go_enter Try.func20, Try.ntmps20
    go_wp2_with fail
    refine (HPath.out p _ (by have := HPP.out; omega) hR).mono ?_; rintro e W1 ⟨s, q, rfl, hs, hq, hR1, hg1⟩
    have HX := Lib.hid (And.intro hs hq)
    clear hs hq hR
    go_wp2
    go_ret
    exact ⟨s, q, rfl, by have := HX.out.1; omega, by have := HX.out.2; omega, hR1, hg1⟩
  · obtain ⟨g, cap, rfl, hgb, hgw⟩ := own_slice hown (by omega)
    have hl1 : (0 : Int) < ns.length := by omega
    have HL0 := Lib.hid (show 0 < ns.length by omega)
    clear h0 hgb hgw
    go_enter Try.func20, Try.ntmps20
    go_wp2_with fail
    refine (HPK.out p 4 (by omega) (by omega) _ (by have := HPP.out; omega) hR).mono ?_; rintro e W1 ⟨r, rfl, r0, r1, hR1, hg1⟩
    have hown1 := own_reader hown HB.out hg1
    have HG1 := Lib.hid hg1
    clear hown hR hg1
    by_cases hr : 0 < r
    · have hr' : decide (0 < r) = true := decide_eq_true hr
      clear r0 r1
      go_wp2_with fail
      refine (HPK.out (p + 1) ns.length (by have := HL0.out; omega) (by have := HLN.out; omega) _ (by have := HPP.out; omega) hR1).mono ?_; rintro e W2 ⟨k', rfl, k0, k1, hR2, hg2⟩
      obtain ⟨k, rfl⟩ := Int.eq_ofNat_of_zero_le k0
      have HK := Lib.hid (show k < ns.length by omega)
      have HO2 := Lib.hid (own_reader hown1 HB.out hg2)
      have HG2 := Lib.hid (grownBy_trans HG1.out hg2)
      obtain ⟨x, hx⟩ : ∃ x, ns[k]? = some x := ⟨_, List.getElem?_eq_getElem HK.out⟩
      have hsz : x.p.size ≤ 64 := HS.out x (List.mem_of_getElem? hx)
      have c0 : W2.cell? ⟨g, k * 3, none⟩ = some (.string x.p) := by rw [HO2.out.cellAt _ (by have := HK.out; omega)]; exact (flatN_get ns k x hx).1
      have hkl : (k : Int) < ns.length := by have := HK.out; omega
      generalize x.p = s at hsz c0
      clear k0 k1 hown1 hR1 hg2 hx
      go_wp2_with fail
      refine (HPK.out (p + 1 + 1) 4 (by omega) (by omega) _ (by have := HPP.out; omega) hR2).mono ?_; rintro e W3 ⟨t, rfl, t0, t1, hR3, hg3⟩
      have HG3 := Lib.hid (grownBy_trans HG2.out hg3)
      have HSZ := Lib.hid hsz
      clear c0 hR2 hg3 hkl
      by_cases ht : t = 0
      · subst ht
        clear t0 t1
        have HO := Lib.hid (of_lit N0 B (p + 1 + 1 + 1) twoLetters 2 rfl (by omega) (by omega) W3 (by have := HPP.out; omega) hR3 _ rfl)
        simp only [twoLetters, List.map_cons, List.map_nil] at HO
        go_wp2_with fail
        refine HO.out.mono ?_; rintro e W4 ⟨y, hy, rfl, hR4, hg4⟩
        have hy1 : y.size ≤ 1 := by
          simp at hy
          rcases hy with rfl | rfl <;> decide
        clear hy hR3
        go_wp2
        go_ret
        exact ⟨_, p + 1 + 1 + 1 + 1, rfl, by rw [ByteArray.size_append, ByteArray.size_append]; show s.size + 1 + _ ≤ 66; omega, by omega, hR4, grownBy_trans HG3.out hg4⟩
      · have ht' : (t == 0) = false := beq_eq_false_iff_ne.2 ht
        clear t0 t1 ht
        go_wp2
        go_ret
        exact ⟨_, p + 1 + 1 + 1, rfl, by omega, by omega, hR3, HG3.out⟩
    · have hr' : decide (0 < r) = false := decide_eq_false hr
      clear r0 r1
      go_wp2_with fail
      refine (HPath.out (p + 1) _ (by have := HPP.out; omega) hR1).mono ?_; rintro e W2 ⟨s, q, rfl, hs, hq, hR2, hg2⟩
      have HX := Lib.hid (And.intro hs hq)
      clear hs hq hR1
      go_wp2
      go_ret
      exact ⟨s, q, rfl, by have := HX.out.1; omega, by have := HX.out.2; omega, hR2, grownBy_trans HG1.out hg2⟩

end Go.Proofs.Ytncceljffcjoiaa

/-
  WALKS: spec.DrawTreeValid, DrawTreeGet, DrawTreePut, DrawTreeUnder.
-/
namespace Go.Proofs.Ytncceljffcjoiaa
open Go.RowKit
set_option linter.unusedVariables false

/-- A drawn list of nodes, in memory of the call's own. -/
def Drawn (W W' : World) (sl : Value) (ns : List Nd) : Prop :=
  W'.ownsRow W.heap.size 62 3 sl ns.length (flatN ns) ∧ ns.length ≤ 11 ∧ Short 64 ns ∧ Below W.heap.size W W'

def ListPost (W : World) (e : Ending) (W' : World) : Prop := ∃ sl ns, e = .returned sl ∧ Drawn W W' sl ns
def ListPathPost (W : World) (e : Ending) (W' : World) : Prop := ∃ sl ns s, e = .returned (.tuple #[sl, .string s]) ∧ s.size ≤ 66 ∧ Drawn W W' sl ns
def ListPutPost (W : World) (e : Ending) (W' : World) : Prop := ∃ sl ns s, ∃ k v : Int, e = .returned (.tuple #[sl, .string s, con k v]) ∧ s.size ≤ 66 ∧ Drawn W W' sl ns

theorem triple_results (fn : Func) (hf : fn.results = #[.tmp 2, .tmp 3, .cell 4 31]) (W : World) (n : Nat) (k v : Int) (sl x : Value) (tmps : Array Value) (h2 : tmps[2]? = some sl) (h3 : tmps[3]? = some x) (ht : tmps[4]? = some (.pointer (some ⟨n, 0, none⟩)))
    (h : W.cell? ⟨n, 0, none⟩ = some (.int .i64 k) ∧ W.cell? ⟨n, 1, none⟩ = some (.int .i64 v)) : (results fn tmps).run Try.prog W = .ok (.tuple #[sl, x, con k v]) W := by
  obtain ⟨c0, c1⟩ := h
  simp [results, hf, go_sem, h2, h3, ht, c0, c1]

theorem own_setOther {W : World} {base : Nat} {e : TypeId} {size n : Nat} {v : Value} {xs : List Value} (h : W.ownsRow base e size v n xs) (a : Addr) (u : Value) (ha : a.block < base) : (W.setCell a u).ownsRow base e size v n xs := by
  refine h.kept (row := some a.block) ⟨rfl, rfl, rfl, by simp [World.setCell], fun k _ hk => Below.heap_setCell _ _ _ _ (fun e => hk (by rw [e]))⟩ ?_
  cases hv : v.ownBlock with
  | none => exact .inl rfl
  | some k =>
    right
    have := (h.lt k hv).1
    simp; omega

/-- END OF PUT -/
theorem drewN_heap (W : World) (n : Nat) : (W.drewN n).heap = W.heap := (drewN_cell W n ⟨0, 0, none⟩).2.2
theorem drawn_drewN {W W' : World} {sl : Value} {ns : List Nd} (h : Drawn W W' sl ns) (n : Nat) : Drawn W (W'.drewN n) sl ns := by
  obtain ⟨h1, h2, h3, h4⟩ := h
  have hb : Below W'.heap.size W' (W'.drewN n) := ⟨rfl, rfl, rfl, by rw [drewN_heap]; exact Nat.le_refl _, fun k _ => by rw [drewN_heap]⟩
  exact ⟨own_below h1 hb, h2, h3, below_next h4 hb⟩

end Go.Proofs.Ytncceljffcjoiaa

/-
  WALKS: spec.DrawRemoveAll, DrawCopyAll, DrawMoveAll.
-/
namespace Go.Proofs.Ytncceljffcjoiaa
open Go.RowKit
set_option linter.unusedVariables false

def ListTwoPost (W : World) (e : Ending) (W' : World) : Prop := ∃ sl ns s t, e = .returned (.tuple #[sl, .string s, .string t]) ∧ s.size ≤ 66 ∧ t.size ≤ 66 ∧ Drawn W W' sl ns

def sixPaths : List ByteArray := [⟨#[47, 97]⟩, ⟨#[47, 98]⟩, ⟨#[47, 99]⟩, ⟨#[47, 100]⟩, ⟨#[47, 100, 47, 97]⟩, ⟨#[47, 99, 47, 100]⟩]
theorem sixPaths_size {s : ByteArray} (h : s ∈ sixPaths) : s.size ≤ 66 := by
  rcases (by simpa [sixPaths] using h) with rfl | rfl | rfl | rfl | rfl | rfl <;> decide

set_option maxHeartbeats 1000000 in
theorem drawRemoveAll_c (a : Option Addr) (len cap : Nat) (zs : List Int) (W : World) (h : IsRow .u8 W a len cap zs) :
    Calls Try.prog 5 #[.slice a len cap] W (ListPathPost W) := by
  have HO := Lib.hid (l6Open_c a len cap zs W h)
  have HA := Lib.hid (fun W1 hR => l91Any_c (W.heap.size + 1) W.heap.size 0 W1 (by omega) hR)
  clear h
  go_enter Try.func5, Try.ntmps5
  go_wp2_with fail
  refine HO.out.mono ?_; rintro e W1 ⟨rfl, hR, hB⟩
  go_wp2_with fail
  refine (HA.out _ hR).mono ?_; rintro e W2 ⟨sl, ns, q, rfl, hown, -, hl, hs, hq, hR2, hg⟩
  have hlt := hR.lt
  have HI := Lib.hid (l91In_c (W.heap.size + 1) W.heap.size q W1.heap.size sl ns (by omega) hs hlt W2 hown (by omega) hR2)
  have HX := Lib.hid (And.intro hl (And.intro hs (And.intro hown (And.intro hB hg))))
  have HLT := Lib.hid hlt
  clear hown hl hs hg hR hB hq hR2 hlt
  go_wp2_with fail
  refine HI.out.mono ?_; rintro e W3 ⟨s, q', rfl, hss, -, -, hg3⟩
  have HY := Lib.hid (show s.size ≤ 66 ∧ Drawn W W3 sl ns from ⟨hss, own_mono (own_reader HX.out.2.2.1 HLT.out hg3) HX.out.2.2.2.1.size, HX.out.1, HX.out.2.1, below_of_reader HX.out.2.2.2.1 (grownBy_trans HX.out.2.2.2.2 hg3)⟩)
  clear hss hg3
  go_wp2
  go_ret2
  exact ⟨sl, ns, s, rfl, HY.out.1, HY.out.2⟩

/-- Between two rounds of the search for another path. -/
def SeekRel (N0 B base q0 : Nat) (W1 : World) (sl : Value) (ns : List Nd) (t i : Value) (wr : World) : Prop :=
  ∃ (j : Nat) (s : ByteArray) (q : Nat), i = .int .i64 j ∧ j ≤ 5 ∧ t = .string s ∧ Hid (s.size ≤ 66) ∧ Hid (q ≤ q0 + j) ∧ Hid (RdAt N0 wr B q) ∧ wr.ownsRow base 62 3 sl ns.length (flatN ns) ∧ Hid (W1.grownBy wr (some B))

end Go.Proofs.Ytncceljffcjoiaa
