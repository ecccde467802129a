/-
  Texts of this proof, one behind the other: Ro, Lp, Lt, La, Li, Ld, Mw.
-/
import Derived.Laws.Concat
import Derived.Test.YtncceljffcjoiaaGreatDoorRk
import Derived.Test.YtncceljffcjoiaaGreatDoorTt
/-
  WALKS: the reader's 'of' (a text out of a list). For any seat.
-/
namespace Go.Proofs.YtncceljffcjoiaaGreatDoor
open Go.RowKit
set_option linter.unusedVariables false

/-- One of the texts of a list, the reader one place on. -/
def OfPost (N0 B p : Nat) (xs : List ByteArray) (W : World) (e : Ending) (W' : World) : Prop :=
  ∃ x ∈ xs, e = .returned (.string x) ∧ RdAt N0 W' B (p + 1) ∧ W.grownBy W' (some B)

set_option maxHeartbeats 1000000 in
theorem of_c (N0 B p L c : Nat) (xs : List ByteArray) (hx : 1 ≤ xs.length) (hx2 : xs.length ≤ 1000) (hLB : L ≠ B) (W : World) (hp : p < 30000) (hR : RdAt N0 W B p)
    (hc : ∀ j x, xs[j]? = some x → W.cell? ⟨L, j, none⟩ = some (.string x)) :
    Calls Tryz.prog 31 #[.pointer (some ⟨B, 0, none⟩), .slice (some ⟨L, 0, none⟩) xs.length c] W (OfPost N0 B p xs W) := by
  have HP := Lib.hid (fun W hR => pick_c N0 B p xs.length (by omega) (by omega) W hp hR)
  have HC := Lib.hid hc
  clear hc
  go_enter Tryz.func31, Tryz.ntmps31
  go_wp2_with fail
  refine (HP.out W hR).mono ?_
  rintro e W1 ⟨r, rfl, h0, h1, hR1, hg⟩
  obtain ⟨k, rfl⟩ := Int.eq_ofNat_of_zero_le h0
  have hk : k < xs.length := by omega
  obtain ⟨x, hxk⟩ : ∃ x, xs[k]? = some x := ⟨xs[k], List.getElem?_eq_getElem hk⟩
  have hcell : W1.cell? ⟨L, k, none⟩ = some (.string x) := hg.cell (HC.out k x hxk) (by simpa using hLB)
  have HX := Lib.hid hxk
  clear hxk h0 h1 hR
  go_wp2
  go_ret
  exact ⟨x, List.mem_of_getElem? HX.out, rfl, hR1, hg⟩

/-- 'of' at a list that is written out on the spot. -/
theorem of_lit (N0 B p : Nat) (xs : List ByteArray) (n : Nat) (hn : xs.length = n) (hx : 1 ≤ n) (hx2 : n ≤ 1000) (W : World) (hp : p < 30000) (hR : RdAt N0 W B p) (cs : Array Value) (hcs : cs = (xs.map Value.string).toArray) :
    Calls Tryz.prog 31 #[.pointer (some ⟨B, 0, none⟩), .slice (some ⟨W.heap.size, 0, none⟩) n n] (W.alloc (.cells cs 9)) (OfPost N0 B p xs W) := by
  have hg : W.grownBy (W.alloc (.cells cs 9)) none := World.grownBy_alloc W _ none
  subst hn
  refine (of_c N0 B p W.heap.size xs.length xs hx hx2 (by have := hR.lt; omega) _ hp (hR.keep (Below.refl W.heap.size W |>.alloc (Nat.le_refl _) _)) ?_).mono ?_
  · intro j x hj
    subst hcs
    rw [World.cell?_alloc_new]
    simp [hj]
  · rintro e W' ⟨x, hx, he, hR', hg'⟩
    exact ⟨x, hx, he, hR', grownBy_trans (grownBy_none hg _) hg'⟩

/-- A text of modest length; the reader some places on. -/
def StrPost (N0 B p d m : Nat) (W : World) (e : Ending) (W' : World) : Prop :=
  ∃ (s : ByteArray) (q : Nat), e = .returned (.string s) ∧ s.size ≤ m ∧ q ≤ p + d ∧ RdAt N0 W' B q ∧ W.grownBy W' (some B)

end Go.Proofs.YtncceljffcjoiaaGreatDoor

/-
  WALKS: paths that are drawn (spec.l91Path). For any seat.
-/
namespace Go.Proofs.YtncceljffcjoiaaGreatDoor
open Go.RowKit
set_option linter.unusedVariables false

def oddTexts : List ByteArray := [⟨#[]⟩, ⟨#[47]⟩, ⟨#[97]⟩, ⟨#[47, 101]⟩, ⟨#[47, 97, 47]⟩, ⟨#[47, 47, 97]⟩, ⟨#[47, 97, 47, 98, 47, 99, 47, 100, 47, 97]⟩, ⟨#[47, 97, 98]⟩]
def letterTexts : List ByteArray := [⟨#[97]⟩, ⟨#[98]⟩, ⟨#[97]⟩, ⟨#[98]⟩, ⟨#[99]⟩, ⟨#[100]⟩]

def PathRel (N0 B p : Nat) (n : Int) (W : World) (out i : Value) (wr : World) : Prop :=
  ∃ (k : Nat) (s : ByteArray), i = .int .i64 k ∧ k ≤ 4 ∧ (k : Int) ≤ 1 + n ∧ out = .string s ∧ s.size = 2 * k ∧ RdAt N0 wr B (p + 3 + k) ∧ W.grownBy wr (some B)

set_option maxHeartbeats 1000000 in
set_option maxRecDepth 100000 in
theorem l91Path_c (N0 B p : Nat) (W : World) (hp : p < 29000) (hR : RdAt N0 W B p) :
    Calls Tryz.prog 59 #[.pointer (some ⟨B, 0, none⟩)] W (StrPost N0 B p 7 64 W) := by
  have HP1 := Lib.hid (fun W hR => pick_c N0 B p 24 (by omega) (by omega) W (by omega) hR)
  go_enter Tryz.func59, Tryz.ntmps59
  go_wp2_with fail
  refine (HP1.out W hR).mono ?_
  rintro e W1 ⟨r, rfl, h0, h1, hR1, hg1⟩
  by_cases hr : r = 0
  · subst hr
    clear h0 h1 hR
    have HO := Lib.hid (of_lit N0 B (p + 1) oddTexts 8 rfl (by omega) (by omega) W1 (by omega) hR1 _ rfl)
    simp only [oddTexts, List.map_cons, List.map_nil] at HO
    go_wp2_with fail
    refine HO.out.mono ?_
    rintro e W2 ⟨x, hx, rfl, hR2, hg2⟩
    go_wp2
    go_ret
    refine ⟨x, p + 1 + 1, rfl, ?_, by omega, hR2, grownBy_trans hg1 hg2⟩
    simp at hx
    rcases hx with rfl | rfl | rfl | rfl | rfl | rfl | rfl | rfl <;> decide
  · have hr' : (r == 0) = false := by simpa using hr
    have HP2 := Lib.hid (fun W hR => pick_c N0 B (p + 1) 4 (by omega) (by omega) W (by omega) hR)
    have HP3 := Lib.hid (fun W hR => pick_c N0 B (p + 1 + 1) 2 (by omega) (by omega) W (by omega) hR)
    clear h0 h1 hR hr
    go_wp2_with fail
    refine (HP2.out W1 hR1).mono ?_
    rintro e W2 ⟨a, rfl, a0, a1, hR2, hg2⟩
    go_wp2_with fail
    refine (HP3.out W2 hR2).mono ?_
    rintro e W3 ⟨b, rfl, b0, b1, hR3, hg3⟩
    have hg : W.grownBy W3 (some B) := grownBy_trans hg1 (grownBy_trans hg2 hg3)
    have hn : IntKind.i64.wrap (a * b) = a * b := by
      have hb : b = 0 ∨ b = 1 := by omega
      rcases hb with rfl | rfl
      · simp [IntKind.wrap_i64]
      · rw [Int.mul_one]; exact IntWalk.i64_in _ (by omega)
    have hab : 0 ≤ a * b ∧ a * b ≤ 3 := by
      have hb : b = 0 ∨ b = 1 := by omega
      rcases hb with rfl | rfl <;> omega
    obtain ⟨hab0, hab3⟩ := hab
    clear hg1 hg2 hg3 hR1 hR2 a0 a1 b0 b1 hr'
    go_wp2
    go_loopw [4, 5] (fun out i wr => PathRel N0 B p (a * b) W out i wr) (fun _ i _ => (1 + a * b - intOf i).toNat)
    case atStart => exact ⟨0, ⟨#[]⟩, rfl, by omega, by omega, rfl, rfl, hR3, hg⟩
    case round =>
      obtain ⟨k, s, rfl, hk4, hkn, rfl, hs, hRk, hgk⟩ := hrel
      by_cases hlt : (k : Int) < 1 + a * b
      · have hk3 : k ≤ 3 := by omega
        have HO := Lib.hid (of_lit N0 B (p + 3 + k) letterTexts 6 rfl (by omega) (by omega) wr (by omega) hRk _ rfl)
        simp only [letterTexts, List.map_cons, List.map_nil] at HO
        have HS := Lib.hid hs
        have hs8 : s.size ≤ 8 := by omega
        clear hs
        go_wp2_with fail
        refine HO.out.mono ?_
        rintro e W5 ⟨x, hx, rfl, hR5, hg5⟩
        have hx1 : x.size = 1 := by
          simp at hx
          rcases hx with rfl | rfl | rfl | rfl | rfl | rfl <;> rfl
        have HX := Lib.hid hx1
        have hx8 : x.size ≤ 1 := by omega
        clear hx hx1
        go_wp2
        refine ⟨⟨k + 1, s ++ ⟨#[47]⟩ ++ x, by go_num, by omega, by omega, rfl, ?_, hR5, grownBy_trans hgk hg5⟩, ?_⟩
        · rw [ByteArray.size_append, ByteArray.size_append, HS.out, HX.out]
          show 2 * k + 1 + 1 = _
          omega
        · simp [intOf]; omega
      · have hk : (1 : Int) + a * b ≤ k := by omega
        have HS := Lib.hid hs
        clear hs hlt
        go_wp2
        go_ret
        refine ⟨s, p + 3 + k, rfl, by have := HS.out; omega, by omega, hRk, hgk⟩

end Go.Proofs.YtncceljffcjoiaaGreatDoor

/-
  WALKS: trees that are drawn (spec.l91Tree).
-/
namespace Go.Proofs.YtncceljffcjoiaaGreatDoor
open Go.RowKit
set_option linter.unusedVariables false

/-- A drawn list of nodes, of the call's own. -/
def TreeDraw (N0 B p m c d : Nat) (W : World) (ok : List Nd → Prop) (e : Ending) (W' : World) : Prop :=
  ∃ (sl : Value) (out : List Nd) (q : Nat), e = .returned sl ∧ W'.ownsRow W.heap.size 52 3 sl out.length (flatN out) ∧ ok out ∧ out.length ≤ c ∧ Short m out ∧ q ≤ p + d ∧ RdAt N0 W' B q ∧ W.grownBy W' (some B)

def TreeRel (N0 B p : Nat) (n : Int) (W : World) (o i : Value) (wr : World) : Prop :=
  ∃ (acc : List Nd) (j q : Nat), i = .int .i64 j ∧ (j : Int) ≤ n ∧ wr.ownsRow W.heap.size 52 3 o acc.length (flatN acc) ∧ Hid (validT acc = true) ∧ Hid (Short 64 acc) ∧ Hid (q ≤ p + 11 * j) ∧ RdAt N0 wr B q ∧ Hid (W.grownBy wr (some B))

set_option maxHeartbeats 2000000 in
set_option maxRecDepth 100000 in
theorem l91Tree_c (N0 B p : Nat) (n : Int) (hn0 : 0 ≤ n) (hn : n ≤ 60) (W : World) (hp : p < 20000) (hR : RdAt N0 W B p) :
    Calls Tryz.prog 27 #[.pointer (some ⟨B, 0, none⟩), .int .i64 n] W (TreeDraw N0 B p 64 10 660 W (fun out => validT out = true)) := by
  have HLT := Lib.hid hR.lt
  have HP := Lib.hid (fun q W hq hR => l91Path_c N0 B q W hq hR)
  have HC := Lib.hid (fun q W hq hR => l91Content_c N0 B q W hq hR)
  have HPP := Lib.hid hp
  have HN := Lib.hid hn
  go_enter Tryz.func27, Tryz.ntmps27
  go_wp2
  go_loopw [5, 6, 7, 8] (fun o i _ _ wr => TreeRel N0 B p n W o i wr) (fun _ i _ _ _ => (n - intOf i).toNat)
  case atStart => exact ⟨[], 0, p, rfl, hn0, World.ownsRow_lit (e := 52) (size := 3) W #[] 0 (Nat.le_refl _) (by simp [maxLen]) rfl, (by show validT [] = true; rfl), (by intro x hx; cases hx), (by show p ≤ _; omega), hR.alloc _, grownBy_new _ _ _⟩
  case round =>
    obtain ⟨acc, j, q, rfl, hj, hrow, HV, HS, HQ, hRq, HG⟩ := hrel
    by_cases hlt : (j : Int) < n
    · have HJ := Lib.hid hlt
      clear hj hR
      go_wp2_with fail
      refine (HP.out q _ (by have h5 := HQ.out; have h6 := HPP.out; have h7 := HN.out; omega) hRq).mono ?_; rintro e W2 ⟨s, q2, rfl, hs, hq2, hR2, hg2⟩
      have hrow2 := own_reader hrow HLT.out hg2
      have HS2 := Lib.hid (And.intro hs hq2)
      clear hs hq2 hrow hRq
      go_wp2_with fail
      refine (HC.out q2 _ (by have h5 := HQ.out; have h6 := HPP.out; have h7 := HN.out; have h8 := HS2.out.2; omega) hR2).mono ?_; rintro e W3 ⟨k, v, q3, rfl, -, -, -, -, hq3, hR3, hg3⟩
      have hrow3 := own_reader hrow2 HLT.out hg3
      have HQ3 := Lib.hid hq3
      have HG3 := Lib.hid (grownBy_trans HG.out (grownBy_trans hg2 hg3))
      obtain ⟨ao, co, rfl, hNo⟩ := nodes_of_own hrow3
      have hlen := ((validT_iff acc).1 HV.out).2.2
      have HTP := Lib.hid (specTreePut_c ao acc.length co acc s k v (by omega) (fun n hn => by have := HS.out n hn; omega) (by have := HS2.out.1; omega) W3 hNo)
      clear hq3 hrow2 hR2 hg2 hg3 hNo hlen
      go_wp2_with fail
      refine HTP.out.mono ?_; rintro e W4 ⟨sl, out, b, rfl, hb, hown, hb4⟩
      have HR4 := Lib.hid (hR3.keep hb4)
      have HG4 := Lib.hid (grownBy_below HG3.out hb4)
      cases b with
      | true =>
        have hr : treePut acc s k v = some out := by
          rcases hb with ⟨-, h⟩ | ⟨h, -⟩
          · exact h
          · cases h
        obtain ⟨-, -, -, h5, h6⟩ := treePut_some hr
        have HV4 : Hid (validT out = true) := h6
        have HS4 : Hid (Short 64 out) := by show Short 64 out; rw [h5]; exact short_put HS.out HS2.out.1
        have hown4 := own_mono hown HG3.out.size
        clear hb hr h5 h6 hown hb4 hrow3 hR3
        go_wp2
        go_roundw
        case rel => exact ⟨out, j + 1, q3, by go_num, by have := HJ.out; omega, hown4, HV4, HS4, (by show q3 ≤ _; have h5 := HQ.out; have h6 := HQ3.out; have h7 := HS2.out.2; omega), HR4.out, HG4⟩
        case measure => have := HJ.out; simp [intOf]; omega
      | false =>
        have hown4 := own_below hrow3 hb4
        clear hb hown hb4 hrow3 hR3
        go_wp2
        go_roundw
        case rel => exact ⟨acc, j + 1, q3, by go_num, by have := HJ.out; omega, hown4, HV, HS, (by show q3 ≤ _; have h5 := HQ.out; have h6 := HQ3.out; have h7 := HS2.out.2; omega), HR4.out, HG4⟩
        case measure => have := HJ.out; simp [intOf]; omega
    · have hge : n ≤ (j : Int) := by omega
      have HJ := Lib.hid hj
      clear hj hR
      go_wp2
      go_ret
      exact ⟨_, acc, q, rfl, hrow, HV.out, ((validT_iff acc).1 HV.out).2.2, HS.out, by have h5 := HQ.out; have h6 := HJ.out; have h7 := HN.out; omega, hRq, HG.out⟩

end Go.Proofs.YtncceljffcjoiaaGreatDoor

/-
  WALKS: trees that are drawn, seldom invalid ones (spec.l91Any).
-/
namespace Go.Proofs.YtncceljffcjoiaaGreatDoor
open Go.RowKit
set_option linter.unusedVariables false

theorem flatN_set : ∀ (ns : List Nd) (i : Nat) (n : Nd) (k v : Int), ns[i]? = some n → ((flatN ns).set (i * 3 + 1) (.int .i64 k)).set (i * 3 + 2) (.int .i64 v) = flatN (ns.set i ⟨n.p, k, v⟩)
  | [], i, n, k, v, h => by simp at h
  | m :: r, 0, n, k, v, h => by
    simp at h
    subst h
    rfl
  | m :: r, i + 1, n, k, v, h => by
    have ih := flatN_set r i n k v (by simpa using h)
    have e : ∀ (x : Nd) (t : List Nd), flatN (x :: t) = .string x.p :: .int .i64 x.k :: .int .i64 x.v :: flatN t := fun _ _ => rfl
    rw [List.set_cons_succ, e m r, e m (r.set i _), ← ih, show (i + 1) * 3 + 1 = (i * 3 + 1) + 3 by omega, show (i + 1) * 3 + 2 = (i * 3 + 2) + 3 by omega]
    rfl

theorem own_set {W : World} {base : Nat} {e : TypeId} {g cap : Nat} {ns : List Nd} {i : Nat} {n : Nd} (h : W.ownsRow base e 3 (.slice (some ⟨g, 0, none⟩) ns.length cap) ns.length (flatN ns)) (hn : ns[i]? = some n) (k v : Int) :
    ((W.setCell ⟨g, i * 3 + 1, none⟩ (.int .i64 k)).setCell ⟨g, i * 3 + 1 + 1, none⟩ (.int .i64 v)).ownsRow base e 3 (.slice (some ⟨g, 0, none⟩) ns.length cap) (ns.set i ⟨n.p, k, v⟩).length (flatN (ns.set i ⟨n.p, k, v⟩)) := by
  have := ((h.stored (i * 3 + 1) (.int .i64 k)).1.stored (i * 3 + 2) (.int .i64 v)).1
  rw [flatN_set ns i n k v hn] at this
  rw [List.length_set]
  exact this

theorem own_slice {W : World} {base : Nat} {e : TypeId} {v : Value} {ns : List Nd} (h : W.ownsRow base e 3 v ns.length (flatN ns)) (h0 : 0 < ns.length) : ∃ g cap, v = .slice (some ⟨g, 0, none⟩) ns.length cap ∧ base ≤ g ∧ g < W.heap.size := by
  rcases h.2 with ⟨_, h1⟩ | ⟨g, cap, cur, rfl, h1, h2, _⟩
  · omega
  · exact ⟨g, cap, rfl, h1, by rw [Array.getElem?_eq_some_iff] at h2; exact h2.1⟩

theorem short_set {m : Nat} {ns : List Nd} {i : Nat} {n : Nd} {k v : Int} (h : Short m ns) (hn : ns[i]? = some n) : Short m (ns.set i ⟨n.p, k, v⟩) := by
  intro x hx
  rcases List.mem_or_eq_of_mem_set hx with h1 | rfl
  · exact h x h1
  · exact h n (List.mem_of_getElem? hn)

end Go.Proofs.YtncceljffcjoiaaGreatDoor

/-
  WALKS: spec.l91In: a path of a drawn tree, or any path.
-/
namespace Go.Proofs.YtncceljffcjoiaaGreatDoor
open Go.RowKit
set_option linter.unusedVariables false

def twoLetters : List ByteArray := [⟨#[97]⟩, ⟨#[98]⟩]

set_option maxHeartbeats 2000000 in
set_option maxRecDepth 100000 in
theorem l91In_c (N0 B p base : Nat) (sl : Value) (ns : List Nd) (hlen : ns.length ≤ 1000) (hs : Short 64 ns) (hb : B < base) (W : World) (hown : W.ownsRow base 52 3 sl ns.length (flatN ns)) (hp : p < 20000) (hR : RdAt N0 W B p) :
    Calls Tryz.prog 29 #[.pointer (some ⟨B, 0, none⟩), sl] W (StrPost N0 B p 8 66 W) := by
  have HPath := Lib.hid (fun q W hq hR => l91Path_c N0 B q W hq hR)
  have HPK := Lib.hid (fun q n h0 h1 W hq hR => pick_c N0 B q n h0 h1 W hq hR)
  have HPP := Lib.hid hp
  have HS := Lib.hid hs
  have HB := Lib.hid hb
  have HLN := Lib.hid hlen
  clear hp hs hb hlen
  by_cases h0 : ns.length = 0
  · obtain ⟨a, cap, rfl, -⟩ := nodes_of_own hown
    have h0' : (ns.length : Int) = 0 := by omega
    clear h0 hown
    go_enter Tryz.func29, Tryz.ntmps29
    go_wp2_with fail
    refine (HPath.out p _ (by have := HPP.out; omega) hR).mono ?_; rintro e W1 ⟨s, q, rfl, hs, hq, hR1, hg1⟩
    have HX := Lib.hid (And.intro hs hq)
    clear hs hq hR
    go_wp2
    go_ret
    exact ⟨s, q, rfl, by have := HX.out.1; omega, by have := HX.out.2; omega, hR1, hg1⟩
  · obtain ⟨g, cap, rfl, hgb, hgw⟩ := own_slice hown (by omega)
    have hl1 : (0 : Int) < ns.length := by omega
    have HL0 := Lib.hid (show 0 < ns.length by omega)
    clear h0 hgb hgw
    go_enter Tryz.func29, Tryz.ntmps29
    go_wp2_with fail
    refine (HPK.out p 4 (by omega) (by omega) _ (by have := HPP.out; omega) hR).mono ?_; rintro e W1 ⟨r, rfl, r0, r1, hR1, hg1⟩
    have hown1 := own_reader hown HB.out hg1
    have HG1 := Lib.hid hg1
    clear hown hR hg1
    by_cases hr : 0 < r
    · have hr' : decide (0 < r) = true := decide_eq_true hr
      clear r0 r1
      go_wp2_with fail
      refine (HPK.out (p + 1) ns.length (by have := HL0.out; omega) (by have := HLN.out; omega) _ (by have := HPP.out; omega) hR1).mono ?_; rintro e W2 ⟨k', rfl, k0, k1, hR2, hg2⟩
      obtain ⟨k, rfl⟩ := Int.eq_ofNat_of_zero_le k0
      have HK := Lib.hid (show k < ns.length by omega)
      have HO2 := Lib.hid (own_reader hown1 HB.out hg2)
      have HG2 := Lib.hid (grownBy_trans HG1.out hg2)
      obtain ⟨x, hx⟩ : ∃ x, ns[k]? = some x := ⟨_, List.getElem?_eq_getElem HK.out⟩
      have hsz : x.p.size ≤ 64 := HS.out x (List.mem_of_getElem? hx)
      have c0 : W2.cell? ⟨g, k * 3, none⟩ = some (.string x.p) := by rw [HO2.out.cellAt _ (by have := HK.out; omega)]; exact (flatN_get ns k x hx).1
      have hkl : (k : Int) < ns.length := by have := HK.out; omega
      generalize x.p = s at hsz c0
      clear k0 k1 hown1 hR1 hg2 hx
      go_wp2_with fail
      refine (HPK.out (p + 1 + 1) 4 (by omega) (by omega) _ (by have := HPP.out; omega) hR2).mono ?_; rintro e W3 ⟨t, rfl, t0, t1, hR3, hg3⟩
      have HG3 := Lib.hid (grownBy_trans HG2.out hg3)
      have HSZ := Lib.hid hsz
      clear c0 hR2 hg3 hkl
      by_cases ht : t = 0
      · subst ht
        clear t0 t1
        have HO := Lib.hid (of_lit N0 B (p + 1 + 1 + 1) twoLetters 2 rfl (by omega) (by omega) W3 (by have := HPP.out; omega) hR3 _ rfl)
        simp only [twoLetters, List.map_cons, List.map_nil] at HO
        go_wp2_with fail
        refine HO.out.mono ?_; rintro e W4 ⟨y, hy, rfl, hR4, hg4⟩
        have hy1 : y.size ≤ 1 := by
          simp at hy
          rcases hy with rfl | rfl <;> decide
        clear hy hR3
        go_wp2
        go_ret
        exact ⟨_, p + 1 + 1 + 1 + 1, rfl, by rw [ByteArray.size_append, ByteArray.size_append]; show s.size + 1 + _ ≤ 66; omega, by omega, hR4, grownBy_trans HG3.out hg4⟩
      · have ht' : (t == 0) = false := beq_eq_false_iff_ne.2 ht
        clear t0 t1 ht
        go_wp2
        go_ret
        exact ⟨_, p + 1 + 1 + 1, rfl, by omega, by omega, hR3, HG3.out⟩
    · have hr' : decide (0 < r) = false := decide_eq_false hr
      clear r0 r1
      go_wp2_with fail
      refine (HPath.out (p + 1) _ (by have := HPP.out; omega) hR1).mono ?_; rintro e W2 ⟨s, q, rfl, hs, hq, hR2, hg2⟩
      have HX := Lib.hid (And.intro hs hq)
      clear hs hq hR1
      go_wp2
      go_ret
      exact ⟨s, q, rfl, by have := HX.out.1; omega, by have := HX.out.2; omega, hR2, grownBy_trans HG1.out hg2⟩

end Go.Proofs.YtncceljffcjoiaaGreatDoor

/-
  WALKS: spec.DrawTreeValid, DrawTreeGet, DrawTreePut, DrawTreeUnder.
-/
namespace Go.Proofs.YtncceljffcjoiaaGreatDoor
open Go.RowKit
set_option linter.unusedVariables false

/-- A drawn list of nodes, in memory of the call's own. -/
def Drawn (W W' : World) (sl : Value) (ns : List Nd) : Prop :=
  W'.ownsRow W.heap.size 52 3 sl ns.length (flatN ns) ∧ ns.length ≤ 11 ∧ Short 64 ns ∧ Below W.heap.size W W'

def ListPost (W : World) (e : Ending) (W' : World) : Prop := ∃ sl ns, e = .returned sl ∧ Drawn W W' sl ns
def ListPathPost (W : World) (e : Ending) (W' : World) : Prop := ∃ sl ns s, e = .returned (.tuple #[sl, .string s]) ∧ s.size ≤ 66 ∧ Drawn W W' sl ns
def ListPutPost (W : World) (e : Ending) (W' : World) : Prop := ∃ sl ns s, ∃ k v : Int, e = .returned (.tuple #[sl, .string s, con k v]) ∧ s.size ≤ 66 ∧ Drawn W W' sl ns

theorem triple_results (fn : Func) (hf : fn.results = #[.tmp 2, .tmp 3, .cell 4 35]) (W : World) (n : Nat) (k v : Int) (sl x : Value) (tmps : Array Value) (h2 : tmps[2]? = some sl) (h3 : tmps[3]? = some x) (ht : tmps[4]? = some (.pointer (some ⟨n, 0, none⟩)))
    (h : W.cell? ⟨n, 0, none⟩ = some (.int .i64 k) ∧ W.cell? ⟨n, 1, none⟩ = some (.int .i64 v)) : (results fn tmps).run Tryz.prog W = .ok (.tuple #[sl, x, con k v]) W := by
  obtain ⟨c0, c1⟩ := h
  simp [results, hf, go_sem, h2, h3, ht, c0, c1]

theorem own_setOther {W : World} {base : Nat} {e : TypeId} {size n : Nat} {v : Value} {xs : List Value} (h : W.ownsRow base e size v n xs) (a : Addr) (u : Value) (ha : a.block < base) : (W.setCell a u).ownsRow base e size v n xs := by
  refine h.kept (row := some a.block) ⟨rfl, rfl, rfl, by simp [World.setCell], fun k _ hk => Below.heap_setCell _ _ _ _ (fun e => hk (by rw [e]))⟩ ?_
  cases hv : v.ownBlock with
  | none => exact .inl rfl
  | some k =>
    right
    have := (h.lt k hv).1
    simp; omega

/-- END OF PUT -/
theorem drewN_heap (W : World) (n : Nat) : (W.drewN n).heap = W.heap := (drewN_cell W n ⟨0, 0, none⟩).2.2
theorem drawn_drewN {W W' : World} {sl : Value} {ns : List Nd} (h : Drawn W W' sl ns) (n : Nat) : Drawn W (W'.drewN n) sl ns := by
  obtain ⟨h1, h2, h3, h4⟩ := h
  have hb : Below W'.heap.size W' (W'.drewN n) := ⟨rfl, rfl, rfl, by rw [drewN_heap]; exact Nat.le_refl _, fun k _ => by rw [drewN_heap]⟩
  exact ⟨own_below h1 hb, h2, h3, below_next h4 hb⟩

end Go.Proofs.YtncceljffcjoiaaGreatDoor

/-
  WALKS: spec.DrawRemoveAll, DrawCopyAll, DrawMoveAll.
-/
namespace Go.Proofs.YtncceljffcjoiaaGreatDoor
open Go.RowKit
set_option linter.unusedVariables false

def ListTwoPost (W : World) (e : Ending) (W' : World) : Prop := ∃ sl ns s t, e = .returned (.tuple #[sl, .string s, .string t]) ∧ s.size ≤ 66 ∧ t.size ≤ 66 ∧ Drawn W W' sl ns

def sixPaths : List ByteArray := [⟨#[47, 97]⟩, ⟨#[47, 98]⟩, ⟨#[47, 99]⟩, ⟨#[47, 100]⟩, ⟨#[47, 100, 47, 97]⟩, ⟨#[47, 99, 47, 100]⟩]
theorem sixPaths_size {s : ByteArray} (h : s ∈ sixPaths) : s.size ≤ 66 := by
  rcases (by simpa [sixPaths] using h) with rfl | rfl | rfl | rfl | rfl | rfl <;> decide

/-- Between two rounds of the search for another path. -/
def SeekRel (N0 B base q0 : Nat) (W1 : World) (sl : Value) (ns : List Nd) (t i : Value) (wr : World) : Prop :=
  ∃ (j : Nat) (s : ByteArray) (q : Nat), i = .int .i64 j ∧ j ≤ 5 ∧ t = .string s ∧ Hid (s.size ≤ 66) ∧ Hid (q ≤ q0 + j) ∧ Hid (RdAt N0 wr B q) ∧ wr.ownsRow base 52 3 sl ns.length (flatN ns) ∧ Hid (W1.grownBy wr (some B))

set_option maxHeartbeats 4000000 in
set_option maxRecDepth 100000 in
theorem drawCopyAll_c (a : Option Addr) (len cap : Nat) (zs : List Int) (W : World) (h : IsRow .u8 W a len cap zs) :
    Calls Tryz.prog 8 #[.slice a len cap] W (ListTwoPost W) := by
  have HO := Lib.hid (l6Open_c a len cap zs W h)
  have HPK := Lib.hid (fun q n h0 h1 W1 hq hR => pick_c (W.heap.size + 1) W.heap.size q n h0 h1 W1 hq hR)
  have HT := Lib.hid (fun n h0 h1 W1 hR => l91Tree_c (W.heap.size + 1) W.heap.size 1 n h0 h1 W1 (by omega) hR)
  have HOF := Lib.hid (fun q W' (hq : q < 30000) hR => of_lit (W.heap.size + 1) W.heap.size q sixPaths 6 rfl (by decide) (by decide) W' hq hR #[.string ⟨#[47, 97]⟩, .string ⟨#[47, 98]⟩, .string ⟨#[47, 99]⟩, .string ⟨#[47, 100]⟩, .string ⟨#[47, 100, 47, 97]⟩, .string ⟨#[47, 99, 47, 100]⟩] rfl)
  clear h
  go_enter Tryz.func8, Tryz.ntmps8
  go_wp2_with fail
  refine HO.out.mono ?_; rintro e W1 ⟨rfl, hR, hB⟩
  have HLT := Lib.hid hR.lt
  have HB1 := Lib.hid hB
  clear hB
  go_wp2_with fail
  refine (HPK.out 0 7 (by omega) (by omega) _ (by omega) hR).mono ?_; rintro e W2 ⟨r, rfl, r0, r1, hR2, hg2⟩
  have HRR := Lib.hid (And.intro r0 r1)
  have hwr : IntKind.i64.wrap (2 + r) = 2 + r := IntWalk.i64_in _ (by omega)
  have HG2 := Lib.hid hg2
  clear hR hg2
  go_wp2_with fail
  refine (HT.out (2 + r) (by have := HRR.out; omega) (by have := HRR.out; omega) _ hR2).mono ?_; rintro e W3 ⟨sl, ns, q, rfl, hown, -, hl, hs, hq, hR3, hg3⟩
  have HG3 := Lib.hid (grownBy_trans HG2.out hg3)
  have HW2 := Lib.hid (show W.heap.size < W2.heap.size from Nat.lt_of_lt_of_le HLT.out HG2.out.size)
  have HLN := Lib.hid hl
  have HSH := Lib.hid hs
  have HQ := Lib.hid hq
  have HO3 := Lib.hid hown
  have HI1 := Lib.hid (l91In_c (W.heap.size + 1) W.heap.size q W2.heap.size sl ns (by omega) hs HW2.out W3 hown (by omega) hR3)
  clear hwr hown hl hs hq hR2 hR3 hg3 r0 r1
  go_wp2_with fail
  refine HI1.out.mono ?_; rintro e W4 ⟨s, q4, rfl, hss, hq4, hR4, hg4⟩
  have HSS := Lib.hid hss
  have HQ4 := Lib.hid hq4
  have HG4 := Lib.hid (grownBy_trans HG3.out hg4)
  have HO4 := Lib.hid (own_reader HO3.out HW2.out hg4)
  have HI2 := Lib.hid (l91In_c (W.heap.size + 1) W.heap.size q4 W2.heap.size sl ns (by have := HLN.out; omega) HSH.out HW2.out W4 HO4.out (by have := HQ.out; omega) hR4)
  clear hss hq4 hR4 hg4
  go_wp2_with fail
  refine HI2.out.mono ?_; rintro e W5 ⟨t, q5, rfl, htt, hq5, hR5, hg5⟩
  have HTT := Lib.hid htt
  have HQ5 := Lib.hid (show q5 ≤ 700 by have := HQ.out; have := HQ4.out; omega)
  have HG5 := Lib.hid (grownBy_trans HG4.out hg5)
  have HO5 := Lib.hid (own_reader HO4.out HW2.out hg5)
  have HR5 := Lib.hid hR5
  obtain ⟨al, cl, hsl, -⟩ := nodes_of_own HO5.out
  subst hsl
  clear htt hq5 hR5 hg5
  go_wp2_with fail
  go_loopw [8, 9] (fun t i wr => SeekRel (W.heap.size + 1) W.heap.size W2.heap.size q5 W1 (.slice al ns.length cl) ns t i wr) (fun _ i _ => 5 - (intOf i).toNat)
  case atStart => exact ⟨0, t, q5, rfl, by omega, rfl, HTT.out, by show q5 ≤ q5 + 0; omega, HR5.out, HO5.out, HG5.out⟩
  case round =>
    obtain ⟨j, tt, qq, rfl, hj, rfl, HTS, HQQ, HRQ, hown, HG⟩ := hrel
    have HO6 := Lib.hid hown
    obtain ⟨al', cl', hsl', hNo⟩ := nodes_of_own hown
    cases hsl'
    have HJ := Lib.hid hj
    obtain ⟨k, v, hkv⟩ : ∃ k v, getT ns tt = (k, v) := ⟨_, _, rfl⟩
    have HGT := Lib.hid (show Calls Tryz.prog 30 #[.slice al ns.length cl, .string tt] wr (ConRet k v wr) by have := l3Get_c al ns.length cl ns tt (by have := HLN.out; omega) wr hNo; rwa [hkv] at this)
    have fk := fun w => field_kind k v w
    clear hNo hkv hown
    by_cases h5 : j < 5
    · have h5' : (j : Int) < 5 := by omega
      clear h5
      go_wp2_with fail
      refine HGT.out.mono ?_; rintro e W6 ⟨rfl, hb6⟩
      have HO6 := Lib.hid (own_below HO6.out hb6)
      have HRQ := Lib.hid (HRQ.out.keep hb6)
      have HG := Lib.hid (grownBy_below HG.out hb6)
      clear hb6
      unfold con
      by_cases hk : k = 0
      · subst hk
        go_wp2_with fail
        refine (HPK.out qq 24 (by omega) (by omega) _ (by have := HQQ.out; have := HQ5.out; have := HJ.out; omega) HRQ.out).mono ?_; rintro e W7 ⟨x, rfl, x0, x1, hR7, hg7⟩
        have HO7 := Lib.hid (own_mono (own_reader HO6.out HW2.out hg7) (Nat.le_of_lt HW2.out))
        have HO8 := Lib.hid (own_reader HO6.out HW2.out hg7)
        have HB7 := Lib.hid (below_of_reader HB1.out (grownBy_trans HG.out hg7))
        clear hR7 hg7
        by_cases hx : x = 0
        · subst hx
          clear x0 x1
          by_cases hl0 : ns.length = 0
          · have hl0' : (ns.length : Int) = 0 := by omega
            clear hl0
            go_wp2
            go_ret3
            exact ⟨_, ns, s, tt, rfl, HSS.out, HTS.out, HO7.out, by have := HLN.out; omega, HSH.out, HB7.out⟩
          · have hl0 : 0 < ns.length := by omega
            have hl1 : (0 : Int) < ns.length := by omega
            obtain ⟨g, cap, hsl, hgb, hgw⟩ := own_slice HO8.out hl0
            cases hsl
            obtain ⟨n0, hn0⟩ : ∃ n0, ns[0]? = some n0 := ⟨_, List.getElem?_eq_getElem hl0⟩
            have HN0 := Lib.hid hn0
            have HGB := Lib.hid (show W.heap.size ≤ g by have := HW2.out; omega)
            have c1 : W7.cell? ⟨g, 1, none⟩ = some (.int .i64 n0.k) := by have h := (flatN_get ns 0 n0 hn0).2.1; rw [← HO7.out.cellAt _ (by omega)] at h; simpa using h
            have c2 : W7.cell? ⟨g, 2, none⟩ = some (.int .i64 n0.v) := by have h := (flatN_get ns 0 n0 hn0).2.2; rw [← HO7.out.cellAt _ (by omega)] at h; simpa using h
            have z1 := HO7.out.frozenAt 1
            have z2 := HO7.out.frozenAt 2
            clear hl0 hgb hgw hn0
            go_wp2
            go_ret3
            exact ⟨_, ns.set 0 ⟨n0.p, 0, 0⟩, s, tt, rfl, HSS.out, HTS.out, own_set (i := 0) HO7.out HN0.out 0 0, by rw [List.length_set]; have := HLN.out; omega, short_set HSH.out HN0.out, below_setCell (below_setCell HB7.out _ _ HGB.out) _ _ HGB.out⟩
        · have hx0 : (x == 0) = false := beq_eq_false_iff_ne.2 hx
          clear hx
          go_wp2
          go_ret3
          exact ⟨_, ns, s, tt, rfl, HSS.out, HTS.out, HO7.out, by have := HLN.out; omega, HSH.out, HB7.out⟩
      · have hk0 : (k == 0) = false := beq_eq_false_iff_ne.2 hk
        clear hk
        go_wp2_with fail
        refine (HOF.out qq _ (by have := HQQ.out; have := HQ5.out; have := HJ.out; omega) HRQ.out).mono ?_; rintro e W7 ⟨y, hy, rfl, hR7, hg7⟩
        have HO7 := own_reader HO6.out HW2.out hg7
        have HG7 := Lib.hid (grownBy_trans HG.out hg7)
        have HR7 := Lib.hid hR7
        have HY := Lib.hid (sixPaths_size hy)
        clear hy hR7 hg7
        go_wp2
        go_roundw
        case rel => exact ⟨j + 1, y, qq + 1, by go_num, by have := HJ.out; omega, rfl, HY, (by show qq + 1 ≤ _; have := HQQ.out; omega), HR7, HO7, HG7⟩
        case measure => simp [intOf]; omega
    · have h5' : (5 : Int) ≤ j := by omega
      clear h5
      go_wp2_with fail
      refine (HPK.out qq 24 (by omega) (by omega) _ (by have := HQQ.out; have := HQ5.out; have := HJ.out; omega) HRQ.out).mono ?_; rintro e W7 ⟨x, rfl, x0, x1, hR7, hg7⟩
      have HO7 := Lib.hid (own_mono (own_reader HO6.out HW2.out hg7) (Nat.le_of_lt HW2.out))
      have HO8 := Lib.hid (own_reader HO6.out HW2.out hg7)
      have HB7 := Lib.hid (below_of_reader HB1.out (grownBy_trans HG.out hg7))
      clear hR7 hg7
      by_cases hx : x = 0
      · subst hx
        clear x0 x1
        by_cases hl0 : ns.length = 0
        · have hl0' : (ns.length : Int) = 0 := by omega
          clear hl0
          go_wp2
          go_ret3
          exact ⟨_, ns, s, tt, rfl, HSS.out, HTS.out, HO7.out, by have := HLN.out; omega, HSH.out, HB7.out⟩
        · have hl0 : 0 < ns.length := by omega
          have hl1 : (0 : Int) < ns.length := by omega
          obtain ⟨g, cap, hsl, hgb, hgw⟩ := own_slice HO8.out hl0
          cases hsl
          obtain ⟨n0, hn0⟩ : ∃ n0, ns[0]? = some n0 := ⟨_, List.getElem?_eq_getElem hl0⟩
          have HN0 := Lib.hid hn0
          have HGB := Lib.hid (show W.heap.size ≤ g by have := HW2.out; omega)
          have c1 : W7.cell? ⟨g, 1, none⟩ = some (.int .i64 n0.k) := by have h := (flatN_get ns 0 n0 hn0).2.1; rw [← HO7.out.cellAt _ (by omega)] at h; simpa using h
          have c2 : W7.cell? ⟨g, 2, none⟩ = some (.int .i64 n0.v) := by have h := (flatN_get ns 0 n0 hn0).2.2; rw [← HO7.out.cellAt _ (by omega)] at h; simpa using h
          have z1 := HO7.out.frozenAt 1
          have z2 := HO7.out.frozenAt 2
          clear hl0 hgb hgw hn0
          go_wp2
          go_ret3
          exact ⟨_, ns.set 0 ⟨n0.p, 0, 0⟩, s, tt, rfl, HSS.out, HTS.out, own_set (i := 0) HO7.out HN0.out 0 0, by rw [List.length_set]; have := HLN.out; omega, short_set HSH.out HN0.out, below_setCell (below_setCell HB7.out _ _ HGB.out) _ _ HGB.out⟩
      · have hx0 : (x == 0) = false := beq_eq_false_iff_ne.2 hx
        clear hx
        go_wp2
        go_ret3
        exact ⟨_, ns, s, tt, rfl, HSS.out, HTS.out, HO7.out, by have := HLN.out; omega, HSH.out, HB7.out⟩

set_option maxHeartbeats 1000000 in
theorem drawMoveAll_c (a : Option Addr) (len cap : Nat) (zs : List Int) (W : World) (h : IsRow .u8 W a len cap zs) :
    Calls Tryz.prog 14 #[.slice a len cap] W (ListTwoPost W) := by
  have HD := Lib.hid (drawCopyAll_c a len cap zs W h)
  clear h
  go_enter Tryz.func14, Tryz.ntmps14
  go_wp2_with fail
  refine HD.out.mono ?_; rintro e W1 ⟨sl, ns, s, t, rfl, h1, h2, h3⟩
  have HX := Lib.hid (And.intro h1 (And.intro h2 h3))
  clear h1 h2 h3
  go_wp2
  go_ret3
  exact ⟨sl, ns, s, t, rfl, HX.out.1, HX.out.2.1, HX.out.2.2⟩

end Go.Proofs.YtncceljffcjoiaaGreatDoor
