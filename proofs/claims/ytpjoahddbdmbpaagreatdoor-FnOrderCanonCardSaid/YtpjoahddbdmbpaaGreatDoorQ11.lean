/-
  Texts of this proof, one behind the other: Ro, Lp, Lt, La, Li, Ld, Cg, Lb, Lf, Lk, Op, Ng, Nh, Nj, Hm, Os.
-/
import Derived.Laws.Concat
import Derived.Deep.RegionHeld3
import Derived.Deep.Cut
import Derived.Laws.Cover1
import Derived.StillTailTactics
import Derived.WalkSmall
import Derived.RegionTactic
import Derived.Test.YtpjoahddbdmbpaaGreatDoorRk
import Derived.Test.YtpjoahddbdmbpaaGreatDoorTt
import Derived.Test.YtpjoahddbdmbpaaGreatDoorQ6
import Derived.Test.YtpjoahddbdmbpaaGreatDoorCk
import Derived.Test.YtpjoahddbdmbpaaGreatDoorQ3
import Derived.Test.YtpjoahddbdmbpaaGreatDoorLg
import Derived.Test.YtpjoahddbdmbpaaGreatDoorQ1
import Derived.Test.YtpjoahddbdmbpaaGreatDoorQ2
import Derived.Test.YtpjoahddbdmbpaaGreatDoorQ10
import Derived.Test.YtpjoahddbdmbpaaGreatDoorPv
import Derived.Test.YtpjoahddbdmbpaaGreatDoorQ4
import Derived.Test.YtpjoahddbdmbpaaGreatDoorQe
import Derived.Test.YtpjoahddbdmbpaaGreatDoorQ7
import Derived.Test.YtpjoahddbdmbpaaGreatDoorQ9
/-
  WALKS: the reader's 'of' (a text out of a list). For any seat.
-/
namespace Go.Proofs.YtpjoahddbdmbpaaGreatDoor
open Go.RowKit
set_option linter.unusedVariables false

/-- One of the texts of a list, the reader one place on. -/
def OfPost (N0 B p : Nat) (xs : List ByteArray) (W : World) (e : Ending) (W' : World) : Prop :=
  ∃ x ∈ xs, e = .returned (.string x) ∧ RdAt N0 W' B (p + 1) ∧ W.grownBy W' (some B)

set_option maxHeartbeats 1000000 in
theorem of_c (N0 B p L c : Nat) (xs : List ByteArray) (hx : 1 ≤ xs.length) (hx2 : xs.length ≤ 1000) (hLB : L ≠ B) (W : World) (hp : p < 30000) (hR : RdAt N0 W B p)
    (hc : ∀ j x, xs[j]? = some x → W.cell? ⟨L, j, none⟩ = some (.string x)) :
    Calls Tryz.prog 64 #[.pointer (some ⟨B, 0, none⟩), .slice (some ⟨L, 0, none⟩) xs.length c] W (OfPost N0 B p xs W) := by
  have HP := Lib.hid (fun W hR => pick_c N0 B p xs.length (by omega) (by omega) W hp hR)
  have HC := Lib.hid hc
  clear hc
  go_enter Tryz.func64, Tryz.ntmps64
  go_wp2_with fail
  refine (HP.out W hR).mono ?_
  rintro e W1 ⟨r, rfl, h0, h1, hR1, hg⟩
  obtain ⟨k, rfl⟩ := Int.eq_ofNat_of_zero_le h0
  have hk : k < xs.length := by omega
  obtain ⟨x, hxk⟩ : ∃ x, xs[k]? = some x := ⟨xs[k], List.getElem?_eq_getElem hk⟩
  have hcell : W1.cell? ⟨L, k, none⟩ = some (.string x) := hg.cell (HC.out k x hxk) (by simpa using hLB)
  have HX := Lib.hid hxk
  clear hxk h0 h1 hR
  go_wp2
  go_ret
  exact ⟨x, List.mem_of_getElem? HX.out, rfl, hR1, hg⟩

/-- 'of' at a list that is written out on the spot. -/
theorem of_lit (N0 B p : Nat) (xs : List ByteArray) (n : Nat) (hn : xs.length = n) (hx : 1 ≤ n) (hx2 : n ≤ 1000) (W : World) (hp : p < 30000) (hR : RdAt N0 W B p) (cs : Array Value) (hcs : cs = (xs.map Value.string).toArray) :
    Calls Tryz.prog 64 #[.pointer (some ⟨B, 0, none⟩), .slice (some ⟨W.heap.size, 0, none⟩) n n] (W.alloc (.cells cs 9)) (OfPost N0 B p xs W) := by
  have hg : W.grownBy (W.alloc (.cells cs 9)) none := World.grownBy_alloc W _ none
  subst hn
  refine (of_c N0 B p W.heap.size xs.length xs hx hx2 (by have := hR.lt; omega) _ hp (hR.keep (Below.refl W.heap.size W |>.alloc (Nat.le_refl _) _)) ?_).mono ?_
  · intro j x hj
    subst hcs
    rw [World.cell?_alloc_new]
    simp [hj]
  · rintro e W' ⟨x, hx, he, hR', hg'⟩
    exact ⟨x, hx, he, hR', grownBy_trans (grownBy_none hg _) hg'⟩

/-- A text of modest length; the reader some places on. -/
def StrPost (N0 B p d m : Nat) (W : World) (e : Ending) (W' : World) : Prop :=
  ∃ (s : ByteArray) (q : Nat), e = .returned (.string s) ∧ s.size ≤ m ∧ q ≤ p + d ∧ RdAt N0 W' B q ∧ W.grownBy W' (some B)

end Go.Proofs.YtpjoahddbdmbpaaGreatDoor

/-
  WALKS: paths that are drawn (spec.l91Path). For any seat.
-/
namespace Go.Proofs.YtpjoahddbdmbpaaGreatDoor
open Go.RowKit
set_option linter.unusedVariables false

def oddTexts : List ByteArray := [⟨#[]⟩, ⟨#[47]⟩, ⟨#[97]⟩, ⟨#[47, 101]⟩, ⟨#[47, 97, 47]⟩, ⟨#[47, 47, 97]⟩, ⟨#[47, 97, 47, 98, 47, 99, 47, 100, 47, 97]⟩, ⟨#[47, 97, 98]⟩]
def letterTexts : List ByteArray := [⟨#[97]⟩, ⟨#[98]⟩, ⟨#[97]⟩, ⟨#[98]⟩, ⟨#[99]⟩, ⟨#[100]⟩]

def PathRel (N0 B p : Nat) (n : Int) (W : World) (out i : Value) (wr : World) : Prop :=
  ∃ (k : Nat) (s : ByteArray), i = .int .i64 k ∧ k ≤ 4 ∧ (k : Int) ≤ 1 + n ∧ out = .string s ∧ s.size = 2 * k ∧ RdAt N0 wr B (p + 3 + k) ∧ W.grownBy wr (some B)

set_option maxHeartbeats 1000000 in
set_option maxRecDepth 100000 in
theorem l91Path_c (N0 B p : Nat) (W : World) (hp : p < 29000) (hR : RdAt N0 W B p) :
    Calls Tryz.prog 73 #[.pointer (some ⟨B, 0, none⟩)] W (StrPost N0 B p 7 64 W) := by
  have HP1 := Lib.hid (fun W hR => pick_c N0 B p 24 (by omega) (by omega) W (by omega) hR)
  go_enter Tryz.func73, Tryz.ntmps73
  go_wp2_with fail
  refine (HP1.out W hR).mono ?_
  rintro e W1 ⟨r, rfl, h0, h1, hR1, hg1⟩
  by_cases hr : r = 0
  · subst hr
    clear h0 h1 hR
    have HO := Lib.hid (of_lit N0 B (p + 1) oddTexts 8 rfl (by omega) (by omega) W1 (by omega) hR1 _ rfl)
    simp only [oddTexts, List.map_cons, List.map_nil] at HO
    go_wp2_with fail
    refine HO.out.mono ?_
    rintro e W2 ⟨x, hx, rfl, hR2, hg2⟩
    go_wp2
    go_ret
    refine ⟨x, p + 1 + 1, rfl, ?_, by omega, hR2, grownBy_trans hg1 hg2⟩
    simp at hx
    rcases hx with rfl | rfl | rfl | rfl | rfl | rfl | rfl | rfl <;> decide
  · have hr' : (r == 0) = false := by simpa using hr
    have HP2 := Lib.hid (fun W hR => pick_c N0 B (p + 1) 4 (by omega) (by omega) W (by omega) hR)
    have HP3 := Lib.hid (fun W hR => pick_c N0 B (p + 1 + 1) 2 (by omega) (by omega) W (by omega) hR)
    clear h0 h1 hR hr
    go_wp2_with fail
    refine (HP2.out W1 hR1).mono ?_
    rintro e W2 ⟨a, rfl, a0, a1, hR2, hg2⟩
    go_wp2_with fail
    refine (HP3.out W2 hR2).mono ?_
    rintro e W3 ⟨b, rfl, b0, b1, hR3, hg3⟩
    have hg : W.grownBy W3 (some B) := grownBy_trans hg1 (grownBy_trans hg2 hg3)
    have hn : IntKind.i64.wrap (a * b) = a * b := by
      have hb : b = 0 ∨ b = 1 := by omega
      rcases hb with rfl | rfl
      · simp [IntKind.wrap_i64]
      · rw [Int.mul_one]; exact IntWalk.i64_in _ (by omega)
    have hab : 0 ≤ a * b ∧ a * b ≤ 3 := by
      have hb : b = 0 ∨ b = 1 := by omega
      rcases hb with rfl | rfl <;> omega
    obtain ⟨hab0, hab3⟩ := hab
    clear hg1 hg2 hg3 hR1 hR2 a0 a1 b0 b1 hr'
    go_wp2
    go_loopw [4, 5] (fun out i wr => PathRel N0 B p (a * b) W out i wr) (fun _ i _ => (1 + a * b - intOf i).toNat)
    case atStart => exact ⟨0, ⟨#[]⟩, rfl, by omega, by omega, rfl, rfl, hR3, hg⟩
    case round =>
      obtain ⟨k, s, rfl, hk4, hkn, rfl, hs, hRk, hgk⟩ := hrel
      by_cases hlt : (k : Int) < 1 + a * b
      · have hk3 : k ≤ 3 := by omega
        have HO := Lib.hid (of_lit N0 B (p + 3 + k) letterTexts 6 rfl (by omega) (by omega) wr (by omega) hRk _ rfl)
        simp only [letterTexts, List.map_cons, List.map_nil] at HO
        have HS := Lib.hid hs
        have hs8 : s.size ≤ 8 := by omega
        clear hs
        go_wp2_with fail
        refine HO.out.mono ?_
        rintro e W5 ⟨x, hx, rfl, hR5, hg5⟩
        have hx1 : x.size = 1 := by
          simp at hx
          rcases hx with rfl | rfl | rfl | rfl | rfl | rfl <;> rfl
        have HX := Lib.hid hx1
        have hx8 : x.size ≤ 1 := by omega
        clear hx hx1
        go_wp2
        refine ⟨⟨k + 1, s ++ ⟨#[47]⟩ ++ x, by go_num, by omega, by omega, rfl, ?_, hR5, grownBy_trans hgk hg5⟩, ?_⟩
        · rw [ByteArray.size_append, ByteArray.size_append, HS.out, HX.out]
          show 2 * k + 1 + 1 = _
          omega
        · simp [intOf]; omega
      · have hk : (1 : Int) + a * b ≤ k := by omega
        have HS := Lib.hid hs
        clear hs hlt
        go_wp2
        go_ret
        refine ⟨s, p + 3 + k, rfl, by have := HS.out; omega, by omega, hRk, hgk⟩

end Go.Proofs.YtpjoahddbdmbpaaGreatDoor

/-
  WALKS: trees that are drawn (spec.l91Tree).
-/
namespace Go.Proofs.YtpjoahddbdmbpaaGreatDoor
open Go.RowKit
set_option linter.unusedVariables false

/-- A drawn list of nodes, of the call's own. -/
def TreeDraw (N0 B p m c d : Nat) (W : World) (ok : List Nd → Prop) (e : Ending) (W' : World) : Prop :=
  ∃ (sl : Value) (out : List Nd) (q : Nat), e = .returned sl ∧ W'.ownsRow W.heap.size 75 3 sl out.length (flatN out) ∧ ok out ∧ out.length ≤ c ∧ Short m out ∧ q ≤ p + d ∧ RdAt N0 W' B q ∧ W.grownBy W' (some B)

def TreeRel (N0 B p : Nat) (n : Int) (W : World) (o i : Value) (wr : World) : Prop :=
  ∃ (acc : List Nd) (j q : Nat), i = .int .i64 j ∧ (j : Int) ≤ n ∧ wr.ownsRow W.heap.size 75 3 o acc.length (flatN acc) ∧ Hid (validT acc = true) ∧ Hid (Short 64 acc) ∧ Hid (q ≤ p + 11 * j) ∧ RdAt N0 wr B q ∧ Hid (W.grownBy wr (some B))

set_option maxHeartbeats 2000000 in
set_option maxRecDepth 100000 in
theorem l91Tree_c (N0 B p : Nat) (n : Int) (hn0 : 0 ≤ n) (hn : n ≤ 60) (W : World) (hp : p < 20000) (hR : RdAt N0 W B p) :
    Calls Tryz.prog 48 #[.pointer (some ⟨B, 0, none⟩), .int .i64 n] W (TreeDraw N0 B p 64 10 660 W (fun out => validT out = true)) := by
  have HLT := Lib.hid hR.lt
  have HP := Lib.hid (fun q W hq hR => l91Path_c N0 B q W hq hR)
  have HC := Lib.hid (fun q W hq hR => l91Content_c N0 B q W hq hR)
  have HPP := Lib.hid hp
  have HN := Lib.hid hn
  go_enter Tryz.func48, Tryz.ntmps48
  go_wp2
  go_loopw [5, 6, 7, 8] (fun o i _ _ wr => TreeRel N0 B p n W o i wr) (fun _ i _ _ _ => (n - intOf i).toNat)
  case atStart => exact ⟨[], 0, p, rfl, hn0, World.ownsRow_lit (e := 75) (size := 3) W #[] 0 (Nat.le_refl _) (by simp [maxLen]) rfl, (by show validT [] = true; rfl), (by intro x hx; cases hx), (by show p ≤ _; omega), hR.alloc _, grownBy_new _ _ _⟩
  case round =>
    obtain ⟨acc, j, q, rfl, hj, hrow, HV, HS, HQ, hRq, HG⟩ := hrel
    by_cases hlt : (j : Int) < n
    · have HJ := Lib.hid hlt
      clear hj hR
      go_wp2_with fail
      refine (HP.out q _ (by have h5 := HQ.out; have h6 := HPP.out; have h7 := HN.out; omega) hRq).mono ?_; rintro e W2 ⟨s, q2, rfl, hs, hq2, hR2, hg2⟩
      have hrow2 := own_reader hrow HLT.out hg2
      have HS2 := Lib.hid (And.intro hs hq2)
      clear hs hq2 hrow hRq
      go_wp2_with fail
      refine (HC.out q2 _ (by have h5 := HQ.out; have h6 := HPP.out; have h7 := HN.out; have h8 := HS2.out.2; omega) hR2).mono ?_; rintro e W3 ⟨k, v, q3, rfl, -, -, -, -, hq3, hR3, hg3⟩
      have hrow3 := own_reader hrow2 HLT.out hg3
      have HQ3 := Lib.hid hq3
      have HG3 := Lib.hid (grownBy_trans HG.out (grownBy_trans hg2 hg3))
      obtain ⟨ao, co, rfl, hNo⟩ := nodes_of_own hrow3
      have hlen := ((validT_iff acc).1 HV.out).2.2
      have HTP := Lib.hid (specTreePut_c ao acc.length co acc s k v (by omega) (fun n hn => by have := HS.out n hn; omega) (by have := HS2.out.1; omega) W3 hNo)
      clear hq3 hrow2 hR2 hg2 hg3 hNo hlen
      go_wp2_with fail
      refine HTP.out.mono ?_; rintro e W4 ⟨sl, out, b, rfl, hb, hown, hb4⟩
      have HR4 := Lib.hid (hR3.keep hb4)
      have HG4 := Lib.hid (grownBy_below HG3.out hb4)
      cases b with
      | true =>
        have hr : treePut acc s k v = some out := by
          rcases hb with ⟨-, h⟩ | ⟨h, -⟩
          · exact h
          · cases h
        obtain ⟨-, -, -, h5, h6⟩ := treePut_some hr
        have HV4 : Hid (validT out = true) := h6
        have HS4 : Hid (Short 64 out) := by show Short 64 out; rw [h5]; exact short_put HS.out HS2.out.1
        have hown4 := own_mono hown HG3.out.size
        clear hb hr h5 h6 hown hb4 hrow3 hR3
        go_wp2
        go_roundw
        case rel => exact ⟨out, j + 1, q3, by go_num, by have := HJ.out; omega, hown4, HV4, HS4, (by show q3 ≤ _; have h5 := HQ.out; have h6 := HQ3.out; have h7 := HS2.out.2; omega), HR4.out, HG4⟩
        case measure => have := HJ.out; simp [intOf]; omega
      | false =>
        have hown4 := own_below hrow3 hb4
        clear hb hown hb4 hrow3 hR3
        go_wp2
        go_roundw
        case rel => exact ⟨acc, j + 1, q3, by go_num, by have := HJ.out; omega, hown4, HV, HS, (by show q3 ≤ _; have h5 := HQ.out; have h6 := HQ3.out; have h7 := HS2.out.2; omega), HR4.out, HG4⟩
        case measure => have := HJ.out; simp [intOf]; omega
    · have hge : n ≤ (j : Int) := by omega
      have HJ := Lib.hid hj
      clear hj hR
      go_wp2
      go_ret
      exact ⟨_, acc, q, rfl, hrow, HV.out, ((validT_iff acc).1 HV.out).2.2, HS.out, by have h5 := HQ.out; have h6 := HJ.out; have h7 := HN.out; omega, hRq, HG.out⟩

end Go.Proofs.YtpjoahddbdmbpaaGreatDoor

/-
  WALKS: trees that are drawn, seldom invalid ones (spec.l91Any).
-/
namespace Go.Proofs.YtpjoahddbdmbpaaGreatDoor
open Go.RowKit
set_option linter.unusedVariables false

theorem flatN_set : ∀ (ns : List Nd) (i : Nat) (n : Nd) (k v : Int), ns[i]? = some n → ((flatN ns).set (i * 3 + 1) (.int .i64 k)).set (i * 3 + 2) (.int .i64 v) = flatN (ns.set i ⟨n.p, k, v⟩)
  | [], i, n, k, v, h => by simp at h
  | m :: r, 0, n, k, v, h => by
    simp at h
    subst h
    rfl
  | m :: r, i + 1, n, k, v, h => by
    have ih := flatN_set r i n k v (by simpa using h)
    have e : ∀ (x : Nd) (t : List Nd), flatN (x :: t) = .string x.p :: .int .i64 x.k :: .int .i64 x.v :: flatN t := fun _ _ => rfl
    rw [List.set_cons_succ, e m r, e m (r.set i _), ← ih, show (i + 1) * 3 + 1 = (i * 3 + 1) + 3 by omega, show (i + 1) * 3 + 2 = (i * 3 + 2) + 3 by omega]
    rfl

theorem own_set {W : World} {base : Nat} {e : TypeId} {g cap : Nat} {ns : List Nd} {i : Nat} {n : Nd} (h : W.ownsRow base e 3 (.slice (some ⟨g, 0, none⟩) ns.length cap) ns.length (flatN ns)) (hn : ns[i]? = some n) (k v : Int) :
    ((W.setCell ⟨g, i * 3 + 1, none⟩ (.int .i64 k)).setCell ⟨g, i * 3 + 1 + 1, none⟩ (.int .i64 v)).ownsRow base e 3 (.slice (some ⟨g, 0, none⟩) ns.length cap) (ns.set i ⟨n.p, k, v⟩).length (flatN (ns.set i ⟨n.p, k, v⟩)) := by
  have := ((h.stored (i * 3 + 1) (.int .i64 k)).1.stored (i * 3 + 2) (.int .i64 v)).1
  rw [flatN_set ns i n k v hn] at this
  rw [List.length_set]
  exact this

theorem own_slice {W : World} {base : Nat} {e : TypeId} {v : Value} {ns : List Nd} (h : W.ownsRow base e 3 v ns.length (flatN ns)) (h0 : 0 < ns.length) : ∃ g cap, v = .slice (some ⟨g, 0, none⟩) ns.length cap ∧ base ≤ g ∧ g < W.heap.size := by
  rcases h.2 with ⟨_, h1⟩ | ⟨g, cap, cur, rfl, h1, h2, _⟩
  · omega
  · exact ⟨g, cap, rfl, h1, by rw [Array.getElem?_eq_some_iff] at h2; exact h2.1⟩

theorem short_set {m : Nat} {ns : List Nd} {i : Nat} {n : Nd} {k v : Int} (h : Short m ns) (hn : ns[i]? = some n) : Short m (ns.set i ⟨n.p, k, v⟩) := by
  intro x hx
  rcases List.mem_or_eq_of_mem_set hx with h1 | rfl
  · exact h x h1
  · exact h n (List.mem_of_getElem? hn)

set_option maxHeartbeats 2000000 in
set_option maxRecDepth 100000 in
theorem l91Any_c (N0 B p : Nat) (W : World) (hp : p < 10000) (hR : RdAt N0 W B p) :
    Calls Tryz.prog 39 #[.pointer (some ⟨B, 0, none⟩)] W (TreeDraw N0 B p 64 11 670 W (fun _ => True)) := by
  obtain ⟨i0, hi, hz0, hz1, hz2⟩ := info_parts infoNode
  have HLT := Lib.hid hR.lt
  have HLE := Lib.hid hR.le
  have HP1 := Lib.hid (fun W hR => pick_c N0 B p 16 (by omega) (by omega) W (by omega) hR)
  have HP2 := Lib.hid (fun W hR => pick_c N0 B (p + 1) 8 (by omega) (by omega) W (by omega) hR)
  have HT := Lib.hid (fun n h0 h1 W hR => l91Tree_c N0 B (p + 1 + 1) n h0 h1 W (by omega) hR)
  have HPK := Lib.hid (fun q n h0 h1 W hq hR => pick_c N0 B q n h0 h1 W hq hR)
  have HPP := Lib.hid hp
  clear hp
  go_enter Tryz.func39, Tryz.ntmps39
  go_wp2_with fail
  refine (HP1.out _ hR).mono ?_; rintro e W1 ⟨n, rfl, n0, n1, hR1, hg1⟩
  have HN := Lib.hid (And.intro n0 n1)
  clear n0 n1 hR
  go_wp2_with fail
  refine (HP2.out _ hR1).mono ?_; rintro e W2 ⟨r, rfl, r0, r1, hR2, hg2⟩
  have HG2 := Lib.hid (grownBy_trans hg1 hg2)
  clear hg1 hg2 hR1
  by_cases hr : r = 0
  · subst hr
    clear r0 r1
    go_wp2_with fail
    refine (HT.out 60 (by omega) (by omega) _ hR2).mono ?_; rintro e W3 ⟨sl, out, q, rfl, hown0, -, hlen, hsh, hq, hR3, hg3⟩
    have hown := own_mono hown0 HG2.out.size
    have HG3 := Lib.hid (grownBy_trans HG2.out hg3)
    have HSH := Lib.hid hsh
    have HLN := Lib.hid hlen
    have HQ := Lib.hid hq
    clear hown0 hg3 hsh hlen hq hR2
    by_cases hl0 : out.length = 0
    · obtain ⟨a, cap, rfl, -⟩ := nodes_of_own hown
      have HO := Lib.hid hown
      have hl0' : (out.length : Int) = 0 := by omega
      clear hl0 hown
      go_wp2
      go_ret
      exact ⟨_, out, q, rfl, HO.out, trivial, by have := HLN.out; omega, HSH.out, by have := HQ.out; omega, hR3, HG3.out⟩
    · have hl0 : 0 < out.length := by omega
      have hl1 : (0 : Int) < out.length := by omega
      obtain ⟨g, cap, rfl, hgb, hgw⟩ := own_slice hown hl0
      have HB := Lib.hid (And.intro hgb hgb)
      clear hgb hgw
      go_wp2_with fail
      refine (HPK.out q out.length (by omega) (by have := HLN.out; omega) _ (by have := HQ.out; have := HPP.out; omega) hR3).mono ?_; rintro e W4 ⟨k', rfl, k0, k1, hR4, hg4⟩
      obtain ⟨k, rfl⟩ := Int.eq_ofNat_of_zero_le k0
      have HK := Lib.hid (show k < out.length by omega)
      have hown4 := own_reader hown HLT.out hg4
      clear k0 k1 hown hR3
      go_wp2_with fail
      refine (HPK.out (q + 1) 30 (by omega) (by omega) _ (by have := HQ.out; have := HPP.out; omega) hR4).mono ?_; rintro e W5 ⟨tt, rfl, t0, t1, hR5, hg5⟩
      have HO5 := Lib.hid (own_reader hown4 HLT.out hg5)
      have HG5 := Lib.hid (grownBy_trans HG3.out (grownBy_trans hg4 hg5))
      have HR5 := Lib.hid hR5
      obtain ⟨x, hx⟩ : ∃ x, out[k]? = some x := ⟨_, List.getElem?_eq_getElem HK.out⟩
      have HX := Lib.hid hx
      clear hx hg4 hg5 hR4 hR5 hown4
      by_cases ht : tt = 0
      · subst ht
        clear t0 t1
        have c1 : W5.cell? ⟨g, k * 3 + 1, none⟩ = some (.int .i64 x.k) := by rw [HO5.out.cellAt _ (by have := HK.out; omega)]; exact (flatN_get out k x HX.out).2.1
        have c2 : W5.cell? ⟨g, k * 3 + 2, none⟩ = some (.int .i64 x.v) := by rw [HO5.out.cellAt _ (by have := HK.out; omega)]; exact (flatN_get out k x HX.out).2.2
        have z1 := HO5.out.frozenAt (k * 3 + 1)
        have z2 := HO5.out.frozenAt (k * 3 + 2)
        have hkl : (k : Int) < out.length := by have := HK.out; omega
        clear hl0
        go_wp2
        go_ret
        exact ⟨_, out.set k ⟨x.p, 0, 0⟩, q + 1 + 1, rfl, own_set HO5.out HX.out 0 0, trivial, by rw [List.length_set]; have := HLN.out; omega, short_set HSH.out HX.out, by have := HQ.out; omega,
          (HR5.out.setNew _ _ (by have := HLE.out; have := HB.out.1; show N0 ≤ g; omega)).setNew _ _ (by have := HLE.out; have := HB.out.1; show N0 ≤ g; omega), grownBy_setCell_new (grownBy_setCell_new HG5.out _ _ HB.out.1) _ _ HB.out.1⟩
      · have ht0 : (tt == 0) = false := beq_eq_false_iff_ne.2 ht
        clear ht
        by_cases ht : tt = 1
        · subst ht
          clear t0 t1
          have c0 : W5.cell? ⟨g, k * 3, none⟩ = some (.string x.p) := by rw [HO5.out.cellAt _ (by have := HK.out; omega)]; exact (flatN_get out k x HX.out).1
          have c1 : W5.cell? ⟨g, k * 3 + 1, none⟩ = some (.int .i64 x.k) := by rw [HO5.out.cellAt _ (by have := HK.out; omega)]; exact (flatN_get out k x HX.out).2.1
          have c2 : W5.cell? ⟨g, k * 3 + 2, none⟩ = some (.int .i64 x.v) := by rw [HO5.out.cellAt _ (by have := HK.out; omega)]; exact (flatN_get out k x HX.out).2.2
          have hkl : (k : Int) < out.length := by have := HK.out; omega
          clear hl0
          go_wp2_with (at_builtin; refine wpList_append_own _ rfl _ _ 23 rfl W.heap.size 75 i0 (.agg #[.string ⟨#[]⟩, .int .i64 0, .int .i64 0]) 3 32 Tryz.underlying23 hi hz0 hz1 hz2 rfl (by decide) _ _ _ rfl (HO5.out.alloc _) ⟨W5.heap.size, 0, none⟩ 1 1 [.string x.p, .int .i64 x.k, .int .i64 x.v] rfl rfl (cell_three_new _ _ _ _ _) (fun x hx => by simp at hx; rcases hx with rfl | rfl | rfl <;> rfl) (by unfold maxLen; have := HLN.out; omega) (by have := HLN.out; omega) (by have := HG5.out.size; simp; omega) ?_; intro v' w6 ho6 hg6 hn6)
          go_ret
          have hown6 := own_push x ho6
          have hfar : W.heap.size ≤ g := HB.out.1
          have hg7 : W5.grownBy w6 (some g) := grownBy_trans (grownBy_new W5 _ _) hg6
          have hR6 : RdAt N0 w6 B (q + 1 + 1) := by
            have hle := HLE.out
            exact HR5.out.kept ⟨hg7.os, hg7.tape, hg7.output, hg7.size, fun b hb => hg7.block b (Nat.lt_of_lt_of_le hb HR5.out.le) (by simp; omega)⟩
          have hG6 : W.grownBy w6 (some B) := ⟨HG5.out.os ▸ hg7.os ▸ rfl, hg7.tape.trans HG5.out.tape, hg7.output.trans HG5.out.output, Nat.le_trans HG5.out.size hg7.size, fun b hb hne => (hg7.block b (Nat.lt_of_lt_of_le hb HG5.out.size) (by simp; omega)).trans (HG5.out.block b hb hne)⟩
          have hsh6 : Short 64 (out ++ [x]) := by
            intro y hy
            rcases List.mem_append.1 hy with h | h
            · exact HSH.out y h
            · rw [List.mem_singleton] at h
              subst h
              exact HSH.out _ (List.mem_of_getElem? HX.out)
          exact ⟨_, out ++ [x], q + 1 + 1, rfl, hown6, trivial, by simp; have := HLN.out; omega, hsh6, by have := HQ.out; omega, hR6, hG6⟩
        · have ht1 : (tt == 1) = false := beq_eq_false_iff_ne.2 ht
          clear ht
          by_cases ht : tt = 2
          · subst ht
            clear t0 t1
            have c1 : W5.cell? ⟨g, k * 3 + 1, none⟩ = some (.int .i64 x.k) := by rw [HO5.out.cellAt _ (by have := HK.out; omega)]; exact (flatN_get out k x HX.out).2.1
            have c2 : W5.cell? ⟨g, k * 3 + 2, none⟩ = some (.int .i64 x.v) := by rw [HO5.out.cellAt _ (by have := HK.out; omega)]; exact (flatN_get out k x HX.out).2.2
            have z1 := HO5.out.frozenAt (k * 3 + 1)
            have z2 := HO5.out.frozenAt (k * 3 + 2)
            have hkl : (k : Int) < out.length := by have := HK.out; omega
            clear hl0
            go_wp2
            go_ret
            exact ⟨_, out.set k ⟨x.p, 2, 0⟩, q + 1 + 1, rfl, own_set HO5.out HX.out 2 0, trivial, by rw [List.length_set]; have := HLN.out; omega, short_set HSH.out HX.out, by have := HQ.out; omega,
              (HR5.out.setNew _ _ (by have := HLE.out; have := HB.out.1; show N0 ≤ g; omega)).setNew _ _ (by have := HLE.out; have := HB.out.1; show N0 ≤ g; omega), grownBy_setCell_new (grownBy_setCell_new HG5.out _ _ HB.out.1) _ _ HB.out.1⟩
          · have ht2 : (tt == 2) = false := beq_eq_false_iff_ne.2 ht
            have HO6 := HO5
            clear ht t0 t1
            go_wp2
            go_ret
            exact ⟨_, out, q + 1 + 1, rfl, HO6.out, trivial, by have := HLN.out; omega, HSH.out, by have := HQ.out; omega, HR5.out, HG5.out⟩
  · have hr' : (r == 0) = false := beq_eq_false_iff_ne.2 hr
    clear r0 r1 hr
    go_wp2_with fail
    refine (HT.out n HN.out.1 (by have := HN.out.2; omega) _ hR2).mono ?_; rintro e W3 ⟨sl, out, q, rfl, hown0, -, hlen, hsh, hq, hR3, hg3⟩
    have hown := own_mono hown0 HG2.out.size
    have HG3 := Lib.hid (grownBy_trans HG2.out hg3)
    have HSH := Lib.hid hsh
    have HLN := Lib.hid hlen
    have HQ := Lib.hid hq
    clear hown0 hg3 hsh hlen hq hR2
    by_cases hl0 : out.length = 0
    · obtain ⟨a, cap, rfl, -⟩ := nodes_of_own hown
      have HO := Lib.hid hown
      have hl0' : (out.length : Int) = 0 := by omega
      clear hl0 hown
      go_wp2
      go_ret
      exact ⟨_, out, q, rfl, HO.out, trivial, by have := HLN.out; omega, HSH.out, by have := HQ.out; omega, hR3, HG3.out⟩
    · have hl0 : 0 < out.length := by omega
      have hl1 : (0 : Int) < out.length := by omega
      obtain ⟨g, cap, rfl, hgb, hgw⟩ := own_slice hown hl0
      have HB := Lib.hid (And.intro hgb hgb)
      clear hgb hgw
      go_wp2_with fail
      refine (HPK.out q out.length (by omega) (by have := HLN.out; omega) _ (by have := HQ.out; have := HPP.out; omega) hR3).mono ?_; rintro e W4 ⟨k', rfl, k0, k1, hR4, hg4⟩
      obtain ⟨k, rfl⟩ := Int.eq_ofNat_of_zero_le k0
      have HK := Lib.hid (show k < out.length by omega)
      have hown4 := own_reader hown HLT.out hg4
      clear k0 k1 hown hR3
      go_wp2_with fail
      refine (HPK.out (q + 1) 30 (by omega) (by omega) _ (by have := HQ.out; have := HPP.out; omega) hR4).mono ?_; rintro e W5 ⟨tt, rfl, t0, t1, hR5, hg5⟩
      have HO5 := Lib.hid (own_reader hown4 HLT.out hg5)
      have HG5 := Lib.hid (grownBy_trans HG3.out (grownBy_trans hg4 hg5))
      have HR5 := Lib.hid hR5
      obtain ⟨x, hx⟩ : ∃ x, out[k]? = some x := ⟨_, List.getElem?_eq_getElem HK.out⟩
      have HX := Lib.hid hx
      clear hx hg4 hg5 hR4 hR5 hown4
      by_cases ht : tt = 0
      · subst ht
        clear t0 t1
        have c1 : W5.cell? ⟨g, k * 3 + 1, none⟩ = some (.int .i64 x.k) := by rw [HO5.out.cellAt _ (by have := HK.out; omega)]; exact (flatN_get out k x HX.out).2.1
        have c2 : W5.cell? ⟨g, k * 3 + 2, none⟩ = some (.int .i64 x.v) := by rw [HO5.out.cellAt _ (by have := HK.out; omega)]; exact (flatN_get out k x HX.out).2.2
        have z1 := HO5.out.frozenAt (k * 3 + 1)
        have z2 := HO5.out.frozenAt (k * 3 + 2)
        have hkl : (k : Int) < out.length := by have := HK.out; omega
        clear hl0
        go_wp2
        go_ret
        exact ⟨_, out.set k ⟨x.p, 0, 0⟩, q + 1 + 1, rfl, own_set HO5.out HX.out 0 0, trivial, by rw [List.length_set]; have := HLN.out; omega, short_set HSH.out HX.out, by have := HQ.out; omega,
          (HR5.out.setNew _ _ (by have := HLE.out; have := HB.out.1; show N0 ≤ g; omega)).setNew _ _ (by have := HLE.out; have := HB.out.1; show N0 ≤ g; omega), grownBy_setCell_new (grownBy_setCell_new HG5.out _ _ HB.out.1) _ _ HB.out.1⟩
      · have ht0 : (tt == 0) = false := beq_eq_false_iff_ne.2 ht
        clear ht
        by_cases ht : tt = 1
        · subst ht
          clear t0 t1
          have c0 : W5.cell? ⟨g, k * 3, none⟩ = some (.string x.p) := by rw [HO5.out.cellAt _ (by have := HK.out; omega)]; exact (flatN_get out k x HX.out).1
          have c1 : W5.cell? ⟨g, k * 3 + 1, none⟩ = some (.int .i64 x.k) := by rw [HO5.out.cellAt _ (by have := HK.out; omega)]; exact (flatN_get out k x HX.out).2.1
          have c2 : W5.cell? ⟨g, k * 3 + 2, none⟩ = some (.int .i64 x.v) := by rw [HO5.out.cellAt _ (by have := HK.out; omega)]; exact (flatN_get out k x HX.out).2.2
          have hkl : (k : Int) < out.length := by have := HK.out; omega
          clear hl0
          go_wp2_with (at_builtin; refine wpList_append_own _ rfl _ _ 23 rfl W.heap.size 75 i0 (.agg #[.string ⟨#[]⟩, .int .i64 0, .int .i64 0]) 3 32 Tryz.underlying23 hi hz0 hz1 hz2 rfl (by decide) _ _ _ rfl (HO5.out.alloc _) ⟨W5.heap.size, 0, none⟩ 1 1 [.string x.p, .int .i64 x.k, .int .i64 x.v] rfl rfl (cell_three_new _ _ _ _ _) (fun x hx => by simp at hx; rcases hx with rfl | rfl | rfl <;> rfl) (by unfold maxLen; have := HLN.out; omega) (by have := HLN.out; omega) (by have := HG5.out.size; simp; omega) ?_; intro v' w6 ho6 hg6 hn6)
          go_ret
          have hown6 := own_push x ho6
          have hfar : W.heap.size ≤ g := HB.out.1
          have hg7 : W5.grownBy w6 (some g) := grownBy_trans (grownBy_new W5 _ _) hg6
          have hR6 : RdAt N0 w6 B (q + 1 + 1) := by
            have hle := HLE.out
            exact HR5.out.kept ⟨hg7.os, hg7.tape, hg7.output, hg7.size, fun b hb => hg7.block b (Nat.lt_of_lt_of_le hb HR5.out.le) (by simp; omega)⟩
          have hG6 : W.grownBy w6 (some B) := ⟨HG5.out.os ▸ hg7.os ▸ rfl, hg7.tape.trans HG5.out.tape, hg7.output.trans HG5.out.output, Nat.le_trans HG5.out.size hg7.size, fun b hb hne => (hg7.block b (Nat.lt_of_lt_of_le hb HG5.out.size) (by simp; omega)).trans (HG5.out.block b hb hne)⟩
          have hsh6 : Short 64 (out ++ [x]) := by
            intro y hy
            rcases List.mem_append.1 hy with h | h
            · exact HSH.out y h
            · rw [List.mem_singleton] at h
              subst h
              exact HSH.out _ (List.mem_of_getElem? HX.out)
          exact ⟨_, out ++ [x], q + 1 + 1, rfl, hown6, trivial, by simp; have := HLN.out; omega, hsh6, by have := HQ.out; omega, hR6, hG6⟩
        · have ht1 : (tt == 1) = false := beq_eq_false_iff_ne.2 ht
          clear ht
          by_cases ht : tt = 2
          · subst ht
            clear t0 t1
            have c1 : W5.cell? ⟨g, k * 3 + 1, none⟩ = some (.int .i64 x.k) := by rw [HO5.out.cellAt _ (by have := HK.out; omega)]; exact (flatN_get out k x HX.out).2.1
            have c2 : W5.cell? ⟨g, k * 3 + 2, none⟩ = some (.int .i64 x.v) := by rw [HO5.out.cellAt _ (by have := HK.out; omega)]; exact (flatN_get out k x HX.out).2.2
            have z1 := HO5.out.frozenAt (k * 3 + 1)
            have z2 := HO5.out.frozenAt (k * 3 + 2)
            have hkl : (k : Int) < out.length := by have := HK.out; omega
            clear hl0
            go_wp2
            go_ret
            exact ⟨_, out.set k ⟨x.p, 2, 0⟩, q + 1 + 1, rfl, own_set HO5.out HX.out 2 0, trivial, by rw [List.length_set]; have := HLN.out; omega, short_set HSH.out HX.out, by have := HQ.out; omega,
              (HR5.out.setNew _ _ (by have := HLE.out; have := HB.out.1; show N0 ≤ g; omega)).setNew _ _ (by have := HLE.out; have := HB.out.1; show N0 ≤ g; omega), grownBy_setCell_new (grownBy_setCell_new HG5.out _ _ HB.out.1) _ _ HB.out.1⟩
          · have ht2 : (tt == 2) = false := beq_eq_false_iff_ne.2 ht
            have HO6 := HO5
            clear ht t0 t1
            go_wp2
            go_ret
            exact ⟨_, out, q + 1 + 1, rfl, HO6.out, trivial, by have := HLN.out; omega, HSH.out, by have := HQ.out; omega, HR5.out, HG5.out⟩

end Go.Proofs.YtpjoahddbdmbpaaGreatDoor

/-
  WALKS: spec.l91In: a path of a drawn tree, or any path.
-/
namespace Go.Proofs.YtpjoahddbdmbpaaGreatDoor
open Go.RowKit
set_option linter.unusedVariables false

def twoLetters : List ByteArray := [⟨#[97]⟩, ⟨#[98]⟩]

set_option maxHeartbeats 2000000 in
set_option maxRecDepth 100000 in
theorem l91In_c (N0 B p base : Nat) (sl : Value) (ns : List Nd) (hlen : ns.length ≤ 1000) (hs : Short 64 ns) (hb : B < base) (W : World) (hown : W.ownsRow base 75 3 sl ns.length (flatN ns)) (hp : p < 20000) (hR : RdAt N0 W B p) :
    Calls Tryz.prog 95 #[.pointer (some ⟨B, 0, none⟩), sl] W (StrPost N0 B p 8 66 W) := by
  have HPath := Lib.hid (fun q W hq hR => l91Path_c N0 B q W hq hR)
  have HPK := Lib.hid (fun q n h0 h1 W hq hR => pick_c N0 B q n h0 h1 W hq hR)
  have HPP := Lib.hid hp
  have HS := Lib.hid hs
  have HB := Lib.hid hb
  have HLN := Lib.hid hlen
  clear hp hs hb hlen
  by_cases h0 : ns.length = 0
  · obtain ⟨a, cap, rfl, -⟩ := nodes_of_own hown
    have h0' : (ns.length : Int) = 0 := by omega
    clear h0 hown
    go_enter Tryz.func95, Tryz.ntmps95
    go_wp2_with fail
    refine (HPath.out p _ (by have := HPP.out; omega) hR).mono ?_; rintro e W1 ⟨s, q, rfl, hs, hq, hR1, hg1⟩
    have HX := Lib.hid (And.intro hs hq)
    clear hs hq hR
    go_wp2
    go_ret
    exact ⟨s, q, rfl, by have := HX.out.1; omega, by have := HX.out.2; omega, hR1, hg1⟩
  · obtain ⟨g, cap, rfl, hgb, hgw⟩ := own_slice hown (by omega)
    have hl1 : (0 : Int) < ns.length := by omega
    have HL0 := Lib.hid (show 0 < ns.length by omega)
    clear h0 hgb hgw
    go_enter Tryz.func95, Tryz.ntmps95
    go_wp2_with fail
    refine (HPK.out p 4 (by omega) (by omega) _ (by have := HPP.out; omega) hR).mono ?_; rintro e W1 ⟨r, rfl, r0, r1, hR1, hg1⟩
    have hown1 := own_reader hown HB.out hg1
    have HG1 := Lib.hid hg1
    clear hown hR hg1
    by_cases hr : 0 < r
    · have hr' : decide (0 < r) = true := decide_eq_true hr
      clear r0 r1
      go_wp2_with fail
      refine (HPK.out (p + 1) ns.length (by have := HL0.out; omega) (by have := HLN.out; omega) _ (by have := HPP.out; omega) hR1).mono ?_; rintro e W2 ⟨k', rfl, k0, k1, hR2, hg2⟩
      obtain ⟨k, rfl⟩ := Int.eq_ofNat_of_zero_le k0
      have HK := Lib.hid (show k < ns.length by omega)
      have HO2 := Lib.hid (own_reader hown1 HB.out hg2)
      have HG2 := Lib.hid (grownBy_trans HG1.out hg2)
      obtain ⟨x, hx⟩ : ∃ x, ns[k]? = some x := ⟨_, List.getElem?_eq_getElem HK.out⟩
      have hsz : x.p.size ≤ 64 := HS.out x (List.mem_of_getElem? hx)
      have c0 : W2.cell? ⟨g, k * 3, none⟩ = some (.string x.p) := by rw [HO2.out.cellAt _ (by have := HK.out; omega)]; exact (flatN_get ns k x hx).1
      have hkl : (k : Int) < ns.length := by have := HK.out; omega
      generalize x.p = s at hsz c0
      clear k0 k1 hown1 hR1 hg2 hx
      go_wp2_with fail
      refine (HPK.out (p + 1 + 1) 4 (by omega) (by omega) _ (by have := HPP.out; omega) hR2).mono ?_; rintro e W3 ⟨t, rfl, t0, t1, hR3, hg3⟩
      have HG3 := Lib.hid (grownBy_trans HG2.out hg3)
      have HSZ := Lib.hid hsz
      clear c0 hR2 hg3 hkl
      by_cases ht : t = 0
      · subst ht
        clear t0 t1
        have HO := Lib.hid (of_lit N0 B (p + 1 + 1 + 1) twoLetters 2 rfl (by omega) (by omega) W3 (by have := HPP.out; omega) hR3 _ rfl)
        simp only [twoLetters, List.map_cons, List.map_nil] at HO
        go_wp2_with fail
        refine HO.out.mono ?_; rintro e W4 ⟨y, hy, rfl, hR4, hg4⟩
        have hy1 : y.size ≤ 1 := by
          simp at hy
          rcases hy with rfl | rfl <;> decide
        clear hy hR3
        go_wp2
        go_ret
        exact ⟨_, p + 1 + 1 + 1 + 1, rfl, by rw [ByteArray.size_append, ByteArray.size_append]; show s.size + 1 + _ ≤ 66; omega, by omega, hR4, grownBy_trans HG3.out hg4⟩
      · have ht' : (t == 0) = false := beq_eq_false_iff_ne.2 ht
        clear t0 t1 ht
        go_wp2
        go_ret
        exact ⟨_, p + 1 + 1 + 1, rfl, by omega, by omega, hR3, HG3.out⟩
    · have hr' : decide (0 < r) = false := decide_eq_false hr
      clear r0 r1
      go_wp2_with fail
      refine (HPath.out (p + 1) _ (by have := HPP.out; omega) hR1).mono ?_; rintro e W2 ⟨s, q, rfl, hs, hq, hR2, hg2⟩
      have HX := Lib.hid (And.intro hs hq)
      clear hs hq hR1
      go_wp2
      go_ret
      exact ⟨s, q, rfl, by have := HX.out.1; omega, by have := HX.out.2; omega, hR2, grownBy_trans HG1.out hg2⟩

end Go.Proofs.YtpjoahddbdmbpaaGreatDoor

/-
  WALKS: spec.DrawTreeValid, DrawTreeGet, DrawTreePut, DrawTreeUnder.
-/
namespace Go.Proofs.YtpjoahddbdmbpaaGreatDoor
open Go.RowKit
set_option linter.unusedVariables false

/-- A drawn list of nodes, in memory of the call's own. -/
def Drawn (W W' : World) (sl : Value) (ns : List Nd) : Prop :=
  W'.ownsRow W.heap.size 75 3 sl ns.length (flatN ns) ∧ ns.length ≤ 11 ∧ Short 64 ns ∧ Below W.heap.size W W'

def ListPost (W : World) (e : Ending) (W' : World) : Prop := ∃ sl ns, e = .returned sl ∧ Drawn W W' sl ns
def ListPathPost (W : World) (e : Ending) (W' : World) : Prop := ∃ sl ns s, e = .returned (.tuple #[sl, .string s]) ∧ s.size ≤ 66 ∧ Drawn W W' sl ns
def ListPutPost (W : World) (e : Ending) (W' : World) : Prop := ∃ sl ns s, ∃ k v : Int, e = .returned (.tuple #[sl, .string s, con k v]) ∧ s.size ≤ 66 ∧ Drawn W W' sl ns

theorem triple_results (fn : Func) (hf : fn.results = #[.tmp 2, .tmp 3, .cell 4 34]) (W : World) (n : Nat) (k v : Int) (sl x : Value) (tmps : Array Value) (h2 : tmps[2]? = some sl) (h3 : tmps[3]? = some x) (ht : tmps[4]? = some (.pointer (some ⟨n, 0, none⟩)))
    (h : W.cell? ⟨n, 0, none⟩ = some (.int .i64 k) ∧ W.cell? ⟨n, 1, none⟩ = some (.int .i64 v)) : (results fn tmps).run Tryz.prog W = .ok (.tuple #[sl, x, con k v]) W := by
  obtain ⟨c0, c1⟩ := h
  simp [results, hf, go_sem, h2, h3, ht, c0, c1]

theorem own_setOther {W : World} {base : Nat} {e : TypeId} {size n : Nat} {v : Value} {xs : List Value} (h : W.ownsRow base e size v n xs) (a : Addr) (u : Value) (ha : a.block < base) : (W.setCell a u).ownsRow base e size v n xs := by
  refine h.kept (row := some a.block) ⟨rfl, rfl, rfl, by simp [World.setCell], fun k _ hk => Below.heap_setCell _ _ _ _ (fun e => hk (by rw [e]))⟩ ?_
  cases hv : v.ownBlock with
  | none => exact .inl rfl
  | some k =>
    right
    have := (h.lt k hv).1
    simp; omega

/-- END OF PUT -/
theorem drewN_heap (W : World) (n : Nat) : (W.drewN n).heap = W.heap := (drewN_cell W n ⟨0, 0, none⟩).2.2
theorem drawn_drewN {W W' : World} {sl : Value} {ns : List Nd} (h : Drawn W W' sl ns) (n : Nat) : Drawn W (W'.drewN n) sl ns := by
  obtain ⟨h1, h2, h3, h4⟩ := h
  have hb : Below W'.heap.size W' (W'.drewN n) := ⟨rfl, rfl, rfl, by rw [drewN_heap]; exact Nat.le_refl _, fun k _ => by rw [drewN_heap]⟩
  exact ⟨own_below h1 hb, h2, h3, below_next h4 hb⟩

end Go.Proofs.YtpjoahddbdmbpaaGreatDoor

/-
  WALKS: commands that are drawn: spec.l91Command, DrawCommandValid, DrawCommandUndo, DrawCommandText, DrawCommandApply, DrawCommandParse.
-/
namespace Go.Proofs.YtpjoahddbdmbpaaGreatDoor
open Go.RowKit
set_option linter.unusedVariables false

/-- A drawn command: its path is short; the reader some places on. -/
def CmdDraw (N0 B p : Nat) (W : World) (e : Ending) (W' : World) : Prop :=
  ∃ (c : Cmd) (q : Nat), e = .returned (cmdV c) ∧ c.p.size ≤ 66 ∧ q ≤ p + 17 ∧ RdAt N0 W' B q ∧ W.grownBy W' (some B)

theorem cmd_draw {N0 B p q : Nat} {W W' : World} {t : ByteArray} {fk fv tk tv : Int} (hs : t.size ≤ 66) (hq : q ≤ p + 17) (hR : RdAt N0 W' B q) (hg : W.grownBy W' (some B)) (hL : N0 ≤ W.heap.size) :
    CmdDraw N0 B p W (.returned (cmdV ⟨t, fk, fv, tk, tv⟩)) (((((W'.setCell ⟨W.heap.size, 0, none⟩ (.string t)).setCell ⟨W.heap.size, 1, none⟩ (.int .i64 fk)).setCell ⟨W.heap.size, 2, none⟩ (.int .i64 fv)).setCell ⟨W.heap.size, 3, none⟩ (.int .i64 tk)).setCell ⟨W.heap.size, 4, none⟩ (.int .i64 tv)) :=
  ⟨⟨t, fk, fv, tk, tv⟩, q, rfl, hs, hq, ((((hR.setNew _ _ hL).setNew _ _ hL).setNew _ _ hL).setNew _ _ hL).setNew _ _ hL,
    grownBy_setCell_new (grownBy_setCell_new (grownBy_setCell_new (grownBy_setCell_new (grownBy_setCell_new hg _ _ (Nat.le_refl _)) _ _ (Nat.le_refl _)) _ _ (Nat.le_refl _)) _ _ (Nat.le_refl _)) _ _ (Nat.le_refl _)⟩

set_option maxHeartbeats 2000000 in
set_option maxRecDepth 100000 in
theorem l91Command_c (N0 B p base : Nat) (sl : Value) (ns : List Nd) (hlen : ns.length ≤ 11) (hs : Short 64 ns) (hb : B < base) (W : World) (hown : W.ownsRow base 75 3 sl ns.length (flatN ns)) (hp : p < 19000) (hR : RdAt N0 W B p) :
    Calls Tryz.prog 85 #[.pointer (some ⟨B, 0, none⟩), sl] W (CmdDraw N0 B p W) := by
  have HI := Lib.hid (fun W' h1 h2 => l91In_c N0 B p base sl ns (by omega) hs hb W' h1 (by omega) h2)
  have HC := Lib.hid (fun q W1 hq hR => l91Content_c N0 B q W1 hq hR)
  have HPK := Lib.hid (fun q n h0 h1 W hq hR => pick_c N0 B q n h0 h1 W hq hR)
  have HLT := Lib.hid hR.lt
  have HLE := Lib.hid hR.le
  have HO := Lib.hid hown
  have HR := Lib.hid hR
  have HB := Lib.hid hb
  have HP := Lib.hid hp
  obtain ⟨a, cap, rfl, hN⟩ := nodes_of_own hown
  have HN := Lib.hid hN
  have HG := Lib.hid (fun x W' (h : NodesAt W' a ns.length ns) => l3Get_c a ns.length cap ns x (by omega) W' h)
  clear hR hown hs hb hp hN hlen
  go_enter Tryz.func85, Tryz.ntmps85
  go_wp2_with fail
  refine (HI.out _ (own_below HO.out (below_box W _)) (HR.out.alloc _)).mono ?_
  rintro e W1 ⟨s, q1, rfl, hs1, hq1, hR1, hg1⟩
  have T1 := Lib.hid (five_grown hg1 HLT.out)
  have G1 := Lib.hid (grownBy_trans (grownBy_new W _ (some B)) hg1)
  have Q1 := Lib.hid (And.intro hs1 hq1)
  have HR1 := Lib.hid hR1
  clear hs1 hq1 hR1 hg1
  go_wp2_with fail
  refine (HC.out q1 _ (by have := HP.out; have := Q1.out.2; omega) HR1.out).mono ?_
  rintro e W2 ⟨k, v, q2, rfl, -, -, -, -, hq2, hR2, hg2⟩
  have T2 := Lib.hid (T1.out.keep hg2 (by have := HLT.out; omega))
  have G2 := Lib.hid (grownBy_trans G1.out hg2)
  have Q2 := Lib.hid hq2
  have HR2 := Lib.hid hR2
  have O2 := Lib.hid (own_reader HO.out HB.out G2.out)
  clear hq2 hR2 hg2 T1 G1 HR1
  go_wp2_with fail
  obtain ⟨⟨gk, gv⟩, hg⟩ : ∃ g, getT ns s = g := ⟨_, rfl⟩
  obtain ⟨a', cap', ee, hN2⟩ := nodes_of_own O2.out
  cases ee
  have HG2 := Lib.hid (show Calls Tryz.prog 67 #[.slice a ns.length cap, .string s] (W2.alloc (.cells #[.string s, .int .i64 0, .int .i64 0, .int .i64 k, .int .i64 v] 36)) (ConRet gk gv (W2.alloc (.cells #[.string s, .int .i64 0, .int .i64 0, .int .i64 k, .int .i64 v] 36))) by
    have := HG.out s _ (hN2.keep (below_box W2 (.cells #[.string s, .int .i64 0, .int .i64 0, .int .i64 k, .int .i64 v] 36)))
    rw [hg] at this
    exact this)
  clear hg hN2
  refine HG2.out.mono ?_
  rintro e W3 ⟨rfl, hb3⟩
  have F3 := Lib.hid ((five_new W2 _ _ _ _ _ _).below hb3)
  have T3 := Lib.hid ((T2.out.alloc _).below hb3)
  have G3 := Lib.hid (grownBy_below (grownBy_trans G2.out (grownBy_new W2 _ (some B))) hb3)
  have R3 := Lib.hid ((HR2.out.alloc _).keep hb3)
  have HZ := Lib.hid (And.intro HR2.out.le HR2.out.lt)
  have HW := Lib.hid (show W.heap.size < W2.heap.size from T2.out.2.2.2.2.2.2.2.2.2.2)
  clear hb3 HG2 T2 G2 O2 HR2
  obtain ⟨c0, c1, c2, c3, c4, f0, f1, f2, f3, f4, -⟩ := F3.out
  unfold con
  go_wp2_with fail
  refine (HPK.out q2 12 (by omega) (by omega) _ (by have := HP.out; have := Q1.out.2; have := Q2.out; omega) ((R3.out.setNew _ _ (by exact HZ.out.1)).setNew _ _ (by exact HZ.out.1))).mono ?_
  rintro e W4 ⟨r, rfl, r0, -, hR4, hg4⟩
  have F4 := Lib.hid ((F3.out.set1 (x := .int .i64 gk)).set2 (x := .int .i64 gv) |>.keep hg4 (by have := HZ.out.2; omega))
  have T4 := Lib.hid (((T3.out.setOther (x := ⟨W2.heap.size, 1, none⟩) (v := .int .i64 gk) (by have := HW.out; simp; omega)).setOther (x := ⟨W2.heap.size, 2, none⟩) (v := .int .i64 gv) (by have := HW.out; simp; omega)).keep hg4 (by have := HLT.out; omega))
  have G4 := Lib.hid (grownBy_trans (grownBy_setCell_new (grownBy_setCell_new G3.out ⟨W2.heap.size, 1, none⟩ (.int .i64 gk) (by have := HW.out; simp; omega)) ⟨W2.heap.size, 2, none⟩ (.int .i64 gv) (by have := HW.out; simp; omega)) hg4)
  have R4 := Lib.hid hR4
  clear hR4 hg4 F3 T3 G3 R3 c0 c1 c2 c3 c4 f0 f1 f2 f3 f4
  by_cases hr : r = 0
  · subst hr
    clear r0
    go_wp2_with fail
    refine (HC.out _ _ (by have := HP.out; have := Q1.out.2; have := Q2.out; omega) R4.out).mono ?_
    rintro e W5 ⟨k5, v5, q5, rfl, -, -, -, -, hq5, hR5, hg5⟩
    have F5 := Lib.hid (F4.out.keep hg5 (by have := HZ.out.2; omega))
    have T5 := Lib.hid (T4.out.keep hg5 (by have := HLT.out; omega))
    have G5 := Lib.hid (grownBy_trans G4.out hg5)
    have F6 := Lib.hid ((F5.out.set1 (x := .int .i64 k5)).set2 (x := .int .i64 v5))
    have T6 := Lib.hid ((T5.out.setOther (x := ⟨W2.heap.size, 1, none⟩) (v := .int .i64 k5) (by have := HW.out; simp; omega)).setOther (x := ⟨W2.heap.size, 2, none⟩) (v := .int .i64 v5) (by have := HW.out; simp; omega))
    have G6 := Lib.hid (grownBy_setCell_new (grownBy_setCell_new G5.out ⟨W2.heap.size, 1, none⟩ (.int .i64 k5) (by have := HW.out; simp; omega)) ⟨W2.heap.size, 2, none⟩ (.int .i64 v5) (by have := HW.out; simp; omega))
    have R6 := Lib.hid ((hR5.setNew ⟨W2.heap.size, 1, none⟩ (.int .i64 k5) (by exact HZ.out.1)).setNew ⟨W2.heap.size, 2, none⟩ (.int .i64 v5) (by exact HZ.out.1))
    have HQ5 := Lib.hid hq5
    obtain ⟨c0, c1, c2, c3, c4, f0, f1, f2, f3, f4, -⟩ := F5.out
    clear hq5 hR5 hg5
    unfold con
    go_upto_region 5 with (fail)
    clear c0 c1 c2 c3 c4 f0 f1 f2 f3 f4
    generalize (W5.setCell ⟨W2.heap.size, 1, none⟩ (.int .i64 k5)).setCell ⟨W2.heap.size, 2, none⟩ (.int .i64 v5) = W6 at F6 T6 G6 R6 ⊢
    obtain ⟨c0, c1, c2, c3, c4, -⟩ := F6.out
    obtain ⟨t0, t1, t2, t3, t4, f0, f1, f2, f3, f4, -⟩ := T6.out
    go_wp2
    exact bodyPost_ret (cmd_results _ rfl _ W.heap.size ⟨s, k5, v5, k, v⟩ _ rfl T6.out.setAll) rfl (cmd_draw Q1.out.1 (by have := Q1.out.2; have := Q2.out; have := HQ5.out; omega) R6.out G6.out (HLE.out))
  · have hb0 : (r == 0) = false := beq_eq_false_iff_ne.2 hr
    clear r0 hr
    obtain ⟨c0, c1, c2, c3, c4, -⟩ := F4.out
    obtain ⟨t0, t1, t2, t3, t4, f0, f1, f2, f3, f4, -⟩ := T4.out
    go_wp2
    exact bodyPost_ret (cmd_results _ rfl _ W.heap.size ⟨s, gk, gv, k, v⟩ _ rfl T4.out.setAll) rfl (cmd_draw Q1.out.1 (by have := Q1.out.2; have := Q2.out; omega) R4.out G4.out (HLE.out))

end Go.Proofs.YtpjoahddbdmbpaaGreatDoor

/-
  WALKS: logs that are drawn: spec.l91Log.
-/
namespace Go.Proofs.YtpjoahddbdmbpaaGreatDoor
open Go.RowKit
set_option linter.unusedVariables false

/-- A drawn list of commands, of the call's own. -/
def LogDraw (N0 B p c d : Nat) (W : World) (e : Ending) (W' : World) : Prop :=
  ∃ (sl : Value) (out : List Cmd) (q : Nat), e = .returned sl ∧ W'.ownsRow W.heap.size 36 5 sl out.length (flatC out) ∧ out.length ≤ c ∧ ShortC 66 out ∧ q ≤ p + d ∧ RdAt N0 W' B q ∧ W.grownBy W' (some B)

theorem push_reader {N0 B q : Nat} {W w5 w6 : World} {v : Value} (hv : ∀ k, v.ownBlock = some k → W.heap.size ≤ k) (hle : N0 ≤ W.heap.size) (hR : RdAt N0 w5 B q) (hg : w5.grownBy w6 v.ownBlock) : RdAt N0 w6 B q :=
  hR.kept ⟨hg.os, hg.tape, hg.output, hg.size, fun b hb => hg.block b (Nat.lt_of_lt_of_le hb hR.le) (fun e => by have := hv b e.symm; omega)⟩

theorem push_grown {B : Nat} {W w5 w6 : World} {v : Value} (hv : ∀ k, v.ownBlock = some k → W.heap.size ≤ k) (hG : W.grownBy w5 (some B)) (hg : w5.grownBy w6 v.ownBlock) : W.grownBy w6 (some B) :=
  ⟨hg.os.trans hG.os, hg.tape.trans hG.tape, hg.output.trans hG.output, Nat.le_trans hG.size hg.size, fun b hb hne => (hg.block b (Nat.lt_of_lt_of_le hb hG.size) (fun e => by have := hv b e.symm; omega)).trans (hG.block b hb hne)⟩

theorem apply_short64 {ns out : List Nd} {c : Cmd} (h : applyC ns c = (out, true)) (hs : Short 64 ns) : Short 64 out ∧ out.length ≤ 10 := by
  obtain ⟨_, h2, _, h4⟩ := applyC_some h
  obtain ⟨_, _, _, h5, h6⟩ := treePut_some h4
  have hp := pathB_size ((validC_iff c).1 h2).1
  refine ⟨?_, ((validT_iff out).1 h6).2.2⟩
  rw [h5]
  exact short_put hs (by omega)

theorem shortC_push {m : Nat} {cs : List Cmd} {c : Cmd} (h : ShortC m cs) (hc : c.p.size ≤ m) : ShortC m (cs ++ [c]) := by
  intro x hx
  rcases List.mem_append.1 hx with hx | hx
  · exact h x hx
  · rw [List.mem_singleton.1 hx]; exact hc

def LogRel (N0 B p base : Nat) (n : Int) (W : World) (o tv i : Value) (wr : World) : Prop :=
  ∃ (acc : List Cmd) (t : List Nd) (j q : Nat), i = .int .i64 j ∧ (j : Int) ≤ n ∧ acc.length ≤ 20 ∧ wr.ownsRow W.heap.size 36 5 o acc.length (flatC acc) ∧ wr.ownsRow base 75 3 tv t.length (flatN t) ∧ Hid (t.length ≤ 11) ∧ Hid (Short 64 t) ∧ Hid (ShortC 66 acc) ∧ Hid (q ≤ p + 17 * j) ∧ RdAt N0 wr B q ∧ Hid (W.grownBy wr (some B))

set_option maxHeartbeats 4000000 in
set_option maxRecDepth 100000 in
theorem l91Log_c (N0 B p base : Nat) (sl : Value) (ns : List Nd) (n : Int) (hn0 : 0 ≤ n) (hn : n ≤ 60) (hlen : ns.length ≤ 11) (hs : Short 64 ns) (hb : B < base) (W : World) (hbW : base ≤ W.heap.size) (hown : W.ownsRow base 75 3 sl ns.length (flatN ns)) (hp : p < 15000) (hR : RdAt N0 W B p) :
    Calls Tryz.prog 62 #[.pointer (some ⟨B, 0, none⟩), sl, .int .i64 n] W (LogDraw N0 B p 20 1020 W) := by
  have HLT := Lib.hid hR.lt
  have HLE := Lib.hid hR.le
  have HC := Lib.hid (fun q tv t (h1 : t.length ≤ 11) (h2 : Short 64 t) W' h3 hq hR => l91Command_c N0 B q base tv t h1 h2 hb W' h3 hq hR)
  have HPP := Lib.hid hp
  have HN := Lib.hid hn
  have HB := Lib.hid hb
  have HBW := Lib.hid hbW
  have HL := Lib.hid hlen
  have HS := Lib.hid hs
  have HO := Lib.hid hown
  have HRD := Lib.hid hR
  clear hp hb hbW hlen hs hown hR
  go_enter Tryz.func62, Tryz.ntmps62
  go_wp2
  go_loopw [7, 8, 9, 10, 11, 12] (fun o tv i _ _ _ wr => LogRel N0 B p base n W o tv i wr) (fun _ _ i _ _ _ _ => (n - intOf i).toNat)
  case atStart => exact ⟨[], ns, 0, p, rfl, hn0, by simp, World.ownsRow_lit (e := 36) (size := 5) W #[] 0 (Nat.le_refl _) (by simp [maxLen]) rfl, HO.out.alloc _, HL, HS, (by intro x hx; cases hx), (by show p ≤ _; omega), HRD.out.alloc _, grownBy_new _ _ _⟩
  case round =>
    obtain ⟨acc, t, j, q, rfl, hj, hal, hrow, htree, HTL, HTS, HAS, HQ, hRq, HG⟩ := hrel
    by_cases hlt : (j : Int) < n
    · by_cases hfull : acc.length < 20
      · have HJ := Lib.hid hlt
        have HF := Lib.hid hfull
        have hfl : (acc.length : Int) < 20 := by omega
        have HROW := Lib.hid hrow
        have HTR := Lib.hid htree
        have HRQ := Lib.hid hRq
        obtain ⟨ao, co, rfl, -⟩ := cmds_of_own hrow
        have HVB := Lib.hid (fun k (e : (Value.slice ao acc.length co).ownBlock = some k) => (hrow.lt k e).1)
        clear hj hal hrow htree hRq hfull
        go_wp2_with fail
        refine (HC.out q _ t HTL.out HTS.out _ HTR.out (by have h5 := HQ.out; have h6 := HPP.out; have h7 := HN.out; have h8 := HJ.out; omega) HRQ.out).mono ?_
        rintro e W2 ⟨c, q2, rfl, hc66, hq2, hR2, hg2⟩
        have HROW2 := Lib.hid (own_reader HROW.out HLT.out hg2)
        have HTR2 := Lib.hid (own_reader HTR.out HB.out hg2)
        have HG2 := Lib.hid (grownBy_trans HG.out hg2)
        have HR2 := Lib.hid hR2
        have HQ2 := Lib.hid (And.intro hc66 hq2)
        obtain ⟨ta, tc, rfl, htn⟩ := nodes_of_own HTR2.out
        obtain ⟨⟨out, ok⟩, hr⟩ : ∃ r, applyC t c = r := ⟨_, rfl⟩
        have HA := Lib.hid (fun W' (hb : Below W2.heap.size W2 W') => show Calls Tryz.prog 43 #[.slice ta t.length tc, cmdV c] W' (fun e w' => ∃ sl, e = .returned (.tuple #[sl, .bool ok]) ∧ w'.ownsRow W'.heap.size 75 3 sl out.length (flatN out) ∧ Below W'.heap.size W' w') by
          have := specCmdApply_c ta t.length tc t c (by have := HTL.out; omega) (fun n hn => by have := HTS.out n hn; omega) (by omega) W' (htn.keep hb)
          rw [hr] at this; exact this)
        have HRR := Lib.hid hr
        obtain ⟨p', fk, fv, tk, tv⟩ := c
        unfold cmdV at HA ⊢
        simp only at HA HQ2
        clear hc66 hq2 hR2 hg2 htn hr
        go_wp2_with fail
        refine (HA.out _ (below_box _ _)).mono ?_
        rintro e W3 ⟨sl3, rfl, ho3, hb3⟩
        have F3 := Lib.hid ((five_new W2 (.string p') (.int .i64 fk) (.int .i64 fv) (.int .i64 tk) (.int .i64 tv) 36).below hb3)
        have hbb := below_next (below_box W2 (.cells #[.string p', .int .i64 fk, .int .i64 fv, .int .i64 tk, .int .i64 tv] 36)) hb3
        have HROW3 := Lib.hid (own_below HROW2.out hbb)
        have HTR3 := Lib.hid (own_below HTR2.out hbb)
        have HG3 := Lib.hid (grownBy_below HG2.out hbb)
        have HR3 := Lib.hid (HR2.out.keep hbb)
        have HO3 := Lib.hid (own_mono ho3 (show base ≤ (W2.alloc (.cells #[.string p', .int .i64 fk, .int .i64 fv, .int .i64 tk, .int .i64 tv] 36)).heap.size by have h1 := HBW.out; have h2 := HG2.out.size; simp; omega))
        clear ho3 hb3 hbb
        cases ok with
        | false =>
          go_wp2
          go_roundw
          case rel => exact ⟨acc, t, j + 1, q2, by go_num, by have := HJ.out; omega, by have := HF.out; omega, HROW3.out, HTR3.out, HTL, HTS, HAS, (by show q2 ≤ _; have h5 := HQ.out; have h6 := HQ2.out.2; omega), HR3.out, HG3⟩
          case measure => have := HJ.out; simp [intOf]; omega
        | true =>
          have HSS := Lib.hid (apply_short64 HRR.out HTS.out)
          obtain ⟨c0, c1, c2, c3, c4, -⟩ := F3.out
          go_wp2_with (at_builtin; refine wpList_append_cmds rfl _ _ rfl W.heap.size _ acc rfl (HROW3.out.alloc _) _ _ _ [⟨p', fk, fv, tk, tv⟩] rfl (cmds_lit W3 ⟨p', fk, fv, tk, tv⟩) (by have := HF.out; simp; omega) (by have := HG3.out.size; simp; omega) ?_; intro v4 w4 ho4 hg4)
          have hg4' := grownBy_trans (grownBy_new W3 (.cells #[.string p', .int .i64 fk, .int .i64 fv, .int .i64 tk, .int .i64 tv] 36) _) hg4
          have HR4 := Lib.hid (push_reader HVB.out HLE.out HR3.out hg4')
          have HG4 := Lib.hid (push_grown HVB.out HG3.out hg4')
          have HT4 := Lib.hid (apart_type HO3.out HROW3.out (by decide) hg4')
          clear hg4 hg4' c0 c1 c2 c3 c4
          go_roundw
          case rel => exact ⟨acc ++ [⟨p', fk, fv, tk, tv⟩], out, j + 1, q2, by go_num, by have := HJ.out; omega, by have := HF.out; simp; omega, ho4, HT4.out, (by show out.length ≤ 11; have := HSS.out.2; omega), HSS.out.1, shortC_push HAS.out HQ2.out.1, (by show q2 ≤ _; have h5 := HQ.out; have h6 := HQ2.out.2; omega), HR4.out, HG4⟩
          case measure => have := HJ.out; simp [intOf]; omega
      · have hge : (20 : Int) ≤ acc.length := by omega
        have HJ := Lib.hid hj
        obtain ⟨ao, co, rfl, -⟩ := cmds_of_own hrow
        clear hj hfull
        go_wp2
        go_ret
        exact ⟨_, acc, q, rfl, hrow, hal, HAS.out, by have h5 := HQ.out; have h6 := HJ.out; have h7 := HN.out; omega, hRq, HG.out⟩
    · have hge : n ≤ (j : Int) := by omega
      have HJ := Lib.hid hj
      obtain ⟨ao, co, rfl, -⟩ := cmds_of_own hrow
      clear hj hlt
      go_wp2
      go_ret
      exact ⟨_, acc, q, rfl, hrow, hal, HAS.out, by have h5 := HQ.out; have h6 := HJ.out; have h7 := HN.out; omega, hRq, HG.out⟩

end Go.Proofs.YtpjoahddbdmbpaaGreatDoor

/-
  WALKS: logs that are drawn, seldom broken ones (spec.l91Broken); spec.DrawLogValid, DrawLogUndo, DrawLogApply, DrawLogFits.
-/
namespace Go.Proofs.YtpjoahddbdmbpaaGreatDoor
open Go.RowKit
set_option linter.unusedVariables false

theorem flatC_cons (c : Cmd) (t : List Cmd) : flatC (c :: t) = .string c.p :: .int .i64 c.fk :: .int .i64 c.fv :: .int .i64 c.tk :: .int .i64 c.tv :: flatC t := rfl

theorem flatC_setTo : ∀ (cs : List Cmd) (i : Nat) (c : Cmd) (k v : Int), cs[i]? = some c → ((flatC cs).set (i * 5 + 3) (.int .i64 k)).set (i * 5 + 4) (.int .i64 v) = flatC (cs.set i ⟨c.p, c.fk, c.fv, k, v⟩)
  | [], i, c, k, v, h => by simp at h
  | m :: r, 0, c, k, v, h => by
    simp at h
    subst h
    rfl
  | m :: r, i + 1, c, k, v, h => by
    have ih := flatC_setTo r i c k v (by simpa using h)
    rw [List.set_cons_succ, flatC_cons m r, flatC_cons m (r.set i _), ← ih, show (i + 1) * 5 + 3 = (i * 5 + 3) + 5 by omega, show (i + 1) * 5 + 4 = (i * 5 + 4) + 5 by omega]
    rfl

theorem flatC_setPath : ∀ (cs : List Cmd) (i : Nat) (c : Cmd) (s : ByteArray), cs[i]? = some c → (flatC cs).set (i * 5) (.string s) = flatC (cs.set i ⟨s, c.fk, c.fv, c.tk, c.tv⟩)
  | [], i, c, s, h => by simp at h
  | m :: r, 0, c, s, h => by
    simp at h
    subst h
    rfl
  | m :: r, i + 1, c, s, h => by
    have ih := flatC_setPath r i c s (by simpa using h)
    rw [List.set_cons_succ, flatC_cons m r, flatC_cons m (r.set i _), ← ih, show (i + 1) * 5 = i * 5 + 5 by omega]
    rfl

theorem own_setTo {W : World} {base : Nat} {e : TypeId} {g cap : Nat} {cs : List Cmd} {i : Nat} {c : Cmd} (h : W.ownsRow base e 5 (.slice (some ⟨g, 0, none⟩) cs.length cap) cs.length (flatC cs)) (hn : cs[i]? = some c) (k v : Int) :
    ((W.setCell ⟨g, i * 5 + 3, none⟩ (.int .i64 k)).setCell ⟨g, i * 5 + 3 + 1, none⟩ (.int .i64 v)).ownsRow base e 5 (.slice (some ⟨g, 0, none⟩) cs.length cap) (cs.set i ⟨c.p, c.fk, c.fv, k, v⟩).length (flatC (cs.set i ⟨c.p, c.fk, c.fv, k, v⟩)) := by
  have := ((h.stored (i * 5 + 3) (.int .i64 k)).1.stored (i * 5 + 4) (.int .i64 v)).1
  rw [flatC_setTo cs i c k v hn] at this
  rw [List.length_set]
  exact this

theorem own_setPath {W : World} {base : Nat} {e : TypeId} {g cap : Nat} {cs : List Cmd} {i : Nat} {c : Cmd} (h : W.ownsRow base e 5 (.slice (some ⟨g, 0, none⟩) cs.length cap) cs.length (flatC cs)) (hn : cs[i]? = some c) (s : ByteArray) :
    (W.setCell ⟨g, i * 5, none⟩ (.string s)).ownsRow base e 5 (.slice (some ⟨g, 0, none⟩) cs.length cap) (cs.set i ⟨s, c.fk, c.fv, c.tk, c.tv⟩).length (flatC (cs.set i ⟨s, c.fk, c.fv, c.tk, c.tv⟩)) := by
  have := (h.stored (i * 5) (.string s)).1
  rw [flatC_setPath cs i c s hn] at this
  rw [List.length_set]
  exact this

theorem flatC_take (cs : List Cmd) (k : Nat) : (flatC cs).take (k * 5) = flatC (cs.take k) := by
  induction cs generalizing k with
  | nil => simp [flatC]
  | cons c r ih =>
    cases k with
    | zero => rfl
    | succ k =>
      rw [List.take_succ_cons, flatC_cons, flatC_cons, show (k + 1) * 5 = k * 5 + 5 by omega, ← ih k]
      rfl

/-- The first commands of a list of the call's own. -/
theorem own_takeC {W : World} {base : Nat} {e : TypeId} {g cap : Nat} {cs : List Cmd} (h : W.ownsRow base e 5 (.slice (some ⟨g, 0, none⟩) cs.length cap) cs.length (flatC cs)) (k : Nat) (hk : k ≤ cs.length) : W.ownsRow base e 5 (.slice (some ⟨g, 0, none⟩) k cap) (cs.take k).length (flatC (cs.take k)) := by
  have hl : (cs.take k).length = k := by rw [List.length_take]; omega
  rw [hl]
  obtain ⟨h1, h2⟩ := h
  refine ⟨by rw [flatC_length, hl], .inr ?_⟩
  rcases h2 with ⟨h3, _⟩ | ⟨g', cap', cur, h3, h4, h5, h6, h7, h8, h9⟩
  · cases h3
  · cases h3
    refine ⟨g, cap, cur, rfl, h4, h5, by omega, h7, h8, ?_⟩
    rw [← flatC_take, ← h9, List.take_take]
    congr 1
    omega

theorem own_sliceC {W : World} {base : Nat} {e : TypeId} {v : Value} {cs : List Cmd} (h : W.ownsRow base e 5 v cs.length (flatC cs)) (h0 : 0 < cs.length) : ∃ g cap, v = .slice (some ⟨g, 0, none⟩) cs.length cap ∧ base ≤ g ∧ cs.length ≤ cap ∧ cap ≤ maxLen := by
  rcases h.2 with ⟨_, h1⟩ | ⟨g, cap, cur, rfl, h1, h2, h3, h4, _⟩
  · omega
  · exact ⟨g, cap, rfl, h1, h3, h4⟩

/-- The last commands of a list of the call's own. -/
theorem own_tailC {W : World} {base : Nat} {e : TypeId} {g cap : Nat} {cs : List Cmd} (h : W.ownsRow base e 5 (.slice (some ⟨g, 0, none⟩) cs.length cap) cs.length (flatC cs)) (m : Nat) (hm : m ≤ cs.length) (o : Nat) (ho : o = m * 5 ∨ cs.length = m) : CmdsAt W (some ⟨g, o, none⟩) (cs.length - m) (cs.drop m) := by
  refine ⟨by rw [List.length_drop], ?_⟩
  rcases ho with rfl | ho
  · have := (cmds_own h).part m cs.length hm (Nat.le_refl _)
    rw [Nat.zero_add, show (cs.drop m).take (cs.length - m) = cs.drop m from List.take_of_length_le (by rw [List.length_drop]; exact Nat.le_refl _)] at this
    exact this.2
  · left; omega

theorem shortC_set {m : Nat} {cs : List Cmd} {i : Nat} {d : Cmd} (h : ShortC m cs) (hd : d.p.size ≤ m) : ShortC m (cs.set i d) := by
  intro x hx
  rcases List.mem_or_eq_of_mem_set hx with h1 | rfl
  · exact h x h1
  · exact hd

theorem shortC_part {m : Nat} {cs ds : List Cmd} (h : ShortC m cs) (hs : ∀ x ∈ ds, x ∈ cs) : ShortC m ds := fun x hx => h x (hs x hx)

def brokenPaths : List ByteArray := [⟨#[]⟩, ⟨#[47]⟩, ⟨#[47, 120]⟩]

set_option maxHeartbeats 4000000 in
set_option maxRecDepth 100000 in
theorem l91Broken_c (N0 B p base : Nat) (sl : Value) (ns : List Nd) (hlen : ns.length ≤ 11) (hs : Short 64 ns) (hb : B < base) (W : World) (hbW : base ≤ W.heap.size) (hown : W.ownsRow base 75 3 sl ns.length (flatN ns)) (hp : p < 10000) (hR : RdAt N0 W B p) :
    Calls Tryz.prog 40 #[.pointer (some ⟨B, 0, none⟩), sl] W (LogDraw N0 B p 21 1100 W) := by
  obtain ⟨i0, hi, hz0, hz1, hz2⟩ := info_parts infoCmd
  have HLT := Lib.hid hR.lt
  have HLE := Lib.hid hR.le
  have HP1 := Lib.hid (fun W hR => pick_c N0 B p 12 (by omega) (by omega) W (by omega) hR)
  have HP2 := Lib.hid (fun W hR => pick_c N0 B (p + 1) 10 (by omega) (by omega) W (by omega) hR)
  have HT := Lib.hid (fun n h0 h1 W' (hW : base ≤ W'.heap.size) ho hR => l91Log_c N0 B (p + 1 + 1) base sl ns n h0 h1 hlen hs hb W' hW ho (by omega) hR)
  have HPK := Lib.hid (fun q n h0 h1 W hq hR => pick_c N0 B q n h0 h1 W hq hR)
  have HC := Lib.hid (fun q W hq hR => l91Content_c N0 B q W hq hR)
  have HOF := Lib.hid (fun q W' (hq : q < 30000) hR => of_lit N0 B q brokenPaths 3 rfl (by decide) (by decide) W' hq hR #[.string ⟨#[]⟩, .string ⟨#[47]⟩, .string ⟨#[47, 120]⟩] rfl)
  have HPP := Lib.hid hp
  have HOW := Lib.hid hown
  have HBB := Lib.hid hb
  have HBW := Lib.hid hbW
  clear hp hown hb hbW hlen hs
  go_enter Tryz.func40, Tryz.ntmps40
  go_wp2_with fail
  refine (HP1.out _ hR).mono ?_; rintro e W1 ⟨n, rfl, n0, n1, hR1, hg1⟩
  have HN := Lib.hid (And.intro n0 n1)
  have HO1 := Lib.hid (own_reader HOW.out HBB.out hg1)
  clear n0 n1 hR
  go_wp2_with fail
  refine (HP2.out _ hR1).mono ?_; rintro e W2 ⟨r, rfl, r0, r1, hR2, hg2⟩
  have HG2 := Lib.hid (grownBy_trans hg1 hg2)
  have HO2 := Lib.hid (own_reader HO1.out HBB.out hg2)
  have HW2 := Lib.hid (show base ≤ W2.heap.size by have h1 := HG2.out.size; have h2 := HBW.out; omega)
  have HR2 := Lib.hid hR2
  clear hg1 hg2 hR1 hR2
  by_cases hr : r = 0
  · subst hr
    clear r0 r1
    go_wp2_with fail
    refine (HT.out 60 (by omega) (by omega) _ HW2.out HO2.out HR2.out).mono ?_; rintro e W3 ⟨v, out, q, rfl, hown0, hlen, hsh, hq, hR3, hg3⟩
    have hown := own_mono hown0 HG2.out.size
    have HG3 := Lib.hid (grownBy_trans HG2.out hg3)
    have HSH := Lib.hid hsh
    have HLN := Lib.hid hlen
    have HQ := Lib.hid hq
    have HR3 := Lib.hid hR3
    clear hown0 hg3 hsh hlen hq hR3
    by_cases hl0 : out.length = 0
    · obtain ⟨a, cap, rfl, -⟩ := cmds_of_own hown
      have HO := Lib.hid hown
      have hl0' : (out.length : Int) = 0 := by omega
      clear hl0 hown
      go_wp2
      go_ret
      exact ⟨_, out, q, rfl, HO.out, by have := HLN.out; omega, HSH.out, by have := HQ.out; omega, HR3.out, HG3.out⟩
    · have hl0 : 0 < out.length := by omega
      have hl1 : (0 : Int) < out.length := by omega
      obtain ⟨g, cap, rfl, hgb, hlc, hcm⟩ := own_sliceC hown hl0
      have HB := Lib.hid (And.intro hgb (And.intro hlc hcm))
      have HO3 := Lib.hid hown
      clear hgb hlc hcm hown
      go_wp2_with fail
      refine (HPK.out q out.length (by omega) (by have := HLN.out; omega) _ (by have := HQ.out; have := HPP.out; omega) HR3.out).mono ?_; rintro e W4 ⟨k', rfl, k0, k1, hR4, hg4⟩
      obtain ⟨k, rfl⟩ := Int.eq_ofNat_of_zero_le k0
      have HK := Lib.hid (show k < out.length by omega)
      have HO4 := Lib.hid (own_reader HO3.out HLT.out hg4)
      clear k0 k1
      go_wp2_with fail
      refine (HPK.out (q + 1) 14 (by omega) (by omega) _ (by have := HQ.out; have := HPP.out; omega) hR4).mono ?_; rintro e W5 ⟨tt, rfl, t0, t1, hR5, hg5⟩
      have HO5 := Lib.hid (own_reader HO4.out HLT.out hg5)
      have HG5 := Lib.hid (grownBy_trans HG3.out (grownBy_trans hg4 hg5))
      have HR5 := Lib.hid hR5
      obtain ⟨x, hx⟩ : ∃ x, out[k]? = some x := ⟨_, List.getElem?_eq_getElem HK.out⟩
      have HX := Lib.hid hx
      have hkl : (k : Int) < out.length := by have := HK.out; omega
      have HVB := Lib.hid (fun k (e : (Value.slice (some ⟨g, 0, none⟩) out.length cap).ownBlock = some k) => (HO5.out.lt k e).1)
      clear hx hg4 hg5 hR4 hR5 hl0
      by_cases ht : tt = 0
      · subst ht
        clear t0 t1
        go_wp2_with fail
        refine (HC.out (q + 1 + 1) _ (by have := HQ.out; have := HPP.out; omega) HR5.out).mono ?_; rintro e W6 ⟨k6, v6, q6, rfl, -, -, -, -, hq6, hR6, hg6⟩
        have HO6 := Lib.hid (own_reader HO5.out HLT.out hg6)
        have HG6 := Lib.hid (grownBy_trans HG5.out hg6)
        have HR6 := Lib.hid hR6
        have HQ6 := Lib.hid hq6
        obtain ⟨-, -, -, x3, x4⟩ := flatC_get out k x HX.out
        have c3 : W6.cell? ⟨g, k * 5 + 3, none⟩ = some (.int .i64 x.tk) := by rw [HO6.out.cellAt _ (by have := HK.out; omega)]; exact x3
        have c4 : W6.cell? ⟨g, k * 5 + 4, none⟩ = some (.int .i64 x.tv) := by rw [HO6.out.cellAt _ (by have := HK.out; omega)]; exact x4
        have z3 := HO6.out.frozenAt (k * 5 + 3)
        have z4 := HO6.out.frozenAt (k * 5 + 4)
        unfold con
        clear hq6 hR6 hg6 x3 x4
        go_wp2
        go_ret
        exact ⟨_, out.set k ⟨x.p, x.fk, x.fv, k6, v6⟩, q6, rfl, own_setTo HO6.out HX.out k6 v6, by rw [List.length_set]; have := HLN.out; omega, shortC_set HSH.out (show x.p.size ≤ 66 from HSH.out.at HX.out), by have := HQ.out; have := HQ6.out; omega,
          (HR6.out.setNew _ _ (by have := HLE.out; have := HB.out.1; show N0 ≤ g; omega)).setNew _ _ (by have := HLE.out; have := HB.out.1; show N0 ≤ g; omega), grownBy_setCell_new (grownBy_setCell_new HG6.out _ _ HB.out.1) _ _ HB.out.1⟩
      · have ht0 : (tt == 0) = false := beq_eq_false_iff_ne.2 ht
        clear ht
        by_cases ht : tt = 1
        · subst ht
          clear t0 t1
          have hk2 : (k : Int) ≤ cap := by have := HK.out; have := HB.out.2.1; omega
          have hk0 : (0 : Int) ≤ k := by omega
          have hk3 : (k : Int) + 1 ≤ out.length := by omega
          have hlc2 : (out.length : Int) ≤ cap := by have := HB.out.2.1; omega
          obtain ⟨m, hm⟩ : ∃ m, m = k + 1 := ⟨_, rfl⟩
          have hwr : IntKind.i64.wrap ((k : Int) + 1) = (m : Int) := (IntWalk.i64_in _ (by have := HLN.out; omega)).trans (by omega)
          have hm0 : (0 : Int) ≤ m := by omega
          have hm1 : (m : Int) ≤ out.length := by omega
          have hm2 : (m : Int) ≤ cap := by omega
          have hmm : m ≤ out.length := by omega
          have HM := Lib.hid (And.intro hm hmm)
          have HTK := Lib.hid (show W5.drew.ownsRow W.heap.size 36 5 (.slice (some ⟨g, 0, none⟩) k cap) k (flatC (out.take k)) by
            have := own_takeC HO5.out k (by have := HK.out; omega)
            rw [show (out.take k).length = k by rw [List.length_take]; have := HK.out; omega] at this
            exact this)
          have HFL := Lib.hid (show (flatC (out.drop m)).length = (out.length - m) * 5 by rw [flatC_length, List.length_drop])
          have HMX := Lib.hid (show k + (out.length - m) ≤ maxLen ∧ (k + (out.length - m)) * 48 ≤ 140737488355328 by unfold maxLen; have := HLN.out; have := HK.out; omega)
          have HBS := Lib.hid (show W.heap.size ≤ W5.drew.heap.size from HG5.out.size)
          have HSB := Lib.hid (show ShortC 66 (out.take k ++ out.drop m) from shortC_part HSH.out (fun y hy => by
            rcases List.mem_append.1 hy with h | h
            · exact List.mem_of_mem_take h
            · exact List.mem_of_mem_drop h))
          have HLB := Lib.hid (show (out.take k ++ out.drop m).length = k + (out.length - m) by rw [List.length_append, List.length_take, List.length_drop]; have := HK.out; omega)
          clear hm hmm
          have HVK := Lib.hid (fun k' (e : (Value.slice (some ⟨g, 0, none⟩) k cap).ownBlock = some k') => show W.heap.size ≤ k' by cases e; exact HB.out.1)
          by_cases hcap : cap = m
          · subst hcap
            have HCEL := Lib.hid (cmds_cells (show CmdsAt W5.drew (some ⟨g, 0, none⟩) (out.length - cap) (out.drop cap) from own_tailC HO5.out cap HM.out.2 0 (.inr (by have h1 := HB.out.2.1; have h2 := HM.out.2; omega))))
            have HG0 : Hid (W5.drew.grownBy W5.drew (some g)) := ⟨rfl, rfl, rfl, Nat.le_refl _, fun _ _ _ => rfl⟩
            go_upto_region 11 with (fail)
            refine wp_region_held_drew (S := (fun w' => W5.drew.grownBy w' (some g))) (by kernel_rfl) HG0.out (fun hH => ?_)
            refine wpAnyH_take (i := 0) (oi := _) (v := ?_) rfl (by kernel_rfl) (by kernel_rfl) (by kernel_rfl) (fun _ _ _ h => h) (Or.inl ⟨by rfl, ?_⟩) (by assumption) ?_
            rotate_left
            · (intro w hSw; (try dsimp only at hSw); go_simp; try with_reducible rfl)
            try simp only [Act.put, List.getElem_toArray, List.getElem_cons_zero, List.setIfInBounds_toArray, List.set_cons_zero, List.set_cons_succ]
            refine wpAnyH_take (i := 1) (oi := _) (v := ?_) rfl (by kernel_rfl) (by kernel_rfl) (by kernel_rfl) (fun _ _ _ h => h) (Or.inl ⟨by rfl, ?_⟩) (by assumption) ?_
            rotate_left
            · (intro w hSw; (try dsimp only at hSw); go_simp; try with_reducible rfl)
            try simp only [Act.put, List.getElem_toArray, List.getElem_cons_zero, List.getElem_cons_succ, List.setIfInBounds_toArray, List.set_cons_zero, List.set_cons_succ]
            refine wpAnyH_take (i := 2) (oi := _) (v := ?_) rfl (by kernel_rfl) (by kernel_rfl) (by kernel_rfl) (fun _ _ _ h => h) (Or.inl ⟨by rfl, ?_⟩) (by assumption) ?_
            rotate_left
            · (intro w hSw; (try dsimp only at hSw); go_simp; try with_reducible rfl)
            try simp only [Act.put, List.getElem_toArray, List.getElem_cons_zero, List.getElem_cons_succ, List.setIfInBounds_toArray, List.set_cons_zero, List.set_cons_succ]
            refine wpAnyH_take (i := 3) (oi := _) (v := ?_) rfl (by kernel_rfl) (by kernel_rfl) (by kernel_rfl) (fun _ _ _ h => h) (Or.inl ⟨by rfl, ?_⟩) (by assumption) ?_
            rotate_left
            · (intro w hSw; (try dsimp only at hSw); go_simp; try with_reducible rfl)
            try simp only [Act.put, List.getElem_toArray, List.getElem_cons_zero, List.getElem_cons_succ, List.setIfInBounds_toArray, List.set_cons_zero, List.set_cons_succ]
            refine wpAnyH_take (i := 4) (oi := _) (v := ?_) rfl (by kernel_rfl) (by kernel_rfl) (by kernel_rfl) (fun _ _ _ h => h) (Or.inl ⟨by rfl, ?_⟩) (by assumption) ?_
            rotate_left
            · (intro w hSw; (try dsimp only at hSw); go_simp; try with_reducible rfl)
            try simp only [Act.put, List.getElem_toArray, List.getElem_cons_zero, List.getElem_cons_succ, List.setIfInBounds_toArray, List.set_cons_zero, List.set_cons_succ]
            refine wpAnyH_take (i := 5) (oi := _) (v := ?_) rfl (by kernel_rfl) (by kernel_rfl) (by kernel_rfl) (fun _ _ _ h => h) (Or.inl ⟨by rfl, ?_⟩) (by assumption) ?_
            rotate_left
            · (intro w hSw; (try dsimp only at hSw); go_simp; try with_reducible rfl)
            try simp only [Act.put, List.getElem_toArray, List.getElem_cons_zero, List.getElem_cons_succ, List.setIfInBounds_toArray, List.set_cons_zero, List.set_cons_succ]
            refine wpAnyH_take (i := 6) (oi := _) (v := ?_) rfl (by kernel_rfl) (by kernel_rfl) (by kernel_rfl) (fun _ _ _ h => h) (Or.inl ⟨by rfl, ?_⟩) (by assumption) ?_
            rotate_left
            · (intro w hSw; (try dsimp only at hSw); go_simp; try with_reducible rfl)
            try simp only [Act.put, List.getElem_toArray, List.getElem_cons_zero, List.getElem_cons_succ, List.setIfInBounds_toArray, List.set_cons_zero, List.set_cons_succ]
            refine wpAnyH_ready (rs := [7]) (by kernel_rfl) (by simp) ?_
            refine AllReadyH.cons rfl (fun K hK => ?_) (AllReadyH.nil)
            rw [if_pos (by rfl)]
            refine wp_append_own _ _ _ 24 rfl W.heap.size 36 i0 (.agg #[.string ⟨#[]⟩, .int .i64 0, .int .i64 0, .int .i64 0, .int .i64 0]) 5 48 Tryz.underlying24 hi hz0 hz1 hz2 rfl (by decide) (.slice (some ⟨g, 0, none⟩) k cap) k (flatC (out.take k)) rfl HTK.out ⟨g, 0, none⟩ (out.length - cap) 0 (flatC (out.drop cap)) rfl HFL.out HCEL.out (flatC_cell1 _) HMX.out.1 HMX.out.2 HBS.out ?_
            intro v4 w4 ho4 hg4 hn4
            refine hK.out _ _ hg4 (fun hHeld => ?_)
            try simp only [Act.put, List.getElem_toArray, List.getElem_cons_zero, List.getElem_cons_succ, List.setIfInBounds_toArray, List.set_cons_zero, List.set_cons_succ]
            refine wpAnyH_take (i := 8) (oi := _) (v := ?_) rfl (by kernel_rfl) (by kernel_rfl) (by kernel_rfl) (fun _ _ _ h => h) (Or.inl ⟨by rfl, ?_⟩) (by assumption) ?_
            rotate_left
            · (intro w hSw; (try dsimp only at hSw); go_simp; try with_reducible rfl)
            try simp only [Act.put, List.getElem_toArray, List.getElem_cons_zero, List.getElem_cons_succ, List.setIfInBounds_toArray, List.set_cons_zero, List.set_cons_succ]
            refine wpAnyH_done (by kernel_rfl) ?_ _
            have hown4 : w4.ownsRow W.heap.size 36 5 v4 (out.take k ++ out.drop cap).length (flatC (out.take k ++ out.drop cap)) := by rw [HLB.out, flatC_append]; exact ho4
            have hg4' : W5.grownBy w4 (some g) := grownBy_trans (⟨rfl, rfl, rfl, Nat.le_refl _, fun _ _ _ => rfl⟩ : W5.grownBy W5.drew (some g)) hg4
            all_goals (try go_wp2)
            go_ret
            exact ⟨_, out.take k ++ out.drop cap, q + 1 + 1, rfl, hown4, by rw [HLB.out]; have := HLN.out; have := HM.out.1; have := HM.out.2; have := HK.out; omega, HSB.out, by have := HQ.out; omega, push_reader (v := .slice (some ⟨g, 0, none⟩) k cap) HVK.out HLE.out HR5.out hg4', push_grown (v := .slice (some ⟨g, 0, none⟩) k cap) HVK.out HG5.out hg4'⟩
          · have HCEL := Lib.hid (cmds_cells (show CmdsAt W5.drew (some ⟨g, m * 5, none⟩) (out.length - m) (out.drop m) from own_tailC HO5.out m HM.out.2 (m * 5) (.inl rfl)))
            have HG0 : Hid (W5.drew.grownBy W5.drew (some g)) := ⟨rfl, rfl, rfl, Nat.le_refl _, fun _ _ _ => rfl⟩
            go_upto_region 11 with (fail)
            refine wp_region_held_drew (S := (fun w' => W5.drew.grownBy w' (some g))) (by kernel_rfl) HG0.out (fun hH => ?_)
            refine wpAnyH_take (i := 0) (oi := _) (v := ?_) rfl (by kernel_rfl) (by kernel_rfl) (by kernel_rfl) (fun _ _ _ h => h) (Or.inl ⟨by rfl, ?_⟩) (by assumption) ?_
            rotate_left
            · (intro w hSw; (try dsimp only at hSw); go_simp; try with_reducible rfl)
            try simp only [Act.put, List.getElem_toArray, List.getElem_cons_zero, List.setIfInBounds_toArray, List.set_cons_zero, List.set_cons_succ]
            refine wpAnyH_take (i := 1) (oi := _) (v := ?_) rfl (by kernel_rfl) (by kernel_rfl) (by kernel_rfl) (fun _ _ _ h => h) (Or.inl ⟨by rfl, ?_⟩) (by assumption) ?_
            rotate_left
            · (intro w hSw; (try dsimp only at hSw); go_simp; try with_reducible rfl)
            try simp only [Act.put, List.getElem_toArray, List.getElem_cons_zero, List.getElem_cons_succ, List.setIfInBounds_toArray, List.set_cons_zero, List.set_cons_succ]
            refine wpAnyH_take (i := 2) (oi := _) (v := ?_) rfl (by kernel_rfl) (by kernel_rfl) (by kernel_rfl) (fun _ _ _ h => h) (Or.inl ⟨by rfl, ?_⟩) (by assumption) ?_
            rotate_left
            · (intro w hSw; (try dsimp only at hSw); go_simp; try with_reducible rfl)
            try simp only [Act.put, List.getElem_toArray, List.getElem_cons_zero, List.getElem_cons_succ, List.setIfInBounds_toArray, List.set_cons_zero, List.set_cons_succ]
            refine wpAnyH_take (i := 3) (oi := _) (v := ?_) rfl (by kernel_rfl) (by kernel_rfl) (by kernel_rfl) (fun _ _ _ h => h) (Or.inl ⟨by rfl, ?_⟩) (by assumption) ?_
            rotate_left
            · (intro w hSw; (try dsimp only at hSw); go_simp; try with_reducible rfl)
            try simp only [Act.put, List.getElem_toArray, List.getElem_cons_zero, List.getElem_cons_succ, List.setIfInBounds_toArray, List.set_cons_zero, List.set_cons_succ]
            refine wpAnyH_take (i := 4) (oi := _) (v := ?_) rfl (by kernel_rfl) (by kernel_rfl) (by kernel_rfl) (fun _ _ _ h => h) (Or.inl ⟨by rfl, ?_⟩) (by assumption) ?_
            rotate_left
            · (intro w hSw; (try dsimp only at hSw); go_simp; try with_reducible rfl)
            try simp only [Act.put, List.getElem_toArray, List.getElem_cons_zero, List.getElem_cons_succ, List.setIfInBounds_toArray, List.set_cons_zero, List.set_cons_succ]
            refine wpAnyH_take (i := 5) (oi := _) (v := ?_) rfl (by kernel_rfl) (by kernel_rfl) (by kernel_rfl) (fun _ _ _ h => h) (Or.inl ⟨by rfl, ?_⟩) (by assumption) ?_
            rotate_left
            · (intro w hSw; (try dsimp only at hSw); go_simp; try with_reducible rfl)
            try simp only [Act.put, List.getElem_toArray, List.getElem_cons_zero, List.getElem_cons_succ, List.setIfInBounds_toArray, List.set_cons_zero, List.set_cons_succ]
            refine wpAnyH_take (i := 6) (oi := _) (v := ?_) rfl (by kernel_rfl) (by kernel_rfl) (by kernel_rfl) (fun _ _ _ h => h) (Or.inl ⟨by rfl, ?_⟩) (by assumption) ?_
            rotate_left
            · (intro w hSw; (try dsimp only at hSw); go_simp; try with_reducible rfl)
            try simp only [Act.put, List.getElem_toArray, List.getElem_cons_zero, List.getElem_cons_succ, List.setIfInBounds_toArray, List.set_cons_zero, List.set_cons_succ]
            refine wpAnyH_ready (rs := [7]) (by kernel_rfl) (by simp) ?_
            refine AllReadyH.cons rfl (fun K hK => ?_) (AllReadyH.nil)
            rw [if_pos (by rfl)]
            refine wp_append_own _ _ _ 24 rfl W.heap.size 36 i0 (.agg #[.string ⟨#[]⟩, .int .i64 0, .int .i64 0, .int .i64 0, .int .i64 0]) 5 48 Tryz.underlying24 hi hz0 hz1 hz2 rfl (by decide) (.slice (some ⟨g, 0, none⟩) k cap) k (flatC (out.take k)) rfl HTK.out ⟨g, m * 5, none⟩ (out.length - m) (cap - m) (flatC (out.drop m)) rfl HFL.out HCEL.out (flatC_cell1 _) HMX.out.1 HMX.out.2 HBS.out ?_
            intro v4 w4 ho4 hg4 hn4
            refine hK.out _ _ hg4 (fun hHeld => ?_)
            try simp only [Act.put, List.getElem_toArray, List.getElem_cons_zero, List.getElem_cons_succ, List.setIfInBounds_toArray, List.set_cons_zero, List.set_cons_succ]
            refine wpAnyH_take (i := 8) (oi := _) (v := ?_) rfl (by kernel_rfl) (by kernel_rfl) (by kernel_rfl) (fun _ _ _ h => h) (Or.inl ⟨by rfl, ?_⟩) (by assumption) ?_
            rotate_left
            · (intro w hSw; (try dsimp only at hSw); go_simp; try with_reducible rfl)
            try simp only [Act.put, List.getElem_toArray, List.getElem_cons_zero, List.getElem_cons_succ, List.setIfInBounds_toArray, List.set_cons_zero, List.set_cons_succ]
            refine wpAnyH_done (by kernel_rfl) ?_ _
            have hown4 : w4.ownsRow W.heap.size 36 5 v4 (out.take k ++ out.drop m).length (flatC (out.take k ++ out.drop m)) := by rw [HLB.out, flatC_append]; exact ho4
            have hg4' : W5.grownBy w4 (some g) := grownBy_trans (⟨rfl, rfl, rfl, Nat.le_refl _, fun _ _ _ => rfl⟩ : W5.grownBy W5.drew (some g)) hg4
            all_goals (try go_wp2)
            go_ret
            exact ⟨_, out.take k ++ out.drop m, q + 1 + 1, rfl, hown4, by rw [HLB.out]; have := HLN.out; have := HM.out.1; have := HM.out.2; have := HK.out; omega, HSB.out, by have := HQ.out; omega, push_reader (v := .slice (some ⟨g, 0, none⟩) k cap) HVK.out HLE.out HR5.out hg4', push_grown (v := .slice (some ⟨g, 0, none⟩) k cap) HVK.out HG5.out hg4'⟩
        · have ht1 : (tt == 1) = false := beq_eq_false_iff_ne.2 ht
          clear ht
          by_cases ht : tt = 2
          · subst ht
            clear t0 t1
            obtain ⟨x0, x1, x2, x3, x4⟩ := flatC_get out k x HX.out
            have c0 : W5.cell? ⟨g, k * 5, none⟩ = some (.string x.p) := by rw [HO5.out.cellAt _ (by have := HK.out; omega)]; exact x0
            have c1 : W5.cell? ⟨g, k * 5 + 1, none⟩ = some (.int .i64 x.fk) := by rw [HO5.out.cellAt _ (by have := HK.out; omega)]; exact x1
            have c2 : W5.cell? ⟨g, k * 5 + 2, none⟩ = some (.int .i64 x.fv) := by rw [HO5.out.cellAt _ (by have := HK.out; omega)]; exact x2
            have c3 : W5.cell? ⟨g, k * 5 + 3, none⟩ = some (.int .i64 x.tk) := by rw [HO5.out.cellAt _ (by have := HK.out; omega)]; exact x3
            have c4 : W5.cell? ⟨g, k * 5 + 4, none⟩ = some (.int .i64 x.tv) := by rw [HO5.out.cellAt _ (by have := HK.out; omega)]; exact x4
            clear x0 x1 x2 x3 x4
            go_wp2_with (at_builtin; refine wpList_append_cmds rfl _ _ rfl W.heap.size _ out rfl (HO5.out.alloc _) _ _ _ [x] rfl (cmds_lit W5 x) (by have := HLN.out; simp; omega) (by have := HG5.out.size; simp; omega) ?_; intro v' w6 ho6 hg6)
            have hg6' := grownBy_trans (grownBy_new W5 (.cells #[.string x.p, .int .i64 x.fk, .int .i64 x.fv, .int .i64 x.tk, .int .i64 x.tv] 36) _) hg6
            go_ret
            exact ⟨_, out ++ [x], q + 1 + 1, rfl, ho6, by simp; have := HLN.out; omega, shortC_push HSH.out (HSH.out.at HX.out), by have := HQ.out; omega, push_reader HVB.out HLE.out HR5.out hg6', push_grown HVB.out HG5.out hg6'⟩
          · have ht2 : (tt == 2) = false := beq_eq_false_iff_ne.2 ht
            clear ht
            by_cases ht : tt = 3
            · subst ht
              clear t0 t1
              go_wp2_with fail
              refine (HOF.out (q + 1 + 1) _ (by have := HQ.out; have := HPP.out; omega) HR5.out).mono ?_
              rintro e W6 ⟨s, hm6, rfl, hR6, hg6⟩
              have HO6 := Lib.hid (own_reader HO5.out HLT.out hg6)
              have HG6 := Lib.hid (grownBy_trans HG5.out hg6)
              have HR6 := Lib.hid hR6
              have HS6 := Lib.hid (show s.size ≤ 66 by rcases (by simpa [brokenPaths] using hm6) with rfl | rfl | rfl <;> decide)
              obtain ⟨x0, -, -, -, -⟩ := flatC_get out k x HX.out
              have c0 : W6.cell? ⟨g, k * 5, none⟩ = some (.string x.p) := by rw [HO6.out.cellAt _ (by have := HK.out; omega)]; exact x0
              have z0 := HO6.out.frozenAt (k * 5)
              clear hR6 hg6 x0 hm6
              go_wp2
              go_ret
              exact ⟨_, out.set k ⟨s, x.fk, x.fv, x.tk, x.tv⟩, _, rfl, own_setPath HO6.out HX.out s, by rw [List.length_set]; have := HLN.out; omega, shortC_set HSH.out HS6.out, by have := HQ.out; omega,
                HR6.out.setNew _ _ (by have := HLE.out; have := HB.out.1; show N0 ≤ g; omega), grownBy_setCell_new HG6.out _ _ HB.out.1⟩
            · have ht3 : (tt == 3) = false := beq_eq_false_iff_ne.2 ht
              clear ht t0 t1
              go_wp2
              go_ret
              exact ⟨_, out, q + 1 + 1, rfl, HO5.out, by have := HLN.out; omega, HSH.out, by have := HQ.out; omega, HR5.out, HG5.out⟩
  · have hr' : (r == 0) = false := beq_eq_false_iff_ne.2 hr
    clear r0 r1 hr
    go_wp2_with fail
    refine (HT.out n (HN.out.1) (by have := HN.out.2; omega) _ HW2.out HO2.out HR2.out).mono ?_; rintro e W3 ⟨v, out, q, rfl, hown0, hlen, hsh, hq, hR3, hg3⟩
    have hown := own_mono hown0 HG2.out.size
    have HG3 := Lib.hid (grownBy_trans HG2.out hg3)
    have HSH := Lib.hid hsh
    have HLN := Lib.hid hlen
    have HQ := Lib.hid hq
    have HR3 := Lib.hid hR3
    clear hown0 hg3 hsh hlen hq hR3
    by_cases hl0 : out.length = 0
    · obtain ⟨a, cap, rfl, -⟩ := cmds_of_own hown
      have HO := Lib.hid hown
      have hl0' : (out.length : Int) = 0 := by omega
      clear hl0 hown
      go_wp2
      go_ret
      exact ⟨_, out, q, rfl, HO.out, by have := HLN.out; omega, HSH.out, by have := HQ.out; omega, HR3.out, HG3.out⟩
    · have hl0 : 0 < out.length := by omega
      have hl1 : (0 : Int) < out.length := by omega
      obtain ⟨g, cap, rfl, hgb, hlc, hcm⟩ := own_sliceC hown hl0
      have HB := Lib.hid (And.intro hgb (And.intro hlc hcm))
      have HO3 := Lib.hid hown
      clear hgb hlc hcm hown
      go_wp2_with fail
      refine (HPK.out q out.length (by omega) (by have := HLN.out; omega) _ (by have := HQ.out; have := HPP.out; omega) HR3.out).mono ?_; rintro e W4 ⟨k', rfl, k0, k1, hR4, hg4⟩
      obtain ⟨k, rfl⟩ := Int.eq_ofNat_of_zero_le k0
      have HK := Lib.hid (show k < out.length by omega)
      have HO4 := Lib.hid (own_reader HO3.out HLT.out hg4)
      clear k0 k1
      go_wp2_with fail
      refine (HPK.out (q + 1) 14 (by omega) (by omega) _ (by have := HQ.out; have := HPP.out; omega) hR4).mono ?_; rintro e W5 ⟨tt, rfl, t0, t1, hR5, hg5⟩
      have HO5 := Lib.hid (own_reader HO4.out HLT.out hg5)
      have HG5 := Lib.hid (grownBy_trans HG3.out (grownBy_trans hg4 hg5))
      have HR5 := Lib.hid hR5
      obtain ⟨x, hx⟩ : ∃ x, out[k]? = some x := ⟨_, List.getElem?_eq_getElem HK.out⟩
      have HX := Lib.hid hx
      have hkl : (k : Int) < out.length := by have := HK.out; omega
      have HVB := Lib.hid (fun k (e : (Value.slice (some ⟨g, 0, none⟩) out.length cap).ownBlock = some k) => (HO5.out.lt k e).1)
      clear hx hg4 hg5 hR4 hR5 hl0
      by_cases ht : tt = 0
      · subst ht
        clear t0 t1
        go_wp2_with fail
        refine (HC.out (q + 1 + 1) _ (by have := HQ.out; have := HPP.out; omega) HR5.out).mono ?_; rintro e W6 ⟨k6, v6, q6, rfl, -, -, -, -, hq6, hR6, hg6⟩
        have HO6 := Lib.hid (own_reader HO5.out HLT.out hg6)
        have HG6 := Lib.hid (grownBy_trans HG5.out hg6)
        have HR6 := Lib.hid hR6
        have HQ6 := Lib.hid hq6
        obtain ⟨-, -, -, x3, x4⟩ := flatC_get out k x HX.out
        have c3 : W6.cell? ⟨g, k * 5 + 3, none⟩ = some (.int .i64 x.tk) := by rw [HO6.out.cellAt _ (by have := HK.out; omega)]; exact x3
        have c4 : W6.cell? ⟨g, k * 5 + 4, none⟩ = some (.int .i64 x.tv) := by rw [HO6.out.cellAt _ (by have := HK.out; omega)]; exact x4
        have z3 := HO6.out.frozenAt (k * 5 + 3)
        have z4 := HO6.out.frozenAt (k * 5 + 4)
        unfold con
        clear hq6 hR6 hg6 x3 x4
        go_wp2
        go_ret
        exact ⟨_, out.set k ⟨x.p, x.fk, x.fv, k6, v6⟩, q6, rfl, own_setTo HO6.out HX.out k6 v6, by rw [List.length_set]; have := HLN.out; omega, shortC_set HSH.out (show x.p.size ≤ 66 from HSH.out.at HX.out), by have := HQ.out; have := HQ6.out; omega,
          (HR6.out.setNew _ _ (by have := HLE.out; have := HB.out.1; show N0 ≤ g; omega)).setNew _ _ (by have := HLE.out; have := HB.out.1; show N0 ≤ g; omega), grownBy_setCell_new (grownBy_setCell_new HG6.out _ _ HB.out.1) _ _ HB.out.1⟩
      · have ht0 : (tt == 0) = false := beq_eq_false_iff_ne.2 ht
        clear ht
        by_cases ht : tt = 1
        · subst ht
          clear t0 t1
          have hk2 : (k : Int) ≤ cap := by have := HK.out; have := HB.out.2.1; omega
          have hk0 : (0 : Int) ≤ k := by omega
          have hk3 : (k : Int) + 1 ≤ out.length := by omega
          have hlc2 : (out.length : Int) ≤ cap := by have := HB.out.2.1; omega
          obtain ⟨m, hm⟩ : ∃ m, m = k + 1 := ⟨_, rfl⟩
          have hwr : IntKind.i64.wrap ((k : Int) + 1) = (m : Int) := (IntWalk.i64_in _ (by have := HLN.out; omega)).trans (by omega)
          have hm0 : (0 : Int) ≤ m := by omega
          have hm1 : (m : Int) ≤ out.length := by omega
          have hm2 : (m : Int) ≤ cap := by omega
          have hmm : m ≤ out.length := by omega
          have HM := Lib.hid (And.intro hm hmm)
          have HTK := Lib.hid (show W5.drew.ownsRow W.heap.size 36 5 (.slice (some ⟨g, 0, none⟩) k cap) k (flatC (out.take k)) by
            have := own_takeC HO5.out k (by have := HK.out; omega)
            rw [show (out.take k).length = k by rw [List.length_take]; have := HK.out; omega] at this
            exact this)
          have HFL := Lib.hid (show (flatC (out.drop m)).length = (out.length - m) * 5 by rw [flatC_length, List.length_drop])
          have HMX := Lib.hid (show k + (out.length - m) ≤ maxLen ∧ (k + (out.length - m)) * 48 ≤ 140737488355328 by unfold maxLen; have := HLN.out; have := HK.out; omega)
          have HBS := Lib.hid (show W.heap.size ≤ W5.drew.heap.size from HG5.out.size)
          have HSB := Lib.hid (show ShortC 66 (out.take k ++ out.drop m) from shortC_part HSH.out (fun y hy => by
            rcases List.mem_append.1 hy with h | h
            · exact List.mem_of_mem_take h
            · exact List.mem_of_mem_drop h))
          have HLB := Lib.hid (show (out.take k ++ out.drop m).length = k + (out.length - m) by rw [List.length_append, List.length_take, List.length_drop]; have := HK.out; omega)
          clear hm hmm
          have HVK := Lib.hid (fun k' (e : (Value.slice (some ⟨g, 0, none⟩) k cap).ownBlock = some k') => show W.heap.size ≤ k' by cases e; exact HB.out.1)
          by_cases hcap : cap = m
          · subst hcap
            have HCEL := Lib.hid (cmds_cells (show CmdsAt W5.drew (some ⟨g, 0, none⟩) (out.length - cap) (out.drop cap) from own_tailC HO5.out cap HM.out.2 0 (.inr (by have h1 := HB.out.2.1; have h2 := HM.out.2; omega))))
            have HG0 : Hid (W5.drew.grownBy W5.drew (some g)) := ⟨rfl, rfl, rfl, Nat.le_refl _, fun _ _ _ => rfl⟩
            go_upto_region 11 with (fail)
            refine wp_region_held_drew (S := (fun w' => W5.drew.grownBy w' (some g))) (by kernel_rfl) HG0.out (fun hH => ?_)
            refine wpAnyH_take (i := 0) (oi := _) (v := ?_) rfl (by kernel_rfl) (by kernel_rfl) (by kernel_rfl) (fun _ _ _ h => h) (Or.inl ⟨by rfl, ?_⟩) (by assumption) ?_
            rotate_left
            · (intro w hSw; (try dsimp only at hSw); go_simp; try with_reducible rfl)
            try simp only [Act.put, List.getElem_toArray, List.getElem_cons_zero, List.setIfInBounds_toArray, List.set_cons_zero, List.set_cons_succ]
            refine wpAnyH_take (i := 1) (oi := _) (v := ?_) rfl (by kernel_rfl) (by kernel_rfl) (by kernel_rfl) (fun _ _ _ h => h) (Or.inl ⟨by rfl, ?_⟩) (by assumption) ?_
            rotate_left
            · (intro w hSw; (try dsimp only at hSw); go_simp; try with_reducible rfl)
            try simp only [Act.put, List.getElem_toArray, List.getElem_cons_zero, List.getElem_cons_succ, List.setIfInBounds_toArray, List.set_cons_zero, List.set_cons_succ]
            refine wpAnyH_take (i := 2) (oi := _) (v := ?_) rfl (by kernel_rfl) (by kernel_rfl) (by kernel_rfl) (fun _ _ _ h => h) (Or.inl ⟨by rfl, ?_⟩) (by assumption) ?_
            rotate_left
            · (intro w hSw; (try dsimp only at hSw); go_simp; try with_reducible rfl)
            try simp only [Act.put, List.getElem_toArray, List.getElem_cons_zero, List.getElem_cons_succ, List.setIfInBounds_toArray, List.set_cons_zero, List.set_cons_succ]
            refine wpAnyH_take (i := 3) (oi := _) (v := ?_) rfl (by kernel_rfl) (by kernel_rfl) (by kernel_rfl) (fun _ _ _ h => h) (Or.inl ⟨by rfl, ?_⟩) (by assumption) ?_
            rotate_left
            · (intro w hSw; (try dsimp only at hSw); go_simp; try with_reducible rfl)
            try simp only [Act.put, List.getElem_toArray, List.getElem_cons_zero, List.getElem_cons_succ, List.setIfInBounds_toArray, List.set_cons_zero, List.set_cons_succ]
            refine wpAnyH_take (i := 4) (oi := _) (v := ?_) rfl (by kernel_rfl) (by kernel_rfl) (by kernel_rfl) (fun _ _ _ h => h) (Or.inl ⟨by rfl, ?_⟩) (by assumption) ?_
            rotate_left
            · (intro w hSw; (try dsimp only at hSw); go_simp; try with_reducible rfl)
            try simp only [Act.put, List.getElem_toArray, List.getElem_cons_zero, List.getElem_cons_succ, List.setIfInBounds_toArray, List.set_cons_zero, List.set_cons_succ]
            refine wpAnyH_take (i := 5) (oi := _) (v := ?_) rfl (by kernel_rfl) (by kernel_rfl) (by kernel_rfl) (fun _ _ _ h => h) (Or.inl ⟨by rfl, ?_⟩) (by assumption) ?_
            rotate_left
            · (intro w hSw; (try dsimp only at hSw); go_simp; try with_reducible rfl)
            try simp only [Act.put, List.getElem_toArray, List.getElem_cons_zero, List.getElem_cons_succ, List.setIfInBounds_toArray, List.set_cons_zero, List.set_cons_succ]
            refine wpAnyH_take (i := 6) (oi := _) (v := ?_) rfl (by kernel_rfl) (by kernel_rfl) (by kernel_rfl) (fun _ _ _ h => h) (Or.inl ⟨by rfl, ?_⟩) (by assumption) ?_
            rotate_left
            · (intro w hSw; (try dsimp only at hSw); go_simp; try with_reducible rfl)
            try simp only [Act.put, List.getElem_toArray, List.getElem_cons_zero, List.getElem_cons_succ, List.setIfInBounds_toArray, List.set_cons_zero, List.set_cons_succ]
            refine wpAnyH_ready (rs := [7]) (by kernel_rfl) (by simp) ?_
            refine AllReadyH.cons rfl (fun K hK => ?_) (AllReadyH.nil)
            rw [if_pos (by rfl)]
            refine wp_append_own _ _ _ 24 rfl W.heap.size 36 i0 (.agg #[.string ⟨#[]⟩, .int .i64 0, .int .i64 0, .int .i64 0, .int .i64 0]) 5 48 Tryz.underlying24 hi hz0 hz1 hz2 rfl (by decide) (.slice (some ⟨g, 0, none⟩) k cap) k (flatC (out.take k)) rfl HTK.out ⟨g, 0, none⟩ (out.length - cap) 0 (flatC (out.drop cap)) rfl HFL.out HCEL.out (flatC_cell1 _) HMX.out.1 HMX.out.2 HBS.out ?_
            intro v4 w4 ho4 hg4 hn4
            refine hK.out _ _ hg4 (fun hHeld => ?_)
            try simp only [Act.put, List.getElem_toArray, List.getElem_cons_zero, List.getElem_cons_succ, List.setIfInBounds_toArray, List.set_cons_zero, List.set_cons_succ]
            refine wpAnyH_take (i := 8) (oi := _) (v := ?_) rfl (by kernel_rfl) (by kernel_rfl) (by kernel_rfl) (fun _ _ _ h => h) (Or.inl ⟨by rfl, ?_⟩) (by assumption) ?_
            rotate_left
            · (intro w hSw; (try dsimp only at hSw); go_simp; try with_reducible rfl)
            try simp only [Act.put, List.getElem_toArray, List.getElem_cons_zero, List.getElem_cons_succ, List.setIfInBounds_toArray, List.set_cons_zero, List.set_cons_succ]
            refine wpAnyH_done (by kernel_rfl) ?_ _
            have hown4 : w4.ownsRow W.heap.size 36 5 v4 (out.take k ++ out.drop cap).length (flatC (out.take k ++ out.drop cap)) := by rw [HLB.out, flatC_append]; exact ho4
            have hg4' : W5.grownBy w4 (some g) := grownBy_trans (⟨rfl, rfl, rfl, Nat.le_refl _, fun _ _ _ => rfl⟩ : W5.grownBy W5.drew (some g)) hg4
            all_goals (try go_wp2)
            go_ret
            exact ⟨_, out.take k ++ out.drop cap, q + 1 + 1, rfl, hown4, by rw [HLB.out]; have := HLN.out; have := HM.out.1; have := HM.out.2; have := HK.out; omega, HSB.out, by have := HQ.out; omega, push_reader (v := .slice (some ⟨g, 0, none⟩) k cap) HVK.out HLE.out HR5.out hg4', push_grown (v := .slice (some ⟨g, 0, none⟩) k cap) HVK.out HG5.out hg4'⟩
          · have HCEL := Lib.hid (cmds_cells (show CmdsAt W5.drew (some ⟨g, m * 5, none⟩) (out.length - m) (out.drop m) from own_tailC HO5.out m HM.out.2 (m * 5) (.inl rfl)))
            have HG0 : Hid (W5.drew.grownBy W5.drew (some g)) := ⟨rfl, rfl, rfl, Nat.le_refl _, fun _ _ _ => rfl⟩
            go_upto_region 11 with (fail)
            refine wp_region_held_drew (S := (fun w' => W5.drew.grownBy w' (some g))) (by kernel_rfl) HG0.out (fun hH => ?_)
            refine wpAnyH_take (i := 0) (oi := _) (v := ?_) rfl (by kernel_rfl) (by kernel_rfl) (by kernel_rfl) (fun _ _ _ h => h) (Or.inl ⟨by rfl, ?_⟩) (by assumption) ?_
            rotate_left
            · (intro w hSw; (try dsimp only at hSw); go_simp; try with_reducible rfl)
            try simp only [Act.put, List.getElem_toArray, List.getElem_cons_zero, List.setIfInBounds_toArray, List.set_cons_zero, List.set_cons_succ]
            refine wpAnyH_take (i := 1) (oi := _) (v := ?_) rfl (by kernel_rfl) (by kernel_rfl) (by kernel_rfl) (fun _ _ _ h => h) (Or.inl ⟨by rfl, ?_⟩) (by assumption) ?_
            rotate_left
            · (intro w hSw; (try dsimp only at hSw); go_simp; try with_reducible rfl)
            try simp only [Act.put, List.getElem_toArray, List.getElem_cons_zero, List.getElem_cons_succ, List.setIfInBounds_toArray, List.set_cons_zero, List.set_cons_succ]
            refine wpAnyH_take (i := 2) (oi := _) (v := ?_) rfl (by kernel_rfl) (by kernel_rfl) (by kernel_rfl) (fun _ _ _ h => h) (Or.inl ⟨by rfl, ?_⟩) (by assumption) ?_
            rotate_left
            · (intro w hSw; (try dsimp only at hSw); go_simp; try with_reducible rfl)
            try simp only [Act.put, List.getElem_toArray, List.getElem_cons_zero, List.getElem_cons_succ, List.setIfInBounds_toArray, List.set_cons_zero, List.set_cons_succ]
            refine wpAnyH_take (i := 3) (oi := _) (v := ?_) rfl (by kernel_rfl) (by kernel_rfl) (by kernel_rfl) (fun _ _ _ h => h) (Or.inl ⟨by rfl, ?_⟩) (by assumption) ?_
            rotate_left
            · (intro w hSw; (try dsimp only at hSw); go_simp; try with_reducible rfl)
            try simp only [Act.put, List.getElem_toArray, List.getElem_cons_zero, List.getElem_cons_succ, List.setIfInBounds_toArray, List.set_cons_zero, List.set_cons_succ]
            refine wpAnyH_take (i := 4) (oi := _) (v := ?_) rfl (by kernel_rfl) (by kernel_rfl) (by kernel_rfl) (fun _ _ _ h => h) (Or.inl ⟨by rfl, ?_⟩) (by assumption) ?_
            rotate_left
            · (intro w hSw; (try dsimp only at hSw); go_simp; try with_reducible rfl)
            try simp only [Act.put, List.getElem_toArray, List.getElem_cons_zero, List.getElem_cons_succ, List.setIfInBounds_toArray, List.set_cons_zero, List.set_cons_succ]
            refine wpAnyH_take (i := 5) (oi := _) (v := ?_) rfl (by kernel_rfl) (by kernel_rfl) (by kernel_rfl) (fun _ _ _ h => h) (Or.inl ⟨by rfl, ?_⟩) (by assumption) ?_
            rotate_left
            · (intro w hSw; (try dsimp only at hSw); go_simp; try with_reducible rfl)
            try simp only [Act.put, List.getElem_toArray, List.getElem_cons_zero, List.getElem_cons_succ, List.setIfInBounds_toArray, List.set_cons_zero, List.set_cons_succ]
            refine wpAnyH_take (i := 6) (oi := _) (v := ?_) rfl (by kernel_rfl) (by kernel_rfl) (by kernel_rfl) (fun _ _ _ h => h) (Or.inl ⟨by rfl, ?_⟩) (by assumption) ?_
            rotate_left
            · (intro w hSw; (try dsimp only at hSw); go_simp; try with_reducible rfl)
            try simp only [Act.put, List.getElem_toArray, List.getElem_cons_zero, List.getElem_cons_succ, List.setIfInBounds_toArray, List.set_cons_zero, List.set_cons_succ]
            refine wpAnyH_ready (rs := [7]) (by kernel_rfl) (by simp) ?_
            refine AllReadyH.cons rfl (fun K hK => ?_) (AllReadyH.nil)
            rw [if_pos (by rfl)]
            refine wp_append_own _ _ _ 24 rfl W.heap.size 36 i0 (.agg #[.string ⟨#[]⟩, .int .i64 0, .int .i64 0, .int .i64 0, .int .i64 0]) 5 48 Tryz.underlying24 hi hz0 hz1 hz2 rfl (by decide) (.slice (some ⟨g, 0, none⟩) k cap) k (flatC (out.take k)) rfl HTK.out ⟨g, m * 5, none⟩ (out.length - m) (cap - m) (flatC (out.drop m)) rfl HFL.out HCEL.out (flatC_cell1 _) HMX.out.1 HMX.out.2 HBS.out ?_
            intro v4 w4 ho4 hg4 hn4
            refine hK.out _ _ hg4 (fun hHeld => ?_)
            try simp only [Act.put, List.getElem_toArray, List.getElem_cons_zero, List.getElem_cons_succ, List.setIfInBounds_toArray, List.set_cons_zero, List.set_cons_succ]
            refine wpAnyH_take (i := 8) (oi := _) (v := ?_) rfl (by kernel_rfl) (by kernel_rfl) (by kernel_rfl) (fun _ _ _ h => h) (Or.inl ⟨by rfl, ?_⟩) (by assumption) ?_
            rotate_left
            · (intro w hSw; (try dsimp only at hSw); go_simp; try with_reducible rfl)
            try simp only [Act.put, List.getElem_toArray, List.getElem_cons_zero, List.getElem_cons_succ, List.setIfInBounds_toArray, List.set_cons_zero, List.set_cons_succ]
            refine wpAnyH_done (by kernel_rfl) ?_ _
            have hown4 : w4.ownsRow W.heap.size 36 5 v4 (out.take k ++ out.drop m).length (flatC (out.take k ++ out.drop m)) := by rw [HLB.out, flatC_append]; exact ho4
            have hg4' : W5.grownBy w4 (some g) := grownBy_trans (⟨rfl, rfl, rfl, Nat.le_refl _, fun _ _ _ => rfl⟩ : W5.grownBy W5.drew (some g)) hg4
            all_goals (try go_wp2)
            go_ret
            exact ⟨_, out.take k ++ out.drop m, q + 1 + 1, rfl, hown4, by rw [HLB.out]; have := HLN.out; have := HM.out.1; have := HM.out.2; have := HK.out; omega, HSB.out, by have := HQ.out; omega, push_reader (v := .slice (some ⟨g, 0, none⟩) k cap) HVK.out HLE.out HR5.out hg4', push_grown (v := .slice (some ⟨g, 0, none⟩) k cap) HVK.out HG5.out hg4'⟩
        · have ht1 : (tt == 1) = false := beq_eq_false_iff_ne.2 ht
          clear ht
          by_cases ht : tt = 2
          · subst ht
            clear t0 t1
            obtain ⟨x0, x1, x2, x3, x4⟩ := flatC_get out k x HX.out
            have c0 : W5.cell? ⟨g, k * 5, none⟩ = some (.string x.p) := by rw [HO5.out.cellAt _ (by have := HK.out; omega)]; exact x0
            have c1 : W5.cell? ⟨g, k * 5 + 1, none⟩ = some (.int .i64 x.fk) := by rw [HO5.out.cellAt _ (by have := HK.out; omega)]; exact x1
            have c2 : W5.cell? ⟨g, k * 5 + 2, none⟩ = some (.int .i64 x.fv) := by rw [HO5.out.cellAt _ (by have := HK.out; omega)]; exact x2
            have c3 : W5.cell? ⟨g, k * 5 + 3, none⟩ = some (.int .i64 x.tk) := by rw [HO5.out.cellAt _ (by have := HK.out; omega)]; exact x3
            have c4 : W5.cell? ⟨g, k * 5 + 4, none⟩ = some (.int .i64 x.tv) := by rw [HO5.out.cellAt _ (by have := HK.out; omega)]; exact x4
            clear x0 x1 x2 x3 x4
            go_wp2_with (at_builtin; refine wpList_append_cmds rfl _ _ rfl W.heap.size _ out rfl (HO5.out.alloc _) _ _ _ [x] rfl (cmds_lit W5 x) (by have := HLN.out; simp; omega) (by have := HG5.out.size; simp; omega) ?_; intro v' w6 ho6 hg6)
            have hg6' := grownBy_trans (grownBy_new W5 (.cells #[.string x.p, .int .i64 x.fk, .int .i64 x.fv, .int .i64 x.tk, .int .i64 x.tv] 36) _) hg6
            go_ret
            exact ⟨_, out ++ [x], q + 1 + 1, rfl, ho6, by simp; have := HLN.out; omega, shortC_push HSH.out (HSH.out.at HX.out), by have := HQ.out; omega, push_reader HVB.out HLE.out HR5.out hg6', push_grown HVB.out HG5.out hg6'⟩
          · have ht2 : (tt == 2) = false := beq_eq_false_iff_ne.2 ht
            clear ht
            by_cases ht : tt = 3
            · subst ht
              clear t0 t1
              go_wp2_with fail
              refine (HOF.out (q + 1 + 1) _ (by have := HQ.out; have := HPP.out; omega) HR5.out).mono ?_
              rintro e W6 ⟨s, hm6, rfl, hR6, hg6⟩
              have HO6 := Lib.hid (own_reader HO5.out HLT.out hg6)
              have HG6 := Lib.hid (grownBy_trans HG5.out hg6)
              have HR6 := Lib.hid hR6
              have HS6 := Lib.hid (show s.size ≤ 66 by rcases (by simpa [brokenPaths] using hm6) with rfl | rfl | rfl <;> decide)
              obtain ⟨x0, -, -, -, -⟩ := flatC_get out k x HX.out
              have c0 : W6.cell? ⟨g, k * 5, none⟩ = some (.string x.p) := by rw [HO6.out.cellAt _ (by have := HK.out; omega)]; exact x0
              have z0 := HO6.out.frozenAt (k * 5)
              clear hR6 hg6 x0 hm6
              go_wp2
              go_ret
              exact ⟨_, out.set k ⟨s, x.fk, x.fv, x.tk, x.tv⟩, _, rfl, own_setPath HO6.out HX.out s, by rw [List.length_set]; have := HLN.out; omega, shortC_set HSH.out HS6.out, by have := HQ.out; omega,
                HR6.out.setNew _ _ (by have := HLE.out; have := HB.out.1; show N0 ≤ g; omega), grownBy_setCell_new HG6.out _ _ HB.out.1⟩
            · have ht3 : (tt == 3) = false := beq_eq_false_iff_ne.2 ht
              clear ht t0 t1
              go_wp2
              go_ret
              exact ⟨_, out, q + 1 + 1, rfl, HO5.out, by have := HLN.out; omega, HSH.out, by have := HQ.out; omega, HR5.out, HG5.out⟩

end Go.Proofs.YtpjoahddbdmbpaaGreatDoor

/-
  WALKS: drawn logs, out of the code: spec.DrawLogValid, DrawLogUndo, DrawLogApply, DrawLogFits.
-/
namespace Go.Proofs.YtpjoahddbdmbpaaGreatDoor
open Go.RowKit
set_option linter.unusedVariables false

/-- A drawn log, out of the code. -/
def LogsPost (W : World) (e : Ending) (W' : World) : Prop :=
  ∃ (sl : Value) (cs : List Cmd), e = .returned sl ∧ W'.ownsRow W.heap.size 36 5 sl cs.length (flatC cs) ∧ cs.length ≤ 21 ∧ ShortC 66 cs ∧ Below W.heap.size W W'

/-- A drawn tree and a drawn log. -/
def TreeLogPost (W : World) (e : Ending) (W' : World) : Prop :=
  ∃ (sl : Value) (ns : List Nd) (v : Value) (cs : List Cmd), e = .returned (.tuple #[sl, v]) ∧ Drawn W W' sl ns ∧ W'.ownsRow W.heap.size 36 5 v cs.length (flatC cs) ∧ cs.length ≤ 21 ∧ ShortC 66 cs

set_option maxHeartbeats 1000000 in
set_option maxRecDepth 100000 in
theorem drawLogApply_c (a : Option Addr) (len cap : Nat) (zs : List Int) (W : World) (h : IsRow .u8 W a len cap zs) :
    Calls Tryz.prog 15 #[.slice a len cap] W (TreeLogPost W) := by
  have HO := Lib.hid (l6Open_c a len cap zs W h)
  have HT := Lib.hid (fun W1 hR => l91Any_c (W.heap.size + 1) W.heap.size 0 W1 (by omega) hR)
  clear h
  go_enter Tryz.func15, Tryz.ntmps15
  go_wp2_with fail
  refine HO.out.mono ?_; rintro e W1 ⟨rfl, hR, hB⟩
  have HS1 := Lib.hid (show W.heap.size < W1.heap.size from hR.lt)
  have HB1 := Lib.hid hB
  clear hB
  go_wp2_with fail
  refine (HT.out _ hR).mono ?_; rintro e W2 ⟨sl, ns, q, rfl, hown, -, hl, hs, hq, hR2, hg⟩
  have HG2 := Lib.hid hg
  have HBK := Lib.hid (l91Broken_c (W.heap.size + 1) W.heap.size q W1.heap.size sl ns (by omega) hs HS1.out W2 hg.size hown (by omega) hR2)
  have HON := Lib.hid (And.intro hown (And.intro hl hs))
  clear hown hl hs hg hR hq hR2
  go_wp2_with fail
  refine HBK.out.mono ?_; rintro e W3 ⟨v, out, q3, rfl, hown3, hl3, hs3, -, -, hg3⟩
  have B3 := Lib.hid (below_of_reader HB1.out (grownBy_trans HG2.out hg3))
  have HX := Lib.hid (And.intro hl3 (And.intro hs3 (own_mono hown3 (show W.heap.size ≤ W2.heap.size by have h1 := HS1.out; have h2 := HG2.out.size; omega))))
  have HN3 := Lib.hid (own_mono (own_reader HON.out.1 HS1.out hg3) (show W.heap.size ≤ W1.heap.size by have h1 := HS1.out; omega))
  clear hown3 hl3 hs3 hg3
  go_wp2
  go_ret2
  exact ⟨_, ns, _, out, rfl, ⟨HN3.out, HON.out.2.1, HON.out.2.2, B3.out⟩, HX.out.2.2, HX.out.1, HX.out.2.1⟩

set_option maxHeartbeats 1000000 in
set_option maxRecDepth 100000 in
theorem drawLogFits_c (a : Option Addr) (len cap : Nat) (zs : List Int) (W : World) (h : IsRow .u8 W a len cap zs) :
    Calls Tryz.prog 5 #[.slice a len cap] W (TreeLogPost W) := by
  have HV := Lib.hid (drawLogApply_c a len cap zs W h)
  clear h
  go_enter Tryz.func5, Tryz.ntmps5
  go_wp2_with fail
  refine HV.out.mono ?_; rintro e W1 ⟨sl, ns, v, cs, rfl, h1, h2, h3, h4⟩
  have HX := Lib.hid (And.intro h1 (And.intro h2 (And.intro h3 h4)))
  clear h1 h2 h3 h4
  go_wp2
  go_ret2
  exact ⟨_, ns, _, cs, rfl, HX.out.1, HX.out.2.1, HX.out.2.2.1, HX.out.2.2.2⟩

end Go.Proofs.YtpjoahddbdmbpaaGreatDoor

/-
  WALKS: orders of the model: spec.l15Must, MustPrecede, l15Once, l15Fits, OrderFits.
-/
namespace Go.Proofs.YtpjoahddbdmbpaaGreatDoor
open Go.RowKit
set_option linter.unusedVariables false

set_option maxHeartbeats 2000000 in
set_option maxRecDepth 100000 in
theorem specMust_c (c d : Cmd) (W : World) : Calls Tryz.prog 50 #[cmdV c, cmdV d] W (BoolPost (mustC c d) W) := by
  obtain ⟨u, hu⟩ : ∃ u, l1uB d.p c.p = u := ⟨_, rfl⟩
  obtain ⟨v, hv⟩ : ∃ v, l1uB c.p d.p = v := ⟨_, rfl⟩
  obtain ⟨x, hx⟩ : ∃ x, (d.fk == 1) = x := ⟨_, rfl⟩
  obtain ⟨y, hy⟩ : ∃ y, (c.tk == 1) = y := ⟨_, rfl⟩
  have HU := Lib.hid (fun w => show Calls Tryz.prog 75 #[.string d.p, .string c.p] w (fun e w' => e = .returned (.bool u) ∧ w = w') by rw [← hu]; exact l1Under_c d.p c.p w)
  have HV := Lib.hid (fun w => show Calls Tryz.prog 75 #[.string c.p, .string d.p] w (fun e w' => e = .returned (.bool v) ∧ w = w') by rw [← hv]; exact l1Under_c c.p d.p w)
  have HR := Lib.hid (show mustC c d = ((u && x) || (v && y)) by unfold mustC; rw [hu, hv, hx, hy])
  have HT := Lib.hid (twoC_new W c d)
  have HB := Lib.hid (below_next (below_box W (.cells #[.string c.p, .int .i64 c.fk, .int .i64 c.fv, .int .i64 c.tk, .int .i64 c.tv] 36)) (below_box _ (.cells #[.string d.p, .int .i64 d.fk, .int .i64 d.fv, .int .i64 d.tk, .int .i64 d.tv] 36)))
  clear hu hv
  obtain ⟨p, fk, fv, tk, tv⟩ := c
  obtain ⟨p', fk', fv', tk', tv'⟩ := d
  unfold cmdV
  simp only at HU HV HT HB HR hx hy ⊢
  obtain ⟨a0, a1, a2, a3, a4, b0, b1, b2, b3, b4⟩ := HT.out
  simp only at a0 a1 a2 a3 a4 b0 b1 b2 b3 b4
  go_enter Tryz.func50, Tryz.ntmps50
  go_wp2_with fail
  refine (HU.out _).mono ?_
  rintro e W1 ⟨rfl, rfl⟩
  cases u with
  | true =>
    cases x with
    | true =>
      have hx1 := hx
      go_wp2
      go_ret
      exact ⟨ret_bool (by rw [HR.out]; rfl), HB.out⟩
    | false =>
      go_wp2_with fail
      refine (HV.out _).mono ?_
      rintro e W1 ⟨rfl, rfl⟩
      cases v with
      | true =>
        go_wp2
        go_ret
        exact ⟨ret_bool (by rw [HR.out, ← hy]; rfl), HB.out⟩
      | false =>
        go_wp2
        go_ret
        exact ⟨ret_bool (by rw [HR.out]; rfl), HB.out⟩
  | false =>
    go_wp2_with fail
    refine (HV.out _).mono ?_
    rintro e W1 ⟨rfl, rfl⟩
    cases v with
    | true =>
      go_wp2
      go_ret
      exact ⟨ret_bool (by rw [HR.out, ← hy]; rfl), HB.out⟩
    | false =>
      go_wp2
      go_ret
      exact ⟨ret_bool (by rw [HR.out]; rfl), HB.out⟩

theorem once_no {cs : List Cmd} {j : Nat} {d : Cmd} (hd : cs[j]? = some d) (h : firstK cs j d.p = false) : onceV cs = false := by
  unfold onceV
  rw [Bool.and_eq_false_iff]
  left
  rw [decide_eq_false_iff_not, nodup_idx]
  intro hh
  rw [hh j d hd] at h
  cases h
theorem once_all {cs : List Cmd} (h : ∀ (j : Nat) (d : Cmd), cs[j]? = some d → firstK cs j d.p = true) : onceV cs = validL cs := by
  unfold onceV
  rw [decide_eq_true (nodup_idx.2 h)]
  rfl

set_option maxHeartbeats 2000000 in
set_option maxRecDepth 100000 in
theorem specOnce_c (a : Option Addr) (len cap : Nat) (cs : List Cmd) (hl : len ≤ 2097152) (hs : ShortC 2097152 cs) (W : World) (hN : CmdsAt W a len cs) :
    Calls Tryz.prog 28 #[.slice a len cap] W (BoolPost (onceV cs) W) := by
  have HLV := Lib.hid (fun W' (hb : Below W.heap.size W W') => specLogValid_c a len cap cs (by omega) hs W' (hN.keep hb))
  have HF := Lib.hid (fun W' (hb : Below W.heap.size W W') n c (hc : cs[n]? = some c) => specFirst_c a len cap cs n c hc (by omega) W' (hN.keep hb))
  have HN := Lib.hid hN
  have HE := Lib.hid hN.1
  have hl' : (len : Int) ≤ 2097152 := by omega
  clear hN hs
  go_enter Tryz.func28, Tryz.ntmps28
  go_wp2
  go_loopw [3] (fun i wr => ∃ n : Nat, i = .int .i64 n ∧ n ≤ len ∧ Hid (∀ (j : Nat) (d : Cmd), j < n → cs[j]? = some d → firstK cs j d.p = true) ∧ Hid (Below W.heap.size W wr)) (fun i _ => len - (intOf i).toNat)
  case atStart => exact ⟨0, rfl, Nat.zero_le _, Lib.hid (fun j d h => absurd h (by omega)), Below.refl _ _⟩
  case round =>
    obtain ⟨n, rfl, hn, HP, HB⟩ := hrel
    by_cases hlt : n < len
    · have hlt' : (n : Int) < len := by omega
      have hw1 : IntKind.i64.wrap ((n : Int) + 1) = (n : Int) + 1 := IntWalk.i64_in _ (by omega)
      have HLT := Lib.hid hlt
      obtain ⟨b, off, d, -, hd, -⟩ := HN.out.node hlt
      obtain ⟨ff, hff⟩ : ∃ ff, firstK cs n d.p = ff := ⟨_, rfl⟩
      have HFI := Lib.hid (fun W' (hb : Below W.heap.size W W') => show Calls Tryz.prog 51 #[.slice a len cap, .int .i64 n] W' (BoolPost ff W') by rw [← hff]; exact HF.out W' hb n d hd)
      have HD := Lib.hid (And.intro hd hff)
      clear hn hlt hd hff
      go_wp2_with fail
      refine (HFI.out _ HB.out).mono ?_
      rintro e W2 ⟨rfl, hb2⟩
      have HB2 := Lib.hid (below_next HB.out hb2)
      clear hb2
      cases ff with
      | false =>
        have HX := Lib.hid (once_no HD.out.1 HD.out.2)
        go_wp2
        go_ret
        exact ⟨ret_bool HX.out.symm, HB2.out⟩
      | true =>
        go_wp2
        go_roundw
        case rel =>
          refine ⟨n + 1, by go_num, by have := HLT.out; omega, Lib.hid (fun j x hj hx => ?_), HB2⟩
          by_cases hjn : j < n
          · exact HP.out j x hjn hx
          · obtain rfl : j = n := by omega
            rw [HD.out.1] at hx
            obtain rfl := Option.some.inj hx
            exact HD.out.2
        case measure => have := HLT.out; simp [intOf]; omega
    · have hge : (len : Int) ≤ n := by omega
      have HX := Lib.hid (once_all (cs := cs) (fun j d hd => HP.out j d (by have := (List.getElem?_eq_some_iff.1 hd).1; have := HE.out; omega) hd))
      obtain ⟨vl, hvl⟩ : ∃ vl, validL cs = vl := ⟨_, rfl⟩
      have HV := Lib.hid (show Calls Tryz.prog 42 #[.slice a len cap] wr (BoolPost vl wr) by rw [← hvl]; exact HLV.out wr HB.out)
      rw [hvl] at HX
      clear hn hlt hvl
      go_wp2_with fail
      refine HV.out.mono ?_
      rintro e W2 ⟨rfl, hb2⟩
      have HB2 := Lib.hid (below_next HB.out hb2)
      clear hb2
      go_wp2
      go_ret
      exact ⟨ret_bool HX.out.symm, HB2.out⟩

/-! ### l15Fits -/
theorem get_atK {cs : List Cmd} {k : Nat} {c : Cmd} (h : cs[k]? = some c) : atK cs k = c := by
  have hk := (List.getElem?_eq_some_iff.1 h).1
  rw [atK_get hk] at h
  exact Option.some.inj h

theorem fits_no {cs : List Cmd} {i k : Nat} {c d : Cmd} (hc : cs[i]? = some c) (hd : cs[k]? = some d) (hk : k < i) (h : mustC c d = true) : fitsB cs = false := by
  rw [Bool.eq_false_iff]
  intro hf
  have hi := (List.getElem?_eq_some_iff.1 hc).1
  have hk' := (List.getElem?_eq_some_iff.1 hd).1
  have := List.pairwise_iff_getElem.1 ((fitsB_iff cs).1 hf) k i hk' hi hk
  rw [List.getElem?_eq_getElem hi] at hc
  rw [List.getElem?_eq_getElem hk'] at hd
  rw [Option.some.inj hc, Option.some.inj hd, h] at this
  cases this

theorem fits_all {cs : List Cmd} (h : ∀ i k, i < cs.length → k < i → mustC (atK cs i) (atK cs k) = false) : fitsB cs = true := by
  rw [fitsB_iff, FitsO, List.pairwise_iff_getElem]
  intro k i hk hi hlt
  have e1 := atK_get (zs := cs) hk
  have e2 := atK_get (zs := cs) hi
  rw [List.getElem?_eq_getElem hk] at e1
  rw [List.getElem?_eq_getElem hi] at e2
  rw [Option.some.inj e1, Option.some.inj e2]
  exact h i k hi hlt

def FitRel (cs : List Cmd) (W : World) (i : Value) (wr : World) : Prop :=
  ∃ n : Nat, i = .int .i64 n ∧ n ≤ cs.length ∧ Hid (∀ i k, i < n → k < i → mustC (atK cs i) (atK cs k) = false) ∧ Hid (Below W.heap.size W wr)
def FitIn (cs : List Cmd) (W : World) (n : Nat) (k : Value) (wr : World) : Prop :=
  ∃ m : Nat, k = .int .i64 m ∧ m ≤ n ∧ Hid (∀ k, k < m → mustC (atK cs n) (atK cs k) = false) ∧ Hid (Below W.heap.size W wr)

set_option maxHeartbeats 4000000 in
set_option maxRecDepth 100000 in
theorem specFits_c (a : Option Addr) (len cap : Nat) (cs : List Cmd) (hl : len ≤ 2097152) (W : World) (hN : CmdsAt W a len cs) :
    Calls Tryz.prog 29 #[.slice a len cap] W (BoolPost (fitsB cs) W) := by
  have HMU := Lib.hid (fun c d w => specMust_c c d w)
  have HN := Lib.hid hN
  have HE := Lib.hid hN.1
  have hl' : (len : Int) ≤ 2097152 := by omega
  clear hN
  go_enter Tryz.func29, Tryz.ntmps29
  go_wp2
  go_loopw [3, 4] (fun i _ wr => FitRel cs W i wr) (fun i _ _ => len - (intOf i).toNat)
  case atStart => exact ⟨0, rfl, Nat.zero_le _, Lib.hid (fun i k h => absurd h (by omega)), Below.refl _ _⟩
  case round =>
    obtain ⟨n, rfl, hn, HP, HB⟩ := hrel
    by_cases hlt : n < len
    · have hlt' : (n : Int) < len := by omega
      have hw1 : IntKind.i64.wrap ((n : Int) + 1) = (n : Int) + 1 := IntWalk.i64_in _ (by omega)
      have HLT := Lib.hid (show n < len ∧ n < cs.length by have := HE.out; omega)
      clear hn hlt
      go_wp2_with fail
      go_loopw [4] (fun k wr => FitIn cs W n k wr) (fun k _ => n - (intOf k).toNat)
      case atStart => exact ⟨0, rfl, Nat.zero_le _, Lib.hid (fun k h => absurd h (by omega)), HB⟩
      case round =>
        obtain ⟨m, rfl, hm, HQ, HBI⟩ := hrel
        by_cases hmt : m < n
        · have hmt' : (m : Int) < n := by omega
          have hml : (m : Int) < len := by omega
          have hwm : IntKind.i64.wrap ((m : Int) + 1) = (m : Int) + 1 := IntWalk.i64_in _ (by omega)
          have HMT := Lib.hid hmt
          obtain ⟨b, off, c, rfl, hc, d0, d1, d2, d3, d4⟩ := (HN.out.keep HBI.out).node (i := n) HLT.out.1
          obtain ⟨b', off', d, hbb, hd, e0, e1, e2, e3, e4⟩ := (HN.out.keep HBI.out).node (i := m) (by have := HLT.out.1; omega)
          cases hbb
          obtain ⟨mm, hmm⟩ : ∃ mm, mustC c d = mm := ⟨_, rfl⟩
          have HMC := Lib.hid (fun w => show Calls Tryz.prog 50 #[cmdV c, cmdV d] w (BoolPost mm w) by rw [← hmm]; exact HMU.out c d w)
          have HD := Lib.hid (And.intro hc (And.intro hd hmm))
          obtain ⟨p, fk, fv, tk, tv⟩ := c
          obtain ⟨q, fk', fv', tk', tv'⟩ := d
          unfold cmdV at HMC
          simp only at d0 d1 d2 d3 d4 e0 e1 e2 e3 e4 HMC
          clear hm hmt hc hd hmm
          have HS0 := Lib.hid (show wr.drew.cell? ⟨b, off + n * 5, none⟩ = some (.string p) ∧ wr.drew.cell? ⟨b, off + n * 5 + 1, none⟩ = some (.int .i64 fk) ∧ wr.drew.cell? ⟨b, off + n * 5 + 2, none⟩ = some (.int .i64 fv) ∧ wr.drew.cell? ⟨b, off + n * 5 + 3, none⟩ = some (.int .i64 tk) ∧ wr.drew.cell? ⟨b, off + n * 5 + 4, none⟩ = some (.int .i64 tv) ∧ wr.drew.cell? ⟨b, off + m * 5, none⟩ = some (.string q) ∧ wr.drew.cell? ⟨b, off + m * 5 + 1, none⟩ = some (.int .i64 fk') ∧ wr.drew.cell? ⟨b, off + m * 5 + 2, none⟩ = some (.int .i64 fv') ∧ wr.drew.cell? ⟨b, off + m * 5 + 3, none⟩ = some (.int .i64 tk') ∧ wr.drew.cell? ⟨b, off + m * 5 + 4, none⟩ = some (.int .i64 tv') ∧ Below W.heap.size W wr.drew from ⟨d0, d1, d2, d3, d4, e0, e1, e2, e3, e4, HBI.out.drew⟩)
          have HKP := Lib.hid (fun (u1 u2 : World) (h : u1.cell? ⟨b, off + n * 5, none⟩ = some (.string p) ∧ u1.cell? ⟨b, off + n * 5 + 1, none⟩ = some (.int .i64 fk) ∧ u1.cell? ⟨b, off + n * 5 + 2, none⟩ = some (.int .i64 fv) ∧ u1.cell? ⟨b, off + n * 5 + 3, none⟩ = some (.int .i64 tk) ∧ u1.cell? ⟨b, off + n * 5 + 4, none⟩ = some (.int .i64 tv) ∧ u1.cell? ⟨b, off + m * 5, none⟩ = some (.string q) ∧ u1.cell? ⟨b, off + m * 5 + 1, none⟩ = some (.int .i64 fk') ∧ u1.cell? ⟨b, off + m * 5 + 2, none⟩ = some (.int .i64 fv') ∧ u1.cell? ⟨b, off + m * 5 + 3, none⟩ = some (.int .i64 tk') ∧ u1.cell? ⟨b, off + m * 5 + 4, none⟩ = some (.int .i64 tv') ∧ Below W.heap.size W u1) (hb : Below u1.heap.size u1 u2) => show u2.cell? ⟨b, off + n * 5, none⟩ = some (.string p) ∧ u2.cell? ⟨b, off + n * 5 + 1, none⟩ = some (.int .i64 fk) ∧ u2.cell? ⟨b, off + n * 5 + 2, none⟩ = some (.int .i64 fv) ∧ u2.cell? ⟨b, off + n * 5 + 3, none⟩ = some (.int .i64 tk) ∧ u2.cell? ⟨b, off + n * 5 + 4, none⟩ = some (.int .i64 tv) ∧ u2.cell? ⟨b, off + m * 5, none⟩ = some (.string q) ∧ u2.cell? ⟨b, off + m * 5 + 1, none⟩ = some (.int .i64 fk') ∧ u2.cell? ⟨b, off + m * 5 + 2, none⟩ = some (.int .i64 fv') ∧ u2.cell? ⟨b, off + m * 5 + 3, none⟩ = some (.int .i64 tk') ∧ u2.cell? ⟨b, off + m * 5 + 4, none⟩ = some (.int .i64 tv') ∧ Below W.heap.size W u2 from ⟨cell_kept hb h.1, cell_kept hb h.2.1, cell_kept hb h.2.2.1, cell_kept hb h.2.2.2.1, cell_kept hb h.2.2.2.2.1, cell_kept hb h.2.2.2.2.2.1, cell_kept hb h.2.2.2.2.2.2.1, cell_kept hb h.2.2.2.2.2.2.2.1, cell_kept hb h.2.2.2.2.2.2.2.2.1, cell_kept hb h.2.2.2.2.2.2.2.2.2.1, below_next h.2.2.2.2.2.2.2.2.2.2 hb⟩)
          clear d0 d1 d2 d3 d4 e0 e1 e2 e3 e4
          go_upto_region 7 with (fail)
          go_region_held3 (fun w' => w'.cell? ⟨b, off + n * 5, none⟩ = some (.string p) ∧ w'.cell? ⟨b, off + n * 5 + 1, none⟩ = some (.int .i64 fk) ∧ w'.cell? ⟨b, off + n * 5 + 2, none⟩ = some (.int .i64 fv) ∧ w'.cell? ⟨b, off + n * 5 + 3, none⟩ = some (.int .i64 tk) ∧ w'.cell? ⟨b, off + n * 5 + 4, none⟩ = some (.int .i64 tv) ∧ w'.cell? ⟨b, off + m * 5, none⟩ = some (.string q) ∧ w'.cell? ⟨b, off + m * 5 + 1, none⟩ = some (.int .i64 fk') ∧ w'.cell? ⟨b, off + m * 5 + 2, none⟩ = some (.int .i64 fv') ∧ w'.cell? ⟨b, off + m * 5 + 3, none⟩ = some (.int .i64 tk') ∧ w'.cell? ⟨b, off + m * 5 + 4, none⟩ = some (.int .i64 tv') ∧ Below W.heap.size W w')
            (first | exact HS0.out | exact HKP.out _ _ HS0.out hb7)
            (first | (go_at_call 50; (with_reducible refine (HMC.out _).mono ?_); rintro e W7 ⟨rfl, hb7⟩))
          rename_i hS
          have HB7 := Lib.hid hS.2.2.2.2.2.2.2.2.2.2
          clear hS
          cases mm with
          | true =>
            have HX := Lib.hid (fits_no HD.out.1 HD.out.2.1 HMT.out HD.out.2.2)
            go_wp2
            go_ret
            exact ⟨ret_bool HX.out.symm, HB7.out⟩
          | false =>
            go_wp2
            go_roundw
            case rel =>
              refine ⟨m + 1, by go_num, HMT.out, Lib.hid (fun k hk => ?_), HB7⟩
              by_cases h : k < m
              · exact HQ.out k h
              · obtain rfl : k = m := by omega
                rw [get_atK HD.out.1, get_atK HD.out.2.1]
                exact HD.out.2.2
            case measure => have := HMT.out; simp [intOf]; omega
        · have hge : (n : Int) ≤ m := by omega
          have hmn : m = n := by omega
          subst hmn
          clear hm hmt
          go_wp2
          go_roundw
          case rel =>
            refine ⟨m + 1, by go_num, by have := HLT.out.2; omega, Lib.hid (fun i k hi hk => ?_), HBI⟩
            by_cases h : i < m
            · exact HP.out i k h hk
            · obtain rfl : i = m := by omega
              exact HQ.out k hk
          case measure => have := HLT.out; simp [intOf]; omega
    · have hge : (len : Int) ≤ n := by omega
      have HX := Lib.hid (fits_all (cs := cs) (fun i k hi hk => HP.out i k (by have := HE.out; omega) hk))
      clear hn hlt
      go_wp2
      go_ret
      exact ⟨ret_bool HX.out.symm, HB.out⟩

set_option maxHeartbeats 2000000 in
set_option maxRecDepth 100000 in
theorem specOrderFits_c (a : Option Addr) (len cap : Nat) (cs : List Cmd) (hl : len ≤ 2097152) (hs : ShortC 2097152 cs) (W : World) (hN : CmdsAt W a len cs) :
    Calls Tryz.prog 11 #[.slice a len cap] W (BoolPost (orderV cs) W) := by
  obtain ⟨u, hu⟩ : ∃ u, onceV cs = u := ⟨_, rfl⟩
  obtain ⟨v, hv⟩ : ∃ v, fitsB cs = v := ⟨_, rfl⟩
  have HO := Lib.hid (show Calls Tryz.prog 28 #[.slice a len cap] W (BoolPost u W) by rw [← hu]; exact specOnce_c a len cap cs hl hs W hN)
  have HF := Lib.hid (fun W' (hb : Below W.heap.size W W') => show Calls Tryz.prog 29 #[.slice a len cap] W' (BoolPost v W') by rw [← hv]; exact specFits_c a len cap cs hl W' (hN.keep hb))
  have HR := Lib.hid (show orderV cs = (u && v) by unfold orderV; rw [hu, hv])
  clear hN hs hu hv
  go_enter Tryz.func11, Tryz.ntmps11
  go_wp2_with fail
  refine HO.out.mono ?_
  rintro e W1 ⟨rfl, hb1⟩
  have B1 := Lib.hid hb1
  clear hb1
  cases u with
  | false =>
    go_wp2
    go_ret
    exact ⟨ret_bool HR.out.symm, B1.out⟩
  | true =>
    go_wp2_with fail
    refine (HF.out _ B1.out).mono ?_
    rintro e W2 ⟨rfl, hb2⟩
    have B2 := Lib.hid (below_next B1.out hb2)
    clear hb2
    go_wp2
    go_ret
    exact ⟨ret_bool (by rw [HR.out]; rfl), B2.out⟩

end Go.Proofs.YtpjoahddbdmbpaaGreatDoor

/-
  WALKS: canonical logs of the model, second part: spec.l14Put, l14Sort.
-/
namespace Go.Proofs.YtpjoahddbdmbpaaGreatDoor
open Go.RowKit
set_option linter.unusedVariables false

def PutKRel (c : Cmd) (cs : List Cmd) (W0 : World) (o k i : Value) (wr : World) : Prop :=
  ∃ (n : Nat) (acc : List Cmd) (dn : Bool), k = .bool dn ∧ i = .int .i64 n ∧ n ≤ cs.length ∧ wr.ownsRow W0.heap.size 36 5 o acc.length (flatC acc) ∧ Hid (putMid c cs n dn acc) ∧ Hid (Below W0.heap.size W0 wr)

set_option maxHeartbeats 4000000 in
set_option maxRecDepth 100000 in
theorem specPut_c (a : Option Addr) (len cap : Nat) (cs : List Cmd) (c : Cmd) (hl : len ≤ 2000000) (W : World) (hN : CmdsAt W a len cs) :
    Calls Tryz.prog 99 #[.slice a len cap, cmdV c] W (CmdsPost (putK c cs) W) := by
  have HE := Lib.hid hN.1
  have HL := Lib.hid hl
  have hl' : (len : Int) ≤ 2000000 := by omega
  have HCL := Lib.hid (show cs.length ≤ 2000000 by have := hN.1; omega)
  have HBX := Lib.hid (fun d w => specBefore_c c d w)
  obtain ⟨p, fk, fv, tk, tv⟩ := c
  have hN0 := hN.keep (below_box W (.cells #[.string p, .int .i64 fk, .int .i64 fv, .int .i64 tk, .int .i64 tv] 36))
  have hA0 := five_new W (.string p) (.int .i64 fk) (.int .i64 fv) (.int .i64 tk) (.int .i64 tv) 36
  have hB0 := below_box W (.cells #[.string p, .int .i64 fk, .int .i64 fv, .int .i64 tk, .int .i64 tv] 36)
  have hZ0 : (W.alloc (.cells #[.string p, .int .i64 fk, .int .i64 fv, .int .i64 tk, .int .i64 tv] 36)).heap.size = W.heap.size + 1 := by simp
  clear hN hl
  unfold cmdV
  go_enter Tryz.func99, Tryz.ntmps99
  go_wp2
  generalize W.alloc (.cells #[.string p, .int .i64 fk, .int .i64 fv, .int .i64 tk, .int .i64 tv] 36) = W0 at hN0 hA0 hB0 hZ0 ⊢
  have HN := Lib.hid hN0
  have HA := Lib.hid hA0
  have HB0 := Lib.hid hB0
  have HZ := Lib.hid hZ0
  clear hN0 hA0 hB0 hZ0
  go_loopw [5, 6, 7] (fun o k i wr => PutKRel ⟨p, fk, fv, tk, tv⟩ cs W0 o k i wr) (fun _ _ i _ => len - (intOf i).toNat)
  case atStart => exact ⟨0, [], false, rfl, rfl, Nat.zero_le _, (by have := World.ownsRow_lit (e := 36) (size := 5) W0 #[] 0 (Nat.le_refl _) (by simp [maxLen]) rfl; rw [HZ.out] at this ⊢; exact this), put_mid0 _ _, below_box _ _⟩
  case round =>
    obtain ⟨n, acc, dn, rfl, rfl, hn, hown, HM, HB⟩ := hrel
    obtain ⟨a0, a1, a2, a3, a4, -⟩ := HA.out
    have HO := Lib.hid hown
    have HAL := Lib.hid (put_mid_len HM.out)
    by_cases hlt : n < len
    · have hlt' : (n : Int) < len := by omega
      have hw1 : IntKind.i64.wrap ((n : Int) + 1) = (n : Int) + 1 := IntWalk.i64_in _ (by omega)
      have HLT := Lib.hid hlt
      obtain ⟨b, off, d, rfl, hd, d0, d1, d2, d3, d4⟩ := HN.out.node hlt
      have HD := Lib.hid hd
      obtain ⟨bb, hbb⟩ : ∃ bb, befC ⟨p, fk, fv, tk, tv⟩ d = bb := ⟨_, rfl⟩
      have HBF := Lib.hid (fun w => show Calls Tryz.prog 101 #[cmdV ⟨p, fk, fv, tk, tv⟩, cmdV d] w (BoolPost bb w) by rw [← hbb]; exact HBX.out d w)
      have HBB := Lib.hid hbb
      obtain ⟨q, fk', fv', tk', tv'⟩ := d
      unfold cmdV at HBF
      simp only at d0 d1 d2 d3 d4 HBF
      have HS0 : Hid (Below W0.heap.size W0 wr.drew) := HB.out.drew
      clear hn hlt hd hown hbb
      cases dn with
      | true =>
        have HM2 := Lib.hid (put_mid_on HD.out HM.out)
        go_upto_region 6 with (fail)
        refine wp_region_held_drew (S := (fun w' => Below W0.heap.size W0 w')) (by kernel_rfl) HS0.out (fun hH => ?_)
        refine wpAnyH_take (i := 0) (oi := _) (v := ?_) rfl (by kernel_rfl) (by kernel_rfl) (by kernel_rfl) (fun _ _ _ h => h) (Or.inl ⟨by rfl, ?_⟩) (by assumption) ?_
        rotate_left
        · (intro w hSw; have s0 := cell_kept hSw a0; have s1 := cell_kept hSw a1; have s2 := cell_kept hSw a2; have s3 := cell_kept hSw a3; have s4 := cell_kept hSw a4; have r0 := cell_kept hSw d0; have r1 := cell_kept hSw d1; have r2 := cell_kept hSw d2; have r3 := cell_kept hSw d3; have r4 := cell_kept hSw d4; go_simp; try with_reducible rfl)
        try simp only [Act.put, List.getElem_toArray, List.getElem_cons_zero, List.setIfInBounds_toArray, List.set_cons_zero, List.set_cons_succ]
        refine wpAnyH_take (i := 1) (oi := _) (v := ?_) rfl (by kernel_rfl) (by kernel_rfl) (by kernel_rfl) (fun _ _ _ h => h) (Or.inl ⟨by rfl, ?_⟩) (by assumption) ?_
        rotate_left
        · (intro w hSw; have s0 := cell_kept hSw a0; have s1 := cell_kept hSw a1; have s2 := cell_kept hSw a2; have s3 := cell_kept hSw a3; have s4 := cell_kept hSw a4; have r0 := cell_kept hSw d0; have r1 := cell_kept hSw d1; have r2 := cell_kept hSw d2; have r3 := cell_kept hSw d3; have r4 := cell_kept hSw d4; go_simp; try with_reducible rfl)
        try simp only [Act.put, List.getElem_toArray, List.getElem_cons_zero, List.getElem_cons_succ, List.setIfInBounds_toArray, List.set_cons_zero, List.set_cons_succ]
        refine wpAnyH_take (i := 2) (oi := _) (v := ?_) rfl (by kernel_rfl) (by kernel_rfl) (by kernel_rfl) (fun _ _ _ h => h) (Or.inl ⟨by rfl, ?_⟩) (by assumption) ?_
        rotate_left
        · (intro w hSw; have s0 := cell_kept hSw a0; have s1 := cell_kept hSw a1; have s2 := cell_kept hSw a2; have s3 := cell_kept hSw a3; have s4 := cell_kept hSw a4; have r0 := cell_kept hSw d0; have r1 := cell_kept hSw d1; have r2 := cell_kept hSw d2; have r3 := cell_kept hSw d3; have r4 := cell_kept hSw d4; go_simp; try with_reducible rfl)
        try simp only [Act.put, List.getElem_toArray, List.getElem_cons_zero, List.getElem_cons_succ, List.setIfInBounds_toArray, List.set_cons_zero, List.set_cons_succ]
        first | refine wpAnyH_take (i := 3) (oi := _) (v := undef) rfl (by kernel_rfl) (by kernel_rfl) (by kernel_rfl) (fun _ _ _ h => h) (Or.inr ⟨by rfl, rfl⟩) (by assumption) ?_ | (refine wpAnyH_ready (rs := [3]) (by kernel_rfl) (by simp) ?_; refine AllReadyH.cons rfl (fun K hK => ?_) (AllReadyH.nil); rw [if_neg (by decide)]; refine hK.out _ _ (by assumption) (fun hHeld => ?_))
        try simp only [Act.put, List.getElem_toArray, List.getElem_cons_zero, List.getElem_cons_succ, List.setIfInBounds_toArray, List.set_cons_zero, List.set_cons_succ]
        first | refine wpAnyH_take (i := 4) (oi := _) (v := undef) rfl (by kernel_rfl) (by kernel_rfl) (by kernel_rfl) (fun _ _ _ h => h) (Or.inr ⟨by rfl, rfl⟩) (by assumption) ?_ | (refine wpAnyH_ready (rs := [4]) (by kernel_rfl) (by simp) ?_; refine AllReadyH.cons rfl (fun K hK => ?_) (AllReadyH.nil); rw [if_neg (by decide)]; refine hK.out _ _ (by assumption) (fun hHeld => ?_))
        try simp only [Act.put, List.getElem_toArray, List.getElem_cons_zero, List.getElem_cons_succ, List.setIfInBounds_toArray, List.set_cons_zero, List.set_cons_succ]
        first | refine wpAnyH_take (i := 5) (oi := _) (v := undef) rfl (by kernel_rfl) (by kernel_rfl) (by kernel_rfl) (fun _ _ _ h => h) (Or.inr ⟨by rfl, rfl⟩) (by assumption) ?_ | (refine wpAnyH_ready (rs := [5]) (by kernel_rfl) (by simp) ?_; refine AllReadyH.cons rfl (fun K hK => ?_) (AllReadyH.nil); rw [if_neg (by decide)]; refine hK.out _ _ (by assumption) (fun hHeld => ?_))
        try simp only [Act.put, List.getElem_toArray, List.getElem_cons_zero, List.getElem_cons_succ, List.setIfInBounds_toArray, List.set_cons_zero, List.set_cons_succ]
        first | refine wpAnyH_take (i := 6) (oi := _) (v := undef) rfl (by kernel_rfl) (by kernel_rfl) (by kernel_rfl) (fun _ _ _ h => h) (Or.inr ⟨by rfl, rfl⟩) (by assumption) ?_ | (refine wpAnyH_ready (rs := [6]) (by kernel_rfl) (by simp) ?_; refine AllReadyH.cons rfl (fun K hK => ?_) (AllReadyH.nil); rw [if_neg (by decide)]; refine hK.out _ _ (by assumption) (fun hHeld => ?_))
        try simp only [Act.put, List.getElem_toArray, List.getElem_cons_zero, List.getElem_cons_succ, List.setIfInBounds_toArray, List.set_cons_zero, List.set_cons_succ]
        first | refine wpAnyH_take (i := 7) (oi := _) (v := undef) rfl (by kernel_rfl) (by kernel_rfl) (by kernel_rfl) (fun _ _ _ h => h) (Or.inr ⟨by rfl, rfl⟩) (by assumption) ?_ | (refine wpAnyH_ready (rs := [7]) (by kernel_rfl) (by simp) ?_; refine AllReadyH.cons rfl (fun K hK => ?_) (AllReadyH.nil); rw [if_neg (by decide)]; refine hK.out _ _ (by assumption) (fun hHeld => ?_))
        try simp only [Act.put, List.getElem_toArray, List.getElem_cons_zero, List.getElem_cons_succ, List.setIfInBounds_toArray, List.set_cons_zero, List.set_cons_succ]
        first | refine wpAnyH_take (i := 8) (oi := _) (v := undef) rfl (by kernel_rfl) (by kernel_rfl) (by kernel_rfl) (fun _ _ _ h => h) (Or.inr ⟨by rfl, rfl⟩) (by assumption) ?_ | (refine wpAnyH_ready (rs := [8]) (by kernel_rfl) (by simp) ?_; refine AllReadyH.cons rfl (fun K hK => ?_) (AllReadyH.nil); rw [if_neg (by decide)]; refine hK.out _ _ (by assumption) (fun hHeld => ?_))
        try simp only [Act.put, List.getElem_toArray, List.getElem_cons_zero, List.getElem_cons_succ, List.setIfInBounds_toArray, List.set_cons_zero, List.set_cons_succ]
        refine wpAnyH_take (i := 9) (oi := _) (v := ?_) rfl (by kernel_rfl) (by kernel_rfl) (by kernel_rfl) (fun _ _ _ h => h) (Or.inl ⟨by rfl, ?_⟩) (by assumption) ?_
        rotate_left
        · (intro w hSw; have s0 := cell_kept hSw a0; have s1 := cell_kept hSw a1; have s2 := cell_kept hSw a2; have s3 := cell_kept hSw a3; have s4 := cell_kept hSw a4; have r0 := cell_kept hSw d0; have r1 := cell_kept hSw d1; have r2 := cell_kept hSw d2; have r3 := cell_kept hSw d3; have r4 := cell_kept hSw d4; go_simp; try with_reducible rfl)
        try simp only [Act.put, List.getElem_toArray, List.getElem_cons_zero, List.getElem_cons_succ, List.setIfInBounds_toArray, List.set_cons_zero, List.set_cons_succ]
        refine wpAnyH_done (by kernel_rfl) ?_ _
        have HO1 := Lib.hid (show wr.drew.ownsRow W0.heap.size _ _ _ _ _ from HO.out)
        generalize wr.drew = Wd at HS0 HO1 ⊢
        have e0 := cell_kept HS0.out d0
        have e1 := cell_kept HS0.out d1
        have e2 := cell_kept HS0.out d2
        have e3 := cell_kept HS0.out d3
        have e4 := cell_kept HS0.out d4
        clear a0 a1 a2 a3 a4 d0 d1 d2 d3 d4
        go_wp2_with (at_builtin; refine wpList_append_cmds rfl _ _ rfl W0.heap.size _ acc rfl (World.ownsRow.alloc (show Wd.ownsRow W0.heap.size _ _ _ _ _ from HO1.out) _) _ _ _ [(⟨q, fk', fv', tk', tv'⟩ : Cmd)] rfl (cmds_lit Wd (⟨q, fk', fv', tk', tv'⟩ : Cmd)) (by have := HAL.out; have := HCL.out; simp; omega) (by have := HS0.out.size; simp; omega) ?_; intro v4 w4 ho4 hg4; have HB4 := Lib.hid ((HS0.out.alloc HS0.out.size _).grown hg4 (by have := HS0.out.size; simp; omega) (fun k e => (HO1.out.lt k e).1)); clear hg4)
        go_roundw
        case rel => exact ⟨n + 1, _, true, rfl, by go_num, by have := HLT.out; have := HE.out; omega, ho4, HM2, HB4⟩
        case measure => have := HLT.out; simp [intOf]; omega
      | false =>
        go_upto_region 6 with (fail)
        refine wp_region_held_drew (S := (fun w' => Below W0.heap.size W0 w')) (by kernel_rfl) HS0.out (fun hH => ?_)
        refine wpAnyH_take (i := 0) (oi := _) (v := ?_) rfl (by kernel_rfl) (by kernel_rfl) (by kernel_rfl) (fun _ _ _ h => h) (Or.inl ⟨by rfl, ?_⟩) (by assumption) ?_
        rotate_left
        · (intro w hSw; have s0 := cell_kept hSw a0; have s1 := cell_kept hSw a1; have s2 := cell_kept hSw a2; have s3 := cell_kept hSw a3; have s4 := cell_kept hSw a4; have r0 := cell_kept hSw d0; have r1 := cell_kept hSw d1; have r2 := cell_kept hSw d2; have r3 := cell_kept hSw d3; have r4 := cell_kept hSw d4; go_simp; try with_reducible rfl)
        try simp only [Act.put, List.getElem_toArray, List.getElem_cons_zero, List.setIfInBounds_toArray, List.set_cons_zero, List.set_cons_succ]
        refine wpAnyH_take (i := 1) (oi := _) (v := ?_) rfl (by kernel_rfl) (by kernel_rfl) (by kernel_rfl) (fun _ _ _ h => h) (Or.inl ⟨by rfl, ?_⟩) (by assumption) ?_
        rotate_left
        · (intro w hSw; have s0 := cell_kept hSw a0; have s1 := cell_kept hSw a1; have s2 := cell_kept hSw a2; have s3 := cell_kept hSw a3; have s4 := cell_kept hSw a4; have r0 := cell_kept hSw d0; have r1 := cell_kept hSw d1; have r2 := cell_kept hSw d2; have r3 := cell_kept hSw d3; have r4 := cell_kept hSw d4; go_simp; try with_reducible rfl)
        try simp only [Act.put, List.getElem_toArray, List.getElem_cons_zero, List.getElem_cons_succ, List.setIfInBounds_toArray, List.set_cons_zero, List.set_cons_succ]
        refine wpAnyH_take (i := 2) (oi := _) (v := ?_) rfl (by kernel_rfl) (by kernel_rfl) (by kernel_rfl) (fun _ _ _ h => h) (Or.inl ⟨by rfl, ?_⟩) (by assumption) ?_
        rotate_left
        · (intro w hSw; have s0 := cell_kept hSw a0; have s1 := cell_kept hSw a1; have s2 := cell_kept hSw a2; have s3 := cell_kept hSw a3; have s4 := cell_kept hSw a4; have r0 := cell_kept hSw d0; have r1 := cell_kept hSw d1; have r2 := cell_kept hSw d2; have r3 := cell_kept hSw d3; have r4 := cell_kept hSw d4; go_simp; try with_reducible rfl)
        try simp only [Act.put, List.getElem_toArray, List.getElem_cons_zero, List.getElem_cons_succ, List.setIfInBounds_toArray, List.set_cons_zero, List.set_cons_succ]
        refine wpAnyH_take (i := 3) (oi := _) (v := ?_) rfl (by kernel_rfl) (by kernel_rfl) (by kernel_rfl) (fun _ _ _ h => h) (Or.inl ⟨by rfl, ?_⟩) (by assumption) ?_
        rotate_left
        · (intro w hSw; have s0 := cell_kept hSw a0; have s1 := cell_kept hSw a1; have s2 := cell_kept hSw a2; have s3 := cell_kept hSw a3; have s4 := cell_kept hSw a4; have r0 := cell_kept hSw d0; have r1 := cell_kept hSw d1; have r2 := cell_kept hSw d2; have r3 := cell_kept hSw d3; have r4 := cell_kept hSw d4; go_simp; try with_reducible rfl)
        try simp only [Act.put, List.getElem_toArray, List.getElem_cons_zero, List.getElem_cons_succ, List.setIfInBounds_toArray, List.set_cons_zero, List.set_cons_succ]
        refine wpAnyH_take (i := 4) (oi := _) (v := ?_) rfl (by kernel_rfl) (by kernel_rfl) (by kernel_rfl) (fun _ _ _ h => h) (Or.inl ⟨by rfl, ?_⟩) (by assumption) ?_
        rotate_left
        · (intro w hSw; have s0 := cell_kept hSw a0; have s1 := cell_kept hSw a1; have s2 := cell_kept hSw a2; have s3 := cell_kept hSw a3; have s4 := cell_kept hSw a4; have r0 := cell_kept hSw d0; have r1 := cell_kept hSw d1; have r2 := cell_kept hSw d2; have r3 := cell_kept hSw d3; have r4 := cell_kept hSw d4; go_simp; try with_reducible rfl)
        try simp only [Act.put, List.getElem_toArray, List.getElem_cons_zero, List.getElem_cons_succ, List.setIfInBounds_toArray, List.set_cons_zero, List.set_cons_succ]
        refine wpAnyH_take (i := 5) (oi := _) (v := ?_) rfl (by kernel_rfl) (by kernel_rfl) (by kernel_rfl) (fun _ _ _ h => h) (Or.inl ⟨by rfl, ?_⟩) (by assumption) ?_
        rotate_left
        · (intro w hSw; have s0 := cell_kept hSw a0; have s1 := cell_kept hSw a1; have s2 := cell_kept hSw a2; have s3 := cell_kept hSw a3; have s4 := cell_kept hSw a4; have r0 := cell_kept hSw d0; have r1 := cell_kept hSw d1; have r2 := cell_kept hSw d2; have r3 := cell_kept hSw d3; have r4 := cell_kept hSw d4; go_simp; try with_reducible rfl)
        try simp only [Act.put, List.getElem_toArray, List.getElem_cons_zero, List.getElem_cons_succ, List.setIfInBounds_toArray, List.set_cons_zero, List.set_cons_succ]
        refine wpAnyH_take (i := 6) (oi := _) (v := ?_) rfl (by kernel_rfl) (by kernel_rfl) (by kernel_rfl) (fun _ _ _ h => h) (Or.inl ⟨by rfl, ?_⟩) (by assumption) ?_
        rotate_left
        · (intro w hSw; have s0 := cell_kept hSw a0; have s1 := cell_kept hSw a1; have s2 := cell_kept hSw a2; have s3 := cell_kept hSw a3; have s4 := cell_kept hSw a4; have r0 := cell_kept hSw d0; have r1 := cell_kept hSw d1; have r2 := cell_kept hSw d2; have r3 := cell_kept hSw d3; have r4 := cell_kept hSw d4; go_simp; try with_reducible rfl)
        try simp only [Act.put, List.getElem_toArray, List.getElem_cons_zero, List.getElem_cons_succ, List.setIfInBounds_toArray, List.set_cons_zero, List.set_cons_succ]
        refine wpAnyH_take (i := 7) (oi := _) (v := ?_) rfl (by kernel_rfl) (by kernel_rfl) (by kernel_rfl) (fun _ _ _ h => h) (Or.inl ⟨by rfl, ?_⟩) (by assumption) ?_
        rotate_left
        · (intro w hSw; have s0 := cell_kept hSw a0; have s1 := cell_kept hSw a1; have s2 := cell_kept hSw a2; have s3 := cell_kept hSw a3; have s4 := cell_kept hSw a4; have r0 := cell_kept hSw d0; have r1 := cell_kept hSw d1; have r2 := cell_kept hSw d2; have r3 := cell_kept hSw d3; have r4 := cell_kept hSw d4; go_simp; try with_reducible rfl)
        try simp only [Act.put, List.getElem_toArray, List.getElem_cons_zero, List.getElem_cons_succ, List.setIfInBounds_toArray, List.set_cons_zero, List.set_cons_succ]
        refine wpAnyH_ready (rs := [8]) (by kernel_rfl) (by simp) ?_
        refine AllReadyH.cons rfl (fun K hK => ?_) (AllReadyH.nil)
        go_simp
        go_at_call 101; (with_reducible refine (HBF.out _).mono ?_); rintro e WA ⟨rfl, hbA⟩
        refine hK.out _ _ (below_next HS0.out hbA) (fun hHeld => ?_)
        try simp only [Act.put, List.getElem_toArray, List.getElem_cons_zero, List.getElem_cons_succ, List.setIfInBounds_toArray, List.set_cons_zero, List.set_cons_succ]
        refine wpAnyH_take (i := 9) (oi := _) (v := ?_) rfl (by kernel_rfl) (by kernel_rfl) (by kernel_rfl) (fun _ _ _ h => h) (Or.inl ⟨by rfl, ?_⟩) (by assumption) ?_
        rotate_left
        · (intro w hSw; have s0 := cell_kept hSw a0; have s1 := cell_kept hSw a1; have s2 := cell_kept hSw a2; have s3 := cell_kept hSw a3; have s4 := cell_kept hSw a4; have r0 := cell_kept hSw d0; have r1 := cell_kept hSw d1; have r2 := cell_kept hSw d2; have r3 := cell_kept hSw d3; have r4 := cell_kept hSw d4; go_simp; try with_reducible rfl)
        try simp only [Act.put, List.getElem_toArray, List.getElem_cons_zero, List.getElem_cons_succ, List.setIfInBounds_toArray, List.set_cons_zero, List.set_cons_succ]
        refine wpAnyH_done (by kernel_rfl) ?_ _
        have HBA := Lib.hid (below_next HS0.out hbA)
        have HOA := Lib.hid (own_below (show wr.drew.ownsRow W0.heap.size _ _ _ _ _ from HO.out) hbA)
        have e0 := cell_kept HBA.out d0
        have e1 := cell_kept HBA.out d1
        have e2 := cell_kept HBA.out d2
        have e3 := cell_kept HBA.out d3
        have e4 := cell_kept HBA.out d4
        have g0 := cell_kept HBA.out a0
        have g1 := cell_kept HBA.out a1
        have g2 := cell_kept HBA.out a2
        have g3 := cell_kept HBA.out a3
        have g4 := cell_kept HBA.out a4
        clear a0 a1 a2 a3 a4 hbA
        cases bb with
        | false =>
          have HM2 := Lib.hid (put_mid_no HD.out HM.out HBB.out)
          clear d0 d1 d2 d3 d4
          go_wp2_with (at_builtin; refine wpList_append_cmds rfl _ _ rfl W0.heap.size _ acc rfl (World.ownsRow.alloc (show WA.ownsRow W0.heap.size _ _ _ _ _ from HOA.out) _) _ _ _ [(⟨q, fk', fv', tk', tv'⟩ : Cmd)] rfl (cmds_lit WA (⟨q, fk', fv', tk', tv'⟩ : Cmd)) (by have := HAL.out; have := HCL.out; simp; omega) (by have := HBA.out.size; simp; omega) ?_; intro v4 w4 ho4 hg4; have HB4 := Lib.hid ((HBA.out.alloc HBA.out.size _).grown hg4 (by have := HBA.out.size; simp; omega) (fun k e => (HOA.out.lt k e).1)); clear hg4)
          go_roundw
          case rel => exact ⟨n + 1, _, false, rfl, by go_num, by have := HLT.out; have := HE.out; omega, ho4, HM2, HB4⟩
          case measure => have := HLT.out; simp [intOf]; omega
        | true =>
          have HM2 := Lib.hid (put_mid_now HD.out HM.out HBB.out)
          go_wp2_with (first | (at_builtin; refine wpList_append_cmds rfl _ _ rfl W0.heap.size _ acc rfl (World.ownsRow.alloc (show WA.ownsRow W0.heap.size _ _ _ _ _ from HOA.out) _) _ _ _ [(⟨p, fk, fv, tk, tv⟩ : Cmd)] rfl (cmds_lit WA (⟨p, fk, fv, tk, tv⟩ : Cmd)) (by have := HAL.out; have := HCL.out; simp; omega) (by have := HBA.out.size; simp; omega) ?_; intro v4 w4 ho4 hg4; have HB4 := Lib.hid ((HBA.out.alloc HBA.out.size _).grown hg4 (by have := HBA.out.size; simp; omega) (fun k e => (HOA.out.lt k e).1)); have HO4 := Lib.hid ho4; clear hg4 ho4 e0 e1 e2 e3 e4 g0 g1 g2 g3 g4; have e0 := cell_kept HB4.out d0; have e1 := cell_kept HB4.out d1; have e2 := cell_kept HB4.out d2; have e3 := cell_kept HB4.out d3; have e4 := cell_kept HB4.out d4) | (at_builtin; refine wpList_append_cmds rfl _ _ rfl W0.heap.size _ (acc ++ [(⟨p, fk, fv, tk, tv⟩ : Cmd)]) rfl (World.ownsRow.alloc (show w4.ownsRow W0.heap.size _ _ _ _ _ from HO4.out) _) _ _ _ [(⟨q, fk', fv', tk', tv'⟩ : Cmd)] rfl (cmds_lit w4 (⟨q, fk', fv', tk', tv'⟩ : Cmd)) (by have := HAL.out; have := HCL.out; simp; omega) (by have := HB4.out.size; simp; omega) ?_; intro v5 w5 ho5 hg5; have HB5 := Lib.hid ((HB4.out.alloc HB4.out.size _).grown hg5 (by have := HB4.out.size; simp; omega) (fun k e => (HO4.out.lt k e).1)); clear hg5))
          go_roundw
          case rel => exact ⟨n + 1, _, true, rfl, by go_num, by have := HLT.out; have := HE.out; omega, ho5, HM2, HB5⟩
          case measure => have := HLT.out; simp [intOf]; omega
    · have hge : (len : Int) ≤ n := by omega
      have hie : n = cs.length := by have := HE.out; omega
      subst hie
      clear hn hlt hown
      cases dn with
      | true =>
        have HX := Lib.hid (put_end_yes HM.out)
        go_wp2
        go_ret
        exact ⟨⟨_, rfl, by rw [← HX.out]; exact own_mono HO.out HB0.out.size⟩, HB0.out.trans (HB.out.mono HB0.out.size)⟩
      | false =>
        have HX := Lib.hid (put_end_no HM.out)
        have g0 := cell_kept HB.out a0
        have g1 := cell_kept HB.out a1
        have g2 := cell_kept HB.out a2
        have g3 := cell_kept HB.out a3
        have g4 := cell_kept HB.out a4
        clear a0 a1 a2 a3 a4
        go_wp2_with (at_builtin; refine wpList_append_cmds rfl _ _ rfl W0.heap.size _ acc rfl (World.ownsRow.alloc (show wr.ownsRow W0.heap.size _ _ _ _ _ from HO.out) _) _ _ _ [(⟨p, fk, fv, tk, tv⟩ : Cmd)] rfl (cmds_lit wr (⟨p, fk, fv, tk, tv⟩ : Cmd)) (by have := HAL.out; have := HCL.out; simp; omega) (by have := HB.out.size; simp; omega) ?_; intro v4 w4 ho4 hg4; have HB4 := Lib.hid ((HB.out.alloc HB.out.size _).grown hg4 (by have := HB.out.size; simp; omega) (fun k e => (HO.out.lt k e).1)); clear hg4)
        go_ret
        exact ⟨⟨_, rfl, by rw [← HX.out]; exact own_mono ho4 HB0.out.size⟩, HB0.out.trans (HB4.out.mono HB0.out.size)⟩

set_option maxHeartbeats 2000000 in
set_option maxRecDepth 100000 in
theorem specSort_c (a : Option Addr) (len cap : Nat) (cs : List Cmd) (hl : len ≤ 2000000) (W : World) (hN : CmdsAt W a len cs) :
    Calls Tryz.prog 90 #[.slice a len cap] W (CmdsPost (sortK cs) W) := by
  have HN := Lib.hid hN
  have HE := Lib.hid hN.1
  have HL := Lib.hid hl
  have hl' : (len : Int) ≤ 2000000 := by omega
  have HP := Lib.hid (fun a len cap cs c h W hN => specPut_c a len cap cs c h W hN)
  clear hN hl
  go_enter Tryz.func90, Tryz.ntmps90
  go_wp2
  go_loopw [3, 4] (fun o i wr => ∃ n : Nat, i = .int .i64 n ∧ n ≤ len ∧ wr.ownsRow W.heap.size 36 5 o (sortMid cs n).length (flatC (sortMid cs n)) ∧ Hid (Below W.heap.size W wr)) (fun _ i _ => len - (intOf i).toNat)
  case atStart => exact ⟨0, rfl, Nat.zero_le _, World.ownsRow_lit (e := 36) (size := 5) W #[] 0 (Nat.le_refl _) (by simp [maxLen]) rfl, below_box _ _⟩
  case round =>
    obtain ⟨n, rfl, hn, hown, HB⟩ := hrel
    by_cases hlt : n < len
    · have hlt' : (n : Int) < len := by omega
      have hw1 : IntKind.i64.wrap ((n : Int) + 1) = (n : Int) + 1 := IntWalk.i64_in _ (by omega)
      have HLT := Lib.hid hlt
      obtain ⟨b, off, d, rfl, hd, d0, d1, d2, d3, d4⟩ := (HN.out.keep HB.out).node hlt
      have HS := Lib.hid (sort_next hd)
      obtain ⟨ao, co, rfl, hco⟩ := cmds_of_own hown
      have HPP := Lib.hid (HP.out ao (sortMid cs n).length co (sortMid cs n) d (by have := sort_mid_len cs n; have := HL.out; omega) wr hco)
      obtain ⟨q, fk', fv', tk', tv'⟩ := d
      unfold cmdV at HPP
      simp only at d0 d1 d2 d3 d4 HPP
      clear hn hlt hd hown hco
      go_wp2_with fail
      refine HPP.out.mono ?_
      rintro e W2 ⟨⟨sl, rfl, ho⟩, hb2⟩
      have HO := Lib.hid (own_mono ho HB.out.size)
      have HB2 := Lib.hid (below_next HB.out hb2)
      clear ho hb2 d0 d1 d2 d3 d4
      rw [← HS.out] at HO
      go_wp2
      go_roundw
      case rel => exact ⟨n + 1, by go_num, by have := HLT.out; omega, HO.out, HB2⟩
      case measure => have := HLT.out; simp [intOf]; omega
    · have hge : (len : Int) ≤ n := by omega
      have hie : n = cs.length := by have := HE.out; omega
      subst hie
      have HX := Lib.hid (sort_mid_all cs)
      have HO := Lib.hid hown
      clear hn hlt hown
      go_wp2
      go_ret
      exact ⟨⟨_, rfl, by rw [← HX.out]; exact HO.out⟩, HB.out⟩

end Go.Proofs.YtpjoahddbdmbpaaGreatDoor

/-
  WALKS: canonical logs of the model, third part: spec.CanonValid.
-/
namespace Go.Proofs.YtpjoahddbdmbpaaGreatDoor
open Go.RowKit
end Go.Proofs.YtpjoahddbdmbpaaGreatDoor

/-
  WALKS: canonical logs of the model, fourth part: spec.LogCanon, CanonJoin.
-/
namespace Go.Proofs.YtpjoahddbdmbpaaGreatDoor
open Go.RowKit
set_option linter.unusedVariables false

def CanRel (cs : List Cmd) (W : World) (o i : Value) (wr : World) : Prop :=
  ∃ (n : Nat) (out : List Cmd), i = .int .i64 n ∧ n ≤ cs.length ∧ wr.ownsRow W.heap.size 36 5 o out.length (flatC out) ∧ Hid (midK cs n = some out) ∧ Hid (Below W.heap.size W wr)

def ChRel (cs : List Cmd) (W : World) (c : Cmd) (n X : Nat) (o : Value) (out : List Cmd) (k : Value) (wr : World) : Prop :=
  ∃ (m : Nat) (d : Cmd), k = .int .i64 m ∧ m ≤ cs.length ∧ d.p = c.p ∧ Hid (Five wr X (.string d.p) (.int .i64 d.fk) (.int .i64 d.fv) (.int .i64 d.tk) (.int .i64 d.tv)) ∧ Hid (chainK c (cs.drop (n + 1)) = chainK d (cs.drop m)) ∧ Hid (wr.ownsRow W.heap.size 36 5 o out.length (flatC out)) ∧ Hid (Below W.heap.size W wr)

theorem own_away {W : World} {base : Nat} {e : TypeId} {size n : Nat} {v : Value} {xs : List Value} (h : W.ownsRow base e size v n xs) {X : Nat} (hX : ∀ k, v.ownBlock = some k → k < X) (o : Nat) (u : Value) : (W.setCell ⟨X, o, none⟩ u).ownsRow base e size v n xs := by
  refine h.kept (row := some X) ⟨rfl, rfl, rfl, by simp [World.setCell], fun k _ hk => Below.heap_setCell _ _ _ _ (fun e => hk (by rw [e]))⟩ ?_
  cases hv : v.ownBlock with
  | none => exact .inl rfl
  | some k => right; exact fun e => by have := hX k hv; cases e; omega

set_option maxHeartbeats 8000000 in
set_option maxRecDepth 100000 in
theorem specLogCanon_c (a : Option Addr) (len cap : Nat) (cs : List Cmd) (hl : len ≤ 2097152) (hs : ShortC 2097152 cs) (W : World) (hN : CmdsAt W a len cs) :
    Calls Tryz.prog 74 #[.slice a len cap] W (MovePost (logCanon cs) W) := by
  obtain ⟨vl, hvl⟩ : ∃ vl, validL cs = vl := ⟨_, rfl⟩
  have HLV := Lib.hid (show Calls Tryz.prog 42 #[.slice a len cap] W (BoolPost vl W) by rw [← hvl]; exact specLogValid_c a len cap cs (by omega) hs W hN)
  have HF := Lib.hid (fun W' (hb : Below W.heap.size W W') n c (hc : cs[n]? = some c) => specFirst_c a len cap cs n c hc (by omega) W' (hN.keep hb))
  have HVL := Lib.hid hvl
  have HN := Lib.hid hN
  have HE := Lib.hid hN.1
  have hl' : (len : Int) ≤ 2097152 := by omega
  clear hN hs hvl
  go_enter Tryz.func74, Tryz.ntmps74
  go_wp2_with fail
  refine HLV.out.mono ?_
  rintro e W1 ⟨rfl, hb1⟩
  have B1 := Lib.hid hb1
  clear hb1
  cases vl with
  | false =>
    have HX := Lib.hid (canon_bad HVL.out)
    go_wp2
    go_ret2
    exact move_none HX.out B1.out
  | true =>
    go_wp2_with fail
    go_loopw [4, 5, 6, 7] (fun o i _ _ wr => CanRel cs W o i wr) (fun _ i _ _ _ => len - (intOf i).toNat)
    case atStart => exact ⟨0, [], rfl, Nat.zero_le _, World.ownsRow_lit (e := 36) (size := 5) W1 #[] 0 B1.out.size (by simp [maxLen]) rfl, rfl, B1.out.alloc B1.out.size _⟩
    case round =>
      obtain ⟨n, out, rfl, hn, hown, HM, HB⟩ := hrel
      have HO := Lib.hid hown
      have HOL := Lib.hid (mid_len hn HM.out)
      by_cases hlt : n < len
      · have hlt' : (n : Int) < len := by omega
        have hw1 : IntKind.i64.wrap ((n : Int) + 1) = (n : Int) + 1 := IntWalk.i64_in _ (by omega)
        have HLT := Lib.hid (show n < len ∧ n < cs.length by have := HE.out; omega)
        obtain ⟨b, off, c, rfl, hc, d0, d1, d2, d3, d4⟩ := HN.out.node hlt
        have HC := Lib.hid hc
        obtain ⟨ff, hff⟩ : ∃ ff, firstK cs n c.p = ff := ⟨_, rfl⟩
        have HFI := Lib.hid (fun W' (hb : Below W.heap.size W W') => show Calls Tryz.prog 51 #[.slice (some ⟨b, off, none⟩) len cap, .int .i64 n] W' (BoolPost ff W') by rw [← hff]; exact HF.out W' hb n c hc)
        have HFF := Lib.hid hff
        clear hn hlt hc hff hown
        go_wp2_with fail
        refine (HFI.out _ HB.out).mono ?_
        rintro e W2 ⟨rfl, hb2⟩
        have HB2 := Lib.hid (below_next HB.out hb2)
        have HO2 := Lib.hid (own_below HO.out hb2)
        clear hb2
        cases ff with
        | false =>
          have HM2 := Lib.hid ((mid_next HM.out HC.out).trans (step_not HFF.out))
          clear d0 d1 d2 d3 d4
          go_wp2
          go_roundw
          case rel => exact ⟨n + 1, out, by go_num, by have := HLT.out.2; omega, HO2.out, HM2, HB2⟩
          case measure => have := HLT.out; simp [intOf]; omega
        | true =>
          have c0 := cell_kept HB2.out d0
          have c1 := cell_kept HB2.out d1
          have c2 := cell_kept HB2.out d2
          have c3 := cell_kept HB2.out d3
          have c4 := cell_kept HB2.out d4
          have HK := Lib.hid (fun k (e : (Value.ownBlock _) = some k) => (HO2.out.lt k e).2)
          have HMN := Lib.hid (mid_next HM.out HC.out)
          obtain ⟨p, fk, fv, tk, tv⟩ := c
          simp only at c0 c1 c2 c3 c4
          clear d0 d1 d2 d3 d4
          go_wp2_with fail
          go_loopw [7] (fun k wr => ChRel cs W ⟨p, fk, fv, tk, tv⟩ n W2.heap.size _ out k wr) (fun k _ => len - (intOf k).toNat)
          case atStart => exact ⟨n + 1, ⟨p, fk, fv, tk, tv⟩, by go_num, by have := HLT.out.2; omega, rfl, five_new W2 _ _ _ _ _ _, rfl, HO2.out.alloc _, HB2.out.alloc HB2.out.size _⟩
          case round =>
            obtain ⟨m, d, rfl, hm, hdp, HF5, HCH, HOI, HBI⟩ := hrel
            obtain ⟨dp, dk, dv, tk2, tv2⟩ := d
            simp only at hdp HF5
            subst hdp
            obtain ⟨b0, b1, b2, b3, b4, f0, f1, f2, f3, f4, -⟩ := HF5.out
            by_cases hmt : m < len
            · have hmt' : (m : Int) < len := by omega
              have hwm : IntKind.i64.wrap ((m : Int) + 1) = (m : Int) + 1 := IntWalk.i64_in _ (by omega)
              have HMT := Lib.hid (show m < len ∧ m < cs.length by have := HE.out; omega)
              obtain ⟨bb, off2, x, hbb, hx, r0, r1, r2, r3, r4⟩ := (HN.out.keep HBI.out).node hmt
              cases hbb
              have HX := Lib.hid hx
              obtain ⟨q, gk, gv, uk, uv⟩ := x
              simp only at r0 r1 r2 r3 r4
              by_cases hq : q = dp
              · have heq : (q.toList == dp.toList) = true := by rw [hq]; simp
                have HQ := Lib.hid hq
                clear hm hmt hx hq
                go_upto_region 12 with (fail)
                go_region
                have HB3 : Hid (Below W.heap.size W wr.drew) := HBI.out.drew
                have HF3 : Hid (Five wr.drew W2.heap.size (.string dp) (.int .i64 dk) (.int .i64 dv) (.int .i64 tk2) (.int .i64 tv2)) := HF5.out.drew
                have HO3 := Lib.hid (show wr.drew.ownsRow W.heap.size _ _ _ _ _ from HOI.out)
                clear b0 b1 b2 b3 b4 f0 f1 f2 f3 f4 r0 r1 r2 r3 r4
                generalize wr.drew = Wd at HB3 HF3 HO3 ⊢
                obtain ⟨bb, off2, x, hbb, hx, r0, r1, r2, r3, r4⟩ := (HN.out.keep HB3.out).node HMT.out.1
                cases hbb
                obtain rfl : x = ⟨q, gk, gv, uk, uv⟩ := by rw [HX.out] at hx; exact (Option.some.inj hx).symm
                simp only at r0 r1 r2 r3 r4
                obtain ⟨b0, b1, b2, b3, b4, f0, f1, f2, f3, f4, -⟩ := HF3.out
                clear hx
                by_cases hc : (gk, gv) = (tk2, tv2)
                · have hne := fun w => (conNeQ gk gv tk2 tv2 w).trans (show _ = Result.ok (Value.bool false) w by simp only [Prod.mk.injEq] at hc; rw [hc.1, hc.2]; simp)
                  have HC2 := Lib.hid (chain_next (c := ⟨dp, dk, dv, tk2, tv2⟩) HX.out HQ.out hc)
                  clear hc
                  go_upto_region 13 with (fail)
                  go_region
                  go_wp2
                  go_roundw
                  case rel => exact ⟨m + 1, ⟨dp, dk, dv, uk, uv⟩, by go_num, by have := HMT.out.2; omega, rfl, HF3.out.drew.set3.set4, HCH.out.trans HC2.out, own_away (own_away (show Wd.drew.ownsRow W.heap.size _ _ _ _ _ from HO3.out) HK.out _ _) HK.out _ _, below_setCell (below_setCell HB3.out.drew _ _ HB2.out.size) _ _ HB2.out.size⟩
                  case measure => have := HMT.out; simp [intOf]; omega
                · have hne := fun w => (conNeQ gk gv tk2 tv2 w).trans (show _ = Result.ok (Value.bool true) w by
                    have : (gk == tk2 && gv == tv2) = false := by
                      rw [Bool.eq_false_iff]; intro h; simp only [Bool.and_eq_true, beq_iff_eq] at h; exact hc (by rw [h.1, h.2])
                    rw [this]; rfl)
                  have HC2 := Lib.hid (chain_bad (c := ⟨dp, dk, dv, tk2, tv2⟩) HX.out HQ.out hc)
                  have HR := Lib.hid (canon_fail (i := n + 1) (by have := HLT.out.2; omega) (HMN.out.trans (step_fail HFF.out (HCH.out.trans HC2.out))))
                  clear hc
                  go_upto_region 13 with (fail)
                  go_region
                  go_wp2
                  go_ret2
                  exact move_none HR.out HB3.out.drew
              · have heq : (q.toList == dp.toList) = false := toList_ne hq
                have HC2 := Lib.hid (chain_other (c := ⟨dp, dk, dv, tk2, tv2⟩) hx hq)
                have HB3 : Hid (Below W.heap.size W wr.drew) := HBI.out.drew
                clear hm hmt hx hq
                go_upto_region 12 with (fail)
                go_region
                go_wp2
                go_roundw
                case rel => exact ⟨m + 1, ⟨dp, dk, dv, tk2, tv2⟩, by go_num, by have := HMT.out.2; omega, rfl, HF5.out.drew, HCH.out.trans HC2.out, (show wr.drew.ownsRow W.heap.size _ _ _ _ _ from HOI.out), HB3⟩
                case measure => have := HMT.out; simp [intOf]; omega
            · have hge : (len : Int) ≤ m := by omega
              have hie : m = cs.length := by have := HE.out; omega
              subst hie
              have HC2 := Lib.hid (HCH.out.trans chain_end)
              clear hm hmt
              by_cases hc : (dk, dv) = (tk2, tv2)
              · have hne := fun w => (conNeQ dk dv tk2 tv2 w).trans (show _ = Result.ok (Value.bool false) w by simp only [Prod.mk.injEq] at hc; rw [hc.1, hc.2]; simp)
                have HM2 := Lib.hid (HMN.out.trans (step_same HFF.out HC2.out hc))
                clear hc
                go_wp2
                go_roundw
                case rel => exact ⟨n + 1, out, by go_num, by have := HLT.out.2; omega, HOI.out, HM2, HBI⟩
                case measure => have := HLT.out; simp [intOf]; omega
              · have hne := fun w => (conNeQ dk dv tk2 tv2 w).trans (show _ = Result.ok (Value.bool true) w by
                  have : (dk == tk2 && dv == tv2) = false := by
                    rw [Bool.eq_false_iff]; intro h; simp only [Bool.and_eq_true, beq_iff_eq] at h; exact hc (by rw [h.1, h.2])
                  rw [this]; rfl)
                have HM2 := Lib.hid (HMN.out.trans (step_add HFF.out HC2.out hc))
                have HHB := Lib.hid (fun k (e : (Value.ownBlock _) = some k) => (HOI.out.lt k e).1)
                clear hc
                go_wp2_with (at_builtin; refine wpList_append_cmds rfl _ _ rfl W.heap.size _ out rfl (HOI.out.alloc _) _ _ _ [⟨dp, dk, dv, tk2, tv2⟩] rfl (cmds_lit wr ⟨dp, dk, dv, tk2, tv2⟩) (by have := HOL.out; have := HLT.out; simp; omega) (by have := HBI.out.size; simp; omega) ?_; intro v4 w4 ho4 hg4; have HB4 := Lib.hid ((HBI.out.alloc HBI.out.size _).grown hg4 (by have := HBI.out.size; simp; omega) HHB.out); clear hg4)
                go_roundw
                case rel => exact ⟨n + 1, _, by go_num, by have := HLT.out.2; omega, ho4, HM2, HB4⟩
                case measure => have := HLT.out; simp [intOf]; omega
      · have hge : (len : Int) ≤ n := by omega
        have hie : n = cs.length := by have := HE.out; omega
        subst hie
        have HX := Lib.hid (canon_done HVL.out HM.out)
        obtain ⟨ao, co, rfl, hco⟩ := cmds_of_own hown
        have HST := Lib.hid (specSort_c ao out.length co out (by have := HOL.out; have := HE.out; have := ((validL_iff cs).1 HVL.out).2; omega) wr hco)
        clear hn hlt hown hco
        go_wp2_with fail
        refine HST.out.mono ?_
        rintro e W2 ⟨⟨sl, rfl, ho⟩, hb2⟩
        have HO2 := Lib.hid (own_mono ho HB.out.size)
        have HB2 := Lib.hid (below_next HB.out hb2)
        clear ho hb2
        go_wp2
        go_ret2
        exact move_end HX.out HO2.out HB2.out

theorem canon_at {cs ds : List Cmd} {w : World} {base : Nat} {v : Value} (hl : cs.length + ds.length ≤ 2097152) (hs : ShortC 2097152 (cs ++ ds)) (h : w.ownsRow base 36 5 v (cs ++ ds).length (flatC (cs ++ ds))) :
    Calls Tryz.prog 74 #[v] w (MovePost (logCanon (cs ++ ds)) w) := by
  obtain ⟨ao, co, rfl, hco⟩ := cmds_of_own h
  exact specLogCanon_c ao (cs ++ ds).length co (cs ++ ds) (by rw [List.length_append]; exact hl) hs w hco

end Go.Proofs.YtpjoahddbdmbpaaGreatDoor

/-
  WALKS: drawn canonical logs: spec.l91Canon, DrawLogCanon, DrawCanonValid, DrawCanonJoin, DrawCanonDiff.
-/
namespace Go.Proofs.YtpjoahddbdmbpaaGreatDoor
open Go.RowKit
set_option linter.unusedVariables false

theorem canon_short {m : Nat} {cs : List Cmd} (hs : ShortC m cs) : ShortC m (logCanon cs).1 ∧ (logCanon cs).1.length ≤ cs.length := by
  cases hr : logCanon cs with
  | mk out ok =>
    cases ok with
    | false =>
      have : out = [] := by
        unfold logCanon at hr
        split at hr
        · split at hr
          · injection hr with e _; exact e.symm
          · injection hr with _ e; cases e
        · injection hr with e _; exact e.symm
      subst this
      exact ⟨fun c hc => (by cases hc), Nat.zero_le _⟩
    | true =>
      obtain ⟨_, _, _, _, h5, h6⟩ := canon_some hr
      refine ⟨fun c hc => ?_, h6⟩
      have hk := ((h5 c).1 hc).1
      refine Classical.byContradiction (fun hn => ?_)
      rw [unseen (fun ⟨d, hd, hp⟩ => hn (by rw [← hp]; exact hs d hd))] at hk
      cases hk

theorem below_grown_any {W W' : World} (h : Below W.heap.size W W') (row : Option Nat) : W.grownBy W' row := ⟨h.os, h.tape, h.output, h.size, fun k hk _ => h.block k hk⟩

theorem shortC_swap {m : Nat} {cs : List Cmd} {i j : Nat} (h : ShortC m cs) (hi : i < cs.length) (hj : j < cs.length) : ShortC m (swapK cs i j) := fun c hc => h c ((swapK_perm hi hj).mem_iff.1 hc)

theorem swap_draw {N0 B p q k g cap : Nat} {out : List Cmd} {W W5 : World} {ci cj : Cmd} {o : Obj} (ho : W5.ownsRow W.heap.size 36 5 (.slice (some ⟨g, 0, none⟩) out.length cap) out.length (flatC out))
    (hs : (set5 (set5 W5 g (k * 5) cj) g ((k + 1) * 5) ci).ownsRow W.heap.size 36 5 (.slice (some ⟨g, 0, none⟩) out.length cap) out.length (flatC (swapK out k (k + 1)))) (hk : k + 1 < out.length) (hl : out.length ≤ 20) (hsh : ShortC 66 out)
    (hq : q + 1 + 1 ≤ p + 1100) (hR : RdAt N0 W5 B (q + 1 + 1)) (hG : W.grownBy W5 (some B)) (hle : N0 ≤ W.heap.size) : LogDraw N0 B p 21 1100 W (.returned (.slice (some ⟨g, 0, none⟩) out.length cap)) ((set5 (set5 W5 g (k * 5) cj) g ((k + 1) * 5) ci).alloc o) := by
  have hg : W5.grownBy (set5 (set5 W5 g (k * 5) cj) g ((k + 1) * 5) ci) (some g) := grown_then (grown_set5 _ _ _ _) (grown_set5 _ _ _ _) (fun j e => .inr e)
  have hlow := (ho.lt g rfl).1
  have hR' := push_reader (v := .slice (some ⟨g, 0, none⟩) out.length cap) (fun j e => by cases e; exact hlow) hle hR hg
  have hG' := push_grown (v := .slice (some ⟨g, 0, none⟩) out.length cap) (fun j e => by cases e; exact hlow) hG hg
  refine ⟨_, swapK out k (k + 1), q + 1 + 1, rfl, ?_, by rw [swapK_length]; omega, shortC_swap hsh (by omega) hk, hq, hR'.alloc o, grownBy_trans hG' (World.grownBy_alloc _ _ _)⟩
  rw [swapK_length]
  exact own_below hs (below_box _ o)

set_option maxHeartbeats 2000000 in
set_option maxRecDepth 100000 in
theorem l91Canon_c (N0 B p base : Nat) (sl : Value) (ns : List Nd) (hlen : ns.length ≤ 11) (hs : Short 64 ns) (hb : B < base) (W : World) (hbW : base ≤ W.heap.size) (hown : W.ownsRow base 75 3 sl ns.length (flatN ns)) (hp : p < 10000) (hR : RdAt N0 W B p) :
    Calls Tryz.prog 49 #[.pointer (some ⟨B, 0, none⟩), sl] W (LogDraw N0 B p 21 1100 W) := by
  have HLT := Lib.hid hR.lt
  have HLE := Lib.hid hR.le
  have HP1 := Lib.hid (fun W hR => pick_c N0 B p 12 (by omega) (by omega) W (by omega) hR)
  have HT := Lib.hid (fun n h0 h1 W' (hW : base ≤ W'.heap.size) ho hR => l91Log_c N0 B (p + 1) base sl ns n h0 h1 hlen hs hb W' hW ho (by omega) hR)
  have HPK := Lib.hid (fun q n h0 h1 W hq hR => pick_c N0 B q n h0 h1 W hq hR)
  have HPP := Lib.hid hp
  have HOW := Lib.hid hown
  have HBB := Lib.hid hb
  have HBW := Lib.hid hbW
  clear hp hown hb hbW hlen hs
  go_enter Tryz.func49, Tryz.ntmps49
  go_wp2_with fail
  refine (HP1.out _ hR).mono ?_; rintro e W1 ⟨n, rfl, n0, n1, hR1, hg1⟩
  have HN := Lib.hid (And.intro n0 n1)
  have HO1 := Lib.hid (own_reader HOW.out HBB.out hg1)
  have HG1 := Lib.hid hg1
  have HW1 := Lib.hid (show base ≤ W1.heap.size by have h1 := HG1.out.size; have h2 := HBW.out; omega)
  have HR1 := Lib.hid hR1
  clear n0 n1 hR hR1 hg1
  go_wp2_with fail
  refine (HT.out n HN.out.1 (by have := HN.out.2; omega) _ HW1.out HO1.out HR1.out).mono ?_; rintro e W2 ⟨v, cs, q, rfl, hown0, hlen, hsh, hq, hR2, hg2⟩
  obtain ⟨a2, c2, rfl, hC2⟩ := cmds_of_own hown0
  have HG2 := Lib.hid (grownBy_trans HG1.out hg2)
  have HSH := Lib.hid hsh
  have HLN := Lib.hid hlen
  have HQ := Lib.hid hq
  have HR2 := Lib.hid hR2
  have HCL := Lib.hid (specLogCanon_c a2 cs.length c2 cs (by omega) (hsh.mono (by omega)) W2 hC2)
  clear hown0 hg2 hsh hlen hq hR2 hC2
  go_wp2_with fail
  refine HCL.out.mono ?_
  rintro e W3 ⟨sl3, rfl, ho3, hb3⟩
  obtain ⟨hs3, hl3⟩ := canon_short HSH.out
  obtain ⟨out, ok, hr⟩ : ∃ out ok, logCanon cs = (out, ok) := ⟨_, _, rfl⟩
  rw [hr] at hs3 hl3 ho3 ⊢
  have HG3 := Lib.hid (grownBy_trans HG2.out (below_grown_any hb3 (some B)))
  have HR3 := Lib.hid (HR2.out.keep hb3)
  have HLO := Lib.hid (Nat.le_trans hl3 HLN.out)
  have HSO := Lib.hid hs3
  have hO3 := own_mono ho3 (show W.heap.size ≤ W2.heap.size from HG2.out.size)
  have HLT3 := Lib.hid (show B < W.heap.size from HLT.out)
  clear hr hb3 ho3 hl3 hs3
  simp only at HLO HSO hO3 ⊢
  have HO3 := Lib.hid hO3
  clear hO3
  by_cases hl1 : out.length ≤ 1
  · obtain ⟨a3, c3, rfl, -⟩ := cmds_of_own HO3.out
    have hl1' : ¬ ((1 : Int) < out.length) := by omega
    go_wp2
    go_ret
    exact ⟨_, out, q, rfl, HO3.out, by have := HLO.out; omega, HSO.out, by have := HQ.out; omega, HR3.out, HG3.out⟩
  · have hl1' : (1 : Int) < out.length := by omega
    obtain ⟨g, cap, rfl, hgb, hlc, hcm⟩ := own_sliceC HO3.out (by omega)
    have HL1 := Lib.hid (show 1 < out.length by omega)
    clear hgb hlc hcm hl1
    go_wp2_with fail
    refine (HPK.out q 24 (by omega) (by omega) _ (by have := HQ.out; have := HPP.out; omega) HR3.out).mono ?_; rintro e W4 ⟨t, rfl, t0, t1, hR4, hg4⟩
    have HO4 := Lib.hid (own_reader HO3.out HLT.out hg4)
    have HG4 := Lib.hid (grownBy_trans HG3.out hg4)
    have HR4 := Lib.hid hR4
    clear t0 t1 hR4 hg4
    by_cases ht : t = 0
    · subst ht
      have hol : (out.length : Int) ≤ 20 := by have := HLO.out; omega
      go_wp2_with fail
      refine (HPK.out (q + 1) ((out.length : Int) - 1) (by omega) (by omega) _ (by have := HQ.out; have := HPP.out; omega) HR4.out).mono ?_; rintro e W5 ⟨k', rfl, k0, k1, hR5, hg5⟩
      obtain ⟨k, rfl⟩ := Int.eq_ofNat_of_zero_le k0
      have HK := Lib.hid (show k + 1 < out.length by omega)
      have hO5 := own_reader HO4.out HLT.out hg5
      have HG5 := Lib.hid (grownBy_trans HG4.out hg5)
      have HR5 := Lib.hid hR5
      obtain ⟨c0, c1, c2, c3, c4⟩ := hp_cells hO5 (i := k) (by have := HK.out; omega) rfl
      obtain ⟨d0, d1, d2, d3, d4⟩ := hp_cells hO5 (i := k + 1) HK.out rfl
      have f0 := fun o => row_frozen hO5 o
      obtain ⟨cj, hcj⟩ : ∃ c, atK out (k + 1) = c := ⟨_, rfl⟩
      obtain ⟨ci, hci⟩ : ∃ c, atK out k = c := ⟨_, rfl⟩
      have HCI := Lib.hid (And.intro hci hcj)
      rw [hci] at c0 c1 c2 c3 c4
      rw [hcj] at d0 d1 d2 d3 d4
      have hr1 := own_set5 hO5 (i := k) (by have := HK.out; omega) cj
      obtain ⟨x0, x1, x2, x3, x4⟩ := hp_cells hr1 (i := k + 1) (by rw [List.length_set]; exact HK.out) (by rw [List.length_set])
      obtain ⟨cx, hcx⟩ : ∃ c, atK (out.set k cj) (k + 1) = c := ⟨_, rfl⟩
      rw [hcx] at x0 x1 x2 x3 x4
      unfold set5 at x0 x1 x2 x3 x4
      have HO5 := Lib.hid hO5
      have hgl := World.block_lt_of_cell? W5 _ c0
      have hkl : (k : Int) < out.length := by have := HK.out; omega
      have hkl2 : (k : Int) + 1 < out.length := by have := HK.out; omega
      have hk20 : (k : Int) ≤ 20 := by omega
      clear hcj hci hcx hr1 hO5 hg5 hR5 k0 k1
      go_wp2
      have HSW := own_swap5 HO5.out (i := k) (j := k + 1) (by have := HK.out; omega) HK.out
      rw [HCI.out.1, HCI.out.2] at HSW
      clear c0 c1 c2 c3 c4 d0 d1 d2 d3 d4 x0 x1 x2 x3 x4 f0
      go_ret
      exact swap_draw HO5.out HSW HK.out HLO.out HSO.out (by have := HQ.out; omega) HR5.out HG5.out HLE.out
    · have ht0 : (t == 0) = false := beq_eq_false_iff_ne.2 ht
      clear ht
      go_wp2
      go_ret
      exact ⟨_, out, q + 1, rfl, HO4.out, by have := HLO.out; omega, HSO.out, by have := HQ.out; omega, HR4.out, HG4.out⟩

/-- Two drawn logs, one behind the other. -/
def JoinPost (W : World) (e : Ending) (W' : World) : Prop :=
  ∃ (a : Option Addr) (cap : Nat) (a2 : Option Addr) (cap2 : Nat) (cs ds : List Cmd), e = .returned (.tuple #[.slice a cs.length cap, .slice a2 ds.length cap2]) ∧ CmdsAt W' a cs.length cs ∧ CmdsAt W' a2 ds.length ds ∧ (cs ++ ds).length ≤ 21 ∧ ShortC 66 (cs ++ ds) ∧ Below W.heap.size W W'

theorem join_end {W W4 : World} {base g c k o c1 c2 : Nat} {out : List Cmd} {e : Ending} (he : e = .returned (.tuple #[.slice (some ⟨g, 0, none⟩) k c1, .slice (some ⟨g, o, none⟩) (out.length - k) c2])) (ho : W4.ownsRow base 36 5 (.slice (some ⟨g, 0, none⟩) out.length c) out.length (flatC out))
    (hk : k ≤ out.length) (hoo : o = k * 5 ∨ out.length = k) (hl : out.length ≤ 21) (hs : ShortC 66 out) (hB : Below W.heap.size W W4) (n : Nat) : JoinPost W e (W4.drewN n) := by
  have h4 : Below W4.heap.size W4 (W4.drewN n) := below_drewN (Below.refl _ _) n
  have ht : (out.take k).length = k := by rw [List.length_take]; omega
  have hd : (out.drop k).length = out.length - k := List.length_drop ..
  have h1 := (cmds_own ho).part 0 k (Nat.zero_le _) hk
  rw [Nat.zero_mul, Nat.add_zero, Nat.sub_zero, List.drop_zero] at h1
  have h2 := own_tailC ho k hk o hoo
  exact ⟨some ⟨g, 0, none⟩, c1, some ⟨g, o, none⟩, c2, out.take k, out.drop k, by rw [ht, hd]; exact he, by rw [ht]; exact h1.keep h4, by rw [hd]; exact h2.keep h4, by rw [List.take_append_drop]; exact hl, by rw [List.take_append_drop]; exact hs, below_drewN hB n⟩

end Go.Proofs.YtpjoahddbdmbpaaGreatDoor

/-
  WALKS: commands in an order that is drawn: spec.l91Mixed; DrawMustPrecede, DrawOrderFits, DrawOrderSwap, DrawOrdersCount.
-/
namespace Go.Proofs.YtpjoahddbdmbpaaGreatDoor
open Go.RowKit
set_option linter.unusedVariables false

theorem os_first : (0 : Nat) ≤ 0 := Nat.le_refl 0

/-- What is drawn: some list of nodes, and commands in some order. -/
def MixedPost (N0 B p : Nat) (W : World) (e : Ending) (W' : World) : Prop :=
  ∃ (v sl : Value) (out : List Cmd) (q : Nat), e = .returned (.tuple #[v, sl]) ∧ W'.ownsRow W.heap.size 36 5 sl out.length (flatC out) ∧ out.length ≤ 21 ∧ ShortC 66 out ∧ q ≤ p + 1800 ∧ RdAt N0 W' B q ∧ W.grownBy W' (some B)

def MixRel (N0 B q0 L : Nat) (a : Option Addr) (cap : Nat) (W : World) (i : Value) (wr : World) : Prop :=
  ∃ (n q : Nat) (cs : List Cmd), i = .int .i64 n ∧ n ≤ 5 ∧ Hid (wr.ownsRow W.heap.size 36 5 (.slice a L cap) L (flatC cs)) ∧ Hid (cs.length = L ∧ ShortC 66 cs ∧ q ≤ q0 + 2 * n) ∧ Hid (RdAt N0 wr B q) ∧ Hid (W.grownBy wr (some B))

theorem mix_swap {N0 B q g cap L : Nat} {xs ys : List Value} {W W5 WX : World} (ho : W5.ownsRow W.heap.size 36 5 (.slice (some ⟨g, 0, none⟩) L cap) L xs) (hs : WX.ownsRow W.heap.size 36 5 (.slice (some ⟨g, 0, none⟩) L cap) L ys)
    (hg : W5.grownBy WX (some g)) (hR : RdAt N0 W5 B q) (hG : W.grownBy W5 (some B)) (hle : N0 ≤ W.heap.size) : WX.ownsRow W.heap.size 36 5 (.slice (some ⟨g, 0, none⟩) L cap) L ys ∧ RdAt N0 WX B q ∧ W.grownBy WX (some B) := by
  have hlow := (ho.lt g rfl).1
  exact ⟨hs, push_reader (v := .slice (some ⟨g, 0, none⟩) L cap) (fun j e => by cases e; exact hlow) hle hR hg, push_grown (v := .slice (some ⟨g, 0, none⟩) L cap) (fun j e => by cases e; exact hlow) hG hg⟩

set_option maxHeartbeats 4000000 in
set_option maxRecDepth 100000 in
theorem l91Mixed_c (N0 B p : Nat) (W : World) (hp : p < 8000) (hR : RdAt N0 W B p) :
    Calls Tryz.prog 26 #[.pointer (some ⟨B, 0, none⟩)] W (MixedPost N0 B p W) := by
  have HLT := Lib.hid hR.lt
  have HLE := Lib.hid hR.le
  have HT := Lib.hid (l91Tree_c N0 B p 8 (by omega) (by omega) W (by omega) hR)
  have HPK := Lib.hid (fun q n h0 h1 W hq hR => pick_c N0 B q n h0 h1 W hq hR)
  have HMU := Lib.hid (fun c d w => specMust_c c d w)
  have HPP := Lib.hid hp
  clear hR hp
  go_enter Tryz.func26, Tryz.ntmps26
  go_wp2_with fail
  refine HT.out.mono ?_; rintro e W1 ⟨sl, ns, q1, rfl, hown, -, hl, hs, hq1, hR1, hg1⟩
  have HC := Lib.hid (l91Canon_c N0 B q1 W.heap.size sl ns (by omega) hs HLT.out W1 hg1.size hown (by have := HPP.out; omega) hR1)
  have HG1 := Lib.hid hg1
  have HQ1 := Lib.hid hq1
  clear hown hl hs hq1 hR1 hg1
  go_wp2_with fail
  refine HC.out.mono ?_; rintro e W2 ⟨s2, out, q2, rfl, ho2, hl2, hs2, hq2, hR2, hg2⟩
  have HO2 := Lib.hid (own_mono ho2 (show W.heap.size ≤ W1.heap.size from HG1.out.size))
  have HG2 := Lib.hid (grownBy_trans HG1.out hg2)
  have HQ2 := Lib.hid (show q2 ≤ p + 1760 by have := HQ1.out; omega)
  have HL2 := Lib.hid (And.intro hl2 hs2)
  have HP6 := Lib.hid (pick_c N0 B q2 6 (by omega) (by omega) W2 (by have := HQ2.out; have := HPP.out; omega) hR2)
  clear ho2 hl2 hs2 hq2 hR2 hg2
  go_wp2_with fail
  refine HP6.out.mono ?_; rintro e W3 ⟨N, rfl, N0', N1, hR3, hg3⟩
  have hO3 := own_reader HO2.out HLT.out hg3
  have HG3 := Lib.hid (grownBy_trans HG2.out hg3)
  have HR3 := Lib.hid hR3
  obtain ⟨a, cap, rfl, -⟩ := cmds_of_own hO3
  obtain ⟨L, hL⟩ : ∃ L, out.length = L := ⟨_, rfl⟩
  rw [hL] at hO3 ⊢
  have HO3 := Lib.hid hO3
  have HL := Lib.hid (And.intro hL (show L ≤ 21 by have := HL2.out.1; omega))
  have hL21 : (L : Int) ≤ 21 := by have := HL.out.2; omega
  have hLw : IntKind.i64.wrap ((L : Int) - 1) = (L : Int) - 1 := IntWalk.i64_in _ (by omega)
  clear hO3 hg3 hR3 hL
  go_wp2_with fail
  go_loopw [7] (fun i wr => MixRel N0 B (q2 + 1) L a cap W i wr) (fun i _ => 5 - (intOf i).toNat)
  case atStart => exact ⟨0, q2 + 1, out, rfl, Nat.zero_le _, HO3, Lib.hid ⟨HL.out.1, HL2.out.2, by omega⟩, HR3, HG3⟩
  case round =>
    obtain ⟨n, q, cs, rfl, hn, HO, HX, HR, HG⟩ := hrel
    have HN5 := Lib.hid hn
    by_cases hlt : (n : Int) < N
    · by_cases hl1 : 1 < L
      · have hn5 : (n : Int) < 5 := by omega
        have hl1' : (1 : Int) < L := by omega
        have hw1 : IntKind.i64.wrap ((n : Int) + 1) = (n : Int) + 1 := IntWalk.i64_in _ (by omega)
        have HN := Lib.hid (show n + 1 ≤ 5 by omega)
        have HCL := Lib.hid HX.out.1
        have HQ := Lib.hid (show q < 29990 by have := HX.out.2.2; have := HQ2.out; have := HPP.out; omega)
        have hO := HO.out
        obtain ⟨g, hg⟩ : ∃ g, a = some ⟨g, 0, none⟩ := by
          rcases hO.2 with ⟨h1, h2⟩ | ⟨g, c', cur, h1, _⟩
          · omega
          · injection h1 with h1; exact ⟨g, h1⟩
        subst hg
        have hcap : (L : Int) ≤ cap := by
          rcases hO.2 with ⟨h1, h2⟩ | ⟨g', c', cur, h1, _, _, h3, _⟩
          · omega
          · injection h1 with _ _ h1; omega
        have HP1 := Lib.hid (HPK.out q ((L : Int) - 1) (by omega) (by omega) wr (by have := HQ.out; omega) HR.out)
        clear hn hO
        go_wp2_with fail
        refine HP1.out.mono ?_; rintro e W4 ⟨k', rfl, k0, k1, hR4, hg4⟩
        obtain ⟨k, rfl⟩ := Int.eq_ofNat_of_zero_le k0
        have HK := Lib.hid (show k + 1 < cs.length by have := HCL.out; omega)
        have hkl : (k : Int) < L := by omega
        have hkl1 : (k : Int) + 1 < L := by omega
        have hk20 : (k : Int) ≤ 20 := by omega
        have hk1' : (0 : Int) ≤ (k : Int) + 1 := by omega
        have ht1 : ((k : Int) + 1).toNat = k + 1 := by omega
        have hwk : IntKind.i64.wrap ((k : Int) + 1) = (k : Int) + 1 := IntWalk.i64_in _ (by omega)
        have hO4 := own_reader HO.out HLT.out hg4
        have HO4 := Lib.hid (show W4.drew.ownsRow W.heap.size 36 5 (.slice (some ⟨g, 0, none⟩) L cap) L (flatC cs) from row_drew hO4)
        have HG4 := Lib.hid (show W.grownBy W4.drew (some B) from grownBy_trans (grownBy_trans HG.out hg4) ⟨rfl, rfl, rfl, Nat.le_refl _, fun _ _ _ => rfl⟩)
        have HR4 := Lib.hid hR4.drew
        have HP3 := Lib.hid (HPK.out (q + 1) 3 (by omega) (by omega) W4.drew (by have := HQ.out; omega) HR4.out)
        obtain ⟨ci, hci⟩ : ∃ c, atK cs k = c := ⟨_, rfl⟩
        obtain ⟨cj, hcj⟩ : ∃ c, atK cs (k + 1) = c := ⟨_, rfl⟩
        have HCI := Lib.hid (And.intro hci hcj)
        obtain ⟨c0, c1, c2, c3, c4⟩ := hp_cells HO4.out (i := k) (by have := HK.out; omega) HCL.out.symm
        obtain ⟨d0, d1, d2, d3, d4⟩ := hp_cells HO4.out (i := k + 1) (by have := HK.out; omega) HCL.out.symm
        rw [hci] at c0 c1 c2 c3 c4
        rw [hcj] at d0 d1 d2 d3 d4
        have HS0 := Lib.hid (show W4.drew.cell? ⟨g, k * 5, none⟩ = some (.string ci.p) ∧ W4.drew.cell? ⟨g, k * 5 + 1, none⟩ = some (.int .i64 ci.fk) ∧ W4.drew.cell? ⟨g, k * 5 + 2, none⟩ = some (.int .i64 ci.fv) ∧ W4.drew.cell? ⟨g, k * 5 + 3, none⟩ = some (.int .i64 ci.tk) ∧ W4.drew.cell? ⟨g, k * 5 + 4, none⟩ = some (.int .i64 ci.tv) ∧ W4.drew.cell? ⟨g, (k + 1) * 5, none⟩ = some (.string cj.p) ∧ W4.drew.cell? ⟨g, (k + 1) * 5 + 1, none⟩ = some (.int .i64 cj.fk) ∧ W4.drew.cell? ⟨g, (k + 1) * 5 + 2, none⟩ = some (.int .i64 cj.fv) ∧ W4.drew.cell? ⟨g, (k + 1) * 5 + 3, none⟩ = some (.int .i64 cj.tk) ∧ W4.drew.cell? ⟨g, (k + 1) * 5 + 4, none⟩ = some (.int .i64 cj.tv) from ⟨c0, c1, c2, c3, c4, d0, d1, d2, d3, d4⟩)
        obtain ⟨mm, hmm⟩ : ∃ mm, mustC ci cj = mm := ⟨_, rfl⟩
        have HM := Lib.hid (fun w => show Calls Tryz.prog 50 #[cmdV ci, cmdV cj] w (BoolPost mm w) by rw [← hmm]; exact HMU.out ci cj w)
        unfold cmdV at HM
        clear k0 k1 hR4 hg4 hO4 hci hcj hmm c0 c1 c2 c3 c4 d0 d1 d2 d3 d4
        go_upto_region 8 with (fail)
        refine wp_region_held_drew (S := (fun w' => w'.cell? ⟨g, k * 5, none⟩ = some (.string ci.p) ∧ w'.cell? ⟨g, k * 5 + 1, none⟩ = some (.int .i64 ci.fk) ∧ w'.cell? ⟨g, k * 5 + 2, none⟩ = some (.int .i64 ci.fv) ∧ w'.cell? ⟨g, k * 5 + 3, none⟩ = some (.int .i64 ci.tk) ∧ w'.cell? ⟨g, k * 5 + 4, none⟩ = some (.int .i64 ci.tv) ∧ w'.cell? ⟨g, (k + 1) * 5, none⟩ = some (.string cj.p) ∧ w'.cell? ⟨g, (k + 1) * 5 + 1, none⟩ = some (.int .i64 cj.fk) ∧ w'.cell? ⟨g, (k + 1) * 5 + 2, none⟩ = some (.int .i64 cj.fv) ∧ w'.cell? ⟨g, (k + 1) * 5 + 3, none⟩ = some (.int .i64 cj.tk) ∧ w'.cell? ⟨g, (k + 1) * 5 + 4, none⟩ = some (.int .i64 cj.tv))) (by kernel_rfl) HS0.out (fun hH => ?_)
        refine wpAnyH_take (i := 0) (oi := _) (v := ?_) rfl (by kernel_rfl) (by kernel_rfl) (by kernel_rfl) (fun _ _ _ h => h) (Or.inl ⟨by rfl, ?_⟩) (by assumption) ?_
        rotate_left
        · (intro w hSw; (try dsimp only at hSw); go_simp; try with_reducible rfl)
        try simp only [Act.put, List.getElem_toArray, List.getElem_cons_zero, List.setIfInBounds_toArray, List.set_cons_zero, List.set_cons_succ]
        refine wpAnyH_ready (rs := [1]) (by kernel_rfl) (by simp) ?_
        refine AllReadyH.cons rfl (fun K hK => ?_) (AllReadyH.nil)
        go_simp
        go_at_call 27; (with_reducible refine (HP3.out).mono ?_); rintro e W5 ⟨t, rfl, t0, t1, hR5, hg5⟩
        have hO5 := own_reader HO4.out HLT.out hg5
        have HG5 := Lib.hid (grownBy_trans HG4.out hg5)
        have HR5 := Lib.hid hR5
        obtain ⟨c0, c1, c2, c3, c4⟩ := hp_cells hO5 (i := k) (by have := HK.out; omega) HCL.out.symm
        obtain ⟨d0, d1, d2, d3, d4⟩ := hp_cells hO5 (i := k + 1) (by have := HK.out; omega) HCL.out.symm
        rw [HCI.out.1] at c0 c1 c2 c3 c4
        rw [HCI.out.2] at d0 d1 d2 d3 d4
        have HS5 := Lib.hid (show W5.cell? ⟨g, k * 5, none⟩ = some (.string ci.p) ∧ W5.cell? ⟨g, k * 5 + 1, none⟩ = some (.int .i64 ci.fk) ∧ W5.cell? ⟨g, k * 5 + 2, none⟩ = some (.int .i64 ci.fv) ∧ W5.cell? ⟨g, k * 5 + 3, none⟩ = some (.int .i64 ci.tk) ∧ W5.cell? ⟨g, k * 5 + 4, none⟩ = some (.int .i64 ci.tv) ∧ W5.cell? ⟨g, (k + 1) * 5, none⟩ = some (.string cj.p) ∧ W5.cell? ⟨g, (k + 1) * 5 + 1, none⟩ = some (.int .i64 cj.fk) ∧ W5.cell? ⟨g, (k + 1) * 5 + 2, none⟩ = some (.int .i64 cj.fv) ∧ W5.cell? ⟨g, (k + 1) * 5 + 3, none⟩ = some (.int .i64 cj.tk) ∧ W5.cell? ⟨g, (k + 1) * 5 + 4, none⟩ = some (.int .i64 cj.tv) from ⟨c0, c1, c2, c3, c4, d0, d1, d2, d3, d4⟩)
        clear hR5 hg5
        refine hK.out _ _ HS5.out (fun hHeld => ?_)
        try simp only [Act.put, List.getElem_toArray, List.getElem_cons_zero, List.getElem_cons_succ, List.setIfInBounds_toArray, List.set_cons_zero, List.set_cons_succ]
        by_cases ht : t = 0
        · subst ht
          clear t0 t1
          refine wpAnyH_take (i := 2) (oi := _) (v := ?_) rfl (by kernel_rfl) (by kernel_rfl) (by kernel_rfl) (fun _ _ _ h => h) (Or.inl ⟨by rfl, ?_⟩) (by assumption) ?_
          rotate_left
          · (intro w hSw; (try dsimp only at hSw); go_simp; try with_reducible rfl)
          try simp only [Act.put, List.getElem_toArray, List.getElem_cons_zero, List.getElem_cons_succ, List.setIfInBounds_toArray, List.set_cons_zero, List.set_cons_succ]
          refine wpAnyH_take (i := 3) (oi := _) (v := ?_) rfl (by kernel_rfl) (by kernel_rfl) (by kernel_rfl) (fun _ _ _ h => h) (Or.inl ⟨by rfl, ?_⟩) (by assumption) ?_
          rotate_left
          · (intro w hSw; (try dsimp only at hSw); go_simp; try with_reducible rfl)
          try simp only [Act.put, List.getElem_toArray, List.getElem_cons_zero, List.getElem_cons_succ, List.setIfInBounds_toArray, List.set_cons_zero, List.set_cons_succ]
          first | refine wpAnyH_take (i := 4) (oi := _) (v := undef) rfl (by kernel_rfl) (by kernel_rfl) (by kernel_rfl) (fun _ _ _ h => h) (Or.inr ⟨by rfl, rfl⟩) (by assumption) ?_ | (refine wpAnyH_ready (rs := [4]) (by kernel_rfl) (by simp) ?_; refine AllReadyH.cons rfl (fun K hK => ?_) (AllReadyH.nil); rw [if_neg (by decide)]; refine hK.out _ _ (by assumption) (fun hHeld => ?_))
          try simp only [Act.put, List.getElem_toArray, List.getElem_cons_zero, List.getElem_cons_succ, List.setIfInBounds_toArray, List.set_cons_zero, List.set_cons_succ]
          first | refine wpAnyH_take (i := 5) (oi := _) (v := undef) rfl (by kernel_rfl) (by kernel_rfl) (by kernel_rfl) (fun _ _ _ h => h) (Or.inr ⟨by rfl, rfl⟩) (by assumption) ?_ | (refine wpAnyH_ready (rs := [5]) (by kernel_rfl) (by simp) ?_; refine AllReadyH.cons rfl (fun K hK => ?_) (AllReadyH.nil); rw [if_neg (by decide)]; refine hK.out _ _ (by assumption) (fun hHeld => ?_))
          try simp only [Act.put, List.getElem_toArray, List.getElem_cons_zero, List.getElem_cons_succ, List.setIfInBounds_toArray, List.set_cons_zero, List.set_cons_succ]
          first | refine wpAnyH_take (i := 6) (oi := _) (v := undef) rfl (by kernel_rfl) (by kernel_rfl) (by kernel_rfl) (fun _ _ _ h => h) (Or.inr ⟨by rfl, rfl⟩) (by assumption) ?_ | (refine wpAnyH_ready (rs := [6]) (by kernel_rfl) (by simp) ?_; refine AllReadyH.cons rfl (fun K hK => ?_) (AllReadyH.nil); rw [if_neg (by decide)]; refine hK.out _ _ (by assumption) (fun hHeld => ?_))
          try simp only [Act.put, List.getElem_toArray, List.getElem_cons_zero, List.getElem_cons_succ, List.setIfInBounds_toArray, List.set_cons_zero, List.set_cons_succ]
          first | refine wpAnyH_take (i := 7) (oi := _) (v := undef) rfl (by kernel_rfl) (by kernel_rfl) (by kernel_rfl) (fun _ _ _ h => h) (Or.inr ⟨by rfl, rfl⟩) (by assumption) ?_ | (refine wpAnyH_ready (rs := [7]) (by kernel_rfl) (by simp) ?_; refine AllReadyH.cons rfl (fun K hK => ?_) (AllReadyH.nil); rw [if_neg (by decide)]; refine hK.out _ _ (by assumption) (fun hHeld => ?_))
          try simp only [Act.put, List.getElem_toArray, List.getElem_cons_zero, List.getElem_cons_succ, List.setIfInBounds_toArray, List.set_cons_zero, List.set_cons_succ]
          first | refine wpAnyH_take (i := 8) (oi := _) (v := undef) rfl (by kernel_rfl) (by kernel_rfl) (by kernel_rfl) (fun _ _ _ h => h) (Or.inr ⟨by rfl, rfl⟩) (by assumption) ?_ | (refine wpAnyH_ready (rs := [8]) (by kernel_rfl) (by simp) ?_; refine AllReadyH.cons rfl (fun K hK => ?_) (AllReadyH.nil); rw [if_neg (by decide)]; refine hK.out _ _ (by assumption) (fun hHeld => ?_))
          try simp only [Act.put, List.getElem_toArray, List.getElem_cons_zero, List.getElem_cons_succ, List.setIfInBounds_toArray, List.set_cons_zero, List.set_cons_succ]
          first | refine wpAnyH_take (i := 9) (oi := _) (v := undef) rfl (by kernel_rfl) (by kernel_rfl) (by kernel_rfl) (fun _ _ _ h => h) (Or.inr ⟨by rfl, rfl⟩) (by assumption) ?_ | (refine wpAnyH_ready (rs := [9]) (by kernel_rfl) (by simp) ?_; refine AllReadyH.cons rfl (fun K hK => ?_) (AllReadyH.nil); rw [if_neg (by decide)]; refine hK.out _ _ (by assumption) (fun hHeld => ?_))
          try simp only [Act.put, List.getElem_toArray, List.getElem_cons_zero, List.getElem_cons_succ, List.setIfInBounds_toArray, List.set_cons_zero, List.set_cons_succ]
          first | refine wpAnyH_take (i := 10) (oi := _) (v := undef) rfl (by kernel_rfl) (by kernel_rfl) (by kernel_rfl) (fun _ _ _ h => h) (Or.inr ⟨by rfl, rfl⟩) (by assumption) ?_ | (refine wpAnyH_ready (rs := [10]) (by kernel_rfl) (by simp) ?_; refine AllReadyH.cons rfl (fun K hK => ?_) (AllReadyH.nil); rw [if_neg (by decide)]; refine hK.out _ _ (by assumption) (fun hHeld => ?_))
          try simp only [Act.put, List.getElem_toArray, List.getElem_cons_zero, List.getElem_cons_succ, List.setIfInBounds_toArray, List.set_cons_zero, List.set_cons_succ]
          first | refine wpAnyH_take (i := 11) (oi := _) (v := undef) rfl (by kernel_rfl) (by kernel_rfl) (by kernel_rfl) (fun _ _ _ h => h) (Or.inr ⟨by rfl, rfl⟩) (by assumption) ?_ | (refine wpAnyH_ready (rs := [11]) (by kernel_rfl) (by simp) ?_; refine AllReadyH.cons rfl (fun K hK => ?_) (AllReadyH.nil); rw [if_neg (by decide)]; refine hK.out _ _ (by assumption) (fun hHeld => ?_))
          try simp only [Act.put, List.getElem_toArray, List.getElem_cons_zero, List.getElem_cons_succ, List.setIfInBounds_toArray, List.set_cons_zero, List.set_cons_succ]
          first | refine wpAnyH_take (i := 12) (oi := _) (v := undef) rfl (by kernel_rfl) (by kernel_rfl) (by kernel_rfl) (fun _ _ _ h => h) (Or.inr ⟨by rfl, rfl⟩) (by assumption) ?_ | (refine wpAnyH_ready (rs := [12]) (by kernel_rfl) (by simp) ?_; refine AllReadyH.cons rfl (fun K hK => ?_) (AllReadyH.nil); rw [if_neg (by decide)]; refine hK.out _ _ (by assumption) (fun hHeld => ?_))
          try simp only [Act.put, List.getElem_toArray, List.getElem_cons_zero, List.getElem_cons_succ, List.setIfInBounds_toArray, List.set_cons_zero, List.set_cons_succ]
          first | refine wpAnyH_take (i := 13) (oi := _) (v := undef) rfl (by kernel_rfl) (by kernel_rfl) (by kernel_rfl) (fun _ _ _ h => h) (Or.inr ⟨by rfl, rfl⟩) (by assumption) ?_ | (refine wpAnyH_ready (rs := [13]) (by kernel_rfl) (by simp) ?_; refine AllReadyH.cons rfl (fun K hK => ?_) (AllReadyH.nil); rw [if_neg (by decide)]; refine hK.out _ _ (by assumption) (fun hHeld => ?_))
          try simp only [Act.put, List.getElem_toArray, List.getElem_cons_zero, List.getElem_cons_succ, List.setIfInBounds_toArray, List.set_cons_zero, List.set_cons_succ]
          refine wpAnyH_take (i := 14) (oi := _) (v := ?_) rfl (by kernel_rfl) (by kernel_rfl) (by kernel_rfl) (fun _ _ _ h => h) (Or.inl ⟨by rfl, ?_⟩) (by assumption) ?_
          rotate_left
          · (intro w hSw; (try dsimp only at hSw); go_simp; try with_reducible rfl)
          try simp only [Act.put, List.getElem_toArray, List.getElem_cons_zero, List.getElem_cons_succ, List.setIfInBounds_toArray, List.set_cons_zero, List.set_cons_succ]
          refine wpAnyH_done (by kernel_rfl) ?_ _
          obtain ⟨WB, hWB⟩ : ∃ X, X = W5.alloc (.cells #[.string ci.p, .int .i64 ci.fk, .int .i64 ci.fv, .int .i64 ci.tk, .int .i64 ci.tv] 36) := ⟨_, rfl⟩
          go_upto_region 10 with (fail)
          rw [← hWB]
          have F0 : Five WB W5.heap.size (.string ci.p) (.int .i64 ci.fk) (.int .i64 ci.fv) (.int .i64 ci.tk) (.int .i64 ci.tv) := by rw [hWB]; exact five_new _ _ _ _ _ _ _
          have OB : WB.ownsRow W.heap.size 36 5 (.slice (some ⟨g, 0, none⟩) L cap) L (flatC cs) := by rw [hWB]; exact own_below hO5 (below_box _ _)
          have RB : RdAt N0 WB B (q + 1 + 1) := by rw [hWB]; exact HR5.out.alloc _
          have GB : W.grownBy WB (some B) := by rw [hWB]; exact grownBy_trans HG5.out (World.grownBy_alloc _ _ _)
          have NE : W5.heap.size ≠ g := by have : g < W5.heap.size := (hO5.lt g rfl).2; omega
          obtain ⟨c0, c1, c2, c3, c4⟩ := hp_cells OB (i := k) (by have := HK.out; omega) HCL.out.symm
          obtain ⟨d0, d1, d2, d3, d4⟩ := hp_cells OB (i := k + 1) (by have := HK.out; omega) HCL.out.symm
          rw [HCI.out.1] at c0 c1 c2 c3 c4
          rw [HCI.out.2] at d0 d1 d2 d3 d4
          have f0 := fun o => row_frozen OB o
          have hr1 := own_set5 OB (i := k) (by have := HK.out; omega) cj
          obtain ⟨x0, x1, x2, x3, x4⟩ := hp_cells hr1 (i := k + 1) (by rw [List.length_set]; exact HK.out) (by rw [List.length_set]; exact HCL.out.symm)
          obtain ⟨cx, hcx⟩ : ∃ c, atK (cs.set k cj) (k + 1) = c := ⟨_, rfl⟩
          rw [hcx] at x0 x1 x2 x3 x4
          obtain ⟨b0, b1, b2, b3, b4, -⟩ := F0.keep (grown_set5 WB g (k * 5) cj) NE
          have HSW := own_swap5 OB (i := k) (j := k + 1) (by have := HK.out; omega) HK.out
          rw [HCI.out.1, HCI.out.2] at HSW
          have HGX : WB.grownBy (set5 (set5 WB g (k * 5) cj) g ((k + 1) * 5) ci) (some g) := grown_then (grown_set5 _ _ _ _) (grown_set5 _ _ _ _) (fun j e => .inr e)
          obtain ⟨WX, hWX⟩ : ∃ X, X = set5 (set5 WB g (k * 5) cj) g ((k + 1) * 5) ci := ⟨_, rfl⟩
          rw [← hWX] at HSW HGX
          have HE := Lib.hid (mix_swap OB HSW HGX RB GB HLE.out)
          unfold set5 at x0 x1 x2 x3 x4 b0 b1 b2 b3 b4 hWX
          have hgl := World.block_lt_of_cell? WB _ c0
          have hswl := Lib.hid (shortC_swap HX.out.2.1 (i := k) (j := k + 1) (by have := HK.out; omega) HK.out)
          clear hcx hr1 OB RB GB F0 HSW HGX NE hWB
          go_wp2
          rw [← hWX]
          clear hWX c0 c1 c2 c3 c4 d0 d1 d2 d3 d4 x0 x1 x2 x3 x4 b0 b1 b2 b3 b4 f0 hgl
          go_roundw
          case rel => exact ⟨n + 1, q + 1 + 1, swapK cs k (k + 1), by go_num, HN.out, Lib.hid HE.out.1, Lib.hid ⟨by rw [swapK_length]; exact HX.out.1, hswl.out, by have := HX.out.2.2; omega⟩, Lib.hid HE.out.2.1, Lib.hid HE.out.2.2⟩
          case measure => have := HN.out; simp [intOf]; omega
        · have htp : 0 < t := by omega
          have htd : decide (0 < t) = true := decide_eq_true htp
          clear t0 t1 ht
          refine wpAnyH_take (i := 2) (oi := _) (v := ?_) rfl (by kernel_rfl) (by kernel_rfl) (by kernel_rfl) (fun _ _ _ h => h) (Or.inl ⟨by rfl, ?_⟩) (by assumption) ?_
          rotate_left
          · (intro w hSw; (try dsimp only at hSw); go_simp; try with_reducible rfl)
          try simp only [Act.put, List.getElem_toArray, List.getElem_cons_zero, List.getElem_cons_succ, List.setIfInBounds_toArray, List.set_cons_zero, List.set_cons_succ]
          refine wpAnyH_take (i := 3) (oi := _) (v := ?_) rfl (by kernel_rfl) (by kernel_rfl) (by kernel_rfl) (fun _ _ _ h => h) (Or.inl ⟨by rfl, ?_⟩) (by assumption) ?_
          rotate_left
          · (intro w hSw; (try dsimp only at hSw); go_simp; try with_reducible rfl)
          try simp only [Act.put, List.getElem_toArray, List.getElem_cons_zero, List.getElem_cons_succ, List.setIfInBounds_toArray, List.set_cons_zero, List.set_cons_succ]
          refine wpAnyH_take (i := 4) (oi := _) (v := ?_) rfl (by kernel_rfl) (by kernel_rfl) (by kernel_rfl) (fun _ _ _ h => h) (Or.inl ⟨by rfl, ?_⟩) (by assumption) ?_
          rotate_left
          · (intro w hSw; (try dsimp only at hSw); go_simp; try with_reducible rfl)
          try simp only [Act.put, List.getElem_toArray, List.getElem_cons_zero, List.getElem_cons_succ, List.setIfInBounds_toArray, List.set_cons_zero, List.set_cons_succ]
          refine wpAnyH_take (i := 5) (oi := _) (v := ?_) rfl (by kernel_rfl) (by kernel_rfl) (by kernel_rfl) (fun _ _ _ h => h) (Or.inl ⟨by rfl, ?_⟩) (by assumption) ?_
          rotate_left
          · (intro w hSw; (try dsimp only at hSw); go_simp; try with_reducible rfl)
          try simp only [Act.put, List.getElem_toArray, List.getElem_cons_zero, List.getElem_cons_succ, List.setIfInBounds_toArray, List.set_cons_zero, List.set_cons_succ]
          refine wpAnyH_take (i := 6) (oi := _) (v := ?_) rfl (by kernel_rfl) (by kernel_rfl) (by kernel_rfl) (fun _ _ _ h => h) (Or.inl ⟨by rfl, ?_⟩) (by assumption) ?_
          rotate_left
          · (intro w hSw; (try dsimp only at hSw); go_simp; try with_reducible rfl)
          try simp only [Act.put, List.getElem_toArray, List.getElem_cons_zero, List.getElem_cons_succ, List.setIfInBounds_toArray, List.set_cons_zero, List.set_cons_succ]
          refine wpAnyH_take (i := 7) (oi := _) (v := ?_) rfl (by kernel_rfl) (by kernel_rfl) (by kernel_rfl) (fun _ _ _ h => h) (Or.inl ⟨by rfl, ?_⟩) (by assumption) ?_
          rotate_left
          · (intro w hSw; (try dsimp only at hSw); go_simp; try with_reducible rfl)
          try simp only [Act.put, List.getElem_toArray, List.getElem_cons_zero, List.getElem_cons_succ, List.setIfInBounds_toArray, List.set_cons_zero, List.set_cons_succ]
          refine wpAnyH_take (i := 8) (oi := _) (v := ?_) rfl (by kernel_rfl) (by kernel_rfl) (by kernel_rfl) (fun _ _ _ h => h) (Or.inl ⟨by rfl, ?_⟩) (by assumption) ?_
          rotate_left
          · (intro w hSw; (try dsimp only at hSw); go_simp; try with_reducible rfl)
          try simp only [Act.put, List.getElem_toArray, List.getElem_cons_zero, List.getElem_cons_succ, List.setIfInBounds_toArray, List.set_cons_zero, List.set_cons_succ]
          refine wpAnyH_take (i := 9) (oi := _) (v := ?_) rfl (by kernel_rfl) (by kernel_rfl) (by kernel_rfl) (fun _ _ _ h => h) (Or.inl ⟨by rfl, ?_⟩) (by assumption) ?_
          rotate_left
          · (intro w hSw; (try dsimp only at hSw); go_simp; try with_reducible rfl)
          try simp only [Act.put, List.getElem_toArray, List.getElem_cons_zero, List.getElem_cons_succ, List.setIfInBounds_toArray, List.set_cons_zero, List.set_cons_succ]
          refine wpAnyH_take (i := 10) (oi := _) (v := ?_) rfl (by kernel_rfl) (by kernel_rfl) (by kernel_rfl) (fun _ _ _ h => h) (Or.inl ⟨by rfl, ?_⟩) (by assumption) ?_
          rotate_left
          · (intro w hSw; (try dsimp only at hSw); go_simp; try with_reducible rfl)
          try simp only [Act.put, List.getElem_toArray, List.getElem_cons_zero, List.getElem_cons_succ, List.setIfInBounds_toArray, List.set_cons_zero, List.set_cons_succ]
          refine wpAnyH_take (i := 11) (oi := _) (v := ?_) rfl (by kernel_rfl) (by kernel_rfl) (by kernel_rfl) (fun _ _ _ h => h) (Or.inl ⟨by rfl, ?_⟩) (by assumption) ?_
          rotate_left
          · (intro w hSw; (try dsimp only at hSw); go_simp; try with_reducible rfl)
          try simp only [Act.put, List.getElem_toArray, List.getElem_cons_zero, List.getElem_cons_succ, List.setIfInBounds_toArray, List.set_cons_zero, List.set_cons_succ]
          refine wpAnyH_take (i := 12) (oi := _) (v := ?_) rfl (by kernel_rfl) (by kernel_rfl) (by kernel_rfl) (fun _ _ _ h => h) (Or.inl ⟨by rfl, ?_⟩) (by assumption) ?_
          rotate_left
          · (intro w hSw; (try dsimp only at hSw); go_simp; try with_reducible rfl)
          try simp only [Act.put, List.getElem_toArray, List.getElem_cons_zero, List.getElem_cons_succ, List.setIfInBounds_toArray, List.set_cons_zero, List.set_cons_succ]
          refine wpAnyH_ready (rs := [13]) (by kernel_rfl) (by simp) ?_
          refine AllReadyH.cons rfl (fun K hK => ?_) (AllReadyH.nil)
          go_simp
          go_at_call 50; (with_reducible refine (HM.out _).mono ?_); rintro e W6 ⟨rfl, hb6⟩
          have HO6 := Lib.hid (own_below hO5 hb6)
          have HG6 := Lib.hid (grownBy_trans HG5.out (below_grown_any hb6 (some B)))
          have HR6 := Lib.hid (HR5.out.keep hb6)
          obtain ⟨s0, s1, s2, s3, s4, r0, r1, r2, r3, r4⟩ := HS5.out
          replace HS5 := Lib.hid (And.intro (cell_kept hb6 s0) (And.intro (cell_kept hb6 s1) (And.intro (cell_kept hb6 s2) (And.intro (cell_kept hb6 s3) (And.intro (cell_kept hb6 s4) (And.intro (cell_kept hb6 r0) (And.intro (cell_kept hb6 r1) (And.intro (cell_kept hb6 r2) (And.intro (cell_kept hb6 r3) (cell_kept hb6 r4))))))))))
          clear hb6 s0 s1 s2 s3 s4 r0 r1 r2 r3 r4
          refine hK.out _ _ HS5.out (fun hHeld => ?_)
          try simp only [Act.put, List.getElem_toArray, List.getElem_cons_zero, List.getElem_cons_succ, List.setIfInBounds_toArray, List.set_cons_zero, List.set_cons_succ]
          refine wpAnyH_take (i := 14) (oi := _) (v := ?_) rfl (by kernel_rfl) (by kernel_rfl) (by kernel_rfl) (fun _ _ _ h => h) (Or.inl ⟨by rfl, ?_⟩) (by assumption) ?_
          rotate_left
          · (intro w hSw; (try dsimp only at hSw); go_simp; try with_reducible rfl)
          try simp only [Act.put, List.getElem_toArray, List.getElem_cons_zero, List.getElem_cons_succ, List.setIfInBounds_toArray, List.set_cons_zero, List.set_cons_succ]
          refine wpAnyH_done (by kernel_rfl) ?_ _
          cases mm with
          | true =>
            go_wp2
            go_roundw
            case rel => exact ⟨n + 1, q + 2, cs, by go_num, HN.out, HO6, Lib.hid ⟨HX.out.1, HX.out.2.1, by have := HX.out.2.2; omega⟩, HR6, HG6⟩
            case measure => have := HN.out; simp [intOf]; omega
          | false =>
            obtain ⟨WB, hWB⟩ : ∃ X, X = W6.alloc (.cells #[.string ci.p, .int .i64 ci.fk, .int .i64 ci.fv, .int .i64 ci.tk, .int .i64 ci.tv] 36) := ⟨_, rfl⟩
            go_upto_region 10 with (fail)
            rw [← hWB]
            have F0 : Five WB W6.heap.size (.string ci.p) (.int .i64 ci.fk) (.int .i64 ci.fv) (.int .i64 ci.tk) (.int .i64 ci.tv) := by rw [hWB]; exact five_new _ _ _ _ _ _ _
            have OB : WB.ownsRow W.heap.size 36 5 (.slice (some ⟨g, 0, none⟩) L cap) L (flatC cs) := by rw [hWB]; exact own_below HO6.out (below_box _ _)
            have RB : RdAt N0 WB B (q + 1 + 1) := by rw [hWB]; exact HR6.out.alloc _
            have GB : W.grownBy WB (some B) := by rw [hWB]; exact grownBy_trans HG6.out (World.grownBy_alloc _ _ _)
            have NE : W6.heap.size ≠ g := by have : g < W6.heap.size := (HO6.out.lt g rfl).2; omega
            obtain ⟨c0, c1, c2, c3, c4⟩ := hp_cells OB (i := k) (by have := HK.out; omega) HCL.out.symm
            obtain ⟨d0, d1, d2, d3, d4⟩ := hp_cells OB (i := k + 1) (by have := HK.out; omega) HCL.out.symm
            rw [HCI.out.1] at c0 c1 c2 c3 c4
            rw [HCI.out.2] at d0 d1 d2 d3 d4
            have f0 := fun o => row_frozen OB o
            have hr1 := own_set5 OB (i := k) (by have := HK.out; omega) cj
            obtain ⟨x0, x1, x2, x3, x4⟩ := hp_cells hr1 (i := k + 1) (by rw [List.length_set]; exact HK.out) (by rw [List.length_set]; exact HCL.out.symm)
            obtain ⟨cx, hcx⟩ : ∃ c, atK (cs.set k cj) (k + 1) = c := ⟨_, rfl⟩
            rw [hcx] at x0 x1 x2 x3 x4
            obtain ⟨b0, b1, b2, b3, b4, -⟩ := F0.keep (grown_set5 WB g (k * 5) cj) NE
            have HSW := own_swap5 OB (i := k) (j := k + 1) (by have := HK.out; omega) HK.out
            rw [HCI.out.1, HCI.out.2] at HSW
            have HGX : WB.grownBy (set5 (set5 WB g (k * 5) cj) g ((k + 1) * 5) ci) (some g) := grown_then (grown_set5 _ _ _ _) (grown_set5 _ _ _ _) (fun j e => .inr e)
            obtain ⟨WX, hWX⟩ : ∃ X, X = set5 (set5 WB g (k * 5) cj) g ((k + 1) * 5) ci := ⟨_, rfl⟩
            rw [← hWX] at HSW HGX
            have HE := Lib.hid (mix_swap OB HSW HGX RB GB HLE.out)
            unfold set5 at x0 x1 x2 x3 x4 b0 b1 b2 b3 b4 hWX
            have hgl := World.block_lt_of_cell? WB _ c0
            have hswl := Lib.hid (shortC_swap HX.out.2.1 (i := k) (j := k + 1) (by have := HK.out; omega) HK.out)
            clear hcx hr1 OB RB GB F0 HSW HGX NE hWB
            go_wp2
            rw [← hWX]
            clear hWX c0 c1 c2 c3 c4 d0 d1 d2 d3 d4 x0 x1 x2 x3 x4 b0 b1 b2 b3 b4 f0 hgl
            go_roundw
            case rel => exact ⟨n + 1, q + 1 + 1, swapK cs k (k + 1), by go_num, HN.out, Lib.hid HE.out.1, Lib.hid ⟨by rw [swapK_length]; exact HX.out.1, hswl.out, by have := HX.out.2.2; omega⟩, Lib.hid HE.out.2.1, Lib.hid HE.out.2.2⟩
            case measure => have := HN.out; simp [intOf]; omega
      · have hl1' : ¬ ((1 : Int) < L) := by omega
        clear hn hl1
        go_wp2
        go_ret2
        exact ⟨_, _, cs, q, rfl, by rw [HX.out.1]; exact HO.out, by have := HX.out.1; have := HL.out.2; omega, HX.out.2.1, by have := HX.out.2.2; have := HQ2.out; have := HN5.out; omega, HR.out, HG.out⟩
    · have hge : N ≤ (n : Int) := by omega
      clear hn hlt
      go_wp2
      go_ret2
      exact ⟨_, _, cs, q, rfl, by rw [HX.out.1]; exact HO.out, by have := HX.out.1; have := HL.out.2; omega, HX.out.2.1, by have := HX.out.2.2; have := HQ2.out; have := HN5.out; omega, HR.out, HG.out⟩

end Go.Proofs.YtpjoahddbdmbpaaGreatDoor
