/-
  Texts of this proof, one behind the other: Nf, Ho, Mr, Ms, Tf, Me, Ap, Mq, Hc, Hd, He, Hf, Hg, Hh.
-/
import Derived.Deep.RegionHeld3
import Derived.Deep.Cut
import Derived.OwnWalk
import Derived.Laws.OwnMore
import Derived.Laws.Cover1
import Derived.StillTailTactics
import Derived.Deep.RegionLaw
import Derived.WalkSmall
import Derived.Deep.QuietTactic
import Derived.RangeFuncBox
import Derived.Maps.Own
import Derived.Maps.OwnSet
import Derived.Maps.RangeWalk
import Derived.Sort.OwnSorted
import Derived.Sort.KeysCollected
import Derived.Test.YtmlnakkfjecibaaGreatDoorNe
import Derived.Test.YtmlnakkfjecibaaGreatDoorQ4
import Derived.Test.YtmlnakkfjecibaaGreatDoorLc
import Derived.Test.YtmlnakkfjecibaaGreatDoorHa
import Derived.Test.YtmlnakkfjecibaaGreatDoorMi
import Derived.Test.YtmlnakkfjecibaaGreatDoorSa
import Derived.Test.YtmlnakkfjecibaaGreatDoorQ2
import Derived.Test.YtmlnakkfjecibaaGreatDoorRk
import Derived.Test.YtmlnakkfjecibaaGreatDoorQ3
import Derived.Test.YtmlnakkfjecibaaGreatDoorHb
import Derived.Test.YtmlnakkfjecibaaGreatDoorQe
import Derived.Test.YtmlnakkfjecibaaGreatDoorQ7
/-
  WALKS: canonical logs of the model: spec.l14Ends, l14Before, l14Put, l14Sort, l14First.
-/
namespace Go.Proofs.YtmlnakkfjecibaaGreatDoor
open Go.RowKit
/-- Two commands in two boxes of the call's own. -/
def TwoC (W : World) (n : Nat) (c d : Cmd) : Prop :=
  W.cell? ⟨n, 0, none⟩ = some (.string c.p) ∧ W.cell? ⟨n, 1, none⟩ = some (.int .i64 c.fk) ∧ W.cell? ⟨n, 2, none⟩ = some (.int .i64 c.fv) ∧ W.cell? ⟨n, 3, none⟩ = some (.int .i64 c.tk) ∧ W.cell? ⟨n, 4, none⟩ = some (.int .i64 c.tv) ∧
  W.cell? ⟨n + 1, 0, none⟩ = some (.string d.p) ∧ W.cell? ⟨n + 1, 1, none⟩ = some (.int .i64 d.fk) ∧ W.cell? ⟨n + 1, 2, none⟩ = some (.int .i64 d.fv) ∧ W.cell? ⟨n + 1, 3, none⟩ = some (.int .i64 d.tk) ∧ W.cell? ⟨n + 1, 4, none⟩ = some (.int .i64 d.tv)

theorem TwoC.keep {W W' : World} {n : Nat} {c d : Cmd} (h : TwoC W n c d) (hb : Below W.heap.size W W') : TwoC W' n c d := by
  obtain ⟨a0, a1, a2, a3, a4, b0, b1, b2, b3, b4⟩ := h
  exact ⟨cell_kept hb a0, cell_kept hb a1, cell_kept hb a2, cell_kept hb a3, cell_kept hb a4, cell_kept hb b0, cell_kept hb b1, cell_kept hb b2, cell_kept hb b3, cell_kept hb b4⟩

theorem twoC_new (W : World) (c d : Cmd) : TwoC ((W.alloc (.cells #[.string c.p, .int .i64 c.fk, .int .i64 c.fv, .int .i64 c.tk, .int .i64 c.tv] 45)).alloc (.cells #[.string d.p, .int .i64 d.fk, .int .i64 d.fv, .int .i64 d.tk, .int .i64 d.tv] 45)) W.heap.size c d := by
  have h1 := (five_new W (.string c.p) (.int .i64 c.fk) (.int .i64 c.fv) (.int .i64 c.tk) (.int .i64 c.tv) 45).alloc (.cells #[.string d.p, .int .i64 d.fk, .int .i64 d.fv, .int .i64 d.tk, .int .i64 d.tv] 45)
  have h2 := five_new (W.alloc (.cells #[.string c.p, .int .i64 c.fk, .int .i64 c.fv, .int .i64 c.tk, .int .i64 c.tv] 45)) (.string d.p) (.int .i64 d.fk) (.int .i64 d.fv) (.int .i64 d.tk) (.int .i64 d.tv) 45
  rw [World.size_alloc] at h2
  obtain ⟨a0, a1, a2, a3, a4, -⟩ := h1
  obtain ⟨b0, b1, b2, b3, b4, -⟩ := h2
  exact ⟨a0, a1, a2, a3, a4, b0, b1, b2, b3, b4⟩

theorem bef_cases (c d : Cmd) : befC c d = if endsC c = true then (if endsC d = true then ltB d.p c.p else true) else (if endsC d = true then false else ltB c.p d.p) := by
  unfold befC
  cases endsC c <;> cases endsC d <;> rfl

theorem gtr_eq (a b : ByteArray) : (!Op.bytesLess a.toList b.toList && !(a.toList == b.toList)) = ltB b a := by
  show (!ltB a b && !(a.toList == b.toList)) = ltB b a
  cases h : ltB a b with
  | true => rw [ltB_asymm h]; rfl
  | false =>
    cases k : ltB b a with
    | true => rw [toList_ne (ltB_ne k).symm]; rfl
    | false =>
      obtain rfl := ltB_tri h k
      simp

theorem first_next {cs : List Cmd} {p : ByteArray} {i : Nat} (P : ∀ (j : Nat) (d : Cmd), j < i → cs[j]? = some d → d.p ≠ p) {d : Cmd} (hd : cs[i]? = some d) (h : d.p ≠ p) : ∀ (j : Nat) (e : Cmd), j < i + 1 → cs[j]? = some e → e.p ≠ p := by
  intro j e hj he
  by_cases hji : j < i
  · exact P j e hji he
  · have : j = i := by omega
    subst this
    rw [hd] at he
    obtain rfl := Option.some.inj he
    exact h

end Go.Proofs.YtmlnakkfjecibaaGreatDoor

/-
  LISTS OF COMMANDS of the call's own: a whole command written; two exchanged; the last one left out.
-/
namespace Go.Proofs.YtmlnakkfjecibaaGreatDoor
open Go.RowKit
set_option linter.unusedVariables false

theorem flatC_set5 : ∀ (cs : List Cmd) (i : Nat) (c : Cmd), i < cs.length → (((((flatC cs).set (i * 5) (.string c.p)).set (i * 5 + 1) (.int .i64 c.fk)).set (i * 5 + 2) (.int .i64 c.fv)).set (i * 5 + 3) (.int .i64 c.tk)).set (i * 5 + 4) (.int .i64 c.tv) = flatC (cs.set i c)
  | [], i, c, h => by simp at h
  | m :: r, 0, c, h => rfl
  | m :: r, i + 1, c, h => by
    have ih := flatC_set5 r i c (by simpa using h)
    have e : ∀ (x : Cmd) (t : List Cmd), flatC (x :: t) = .string x.p :: .int .i64 x.fk :: .int .i64 x.fv :: .int .i64 x.tk :: .int .i64 x.tv :: flatC t := fun _ _ => rfl
    rw [List.set_cons_succ, e m r, e m (r.set i c), ← ih, show (i + 1) * 5 = i * 5 + 5 by omega, show i * 5 + 5 + 1 = (i * 5 + 1) + 5 by omega, show i * 5 + 5 + 2 = (i * 5 + 2) + 5 by omega, show i * 5 + 5 + 3 = (i * 5 + 3) + 5 by omega, show i * 5 + 5 + 4 = (i * 5 + 4) + 5 by omega]
    rfl

/-- Five cells written, from a place on. -/
def set5 (W : World) (g o : Nat) (c : Cmd) : World :=
  ((((W.setCell ⟨g, o, none⟩ (.string c.p)).setCell ⟨g, o + 1, none⟩ (.int .i64 c.fk)).setCell ⟨g, o + 2, none⟩ (.int .i64 c.fv)).setCell ⟨g, o + 3, none⟩ (.int .i64 c.tk)).setCell ⟨g, o + 4, none⟩ (.int .i64 c.tv)

theorem own_set5 {W : World} {base : Nat} {e : TypeId} {g n cap : Nat} {cs : List Cmd} {i : Nat} (h : W.ownsRow base e 5 (.slice (some ⟨g, 0, none⟩) n cap) n (flatC cs)) (hi : i < cs.length) (c : Cmd) :
    (set5 W g (i * 5) c).ownsRow base e 5 (.slice (some ⟨g, 0, none⟩) n cap) n (flatC (cs.set i c)) := by
  have := (((((h.stored (i * 5) (.string c.p)).1.stored (i * 5 + 1) (.int .i64 c.fk)).1.stored (i * 5 + 2) (.int .i64 c.fv)).1.stored (i * 5 + 3) (.int .i64 c.tk)).1.stored (i * 5 + 4) (.int .i64 c.tv)).1
  rw [flatC_set5 cs i c hi] at this
  exact this

theorem grown_set5 (W : World) (g o : Nat) (c : Cmd) : W.grownBy (set5 W g o c) (some g) := by
  unfold set5
  have a : ∀ (X Y : World) (p : Nat) (v : Value), X.grownBy Y (some g) → X.grownBy (Y.setCell ⟨g, p, none⟩ v) (some g) := fun X Y p v h =>
    ⟨h.os, h.tape, h.output, by simpa [World.setCell] using h.size, fun k hk hne => (Below.heap_setCell _ _ _ _ (fun e => hne (by rw [e]))).trans (h.block k hk hne)⟩
  exact a _ _ _ _ (a _ _ _ _ (a _ _ _ _ (a _ _ _ _ (a _ _ _ _ ⟨rfl, rfl, rfl, Nat.le_refl _, fun _ _ _ => rfl⟩))))

/-- Two exchanged. -/
theorem own_swap5 {W : World} {base : Nat} {e : TypeId} {g n cap : Nat} {cs : List Cmd} {i j : Nat} (h : W.ownsRow base e 5 (.slice (some ⟨g, 0, none⟩) n cap) n (flatC cs)) (hi : i < cs.length) (hj : j < cs.length) :
    (set5 (set5 W g (i * 5) (atK cs j)) g (j * 5) (atK cs i)).ownsRow base e 5 (.slice (some ⟨g, 0, none⟩) n cap) n (flatC (swapK cs i j)) :=
  own_set5 (own_set5 h hi (atK cs j)) (by simpa using hj) (atK cs i)

theorem swapK_comm {cs : List Cmd} {i j : Nat} (hi : i < cs.length) (hj : j < cs.length) : swapK cs j i = swapK cs i j := by
  refine List.ext_getElem? (fun k => ?_)
  by_cases hk : k < cs.length
  · rw [atK_get (by rw [swapK_length]; exact hk), atK_get (by rw [swapK_length]; exact hk), atK_swap hj hi, atK_swap hi hj]
    congr 1
    by_cases h1 : k = i <;> by_cases h2 : k = j
    · subst h1; subst h2; rfl
    · rw [if_pos h1, if_neg h2, if_pos h1]
    · rw [if_neg h1, if_pos h2, if_pos h2]
    · rw [if_neg h1, if_neg h2, if_neg h2, if_neg h1]
  · rw [List.getElem?_eq_none (by rw [swapK_length]; omega), List.getElem?_eq_none (by rw [swapK_length]; omega)]

theorem flatC_take5 (cs : List Cmd) (k : Nat) : (flatC cs).take (k * 5) = flatC (cs.take k) := by
  induction cs generalizing k with
  | nil => simp [flatC]
  | cons c r ih =>
    cases k with
    | zero => rfl
    | succ k =>
      have e : ∀ (x : Cmd) (t : List Cmd), flatC (x :: t) = .string x.p :: .int .i64 x.fk :: .int .i64 x.fv :: .int .i64 x.tk :: .int .i64 x.tv :: flatC t := fun _ _ => rfl
      rw [List.take_succ_cons, e, e, show (k + 1) * 5 = k * 5 + 5 by omega, ← ih k]
      rfl

/-- The first commands of a list of the call's own. -/
theorem own_take5 {W : World} {base : Nat} {e : TypeId} {g n cap : Nat} {cs : List Cmd} (h : W.ownsRow base e 5 (.slice (some ⟨g, 0, none⟩) n cap) n (flatC cs)) (hn : n = cs.length) (k : Nat) (hk : k ≤ n) : W.ownsRow base e 5 (.slice (some ⟨g, 0, none⟩) k cap) (cs.take k).length (flatC (cs.take k)) := by
  have hl : (cs.take k).length = k := by rw [List.length_take]; omega
  rw [hl]
  obtain ⟨h1, h2⟩ := h
  refine ⟨by rw [flatC_length, hl], .inr ?_⟩
  rcases h2 with ⟨h3, _⟩ | ⟨g', cap', cur, h3, h4, h5, h6, h7, h8, h9⟩
  · cases h3
  · cases h3
    refine ⟨g, cap, cur, rfl, h4, h5, by omega, h7, h8, ?_⟩
    rw [← flatC_take5, ← h9, List.take_take]
    congr 1
    omega

end Go.Proofs.YtmlnakkfjecibaaGreatDoor

/-
  WALKS: moves of the model: spec.l13Remove, RemoveAll, l13Copy, CopyAll, MoveAll.
-/
namespace Go.Proofs.YtmlnakkfjecibaaGreatDoor
open Go.RowKit
set_option linter.unusedVariables false

def remAcc (ns : List Nd) (p : ByteArray) (n : Nat) : List Cmd := ((ns.drop n).filter (fun x => subB p x.p)).reverse.map (fun n => ⟨n.p, n.k, n.v, 0, 0⟩)

theorem remAcc_yes {ns : List Nd} {p : ByteArray} {n : Nat} {x : Nd} (hn : ns[n]? = some x) (h : subB p x.p = true) : remAcc ns p n = remAcc ns p (n + 1) ++ [⟨x.p, x.k, x.v, 0, 0⟩] := by
  have hlt := (List.getElem?_eq_some_iff.1 hn).1
  unfold remAcc
  rw [List.drop_eq_getElem_cons hlt, (List.getElem?_eq_some_iff.1 hn).2]
  simp [h]

theorem remAcc_no {ns : List Nd} {p : ByteArray} {n : Nat} {x : Nd} (hn : ns[n]? = some x) (h : subB p x.p = false) : remAcc ns p n = remAcc ns p (n + 1) := by
  have hlt := (List.getElem?_eq_some_iff.1 hn).1
  unfold remAcc
  rw [List.drop_eq_getElem_cons hlt, (List.getElem?_eq_some_iff.1 hn).2]
  simp [h]

theorem remAcc_len (ns : List Nd) (p : ByteArray) (n : Nat) : (remAcc ns p n).length ≤ ns.length := by
  unfold remAcc
  rw [List.length_map, List.length_reverse]
  exact Nat.le_trans (List.length_filter_le _ _) (by rw [List.length_drop]; omega)

theorem sub_eq {p q : ByteArray} (h : q = p) : subB p q = true := by unfold subB; simp [h]
theorem sub_ne {ns : List Nd} {p : ByteArray} (hv : validT ns = true) (hp : vpB p = true) {n : Nd} (hn : n ∈ ns) (h : n.p ≠ p) : subB p n.p = l1uB p n.p := by
  have := underB_eq p n.p
  rw [show Pm.valid p.data.toList = true from hp, show Pm.valid n.p.data.toList = true from (good_path hv hn).2] at this
  unfold subB
  rw [decide_eq_false h, Bool.false_or]
  exact this

def RemRel (ns : List Nd) (p : ByteArray) (W : World) (o i : Value) (wr : World) : Prop :=
  ∃ (n : Nat) (z : Int), i = .int .i64 z ∧ z = (n : Int) - 1 ∧ n ≤ ns.length ∧ wr.ownsRow W.heap.size 45 5 o (remAcc ns p n).length (flatC (remAcc ns p n)) ∧ Hid (Below W.heap.size W wr)

/-- Commands that the call has made, and whether it succeeded. -/
def MovePost (r : List Cmd × Bool) (W : World) (e : Ending) (w' : World) : Prop :=
  ∃ sl, e = .returned (.tuple #[sl, .bool r.2]) ∧ w'.ownsRow W.heap.size 45 5 sl r.1.length (flatC r.1) ∧ Below W.heap.size W w'

theorem move_end {r : List Cmd × Bool} {W w' : World} {sl : Value} {out : List Cmd} {b : Bool} (h : r = (out, b)) (ho : w'.ownsRow W.heap.size 45 5 sl out.length (flatC out)) (hB : Below W.heap.size W w') : MovePost r W (.returned (.tuple #[sl, .bool b])) w' := by
  subst h
  exact ⟨sl, rfl, ho, hB⟩

theorem move_none {r : List Cmd × Bool} {W w : World} (h : r = ([], false)) (hB : Below W.heap.size W w) : MovePost r W (.returned (.tuple #[.slice (some ⟨w.heap.size, 0, none⟩) 0 0, .bool false])) (w.alloc (.cells #[] 45)) :=
  move_end h (World.ownsRow_lit (e := 45) (size := 5) w #[] 0 hB.size (by simp [maxLen]) rfl) (below_next hB (below_box _ _))

theorem removeAll_no {ns : List Nd} {p : ByteArray} (h : validT ns = false ∨ ¬ 1 ≤ depB p ∨ (getT ns p).1 = 0) : removeAll ns p = ([], false) := by
  unfold removeAll
  rw [if_neg]
  simp only [Bool.and_eq_true, decide_eq_true_eq]
  rintro ⟨⟨h1, h2⟩, h3⟩
  rcases h with h | h | h
  · rw [h] at h1; cases h1
  · exact h h2
  · exact h3 h

end Go.Proofs.YtmlnakkfjecibaaGreatDoor

/-
  WALKS: moves of the model, second part: spec.l13Copy, CopyAll, MoveAll.
-/
namespace Go.Proofs.YtmlnakkfjecibaaGreatDoor
open Go.RowKit
set_option linter.unusedVariables false

def cpAcc (ns : List Nd) (a b : ByteArray) (i : Nat) : List Cmd := copyL (ns.take i) a b

theorem cpAcc_yes {ns : List Nd} {a b : ByteArray} {n : Nat} {x : Nd} (hn : ns[n]? = some x) (h : subB a x.p = true) : cpAcc ns a b (n + 1) = cpAcc ns a b n ++ [⟨cpB a b x.p, 0, 0, x.k, x.v⟩] := by
  unfold cpAcc copyL
  rw [List.take_add_one, hn]
  simp [h]

theorem cpAcc_no {ns : List Nd} {a b : ByteArray} {n : Nat} {x : Nd} (hn : ns[n]? = some x) (h : subB a x.p = false) : cpAcc ns a b (n + 1) = cpAcc ns a b n := by
  unfold cpAcc copyL
  rw [List.take_add_one, hn]
  simp [h]

theorem cpAcc_len (ns : List Nd) (a b : ByteArray) (i : Nat) : (cpAcc ns a b i).length ≤ ns.length := by
  unfold cpAcc copyL
  rw [List.length_map]
  exact Nat.le_trans (List.length_filter_le _ _) (by rw [List.length_take]; omega)

/-- A path at or under another one is no shorter. -/
theorem sub_size {p q : ByteArray} (h : subB p q = true) : p.size ≤ q.size := by
  unfold subB at h
  rw [Bool.or_eq_true, decide_eq_true_eq] at h
  rcases h with rfl | h
  · exact Nat.le_refl _
  · obtain ⟨w, t, _, _, _, rfl, rfl⟩ := und_words h
    exact pB_size_le _ _

def CopyRel (ns : List Nd) (p b : ByteArray) (W : World) (o i : Value) (wr : World) : Prop :=
  ∃ n : Nat, i = .int .i64 n ∧ n ≤ ns.length ∧ wr.ownsRow W.heap.size 45 5 o (cpAcc ns p b n).length (flatC (cpAcc ns p b n)) ∧ Hid (Below W.heap.size W wr)

theorem vpSize {p : ByteArray} (h : vpB p = true) : p.size ≤ 8 := by
  obtain ⟨w, hw, rfl⟩ := vpB_word h
  show (Pm.pathOf w).length ≤ 8
  unfold Pm.pathOf
  split
  · simp
  · rw [Pm.flat_length]; have := hw.1; omega

theorem cpB_size (a b q : ByteArray) : (cpB a b q).size ≤ b.size + q.size := by
  unfold cpB
  rw [ByteArray.size_append, ByteArray.size_extract]
  omega

theorem copyL_short {ns : List Nd} {p b : ByteArray} (hv : validT ns = true) (hb : vpB b = true) : ShortC 16 (copyL ns p b) := by
  intro c hc
  obtain ⟨n, hn, rfl⟩ := List.mem_map.1 hc
  have h1 := vpSize hb
  have h2 := vpSize (good_path hv (List.mem_filter.1 hn).1).2
  have h3 := cpB_size p b n.p
  show (cpB p b n.p).size ≤ 16
  omega

theorem remL_short {m : Nat} {ns : List Nd} {p : ByteArray} (hs : Short m ns) : ShortC m (remL ns p) := by
  intro c hc
  obtain ⟨n, hn, rfl⟩ := List.mem_map.1 hc
  exact hs n (List.mem_filter.1 (List.mem_reverse.1 hn)).1

theorem moveL_short {m : Nat} {ns : List Nd} {p b : ByteArray} (hm : 16 ≤ m) (hv : validT ns = true) (hb : vpB b = true) (hs : Short m ns) : ShortC m (copyL ns p b ++ remL ns p) := by
  intro c hc
  rcases List.mem_append.1 hc with hc | hc
  · exact (copyL_short hv hb).mono hm c hc
  · exact remL_short hs c hc

theorem copyAll_no {ns : List Nd} {a b : ByteArray} (h : copyOk ns a b = false) : copyAll ns a b = ([], false) := by unfold copyAll; rw [if_neg (by rw [h]; decide)]
theorem copyAll_yes {ns : List Nd} {a b : ByteArray} (h : copyOk ns a b = true) : copyAll ns a b = (copyL ns a b, true) := by unfold copyAll; rw [if_pos h]
theorem moveAll_no {ns : List Nd} {a b : ByteArray} (h : copyOk ns a b = false) : moveAll ns a b = ([], false) := by unfold moveAll; rw [if_neg (by rw [h]; decide)]
theorem moveAll_yes {ns : List Nd} {a b : ByteArray} (h : copyOk ns a b = true) : moveAll ns a b = (copyL ns a b ++ remL ns a, true) := by unfold moveAll; rw [if_pos h]
theorem copyOk_not {ns : List Nd} {a b : ByteArray} (h : validT ns = true → 1 ≤ depB a → 1 ≤ depB b → (getT ns a).1 ≠ 0 → a ≠ b → undB a b = false → fitsL ns (copyL ns a b) = true → False) : copyOk ns a b = false := by
  rw [Bool.eq_false_iff]
  intro hc
  obtain ⟨h1, h2, h3, h4, h5, h6, h7⟩ := copyOk_iff.1 hc
  exact h h1 h2 h3 h4 h5 h6 h7

end Go.Proofs.YtmlnakkfjecibaaGreatDoor

/-
  TEXTS: what stands behind a path that is a text's beginning (strings.TrimPrefix).
-/
namespace Go.Proofs.YtmlnakkfjecibaaGreatDoor
open Go.RowKit
set_option linter.unusedVariables false

set_option maxHeartbeats 400000 in
set_option maxRecDepth 100000 in
theorem hasPrefix_yes (s p : ByteArray) (h : p.size ≤ s.size) (he : ((s.extract 0 p.size).toList == p.toList) = true) (w : World) :
    Calls Tryz.prog 90 #[.string s, .string p] w fun e w' => e = .returned (.bool true) ∧ w' = w := by
  have h1 : (p.size : Int) ≤ s.size := by omega
  clear h
  go_enter Tryz.func90, Tryz.ntmps90
  go_wp2
  go_ret
  exact ⟨rfl, rfl⟩

/-- A path at or under another one, which is not the root, begins with it. -/
theorem sub_prefix {p q : ByteArray} (hr : p ≠ rootB) (h : subB p q = true) : p.size ≤ q.size ∧ ((q.extract 0 p.size).toList == p.toList) = true := by
  unfold subB at h
  rw [Bool.or_eq_true, decide_eq_true_eq] at h
  rcases h with rfl | h
  · refine ⟨Nat.le_refl _, ?_⟩
    rw [ByteArray.extract_zero_size]
    simp
  · have := underB_eq p q
    have hu : underB p q = true := h
    rw [hu] at this
    have h3 : l1uB p q = true := by
      cases hh : l1uB p q with
      | true => rfl
      | false => rw [hh] at this; simp at this
    unfold l1uB at h3
    rw [Bool.or_eq_true, Bool.and_eq_true, Bool.and_eq_true, decide_eq_true_eq] at h3
    rcases h3 with ⟨h3, _⟩ | ⟨h3, h4⟩
    · refine absurd ?_ hr
      rw [beq_iff_eq, Lib.toList_data] at h3
      rw [← Lib.mk_data p, h3]; rfl
    · exact ⟨Nat.le_of_lt h3, h4⟩

end Go.Proofs.YtmlnakkfjecibaaGreatDoor

/-
  PLAIN MATHEMATICS OF MOVES, fourth part: the program's way: a making of nodes, and its way back.
-/
namespace Go.Proofs.YtmlnakkfjecibaaGreatDoor
set_option linter.unusedVariables false

/-- impl.makingOf. -/
def makeL (ns : List Nd) (a b : ByteArray) : List Cmd := if validT ns = true ∧ a ≠ rootB then copyL ns a b else []

theorem makeL_yes {ns : List Nd} {a : ByteArray} (b : ByteArray) (h : validT ns = true) (hr : a ≠ rootB) : makeL ns a b = copyL ns a b := if_pos ⟨h, hr⟩
theorem makeL_no {ns : List Nd} {a : ByteArray} (b : ByteArray) (h : validT ns = false ∨ a = rootB) : makeL ns a b = [] := by
  unfold makeL
  rw [if_neg]
  rintro ⟨h1, h2⟩
  rcases h with h | h
  · rw [h] at h1; cases h1
  · exact h2 h

/-- A tree that has a node at or under a path has one at the path. -/
theorem sub_here {ns : List Nd} {p : ByteArray} (hv : validT ns = true) (hr : p ≠ rootB) {n : Nd} (hn : n ∈ ns) (h : subB p n.p = true) : 1 ≤ depB p ∧ (getT ns p).1 ≠ 0 := by
  unfold subB at h
  rw [Bool.or_eq_true, decide_eq_true_eq] at h
  rcases h with rfl | h
  · refine ⟨(good_path hv hn).1, ?_⟩
    rw [getT_mem hv hn]
    exact (((validT_iff ns).1 hv).2.1 n hn).2.2.1
  · have hp := (und_depth h).1
    have hd : 1 ≤ depB p := by
      obtain ⟨w, hw, rfl⟩ := vpB_word hp
      rw [depB_pB hw]
      cases w with
      | nil => exact absurd rfl hr
      | cons => rw [List.length_cons]; omega
    refine ⟨hd, ?_⟩
    have hm : treeUnder ns p ≠ [] := by
      unfold treeUnder
      rw [hv, hp, if_pos (show (true && true) = true from rfl)]
      intro e
      have := List.map_eq_nil_iff.1 e
      have h2 : n ∈ ns.filter (fun n => undB p n.p) := List.mem_filter.2 ⟨hn, h⟩
      rw [this] at h2
      cases h2
    have := under_dir hm
    rw [treeGet_eq hv hp] at this
    rw [this]
    decide

theorem cpB_here {p q : ByteArray} (h1 : p.size ≤ q.size) (h2 : ((q.extract 0 p.size).toList == p.toList) = true) : cpB p p q = q := by
  have e : q.extract 0 p.size = p := by
    rw [beq_iff_eq, Lib.toList_data, Lib.toList_data] at h2
    rw [← Lib.mk_data (q.extract 0 p.size), h2, Lib.mk_data]
  unfold cpB
  conv => lhs; arg 1; rw [← e]
  rw [ByteArray.extract_append_extract]
  simp [Nat.max_eq_right h1]

theorem cpB_self (a b : ByteArray) : cpB a b a = b := by
  unfold cpB
  rw [ByteArray.extract_eq_empty_iff.2 (by omega)]
  simp

theorem copyL_valid {ns : List Nd} {p : ByteArray} (hv : validT ns = true) (hr : p ≠ rootB) : validL (copyL ns p p) = true := by
  refine (validL_iff _).2 ⟨fun c hc => ?_, by rw [copyL_len]; have := filter_len10 hv (fun n => subB p n.p); omega⟩
  obtain ⟨n, hn, rfl⟩ := List.mem_map.1 hc
  obtain ⟨hn, hs⟩ := List.mem_filter.1 hn
  obtain ⟨h1, h2⟩ := sub_prefix hr hs
  refine (validC_iff _).2 ⟨?_, (show validB 0 0 = true by decide), ?_, ?_⟩
  · show 1 ≤ depB (cpB p p n.p)
    rw [cpB_here h1 h2]
    exact (good_path hv hn).1
  · exact (((validT_iff ns).1 hv).2.1 n hn).2.1
  · intro e
    exact (((validT_iff ns).1 hv).2.1 n hn).2.2.1 (congrArg Prod.fst e).symm

theorem copyL_back {ns : List Nd} {p : ByteArray} (hv : validT ns = true) (hr : p ≠ rootB) : undoL (copyL ns p p) = remL ns p := by
  have hval := copyL_valid hv hr
  rw [undoL_ok hval]
  unfold copyL remL
  rw [← List.map_reverse, List.map_map]
  refine List.map_congr_left (fun n hn => ?_)
  obtain ⟨hm, hs⟩ := List.mem_filter.1 (List.mem_reverse.1 hn)
  obtain ⟨h1, h2⟩ := sub_prefix hr hs
  have hc : validC ⟨cpB p p n.p, 0, 0, n.k, n.v⟩ = true := ((validL_iff _).1 hval).1 _ (List.mem_map.2 ⟨n, List.mem_filter.2 ⟨hm, hs⟩, rfl⟩)
  show undoC ⟨cpB p p n.p, 0, 0, n.k, n.v⟩ = _
  unfold undoC
  rw [if_pos hc, cpB_here h1 h2]

theorem undoL_nil : undoL [] = [] := rfl

/-- RemoveAll, the program's way. -/
theorem make_remove (ns : List Nd) (p : ByteArray) : removeAll ns p = (undoL (makeL ns p p), decide (0 < (undoL (makeL ns p p)).length)) := by
  by_cases hv : validT ns = true
  · by_cases hr : p = rootB
    · rw [makeL_no p (.inr hr), undoL_nil, removeAll_no (.inr (.inl (by rw [hr, depB_rootB]; omega)))]
      rfl
    · rw [makeL_yes p hv hr, copyL_back hv hr]
      by_cases hg : 1 ≤ depB p ∧ (getT ns p).1 ≠ 0
      · rw [removeAll_ok hv hg.1 hg.2, decide_eq_true]
        rw [remL_len, sub_count1 hv hg.1 hg.2]
        omega
      · have he : remL ns p = [] := by
          have : ns.filter (fun n => subB p n.p) = [] := by
            rw [List.filter_eq_nil_iff]
            intro n hn hs
            exact hg (sub_here hv hr hn hs)
          unfold remL
          rw [this]; rfl
        rw [he, removeAll_no]
        · rfl
        · by_cases hd : 1 ≤ depB p
          · exact .inr (.inr (Decidable.byContradiction fun h => hg ⟨hd, h⟩))
          · exact .inr (.inl hd)
  · have hv' : validT ns = false := by simpa using hv
    rw [makeL_no p (.inl hv'), undoL_nil, removeAll_no (.inl hv')]
    rfl

/-- CopyAll, the program's way. -/
theorem make_copy {ns : List Nd} {a b : ByteArray} : copyOk ns a b = true ↔ a ≠ b ∧ undB a b = false ∧ makeL ns a b ≠ [] ∧ fitsL ns (makeL ns a b) = true := by
  constructor
  · intro h
    obtain ⟨h1, h2, h3, h4, h5, h6, h7⟩ := copyOk_iff.1 h
    have hr := dep_root h2
    refine ⟨h5, h6, ?_, ?_⟩
    · rw [makeL_yes b h1 hr]
      obtain ⟨n, hn, hnp⟩ := node_at hr h4
      intro e
      have : (⟨cpB a b n.p, 0, 0, n.k, n.v⟩ : Cmd) ∈ copyL ns a b := List.mem_map.2 ⟨n, List.mem_filter.2 ⟨hn, sub_eq hnp⟩, rfl⟩
      rw [e] at this
      cases this
    · rw [makeL_yes b h1 hr]; exact h7
  · rintro ⟨h5, h6, h8, h7⟩
    have hvr : validT ns = true ∧ a ≠ rootB := Decidable.byContradiction fun h => h8 (if_neg h)
    obtain ⟨h1, hr⟩ := hvr
    rw [makeL_yes b h1 hr] at h7 h8
    obtain ⟨c, hc⟩ := List.exists_mem_of_ne_nil _ h8
    obtain ⟨n, hn, -⟩ := List.mem_map.1 hc
    obtain ⟨hn, hs⟩ := List.mem_filter.1 hn
    obtain ⟨h2, h4⟩ := sub_here h1 hr hn hs
    obtain ⟨m, hm, hmp⟩ := node_at hr h4
    have hc2 : (⟨cpB a b m.p, 0, 0, m.k, m.v⟩ : Cmd) ∈ copyL ns a b := List.mem_map.2 ⟨m, List.mem_filter.2 ⟨hm, sub_eq hmp⟩, rfl⟩
    have h3 := ((validC_iff _).1 (((validL_iff _).1 (fitsL_iff.1 h7).2.1).1 _ hc2)).1
    have h3' : 1 ≤ depB (cpB a b m.p) := h3
    rw [hmp, cpB_self] at h3'
    exact copyOk_iff.2 ⟨h1, h2, h3', h4, h5, h6, h7⟩

theorem makeL_len {ns : List Nd} (a b : ByteArray) : (makeL ns a b).length ≤ 10 := by
  unfold makeL
  split
  · rename_i h
    rw [copyL_len]; exact filter_len10 h.1 _
  · exact Nat.zero_le _

/-- A copy's paths are hardly longer than its place. -/
theorem makeL_short {ns : List Nd} (a b : ByteArray) : ShortC (b.size + 8) (makeL ns a b) := by
  intro c hc
  unfold makeL at hc
  split at hc
  · rename_i h
    obtain ⟨n, hn, rfl⟩ := List.mem_map.1 hc
    have h2 := vpSize (good_path h.1 (List.mem_filter.1 hn).1).2
    have h3 := cpB_size a b n.p
    show (cpB a b n.p).size ≤ _
    omega
  · cases hc

end Go.Proofs.YtmlnakkfjecibaaGreatDoor

/-
  append to a list of the call's own, and where the result lies: in the same block, or in a new one.
-/
namespace Go.Proofs.YtmlnakkfjecibaaGreatDoor
open Go.RowKit
set_option linter.unusedVariables false

/-- The result's block is the old one or a new one. -/
def SameOrNew (w : World) (v v' : Value) : Prop := ∀ k, v'.ownBlock = some k → v.ownBlock = some k ∨ w.heap.size ≤ k

theorem append_where {P : Program} {w w' : World} {base n m c : Nat} {t ty e : TypeId} {i : TypeInfo} {z v v' : Value} {xs news : List Value} {a : Addr} (ht : P.underlying t = some (.slice e)) (hi : P.info? e = some i) (hz : i.zero = some z) (hs1 : i.size = 1)
    (hown : w.ownsRow base e 1 v n xs) (hl : news.length = m * 1) (hnews : ∀ j u, news[j]? = some u → w.cell? (a.add j) = some u) (h1 : ∀ u ∈ news, u.oneCell' = true) (h63 : n + m ≤ maxLen) (hbytes : (n + m) * i.bytes ≤ 140737488355328)
    (hr : (Builtin.append_ #[t, t] ty #[v, .slice (some a) m c]).run P w = .ok v' w') (h4 : v' = .slice none 0 0 ↔ v = .slice none 0 0 ∧ m = 0) : SameOrNew w v v' := by
  intro k hk
  have h63' : n + m ≤ 9223372036854775807 := by unfold maxLen at h63; omega
  rcases hown.2 with ⟨rfl, rfl⟩ | ⟨g, cap, cur, rfl, hbg, hg, hnc, hcm, hcs, htake⟩
  · by_cases hm : m = 0
    · rw [h4.2 ⟨rfl, hm⟩] at hk; cases hk
    · have hr2 := run_append_nil (P := P) w t ty e i z ht hi hz a m c news (by rw [hs1]; exact hl) hnews (by omega) (by omega) (by
        rw [Nat.zero_add] at hbytes; omega)
      rw [hr] at hr2
      injection hr2 with e1 _
      rw [e1] at hk
      simp [Value.ownBlock] at hk
      exact .inr (by omega)
  · by_cases hroom : n + m ≤ cap
    · have hr2 := run_append_room (P := P) w t ty e i ht hi g n cap cur hg a m c news (by rw [hs1]; exact hl) hnews h1 hroom (by rw [hs1, hl, hcs]; omega)
      rw [hr] at hr2
      injection hr2 with e1 _
      rw [e1] at hk
      exact .inl hk
    · have hr2 := run_append_grow (P := P) w t ty e i z ht hi hz ⟨g, 0, none⟩ n cap xs (by rw [hs1]; exact hown.1) (hown.cells (g := g) rfl) a m c news (by rw [hs1]; exact hl) hnews (by omega) (by omega) (growslice_fits (by omega) hbytes)
      rw [hr] at hr2
      injection hr2 with e1 _
      rw [e1] at hk
      simp [Value.ownBlock] at hk
      exact .inr (by omega)

theorem wpList_append_where {P : Program} {w : World} {ops : Array Oper} {rest : List Oper} {o : Oper} {a : Act} {Q : Exit → Act → World → Prop} (hgd : o.guard = none) (s x : Operand) (t : TypeId)
    (ho : o.op = .call { callee := .builtin .append, args := #[s, x], argTypes := #[t, t] })
    (base : Nat) (e : TypeId) (i : TypeInfo) (z : Value) (bytes : Nat) (ht : P.underlying t = some (.slice e)) (hi : P.info? e = some i) (hz : i.zero = some z)
    (hsize : i.size = 1) (hby : i.bytes = bytes) (hzs : z.cells.size = 1)
    (v : Value) (n : Nat) (xs : List Value) (hs : a.eval s = v) (hown : w.ownsRow base e 1 v n xs)
    (ad : Addr) (m c : Nat) (news : List Value) (hx : a.eval x = .slice (some ad) m c) (hl : news.length = m * 1) (hnews : ∀ j u, news[j]? = some u → w.cell? (ad.add j) = some u) (h1 : ∀ u ∈ news, u.oneCell' = true)
    (h63 : n + m ≤ maxLen) (hbytes : (n + m) * bytes ≤ 140737488355328) (hbase : base ≤ w.heap.size)
    (h : ∀ v' w', w'.ownsRow base e 1 v' (n + m) (xs ++ news) → w.grownBy w' v.ownBlock → SameOrNew w v v' → wpList P ops Q rest (a.put o.dst v') w') : wpList P ops Q (o :: rest) a w := by
  refine wpList_plain hgd fun K hK => ?_
  obtain ⟨v', w', hr, h2, h3, h4⟩ := run_append_own (P := P) w base t o.type e i z 1 bytes ht hi hz hsize hby hzs (by decide) v n xs hown ad m c news hl hnews h1 h63 hbytes hbase
  have h5 := append_where ht hi hz hsize hown hl hnews h1 h63 (by rw [hby]; exact hbytes) hr h4
  unfold Oper.wp execOp
  simp only [ho, resolve, invoke, builtin, Sem.run_bind, Sem.run_pure, Result.andThen_ok, List.map_toArray, List.map_cons, List.map_nil, hs, hx, hr]
  exact hK _ _ (h v' w' h2 h3 h5)

end Go.Proofs.YtmlnakkfjecibaaGreatDoor

/-
  WALKS: impl.nodeQueue, nodesFrom, makingOf.
-/
namespace Go.Proofs.YtmlnakkfjecibaaGreatDoor
open Go.RowKit
set_option linter.unusedVariables false

theorem NodesAt.kept {W W' : World} {row : Option Nat} {a : Option Addr} {len : Nat} {ns : List Nd} (h : NodesAt W a len ns) (hg : W.grownBy W' row) (hr : ∀ x, a = some x → len ≠ 0 → row ≠ some x.block) : NodesAt W' a len ns := by
  obtain ⟨h1, h0 | ⟨b, off, rfl, hc⟩⟩ := h
  · exact ⟨h1, .inl h0⟩
  · by_cases hl : len = 0
    · exact ⟨h1, .inl hl⟩
    · have hne : some b ≠ row := fun e => hr _ rfl hl e.symm
      exact ⟨h1, .inr ⟨b, off, rfl, fun i n hn => ⟨hg.cell (hc i n hn).1 hne, hg.cell (hc i n hn).2.1 hne, hg.cell (hc i n hn).2.2 hne⟩⟩⟩

theorem NodesAt.low {W : World} {a : Option Addr} {len : Nat} {ns : List Nd} (h : NodesAt W a len ns) (hl : len ≠ 0) : ∀ x, a = some x → x.block < W.heap.size := by
  intro x hx
  obtain ⟨b, off, n, rfl, _, hc, _⟩ := h.node (i := 0) (by omega)
  cases hx
  exact World.block_lt_of_cell? W _ hc

theorem grown_then {W W1 W2 : World} {row row2 : Option Nat} (h : W.grownBy W1 row) (k : W1.grownBy W2 row2) (hr : ∀ j, row2 = some j → W.heap.size ≤ j ∨ row = some j) : W.grownBy W2 row :=
  ⟨k.os.trans h.os, k.tape.trans h.tape, k.output.trans h.output, Nat.le_trans h.size k.size, fun i hi hne => (k.block i (Nat.lt_of_lt_of_le hi h.size) (fun e => (hr i e.symm).elim (fun h1 => absurd hi (Nat.not_lt.2 h1)) (fun h1 => hne h1.symm))).trans (h.block i hi hne)⟩

/-- What is left when the first node is taken. -/
theorem NodesAt.rest {W : World} {a : Option Addr} {len cap : Nat} {x : Nd} {r : List Nd} (h : NodesAt W a len (x :: r)) (hlc : len ≤ cap) :
    (cap = 1 → NodesAt W a (len - 1) r) ∧ NodesAt W (a.map fun y => y.add 3) (len - 1) r := by
  obtain ⟨h1, h2⟩ := h
  have hl : r.length = len - 1 := by rw [← h1]; simp
  refine ⟨fun e => ⟨hl, .inl (by omega)⟩, hl, ?_⟩
  rcases h2 with h0 | ⟨b, off, rfl, hc⟩
  · left; omega
  · right
    refine ⟨b, off + 3, by rw [Option.map_some, addr_addN], fun i n hn => ?_⟩
    have := hc (i + 1) n (by simpa using hn)
    rw [show off + 3 + i * 3 = off + (i + 1) * 3 by omega]
    exact this

theorem npair_results (fn : Func) (hf : fn.results = #[.cell 2 57, .tmp 3]) (W : World) (n : Nat) (p : ByteArray) (k v : Int) (b : Bool) (tmps : Array Value) (ht : tmps[2]? = some (.pointer (some ⟨n, 0, none⟩))) (hb : tmps[3]? = some (.bool b))
    (h : W.cell? ⟨n, 0, none⟩ = some (.string p) ∧ W.cell? ⟨n, 1, none⟩ = some (.int .i64 k) ∧ W.cell? ⟨n, 2, none⟩ = some (.int .i64 v)) : (results fn tmps).run Tryz.prog W = .ok (.tuple #[.agg #[.string p, .int .i64 k, .int .i64 v], .bool b]) W := by
  obtain ⟨c0, c1, c2⟩ := h
  simp [results, hf, go_sem, ht, hb, c0, c1, c2]

theorem three_cells (W : World) (x y z : Value) (t : TypeId) : (W.alloc (.cells #[x, y, z] t)).cell? ⟨W.heap.size, 0, none⟩ = some x ∧ (W.alloc (.cells #[x, y, z] t)).cell? ⟨W.heap.size, 1, none⟩ = some y ∧ (W.alloc (.cells #[x, y, z] t)).cell? ⟨W.heap.size, 2, none⟩ = some z ∧
    (W.alloc (.cells #[x, y, z] t)).frozen? ⟨W.heap.size, 0, none⟩ = false ∧ (W.alloc (.cells #[x, y, z] t)).frozen? ⟨W.heap.size, 1, none⟩ = false ∧ (W.alloc (.cells #[x, y, z] t)).frozen? ⟨W.heap.size, 2, none⟩ = false := by
  refine ⟨by rw [World.cell?_alloc_new]; rfl, by rw [World.cell?_alloc_new]; rfl, by rw [World.cell?_alloc_new]; rfl, ?_, ?_, ?_⟩
  all_goals (simp only [World.frozen?, World.alloc_heap_new]; rfl)

/-- impl.nodesFrom. -/
def fromL (ns : List Nd) (p : ByteArray) : List Nd := if validT ns = true ∧ p ≠ rootB then ns.filter (fun n => subB p n.p) else []

theorem fromL_yes {ns : List Nd} {p : ByteArray} (h : validT ns = true) (hr : p ≠ rootB) : fromL ns p = ns.filter (fun n => subB p n.p) := if_pos ⟨h, hr⟩
theorem fromL_no {ns : List Nd} {p : ByteArray} (h : validT ns = false ∨ p = rootB) : fromL ns p = [] := by
  unfold fromL
  rw [if_neg]
  rintro ⟨h1, h2⟩
  rcases h with h | h
  · rw [h] at h1; cases h1
  · exact h2 h
theorem fromL_len (ns : List Nd) (p : ByteArray) : (fromL ns p).length ≤ 10 := by
  unfold fromL
  split
  · rename_i h; exact filter_len10 h.1 _
  · exact Nat.zero_le _

def fromAcc (ns : List Nd) (p : ByteArray) (n : Nat) : List Nd := (ns.take n).filter (fun x => subB p x.p)

theorem fromAcc_yes {ns : List Nd} {p : ByteArray} {n : Nat} {x : Nd} (hn : ns[n]? = some x) (h : subB p x.p = true) : fromAcc ns p (n + 1) = fromAcc ns p n ++ [x] := by
  unfold fromAcc
  rw [List.take_add_one, hn]
  simp [h]
theorem fromAcc_no {ns : List Nd} {p : ByteArray} {n : Nat} {x : Nd} (hn : ns[n]? = some x) (h : subB p x.p = false) : fromAcc ns p (n + 1) = fromAcc ns p n := by
  unfold fromAcc
  rw [List.take_add_one, hn]
  simp [h]
theorem fromAcc_len {ns : List Nd} (hv : validT ns = true) (p : ByteArray) (n : Nat) : (fromAcc ns p n).length ≤ 10 := by
  unfold fromAcc
  exact Nat.le_trans (List.length_filter_le _ _) (Nat.le_trans (by rw [List.length_take]; omega) ((validT_iff ns).1 hv).2.2)

/-- A list of nodes that the call has made. -/
def FromPost (l : List Nd) (W : World) (e : Ending) (w' : World) : Prop := OwnsNodes W.heap.size l e w' ∧ Below W.heap.size W w'

/-- A node in a block of its own. -/
def NBox (W : World) (c : Nat) (x : Nd) : Prop := W.heap[c]? = some (.cells #[.string x.p, .int .i64 x.k, .int .i64 x.v] 57 (0, 0))

theorem NBox.cells {W : World} {c : Nat} {x : Nd} (h : NBox W c x) : W.cell? ⟨c, 0, none⟩ = some (.string x.p) ∧ W.cell? ⟨c, 1, none⟩ = some (.int .i64 x.k) ∧ W.cell? ⟨c, 2, none⟩ = some (.int .i64 x.v) ∧ W.frozen? ⟨c, 0, none⟩ = false ∧ W.frozen? ⟨c, 1, none⟩ = false ∧ W.frozen? ⟨c, 2, none⟩ = false := by
  unfold NBox at h
  simp [World.cell?, World.frozen?, h]
theorem NBox.lt {W : World} {c : Nat} {x : Nd} (h : NBox W c x) : c < W.heap.size := (Array.getElem?_eq_some_iff.1 h).1
theorem NBox.kept {W W' : World} {row : Option Nat} {c : Nat} {x : Nd} (h : NBox W c x) (hg : W.grownBy W' row) (hne : some c ≠ row) : NBox W' c x := (hg.block c h.lt hne).trans h
theorem NBox.keep {W W' : World} {c : Nat} {x : Nd} (h : NBox W c x) (hb : Below W.heap.size W W') : NBox W' c x := (hb.block c h.lt).trans h
theorem NBox.new (W : World) (x : Nd) : NBox (W.alloc (.cells #[.string x.p, .int .i64 x.k, .int .i64 x.v] 57)) W.heap.size x := World.alloc_heap_new W _
theorem NBox.far {W : World} {c base n : Nat} {x : Nd} {v : Value} {xs : List Value} (h : NBox W c x) (ho : W.ownsRow base 45 5 v n xs) : some c ≠ v.ownBlock := by
  rcases ho.2 with ⟨rfl, _⟩ | ⟨g, cap, cur, rfl, _, q2, _⟩
  · simp [Value.ownBlock]
  · intro e
    simp [Value.ownBlock] at e
    subst e
    unfold NBox at h
    rw [h] at q2
    cases q2
theorem NBox.put {W : World} {c : Nat} {x : Nd} (y : Nd) (h : NBox W c x) : NBox (((W.setCell ⟨c, 0, none⟩ (.string y.p)).setCell ⟨c, 1, none⟩ (.int .i64 y.k)).setCell ⟨c, 2, none⟩ (.int .i64 y.v)) c y := by
  unfold NBox at h ⊢
  simp [World.setCell, h, Array.getElem?_modify]

/-- What makingOf makes of nodes. -/
def mkL (p b : ByteArray) (l : List Nd) : List Cmd := l.map (fun n => ⟨cpB p b n.p, 0, 0, n.k, n.v⟩)

theorem mkL_snoc (p b : ByteArray) (l : List Nd) (x : Nd) : mkL p b (l ++ [x]) = mkL p b l ++ [⟨cpB p b x.p, 0, 0, x.k, x.v⟩] := by unfold mkL; rw [List.map_append]; rfl
theorem mkL_from (ns : List Nd) (p b : ByteArray) : mkL p b (fromL ns p) = makeL ns p b := by
  unfold fromL makeL
  split
  · rfl
  · rfl

theorem fromL_sub {ns : List Nd} {p : ByteArray} {x : Nd} (h : x ∈ fromL ns p) : p.size ≤ x.p.size ∧ ((x.p.extract 0 p.size).toList == p.toList) = true ∧ x.p.size ≤ 8 := by
  unfold fromL at h
  split at h
  · rename_i hc
    obtain ⟨hm, hs⟩ := List.mem_filter.1 h
    obtain ⟨h1, h2⟩ := sub_prefix hc.2 hs
    exact ⟨h1, h2, vpSize (good_path hc.1 hm).2⟩
  · cases h

/-- How many nodes a queue has. -/
def leftAt (W : World) (B : Nat) : Nat := match W.cell? ⟨B, 0, none⟩ with
  | some (.slice _ n _) => n
  | _ => 0

def moreOf : Value → Nat
  | .bool true => 1
  | _ => 0

end Go.Proofs.YtmlnakkfjecibaaGreatDoor

/-
  WALKS: the program's heap of commands: impl.ends, canonHeap.Len, Less, Swap, Push, Pop.
-/
namespace Go.Proofs.YtmlnakkfjecibaaGreatDoor
open Go.RowKit
set_option linter.unusedVariables false

/-- Every seat has it: what stands ahead of the first declaration goes with it. -/
theorem hc_first : (0 : Nat) ≤ 0 := Nat.le_refl 0

set_option maxHeartbeats 1000000 in
set_option maxRecDepth 100000 in
theorem implEnds_c (c : Cmd) (W : World) : Calls Tryz.prog 116 #[cmdV c] W (BoolPost (endsC c) W) := by
  obtain ⟨p, fk, fv, tk, tv⟩ := c
  unfold cmdV
  have HB := Lib.hid (below_box W (.cells #[.string p, .int .i64 fk, .int .i64 fv, .int .i64 tk, .int .i64 tv] 45))
  simp only
  by_cases h : tk = 0
  · subst h
    go_enter Tryz.func116, Tryz.ntmps116
    go_wp2
    go_ret
    exact ⟨ret_bool (by unfold endsC; simp), HB.out⟩
  · have h0 : (tk == 0) = false := beq_eq_false_iff_ne.2 h
    by_cases h1 : fk = 1
    · subst h1
      go_enter Tryz.func116, Tryz.ntmps116
      go_wp2
      go_ret
      exact ⟨ret_bool (by unfold endsC; simp), HB.out⟩
    · have h2 : (fk == 1) = false := beq_eq_false_iff_ne.2 h1
      have HX := Lib.hid (show endsC ⟨p, fk, fv, tk, tv⟩ = false by unfold endsC; simp [h0, h2])
      clear h h1
      go_enter Tryz.func116, Tryz.ntmps116
      go_wp2
      go_ret
      exact ⟨ret_bool HX.out.symm, HB.out⟩

theorem heapLen_c (a : Option Addr) (len cap : Nat) (W : World) : Calls Tryz.prog 34 #[.slice a len cap] W (fun e w' => e = .returned (.int .i64 len) ∧ w' = W) := by
  go_enter Tryz.func34, Tryz.ntmps34
  go_wp2
  go_ret
  exact ⟨rfl, rfl⟩

/-- Two commands of a list, read. -/
def TwoAt (w' : World) (b i j : Nat) (c d : Cmd) : Prop :=
  w'.cell? ⟨b, i, none⟩ = some (.string c.p) ∧ w'.cell? ⟨b, i + 1, none⟩ = some (.int .i64 c.fk) ∧ w'.cell? ⟨b, i + 2, none⟩ = some (.int .i64 c.fv) ∧ w'.cell? ⟨b, i + 3, none⟩ = some (.int .i64 c.tk) ∧ w'.cell? ⟨b, i + 4, none⟩ = some (.int .i64 c.tv) ∧
  w'.cell? ⟨b, j, none⟩ = some (.string d.p) ∧ w'.cell? ⟨b, j + 1, none⟩ = some (.int .i64 d.fk) ∧ w'.cell? ⟨b, j + 2, none⟩ = some (.int .i64 d.fv) ∧ w'.cell? ⟨b, j + 3, none⟩ = some (.int .i64 d.tk) ∧ w'.cell? ⟨b, j + 4, none⟩ = some (.int .i64 d.tv)

theorem TwoAt.keep {W W' : World} {b i j : Nat} {c d : Cmd} (h : TwoAt W b i j c d) (hb : Below W.heap.size W W') : TwoAt W' b i j c d := by
  obtain ⟨a0, a1, a2, a3, a4, b0, b1, b2, b3, b4⟩ := h
  exact ⟨cell_kept hb a0, cell_kept hb a1, cell_kept hb a2, cell_kept hb a3, cell_kept hb a4, cell_kept hb b0, cell_kept hb b1, cell_kept hb b2, cell_kept hb b3, cell_kept hb b4⟩

set_option maxHeartbeats 4000000 in
set_option maxRecDepth 100000 in
theorem heapLess_c (a : Option Addr) (len cap : Nat) (zs : List Cmd) (i j : Nat) (hi : i < len) (hj : j < len) (hl : len ≤ 2097152) (W : World) (hC : CmdsAt W a len zs) :
    Calls Tryz.prog 114 #[.slice a len cap, .int .i64 i, .int .i64 j] W (BoolPost (befC (atK zs i) (atK zs j)) W) := by
  obtain ⟨b, off, c, rfl, hc, c0, c1, c2, c3, c4⟩ := hC.node hi
  obtain ⟨b', off', d, e, hd, d0, d1, d2, d3, d4⟩ := hC.node hj
  cases e
  rw [atK_of hc, atK_of hd]
  have T0 := Lib.hid (show TwoAt W b (off + i * 5) (off + j * 5) c d from ⟨c0, c1, c2, c3, c4, d0, d1, d2, d3, d4⟩)
  obtain ⟨ec, hec⟩ : ∃ e, endsC c = e := ⟨_, rfl⟩
  obtain ⟨ed, hed⟩ : ∃ e, endsC d = e := ⟨_, rfl⟩
  have HC := Lib.hid (fun w => show Calls Tryz.prog 116 #[cmdV c] w (BoolPost ec w) by rw [← hec]; exact implEnds_c c w)
  have HD := Lib.hid (fun w => show Calls Tryz.prog 116 #[cmdV d] w (BoolPost ed w) by rw [← hed]; exact implEnds_c d w)
  have HR := Lib.hid (bef_cases c d)
  rw [hec, hed] at HR
  have hi' : (i : Int) < len := by omega
  have hj' : (j : Int) < len := by omega
  clear hec hed hC hc hd c0 c1 c2 c3 c4 d0 d1 d2 d3 d4 hi hj
  obtain ⟨p, fk, fv, tk, tv⟩ := c
  obtain ⟨p', fk', fv', tk', tv'⟩ := d
  unfold cmdV at HC HD
  unfold TwoAt at T0
  simp only at HC HD HR T0
  go_enter Tryz.func114, Tryz.ntmps114
  go_upto_region 1 with (fail)
  have HS0 : Hid (W.drew.cell? ⟨b, off + i * 5, none⟩ = some (.string p) ∧ W.drew.cell? ⟨b, off + i * 5 + 1, none⟩ = some (.int .i64 fk) ∧ W.drew.cell? ⟨b, off + i * 5 + 2, none⟩ = some (.int .i64 fv) ∧ W.drew.cell? ⟨b, off + i * 5 + 3, none⟩ = some (.int .i64 tk) ∧ W.drew.cell? ⟨b, off + i * 5 + 4, none⟩ = some (.int .i64 tv) ∧ W.drew.cell? ⟨b, off + j * 5, none⟩ = some (.string p') ∧ W.drew.cell? ⟨b, off + j * 5 + 1, none⟩ = some (.int .i64 fk') ∧ W.drew.cell? ⟨b, off + j * 5 + 2, none⟩ = some (.int .i64 fv') ∧ W.drew.cell? ⟨b, off + j * 5 + 3, none⟩ = some (.int .i64 tk') ∧ W.drew.cell? ⟨b, off + j * 5 + 4, none⟩ = some (.int .i64 tv') ∧ Below W.heap.size W W.drew) := by
    obtain ⟨a0, a1, a2, a3, a4, b0, b1, b2, b3, b4⟩ := T0.out
    exact ⟨a0, a1, a2, a3, a4, b0, b1, b2, b3, b4, (Below.refl _ _).drew⟩
  have HKP : Hid (∀ w1 w2 : World, (w1.cell? ⟨b, off + i * 5, none⟩ = some (.string p) ∧ w1.cell? ⟨b, off + i * 5 + 1, none⟩ = some (.int .i64 fk) ∧ w1.cell? ⟨b, off + i * 5 + 2, none⟩ = some (.int .i64 fv) ∧ w1.cell? ⟨b, off + i * 5 + 3, none⟩ = some (.int .i64 tk) ∧ w1.cell? ⟨b, off + i * 5 + 4, none⟩ = some (.int .i64 tv) ∧ w1.cell? ⟨b, off + j * 5, none⟩ = some (.string p') ∧ w1.cell? ⟨b, off + j * 5 + 1, none⟩ = some (.int .i64 fk') ∧ w1.cell? ⟨b, off + j * 5 + 2, none⟩ = some (.int .i64 fv') ∧ w1.cell? ⟨b, off + j * 5 + 3, none⟩ = some (.int .i64 tk') ∧ w1.cell? ⟨b, off + j * 5 + 4, none⟩ = some (.int .i64 tv') ∧ Below W.heap.size W w1) → Below w1.heap.size w1 w2 → (w2.cell? ⟨b, off + i * 5, none⟩ = some (.string p) ∧ w2.cell? ⟨b, off + i * 5 + 1, none⟩ = some (.int .i64 fk) ∧ w2.cell? ⟨b, off + i * 5 + 2, none⟩ = some (.int .i64 fv) ∧ w2.cell? ⟨b, off + i * 5 + 3, none⟩ = some (.int .i64 tk) ∧ w2.cell? ⟨b, off + i * 5 + 4, none⟩ = some (.int .i64 tv) ∧ w2.cell? ⟨b, off + j * 5, none⟩ = some (.string p') ∧ w2.cell? ⟨b, off + j * 5 + 1, none⟩ = some (.int .i64 fk') ∧ w2.cell? ⟨b, off + j * 5 + 2, none⟩ = some (.int .i64 fv') ∧ w2.cell? ⟨b, off + j * 5 + 3, none⟩ = some (.int .i64 tk') ∧ w2.cell? ⟨b, off + j * 5 + 4, none⟩ = some (.int .i64 tv') ∧ Below W.heap.size W w2)) := by
    rintro w1 w2 ⟨a0, a1, a2, a3, a4, b0, b1, b2, b3, b4, hb⟩ h
    exact ⟨cell_kept h a0, cell_kept h a1, cell_kept h a2, cell_kept h a3, cell_kept h a4, cell_kept h b0, cell_kept h b1, cell_kept h b2, cell_kept h b3, cell_kept h b4, below_next hb h⟩
  go_region_held3 (fun w' => w'.cell? ⟨b, off + i * 5, none⟩ = some (.string p) ∧ w'.cell? ⟨b, off + i * 5 + 1, none⟩ = some (.int .i64 fk) ∧ w'.cell? ⟨b, off + i * 5 + 2, none⟩ = some (.int .i64 fv) ∧ w'.cell? ⟨b, off + i * 5 + 3, none⟩ = some (.int .i64 tk) ∧ w'.cell? ⟨b, off + i * 5 + 4, none⟩ = some (.int .i64 tv) ∧ w'.cell? ⟨b, off + j * 5, none⟩ = some (.string p') ∧ w'.cell? ⟨b, off + j * 5 + 1, none⟩ = some (.int .i64 fk') ∧ w'.cell? ⟨b, off + j * 5 + 2, none⟩ = some (.int .i64 fv') ∧ w'.cell? ⟨b, off + j * 5 + 3, none⟩ = some (.int .i64 tk') ∧ w'.cell? ⟨b, off + j * 5 + 4, none⟩ = some (.int .i64 tv') ∧ Below W.heap.size W w')
    (first | exact HS0.out | exact HKP.out _ _ HS0.out hb5 | exact HKP.out _ _ (by assumption) hb5)
    (first | (go_at_call 116; (with_reducible refine (HC.out _).mono ?_); rintro e W5 ⟨rfl, hb5⟩) | (go_at_call 116; (with_reducible refine (HD.out _).mono ?_); rintro e W5 ⟨rfl, hb5⟩))
  all_goals
    rename_i hS
    obtain ⟨a0, a1, a2, a3, a4, b0, b1, b2, b3, b4, hB⟩ := hS
    have HB := Lib.hid hB
    clear T0 HS0 HKP hB
    cases ec <;> cases ed
    · go_wp2_with (go_at_call 116; (with_reducible refine (HC.out _).mono ?_); rintro e W6 ⟨rfl, hb6⟩; replace a0 := cell_kept hb6 a0; replace b0 := cell_kept hb6 b0; have HB6 := Lib.hid (below_next HB.out hb6); clear hb6)
      go_quiet (fail)
      go_wp2
      go_ret
      exact ⟨ret_bool HR.out.symm, below_drewN HB6.out _⟩
    · go_wp2_with (go_at_call 116; (with_reducible refine (HC.out _).mono ?_); rintro e W6 ⟨rfl, hb6⟩; have HB6 := Lib.hid (below_next HB.out hb6); clear hb6)
      go_ret
      exact ⟨ret_bool HR.out.symm, HB6.out⟩
    · go_wp2_with (go_at_call 116; (with_reducible refine (HC.out _).mono ?_); rintro e W6 ⟨rfl, hb6⟩; have HB6 := Lib.hid (below_next HB.out hb6); clear hb6)
      go_ret
      exact ⟨ret_bool HR.out.symm, HB6.out⟩
    · go_wp2_with (go_at_call 116; (with_reducible refine (HC.out _).mono ?_); rintro e W6 ⟨rfl, hb6⟩; replace a0 := cell_kept hb6 a0; replace b0 := cell_kept hb6 b0; have HB6 := Lib.hid (below_next HB.out hb6); clear hb6)
      go_quiet (fail)
      go_wp2
      go_ret
      exact ⟨ret_bool ((gtr_eq p p').trans HR.out.symm), below_drewN HB6.out _⟩

theorem hp_cells {W : World} {base : Nat} {e : TypeId} {g n cap : Nat} {zs : List Cmd} (h : W.ownsRow base e 5 (.slice (some ⟨g, 0, none⟩) n cap) n (flatC zs)) {i : Nat} (hi : i < zs.length) (hn : n = zs.length) :
    W.cell? ⟨g, i * 5, none⟩ = some (.string (atK zs i).p) ∧ W.cell? ⟨g, i * 5 + 1, none⟩ = some (.int .i64 (atK zs i).fk) ∧ W.cell? ⟨g, i * 5 + 2, none⟩ = some (.int .i64 (atK zs i).fv) ∧ W.cell? ⟨g, i * 5 + 3, none⟩ = some (.int .i64 (atK zs i).tk) ∧ W.cell? ⟨g, i * 5 + 4, none⟩ = some (.int .i64 (atK zs i).tv) := by
  obtain ⟨f0, f1, f2, f3, f4⟩ := flatC_get zs i (atK zs i) (atK_get hi)
  refine ⟨?_, ?_, ?_, ?_, ?_⟩
  · rw [h.cellAt (i * 5) (by omega)]; exact f0
  · rw [h.cellAt (i * 5 + 1) (by omega)]; exact f1
  · rw [h.cellAt (i * 5 + 2) (by omega)]; exact f2
  · rw [h.cellAt (i * 5 + 3) (by omega)]; exact f3
  · rw [h.cellAt (i * 5 + 4) (by omega)]; exact f4

theorem row_frozen {W : World} {base : Nat} {e : TypeId} {g n m cap : Nat} {xs : List Value} (h : W.ownsRow base e 5 (.slice (some ⟨g, 0, none⟩) m cap) n xs) (o : Nat) : W.frozen? ⟨g, o, none⟩ = false := by
  rcases h.2 with ⟨h1, _⟩ | ⟨g', cap', cur, h1, _, h2, _⟩
  · cases h1
  · cases h1
    simp only [World.frozen?, h2]
    rfl

def SwapPost (base g n cap : Nat) (zs : List Cmd) (i j : Nat) (W : World) (e : Ending) (w' : World) : Prop :=
  e = .returned (.tuple #[]) ∧ w'.ownsRow base 45 5 (.slice (some ⟨g, 0, none⟩) n cap) n (flatC (swapK zs i j)) ∧ W.grownBy w' (some g)

theorem row_drew {W : World} {base : Nat} {e : TypeId} {size n : Nat} {v : Value} {xs : List Value} (h : W.ownsRow base e size v n xs) : W.drew.ownsRow base e size v n xs := h
theorem grown_drew {W W' : World} {row : Option Nat} (h : W.grownBy W' row) : W.grownBy W'.drew row := ⟨h.os, h.tape, h.output, h.size, h.block⟩

theorem swap_end {base g n cap : Nat} {zs : List Cmd} {i j : Nat} {W : World} (fn : Func) (hf : fn.results = #[]) (tmps : Array Value) (h : W.ownsRow base 45 5 (.slice (some ⟨g, 0, none⟩) n cap) n (flatC zs)) (hi : i < zs.length) (hj : j < zs.length) :
    bodyPost Tryz.prog fn (SwapPost base g n cap zs i j W) .normal ⟨tmps, []⟩ (set5 (set5 W g (i * 5) (atK zs j)) g (j * 5) (atK zs i)).drew :=
  bodyPost_end (v := .tuple #[]) (by simp [results, hf, go_sem]) rfl ⟨rfl, row_drew (own_swap5 h hi hj), by
    have h1 := grown_set5 W g (i * 5) (atK zs j)
    have h2 := grown_set5 (set5 W g (i * 5) (atK zs j)) g (j * 5) (atK zs i)
    exact grown_drew (grown_then h1 h2 (fun k e => .inr e))⟩

set_option maxHeartbeats 4000000 in
set_option maxRecDepth 100000 in
theorem heapSwap_c (base g n cap : Nat) (zs : List Cmd) (i j : Nat) (hn : n = zs.length) (hi : i < n) (hj : j < n) (hl : n ≤ 2097152) (W : World) (ho : W.ownsRow base 45 5 (.slice (some ⟨g, 0, none⟩) n cap) n (flatC zs)) :
    Calls Tryz.prog 115 #[.slice (some ⟨g, 0, none⟩) n cap, .int .i64 i, .int .i64 j] W (SwapPost base g n cap zs i j W) := by
  obtain ⟨c0, c1, c2, c3, c4⟩ := hp_cells ho (i := i) (by omega) hn
  obtain ⟨d0, d1, d2, d3, d4⟩ := hp_cells ho (i := j) (by omega) hn
  have HF := Lib.hid (fun o => row_frozen ho o)
  have HO := Lib.hid ho
  have HI := Lib.hid (show i < zs.length ∧ j < zs.length from ⟨by omega, by omega⟩)
  have hi' : (i : Int) < n := by omega
  have hj' : (j : Int) < n := by omega
  obtain ⟨ci, hci⟩ : ∃ c, atK zs i = c := ⟨_, rfl⟩
  obtain ⟨cj, hcj⟩ : ∃ c, atK zs j = c := ⟨_, rfl⟩
  have HCI := Lib.hid (And.intro hci hcj)
  rw [hci] at c0 c1 c2 c3 c4
  rw [hcj] at d0 d1 d2 d3 d4
  have hr1 := own_set5 ho (i := i) (by omega) cj
  have hr1l : n = (zs.set i cj).length := by simpa using hn
  obtain ⟨x0, x1, x2, x3, x4⟩ := hp_cells hr1 (i := j) (by omega) hr1l
  obtain ⟨cx, hcx⟩ : ∃ c, atK (zs.set i cj) j = c := ⟨_, rfl⟩
  rw [hcx] at x0 x1 x2 x3 x4
  unfold set5 at x0 x1 x2 x3 x4
  clear hci hcj hi hj hn ho hr1 hr1l hcx
  have f0 := fun o => HF.out o
  go_enter Tryz.func115, Tryz.ntmps115
  go_wp2
  go_region
  all_goals
    rw [← HCI.out.1, ← HCI.out.2]
    exact swap_end _ rfl _ HO.out HI.out.1 HI.out.2

/-- Blocks that are no rows of cells stand. -/
def KeptM (W w' : World) : Prop := ∀ (i : Nat) (o : Obj), W.heap[i]? = some o → o.isCells = false → w'.heap[i]? = some o

theorem KeptM.trans {A B C : World} (h : KeptM A B) (k : KeptM B C) : KeptM A C := fun i o hi ho => k i o (h i o hi ho) ho

theorem KeptM.grown {W w' : World} {row : Option Nat} (hg : W.grownBy w' row) (hr : ∀ r o, row = some r → W.heap[r]? = some o → o.isCells = true) : KeptM W w' := fun i o hi ho => by
  refine (hg.block i (Array.getElem?_eq_some_iff.1 hi).1 (fun e => ?_)).trans hi
  rw [hr i o e.symm hi] at ho
  cases ho

theorem KeptM.below {W w' : World} (hb : Below W.heap.size W w') : KeptM W w' := fun i o hi ho => (hb.block i (Array.getElem?_eq_some_iff.1 hi).1).trans hi

theorem row_cells {W : World} {base : Nat} {e : TypeId} {size n : Nat} {v : Value} {xs : List Value} (h : W.ownsRow base e size v n xs) : ∀ r o, v.ownBlock = some r → W.heap[r]? = some o → o.isCells = true := by
  intro r o hr ho
  rcases h.2 with ⟨rfl, _⟩ | ⟨g, cap, cur, rfl, _, h2, _⟩
  · cases hr
  · simp [Value.ownBlock] at hr
    subst hr
    rw [h2] at ho
    cases ho
    rfl

/-- A heap of commands: its box, and its row. -/
structure HpAt (W : World) (B base : Nat) (v : Value) (zs : List Cmd) : Prop where
  box : Boxed W B 43 v
  row : W.ownsRow base 45 5 v zs.length (flatC zs)
  lt : B < base

theorem HpAt.far {W : World} {B base : Nat} {v : Value} {zs : List Cmd} (h : HpAt W B base v zs) : some B ≠ v.ownBlock := fun e => by
  have h1 := (h.row.lt B e.symm).1
  have h2 := h.lt
  omega

theorem HpAt.keep {W W' : World} {B base : Nat} {v : Value} {zs : List Cmd} (h : HpAt W B base v zs) (hb : Below W.heap.size W W') : HpAt W' B base v zs :=
  ⟨box_keep h.box hb, own_below h.row hb, h.lt⟩

/-- What is left when a command has been put behind. -/
def PushM (B base : Nat) (zs : List Cmd) (c : Cmd) (W : World) (e : Ending) (w' : World) : Prop :=
  e = .returned (.tuple #[]) ∧ ∃ v', HpAt w' B base v' (zs ++ [c]) ∧ Below B W w' ∧ KeptM W w'

theorem pushM_end {B base : Nat} {v : Value} {zs : List Cmd} {c : Cmd} {W w4 : World} {g4 c4 : Nat} {o : Obj} (fn : Func) (hf : fn.results = #[]) (tmps : Array Value) (h : HpAt W B base v zs)
    (hg4 : (W.alloc o).drew.grownBy w4 v.ownBlock) (ho4 : w4.ownsRow base 45 5 (.slice (some ⟨g4, 0, none⟩) (zs.length + 1) c4) (zs.length + 1) (flatC zs ++ [.string c.p, .int .i64 c.fk, .int .i64 c.fv, .int .i64 c.tk, .int .i64 c.tv])) :
    bodyPost Tryz.prog fn (PushM B base zs c W) .normal ⟨tmps, []⟩ (w4.setCell ⟨B, 0, none⟩ (.slice (some ⟨g4, 0, none⟩) (zs.length + 1) c4)) := by
  have hlt := h.lt
  have hBl := h.box.lt
  have hbx4 : Boxed w4 B 43 v := (show Boxed (W.alloc o).drew B 43 v from h.box.alloc o).kept hg4 h.far
  have hr1 : (W.alloc o).drew.ownsRow base 45 5 v zs.length (flatC zs) := row_drew (own_below h.row (below_box W o))
  have hk1 : KeptM W (W.alloc o).drew := KeptM.below ((below_box W o).drew)
  refine bodyPost_end (v := .tuple #[]) (by simp [results, hf, go_sem]) rfl ⟨rfl, _, ⟨hbx4.set _, ?_, hlt⟩, ?_, ?_⟩
  · have := own_pushC c (ownsRow_setCell_below ho4 (a := ⟨B, 0, none⟩) (show B < base from hlt) (.slice (some ⟨g4, 0, none⟩) (zs.length + 1) c4))
    rw [List.length_append]
    rw [List.length_append] at this
    exact this
  · have h1 : Below B W (W.alloc o).drew := (((Below.refl B W)).alloc (by omega) o).drew
    exact below_setCell (h1.grown hg4 (by have := h1.size; omega) (fun k e => by have := (hr1.lt k e).1; omega)) _ _ (Nat.le_refl _)
  · refine (hk1.trans (KeptM.grown hg4 (row_cells hr1))).trans (KeptM.grown (grownBy_setCell_at w4 B 0 _) (fun r x e hx => ?_))
    cases e
    rw [show w4.heap[B]? = _ from hbx4] at hx
    cases hx
    rfl

theorem ta_cmd (p : ByteArray) (fk fv tk tv : Int) (W : World) : (Instr.typeAssert (.iface 45 (.agg #[.string p, .int .i64 fk, .int .i64 fv, .int .i64 tk, .int .i64 tv])) 20 45 false).run Tryz.prog W = .ok (.agg #[.string p, .int .i64 fk, .int .i64 fv, .int .i64 tk, .int .i64 tv]) W := by kernel_rfl

set_option maxHeartbeats 1000000 in
set_option maxRecDepth 100000 in
theorem heapPushM_c (B base : Nat) (v : Value) (zs : List Cmd) (c : Cmd) (hl : zs.length ≤ 2000000) (W : World) (hle : base ≤ W.heap.size) (h : HpAt W B base v zs) :
    Calls Tryz.prog 118 #[.pointer (some ⟨B, 0, none⟩), .iface 45 (cmdV c)] W (PushM B base zs c W) := by
  obtain ⟨i0, hi, hz0, hz1, hz2⟩ := info_parts infoCmd
  have HH := Lib.hid h
  have b0 := h.box.cell
  have f0 := h.box.frozen
  have hBl := h.box.lt
  obtain ⟨p, fk, fv, tk, tv⟩ := c
  unfold cmdV
  simp only
  have HROW := Lib.hid (show ((W.alloc (.cells #[.string p, .int .i64 fk, .int .i64 fv, .int .i64 tk, .int .i64 tv] 45)).drew).ownsRow base 45 5 v zs.length (flatC zs) from row_drew (own_below h.row (below_box W _)))
  have HCEL := Lib.hid (show ∀ j u, [Value.string p, .int .i64 fk, .int .i64 fv, .int .i64 tk, .int .i64 tv][j]? = some u → ((W.alloc (.cells #[.string p, .int .i64 fk, .int .i64 fv, .int .i64 tk, .int .i64 tv] 45)).drew).cell? ((⟨W.heap.size, 0, none⟩ : Addr).add j) = some u from cell_five_new W _ _ _ _ _ _)
  have HMX := Lib.hid (show zs.length + 1 ≤ maxLen ∧ (zs.length + 1) * 48 ≤ 140737488355328 by unfold maxLen; exact ⟨by omega, by omega⟩)
  have HBS := Lib.hid (show base ≤ ((W.alloc (.cells #[.string p, .int .i64 fk, .int .i64 fv, .int .i64 tk, .int .i64 tv] 45)).drew).heap.size by show base ≤ (W.alloc _).heap.size; rw [World.size_alloc]; omega)
  have HBX := Lib.hid (show Boxed ((W.alloc (.cells #[.string p, .int .i64 fk, .int .i64 fv, .int .i64 tk, .int .i64 tv] 45)).drew) B 43 v from h.box.alloc _)
  have HNE := Lib.hid h.far
  have hbxA : (W.alloc (.cells #[.string p, .int .i64 fk, .int .i64 fv, .int .i64 tk, .int .i64 tv] 45)).cell? ⟨B, 0, none⟩ = some v := (h.box.alloc _).cell
  clear hl hBl h hle
  have ta := fun W => ta_cmd p fk fv tk tv W
  go_enter Tryz.func118, Tryz.ntmps118
  go_region_law (rw [if_pos (by rfl)]; refine wp_append_own _ _ _ 43 rfl base 45 i0 (.agg #[.string ⟨#[]⟩, .int .i64 0, .int .i64 0, .int .i64 0, .int .i64 0]) 5 48 Tryz.underlying43 hi hz0 hz1 hz2 rfl (by decide) _ _ _ rfl HROW.out ⟨W.heap.size, 0, none⟩ 1 1 [.string p, .int .i64 fk, .int .i64 fv, .int .i64 tk, .int .i64 tv] rfl rfl HCEL.out (by simp [Value.oneCell']) HMX.out.1 HMX.out.2 HBS.out ?_; intro v4 w4 ho4 hg4 hn4; obtain ⟨g4, c4, rfl⟩ := ownsRow_succ ho4; have hbx4 := (HBX.out.kept hg4 HNE.out).cell; have hbf4 := (HBX.out.kept hg4 HNE.out).frozen)
  all_goals
    exact pushM_end (c := ⟨p, fk, fv, tk, tv⟩) _ rfl _ HH.out hg4 ho4

/-- What is left when the last command has been taken. -/
def PopM (B base g n cap : Nat) (zs : List Cmd) (W : World) (e : Ending) (w' : World) : Prop :=
  e = .returned (.iface 45 (cmdV (atK zs n))) ∧ HpAt w' B base (.slice (some ⟨g, 0, none⟩) n cap) (zs.take n) ∧ W.grownBy w' (some B)

theorem HpAt.top {W : World} {B base n : Nat} {v : Value} {zs : List Cmd} (h : HpAt W B base v zs) (hn : zs.length = n + 1) : ∃ g cap, v = .slice (some ⟨g, 0, none⟩) (n + 1) cap ∧ n + 1 ≤ cap ∧ cap ≤ maxLen ∧ base ≤ g ∧ g < W.heap.size := by
  have hr := h.row
  rw [hn] at hr
  rcases hr.2 with ⟨_, h0⟩ | ⟨g, cap, cur, rfl, h1, h2, h3, h4, _⟩
  · omega
  · exact ⟨g, cap, rfl, h3, h4, h1, (Array.getElem?_eq_some_iff.1 h2).1⟩

theorem popM_end {B base g n cap : Nat} {zs : List Cmd} {W : World} {o : Obj} (hn : zs.length = n + 1) (h : HpAt W B base (.slice (some ⟨g, 0, none⟩) (n + 1) cap) zs) :
    HpAt ((W.setCell ⟨B, 0, none⟩ (.slice (some ⟨g, 0, none⟩) n cap)).alloc o) B base (.slice (some ⟨g, 0, none⟩) n cap) (zs.take n) ∧ W.grownBy ((W.setCell ⟨B, 0, none⟩ (.slice (some ⟨g, 0, none⟩) n cap)).alloc o) (some B) := by
  have hr := h.row
  rw [hn] at hr
  refine ⟨⟨(h.box.set _).alloc _, ?_, h.lt⟩, grown_then (grownBy_setCell_at W B 0 _) (World.grownBy_alloc _ _ none) (by simp)⟩
  have h1 := own_take5 hr hn.symm n (by omega)
  exact own_below (ownsRow_setCell_below h1 (a := ⟨B, 0, none⟩) (show B < base from h.lt) _) (below_box _ o)

set_option maxHeartbeats 1000000 in
set_option maxRecDepth 100000 in
theorem heapPopM_c (B base g n cap : Nat) (zs : List Cmd) (hn : zs.length = n + 1) (hl : n ≤ 2000000) (hc : n + 1 ≤ cap) (hcm : cap ≤ maxLen) (W : World) (h : HpAt W B base (.slice (some ⟨g, 0, none⟩) (n + 1) cap) zs) :
    Calls Tryz.prog 117 #[.pointer (some ⟨B, 0, none⟩)] W (PopM B base g n cap zs W) := by
  have HH := Lib.hid h
  have HN := Lib.hid hn
  have hr := h.row
  rw [hn] at hr
  obtain ⟨c0, c1, c2, c3, c4⟩ := hp_cells hr (i := n) (by omega) hn.symm
  obtain ⟨x, hx⟩ : ∃ x, atK zs n = x := ⟨_, rfl⟩
  have HX := Lib.hid hx
  rw [hx] at c0 c1 c2 c3 c4
  have b0 := h.box.cell
  have f0 := h.box.frozen
  have hBl := h.box.lt
  have hgl := World.block_lt_of_cell? W _ c0
  have hgB : g ≠ B := fun e => h.far (by rw [e]; rfl)
  have k1 : (n : Int) + 1 ≤ cap := by omega
  have hcm' : cap ≤ 9223372036854775807 := Nat.le_trans hcm (by unfold maxLen; omega)
  obtain ⟨p, fk, fv, tk, tv⟩ := x
  simp only at c0 c1 c2 c3 c4
  clear h hn hr hx hc hcm
  go_enter Tryz.func117, Tryz.ntmps117
  go_wp2
  go_ret
  exact ⟨by rw [HX.out]; rfl, popM_end HN.out HH.out⟩

end Go.Proofs.YtmlnakkfjecibaaGreatDoor

/-
  WALKS: container/heap over the program's heap of commands: up, down, Push, Pop; takeAll.
-/
namespace Go.Proofs.YtmlnakkfjecibaaGreatDoor
open Go.RowKit
set_option linter.unusedVariables false

theorem wrapNil_some (a : Array TypeId) (t : TypeId) (x : Addr) (s m : String) : Builtin.ssaWrapNilChk_ a t #[.pointer (some x), strVal s, strVal m] = pure (.pointer (some x)) := rfl

/-- A method of a type, by its name, that takes the value behind the pointer. -/
theorem method_behind {P : Program} {T t : TypeId} {k : Nat} (hk : k ≠ 0) {name : String} {f : FuncId} (B : Nat) (v : Value) (W : World) (hi : (P.info? T).map (fun i => (i.methods.find? (·.name == name)).map (fun m => (m.path, m.func))) = some (some (#[], some (f, false))))
    (hu : P.underlying T = some (.pointer t)) (ha : ∀ w, (isAgg t).run P w = .ok false w) (hc : W.cell? ⟨B, 0, none⟩ = some v) : (method k T (.pointer (some ⟨B, 0, none⟩)) name).run P W = .ok (f, v) W := by
  obtain ⟨n, rfl⟩ := Nat.exists_eq_succ_of_ne_zero hk
  cases hI : P.info? T with
  | none => rw [hI] at hi; cases hi
  | some i =>
    rw [hI] at hi
    cases hm : i.methods.find? (·.name == name) with
    | none => simp only [Option.map_some, hm] at hi; cases hi
    | some m =>
      simp only [Option.map_some, hm, Option.some.injEq, Prod.mk.injEq] at hi
      obtain ⟨hp, hf⟩ := hi
      unfold method
      simp [typeInfo, hI, hm, hp, hf, follow, receiverAt, run_underlying hu, Place.get, wrapNil_some, loadVar, ha, hc, go_sem, asAddr, Result.andThen]

theorem method_Push (B : Nat) (W : World) : (method 296 47 (.pointer (some ⟨B, 0, none⟩)) "Push").run Tryz.prog W = .ok (118, .pointer (some ⟨B, 0, none⟩)) W := by kernel_rfl
theorem method_Pop (B : Nat) (W : World) : (method 296 47 (.pointer (some ⟨B, 0, none⟩)) "Pop").run Tryz.prog W = .ok (117, .pointer (some ⟨B, 0, none⟩)) W := by kernel_rfl

theorem heap_plain (w : World) : (isAgg 43).run Tryz.prog w = .ok false w := by kernel_rfl

theorem method_Len (B : Nat) (W : World) (v : Value) (h : W.cell? ⟨B, 0, none⟩ = some v) : (method 296 47 (.pointer (some ⟨B, 0, none⟩)) "Len").run Tryz.prog W = .ok (34, v) W :=
  method_behind (by decide) B v W (by kernel_rfl) Tryz.underlying47 heap_plain h
theorem method_Less (B : Nat) (W : World) (v : Value) (h : W.cell? ⟨B, 0, none⟩ = some v) : (method 296 47 (.pointer (some ⟨B, 0, none⟩)) "Less").run Tryz.prog W = .ok (114, v) W :=
  method_behind (by decide) B v W (by kernel_rfl) Tryz.underlying47 heap_plain h
theorem method_Swap (B : Nat) (W : World) (v : Value) (h : W.cell? ⟨B, 0, none⟩ = some v) : (method 296 47 (.pointer (some ⟨B, 0, none⟩)) "Swap").run Tryz.prog W = .ok (115, v) W :=
  method_behind (by decide) B v W (by kernel_rfl) Tryz.underlying47 heap_plain h

theorem no_results {P : Program} (fn : Func) (hf : fn.results = #[]) (tmps : Array Value) (w : World) : (results fn tmps).run P w = .ok (.tuple #[]) w := by simp [results, hf, go_sem]

/-- What going up or down leaves: the same commands, a heap; nothing but the row's block is turned. -/
def HeapPost (B base g n m cap : Nat) (zs : List Cmd) (fix : List Cmd → Prop) (W : World) (w' : World) : Prop :=
  ∃ ys, ys.Perm zs ∧ HeapK ys m ∧ fix ys ∧ HpAt w' B base (.slice (some ⟨g, 0, none⟩) n cap) ys ∧ W.grownBy w' (some g)

def UpRel (B base g n cap : Nat) (zs : List Cmd) (W : World) (vj : Value) (wr : World) : Prop :=
  ∃ (j : Nat) (ys : List Cmd), vj = .int .i64 j ∧ j < n ∧ Hid (ys.Perm zs) ∧ Hid (UpK ys n j) ∧ Hid (HpAt wr B base (.slice (some ⟨g, 0, none⟩) n cap) ys) ∧ Hid (W.grownBy wr (some g))

theorem HpAt.swapped {W w' : World} {B base g n cap : Nat} {zs : List Cmd} {i j : Nat} {e : Ending} (h : HpAt W B base (.slice (some ⟨g, 0, none⟩) n cap) zs) (hn : n = zs.length) (hs : SwapPost base g n cap zs i j W e w') :
    HpAt w' B base (.slice (some ⟨g, 0, none⟩) n cap) (swapK zs i j) :=
  ⟨h.box.kept hs.2.2 (by have := h.far; simpa [Value.ownBlock] using this), by rw [swapK_length, ← hn]; exact hs.2.1, h.lt⟩

set_option maxHeartbeats 1000000 in
set_option maxRecDepth 100000 in
theorem heapUp_c (B base g n cap : Nat) (zs : List Cmd) (j : Nat) (hn : n = zs.length) (hj : j < n) (hl : n ≤ 2000000) (W : World) (h : HpAt W B base (.slice (some ⟨g, 0, none⟩) n cap) zs) (hu : UpK zs n j) :
    Calls Tryz.prog 33 #[.iface 47 (.pointer (some ⟨B, 0, none⟩)), .int .i64 j] W (fun e w' => e = .returned (.tuple #[]) ∧ HeapPost B base g n n cap zs (fun _ => True) W w') := by
  have HH := Lib.hid h
  have HU := Lib.hid hu
  have HN := Lib.hid hn
  clear h hu hn
  go_enter Tryz.func33, Tryz.ntmps33
  go_wp2
  go_loopw [1] (fun vj wr => UpRel B base g n cap zs W vj wr) (fun vj _ => (intOf vj).toNat)
  case atStart => exact ⟨j, zs, rfl, hj, List.Perm.refl _, HU, HH, ⟨rfl, rfl, rfl, Nat.le_refl _, fun _ _ _ => rfl⟩⟩
  case round =>
    clear hj
    obtain ⟨j, ys, rfl, hj, HP, HU, HA, HG⟩ := hrel
    have HNY := Lib.hid (show n = ys.length by rw [HN.out]; exact HP.out.length_eq.symm)
    cases j with
    | zero =>
      clear hj
      go_wp2
      exact bodyPost_end (v := .tuple #[]) (no_results _ rfl _ _) rfl ⟨rfl, ys, HP.out, up_end0 HU.out, trivial, HA.out, HG.out⟩
    | succ m =>
      obtain ⟨i, hi⟩ : ∃ i, m / 2 = i := ⟨_, rfl⟩
      have HI := Lib.hid (show (m + 1 - 1) / 2 = i from hi)
      have HIM := Lib.hid (show i < m + 1 ∧ i < n ∧ m + 1 < n from ⟨by omega, by omega, hj⟩)
      have hq : (m : Int).tdiv 2 = (i : Int) := by rw [Int.tdiv_eq_ediv_of_nonneg (by omega)]; omega
      have hne : ((i : Int) == (m : Int) + 1) = false := beq_eq_false_iff_ne.2 (by omega)
      have hm0 : (0 : Int) ≤ m := by omega
      have hml : (m : Int) < 2000000 := by omega
      have him : (i : Int) < 2000000 := by omega
      obtain ⟨bv, hbv⟩ : ∃ bv, befC (atK ys (m + 1)) (atK ys i) = bv := ⟨_, rfl⟩
      have HL := Lib.hid (show Calls Tryz.prog 114 #[.slice (some ⟨g, 0, none⟩) n cap, .int .i64 ((m : Int) + 1), .int .i64 i] wr (BoolPost bv wr) by
        have := heapLess_c (some ⟨g, 0, none⟩) n cap ys (m + 1) i hj (by omega) (by omega) wr (by have := HA.out.row; rw [← HNY.out] at this; have := cmds_own (by rw [← HNY.out]; exact this); rw [← HNY.out] at this; exact this)
        rw [hbv] at this
        exact this)
      have HBV := Lib.hid hbv
      have mL := method_Less B wr _ HA.out.box.cell
      clear hi hbv hj
      go_wp2_with fail
      refine HL.out.mono ?_
      rintro e W2 ⟨rfl, hb2⟩
      have HA2 := Lib.hid (HA.out.keep hb2)
      have HG2 := Lib.hid (grown_then HG.out (below_grown hb2) (by simp))
      clear mL hb2
      cases bv with
      | false =>
        go_wp2
        exact bodyPost_end (v := .tuple #[]) (no_results _ rfl _ _) rfl ⟨rfl, ys, HP.out, up_end HU.out (by rw [HI.out]; exact HBV.out), trivial, HA2.out, HG2.out⟩
      | true =>
        have mS := method_Swap B W2 _ HA2.out.box.cell
        have HSW := Lib.hid (show Calls Tryz.prog 115 #[.slice (some ⟨g, 0, none⟩) n cap, .int .i64 i, .int .i64 ((m : Int) + 1)] W2 (SwapPost base g n cap ys i (m + 1) W2) from
          heapSwap_c base g n cap ys i (m + 1) HNY.out HIM.out.2.1 HIM.out.2.2 (by omega) W2 (by have := HA2.out.row; rw [← HNY.out] at this; exact this))
        go_wp2_with fail
        refine HSW.out.mono ?_
        rintro e W3 hs3
        obtain rfl := hs3.1
        have HA3 := Lib.hid (HA2.out.swapped HNY.out hs3)
        have HG3 := Lib.hid (grown_then HG2.out hs3.2.2 (fun k e => .inr e))
        have HP3 := Lib.hid ((swapK_perm (by have := HIM.out.2.1; have := HNY.out; omega) (by have := HIM.out.2.2; have := HNY.out; omega)).trans HP.out : (swapK ys i (m + 1)).Perm zs)
        have HU3 : Hid (UpK (swapK ys i (m + 1)) n i) := by
          have h1 := HU.out
          rw [HNY.out] at h1
          have h2 := up_go (by omega) (by rw [← HNY.out]; exact HIM.out.2.2) h1 (by rw [HI.out]; exact HBV.out)
          rw [HI.out, ← HNY.out] at h2
          exact h2
        clear mS hs3
        go_wp2
        go_roundw
        case rel => exact ⟨i, swapK ys i (m + 1), rfl, HIM.out.2.1, HP3, HU3, HA3, HG3⟩
        case measure => have := HIM.out.1; simp [intOf]; omega

theorem HpAt.at {W : World} {B base g n cap : Nat} {zs : List Cmd} (h : HpAt W B base (.slice (some ⟨g, 0, none⟩) n cap) zs) (hn : n = zs.length) : CmdsAt W (some ⟨g, 0, none⟩) n zs := by
  have h1 := h.row
  rw [hn] at h1 ⊢
  exact cmds_own h1

def DownRel (B base g m n cap : Nat) (zs : List Cmd) (W : World) (vi : Value) (wr : World) : Prop :=
  ∃ (i : Nat) (ys : List Cmd), vi = .int .i64 i ∧ i ≤ n ∧ Hid (ys.Perm zs) ∧ Hid (DownK ys n i) ∧ Hid (∀ k, n ≤ k → atK ys k = atK zs k) ∧ Hid (HpAt wr B base (.slice (some ⟨g, 0, none⟩) m cap) ys) ∧ Hid (W.grownBy wr (some g))

set_option maxHeartbeats 1000000 in
set_option maxRecDepth 100000 in
theorem heapDown_c (B base g m n cap : Nat) (zs : List Cmd) (hm : m = zs.length) (hn : n ≤ m) (hl : m ≤ 2000000) (W : World) (h : HpAt W B base (.slice (some ⟨g, 0, none⟩) m cap) zs) (hd : DownK zs n 0) :
    Calls Tryz.prog 60 #[.iface 47 (.pointer (some ⟨B, 0, none⟩)), .int .i64 0, .int .i64 n] W (fun e w' => (∃ b, e = .returned (.bool b)) ∧ HeapPost B base g m n cap zs (fun ys => ∀ k, n ≤ k → atK ys k = atK zs k) W w') := by
  have HH := Lib.hid h
  have HD := Lib.hid hd
  have HN := Lib.hid hm
  clear h hd hm
  go_enter Tryz.func60, Tryz.ntmps60
  go_wp2
  go_loopw [7] (fun vi wr => DownRel B base g m n cap zs W vi wr) (fun vi _ => n - (intOf vi).toNat)
  case atStart => exact ⟨0, zs, rfl, Nat.zero_le _, List.Perm.refl _, HD, fun _ _ => rfl, HH, ⟨rfl, rfl, rfl, Nat.le_refl _, fun _ _ _ => rfl⟩⟩
  case round =>
    obtain ⟨i, ys, rfl, hin, HP, HD, HF, HA, HG⟩ := hrel
    have HNY := Lib.hid (show m = ys.length by rw [HN.out]; exact HP.out.length_eq.symm)
    have hi0 : (0 : Int) ≤ i := by omega
    have hil : (i : Int) ≤ 2000000 := by omega
    by_cases h0 : n ≤ 2 * i + 1
    · have h0z : (n : Int) ≤ 2 * (i : Int) + 1 := by omega
      go_wp2
      go_ret
      exact ⟨⟨_, rfl⟩, ys, HP.out, down_end HD.out (fun k k0 kn kp => absurd kn (by omega)), HF.out, HA.out, HG.out⟩
    · have h0z : ¬ ((n : Int) ≤ 2 * (i : Int) + 1) := by omega
      have h00 : ¬ (2 * (i : Int) + 1 < 0) := by omega
      by_cases h1 : 2 * i + 2 < n
      · have h1z : 2 * (i : Int) + 1 + 1 < (n : Int) := by omega
        obtain ⟨b1, hb1v⟩ : ∃ b, befC (atK ys (2 * i + 2)) (atK ys (2 * i + 1)) = b := ⟨_, rfl⟩
        have HB1 := Lib.hid hb1v
        have HL1 := Lib.hid (show Calls Tryz.prog 114 #[.slice (some ⟨g, 0, none⟩) m cap, .int .i64 (2 * (i : Int) + 1 + 1), .int .i64 (2 * (i : Int) + 1)] wr (BoolPost b1 wr) by
          have := heapLess_c (some ⟨g, 0, none⟩) m cap ys (2 * i + 2) (2 * i + 1) (by omega) (by omega) (by omega) wr (HA.out.at HNY.out)
          rw [hb1v, show ((2 * i + 2 : Nat) : Int) = 2 * (i : Int) + 1 + 1 by omega, show ((2 * i + 1 : Nat) : Int) = 2 * (i : Int) + 1 by omega] at this
          exact this)
        clear hb1v
        have mL1 := method_Less B wr _ HA.out.box.cell
        go_wp2_with fail
        refine HL1.out.mono ?_
        rintro e W3 ⟨rfl, hb3⟩
        have HA3 := Lib.hid (HA.out.keep hb3)
        have HG3 := Lib.hid (grown_then HG.out (below_grown hb3) (by simp))
        clear mL1 hb3
        cases b1 with
        | true =>
          obtain ⟨b2, hb2v⟩ : ∃ b, befC (atK ys (2 * i + 2)) (atK ys i) = b := ⟨_, rfl⟩
          have HB2 := Lib.hid hb2v
          have HMIN : Hid (∀ k, 0 < k → k < n → (k - 1) / 2 = i → befC (atK ys k) (atK ys (2 * i + 2)) = false) := by
            intro k k0 kn kp
            rcases (show k = 2 * i + 1 ∨ k = 2 * i + 2 by omega) with rfl | rfl
            · exact nbef_of_bef HB1.out
            · exact bef_irrefl _
          have HL2 := Lib.hid (show Calls Tryz.prog 114 #[.slice (some ⟨g, 0, none⟩) m cap, .int .i64 (2 * (i : Int) + 1 + 1), .int .i64 i] W3 (BoolPost b2 W3) by
            have := heapLess_c (some ⟨g, 0, none⟩) m cap ys (2 * i + 2) i (by omega) (by omega) (by omega) W3 (HA3.out.at HNY.out)
            rw [hb2v, show (((2 * i + 2 : Nat)) : Int) = 2 * (i : Int) + 1 + 1 by omega] at this
            exact this)
          clear hb2v
          have mL2 := method_Less B W3 _ HA3.out.box.cell
          go_wp2_with fail
          refine HL2.out.mono ?_
          rintro e W4 ⟨rfl, hb4⟩
          have HA4 := Lib.hid (HA3.out.keep hb4)
          have HG4 := Lib.hid (grown_then HG3.out (below_grown hb4) (by simp))
          clear mL2 hb4
          cases b2 with
          | false =>
            go_wp2
            go_ret
            exact ⟨⟨_, rfl⟩, ys, HP.out, down_end HD.out (fun k k0 kn kp => by
              have h1 := HMIN.out k k0 kn kp
              exact nbef_trans HB2.out h1), HF.out, HA4.out, HG4.out⟩
          | true =>
            have mS := method_Swap B W4 _ HA4.out.box.cell
            have HSW := Lib.hid (show Calls Tryz.prog 115 #[.slice (some ⟨g, 0, none⟩) m cap, .int .i64 i, .int .i64 (2 * (i : Int) + 1 + 1)] W4 (SwapPost base g m cap ys i (2 * i + 2) W4) by
              have := heapSwap_c base g m cap ys i (2 * i + 2) HNY.out (by omega) (by omega) (by omega) W4 (by have := HA4.out.row; rw [← HNY.out] at this; exact this)
              rw [show (((2 * i + 2 : Nat)) : Int) = 2 * (i : Int) + 1 + 1 by omega] at this
              exact this)
            go_wp2_with fail
            refine HSW.out.mono ?_
            rintro e W5 hs5
            obtain rfl := hs5.1
            have HA5 := Lib.hid (HA4.out.swapped HNY.out hs5)
            have HG5 := Lib.hid (grown_then HG4.out hs5.2.2 (fun k e => .inr e))
            have HP5 := Lib.hid ((swapK_perm (by have := HNY.out; omega) (by have := HNY.out; omega)).trans HP.out : (swapK ys i (2 * i + 2)).Perm zs)
            have HD5 : Hid (DownK (swapK ys i (2 * i + 2)) n (2 * i + 2)) := down_go (by have := HNY.out; omega) (by omega) (by omega) (by omega) HD.out HB2.out HMIN.out
            have HF5 : Hid (∀ k, n ≤ k → atK (swapK ys i (2 * i + 2)) k = atK zs k) := fun k hk => by
              rw [atK_swap (by have := HNY.out; omega) (by have := HNY.out; omega), if_neg (by omega), if_neg (by omega)]
              exact HF.out k hk
            have HZ := Lib.hid (show (((2 * i + 2 : Nat)) : Int) = 2 * (i : Int) + 1 + 1 by omega)
            have HJ := Lib.hid (show 2 * i + 2 < n ∧ i < 2 * i + 2 from ⟨by omega, by omega⟩)
            clear mS hs5
            go_wp2
            go_roundw
            case rel => exact ⟨2 * i + 2, swapK ys i (2 * i + 2), by rw [HZ.out], Nat.le_of_lt HJ.out.1, HP5, HD5, HF5, HA5, HG5⟩
            case measure => have h1 := HJ.out; have h2 := HZ.out; simp [intOf]; omega
        | false =>
          obtain ⟨b2, hb2v⟩ : ∃ b, befC (atK ys (2 * i + 1)) (atK ys i) = b := ⟨_, rfl⟩
          have HB2 := Lib.hid hb2v
          have HMIN : Hid (∀ k, 0 < k → k < n → (k - 1) / 2 = i → befC (atK ys k) (atK ys (2 * i + 1)) = false) := by
            intro k k0 kn kp
            rcases (show k = 2 * i + 1 ∨ k = 2 * i + 2 by omega) with rfl | rfl
            · exact bef_irrefl _
            · exact HB1.out
          have HL2 := Lib.hid (show Calls Tryz.prog 114 #[.slice (some ⟨g, 0, none⟩) m cap, .int .i64 (2 * (i : Int) + 1), .int .i64 i] W3 (BoolPost b2 W3) by
            have := heapLess_c (some ⟨g, 0, none⟩) m cap ys (2 * i + 1) i (by omega) (by omega) (by omega) W3 (HA3.out.at HNY.out)
            rw [hb2v, show (((2 * i + 1 : Nat)) : Int) = 2 * (i : Int) + 1 by omega] at this
            exact this)
          clear hb2v
          have mL2 := method_Less B W3 _ HA3.out.box.cell
          go_wp2_with fail
          refine HL2.out.mono ?_
          rintro e W4 ⟨rfl, hb4⟩
          have HA4 := Lib.hid (HA3.out.keep hb4)
          have HG4 := Lib.hid (grown_then HG3.out (below_grown hb4) (by simp))
          clear mL2 hb4
          cases b2 with
          | false =>
            go_wp2
            go_ret
            exact ⟨⟨_, rfl⟩, ys, HP.out, down_end HD.out (fun k k0 kn kp => by
              have h1 := HMIN.out k k0 kn kp
              exact nbef_trans HB2.out h1), HF.out, HA4.out, HG4.out⟩
          | true =>
            have mS := method_Swap B W4 _ HA4.out.box.cell
            have HSW := Lib.hid (show Calls Tryz.prog 115 #[.slice (some ⟨g, 0, none⟩) m cap, .int .i64 i, .int .i64 (2 * (i : Int) + 1)] W4 (SwapPost base g m cap ys i (2 * i + 1) W4) by
              have := heapSwap_c base g m cap ys i (2 * i + 1) HNY.out (by omega) (by omega) (by omega) W4 (by have := HA4.out.row; rw [← HNY.out] at this; exact this)
              rw [show (((2 * i + 1 : Nat)) : Int) = 2 * (i : Int) + 1 by omega] at this
              exact this)
            go_wp2_with fail
            refine HSW.out.mono ?_
            rintro e W5 hs5
            obtain rfl := hs5.1
            have HA5 := Lib.hid (HA4.out.swapped HNY.out hs5)
            have HG5 := Lib.hid (grown_then HG4.out hs5.2.2 (fun k e => .inr e))
            have HP5 := Lib.hid ((swapK_perm (by have := HNY.out; omega) (by have := HNY.out; omega)).trans HP.out : (swapK ys i (2 * i + 1)).Perm zs)
            have HD5 : Hid (DownK (swapK ys i (2 * i + 1)) n (2 * i + 1)) := down_go (by have := HNY.out; omega) (by omega) (by omega) (by omega) HD.out HB2.out HMIN.out
            have HF5 : Hid (∀ k, n ≤ k → atK (swapK ys i (2 * i + 1)) k = atK zs k) := fun k hk => by
              rw [atK_swap (by have := HNY.out; omega) (by have := HNY.out; omega), if_neg (by omega), if_neg (by omega)]
              exact HF.out k hk
            have HZ := Lib.hid (show (((2 * i + 1 : Nat)) : Int) = 2 * (i : Int) + 1 by omega)
            have HJ := Lib.hid (show 2 * i + 1 < n ∧ i < 2 * i + 1 from ⟨by omega, by omega⟩)
            clear mS hs5
            go_wp2
            go_roundw
            case rel => exact ⟨2 * i + 1, swapK ys i (2 * i + 1), by rw [HZ.out], Nat.le_of_lt HJ.out.1, HP5, HD5, HF5, HA5, HG5⟩
            case measure => have h1 := HJ.out; have h2 := HZ.out; simp [intOf]; omega
      · have h1z : ¬ (2 * (i : Int) + 1 + 1 < (n : Int)) := by omega
        obtain ⟨b2, hb2v⟩ : ∃ b, befC (atK ys (2 * i + 1)) (atK ys i) = b := ⟨_, rfl⟩
        have HB2 := Lib.hid hb2v
        have HMIN : Hid (∀ k, 0 < k → k < n → (k - 1) / 2 = i → befC (atK ys k) (atK ys (2 * i + 1)) = false) := by
          intro k k0 kn kp
          rcases (show k = 2 * i + 1 by omega) with rfl
          exact bef_irrefl _
        have HL2 := Lib.hid (show Calls Tryz.prog 114 #[.slice (some ⟨g, 0, none⟩) m cap, .int .i64 (2 * (i : Int) + 1), .int .i64 i] wr (BoolPost b2 wr) by
          have := heapLess_c (some ⟨g, 0, none⟩) m cap ys (2 * i + 1) i (by omega) (by omega) (by omega) wr (HA.out.at HNY.out)
          rw [hb2v, show (((2 * i + 1 : Nat)) : Int) = 2 * (i : Int) + 1 by omega] at this
          exact this)
        clear hb2v
        have mL2 := method_Less B wr _ HA.out.box.cell
        go_wp2_with fail
        refine HL2.out.mono ?_
        rintro e W4 ⟨rfl, hb4⟩
        have HA4 := Lib.hid (HA.out.keep hb4)
        have HG4 := Lib.hid (grown_then HG.out (below_grown hb4) (by simp))
        clear mL2 hb4
        cases b2 with
        | false =>
          go_wp2
          go_ret
          exact ⟨⟨_, rfl⟩, ys, HP.out, down_end HD.out (fun k k0 kn kp => by
            have h1 := HMIN.out k k0 kn kp
            exact nbef_trans HB2.out h1), HF.out, HA4.out, HG4.out⟩
        | true =>
          have mS := method_Swap B W4 _ HA4.out.box.cell
          have HSW := Lib.hid (show Calls Tryz.prog 115 #[.slice (some ⟨g, 0, none⟩) m cap, .int .i64 i, .int .i64 (2 * (i : Int) + 1)] W4 (SwapPost base g m cap ys i (2 * i + 1) W4) by
            have := heapSwap_c base g m cap ys i (2 * i + 1) HNY.out (by omega) (by omega) (by omega) W4 (by have := HA4.out.row; rw [← HNY.out] at this; exact this)
            rw [show (((2 * i + 1 : Nat)) : Int) = 2 * (i : Int) + 1 by omega] at this
            exact this)
          go_wp2_with fail
          refine HSW.out.mono ?_
          rintro e W5 hs5
          obtain rfl := hs5.1
          have HA5 := Lib.hid (HA4.out.swapped HNY.out hs5)
          have HG5 := Lib.hid (grown_then HG4.out hs5.2.2 (fun k e => .inr e))
          have HP5 := Lib.hid ((swapK_perm (by have := HNY.out; omega) (by have := HNY.out; omega)).trans HP.out : (swapK ys i (2 * i + 1)).Perm zs)
          have HD5 : Hid (DownK (swapK ys i (2 * i + 1)) n (2 * i + 1)) := down_go (by have := HNY.out; omega) (by omega) (by omega) (by omega) HD.out HB2.out HMIN.out
          have HF5 : Hid (∀ k, n ≤ k → atK (swapK ys i (2 * i + 1)) k = atK zs k) := fun k hk => by
            rw [atK_swap (by have := HNY.out; omega) (by have := HNY.out; omega), if_neg (by omega), if_neg (by omega)]
            exact HF.out k hk
          have HZ := Lib.hid (show (((2 * i + 1 : Nat)) : Int) = 2 * (i : Int) + 1 by omega)
          have HJ := Lib.hid (show 2 * i + 1 < n ∧ i < 2 * i + 1 from ⟨by omega, by omega⟩)
          clear mS hs5
          go_wp2
          go_roundw
          case rel => exact ⟨2 * i + 1, swapK ys i (2 * i + 1), by rw [HZ.out], Nat.le_of_lt HJ.out.1, HP5, HD5, HF5, HA5, HG5⟩
          case measure => have h1 := HJ.out; have h2 := HZ.out; simp [intOf]; omega

end Go.Proofs.YtmlnakkfjecibaaGreatDoor

/-
  WALKS: container/heap.Push and Pop over the program's heap of commands; takeAll.
-/
namespace Go.Proofs.YtmlnakkfjecibaaGreatDoor
open Go.RowKit
set_option linter.unusedVariables false

/-- What heap.Push leaves. -/
def PushPost (B base : Nat) (zs : List Cmd) (c : Cmd) (W : World) (e : Ending) (w' : World) : Prop :=
  e = .returned (.tuple #[]) ∧ ∃ v' ys, HpAt w' B base v' ys ∧ ys.Perm (zs ++ [c]) ∧ HeapK ys ys.length ∧ Below B W w' ∧ KeptM W w'

set_option maxHeartbeats 1000000 in
set_option maxRecDepth 100000 in
theorem heapPush_c (B base : Nat) (v : Value) (zs : List Cmd) (c : Cmd) (hl : zs.length ≤ 1000000) (W : World) (hle : base ≤ W.heap.size) (h : HpAt W B base v zs) (hk : HeapK zs zs.length) :
    Calls Tryz.prog 16 #[.iface 47 (.pointer (some ⟨B, 0, none⟩)), .iface 45 (cmdV c)] W (PushPost B base zs c W) := by
  have HP := Lib.hid (heapPushM_c B base v zs c (by omega) W hle h)
  have HK := Lib.hid hk
  have mP := method_Push B W
  clear h hk hle
  go_enter Tryz.func16, Tryz.ntmps16
  go_wp2_with fail
  refine HP.out.mono ?_
  rintro e W1 ⟨rfl, v1, hA, hB, hM⟩
  have hnl : (zs ++ [c]).length = zs.length + 1 := by simp
  obtain ⟨g, cap, rfl, h1, h2, h3, h4⟩ := hA.top hnl
  have HA := Lib.hid hA
  have HB := Lib.hid hB
  have HM := Lib.hid hM
  have mL := method_Len B W1 _ hA.box.cell
  have HL := Lib.hid (heapLen_c (some ⟨g, 0, none⟩) (zs.length + 1) cap W1)
  have HU := Lib.hid (show Calls Tryz.prog 33 #[.iface 47 (.pointer (some ⟨B, 0, none⟩)), .int .i64 zs.length] W1 (fun e w' => e = .returned (.tuple #[]) ∧ HeapPost B base g (zs.length + 1) (zs.length + 1) cap (zs ++ [c]) (fun _ => True) W1 w') from
    heapUp_c B base g (zs.length + 1) cap (zs ++ [c]) zs.length hnl.symm (by omega) (by omega) W1 hA (by have := up_start c HK.out; rw [hnl] at this; exact this))
  clear hA hB hM mP h1 h2 h4
  go_wp2_with fail
  refine HL.out.mono ?_
  rintro e W2 ⟨rfl, rfl⟩
  clear mL
  go_wp2_with fail
  refine HU.out.mono ?_
  rintro e W3 ⟨rfl, ys, hp, hh, -, hA3, hG⟩
  go_wp2
  have HL3 : ys.length = zs.length + 1 := by rw [hp.length_eq, hnl]
  refine bodyPost_end (v := .tuple #[]) (no_results _ rfl _ _) rfl ⟨rfl, _, ys, hA3, hp, by rw [HL3]; exact hh, ?_, ?_⟩
  · have := HA.out.lt
    exact HB.out.grown hG (by have := HB.out.size; have := HA.out.box.lt; omega) (fun k e => by cases e; omega)
  · exact HM.out.trans (KeptM.grown hG (fun r o e ho => row_cells HA.out.row r o e ho))

/-- Nothing but two blocks is turned. -/
structure Turn2 (W W' : World) (B g : Nat) : Prop where
  os : W'.os = W.os
  tape : W'.tape = W.tape
  output : W'.output = W.output
  size : W.heap.size ≤ W'.heap.size
  block : ∀ i, i < W.heap.size → i ≠ B → i ≠ g → W'.heap[i]? = W.heap[i]?

theorem Turn2.of {W W' : World} {row : Option Nat} (h : W.grownBy W' row) {B g : Nat} (hr : ∀ r, row = some r → r = B ∨ r = g) : Turn2 W W' B g :=
  ⟨h.os, h.tape, h.output, h.size, fun i hi hB hg => h.block i hi (fun e => (hr i e.symm).elim hB hg)⟩

theorem Turn2.trans {X Y Z : World} {B g : Nat} (h : Turn2 X Y B g) (k : Turn2 Y Z B g) : Turn2 X Z B g :=
  ⟨k.os.trans h.os, k.tape.trans h.tape, k.output.trans h.output, Nat.le_trans h.size k.size, fun i hi hB hg => (k.block i (Nat.lt_of_lt_of_le hi h.size) hB hg).trans (h.block i hi hB hg)⟩

/-- What heap.Pop leaves. -/
def PopPost (B base g n cap : Nat) (zs : List Cmd) (W : World) (e : Ending) (w' : World) : Prop :=
  e = .returned (.iface 45 (cmdV (atK zs 0))) ∧ ∃ ys, HpAt w' B base (.slice (some ⟨g, 0, none⟩) n cap) ys ∧ HeapK ys ys.length ∧ (ys ++ [atK zs 0]).Perm zs ∧ (∀ y ∈ zs, befC y (atK zs 0) = false) ∧ Turn2 W w' B g

set_option maxHeartbeats 1000000 in
set_option maxRecDepth 100000 in
theorem heapPop_c (B base g n cap : Nat) (zs : List Cmd) (hn : zs.length = n + 1) (hl : n ≤ 1000000) (hc : n + 1 ≤ cap) (hcm : cap ≤ maxLen) (W : World) (h : HpAt W B base (.slice (some ⟨g, 0, none⟩) (n + 1) cap) zs) (hk : HeapK zs zs.length) :
    Calls Tryz.prog 35 #[.iface 47 (.pointer (some ⟨B, 0, none⟩))] W (PopPost B base g n cap zs W) := by
  have HH := Lib.hid h
  have HK := Lib.hid hk
  have HN := Lib.hid hn
  have HC := Lib.hid (And.intro hc hcm)
  have mL := method_Len B W _ h.box.cell
  have HL := Lib.hid (heapLen_c (some ⟨g, 0, none⟩) (n + 1) cap W)
  clear h hk hn hc hcm
  go_enter Tryz.func35, Tryz.ntmps35
  go_wp2_with fail
  refine HL.out.mono ?_
  rintro e W1 ⟨rfl, rfl⟩
  clear mL HL
  have mS := method_Swap B W1 _ HH.out.box.cell
  have HS := Lib.hid (show Calls Tryz.prog 115 #[.slice (some ⟨g, 0, none⟩) (n + 1) cap, .int .i64 0, .int .i64 n] W1 (SwapPost base g (n + 1) cap zs 0 n W1) from
    heapSwap_c base g (n + 1) cap zs 0 n HN.out.symm (by omega) (by omega) (by omega) W1 (by have := HH.out.row; rw [HN.out] at this; exact this))
  go_wp2_with fail
  refine HS.out.mono ?_
  rintro e W2 hs2
  obtain rfl := hs2.1
  have HA2 := Lib.hid (HH.out.swapped HN.out.symm hs2)
  have HT2 := Lib.hid (Turn2.of hs2.2.2 (B := B) (g := g) (fun r e => .inr (by cases e; rfl)))
  clear mS hs2
  have HD := Lib.hid (heapDown_c B base g (n + 1) n cap (swapK zs 0 n) (by rw [swapK_length]; exact HN.out.symm) (by omega) (by omega) W2 HA2.out (pop_start HN.out HK.out))
  go_wp2_with fail
  refine HD.out.mono ?_
  rintro e W3 ⟨⟨bb, rfl⟩, ys, hp, hh, hf, hA3, hG3⟩
  have HT3 := Lib.hid (HT2.out.trans (Turn2.of hG3 (B := B) (g := g) (fun r e => .inr (by cases e; rfl))))
  have HF := Lib.hid (hf n (Nat.le_refl _))
  have HP := Lib.hid hp
  have HHK := Lib.hid hh
  have HA3 := Lib.hid hA3
  have HYL := Lib.hid (show ys.length = n + 1 by rw [hp.length_eq, swapK_length]; exact HN.out)
  have mP := method_Pop B W3
  have HPM := Lib.hid (heapPopM_c B base g n cap ys HYL.out (by omega) HC.out.1 HC.out.2 W3 hA3)
  clear hp hh hf hA3 hG3
  go_wp2_with fail
  refine HPM.out.mono ?_
  rintro e W4 ⟨rfl, hA4, hG4⟩
  have HLAST := Lib.hid (show atK ys n = atK zs 0 by rw [HF.out, atK_swap (by have := HN.out; omega) (by have := HN.out; omega), if_pos rfl])
  have HA4 := Lib.hid hA4
  have HG4 := Lib.hid hG4
  clear mP hA4 hG4
  rw [HLAST.out]
  go_wp2
  go_ret
  have hpop := heap_pop HN.out HK.out HP.out HLAST.out
  have htl : (ys.take n).length = n := by rw [List.length_take, HYL.out]; omega
  exact ⟨rfl, ys.take n, HA4.out, by rw [htl]; exact heap_take HHK.out, hpop.1, hpop.2, HT3.out.trans (Turn2.of HG4.out (fun r e => .inl (by cases e; rfl)))⟩

end Go.Proofs.YtmlnakkfjecibaaGreatDoor

/-
  WALKS: canonHeap.takeAll.
-/
namespace Go.Proofs.YtmlnakkfjecibaaGreatDoor
open Go.RowKit
set_option linter.unusedVariables false

theorem own_turn2 {W W' : World} {B g base : Nat} {e : TypeId} {size n : Nat} {v : Value} {xs : List Value} (h : W.ownsRow base e size v n xs) (ht : Turn2 W W' B g) (hv : ∀ k, v.ownBlock = some k → k ≠ B ∧ k ≠ g) : W'.ownsRow base e size v n xs := by
  obtain ⟨h1, h2⟩ := h
  refine ⟨h1, ?_⟩
  rcases h2 with h3 | ⟨x, cap, cur, rfl, h4, h5, h6⟩
  · exact .inl h3
  · right
    have h7 := hv x rfl
    exact ⟨x, cap, cur, rfl, h4, (ht.block x (Array.getElem?_eq_some_iff.1 h5).1 h7.1 h7.2).trans h5, h6⟩

theorem HpAt.grown {W W' : World} {B base : Nat} {v : Value} {zs : List Cmd} {row : Option Nat} (h : HpAt W B base v zs) (hg : W.grownBy W' row) (hB : row ≠ some B) (hv : ∀ k, v.ownBlock = some k → row ≠ some k) : HpAt W' B base v zs := by
  refine ⟨h.box.kept hg (fun e => hB e.symm), h.row.kept hg ?_, h.lt⟩
  rcases h.row.2 with ⟨h1, _⟩ | ⟨x, cap, cur, h1, _⟩
  · exact .inl (by rw [h1]; rfl)
  · exact .inr (fun e => by subst h1; exact hv x rfl e.symm)

/-- What takeAll leaves. -/
def TakePost (B : Nat) (zs : List Cmd) (W : World) (e : Ending) (w' : World) : Prop :=
  ∃ sl acc, e = .returned sl ∧ w'.ownsRow W.heap.size 45 5 sl acc.length (flatC acc) ∧ TakeK zs acc [] ∧ Below B W w'

def heapLenAt (W : World) (B : Nat) : Nat := match W.cell? ⟨B, 0, none⟩ with
  | some (.slice _ n _) => n
  | _ => 0

def TakeRel (B base : Nat) (zs : List Cmd) (W : World) (sl : Value) (wr : World) : Prop :=
  ∃ (acc ys : List Cmd) (a : Option Addr) (cap : Nat), wr.ownsRow W.heap.size 45 5 sl acc.length (flatC acc) ∧ Hid (HpAt wr B base (.slice a ys.length cap) ys) ∧ Hid (HeapK ys ys.length) ∧ Hid (TakeK zs acc ys) ∧ Hid (∀ k, (Value.slice a ys.length cap).ownBlock = some k → k < W.heap.size) ∧ Hid (Below B W wr)

theorem heapLenAt_of {W : World} {B base : Nat} {a : Option Addr} {n cap : Nat} {zs : List Cmd} (h : HpAt W B base (.slice a n cap) zs) : heapLenAt W B = n := by
  unfold heapLenAt
  rw [h.box.cell]

theorem take_round {B base g n cap : Nat} {zs acc ys zs' : List Cmd} {W W2 W3 w4 : World} {sl v4 : Value} {o : Obj} (hA : HpAt W2 B base (.slice (some ⟨g, 0, none⟩) (n + 1) cap) ys) (hgl : g < W.heap.size) (hB0 : B < W.heap.size)
    (ho3 : W3.ownsRow W.heap.size 45 5 sl acc.length (flatC acc)) (hA3 : HpAt W3 B base (.slice (some ⟨g, 0, none⟩) n cap) zs') (hz : zs'.length = n) (hk3 : HeapK zs' zs'.length) (hb3 : Below B W W3) (hs3 : W.heap.size ≤ W3.heap.size) {x : Cmd} (ht3 : TakeK zs (acc ++ [x]) zs')
    (hg4 : (W3.alloc o).grownBy w4 sl.ownBlock) (ho4 : w4.ownsRow W.heap.size 45 5 v4 (acc ++ [x]).length (flatC (acc ++ [x]))) : TakeRel B base zs W v4 w4 ∧ heapLenAt w4 B < heapLenAt W2 B := by
  have hlow : ∀ k, sl.ownBlock = some k → W.heap.size ≤ k := fun k e => (ho3.lt k e).1
  have hA4 : HpAt w4 B base (.slice (some ⟨g, 0, none⟩) n cap) zs' := (hA3.keep (below_box W3 o)).grown hg4 (fun e => by have := hlow B e; omega) (fun k e => fun e2 => by
    simp [Value.ownBlock] at e
    subst e
    have := hlow g e2
    omega)
  refine ⟨⟨acc ++ [x], zs', some ⟨g, 0, none⟩, cap, ho4, by rw [hz]; exact hA4, hk3, ht3, fun k e => ?_, ?_⟩, ?_⟩
  · simp [Value.ownBlock] at e
    subst e
    exact hgl
  · exact (hb3.alloc (by omega) o).grown hg4 (by rw [World.size_alloc]; omega) (fun k e => by have := hlow k e; omega)
  · rw [heapLenAt_of hA4, heapLenAt_of hA]
    omega

set_option maxHeartbeats 1000000 in
set_option maxRecDepth 100000 in
theorem takeAll_c (B base : Nat) (v : Value) (zs : List Cmd) (hl : zs.length ≤ 1000) (W : World) (hle : base ≤ W.heap.size) (h : HpAt W B base v zs) (hk : HeapK zs zs.length) :
    Calls Tryz.prog 17 #[.pointer (some ⟨B, 0, none⟩)] W (TakePost B zs W) := by
  obtain ⟨a0, cap0, rfl, -⟩ := cmds_of_own h.row
  obtain ⟨i0, hi, hz0, hz1, hz2⟩ := info_parts infoCmd
  have HH := Lib.hid h
  have HK := Lib.hid hk
  have HLE := Lib.hid (And.intro hle hl)
  have HB0 := Lib.hid (And.intro h.box.lt h.lt)
  clear h hk hle
  go_enter Tryz.func17, Tryz.ntmps17
  go_wp2
  go_loopw [3] (fun sl wr => TakeRel B base zs W sl wr) (fun _ wr => heapLenAt wr B)
  case atStart => exact ⟨[], zs, a0, cap0, World.ownsRow_nil _ _ _ _, HH, HK, take_start zs, fun k e => (HH.out.row.lt k e).2, Below.refl _ _⟩
  case round =>
    obtain ⟨acc, ys, a, cap, hown, HA, HK, HT, HLOW, HB⟩ := hrel
    have HO := Lib.hid hown
    have b0 := HA.out.box.cell
    have HLY := Lib.hid (show acc.length + ys.length = zs.length by have := HT.out.1.length_eq; rwa [List.length_append] at this)
    clear hown
    rcases List.eq_nil_or_concat ys with rfl | ⟨ys', y, hyy⟩
    · have HL := Lib.hid (heapLen_c a 0 cap wr)
      simp only [List.length_nil] at b0
      go_wp2_with fail
      refine HL.out.mono ?_
      rintro e W2 ⟨rfl, rfl⟩
      go_wp2
      go_ret
      exact ⟨_, acc, rfl, HO.out, HT.out, HB.out⟩
    · have hyl : ys.length = ys'.length + 1 := by rw [hyy]; simp
      obtain ⟨n, hn⟩ : ∃ n, ys'.length = n := ⟨_, rfl⟩
      rw [hn] at hyl
      have HN := Lib.hid hyl
      obtain ⟨g, cap', hv, h1, h2, h3, h4⟩ := HA.out.top hyl
      rw [hyl] at b0 hv HA HLOW
      injection hv with e1 e2 e3
      subst e1; subst e3
      have HGL := Lib.hid (HLOW.out g rfl)
      have HL := Lib.hid (heapLen_c (some ⟨g, 0, none⟩) (n + 1) cap wr)
      have HPOP := Lib.hid (heapPop_c B base g n cap ys hyl (by have := HLY.out; omega) h1 h2 wr HA.out HK.out)
      have hn1 : n ≤ 1000 := by have := HLY.out; omega
      clear hyy hn e2 hyl h1 h2 h3 h4
      go_wp2_with fail
      refine HL.out.mono ?_
      rintro e W2 ⟨rfl, rfl⟩
      go_wp2_with fail
      refine HPOP.out.mono ?_
      rintro e W3 ⟨rfl, zs', hA3, hK3, hp3, hm3, hT3⟩
      have HZL := Lib.hid (show zs'.length = n by have := hp3.length_eq; have h9 := HN.out; simp at this; omega)
      have HO3 := Lib.hid (own_turn2 HO.out hT3 (fun k e => by have h1 := (HO.out.lt k e).1; have h2 := HB0.out; have h3 := HGL.out; exact ⟨by omega, by omega⟩))
      have HA3 := Lib.hid hA3
      have HK3 := Lib.hid hK3
      have HT3 := Lib.hid (take_step HT.out hp3 hm3)
      have HB3 : Hid (Below B W W3) := ⟨hT3.os.trans HB.out.os, hT3.tape.trans HB.out.tape, hT3.output.trans HB.out.output, Nat.le_trans HB.out.size hT3.size, fun k hk => by
        have h1 := HB0.out
        have h2 := HB.out.size
        have h3 := HA.out.row.lt g rfl
        exact (hT3.block k (by omega) (by omega) (by omega)).trans (HB.out.block k hk)⟩
      have HS3 := Lib.hid (Nat.le_trans HB.out.size hT3.size)
      clear hA3 hK3 hp3 hm3 hT3 b0
      obtain ⟨x, hx⟩ : ∃ x, atK ys 0 = x := ⟨_, rfl⟩
      rw [hx] at HT3 ⊢
      clear hx
      obtain ⟨p, fk, fv, tk, tv⟩ := x
      have ta := fun W => ta_cmd p fk fv tk tv W
      unfold cmdV
      simp only
      go_wp2_with (at_builtin; refine wpList_append_cmds rfl _ _ rfl W.heap.size _ acc rfl (HO3.out.alloc _) _ _ _ [⟨p, fk, fv, tk, tv⟩] rfl (cmds_lit W3 ⟨p, fk, fv, tk, tv⟩) (by have := HLY.out; have := HLE.out.2; simp; omega) (by have := HS3.out; simp; omega) ?_; intro v4 w4 ho4 hg4)
      exact take_round HA.out HGL.out HB0.out.1 HO3.out HA3.out HZL.out HK3.out HB3.out HS3.out HT3.out hg4 ho4

end Go.Proofs.YtmlnakkfjecibaaGreatDoor

/-
  WALKS: impl.wholesOf: a map of commands by their paths.
-/
namespace Go.Proofs.YtmlnakkfjecibaaGreatDoor
open Go.RowKit
open Go.Maps (IsMap has)
set_option linter.unusedVariables false

theorem keyLaw : Maps.Keyed Tryz.prog 9 := Maps.string_keyed Tryz.underlying9
theorem zeroCmd (w : World) : (zeroValue 45).run Tryz.prog w = .ok (.agg #[.string ⟨#[]⟩, .int .i64 0, .int .i64 0, .int .i64 0, .int .i64 0]) w := by kernel_rfl

theorem keyOf_path {p : ByteArray} (h : p.size ≤ maxLen) : keyOf Tryz.prog 9 (.string p) = some (keyL p) := WideMaps.keyOf_string_mk Tryz.underlying9 h

/-- 'whole, more := wholes[path]'. -/
theorem wpList_lookup_cmd (w : World) {ops : Array Oper} {rest : List Oper} {o : Oper} {a : Act} {Q : Exit → Act → World → Prop} (hg : o.guard = none) (m x : Operand) (hop : o.op = Op.lookup 40 m x true) (b n : Nat) (D : DataW Unit)
    (hm : a.eval m = .map (some b)) (hown : w.ownsMap Tryz.prog 9 cmdElem b n D) (p : ByteArray) (hx : a.eval x = .string p) (hp : p.size ≤ maxLen)
    (hK : ∀ (q : ByteArray) (fk fv tk tv : Int), D.atKey (keyL p) (encD dC) = encD ⟨q, fk, fv, tk, tv⟩ → wpList Tryz.prog ops Q rest (a.put o.dst (.tuple #[.agg #[.string q, .int .i64 fk, .int .i64 fv, .int .i64 tk, .int .i64 tv], .bool (has D (keyL p))])) w) :
    wpList Tryz.prog ops Q (o :: rest) a w :=
  wpList_lookup_own_ok w hg m x _ hop _ _ keyLaw Tryz.underlying40 cmdElem (zeroCmd w) (encD dC) [] (cmdElem_mk dC) b n D hm hown _ _ hx (keyOf_path hp) (fun v ps hv => by
    obtain ⟨c, rfl, hc⟩ := cmdElem_inv hv
    obtain ⟨q, fk, fv, tk, tv⟩ := c
    injection hc with hc _
    exact hK q fk fv tk tv hc)

/-- 'wholes[path] = c'. -/
theorem wpList_store_cmd (w : World) {ops : Array Oper} {rest : List Oper} {o : Oper} {a : Act} {Q : Exit → Act → World → Prop} (hg : o.guard = none) (m x v : Operand) (hop : o.op = Op.mapUpdate 40 m x v) (b n : Nat) (D : DataW Unit)
    (hm : a.eval m = .map (some b)) (hown : w.ownsMap Tryz.prog 9 cmdElem b n D) (hn : n < maxLen) (p : ByteArray) (hx : a.eval x = .string p) (hp : p.size ≤ maxLen) (c : Cmd) (hv : a.eval v = .agg #[.string c.p, .int .i64 c.fk, .int .i64 c.fv, .int .i64 c.tk, .int .i64 c.tv])
    (hK : ∀ w', w'.ownsMap Tryz.prog 9 cmdElem b (n + 1) (D.put (keyL p) (encD c)) → w.grownBy w' (some b) → wpList Tryz.prog ops Q rest (a.put o.dst undef) w') :
    wpList Tryz.prog ops Q (o :: rest) a w :=
  wpList_mapUpdate_own w hg m x v _ hop _ _ keyLaw Tryz.underlying40 cmdElem b n D hm hown hn _ _ _ hx hv (keyOf_path hp) _ _ (cmdElem_mk c) hK

/-- What wholesOf leaves. -/
def WholePost (cs : List Cmd) (W : World) (e : Ending) (w' : World) : Prop :=
  ((∃ D : DataW Unit, e = .returned (.tuple #[.map (some W.heap.size), .bool true]) ∧ w'.ownsMap Tryz.prog 9 cmdElem W.heap.size cs.length D ∧ WholeK cs cs.length D) ∨ (e = .returned (.tuple #[.map none, .bool false]) ∧ ∃ p, foldP p none cs = none)) ∧ Below W.heap.size W w'

def WholeRel (cs : List Cmd) (W : World) (i : Value) (wr : World) : Prop :=
  ∃ (n : Nat) (D : DataW Unit), i = .int .i64 n ∧ n ≤ cs.length ∧ Hid (wr.ownsMap Tryz.prog 9 cmdElem W.heap.size n D) ∧ Hid (WholeK cs n D) ∧ Hid (Below W.heap.size W wr)

theorem whole_below {W wr w1 : World} {o1 o2 : Obj} (hB : Below W.heap.size W wr) (hg : ((wr.alloc o1).alloc o2).grownBy w1 (some W.heap.size)) : Below W.heap.size W w1 :=
  ((hB.alloc hB.size o1).alloc (by have := hB.size; rw [World.size_alloc]; omega) o2).grown hg (by have := hB.size; rw [World.size_alloc, World.size_alloc]; omega) (fun k e => by cases e; exact Nat.le_refl _)

set_option maxHeartbeats 1000000 in
set_option maxRecDepth 100000 in
theorem wholesOf_c (a : Option Addr) (len cap : Nat) (cs : List Cmd) (hl : len ≤ 2097152) (hs : ShortC 2097152 cs) (W : World) (hN : CmdsAt W a len cs) :
    Calls Tryz.prog 15 #[.slice a len cap] W (WholePost cs W) := by
  have HN := Lib.hid hN
  have HE := Lib.hid hN.1
  have HS := Lib.hid hs
  have hl' : (len : Int) ≤ 2097152 := by omega
  have hmm := @run_makeMap Tryz.prog
  clear hN hs
  go_enter Tryz.func15, Tryz.ntmps15
  go_wp2
  clear hmm
  go_loopw [12] (fun i wr => WholeRel cs W i wr) (fun i _ => len - (intOf i).toNat)
  case atStart => exact ⟨0, .map [], rfl, Nat.zero_le _, World.ownsMap_made _ _ _ _, whole_start cs, below_box _ _⟩
  case round =>
    obtain ⟨n, D, rfl, hn, HM, HW, HB⟩ := hrel
    by_cases hlt : n < len
    · have hlt' : (n : Int) < len := by omega
      obtain ⟨b, off, c, rfl, hc, d0, d1, d2, d3, d4⟩ := HN.out.node hlt
      have c0 := cell_kept HB.out d0
      have c1 := cell_kept HB.out d1
      have c2 := cell_kept HB.out d2
      have c3 := cell_kept HB.out d3
      have c4 := cell_kept HB.out d4
      have HX := Lib.hid hc
      have HLT := Lib.hid (And.intro hlt hn)
      have HPS := Lib.hid (show c.p.size ≤ maxLen from Nat.le_trans (HS.out.at hc) (by unfold maxLen; omega))
      obtain ⟨p, fk, fv, tk, tv⟩ := c
      simp only at c0 c1 c2 c3 c4
      clear hc hlt hn d0 d1 d2 d3 d4
      have hn7 : n < maxLen := by unfold maxLen; omega
      cases hb : has D (keyL p) with
      | false =>
        have HBV := Lib.hid hb
        go_wp2_with (first | (at_lookup; refine wpList_lookup_cmd _ rfl _ _ rfl _ n D rfl (HM.out.alloc _) p rfl HPS.out ?_; intro q gk gv uk uv hat; have HAT := Lib.hid hat; clear hat) | (at_mapUpdate; refine wpList_store_cmd _ rfl _ _ _ rfl _ n D rfl ((HM.out.alloc _).alloc _) hn7 p rfl HPS.out ⟨p, fk, fv, tk, tv⟩ rfl ?_; intro w1 hown1 hgrow1))
        go_roundw
        case rel => exact ⟨n + 1, D.put (keyL p) (encD ⟨p, fk, fv, tk, tv⟩), by go_num, by have := HLT.out; have := HE.out; omega, hown1, whole_new HW.out HX.out HBV.out, whole_below HB.out hgrow1⟩
        case measure => have := HLT.out; simp [intOf]; omega
      | true =>
        have HBV := Lib.hid hb
        go_wp2_with (first | (at_lookup; refine wpList_lookup_cmd _ rfl _ _ rfl _ n D rfl (HM.out.alloc _) p rfl HPS.out ?_; intro q gk gv uk uv hat; have HAT := Lib.hid hat; clear hat) | (at_mapUpdate; refine wpList_store_cmd _ rfl _ _ _ rfl _ n D rfl ((HM.out.alloc _).alloc _) hn7 p rfl HPS.out ⟨p, gk, gv, tk, tv⟩ rfl ?_; intro w1 hown1 hgrow1))
        · rename_i e1 e2
          go_roundw
          case rel => exact ⟨n + 1, D.put (keyL p) (encD ⟨p, gk, gv, tk, tv⟩), by go_num, by have := HLT.out; have := HE.out; omega, hown1, whole_on (x := ⟨q, gk, gv, uk, uv⟩) HW.out HX.out HBV.out HAT.out (by rw [e1, e2]), whole_below HB.out hgrow1⟩
          case measure => have := HLT.out; simp [intOf]; omega
        · rename_i e1 e2
          go_ret2
          exact ⟨.inr ⟨rfl, p, whole_bad (x := ⟨q, gk, gv, uk, uv⟩) HW.out HX.out HBV.out HAT.out (fun e => e2 (congrArg Prod.snd e))⟩, (HB.out.alloc HB.out.size _).alloc (by have := HB.out.size; rw [World.size_alloc]; omega) _⟩
        · rename_i e1
          go_ret2
          exact ⟨.inr ⟨rfl, p, whole_bad (x := ⟨q, gk, gv, uk, uv⟩) HW.out HX.out HBV.out HAT.out (fun e => e1 (congrArg Prod.fst e))⟩, (HB.out.alloc HB.out.size _).alloc (by have := HB.out.size; rw [World.size_alloc]; omega) _⟩
    · have hnl : n = len := by have := HE.out; omega
      subst hnl
      go_wp2
      go_ret2
      exact ⟨.inl ⟨D, rfl, by rw [HE.out]; exact HM.out, by rw [HE.out]; exact HW.out⟩, HB.out⟩

end Go.Proofs.YtmlnakkfjecibaaGreatDoor

/-
  WALKS: impl.LogCanon.
-/
namespace Go.Proofs.YtmlnakkfjecibaaGreatDoor
open Go.RowKit
open Go.Maps (IsMap has)
set_option linter.unusedVariables false

theorem own_lower {W : World} {base base' : Nat} {e : TypeId} {size n : Nat} {v : Value} {xs : List Value} (h : W.ownsRow base e size v n xs) (hb : base' ≤ base) : W.ownsRow base' e size v n xs := by
  obtain ⟨h1, h2⟩ := h
  refine ⟨h1, ?_⟩
  rcases h2 with h3 | ⟨x, cap, cur, rfl, h4, h5⟩
  · exact .inl h3
  · exact .inr ⟨x, cap, cur, rfl, Nat.le_trans hb h4, h5⟩

abbrev RangesC (wr : World) (b r n : Nat) (D : DataW Unit) (left : Lit → Bool) (cnt : Nat) : Prop := wr.ranges Tryz.prog 9 cmdElem b r n D left cnt

theorem ranges_keptM {w w' : World} {b r n : Nat} {D : DataW Unit} {left : Lit → Bool} {cnt : Nat} (h : RangesC w b r n D left cnt) (hk : KeptM w w') : RangesC w' b r n D left cnt := by
  obtain ⟨es, clock, since, seen, c0, hb, F, hs, hD, hr, rest⟩ := h
  exact ⟨es, clock, since, seen, c0, hk b _ hb rfl, F, hs, hD, hk r _ hr rfl, rest⟩

/-- The step of 'for _, c := range wholes'. -/
theorem wpList_next_cmd (w : World) {ops : Array Oper} {rest : List Oper} {o : Oper} {a : Act} {Q : Exit → Act → World → Prop} (hg : o.guard = none) (it : Operand) (hop : o.op = Op.next it false) (b r n : Nat) (D : DataW Unit) (left : Lit → Bool) (cnt : Nat)
    (hit : a.eval it = .pointer (some ⟨r, 0, none⟩)) (h : RangesC w b r n D left cnt)
    (hDone : (∀ kl, left kl = false) → wpList Tryz.prog ops Q rest (a.put o.dst (.tuple #[.bool false])) w)
    (hMore : ∀ (p q : ByteArray) (fk fv tk tv : Int) (w' : World) (cnt' : Nat), left (keyL p) = true → (∀ zd, D.atKey (keyL p) zd = encD ⟨q, fk, fv, tk, tv⟩) → RangesC w' b r n D (fun z => left z && !z.sameKey (keyL p)) cnt' → cnt' < cnt →
      w.grownBy w' (some r) → (Instr.entry (.pointer (some ⟨r, 0, none⟩))).run Tryz.prog w' = .ok (.tuple #[.string p, .agg #[.string q, .int .i64 fk, .int .i64 fv, .int .i64 tk, .int .i64 tv]]) w' →
      wpList Tryz.prog ops Q rest (a.put o.dst (.tuple #[.bool true, .string p, .agg #[.string q, .int .i64 fk, .int .i64 fv, .int .i64 tk, .int .i64 tv]])) w') :
    wpList Tryz.prog ops Q (o :: rest) a w :=
  wpList_next_ranges w hg it hop 9 keyLaw cmdElem (fun p : ByteArray => Value.string p) (fun c : Cmd => .agg #[.string c.p, .int .i64 c.fk, .int .i64 c.fv, .int .i64 c.tk, .int .i64 c.tv])
    (fun key kl hk => by obtain ⟨x, hx, _⟩ := Maps.keyOf_str Tryz.underlying9 hk; exact ⟨_, hx⟩)
    (fun v y hv => by obtain ⟨c, hc, _⟩ := cmdElem_inv hv; exact ⟨c, hc⟩) b r n D left cnt hit h (fun _ hl => hDone hl)
    (fun p c kl y w' cnt' hkey hlk hv hat hrg hlt hgr hsz hen => by
      obtain ⟨x, ex, rfl, _⟩ := Maps.keyOf_str Tryz.underlying9 hkey
      have hp : p = ⟨x.toArray⟩ := by
        have : (Value.string p) = encStr x := ex
        unfold encStr at this
        injection this
      have hkl : (Lit.string x) = keyL p := by rw [hp]; unfold keyL; simp
      rw [hkl] at hlk hat hrg
      obtain ⟨c', ec, rfl⟩ := cmdElem_inv hv
      rw [cmdElem_mk] at hv
      injection hv with hv
      injection hv with hv _
      obtain ⟨q, fk, fv, tk, tv⟩ := c
      exact hMore p q fk fv tk tv w' cnt' hlk (fun zd => (hat zd).trans hv.symm) hrg hlt hgr hen)

def CanonRel (cs : List Cmd) (D : DataW Unit) (b r B : Nat) (W : World) (wr : World) : Prop :=
  ∃ (left : Lit → Bool) (cnt : Nat) (v : Value) (zs : List Cmd), RangesC wr b r cs.length D left cnt ∧ Hid (HpAt wr B (B + 1) v zs) ∧ Hid (HeapK zs zs.length) ∧ Hid (PushK cs left zs) ∧ Hid (Below W.heap.size W wr)

theorem push_round {cs zs ys : List Cmd} {D : DataW Unit} {b r B : Nat} {W wr w2 W4 : World} {left : Lit → Bool} {cnt cnt2 : Nat} {v4 : Value} {p : ByteArray} {c : Cmd} {o : Obj} (hw : WholeK cs cs.length D) (hh : has D (keyL p) = true) (hat : ∀ z, D.atKey (keyL p) z = encD c) (hpk : PushK cs left zs) (hl : left (keyL p) = true)
    (hne : (c.fk, c.fv) ≠ (c.tk, c.tv)) (hq : c.p = p) (hr2 : RangesC w2 b r cs.length D (fun z => left z && !z.sameKey (keyL p)) cnt2) (hrg : RangesC wr b r cs.length D left cnt) (hlt : cnt2 < cnt) (hb2 : Below W.heap.size W w2) (hws : W.heap.size ≤ B)
    (hA4 : HpAt W4 B (B + 1) v4 ys) (hp4 : ys.Perm (zs ++ [c])) (hh4 : HeapK ys ys.length) (hb4 : Below B (w2.alloc o) W4) (hk4 : KeptM (w2.alloc o) W4) : CanonRel cs D b r B W W4 ∧ W4.rangeLeft b r < wr.rangeLeft b r := by
  subst hq
  have hr4 : RangesC W4 b r cs.length D (fun z => left z && !z.sameKey (keyL c.p)) cnt2 := ranges_keptM (ranges_keptM hr2 (KeptM.below (below_box w2 o))) hk4
  exact ⟨⟨_, cnt2, v4, ys, hr4, hA4, hh4, push_one hw hh hat hpk hl hne hp4, (hb2.alloc hb2.size o).trans (hb4.mono hws)⟩, by rw [hr4.left_eq, hrg.left_eq]; exact hlt⟩

theorem skip_round {cs zs : List Cmd} {D : DataW Unit} {b r B : Nat} {W wr w2 : World} {left : Lit → Bool} {cnt cnt2 : Nat} {v : Value} {p : ByteArray} {c : Cmd} {o : Obj} (hw : WholeK cs cs.length D) (hh : has D (keyL p) = true) (hat : ∀ z, D.atKey (keyL p) z = encD c) (hpk : PushK cs left zs)
    (he : (c.fk, c.fv) = (c.tk, c.tv)) (hq : c.p = p) (hr2 : RangesC w2 b r cs.length D (fun z => left z && !z.sameKey (keyL p)) cnt2) (hrg : RangesC wr b r cs.length D left cnt) (hlt : cnt2 < cnt) (hb2 : Below W.heap.size W w2)
    (hA2 : HpAt w2 B (B + 1) v zs) (hhk : HeapK zs zs.length) : CanonRel cs D b r B W (w2.alloc o) ∧ (w2.alloc o).rangeLeft b r < wr.rangeLeft b r := by
  subst hq
  have hr4 : RangesC (w2.alloc o) b r cs.length D (fun z => left z && !z.sameKey (keyL c.p)) cnt2 := ranges_keptM hr2 (KeptM.below (below_box w2 o))
  exact ⟨⟨_, cnt2, v, zs, hr4, hA2.keep (below_box w2 o), hhk, push_skip hw hh hat hpk he, hb2.alloc hb2.size o⟩, by rw [hr4.left_eq, hrg.left_eq]; exact hlt⟩

set_option maxHeartbeats 1000000 in
set_option maxRecDepth 100000 in
theorem logCanon_c (a : Option Addr) (len cap : Nat) (cs : List Cmd) (hl : len ≤ 2097152) (hs : ShortC 2097152 cs) (W : World) (hN : CmdsAt W a len cs) :
    Calls Tryz.prog 7 #[.slice a len cap] W (MovePost (logCanon cs) W) := by
  obtain ⟨vl, hvl⟩ : ∃ v, validL cs = v := ⟨_, rfl⟩
  have HV := Lib.hid (show Calls Tryz.prog 14 #[.slice a len cap] W (BoolPost vl W) by rw [← hvl]; exact implLogValid_c a len cap cs hl hs W hN)
  have HVT := Lib.hid hvl
  have HWH := Lib.hid (fun W' (hb : Below W.heap.size W W') => wholesOf_c a len cap cs hl hs W' (hN.keep hb))
  clear hN hs hl hvl
  go_enter Tryz.func7, Tryz.ntmps7
  go_wp2_with fail
  refine HV.out.mono ?_
  rintro e W1 ⟨rfl, hb1⟩
  have B1 := Lib.hid hb1
  clear hb1
  cases vl with
  | false =>
    go_wp2
    go_ret2
    exact move_end (logCanon_bad HVT.out) (World.ownsRow_nil _ _ _ _) B1.out
  | true =>
    go_wp2_with fail
    refine (HWH.out W1 B1.out).mono ?_
    rintro e W2 ⟨hor, hb2⟩
    have B2 := Lib.hid (below_next B1.out hb2)
    have HB2 := Lib.hid hb2.size
    clear hb2
    rcases hor with ⟨D, rfl, hM, hW⟩ | ⟨rfl, p, hp⟩
    · have HM := Lib.hid hM
      have HW := Lib.hid hW
      have HC20 := Lib.hid (show cs.length ≤ 20 from ((validL_iff cs).1 HVT.out).2)
      clear hM hW
      go_wp2_with (at_range; refine wpList_range_own _ rfl _ _ rfl _ _ keyLaw Tryz.underlying40 cmdElem _ _ D rfl (HM.out.alloc _) ?_; intro w0 hrg0 hg0 hs0)
      simp only [World.size_alloc] at hrg0 hs0 ⊢
      go_frame
      have HX0 := Lib.hid ((Boxed.new W2 43 (.slice none 0 0)).kept hg0 (by simp))
      have HBW := Lib.hid (show Below W.heap.size W w0 from (B2.out.alloc B2.out.size _).grown hg0 (by have := B2.out.size; rw [World.size_alloc]; omega) (by simp))
      have HWS := Lib.hid (show W.heap.size ≤ W2.heap.size from B2.out.size)
      clear hg0 hs0
      go_loopw [8] (fun _ wr => CanonRel cs D W1.heap.size (W2.heap.size + 1) W2.heap.size W wr) (fun _ wr => wr.rangeLeft W1.heap.size (W2.heap.size + 1))
      case atStart => exact ⟨has D, Maps.size D, .slice none 0 0, [], hrg0, ⟨HX0.out, World.ownsRow_nil _ _ _ _, by omega⟩, fun k k0 kn => absurd kn (by simp), push_start HW.out, HBW.out⟩
      case round =>
        clear hrg0
        obtain ⟨left, cnt, v, zs, hrg, HA, HHK, HPK, HB⟩ := hrel
        have HRG := Lib.hid hrg
        go_wp2_with (at_next; refine wpList_next_cmd _ rfl _ rfl _ _ _ _ _ _ rfl hrg ?_ ?_)
        · intro hl0
          have HTA := Lib.hid (takeAll_c W2.heap.size (W2.heap.size + 1) v zs (by have := push_len HPK.out; have := HC20.out; omega) wr HA.out.box.lt HA.out HHK.out)
          have HL0 := Lib.hid hl0
          clear hrg hl0
          go_wp2_with fail
          refine HTA.out.mono ?_
          rintro e W5 ⟨sl, acc, rfl, ho, ht, hb⟩
          go_wp2
          go_ret2
          exact move_end (push_end HVT.out HW.out HPK.out HL0.out ht) (own_lower ho HB.out.size) (HB.out.trans (hb.mono HWS.out))
        · intro p q fk fv tk tv w2 cnt2 hlk hat hrg2 hlt hg2 hen
          have HA2 := Lib.hid (HA.out.grown hg2 (fun e => by injection e with e; omega) (fun k hk e => row_ne_iter HA.out.row HRG.out (e.trans hk.symm)))
          have HB2w := Lib.hid (show Below W.heap.size W w2 from HB.out.grown hg2 (by have := HWS.out; have := HA.out.box.lt; omega) (fun k e => by injection e with e; have := HWS.out; omega))
          have HLK := Lib.hid (And.intro hlk hat)
          have HR2 := Lib.hid hrg2
          have HLT := Lib.hid (show cnt2 < cnt from hlt)
          have HH := Lib.hid (Maps.has_true_of_atKey hat)
          have HQP := Lib.hid (whole_at (c := ⟨q, fk, fv, tk, tv⟩) HW.out (Maps.has_true_of_atKey hat) hat).1
          have HPU := Lib.hid (heapPush_c W2.heap.size (W2.heap.size + 1) v zs ⟨q, fk, fv, tk, tv⟩ (by have := push_len HPK.out; have := HC20.out; omega) (w2.alloc (.cells #[.string q, .int .i64 fk, .int .i64 fv, .int .i64 tk, .int .i64 tv] 45)) (by have := HA2.out.box.lt; rw [World.size_alloc]; omega) (HA2.out.keep (below_box _ _)) HHK.out)
          unfold cmdV at HPU
          simp only at HPU
          clear hrg hlk hat hrg2 hlt hg2
          by_cases e1 : fk = tk
          · by_cases e2 : fv = tv
            · subst e1; subst e2
              clear HPU
              go_wp2
              exact skip_round HW.out HH.out HLK.out.2 HPK.out rfl HQP.out HR2.out HRG.out HLT.out HB2w.out HA2.out HHK.out
            · subst e1
              go_wp2_with (go_at_call 16; (with_reducible refine (HPU.out).mono ?_); rintro e W4 ⟨rfl, v4, ys, hA4, hp4, hh4, hb4, hk4⟩)
              exact push_round HW.out HH.out HLK.out.2 HPK.out HLK.out.1 (fun e => e2 (congrArg Prod.snd e)) HQP.out HR2.out HRG.out HLT.out (hb2 := HB2w.out) HWS.out hA4 hp4 hh4 hb4 hk4
          · go_wp2_with (go_at_call 16; (with_reducible refine (HPU.out).mono ?_); rintro e W4 ⟨rfl, v4, ys, hA4, hp4, hh4, hb4, hk4⟩)
            exact push_round HW.out HH.out HLK.out.2 HPK.out HLK.out.1 (fun e => e1 (congrArg Prod.fst e)) HQP.out HR2.out HRG.out HLT.out (hb2 := HB2w.out) HWS.out hA4 hp4 hh4 hb4 hk4
    · go_wp2
      go_ret2
      exact move_end (logCanon_fail hp) (World.ownsRow_nil _ _ _ _) B2.out

end Go.Proofs.YtmlnakkfjecibaaGreatDoor
