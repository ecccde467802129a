/-
  Texts of this proof, one behind the other: Tr, Wa, Of, Ip, Tx, No, Iq, Cc, Ca, Iy, St, Sd, Bk, Sk, Se, Fm, Fa, Fb, Ss, Sv.
-/
import Derived.RangeFuncBox
import Derived.Sort.CutIn
import Derived.Laws.Cover1
import Derived.Deep.RegionHeld3
import Derived.Deep.Cut
import Derived.Laws.AppendOwnNone
import Derived.Laws.Concat
import Derived.Laws.Runes
import Derived.Lib.AppendZerosOnto
import Derived.Lib.Walk
import Derived.Lib.SliceRun
import Derived.WideLaws
import Derived.Shelf.LaysM
import Derived.Shelf.Sort.Plain
import Derived.Shelf.Slices.CompactS
import Derived.Shelf.Slices.In.SortNone
import Derived.Sort.OwnSorted
import Derived.Test.YtnmpbocnbcokeaaGreatDoorChecked
import Derived.RangeFuncNested
import Derived.RangeFuncBound
import Derived.RangeFuncCalls
import Derived.RangeFuncLeaves
import Derived.OwnWalkIn
import Derived.TacticsInMore
import Derived.LoopNIn
import Derived.LoopIn
import Derived.Lib.HexFns2
import Derived.StillTailTactics
import Derived.Deep.RegionLaw
import Derived.WalkSmall
import Derived.Maps.AppendAt
import Derived.OwnWalk
import Derived.Laws.OwnMore
import Derived.Test.YtnmpbocnbcokeaaGreatDoorK2
/-
  TREES IN MEMORY: places, each with its content and the places behind it.
-/
namespace Go.Proofs.YtnmpbocnbcokeaaGreatDoor
open Go.RowKit

theorem infoPlace : (Tryz.prog.info? 59).map (fun i => (i.zero, i.size)) = some (some (.agg #[.int .i64 0, .int .i64 0, .pointer none, .pointer none, .pointer none, .pointer none]), 6) := by kernel_rfl

def ptrTo (o : Option Nat) : Value := .pointer (o.map fun b => ⟨b, 0, none⟩)

/-- The cells of the place of a word. -/
def plc (A : List UInt8 → Option Nat) (F : List UInt8 → Int × Int) (w : List UInt8) : Array Value :=
  #[.int .i64 (F w).1, .int .i64 (F w).2, ptrTo (A (w ++ [97])), ptrTo (A (w ++ [98])), ptrTo (A (w ++ [99])), ptrTo (A (w ++ [100]))]

/-- Where the places lie, and what they hold. -/
structure Trie (W : World) (A : List UInt8 → Option Nat) (F : List UInt8 → Int × Int) : Prop where
  wrd : ∀ w b, A w = some b → Wrd w
  root : A [] ≠ none
  inj : ∀ u w b, A u = some b → A w = some b → u = w
  up : ∀ w c, A w = none → A (w ++ [c]) = none
  nil : ∀ w, Wrd w → A w = none → F w = (0, 0)
  cells : ∀ w b, A w = some b → W.heap[b]? = some (.cells (plc A F w) 59)

theorem Trie.lt {W : World} {A : List UInt8 → Option Nat} {F : List UInt8 → Int × Int} (h : Trie W A F) {w : List UInt8} {b : Nat} (hb : A w = some b) : b < W.heap.size :=
  (Array.getElem?_eq_some_iff.1 (h.cells w b hb)).1

theorem Trie.kept {W W' : World} {A : List UInt8 → Option Nat} {F : List UInt8 → Int × Int} (h : Trie W A F) (hk : ∀ w b, A w = some b → W'.heap[b]? = W.heap[b]?) : Trie W' A F :=
  ⟨h.wrd, h.root, h.inj, h.up, h.nil, fun w b hb => (hk w b hb).trans (h.cells w b hb)⟩

theorem Trie.below {W W' : World} {A : List UInt8 → Option Nat} {F : List UInt8 → Int × Int} (h : Trie W A F) (hb : Below W.heap.size W W') : Trie W' A F :=
  h.kept fun _ _ e => hb.block _ (h.lt e)

theorem Trie.congr {W : World} {A : List UInt8 → Option Nat} {F G : List UInt8 → Int × Int} (h : Trie W A F) (hg : ∀ w, Wrd w → F w = G w) : Trie W A G :=
  ⟨h.wrd, h.root, h.inj, h.up, fun w hw e => by rw [← hg w hw]; exact h.nil w hw e, fun w b hb => by
    rw [h.cells w b hb]; unfold plc; rw [hg w (h.wrd w b hb)]⟩

/-- What a call that walks and extends the places keeps: all other blocks. -/
structure Off (A : List UInt8 → Option Nat) (n : Nat) (W W' : World) : Prop where
  os : W'.os = W.os
  tape : W'.tape = W.tape
  output : W'.output = W.output
  size : W.heap.size ≤ W'.heap.size
  block : ∀ k, k < n → (∀ w, A w ≠ some k) → W'.heap[k]? = W.heap[k]?

theorem Off.below {A : List UInt8 → Option Nat} {n m : Nat} {W W' : World} (h : Off A n W W') (hm : m ≤ n) (hA : ∀ w b, A w = some b → m ≤ b) : Below m W W' :=
  ⟨h.os, h.tape, h.output, h.size, fun k hk => h.block k (by omega) fun w e => by have := hA w k e; omega⟩

theorem Off.of_below {A : List UInt8 → Option Nat} {n : Nat} {W W' : World} (h : Below n W W') : Off A n W W' :=
  ⟨h.os, h.tape, h.output, h.size, fun k hk _ => h.block k hk⟩

theorem Off.trans {A : List UInt8 → Option Nat} {n : Nat} {W W1 W2 : World} (h : Off A n W W1) (k : Off A n W1 W2) : Off A n W W2 :=
  ⟨k.os.trans h.os, k.tape.trans h.tape, k.output.trans h.output, Nat.le_trans h.size k.size, fun j hj hA => (k.block j hj hA).trans (h.block j hj hA)⟩

theorem Off.set {A : List UInt8 → Option Nat} {n : Nat} {W W' : World} (h : Off A n W W') {p : Addr} (hp : n ≤ p.block ∨ ∃ w, A w = some p.block) (v : Value) : Off A n W (W'.setCell p v) :=
  h.trans ⟨rfl, rfl, rfl, by simp [World.setCell], fun k hk hA => Below.heap_setCell _ _ _ _ (by
    rintro rfl
    rcases hp with hp | ⟨w, hw⟩
    · omega
    · exact hA w hw)⟩

theorem Off.new {A : List UInt8 → Option Nat} {n : Nat} {W W' : World} (h : Off A n W W') (hn : n ≤ W'.heap.size) (o : Obj) : Off A n W (W'.alloc o) :=
  h.trans ⟨rfl, rfl, rfl, by simp, fun k hk _ => Below.heap_alloc _ _ _ (by omega)⟩

/-- The places that a call leaves: those that there were, and new ones. -/
def Ext (A A' : List UInt8 → Option Nat) (n : Nat) : Prop := ∀ w b, (A w = some b → A' w = some b) ∧ (A' w = some b → A w = some b ∨ n ≤ b)

theorem Ext.refl (A : List UInt8 → Option Nat) (n : Nat) : Ext A A n := fun _ _ => ⟨id, .inl⟩

theorem Trie.cell {W : World} {A : List UInt8 → Option Nat} {F : List UInt8 → Int × Int} (h : Trie W A F) {w : List UInt8} {b : Nat} (hb : A w = some b) (i : Nat) :
    W.cell? ⟨b, i, none⟩ = (plc A F w)[i]? := by
  simp [World.cell?, h.cells w b hb]
theorem Trie.frozen {W : World} {A : List UInt8 → Option Nat} {F : List UInt8 → Int × Int} (h : Trie W A F) {w : List UInt8} {b : Nat} (hb : A w = some b) (i : Nat) :
    W.frozen? ⟨b, i, none⟩ = false := by
  simp [World.frozen?, h.cells w b hb]

theorem setCell_heap {W : World} {b : Nat} {c : Array Value} {t : TypeId} (h : W.heap[b]? = some (.cells c t)) (i : Nat) (v : Value) :
    (W.setCell ⟨b, i, none⟩ v).heap[b]? = some (.cells (c.setIfInBounds i v) t) := by
  simp only [World.setCell, Array.getElem?_modify, if_pos, h, Option.map_some]
  rfl

/-- A content is written. -/
theorem Trie.write {W : World} {A : List UInt8 → Option Nat} {F : List UInt8 → Int × Int} (h : Trie W A F) {w : List UInt8} {b : Nat} (hb : A w = some b) (k v : Int) :
    Trie ((W.setCell ⟨b, 0, none⟩ (.int .i64 k)).setCell ⟨b, 1, none⟩ (.int .i64 v)) A (setF F w (k, v)) := by
  refine ⟨h.wrd, h.root, h.inj, h.up, fun u hu e => ?_, fun u c hc => ?_⟩
  · unfold setF
    rw [if_neg (fun q => by rw [q, hb] at e; cases e)]
    exact h.nil u hu e
  · by_cases e : u = w
    · subst e
      have ebc : b = c := by rw [hb] at hc; exact Option.some.inj hc
      subst ebc
      rw [setCell_heap (setCell_heap (h.cells u b hb) 0 _) 1 _]
      unfold plc setF
      rw [if_pos rfl]
      rfl
    · have ne : c ≠ b := fun q => e (h.inj u w b (by rw [← q]; exact hc) hb)
      rw [Below.heap_setCell _ _ _ _ ne, Below.heap_setCell _ _ _ _ ne, h.cells u c hc]
      unfold plc setF
      rw [if_neg e]

def addA (A : List UInt8 → Option Nat) (w : List UInt8) (b : Nat) : List UInt8 → Option Nat := fun u => if u = w then some b else A u

theorem app_one_inj {a b : List UInt8} {x y : UInt8} (h : a ++ [x] = b ++ [y]) : a = b ∧ x = y := by
  have := List.append_inj' h rfl
  exact ⟨this.1, by simpa using this.2⟩

theorem addA_kids {A : List UInt8 → Option Nat} {F : List UInt8 → Int × Int} {w u : List UInt8} {c : UInt8} {n : Nat} (h : u ≠ w) : plc (addA A (w ++ [c]) n) F u = plc A F u := by
  have : ∀ x, addA A (w ++ [c]) n (u ++ [x]) = A (u ++ [x]) := fun x => by
    unfold addA; exact if_neg fun e => h (app_one_inj e).1
  unfold plc; rw [this, this, this, this]

/-- A place is made behind another one. -/
theorem Trie.make {W : World} {A : List UInt8 → Option Nat} {F : List UInt8 → Int × Int} (h : Trie W A F) {w : List UInt8} {b : Nat} (hb : A w = some b) {c : UInt8} (i : Nat) (hi : i < 4) (hc : c = UInt8.ofNat (97 + i)) (hl : w.length < 4) (hn : A (w ++ [c]) = none) :
    Trie ((W.alloc (.cells #[.int .i64 0, .int .i64 0, .pointer none, .pointer none, .pointer none, .pointer none] 59)).setCell ⟨b, 2 + i, none⟩ (.pointer (some ⟨W.heap.size, 0, none⟩)))
      (addA A (w ++ [c]) W.heap.size) F := by
  have hbl := h.lt hb
  have hcl : Pm.letter c = true := by
    subst hc
    rcases (by omega : i = 0 ∨ i = 1 ∨ i = 2 ∨ i = 3) with rfl | rfl | rfl | rfl <;> decide
  have hwc : Wrd (w ++ [c]) := ⟨by simp; omega, fun x hx => by
    rcases List.mem_append.1 hx with hx | hx
    · exact (h.wrd w b hb).2 x hx
    · rw [List.mem_singleton.1 hx]; exact hcl⟩
  have hnew : ∀ u a, A u = some a → a ≠ W.heap.size := fun u a e q => by have := h.lt e; omega
  refine ⟨fun u a e => ?_, ?_, fun u v a eu ev => ?_, fun u x e => ?_, fun u hu e => ?_, fun u a e => ?_⟩
  · unfold addA at e
    split at e
    · rename_i q; rw [q]; exact hwc
    · exact h.wrd u a e
  · unfold addA; rw [if_neg (by simp)]; exact h.root
  · unfold addA at eu ev
    split at eu <;> split at ev
    · rename_i q1 q2; rw [q1, q2]
    · exact absurd (Option.some.inj eu).symm (hnew v a ev)
    · exact absurd (Option.some.inj ev).symm (hnew u a eu)
    · exact h.inj u v a eu ev
  · unfold addA at e ⊢
    split at e
    · cases e
    · rename_i q
      rw [if_neg]
      · exact h.up u x e
      · intro q2
        have := (app_one_inj q2).1
        rw [this, hb] at e; cases e
  · unfold addA at e
    split at e
    · cases e
    · exact h.nil u hu e
  · by_cases q : u = w ++ [c]
    · subst q
      have ea : a = W.heap.size := by unfold addA at e; rw [if_pos rfl] at e; exact (Option.some.inj e).symm
      subst ea
      rw [Below.heap_setCell _ _ _ _ (show W.heap.size ≠ b by omega), World.alloc_heap_new]
      have hF := h.nil (w ++ [c]) hwc hn
      have hk : ∀ x, addA A (w ++ [c]) W.heap.size (w ++ [c] ++ [x]) = none := fun x => by
        unfold addA
        rw [if_neg (by intro q; have := congrArg List.length q; simp at this)]
        exact h.up _ x hn
      unfold plc
      rw [hk, hk, hk, hk, hF]
      rfl
    · have eA : A u = some a := by unfold addA at e; rwa [if_neg q] at e
      by_cases q2 : u = w
      · subst q2
        have ea : a = b := by rw [hb] at eA; exact (Option.some.inj eA).symm
        subst ea
        have h0 : (W.alloc (.cells #[.int .i64 0, .int .i64 0, .pointer none, .pointer none, .pointer none, .pointer none] 59)).heap[a]? = some (.cells (plc A F u) 59) := by
          rw [Below.heap_alloc _ _ _ hbl]; exact h.cells u a eA
        rw [setCell_heap h0]
        have hsame : ∀ x, x ≠ c → addA A (u ++ [c]) W.heap.size (u ++ [x]) = A (u ++ [x]) := fun x hx => by
          unfold addA; exact if_neg fun e => hx (app_one_inj e).2
        have hself : addA A (u ++ [c]) W.heap.size (u ++ [c]) = some W.heap.size := if_pos rfl
        subst hc
        rcases (by omega : i = 0 ∨ i = 1 ∨ i = 2 ∨ i = 3) with rfl | rfl | rfl | rfl
        · have e0 : addA A (u ++ [97]) W.heap.size (u ++ [97]) = some W.heap.size := hself
          have e1 := hsame 98 (by decide)
          have e2 := hsame 99 (by decide)
          have e3 := hsame 100 (by decide)
          show _ = some (Obj.cells (plc (addA A (u ++ [97]) W.heap.size) F u) _)
          unfold plc
          rw [e0, show addA A (u ++ [97]) W.heap.size (u ++ [98]) = A (u ++ [98]) from e1, show addA A (u ++ [97]) W.heap.size (u ++ [99]) = A (u ++ [99]) from e2, show addA A (u ++ [97]) W.heap.size (u ++ [100]) = A (u ++ [100]) from e3]
          rfl
        · have e0 : addA A (u ++ [98]) W.heap.size (u ++ [98]) = some W.heap.size := hself
          have e1 := hsame 97 (by decide)
          have e2 := hsame 99 (by decide)
          have e3 := hsame 100 (by decide)
          show _ = some (Obj.cells (plc (addA A (u ++ [98]) W.heap.size) F u) _)
          unfold plc
          rw [e0, show addA A (u ++ [98]) W.heap.size (u ++ [97]) = A (u ++ [97]) from e1, show addA A (u ++ [98]) W.heap.size (u ++ [99]) = A (u ++ [99]) from e2, show addA A (u ++ [98]) W.heap.size (u ++ [100]) = A (u ++ [100]) from e3]
          rfl
        · have e0 : addA A (u ++ [99]) W.heap.size (u ++ [99]) = some W.heap.size := hself
          have e1 := hsame 97 (by decide)
          have e2 := hsame 98 (by decide)
          have e3 := hsame 100 (by decide)
          show _ = some (Obj.cells (plc (addA A (u ++ [99]) W.heap.size) F u) _)
          unfold plc
          rw [e0, show addA A (u ++ [99]) W.heap.size (u ++ [97]) = A (u ++ [97]) from e1, show addA A (u ++ [99]) W.heap.size (u ++ [98]) = A (u ++ [98]) from e2, show addA A (u ++ [99]) W.heap.size (u ++ [100]) = A (u ++ [100]) from e3]
          rfl
        · have e0 : addA A (u ++ [100]) W.heap.size (u ++ [100]) = some W.heap.size := hself
          have e1 := hsame 97 (by decide)
          have e2 := hsame 98 (by decide)
          have e3 := hsame 99 (by decide)
          show _ = some (Obj.cells (plc (addA A (u ++ [100]) W.heap.size) F u) _)
          unfold plc
          rw [e0, show addA A (u ++ [100]) W.heap.size (u ++ [97]) = A (u ++ [97]) from e1, show addA A (u ++ [100]) W.heap.size (u ++ [98]) = A (u ++ [98]) from e2, show addA A (u ++ [100]) W.heap.size (u ++ [99]) = A (u ++ [99]) from e3]
          rfl
      · have ne : a ≠ b := fun e3 => q2 (h.inj u w b (by rw [← e3]; exact eA) hb)
        rw [Below.heap_setCell _ _ _ _ ne, Below.heap_alloc _ _ _ (h.lt eA), h.cells u a eA, addA_kids q2]

theorem ext_add {A : List UInt8 → Option Nat} {w : List UInt8} {n b : Nat} (hn : A w = none) (hb : n ≤ b) : Ext A (addA A w b) n := fun u c => by
  unfold addA
  refine ⟨fun h => ?_, fun h => ?_⟩
  · rw [if_neg (fun e => by rw [e, hn] at h; cases h)]; exact h
  · split at h
    · right; rw [← Option.some.inj h]; exact hb
    · exact .inl h

theorem Ext.trans {A B C : List UInt8 → Option Nat} {n : Nat} (h : Ext A B n) (k : Ext B C n) : Ext A C n := fun w b =>
  ⟨fun e => (k w b).1 ((h w b).1 e), fun e => by
    rcases (k w b).2 e with e | e
    · exact (h w b).2 e
    · exact .inr e⟩

/-- A new tree. -/
theorem Trie.new (W : World) : Trie (W.alloc (.cells #[.int .i64 1, .int .i64 0, .pointer none, .pointer none, .pointer none, .pointer none] 59)) (fun w => if w = [] then some W.heap.size else none) (Fof []) := by
  refine ⟨fun w b e => ?_, by simp, fun u w b eu ew => ?_, fun w c e => by simp, fun w hw e => ?_, fun w b e => ?_⟩
  · by_cases h : w = []
    · rw [h]; exact Wrd.nil
    · simp [h] at e
  · by_cases h : u = []
    · by_cases h' : w = []
      · rw [h, h']
      · simp [h'] at ew
    · simp [h] at eu
  · by_cases h : w = []
    · simp [h] at e
    · exact Fof_nil h hw
  · by_cases h : w = []
    · subst h
      simp at e
      subst e
      rw [World.alloc_heap_new]
      unfold plc
      rw [Fof_root]
      simp [ptrTo]
    · simp [h] at e

end Go.Proofs.YtnmpbocnbcokeaaGreatDoor

/-
  WALKS: the place of a path (impl.place.at).
-/
namespace Go.Proofs.YtnmpbocnbcokeaaGreatDoor
open Go.RowKit Go.Shelf

attribute [local go_sem] Oper.semAt_some

/-- The letters among the parts. -/
def wd (pre : List ByteArray) : List UInt8 := pre.flatMap (fun x => if Pm.nameBB x = true then x.data.toList else [])

theorem wd_app (pre : List ByteArray) (x : ByteArray) : wd (pre ++ [x]) = wd pre ++ (if Pm.nameBB x = true then x.data.toList else []) := by
  unfold wd; rw [List.flatMap_append]; simp

theorem name_letter {x : ByteArray} (h : Pm.nameBB x = true) : ∃ c i, x = ⟨#[c]⟩ ∧ i < 4 ∧ c = UInt8.ofNat (97 + i) := by
  obtain ⟨⟨l⟩⟩ := x
  match l, h with
  | [c], h =>
    have h' : Pm.letter c = true := h
    have := (letter_iff c).1 h'
    simp only [letters, List.mem_cons, List.not_mem_nil, or_false] at this
    rcases this with rfl | rfl | rfl | rfl
    · exact ⟨97, 0, rfl, by omega, rfl⟩
    · exact ⟨98, 1, rfl, by omega, rfl⟩
    · exact ⟨99, 2, rfl, by omega, rfl⟩
    · exact ⟨100, 3, rfl, by omega, rfl⟩
  | [], h => cases h
  | _ :: _ :: _, h => cases h

theorem wd_len (pre : List ByteArray) : (wd pre).length ≤ pre.length := by
  induction pre with
  | nil => simp [wd]
  | cons x r ih =>
    have : wd (x :: r) = (if Pm.nameBB x = true then x.data.toList else []) ++ wd r := rfl
    rw [this, List.length_append, List.length_cons]
    split
    · rename_i h
      obtain ⟨c, i, rfl, _⟩ := name_letter h
      simp; omega
    · simp; omega

theorem parts_word {v : List UInt8} (h : Wrd v) : wd (Pm.partsB (pB v)) = v ∧ (Pm.partsB (pB v)).length ≤ 4 := by
  by_cases hn : v = []
  · subst hn; decide
  · have hp : Pm.partsB (pB v) = v.map fun x => ⟨#[x]⟩ := by
      unfold Pm.partsB
      rw [pB_list, Pm.parts_path v hn h.2, List.map_map]
      rfl
    rw [hp]
    refine ⟨?_, by rw [List.length_map]; exact h.1⟩
    have hv := h.2
    clear hn hp h
    induction v with
    | nil => rfl
    | cons c r ih =>
      have hc : Pm.nameBB ⟨#[c]⟩ = true := hv c (by simp)
      have : wd ((c :: r).map fun x => (⟨#[x]⟩ : ByteArray)) = (if Pm.nameBB ⟨#[c]⟩ = true then [c] else []) ++ wd (r.map fun x => ⟨#[x]⟩) := rfl
      rw [this, if_pos hc, ih (fun x hx => hv x (List.mem_cons_of_mem _ hx))]
      rfl

theorem pB_size {v : List UInt8} (h : Wrd v) : (pB v).size ≤ 8 := by
  show (Pm.pathOf v).length ≤ 8
  unfold Pm.pathOf
  split
  · simp
  · rw [Pm.flat_length]; have := h.1; omega

def AtPost (A : List UInt8 → Option Nat) (F : List UInt8 → Int × Int) (v : List UInt8) (w : World) (e : Ending) (w' : World) : Prop :=
  ∃ A' b, e = .returned (.pointer (some ⟨b, 0, none⟩)) ∧ A' v = some b ∧ Trie w' A' F ∧ Ext A A' w.heap.size ∧ Off A w.heap.size w w'

def AtI (A : List UInt8 → Option Nat) (F : List UInt8 → Int × Int) (w : World) (pre : List ByteArray) (W : World) : Prop :=
  w.heap.size + 2 ≤ W.heap.size ∧ ∃ A' b, A' (wd pre) = some b ∧ Trie W A' F ∧ Ext A A' (w.heap.size + 2) ∧ Off A w.heap.size w W ∧ Boxed W w.heap.size 53 (.pointer (some ⟨b, 0, none⟩))

theorem AtI.own (A : List UInt8 → Option Nat) (F : List UInt8 → Int × Int) (w : World) (B : Nat) (hB : w.heap.size ≤ B) : OwnFrom B (AtI A F w) := by
  rintro pre W W' row ⟨h0, A', b, h1, h2, h3, h4, h5⟩ hg hr
  refine ⟨Nat.le_trans h0 hg.size, A', b, h1, h2.kept fun u c hc => hg.block c (h2.lt hc) fun e => ?_, h3, ?_, ?_⟩
  · obtain ⟨_, o, ho, hoc⟩ := hr c e.symm
    rw [h2.cells u c hc] at ho
    cases ho; cases hoc
  · refine h4.trans ⟨hg.os, hg.tape, hg.output, hg.size, fun k hk _ => hg.block k (by have := h4.size; omega) fun e => ?_⟩
    have := (hr k e.symm).1; omega
  · refine h5.kept hg fun e => ?_
    obtain ⟨_, o, ho, hoc⟩ := hr _ e.symm
    rw [show W.heap[w.heap.size]? = _ from h5] at ho
    cases ho; cases hoc

theorem size_setC (W : World) (a : Addr) (v : Value) : (W.setCell a v).heap.size = W.heap.size := by simp [World.setCell]

theorem Boxed.past {W : World} {B : Nat} {t : TypeId} {v : Value} (h : Boxed W B t v) {b : Nat} (hb : B ≠ b) (i : Nat) (u : Value) : Boxed (W.setCell ⟨b, i, none⟩ u) B t v := by
  unfold Boxed at h ⊢
  rw [Below.heap_setCell _ _ _ _ hb]; exact h

theorem box_apart {A A' : List UInt8 → Option Nat} {F : List UInt8 → Int × Int} {w : World} (hT : Trie w A F) (h3 : Ext A A' (w.heap.size + 2)) {u : List UInt8} {c : Nat} (hc : A' u = some c) : c ≠ w.heap.size := fun e => by
  rcases (h3 u c).2 hc with q | q
  · have := hT.lt q; omega
  · omega

/-- A round that finds a place. -/
theorem at_found {A A' : List UInt8 → Option Nat} {F : List UInt8 → Int × Int} {w W : World} {pre : List ByteArray} {b b' : Nat} (hT : Trie w A F) (hz : w.heap.size + 2 ≤ W.heap.size) (h2 : Trie W A' F) (h3 : Ext A A' (w.heap.size + 2)) (h4 : Off A w.heap.size w W)
    (h5 : Boxed W w.heap.size 53 (.pointer (some ⟨b, 0, none⟩))) (hA : A' (wd pre) = some b') : AtI A F w pre (W.setCell ⟨w.heap.size, 0, none⟩ (.pointer (some ⟨b', 0, none⟩))) :=
  ⟨by rw [size_setC]; exact hz, A', b', hA, h2.kept fun u c hc => Below.heap_setCell _ _ _ _ (box_apart hT h3 hc), h3, h4.set (.inl (Nat.le_refl _)) _, h5.set _⟩

/-- A round that makes a place. -/
theorem at_made {A A' : List UInt8 → Option Nat} {F : List UInt8 → Int × Int} {w W : World} {pre : List ByteArray} {u : List UInt8} {c : UInt8} {i b : Nat} (hT : Trie w A F) (hz : w.heap.size + 2 ≤ W.heap.size) (h1 : A' u = some b) (h2 : Trie W A' F) (h3 : Ext A A' (w.heap.size + 2)) (h4 : Off A w.heap.size w W)
    (h5 : Boxed W w.heap.size 53 (.pointer (some ⟨b, 0, none⟩))) (hi : i < 4) (hc : c = UInt8.ofNat (97 + i)) (hl : u.length < 4) (hn : A' (u ++ [c]) = none) (hw : wd pre = u ++ [c]) :
    AtI A F w pre (((W.alloc (.cells #[.int .i64 0, .int .i64 0, .pointer none, .pointer none, .pointer none, .pointer none] 59)).setCell ⟨b, 2 + i, none⟩ (.pointer (some ⟨W.heap.size, 0, none⟩))).setCell ⟨w.heap.size, 0, none⟩ (.pointer (some ⟨W.heap.size, 0, none⟩))) := by
  have h3' : Ext A (addA A' (u ++ [c]) W.heap.size) (w.heap.size + 2) := h3.trans (ext_add hn hz)
  have hb := box_apart hT h3 h1
  obtain ⟨o, ho⟩ : ∃ o, o = (Obj.cells #[.int .i64 0, .int .i64 0, .pointer none, .pointer none, .pointer none, .pointer none] 59) := ⟨_, rfl⟩
  have hm := h2.make h1 i hi hc hl hn
  rw [← ho] at hm ⊢
  clear ho
  have hoff : Off A w.heap.size w ((W.alloc o).setCell ⟨b, 2 + i, none⟩ (.pointer (some ⟨W.heap.size, 0, none⟩))) := by
    refine (h4.new (by omega) _).set ?_ _
    rcases (h3 u b).2 h1 with q | q
    · exact .inr ⟨u, q⟩
    · exact .inl (by show w.heap.size ≤ b; omega)
  have hbox : Boxed ((W.alloc o).setCell ⟨b, 2 + i, none⟩ (.pointer (some ⟨W.heap.size, 0, none⟩))) w.heap.size 53 (.pointer (some ⟨b, 0, none⟩)) := Boxed.past (h5.alloc o) (fun e => hb e.symm) _ _
  have hsz : w.heap.size + 2 ≤ ((W.alloc o).setCell ⟨b, 2 + i, none⟩ (.pointer (some ⟨W.heap.size, 0, none⟩))).heap.size := by
    rw [size_setC, World.size_alloc]; omega
  have hself : addA A' (u ++ [c]) W.heap.size (wd pre) = some W.heap.size := by rw [hw]; exact if_pos rfl
  generalize (W.alloc o).setCell ⟨b, 2 + i, none⟩ (.pointer (some ⟨W.heap.size, 0, none⟩)) = W6 at hm hoff hbox hsz ⊢
  exact at_found hT hsz hm h3' hoff hbox hself

set_option maxRecDepth 100000 in
set_option maxHeartbeats 2000000 in
theorem at_in (A : List UInt8 → Option Nat) (F : List UInt8 → Int × Int) (v : List UInt8) (hv : Wrd v) (w : World) (hT : Trie w A F) (b0 : Nat) (h0 : A [] = some b0) :
    CallsIn Fence.wide 6 Tryz.prog 23 #[.pointer (some ⟨b0, 0, none⟩), .string (pB v)] w (AtPost A F v w) := by
  have hs := Nat.le_trans (pB_size hv) (show 8 ≤ 140737488355328 by omega)
  obtain ⟨hwd, hlen⟩ := parts_word hv
  obtain ⟨s, hsv⟩ : ∃ s, s = pB v := ⟨_, rfl⟩
  rw [← hsv] at hs hwd hlen ⊢
  have HT := Lib.hid hT
  have HV := Lib.hid hsv
  clear hsv hT
  refine callsIn_of_wp_marks Tryz.func23 rfl trivial ?_ rfl
  simp only [Tryz.ntmps23, List.size_toArray, List.length_cons, List.length_nil, Nat.reduceAdd, Nat.reduceSub, Array.replicate_succ, Array.replicate_zero, List.push_toArray, List.append_toArray, List.nil_append, List.cons_append]
  gi_wp2_with (refine ⟨trivial, ?_⟩; gi_at_call 43; refine (partsOf_in _ s _).mono ?_; rintro e w' ⟨rfl, rfl⟩)
  have b1 := Boxed.new w 53 (.pointer (some ⟨b0, 0, none⟩))
  have b2 := Boxed.new (w.alloc (.cells #[.pointer (some ⟨b0, 0, none⟩)] 53)) 9 (.string s)
  simp only [World.size_alloc] at b2
  have hB0 : Below w.heap.size w ((w.alloc (.cells #[.pointer (some ⟨b0, 0, none⟩)] 53)).alloc (.cells #[.string s] 9)) := ((Below.refl _ w).alloc (Nat.le_refl _) _).alloc (by simp) _
  refine wpIn_rangeFunc_ownG rfl (by omega) (gf := 55) (lb := #[.pointer (some ⟨w.heap.size + 1, 0, none⟩)]) rfl trivial (enters_of Tryz.func55 (by kernel_rfl) rfl)
    (partsOf_stops _ (by omega) (w.heap.size + 1) 0 s hs _ (by simp) b2.cell) belowK_t (belowK_b (Nat.zero_le _)) (Below.refl _ _) (fun _ => rfl)
    (AtI A F w) (fun _ _ _ => False)
    (AtI.own A F w _ (by simp; omega)) (fun _ _ _ _ _ h => h.elim)
    ⟨by simp, A, b0, h0, HT.out.below hB0, Ext.refl _ _, .of_below hB0, b1.alloc _⟩
    (fun x => { tmps := #[.pointer (some ⟨b0, 0, none⟩), .string s, .pointer (some ⟨w.heap.size, 0, none⟩), undef, .pointer none, .string x, undef, .string s, .func (.func 55) #[] #[.pointer (some ⟨w.heap.size + 1, 0, none⟩)], .string x, undef, undef, undef, undef, undef, undef, undef, undef, undef, undef, undef, undef, undef, undef, undef, undef, undef, undef, undef, undef, undef, undef], defers := [] }) ?assign ?body ?done ?stop
  case assign =>
    intro l x W K hK
    gi_wp2
    exact hK
  case body =>
    rintro l pre x W ⟨hz, A', b, h1, h2, h3, h4, h5⟩ hpl
    have HZ := Lib.hid hz
    clear hz
    have hc0 := h5.cell
    have hf0 := h5.frozen
    cases hx : Pm.nameBB x with
    | false =>
      have hn := fun w => name_no hx w
      have hw : Hid (wd (pre ++ [x]) = wd pre) := by show _ = _; rw [wd_app, hx]; simp
      clear hx
      gi_wp2_with (refine ⟨trivial, ?_⟩; gi_at_call 44; refine (CallsIn.inRound l (callsIn_wide.2 (hn _))).mono ?_; rintro e w' ⟨rfl, rfl⟩)
      exact ⟨(KeepsOthers.refl _).from _, Below.refl _ _, HZ.out, A', b, by rw [hw.out]; exact h1, h2, h3, h4, h5⟩
    | true =>
      have hn := fun w => name_yes hx w
      obtain ⟨c, i, hxc, hi, hc⟩ := name_letter hx
      have hw : Hid (wd (pre ++ [x]) = wd pre ++ [c]) := by show _ = _; rw [wd_app, hx, hxc]; rfl
      have HX := Lib.hid hxc
      have HC := Lib.hid hc
      clear hx hxc hc
      gi_wp2_with (refine ⟨trivial, ?_⟩; gi_at_call 44; refine (CallsIn.inRound l (callsIn_wide.2 (hn _))).mono ?_; rintro e w' ⟨rfl, rfl⟩)
      have hxc := HX.out
      subst hxc
      have hcv : (c.toNat : Int) = 97 + i := by
        rw [HC.out]
        rcases (by omega : i = 0 ∨ i = 1 ∨ i = 2 ∨ i = 3) with rfl | rfl | rfl | rfl <;> rfl
      have hwr : ((((⟨#[c]⟩ : ByteArray)[0]'(by simp [ByteArray.size])).toNat : Int) - 97) % 256 = i := by
        show ((c.toNat : Int) - 97) % 256 = i
        rw [hcv]; omega
      have hi0 : (0 : Int) ≤ i := by omega
      have hi4 : (i : Int) < 4 := by omega
      clear hcv
      refine quiet_round (F := Fence.wide) l rfl (by kernel_rfl) (by kernel_rfl) (by kernel_rfl) ?_
      repeat (gi_big_quiet_step (fail))
      refine wpQuietIn_nil ?_
      rintro _ ⟨nq, rfl⟩
      have h2' : Trie (w'.drewN nq) A' F := h2.kept fun _ _ _ => rfl
      have h4' : Off A w.heap.size w (w'.drewN nq) := h4.trans ⟨rfl, rfl, rfl, Nat.le_refl _, fun _ _ _ => rfl⟩
      have h5' : Boxed (w'.drewN nq) w.heap.size 53 (.pointer (some ⟨b, 0, none⟩)) := h5
      have hz' : w.heap.size + 2 ≤ (w'.drewN nq).heap.size := HZ.out
      clear HZ
      have hk0 : KeepsOthers w' (w'.drewN nq) := ⟨Nat.le_refl _, fun _ _ h _ => h⟩
      have hb0' : Below 0 w' (w'.drewN nq) := ⟨rfl, rfl, rfl, Nat.le_refl _, fun _ _ => rfl⟩
      clear h2 h4 h5 hc0 hf0
      generalize w'.drewN nq = W at h2' h4' h5' hk0 hb0' hz' ⊢
      have HZ := Lib.hid hz'
      clear hz'
      have hbw : b ≠ w.heap.size := fun e => by
        rcases (h3 (wd pre) b).2 h1 with q | q
        · have := HT.out.lt q; omega
        · omega
      have hlp : (wd pre).length < 4 := Nat.lt_of_le_of_lt (wd_len pre) (by omega)
      have hc2 : W.cell? ⟨b, 2 + i, none⟩ = some (ptrTo (A' (wd pre ++ [c]))) := by
        rw [h2'.cell h1, HC.out]
        rcases (by omega : i = 0 ∨ i = 1 ∨ i = 2 ∨ i = 3) with rfl | rfl | rfl | rfl <;> rfl
      have hf2 := h2'.frozen h1 (2 + i)
      have hc0 := h5'.cell
      have hf0 := h5'.frozen
      have H2 := Lib.hid h2'
      have H3 := Lib.hid h3
      have H4 := Lib.hid h4'
      have H5 := Lib.hid h5'
      have HK := Lib.hid hk0
      have HB := Lib.hid hb0'
      have H1 := Lib.hid h1
      clear h1 h2' h3 h4' h5' hk0 hb0' hwr hn
      cases hA : A' (wd pre ++ [c]) with
      | some b' =>
        rw [hA] at hc2
        have HA := Lib.hid hA
        clear hA
        unfold ptrTo at hc2
        simp only [Option.map_some] at hc2
        gi_wp2
        exact ⟨(HK.out.trans (KeepsOthers.setCell _ _ _)).from _, HB.out.setCell (Nat.zero_le _) _, at_found HT.out HZ.out H2.out H3.out H4.out H5.out (by rw [hw.out]; exact HA.out)⟩
      | none =>
        rw [hA] at hc2
        have HA := Lib.hid hA
        clear hA
        unfold ptrTo at hc2
        simp only [Option.map_none] at hc2
        have hbl := H2.out.lt H1.out
        have hnx : (W.alloc (.cells #[.int .i64 0, .int .i64 0, .pointer none, .pointer none, .pointer none, .pointer none] 59)).cell? ⟨b, 2 + i, none⟩ = some (.pointer none) := by
          rw [World.cell?_alloc_old _ _ _ (by simp; omega)]; exact hc2
        gi_upto_region 7 with (fail)
        obtain ⟨W6, hW6⟩ : ∃ W6, W6 = (W.alloc (.cells #[.int .i64 0, .int .i64 0, .pointer none, .pointer none, .pointer none, .pointer none] 59)).setCell ⟨b, 2 + i, none⟩ (.pointer (some ⟨W.heap.size, 0, none⟩)) := ⟨_, rfl⟩
        rw [← World.setCell_alloc_past _ _ _ _ hbl, ← hW6]
        have hc6 : W6.cell? ⟨b, 2 + i, none⟩ = some (.pointer (some ⟨W.heap.size, 0, none⟩)) := by
          rw [hW6]; exact World.cell?_setCell_same _ _ _ hnx
        have q6 : Boxed W6 w.heap.size 53 (.pointer (some ⟨b, 0, none⟩)) := by
          rw [hW6]; exact Boxed.past (H5.out.alloc _) (fun e => hbw e.symm) _ _
        have hc7 := q6.cell
        have hf7 := q6.frozen
        have HW6 := Lib.hid hW6
        clear hW6 q6 hc0 hf0 hc2 hf2 hnx
        gi_wp2
        rw [HW6.out]
        exact ⟨(((HK.out.trans (KeepsOthers.alloc _ _)).trans (KeepsOthers.setCell _ _ _)).trans (KeepsOthers.setCell _ _ _)).from _, ((HB.out.alloc (Nat.zero_le _) _).setCell (Nat.zero_le _) _).setCell (Nat.zero_le _) _,
          at_made HT.out HZ.out H1.out H2.out H3.out H4.out H5.out hi HC.out hlp HA.out hw.out⟩
  case done =>
    rintro D ys W hD rfl ⟨hz, A', b, h1, h2, h3, h4, h5⟩ hK
    have hc0 := h5.cell
    have HZ := Lib.hid hz
    have H1 := Lib.hid (show A' v = some b by rw [← hwd]; exact h1)
    have H2 := Lib.hid h2
    have H3 := Lib.hid h3
    have H4 := Lib.hid h4
    have H5 := Lib.hid h5
    clear h1 h2 h3 h4 h5 hz
    gi_wp2
    refine ⟨by simp, .inl ⟨_, _, rfl, run_takeDeferred hK, ?_⟩⟩
    have hD' : w.heap.size ≤ D := by simp at hD; omega
    have hne : ∀ u c, A' u = some c → c ≠ D := fun u c hc e => by
      have := H2.out.cells u c hc
      rw [e, hK] at this; cases this
    refine ⟨.pointer (some ⟨b, 0, none⟩), by simp [results, Tryz.f23, go_sem], A', b, rfl, H1.out, H2.out.kept (fun u c hc => World.putObj_heap_other (hne u c hc)), fun u c => ⟨(H3.out u c).1, fun e => ?_⟩, H4.out.trans ⟨rfl, rfl, rfl, by simp, fun k hk _ => World.putObj_heap_other (by omega)⟩⟩
    rcases (H3.out u c).2 e with q | q
    · exact .inl q
    · exact .inr (by omega)
  case stop =>
    rintro D c pre W hD hpre hf
    exact hf.elim

theorem at_c (A : List UInt8 → Option Nat) (F : List UInt8 → Int × Int) (v : List UInt8) (hv : Wrd v) (w : World) (hT : Trie w A F) (b0 : Nat) (h0 : A [] = some b0) :
    Calls Tryz.prog 23 #[.pointer (some ⟨b0, 0, none⟩), .string (pB v)] w (AtPost A F v w) := callsIn_wide.1 (at_in A F v hv w hT b0 h0)

end Go.Proofs.YtnmpbocnbcokeaaGreatDoor

/-
  WALKS: impl.treeOf.
-/
namespace Go.Proofs.YtnmpbocnbcokeaaGreatDoor
open Go.RowKit
set_option linter.unusedVariables false

def lastB (a : List Nd) : ByteArray := match a.getLast? with
  | none => rootB
  | some m => m.p

theorem next_iff (a : List Nd) (n : Nd) : Next a n ↔ vpB n.p = true ∧ ltB (lastB a) n.p = true ∧ validB n.k n.v = true ∧ n.k ≠ 0 ∧ (getT a (parB n.p)).1 = 1 := Iff.rfl

/-- What treeOf returns. -/
def RootPost (ns : List Nd) (W : World) (e : Ending) (W' : World) : Prop :=
  Below W.heap.size W W' ∧ ((validT ns = false ∧ e = .returned (.tuple #[.pointer none, .bool false])) ∨
    (validT ns = true ∧ ∃ A b, e = .returned (.tuple #[.pointer (some ⟨b, 0, none⟩), .bool true]) ∧ A [] = some b ∧ Trie W' A (Fof ns) ∧ ∀ u c, A u = some c → W.heap.size ≤ c))

def RootRel (ns : List Nd) (W : World) (l i : Value) (wr : World) : Prop :=
  ∃ (n : Nat) (A : List UInt8 → Option Nat), i = .int .i64 n ∧ n ≤ ns.length ∧ l = .string (lastB (ns.take n)) ∧ Hid (validT (ns.take n) = true) ∧ Hid (Trie wr A (Fof (ns.take n))) ∧ Hid (A [] = some W.heap.size) ∧
    Hid (∀ u c, A u = some c → W.heap.size ≤ c) ∧ Hid (Below W.heap.size W wr)

theorem of_bad {ns : List Nd} {W w' : World} (h : validT ns = false) (hB : Below W.heap.size W w') : RootPost ns W (.returned (.tuple #[.pointer none, .bool false])) w' := ⟨hB, .inl ⟨h, rfl⟩⟩

/-- A node that does not fit. -/
theorem not_next {ns : List Nd} {i : Nat} {n : Nd} (hn : ns[i]? = some n) (hl : ns.length ≤ 10) (hv : validT (ns.take i) = true) (h : ¬ Next (ns.take i) n) : validT ns = false := by
  rw [Bool.eq_false_iff]
  intro hc
  have h2 := valid_pre hc (i + 1)
  have hi := (List.getElem?_eq_some_iff.1 hn).1
  rw [List.take_add_one, hn] at h2
  exact h ((valid_step (by rw [List.length_take]; omega) hv).1 h2)

theorem take_next {ns : List Nd} {i : Nat} {n : Nd} (hn : ns[i]? = some n) : ns.take (i + 1) = ns.take i ++ [n] := by
  rw [List.take_add_one, hn]; rfl

theorem lastB_app (a : List Nd) (n : Nd) : lastB (a ++ [n]) = n.p := by
  unfold lastB; rw [List.getLast?_concat]

theorem leq_of (a b : ByteArray) : (Op.bytesLess a.toList b.toList || a.toList == b.toList) = !ltB b a := by
  cases h : ltB b a with
  | true =>
    have h1 : Op.bytesLess a.toList b.toList = false := ltB_asymm h
    have h2 : (a.toList == b.toList) = false := toList_ne (ltB_ne h).symm
    rw [h1, h2]; rfl
  | false =>
    by_cases h1 : ltB a b = true
    · rw [show Op.bytesLess a.toList b.toList = true from h1]; rfl
    · have e := ltB_tri (show ltB a b = false by simpa using h1) h
      subst e; simp

theorem above_last {a : List Nd} {p : ByteArray} (h : validT a = true) (h2 : ltB (lastB a) p = true) : ltB rootB p = true := by
  obtain ⟨ha, hg, _⟩ := (validT_iff a).1 h
  unfold lastB at h2
  cases hl : a.getLast? with
  | none => rw [hl] at h2; exact h2
  | some l =>
    rw [hl] at h2
    exact ltB_trans (root_lt (hg l (List.mem_of_getLast? hl)).1) h2

theorem box3_cell {w w' : World} {cs : Array Value} {t : TypeId} (hb : Below (w.alloc (.cells cs t)).heap.size (w.alloc (.cells cs t)) w') (i : Nat) : w'.cell? ⟨w.heap.size, i, none⟩ = cs[i]? := by
  rw [hb.cell (p := ⟨w.heap.size, i, none⟩) (by simp)]
  rw [World.cell?_alloc_new]

theorem off_cell {A : List UInt8 → Option Nat} {W W' : World} (h : Off A W.heap.size W W') {B : Nat} (hB : B < W.heap.size) (hA : ∀ u c, A u = some c → c < B) (i : Nat) : W'.cell? ⟨B, i, none⟩ = W.cell? ⟨B, i, none⟩ := by
  have := h.block B hB (fun u e => by have := hA u B e; omega)
  unfold World.cell?
  rw [this]

theorem ext_from {A A' : List UInt8 → Option Nat} {n m : Nat} (h : Ext A A' n) (hm : m ≤ n) (hA : ∀ u c, A u = some c → m ≤ c) : ∀ u c, A' u = some c → m ≤ c := fun u c e => by
  rcases (h u c).2 e with q | q
  · exact hA u c q
  · omega

/-- A box that no place is in. -/
def Away (A : List UInt8 → Option Nat) (B : Nat) : Prop := ∀ u, A u ≠ some B

theorem ext_box {A A' : List UInt8 → Option Nat} {n B : Nat} (h : Ext A A' n) (hB : B < n) (hA : ∀ u c, A u = some c → c < B) : Away A' B := fun u e => by
  rcases (h u B).2 e with q | q
  · have := hA u B q; omega
  · omega

theorem ext_away {A A' : List UInt8 → Option Nat} {n B : Nat} (h : Ext A A' n) (hB : B < n) (hA : Away A B) : Away A' B := fun u e => by
  rcases (h u B).2 e with q | q
  · exact hA u q
  · omega

theorem off_cell2 {A : List UInt8 → Option Nat} {W W' : World} (h : Off A W.heap.size W W') {B : Nat} (hB : B < W.heap.size) (hA : Away A B) (i : Nat) : W'.cell? ⟨B, i, none⟩ = W.cell? ⟨B, i, none⟩ := by
  have := h.block B hB hA
  unfold World.cell?
  rw [this]

theorem past2 {W : World} {B b : Nat} (h : B ≠ b) {x y : Value} {i : Nat} : ((W.setCell ⟨b, 0, none⟩ x).setCell ⟨b, 1, none⟩ y).cell? ⟨B, i, none⟩ = W.cell? ⟨B, i, none⟩ := by
  rw [World.cell?_setCell_other _ _ _ _ (fun e => h (congrArg Addr.block e).symm), World.cell?_setCell_other _ _ _ _ (fun e => h (congrArg Addr.block e).symm)]

/-- A node more: the tree, and its places. -/
theorem of_step {ns : List Nd} {i : Nat} {p : ByteArray} {k v : Int} (hn : ns[i]? = some ⟨p, k, v⟩) (hv : validT (ns.take i) = true) {w : List UInt8} (hw : Wrd w) (hne : w ≠ []) (hp : p = pB w) (hl : ltB (lastB (ns.take i)) p = true)
    (hc : validB k v = true) (hk : k ≠ 0) (hpar : (Fof (ns.take i) w.dropLast).1 = 1) (h10 : ns.length ≤ 10) {A : List UInt8 → Option Nat} {W : World} {b : Nat} (hT : Trie W A (Fof (ns.take i))) (hb : A w = some b) :
    validT (ns.take (i + 1)) = true ∧ Trie ((W.setCell ⟨b, 0, none⟩ (.int .i64 k)).setCell ⟨b, 1, none⟩ (.int .i64 v)) A (Fof (ns.take (i + 1))) := by
  have hi := (List.getElem?_eq_some_iff.1 hn).1
  have hN : Next (ns.take i) ⟨p, k, v⟩ := (next_iff _ _).2 ⟨by show vpB p = true; rw [hp]; exact vpB_pB hw, hl, hc, hk, by
    show (getT (ns.take i) (parB p)).1 = 1
    rw [hp, parB_pB hw hne]; exact hpar⟩
  have hA := (next_above hv hN).1
  rw [take_next hn]
  refine ⟨(valid_step (by rw [List.length_take]; omega) hv).2 hN, (hT.write hb k v).congr fun u hu => ?_⟩
  exact (Fof_app (n := ⟨p, k, v⟩) hw hne hp (fun m hm => ltB_ne (hA m hm)) hu).symm

set_option maxHeartbeats 4000000 in
set_option maxRecDepth 100000 in
theorem treeOf_c (a : Option Addr) (len cap : Nat) (ns : List Nd) (hl : len ≤ 2097152) (hs : Short 2097152 ns) (W : World) (hN : NodesAt W a len ns) :
    Calls Tryz.prog 21 #[.slice a len cap] W (RootPost ns W) := by
  have HE := Lib.hid hN.1
  have HN := Lib.hid hN
  have HS := Lib.hid hs
  clear hN hs
  by_cases h10 : 10 < len
  · have hbad := Lib.hid (show validT ns = false by
      rw [Bool.eq_false_iff]; intro h
      have := ((validT_iff ns).1 h).2.2
      have := HE.out; omega)
    have h10' : (10 : Int) < len := by omega
    clear h10
    go_enter Tryz.func21, Tryz.ntmps21
    go_wp2
    refine bodyPost_ret (v := .tuple #[.pointer none, .bool false]) (by simp [results, Tryz.f21, go_sem]) rfl (of_bad hbad.out (Below.refl _ _))
  · have h10' : (len : Int) ≤ 10 := by omega
    have HL := Lib.hid (show len ≤ 10 by omega)
    clear h10
    go_enter Tryz.func21, Tryz.ntmps21
    go_wp2
    go_loopw [5, 16] (fun l i wr => RootRel ns W l i wr) (fun _ i _ => len - (intOf i).toNat)
    case atStart =>
      refine ⟨0, fun w => if w = [] then some W.heap.size else none, rfl, by omega, rfl, (show validT [] = true by decide), Trie.new W, if_pos rfl, fun u c hc => ?_, below_box _ _⟩
      simp at hc; omega
    case round =>
      obtain ⟨i, A, rfl, hi, rfl, HV, HT, HA0, HA, HB⟩ := hrel
      by_cases hlt : i < len
      · obtain ⟨b, off, n, rfl, hn, c0, c1, c2⟩ := (HN.out.keep HB.out).node hlt
        have hlt' : (i : Int) < len := by omega
        have HLT := Lib.hid hlt
        have HNN := Lib.hid hn
        have hsz := HS.out n (List.mem_of_getElem? hn)
        have HP := Lib.hid (fun W1 => pathValid_c n.p (by omega) W1)
        obtain ⟨vp, hvp⟩ : ∃ vp, vpB n.p = vp := ⟨_, rfl⟩
        have HP := Lib.hid (fun W1 => show Calls Tryz.prog 22 #[.string n.p] W1 (BoolPost vp W1) by rw [← hvp]; exact pathValid_c n.p (by omega) W1)
        have HVP := Lib.hid hvp
        obtain ⟨lb, hlb⟩ : ∃ lb, lastB (ns.take i) = lb := ⟨_, rfl⟩
        rw [hlb]
        have HLB := Lib.hid hlb
        have HSZ := Lib.hid hsz
        obtain ⟨p, k, v⟩ := n
        clear hlt hn hi hsz hvp hlb
        simp only at HP HVP HSZ c0 c1 c2
        go_wp2_with fail
        refine (HP.out _).mono ?_
        rintro e W2 ⟨rfl, hb2⟩
        have q0 := box3_cell hb2 0
        have q1 := box3_cell hb2 1
        have q2 := box3_cell hb2 2
        simp at q0 q1 q2
        have HB2 := Lib.hid (below_next HB.out (below_next (below_box _ _) hb2))
        have HT2 := Lib.hid ((HT.out.below (below_box _ _)).below hb2)
        have hN2 : wr.heap.size < W2.heap.size := by have := hb2.size; simp at this; omega
        have HAN := Lib.hid (show ∀ u c, A u = some c → c < wr.heap.size from fun u c h => HT.out.lt h)
        clear c0 c1 c2 hb2
        cases vp with
        | false =>
          go_wp2
          refine bodyPost_ret (v := .tuple #[.pointer none, .bool false]) (by simp [results, Tryz.f21, go_sem]) rfl (of_bad (not_next HNN.out (by have := HE.out; have := HL.out; omega) HV.out (fun h => ?_)) HB2.out)
          have := h.1
          rw [show vpB p = false from HVP.out] at this; cases this
        | true =>
          obtain ⟨lq, hlq⟩ : ∃ lq, ltB lb p = lq := ⟨_, rfl⟩
          have hle := leq_of p lb
          rw [hlq] at hle
          have HLQ := Lib.hid hlq
          have HVC := Lib.hid (fun W1 => implValid_c k v W1)
          obtain ⟨vb, hvb⟩ : ∃ vb, validB k v = vb := ⟨_, rfl⟩
          rw [hvb] at HVC
          have HVB := Lib.hid hvb
          clear hlq hvb
          cases lq with
          | false =>
            go_wp2
            refine bodyPost_ret (v := .tuple #[.pointer none, .bool false]) (by simp [results, Tryz.f21, go_sem]) rfl (of_bad (not_next HNN.out (by have := HE.out; have := HL.out; omega) HV.out (fun h => ?_)) HB2.out)
            have := ((next_iff _ _).1 h).2.1
            rw [HLB.out, show ltB lb p = false from HLQ.out] at this; cases this
          | true =>
            go_wp2_with fail
            refine (HVC.out _).mono ?_
            rintro e W3 ⟨rfl, hb3⟩
            have r0 := cell_kept hb3 q0
            have r1 := cell_kept hb3 q1
            have r2 := cell_kept hb3 q2
            have HB3 := Lib.hid (below_next HB2.out hb3)
            have HT3 := Lib.hid (HT2.out.below hb3)
            have hN3 : wr.heap.size < W3.heap.size := by have := hb3.size; omega
            clear q0 q1 q2 hb3
            cases vb with
            | false =>
              go_wp2
              refine bodyPost_ret (v := .tuple #[.pointer none, .bool false]) (by simp [results, Tryz.f21, go_sem]) rfl (of_bad (not_next HNN.out (by have := HE.out; have := HL.out; omega) HV.out (fun h => ?_)) HB3.out)
              have := ((next_iff _ _).1 h).2.2.1
              rw [show validB k v = false from HVB.out] at this; cases this
            | true =>
              by_cases hk0 : k = 0
              · have hkb : (k == 0) = true := by rw [hk0]; rfl
                have HK0 := Lib.hid hk0
                clear hk0
                go_wp2
                refine bodyPost_ret (v := .tuple #[.pointer none, .bool false]) (by simp [results, Tryz.f21, go_sem]) rfl (of_bad (not_next HNN.out (by have := HE.out; have := HL.out; omega) HV.out (fun h => ?_)) HB3.out)
                exact ((next_iff _ _).1 h).2.2.2.1 HK0.out
              · have hkb : (k == 0) = false := by simpa using hk0
                have HK0 := Lib.hid hk0
                clear hk0
                obtain ⟨w, hw, hpw⟩ := vpB_word HVP.out
                have hne : w ≠ [] := by
                  rintro rfl
                  have hx := above_last HV.out (by rw [HLB.out]; exact HLQ.out)
                  rw [hpw, pB_root, ltB_irrefl] at hx; cases hx
                have HW := Lib.hid hw
                have HPW := Lib.hid hpw
                have HNE := Lib.hid hne
                have hpar : parentB p = pB w.dropLast := by rw [hpw]; exact parB_pB hw hne
                have HPP := Lib.hid (fun W1 => show Calls Tryz.prog 41 #[.string p] W1 (fun e w' => e = .returned (.string (pB w.dropLast)) ∧ Below W1.heap.size W1 w') by rw [← hpar]; exact pathParent_c p HSZ.out W1)
                clear hpar hw hpw hne
                go_wp2_with fail
                refine (HPP.out _).mono ?_
                rintro e W4 ⟨rfl, hb4⟩
                have s0 := cell_kept hb4 r0
                have s1 := cell_kept hb4 r1
                have s2 := cell_kept hb4 r2
                have HB4 := Lib.hid (below_next HB3.out hb4)
                have HT4 := Lib.hid (HT3.out.below hb4)
                have hN4 : wr.heap.size < W4.heap.size := by have := hb4.size; omega
                clear r0 r1 r2 hb4
                go_wp2_with fail
                refine (at_c A _ _ HW.out.dropLast _ HT4.out _ HA0.out).mono ?_
                rintro e W5 ⟨A5, b5, rfl, hb5, hT5, hX5, hO5⟩
                have hoff5 := hO5
                have u0 : W5.cell? ⟨wr.heap.size, 0, none⟩ = some (.string p) := (off_cell hO5 hN4 HAN.out 0).trans s0
                have u1 : W5.cell? ⟨wr.heap.size, 1, none⟩ = some (.int .i64 k) := (off_cell hO5 hN4 HAN.out 1).trans s1
                have u2 : W5.cell? ⟨wr.heap.size, 2, none⟩ = some (.int .i64 v) := (off_cell hO5 hN4 HAN.out 2).trans s2
                have HB5 := Lib.hid (HB4.out.trans (hO5.below HB4.out.size HA.out))
                have HA5 := Lib.hid (ext_from hX5 HB4.out.size HA.out)
                have HAN5 := Lib.hid (ext_box hX5 (show wr.heap.size < W4.heap.size from hN4) HAN.out)
                have HR5 := Lib.hid ((hX5 [] _).1 HA0.out)
                have HT5 := Lib.hid hT5
                have t0 := hT5.cell hb5 0
                have hN5 : wr.heap.size < W5.heap.size := by have := hO5.size; omega
                have HB5' := Lib.hid hb5
                obtain ⟨k5, hk5⟩ : ∃ k5, k5 = (Fof (ns.take i) w.dropLast).1 := ⟨_, rfl⟩
                have t0' : W5.cell? ⟨b5, 0, none⟩ = some (.int .i64 k5) := by rw [hk5]; exact t0
                have HK5 := Lib.hid hk5
                clear s0 s1 s2 hO5 hoff5 hX5 hT5 t0 hb5 hk5
                by_cases h1 : k5 = 1
                · have hkb1 : (k5 == 1) = true := by rw [h1]; rfl
                  have H1 := Lib.hid h1
                  clear h1
                  go_upto_region 14 with (fail)
                  have HS0 := Lib.hid (show W5.drew.cell? ⟨wr.heap.size, 0, none⟩ = some (.string p) ∧ W5.drew.cell? ⟨wr.heap.size, 1, none⟩ = some (.int .i64 k) ∧ W5.drew.cell? ⟨wr.heap.size, 2, none⟩ = some (.int .i64 v) from ⟨u0, u1, u2⟩)
                  have HAT := Lib.hid (show Calls Tryz.prog 23 #[.pointer (some ⟨W.heap.size, 0, none⟩), .string p] W5.drew (AtPost A5 (Fof (ns.take i)) w W5.drew) by
                    rw [HPW.out]; exact at_c A5 _ w HW.out W5.drew (HT5.out.kept (W' := W5.drew) fun _ _ _ => rfl) _ HR5.out)
                  refine wp_region_held_drew (S := (fun w' => w'.cell? ⟨wr.heap.size, 0, none⟩ = some (.string p) ∧ w'.cell? ⟨wr.heap.size, 1, none⟩ = some (.int .i64 k) ∧ w'.cell? ⟨wr.heap.size, 2, none⟩ = some (.int .i64 v))) (by kernel_rfl) HS0.out (fun hH => ?_)
                  refine wpAnyH_take (i := 0) (oi := _) (v := ?_) rfl (by kernel_rfl) (by kernel_rfl) (by kernel_rfl) (fun _ _ _ h => h) (Or.inl ⟨by rfl, ?_⟩) (by assumption) ?_
                  rotate_left
                  · (intro w hSw; (try dsimp only at hSw); go_simp; try with_reducible rfl)
                  try simp only [Act.put, List.getElem_toArray, List.getElem_cons_zero, List.setIfInBounds_toArray, List.set_cons_zero, List.set_cons_succ]
                  refine wpAnyH_take (i := 1) (oi := _) (v := ?_) rfl (by kernel_rfl) (by kernel_rfl) (by kernel_rfl) (fun _ _ _ h => h) (Or.inl ⟨by rfl, ?_⟩) (by assumption) ?_
                  rotate_left
                  · (intro w hSw; (try dsimp only at hSw); go_simp; try with_reducible rfl)
                  try simp only [Act.put, List.getElem_toArray, List.getElem_cons_zero, List.getElem_cons_succ, List.setIfInBounds_toArray, List.set_cons_zero, List.set_cons_succ]
                  refine wpAnyH_take (i := 2) (oi := _) (v := ?_) rfl (by kernel_rfl) (by kernel_rfl) (by kernel_rfl) (fun _ _ _ h => h) (Or.inl ⟨by rfl, ?_⟩) (by assumption) ?_
                  rotate_left
                  · (intro w hSw; (try dsimp only at hSw); go_simp; try with_reducible rfl)
                  try simp only [Act.put, List.getElem_toArray, List.getElem_cons_zero, List.getElem_cons_succ, List.setIfInBounds_toArray, List.set_cons_zero, List.set_cons_succ]
                  refine wpAnyH_take (i := 4) (oi := _) (v := ?_) rfl (by kernel_rfl) (by kernel_rfl) (by kernel_rfl) (fun _ _ _ h => h) (Or.inl ⟨by rfl, ?_⟩) (by assumption) ?_
                  rotate_left
                  · (intro w hSw; (try dsimp only at hSw); go_simp; try with_reducible rfl)
                  try simp only [Act.put, List.getElem_toArray, List.getElem_cons_zero, List.getElem_cons_succ, List.setIfInBounds_toArray, List.set_cons_zero, List.set_cons_succ]
                  refine wpAnyH_take (i := 5) (oi := _) (v := ?_) rfl (by kernel_rfl) (by kernel_rfl) (by kernel_rfl) (fun _ _ _ h => h) (Or.inl ⟨by rfl, ?_⟩) (by assumption) ?_
                  rotate_left
                  · (intro w hSw; (try dsimp only at hSw); go_simp; try with_reducible rfl)
                  try simp only [Act.put, List.getElem_toArray, List.getElem_cons_zero, List.getElem_cons_succ, List.setIfInBounds_toArray, List.set_cons_zero, List.set_cons_succ]
                  refine wpAnyH_ready (rs := [3]) (by kernel_rfl) (by simp) ?_
                  refine AllReadyH.cons rfl (fun K hK => ?_) (AllReadyH.nil)
                  go_simp
                  go_at_call 23; (with_reducible refine (HAT.out).mono ?_); rintro e W6 ⟨A6, b6, rfl, hb6, hT6, hX6, hO6⟩
                  refine hK.out _ _ ⟨(off_cell2 hO6 hN5 HAN5.out 0).trans u0, (off_cell2 hO6 hN5 HAN5.out 1).trans u1, (off_cell2 hO6 hN5 HAN5.out 2).trans u2⟩ (fun hHeld => ?_)
                  try simp only [Act.put, List.getElem_toArray, List.getElem_cons_zero, List.getElem_cons_succ, List.setIfInBounds_toArray, List.set_cons_zero, List.set_cons_succ]
                  have f60 := hT6.frozen hb6 0
                  have f61 := hT6.frozen hb6 1
                  have c60 := hT6.cell hb6 0
                  have c61 := hT6.cell hb6 1
                  simp only [plc, List.getElem?_toArray, List.getElem?_cons_zero, List.getElem?_cons_succ] at c60 c61
                  refine wpAnyH_take (i := 6) (oi := _) (v := ?_) rfl (by kernel_rfl) (by kernel_rfl) (by kernel_rfl) (fun _ _ _ h => h) (Or.inl ⟨by rfl, ?_⟩) (by assumption) ?_
                  rotate_left
                  · (intro w hSw; (try dsimp only at hSw); go_simp; try with_reducible rfl)
                  try simp only [Act.put, List.getElem_toArray, List.getElem_cons_zero, List.getElem_cons_succ, List.setIfInBounds_toArray, List.set_cons_zero, List.set_cons_succ]
                  refine wpAnyH_take (i := 7) (oi := _) (v := ?_) rfl (by kernel_rfl) (by kernel_rfl) (by kernel_rfl) (fun _ _ _ h => h) (Or.inl ⟨by rfl, ?_⟩) (by assumption) ?_
                  rotate_left
                  · (intro w hSw; (try dsimp only at hSw); go_simp; try with_reducible rfl)
                  try simp only [Act.put, List.getElem_toArray, List.getElem_cons_zero, List.getElem_cons_succ, List.setIfInBounds_toArray, List.set_cons_zero, List.set_cons_succ]
                  refine wpAnyH_ready (rs := [8]) (by kernel_rfl) (by simp) ?_
                  refine AllReadyH.cons rfl (fun K hK => ?_) (AllReadyH.nil)
                  go_simp
                  have hAw6 := ext_away hX6 (show wr.heap.size < W5.drew.heap.size from hN5) HAN5.out
                  have hnb : wr.heap.size ≠ b6 := fun e => hAw6 w (by rw [e]; exact hb6)
                  have HEND := Lib.hid (of_step (k := k) (v := v) HNN.out HV.out HW.out HNE.out HPW.out (by rw [HLB.out]; exact HLQ.out) HVB.out HK0.out (by have h7 := HK5.out; rw [H1.out] at h7; exact h7.symm) (by have := HE.out; have := HL.out; omega) hT6 hb6)
                  have HB6 := Lib.hid (show Below W.heap.size W ((W6.setCell ⟨b6, 0, none⟩ (.int .i64 k)).setCell ⟨b6, 1, none⟩ (.int .i64 v)) from
                    ((HB5.out.trans (show Below W.heap.size W5 W6 from ⟨hO6.os, hO6.tape, hO6.output, hO6.size, fun j hj => hO6.block j (by have := HB5.out.size; show j < W5.heap.size; omega) fun u e => by have := HA5.out u j e; omega⟩)).setCell (ext_from hX6 (show W.heap.size ≤ W5.drew.heap.size from HB5.out.size) HA5.out w b6 hb6) _).setCell (ext_from hX6 (show W.heap.size ≤ W5.drew.heap.size from HB5.out.size) HA5.out w b6 hb6) _)
                  have HA6 := Lib.hid (ext_from hX6 (show W.heap.size ≤ W5.drew.heap.size from HB5.out.size) HA5.out)
                  have HR6 := Lib.hid ((hX6 [] _).1 HR5.out)
                  have z0 : ((W6.setCell ⟨b6, 0, none⟩ (.int .i64 k)).setCell ⟨b6, 1, none⟩ (.int .i64 v)).cell? ⟨wr.heap.size, 0, none⟩ = some (.string p) := (past2 hnb).trans ((off_cell2 hO6 hN5 HAN5.out 0).trans u0)
                  refine hK.out _ _ ⟨z0, (past2 hnb).trans ((off_cell2 hO6 hN5 HAN5.out 1).trans u1), (past2 hnb).trans ((off_cell2 hO6 hN5 HAN5.out 2).trans u2)⟩ (fun hHeld => ?_)
                  try simp only [Act.put, List.getElem_toArray, List.getElem_cons_zero, List.getElem_cons_succ, List.setIfInBounds_toArray, List.set_cons_zero, List.set_cons_succ]
                  refine wpAnyH_done (by kernel_rfl) ?_ _
                  clear hK hO6 hX6 hT6 hb6 f60 f61 c60 c61 u0 u1 u2 t0'
                  generalize (W6.setCell ⟨b6, 0, none⟩ (.int .i64 k)).setCell ⟨b6, 1, none⟩ (.int .i64 v) = W7 at HEND HB6 z0 ⊢
                  go_wp2
                  go_roundw
                  case rel => exact ⟨i + 1, A6, by go_num, by have := HE.out; have := HLT.out; omega, by rw [take_next HNN.out, lastB_app], HEND.out.1, HEND.out.2, HR6.out, HA6.out, HB6.out⟩
                  case measure => have := HLT.out; simp [intOf]; omega
                · have hkb1 : (k5 == 1) = false := by simpa using h1
                  have H1 := Lib.hid h1
                  clear h1
                  go_wp2
                  refine bodyPost_ret (v := .tuple #[.pointer none, .bool false]) (by simp [results, Tryz.f21, go_sem]) rfl (of_bad (not_next HNN.out (by have := HE.out; have := HL.out; omega) HV.out (fun h => ?_)) HB5.out)
                  have := ((next_iff _ _).1 h).2.2.2.2
                  rw [show (⟨p, k, v⟩ : Nd).p = p from rfl, HPW.out, parB_pB HW.out HNE.out] at this
                  exact H1.out (HK5.out.trans this)
      · have hge : (len : Int) ≤ i := by omega
        have hieq : i = len := by have := HE.out; omega
        have htk : ns.take i = ns := List.take_of_length_le (by have := HE.out; omega)
        rw [htk] at HV HT
        go_wp2
        refine bodyPost_ret (v := .tuple #[.pointer (some ⟨W.heap.size, 0, none⟩), .bool true]) (by simp [results, Tryz.f21, go_sem]) rfl ⟨HB.out, .inr ⟨HV.out, A, W.heap.size, rfl, HA0.out, HT.out, HA.out⟩⟩

end Go.Proofs.YtnmpbocnbcokeaaGreatDoor

/-
  WALKS: impl.TreeValid, impl.TreeGet.
-/
namespace Go.Proofs.YtnmpbocnbcokeaaGreatDoor
open Go.RowKit
set_option linter.unusedVariables false

set_option maxHeartbeats 1000000 in
set_option maxRecDepth 100000 in
theorem implTreeValid_c (a : Option Addr) (len cap : Nat) (ns : List Nd) (hl : len ≤ 2097152) (hs : Short 2097152 ns) (W : World) (hN : NodesAt W a len ns) :
    Calls Tryz.prog 31 #[.slice a len cap] W (BoolPost (validT ns) W) := by
  have H := Lib.hid (treeOf_c a len cap ns hl hs W hN)
  clear hN hs
  go_enter Tryz.func31, Tryz.ntmps31
  go_wp2_with fail
  refine H.out.mono ?_
  rintro e W2 ⟨hB, ⟨hv, rfl⟩ | ⟨hv, A, b, rfl, _, _, _⟩⟩
  · have HV := Lib.hid hv
    clear hv
    go_wp2
    go_ret
    exact ⟨ret_bool HV.out.symm, hB⟩
  · have HV := Lib.hid hv
    clear hv
    go_wp2
    go_ret
    exact ⟨ret_bool HV.out.symm, hB⟩

theorem treeGet_bad {ns : List Nd} {p : ByteArray} (h : validT ns = false ∨ vpB p = false) : treeGet ns p = (0, 0) := by
  unfold treeGet
  rcases h with h | h <;> simp [h]

set_option maxHeartbeats 2000000 in
set_option maxRecDepth 100000 in
theorem implTreeGet_c (a : Option Addr) (len cap : Nat) (ns : List Nd) (p : ByteArray) (hl : len ≤ 2097152) (hs : Short 2097152 ns) (hp : p.size ≤ 2097152) (W : World) (hN : NodesAt W a len ns) :
    Calls Tryz.prog 8 #[.slice a len cap, .string p] W (ConRet (treeGet ns p).1 (treeGet ns p).2 W) := by
  have H := Lib.hid (fun W1 (hb : Below W.heap.size W W1) => treeOf_c a len cap ns hl hs W1 (hN.keep hb))
  have HS := Lib.hid hs
  have HN := Lib.hid hN
  obtain ⟨vp, hvp⟩ : ∃ vp, vpB p = vp := ⟨_, rfl⟩
  have HP := Lib.hid (fun W1 => show Calls Tryz.prog 22 #[.string p] W1 (BoolPost vp W1) by rw [← hvp]; exact pathValid_c p (by omega) W1)
  have HVP := Lib.hid hvp
  clear hN hs hvp
  go_enter Tryz.func8, Tryz.ntmps8
  go_wp2_with fail
  refine (H.out _ (below_box _ _)).mono ?_
  rintro e W2 ⟨hB, h⟩
  rcases h with ⟨hv, rfl⟩ | ⟨hv, A, b, rfl, hA0, hT, hA⟩
  · have HG := Lib.hid (treeGet_bad (p := p) (.inl hv))
    have T1 := Lib.hid ((two_new W _ _ _).below hB)
    have B1 := Lib.hid (below_next (below_box W _) hB)
    obtain ⟨g0, g1, f0, f1, -⟩ := T1.out
    clear hv hB
    go_wp2
    exact conS_set 4 _ rfl HG.out T1.out B1.out rfl
  · have HV := Lib.hid hv
    have HB1 := Lib.hid hB
    have HT := Lib.hid hT
    have HA := Lib.hid hA
    have HA0 := Lib.hid hA0
    clear hv hB hT hA hA0
    go_wp2_with fail
    refine (HP.out _).mono ?_
    rintro e W3 ⟨rfl, hb3⟩
    cases vp with
    | false =>
      have HG := Lib.hid (treeGet_bad (ns := ns) (p := p) (.inr HVP.out))
      have T1 := Lib.hid (((two_new W _ _ _).below HB1.out).below hb3)
      have B1 := Lib.hid (below_next (below_box W _) (below_next HB1.out hb3))
      obtain ⟨g0, g1, f0, f1, -⟩ := T1.out
      clear hb3
      go_wp2
      exact conS_set 4 _ rfl HG.out T1.out B1.out rfl
    | true =>
      obtain ⟨w, hw, hpw⟩ := vpB_word HVP.out
      have HG := Lib.hid (show treeGet ns p = ((Fof ns w).1, (Fof ns w).2) by rw [treeGet_eq HV.out HVP.out, hpw]; rfl)
      have HB3 := Lib.hid (below_next HB1.out hb3)
      have HAT := Lib.hid (show Calls Tryz.prog 23 #[.pointer (some ⟨b, 0, none⟩), .string p] W3 (AtPost A (Fof ns) w W3) by
        rw [hpw]; exact at_c A _ w hw W3 (HT.out.below hb3) _ HA0.out)
      clear hb3 hw hpw
      go_wp2_with fail
      refine HAT.out.mono ?_
      rintro e W4 ⟨A4, b4, rfl, hb4, hT4, hX4, hO4⟩
      have HB4 := Lib.hid (HB3.out.trans (hO4.below (m := (W.alloc (.cells #[.int .i64 0, .int .i64 0] 25)).heap.size) HB3.out.size HA.out))
      have T1 := Lib.hid ((two_new W _ _ _).below HB4.out)
      have B1 := Lib.hid (below_next (below_box W _) HB4.out)
      obtain ⟨g0, g1, f0, f1, -⟩ := T1.out
      have c0 := hT4.cell hb4 0
      have c1 := hT4.cell hb4 1
      have c0' : W4.cell? ⟨b4, 0, none⟩ = some (.int .i64 (Fof ns w).1) := c0
      have c1' : W4.cell? ⟨b4, 1, none⟩ = some (.int .i64 (Fof ns w).2) := c1
      clear hO4 hX4 hT4 hb4 c0 c1
      generalize (Fof ns w).1 = k at c0' HG
      generalize (Fof ns w).2 = v at c1' HG
      go_wp2
      exact conS_set 4 _ rfl HG.out T1.out B1.out rfl

end Go.Proofs.YtnmpbocnbcokeaaGreatDoor

/-
  TEXTS OF PLACES: what stands ahead of a name (strings.TrimSuffix of a slash, and a slash).
-/
namespace Go.Proofs.YtnmpbocnbcokeaaGreatDoor
open Go.RowKit

def begB (v : List UInt8) : ByteArray := if v = [] then ⟨#[47]⟩ else pB v ++ ⟨#[47]⟩

theorem begB_name (v : List UInt8) (c : UInt8) : begB v ++ ⟨#[c]⟩ = pB (v ++ [c]) := by
  unfold begB
  by_cases h : v = []
  · rw [if_pos h, h]; rfl
  · rw [if_neg h]
    apply ByteArray.ext
    apply Array.ext'
    simp only [ByteArray.data_append, Array.toList_append]
    rw [pB_list, pB_list]
    unfold Pm.pathOf
    rw [if_neg h, if_neg (by simp), Pm.flat_append, List.append_assoc]
    rfl

theorem pB_last {v : List UInt8} (hv : Wrd v) (hn : v ≠ []) : ∃ m c, (pB v).size = m + 1 ∧ ((pB v).extract m (m + 1)).toList = [c] ∧ c ≠ 47 := by
  have e := Pm.flat_last v hn
  have hs : (pB v).data.toList = Pm.flat v.dropLast ++ [47, v.getLast hn] := by
    rw [pB_list]; unfold Pm.pathOf; rw [if_neg hn]; exact e
  have hz : (pB v).size = (Pm.flat v.dropLast ++ [47, v.getLast hn]).length := by rw [← hs]; rfl
  refine ⟨(Pm.flat v.dropLast).length + 1, v.getLast hn, by rw [hz]; simp, ?_, Pm.letter_not_47 (hv.2 _ (List.getLast_mem hn))⟩
  rw [Lib.toList_data, ByteArray.data_extract, Array.toList_extract, hs]
  simp [List.extract_eq_take_drop]

set_option maxHeartbeats 400000 in
set_option maxRecDepth 100000 in
theorem hasSuffix_word {v : List UInt8} (hv : Wrd v) (hn : v ≠ []) (w : World) :
    Calls Tryz.prog 85 #[.string (pB v), .string ⟨#[47]⟩] w fun e w' => e = .returned (.bool false) ∧ w' = w := by
  obtain ⟨m, c, h1, h2, h3⟩ := pB_last hv hn
  have hmax : m ≤ 7 := by
    have : (pB v).size ≤ 8 := by
      show (Pm.pathOf v).length ≤ 8
      unfold Pm.pathOf; rw [if_neg hn, Pm.flat_length]; have := hv.1; omega
    omega
  obtain ⟨s, hs⟩ : ∃ s, s = pB v := ⟨_, rfl⟩
  rw [← hs] at h1 h2 ⊢
  clear hs
  have e1 : ((m : Int) + 1 - 1).toNat = m := by omega
  have e2 : (c == 47) = false := by simpa using h3
  have e3 : (1 : Int) ≤ m + 1 := by omega
  clear h3
  go_enter Tryz.func85, Tryz.ntmps85
  go_wp2
  go_ret
  exact ⟨rfl, rfl⟩

set_option maxHeartbeats 400000 in
set_option maxRecDepth 100000 in
theorem hasSuffix_root (w : World) :
    Calls Tryz.prog 85 #[.string ⟨#[47]⟩, .string ⟨#[47]⟩] w fun e w' => e = .returned (.bool true) ∧ w' = w := by
  have h : (((⟨#[47]⟩ : ByteArray).extract 0 1).toList == [47]) = true := by rw [Lib.toList_data]; rfl
  go_enter Tryz.func85, Tryz.ntmps85
  go_wp2
  go_ret
  exact ⟨rfl, rfl⟩

set_option maxHeartbeats 400000 in
set_option maxRecDepth 100000 in
theorem slTrim_c {v : List UInt8} (hv : Wrd v) (w : World) :
    Calls Tryz.prog 81 #[.string (pB v), .string ⟨#[47]⟩] w fun e w' => e = .returned (.string (if v = [] then ⟨#[]⟩ else pB v)) ∧ w' = w := by
  by_cases hn : v = []
  · subst hn
    rw [if_pos rfl]
    have hc := fun w => hasSuffix_root w
    show Calls Tryz.prog 81 #[.string ⟨#[47]⟩, .string ⟨#[47]⟩] w _
    go_enter Tryz.func81, Tryz.ntmps81
    go_wp2_with (go_at_call 85; refine (hc _).mono ?_; rintro e w' ⟨rfl, rfl⟩)
    go_ret
    exact ⟨rfl, rfl⟩
  · rw [if_neg hn]
    have hc := fun w => hasSuffix_word hv hn w
    generalize pB v = s at hc ⊢
    go_enter Tryz.func81, Tryz.ntmps81
    go_wp2_with (go_at_call 85; refine (hc _).mono ?_; rintro e w' ⟨rfl, rfl⟩)
    go_ret
    exact ⟨rfl, rfl⟩

set_option maxHeartbeats 400000 in
set_option maxRecDepth 100000 in
theorem trim_c {v : List UInt8} (hv : Wrd v) (w : World) :
    Calls Tryz.prog 69 #[.string (pB v), .string ⟨#[47]⟩] w fun e w' => e = .returned (.string (if v = [] then ⟨#[]⟩ else pB v)) ∧ w' = w := by
  have hc := fun w => slTrim_c hv w
  generalize pB v = s at hc ⊢
  generalize (if v = [] then (⟨#[]⟩ : ByteArray) else s) = t at hc ⊢
  go_enter Tryz.func69, Tryz.ntmps69
  go_wp2_with (go_at_call 81; refine (hc _).mono ?_; rintro e w' ⟨rfl, rfl⟩)
  go_ret
  exact ⟨rfl, rfl⟩

theorem beg_eq (v : List UInt8) : (if v = [] then (⟨#[]⟩ : ByteArray) else pB v) ++ ⟨#[47]⟩ = begB v := by
  unfold begB; split <;> rfl

end Go.Proofs.YtnmpbocnbcokeaaGreatDoor

/-
  WALKS: the nodes behind a place (impl.place.nodes).
-/
namespace Go.Proofs.YtnmpbocnbcokeaaGreatDoor
open Go.RowKit
set_option linter.unusedVariables false

/-- What is behind one letter. -/
def part (F : List UInt8 → Int × Int) (d : Nat) (w : List UInt8) (c : UInt8) : List Nd := oneAt F (w ++ [c]) ++ lst F d (w ++ [c])
def accN (F : List UInt8 → Int × Int) (d : Nat) (w : List UInt8) (n : Nat) : List Nd := (letters.take n).flatMap (part F d w)

theorem accN_four (F : List UInt8 → Int × Int) (d : Nat) (w : List UInt8) : accN F d w 4 = lst F (d + 1) w := rfl

theorem lst_len (F : List UInt8 → Int × Int) : ∀ (d : Nat) (w : List UInt8), (lst F d w).length + 1 ≤ 8 ^ d
  | 0, _ => by simp [lst]
  | d + 1, w => by
    have ho : ∀ u, (oneAt F u).length ≤ 1 := fun u => by unfold oneAt; split <;> simp
    have h1 := lst_len F d (w ++ [97])
    have h2 := lst_len F d (w ++ [98])
    have h3 := lst_len F d (w ++ [99])
    have h4 := lst_len F d (w ++ [100])
    have o1 := ho (w ++ [97])
    have o2 := ho (w ++ [98])
    have o3 := ho (w ++ [99])
    have o4 := ho (w ++ [100])
    have e : (lst F (d + 1) w).length = ((oneAt F (w ++ [97])).length + (lst F d (w ++ [97])).length) + (((oneAt F (w ++ [98])).length + (lst F d (w ++ [98])).length) + (((oneAt F (w ++ [99])).length + (lst F d (w ++ [99])).length) + ((oneAt F (w ++ [100])).length + (lst F d (w ++ [100])).length))) := by
      rw [show lst F (d + 1) w = letters.flatMap (part F d w) from rfl]
      unfold letters
      simp only [List.flatMap_cons, List.flatMap_nil, List.length_append, List.length_nil, Nat.add_zero]
      unfold part
      simp only [List.length_append]
    rw [e, Nat.pow_succ]
    have : 1 ≤ 8 ^ d := Nat.one_le_pow _ _ (by omega)
    omega

theorem lst_le {F : List UInt8 → Int × Int} {d : Nat} (hd : d ≤ 4) (w : List UInt8) : (lst F d w).length ≤ 4096 := by
  have h := lst_len F d w
  have : 8 ^ d ≤ 8 ^ 4 := Nat.pow_le_pow_right (by omega) hd
  omega

theorem accN_le {F : List UInt8 → Int × Int} {d : Nat} (hd : d < 4) (w : List UInt8) (n : Nat) : (accN F d w n).length ≤ 4096 := by
  have h : (accN F d w n).length ≤ (lst F (d + 1) w).length := by
    unfold accN
    rw [show lst F (d + 1) w = (letters.take n ++ letters.drop n).flatMap (part F d w) by rw [List.take_append_drop]; rfl, List.flatMap_append, List.length_append]
    omega
  have := lst_le (F := F) (show d + 1 ≤ 4 by omega) w
  omega

theorem accN_next (F : List UInt8 → Int × Int) (d : Nat) (w : List UInt8) {n : Nat} (hn : n < 4) : accN F d w (n + 1) = accN F d w n ++ part F d w (UInt8.ofNat (97 + n)) := by
  rcases (by omega : n = 0 ∨ n = 1 ∨ n = 2 ∨ n = 3) with rfl | rfl | rfl | rfl <;> simp [accN, letters] <;> rfl

theorem oneAt_zero {F : List UInt8 → Int × Int} {u : List UInt8} (h : (F u).1 = 0) : oneAt F u = [] := if_pos h
theorem oneAt_some {F : List UInt8 → Int × Int} {u : List UInt8} (h : (F u).1 ≠ 0) : oneAt F u = [ndAt F u] := if_neg h

theorem none_down {W : World} {A : List UInt8 → Option Nat} {F : List UInt8 → Int × Int} (h : Trie W A F) {w : List UInt8} (hn : A w = none) : ∀ u, A (w ++ u) = none := by
  intro u
  generalize hl : u.length = n
  induction n generalizing u with
  | zero => rw [List.length_eq_zero_iff.1 hl, List.append_nil]; exact hn
  | succ n ih =>
    have hu : u ≠ [] := fun e => by rw [e] at hl; cases hl
    have e := List.dropLast_concat_getLast hu
    rw [← e, ← List.append_assoc]
    exact h.up _ _ (ih _ (by rw [List.length_dropLast, hl]; rfl))

theorem part_none {W : World} {A : List UInt8 → Option Nat} {F : List UInt8 → Int × Int} (h : Trie W A F) {w : List UInt8} (hw : Wrd w) {d : Nat} (hd : w.length + (d + 1) ≤ 4) {c : UInt8} (hc : Pm.letter c = true) (hn : A (w ++ [c]) = none) : part F d w c = [] := by
  have hz : ∀ u, Wrd (w ++ [c] ++ u) → F (w ++ [c] ++ u) = (0, 0) := fun u hu => h.nil _ hu (none_down h hn u)
  have hwc : ∀ u, u.length ≤ d → (∀ x ∈ u, Pm.letter x = true) → Wrd (w ++ [c] ++ u) := fun u hu hl => ⟨by simp; omega, fun x hx => by
    rcases List.mem_append.1 hx with hx | hx
    · rcases List.mem_append.1 hx with hx | hx
      · exact hw.2 x hx
      · rw [List.mem_singleton.1 hx]; exact hc
    · exact hl x hx⟩
  unfold part
  rw [oneAt_zero, List.nil_append, List.eq_nil_iff_forall_not_mem]
  · intro x hx
    obtain ⟨c', u, h1, h2, h3, _⟩ := mem_lst.1 hx
    rw [hz (c' :: u) (hwc _ (by rw [List.length_cons]; omega) h2)] at h3
    exact h3 rfl
  · have := hz [] (hwc [] (by simp) (by simp))
    rw [List.append_nil] at this
    rw [this]

theorem letter_nth {n : Nat} (hn : n < 4) : Pm.letter (UInt8.ofNat (97 + n)) = true := by
  rcases (by omega : n = 0 ∨ n = 1 ∨ n = 2 ∨ n = 3) with rfl | rfl | rfl | rfl <;> decide

set_option maxHeartbeats 1000000 in
set_option maxRecDepth 100000 in
theorem index4 (a0 a1 a2 a3 : Option Nat) (W : World) : (Instr.index 57 (.agg #[ptrTo a0, ptrTo a1, ptrTo a2, ptrTo a3]) (.int .i64 0)).run Tryz.prog W = .ok (ptrTo a0) W ∧ (Instr.index 57 (.agg #[ptrTo a0, ptrTo a1, ptrTo a2, ptrTo a3]) (.int .i64 1)).run Tryz.prog W = .ok (ptrTo a1) W
    ∧ (Instr.index 57 (.agg #[ptrTo a0, ptrTo a1, ptrTo a2, ptrTo a3]) (.int .i64 2)).run Tryz.prog W = .ok (ptrTo a2) W ∧ (Instr.index 57 (.agg #[ptrTo a0, ptrTo a1, ptrTo a2, ptrTo a3]) (.int .i64 3)).run Tryz.prog W = .ok (ptrTo a3) W := by
  have h : Tryz.prog.underlying 57 = some (.array 4 53) := by kernel_rfl
  refine ⟨?_, ?_, ?_, ?_⟩ <;> simp [Instr.index, asIntOf, run_underlying h, go_sem, ptrTo]

theorem indexKid (A : List UInt8 → Option Nat) (w : List UInt8) {n : Nat} (hn : n < 4) (W : World) :
    (Instr.index 57 (.agg #[ptrTo (A (w ++ [97])), ptrTo (A (w ++ [98])), ptrTo (A (w ++ [99])), ptrTo (A (w ++ [100]))]) (.int .i64 n)).run Tryz.prog W = .ok (ptrTo (A (w ++ [UInt8.ofNat (97 + n)]))) W := by
  obtain ⟨h0, h1, h2, h3⟩ := index4 (A (w ++ [97])) (A (w ++ [98])) (A (w ++ [99])) (A (w ++ [100])) W
  rcases (by omega : n = 0 ∨ n = 1 ∨ n = 2 ∨ n = 3) with rfl | rfl | rfl | rfl
  · exact h0
  · exact h1
  · exact h2
  · exact h3

theorem indexNone {n : Nat} (hn : n < 4) (W : World) :
    (Instr.index 57 (.agg #[.pointer none, .pointer none, .pointer none, .pointer none]) (.int .i64 n)).run Tryz.prog W = .ok (.pointer none) W := by
  obtain ⟨h0, h1, h2, h3⟩ := index4 none none none none W
  rcases (by omega : n = 0 ∨ n = 1 ∨ n = 2 ∨ n = 3) with rfl | rfl | rfl | rfl
  · exact h0
  · exact h1
  · exact h2
  · exact h3

theorem encode_nth {n : Nat} (hn : n < 4) : Utf8.encode (97 + (n : Int)) = ⟨#[UInt8.ofNat (97 + n)]⟩ := by
  rcases (by omega : n = 0 ∨ n = 1 ∨ n = 2 ∨ n = 3) with rfl | rfl | rfl | rfl <;> rfl

theorem flatN_one_cell (ns : List Nd) : ∀ u ∈ flatN ns, u.oneCell' = true := by
  intro u hu
  unfold flatN at hu
  obtain ⟨n, _, hn⟩ := List.mem_flatMap.1 hu
  simp at hn
  rcases hn with rfl | rfl | rfl <;> rfl

theorem own_cells {W : World} {base : Nat} {e : TypeId} {ns : List Nd} {g cap : Nat} (h : W.ownsRow base e 3 (.slice (some ⟨g, 0, none⟩) ns.length cap) ns.length (flatN ns)) :
    ∀ j u, (flatN ns)[j]? = some u → W.cell? ((⟨g, 0, none⟩ : Addr).add j) = some u := by
  intro j u hj
  have hl := flatN_length ns
  have hj' := (List.getElem?_eq_some_iff.1 hj).1
  have := h.cellAt j (by omega)
  have e2 : ((⟨g, 0, none⟩ : Addr).add j) = ⟨g, j, none⟩ := by
    unfold Addr.add
    split
    · rename_i h0; rw [h0]
    · simp
  rw [e2]
  exact this.trans hj

theorem own_join {W : World} {b : Nat} {e : TypeId} {v : Value} {acc more : List Nd} (h : W.ownsRow b e 3 v (acc.length + more.length) (flatN acc ++ flatN more)) : W.ownsRow b e 3 v (acc ++ more).length (flatN (acc ++ more)) := by
  rw [flatN_append, List.length_append]; exact h

theorem own_cases {W : World} {base : Nat} {e : TypeId} {size n : Nat} {v : Value} {xs : List Value} (h : W.ownsRow base e size v n xs) : (v = .slice none 0 0 ∧ n = 0) ∨ ∃ g cap, v = .slice (some ⟨g, 0, none⟩) n cap := by
  rcases h.2 with h | ⟨g, cap, _, h, _⟩
  · exact .inl h
  · exact .inr ⟨g, cap, h⟩

/-- What nodes returns. -/
def NodesPost (F : List UInt8 → Int × Int) (d : Nat) (w : List UInt8) (W : World) (e : Ending) (W' : World) : Prop := OwnsNodes W.heap.size (lst F d w) e W' ∧ Below W.heap.size W W'

def NodesRel (F : List UInt8 → Int × Int) (d : Nat) (w : List UInt8) (W : World) (o i : Value) (wr : World) : Prop :=
  ∃ n : Nat, i = .int .i64 n ∧ n ≤ 4 ∧ wr.ownsRow W.heap.size 49 3 o (accN F d w n).length (flatN (accN F d w n)) ∧ Hid (Below W.heap.size W wr)

set_option maxHeartbeats 2000000 in
set_option maxRecDepth 100000 in
theorem nodes_c (A : List UInt8 → Option Nat) (F : List UInt8 → Int × Int) (d : Nat) : ∀ (w : List UInt8) (b : Nat) (W : World), w.length + d = 4 → Trie W A F → A w = some b →
    Calls Tryz.prog 50 #[.pointer (some ⟨b, 0, none⟩), .string (pB w)] W (NodesPost F d w W) := by
  induction d with
  | zero =>
    intro w b W hwd hT hb
    have hw := hT.wrd w b hb
    have hnone : ∀ c, A (w ++ [c]) = none := fun c => by
      cases h : A (w ++ [c]) with
      | none => rfl
      | some x =>
        have := (hT.wrd _ _ h).1
        rw [List.length_append, List.length_singleton] at this
        omega
    have hc := fun W => trim_c hw W
    have hbeg := beg_eq w
    have hts : (if w = [] then (⟨#[]⟩ : ByteArray) else pB w).size ≤ 8 := by
      split
      · decide
      · show (Pm.pathOf w).length ≤ 8
        unfold Pm.pathOf
        split
        · simp
        · rw [Pm.flat_length]; omega
    generalize (if w = [] then (⟨#[]⟩ : ByteArray) else pB w) = tr at hc hbeg hts
    generalize hp : pB w = p at hc ⊢
    have c0 := hT.cell hb 2
    have c1 := hT.cell hb 3
    have c2 := hT.cell hb 4
    have c3 := hT.cell hb 5
    simp only [plc, hnone, ptrTo] at c0 c1 c2 c3
    simp at c0 c1 c2 c3
    have HT := Lib.hid hT
    clear hp hT hb
    go_enter Tryz.func50, Tryz.ntmps50
    go_wp2_with (go_at_call 69; refine (hc _).mono ?_; rintro e w' ⟨rfl, rfl⟩)
    go_loop [5, 17] (fun o i => o = .slice none 0 0 ∧ ∃ n : Nat, i = .int .i64 n ∧ n ≤ 4) (fun _ i => 4 - (intOf i).toNat)
    case atStart => exact ⟨rfl, 0, rfl, by omega⟩
    case round =>
      obtain ⟨rfl, n, rfl, hn⟩ := hrel
      by_cases h4 : n = 4
      · subst h4
        go_wp2
        refine bodyPost_ret (v := .slice none 0 0) (by simp [results, Tryz.f50, go_sem]) rfl ⟨⟨.slice none 0 0, rfl, World.ownsRow_nil _ _ _ _⟩, Below.refl _ _⟩
      · have hni : (n : Int) < 4 := by omega
        have hni0 : (0 : Int) ≤ n := by omega
        have hidx := fun W => indexNone (show n < 4 by omega) W
        go_wp2
        go_round
        case rel => exact ⟨rfl, n + 1, by push_cast; rfl, by omega⟩
        case measure => simp [intOf]; omega
  | succ d ih =>
  intro w b W hwd hT hb
  obtain ⟨i0, hi, hz0, hz1, hz2⟩ := info_parts infoNode
  have hw := hT.wrd w b hb
  have HT := Lib.hid hT
  have HB := Lib.hid hb
  have HI := Lib.hid ih
  have hc := fun W => trim_c hw W
  have hbeg := beg_eq w
  have hts : (if w = [] then (⟨#[]⟩ : ByteArray) else pB w).size ≤ 8 := by
    split
    · decide
    · show (Pm.pathOf w).length ≤ 8
      unfold Pm.pathOf
      split
      · simp
      · rw [Pm.flat_length]; omega
  have hbs : (begB w).size ≤ 9 := by rw [← hbeg, ByteArray.size_append]; show _ + 1 ≤ 9; omega
  generalize (if w = [] then (⟨#[]⟩ : ByteArray) else pB w) = tr at hc hbeg hts
  generalize hp : pB w = p at hc ⊢
  have c0 := hT.cell hb 2
  have c1 := hT.cell hb 3
  have c2 := hT.cell hb 4
  have c3 := hT.cell hb 5
  simp [plc] at c0 c1 c2 c3
  clear hp hT hb ih
  go_enter Tryz.func50, Tryz.ntmps50
  go_wp2_with (go_at_call 69; refine (hc _).mono ?_; rintro e w' ⟨rfl, rfl⟩)

  have HBS := Lib.hid hbs
  clear hbeg hts hbs hc
  go_loopw [5, 17] (fun o i wr => NodesRel F d w w' o i wr) (fun _ i _ => 4 - (intOf i).toNat)
  case atStart => exact ⟨0, rfl, by omega, World.ownsRow_nil _ _ _ _, Below.refl _ _⟩
  case round =>
    obtain ⟨n, rfl, hn, hown, hB⟩ := hrel
    by_cases h4 : n = 4
    · subst h4
      go_wp2
      refine bodyPost_ret (v := u5) (by simp [results, Tryz.f50, go_sem]) rfl ⟨⟨u5, rfl, ?_⟩, hB⟩
      rw [← accN_four]; exact hown
    · have hn4 : n < 4 := by omega
      have hni : (n : Int) < 4 := by omega
      have hni0 : (0 : Int) ≤ n := by omega
      have hidx := fun W => indexKid A w hn4 W
      cases hk : A (w ++ [UInt8.ofNat (97 + n)]) with
      | none =>
        have hidx2 := fun W => (hidx W).trans (show _ = Result.ok (.pointer none) W by rw [hk]; rfl)
        clear hidx
        go_wp2
        go_roundw
        case rel =>
          refine ⟨n + 1, by push_cast; rfl, by omega, ?_, hB⟩
          rw [accN_next F d w hn4, part_none HT.out hw (by omega) (letter_nth hn4) hk, List.append_nil]; exact hown
        case measure => simp [intOf]; omega
      | some b' =>
        have hidx2 := fun W => (hidx W).trans (show _ = Result.ok (.pointer (some ⟨b', 0, none⟩)) W by rw [hk]; rfl)
        clear hidx
        have HL1 := Lib.hid (accN_le (F := F) (d := d) (by omega) w n)
        have henc := encode_nth hn4
        have hname := begB_name w (UInt8.ofNat (97 + n))
        have hbs := HBS.out
        have hc1 : ((⟨#[UInt8.ofNat (97 + n)]⟩ : ByteArray)).size = 1 := rfl
        have hwr : IntKind.i32.wrap (97 + (n : Int)) = 97 + n := by rw [IntKind.wrap_i32]; omega
        have hlet := letter_nth hn4
        have HACC := Lib.hid (accN_next F d w hn4)
        obtain ⟨c, hc⟩ : ∃ c, c = UInt8.ofNat (97 + n) := ⟨_, rfl⟩
        rw [← hc] at henc hname hc1 hlet HACC hk
        have HC := Lib.hid hc
        clear hc
        go_upto_region 8 with (fail)
        have HK := Lib.hid hk
        have HB2 := Lib.hid (show Wrd (w ++ [c]) from HT.out.wrd _ _ hk)
        have k0 := (HT.out.below hB.out).cell hk 0
        have k1 := (HT.out.below hB.out).cell hk 1
        simp only [plc] at k0 k1
        obtain ⟨k, hkk⟩ : ∃ k, k = (F (w ++ [c])).1 := ⟨_, rfl⟩
        obtain ⟨v, hvv⟩ : ∃ v, v = (F (w ++ [c])).2 := ⟨_, rfl⟩
        rw [← hkk] at k0
        rw [← hvv] at k1
        have k0' : wr.cell? ⟨b', 0, none⟩ = some (.int .i64 k) := k0
        have k1' : wr.cell? ⟨b', 1, none⟩ = some (.int .i64 v) := k1
        have HL2 := Lib.hid (lst_le (F := F) (d := d) (by omega) (w ++ [c]))
        clear k0 k1 hk hc1 hbs henc hidx2 hwr
        clear hname
        have HO := Lib.hid hown
        have HCALL := Lib.hid (fun W1 (hT1 : Trie W1 A F) => HI.out (w ++ [c]) b' W1 (by rw [List.length_append, List.length_singleton]; omega) hT1 HK.out)
        by_cases hk0 : k = 0
        · have hkb : (k == 0) = true := by rw [hk0]; rfl
          have HPART := Lib.hid (show part F d w c = lst F d (w ++ [c]) by unfold part; rw [oneAt_zero (by rw [← hkk]; exact hk0)]; rfl)
          subst hk0
          clear hown hkk hvv

          go_wp2_with fail
          refine (HCALL.out _ (HT.out.below hB.out)).mono ?_
          rintro e W2 ⟨⟨sl, rfl, ho2⟩, hb2⟩
          have hoa := own_below HO.out hb2
          have hB2 : Below w'.heap.size w' W2 := below_next hB.out hb2
          have H2 := Lib.hid ho2
          rcases own_cases ho2 with ⟨rfl, hz⟩ | ⟨g, cap, rfl⟩
          · have hz' : lst F d (w ++ [c]) = [] := List.length_eq_zero_iff.1 hz
            clear ho2 hb2 hz
            go_wp2_with (at_builtin; refine wpList_append_own_none rfl _ _ 23 rfl w'.heap.size 49 i0 3 Tryz.underlying23 hi _ _ _ rfl hoa rfl ?_)
            go_roundw
            case rel =>
              refine ⟨n + 1, by push_cast; rfl, by omega, ?_, hB2⟩
              rw [HACC.out, HPART.out, hz', List.append_nil]
              exact hoa
            case measure => simp [intOf]; omega
          · clear ho2 hb2
            go_wp2_with (at_builtin; refine wpList_append_own _ rfl _ _ 23 rfl w'.heap.size 49 i0 (.agg #[.string ⟨#[]⟩, .int .i64 0, .int .i64 0]) 3 32 Tryz.underlying23 hi hz0 hz1 hz2 rfl (by decide) _ _ _ rfl hoa ⟨g, 0, none⟩ _ cap (flatN (lst F d (w ++ [c]))) rfl (flatN_length _) (own_cells H2.out) (flatN_one_cell _) (by unfold maxLen; have := HL1.out; have := HL2.out; simp at this ⊢; omega) (by have := HL1.out; have := HL2.out; simp at this ⊢; omega) hB2.size ?_; intro v4 w4 ho4 hg4 hn4)
            have B4 : Below w'.heap.size w' w4 := hB2.grown hg4 hB2.size (fun g e => (hoa.lt g e).1)
            go_roundw
            case rel =>
              refine ⟨n + 1, by push_cast; rfl, by omega, ?_, B4⟩
              rw [HACC.out, HPART.out]
              exact own_join ho4
            case measure => simp [intOf]; omega

        · have hkb : (k == 0) = false := by simpa using hk0
          have HPART := Lib.hid (show part F d w c = [(⟨pB (w ++ [c]), k, v⟩ : Nd)] ++ lst F d (w ++ [c]) by unfold part; rw [oneAt_some (by rw [← hkk]; exact hk0)]; unfold ndAt; rw [← hkk, ← hvv])
          have hlt0 := hown.lt
          clear hown hkk hvv
          generalize hq : pB (w ++ [c]) = q at HCALL HPART ⊢
          go_wp2_with (at_builtin; refine wpList_append_own _ rfl _ _ 23 rfl w'.heap.size 49 i0 (.agg #[.string ⟨#[]⟩, .int .i64 0, .int .i64 0]) 3 32 Tryz.underlying23 hi hz0 hz1 hz2 rfl (by decide) _ _ _ rfl (HO.out.alloc _) ⟨wr.heap.size, 0, none⟩ 1 1 [.string q, .int .i64 k, .int .i64 v] rfl rfl (cell_three_new _ _ _ _ _) (fun x hx => by simp at hx; rcases hx with rfl | rfl | rfl <;> rfl) (by unfold maxLen; have := HL1.out; omega) (by have := HL1.out; omega) (by have := hB.out.size; simp; omega) ?_; intro v3 w3 ho3 hg3 hn3)
          have B3 : Below w'.heap.size w' w3 := (hB.out.alloc hB.out.size _).grown hg3 (by have := hB.out.size; simp; omega) (fun g e => (hlt0 g e).1)
          go_wp2_with fail
          refine (HCALL.out _ (HT.out.below B3)).mono ?_
          rintro e W2 ⟨⟨sl, rfl, ho2⟩, hb2⟩
          have hoa := own_below (own_push (⟨q, k, v⟩ : Nd) ho3) hb2
          have hB2 : Below w'.heap.size w' W2 := below_next B3 hb2
          have H2 := Lib.hid ho2
          rcases own_cases ho2 with ⟨rfl, hz⟩ | ⟨g, cap, rfl⟩
          · have hz' : lst F d (w ++ [c]) = [] := List.length_eq_zero_iff.1 hz
            clear ho2 hb2 hz
            go_wp2_with (at_builtin; refine wpList_append_own_none rfl _ _ 23 rfl w'.heap.size 49 i0 3 Tryz.underlying23 hi _ _ _ rfl hoa rfl ?_)
            go_roundw
            case rel =>
              refine ⟨n + 1, by push_cast; rfl, by omega, ?_, hB2⟩
              rw [HACC.out, HPART.out, hz', List.append_nil]
              exact hoa
            case measure => simp [intOf]; omega
          · clear ho2 hb2
            go_wp2_with (at_builtin; refine wpList_append_own _ rfl _ _ 23 rfl w'.heap.size 49 i0 (.agg #[.string ⟨#[]⟩, .int .i64 0, .int .i64 0]) 3 32 Tryz.underlying23 hi hz0 hz1 hz2 rfl (by decide) _ _ _ rfl hoa ⟨g, 0, none⟩ _ cap (flatN (lst F d (w ++ [c]))) rfl (flatN_length _) (own_cells H2.out) (flatN_one_cell _) (by unfold maxLen; have h5 := HL1.out; have h6 := HL2.out; simp at h5 h6 ⊢; omega) (by have h5 := HL1.out; have h6 := HL2.out; simp at h5 h6 ⊢; omega) hB2.size ?_; intro v4 w4 ho4 hg4 hn4)
            have B4 : Below w'.heap.size w' w4 := hB2.grown hg4 hB2.size (fun g e => (hoa.lt g e).1)
            go_roundw
            case rel =>
              refine ⟨n + 1, by push_cast; rfl, by omega, ?_, B4⟩
              rw [HACC.out, HPART.out, ← List.append_assoc]
              exact own_join ho4
            case measure => simp [intOf]; omega


end Go.Proofs.YtnmpbocnbcokeaaGreatDoor

/-
  WALKS: impl.TreePut.
-/
namespace Go.Proofs.YtnmpbocnbcokeaaGreatDoor
open Go.RowKit
set_option linter.unusedVariables false

theorem treePut_bad {ns : List Nd} {p : ByteArray} {k v : Int} (h : validT ns = false ∨ ¬ 1 ≤ depB p ∨ validB k v = false) : treePut ns p k v = none := by
  unfold treePut
  rcases h with h | h | h <;> simp [h]

theorem tput_nil {r : Option (List Nd)} {base : Nat} {W w : World} (hr : r = none) (hB : Below W.heap.size W w) : TPost r base W (.returned (.tuple #[.slice none 0 0, .bool false])) w :=
  ⟨_, [], false, rfl, .inr ⟨rfl, hr, rfl⟩, World.ownsRow_nil _ _ _ _, hB⟩

theorem lst_short {F : List UInt8 → Int × Int} : Short 8 (lst F 4 []) := by
  intro n hn
  obtain ⟨c, u, h1, h2, h3, rfl⟩ := mem_lst.1 hn
  exact pB_size (v := [] ++ c :: u) ⟨by rw [List.nil_append, List.length_cons]; omega, h2⟩

theorem Short.mono {m m' : Nat} {ns : List Nd} (h : Short m ns) (hm : m ≤ m') : Short m' ns := fun n hn => Nat.le_trans (h n hn) hm

set_option maxHeartbeats 4000000 in
set_option maxRecDepth 100000 in
theorem implTreePut_c (a : Option Addr) (len cap : Nat) (ns : List Nd) (p : ByteArray) (k v : Int) (hl : len ≤ 2097152) (hs : Short 2097152 ns) (hp : p.size ≤ 2097152) (W : World) (hN : NodesAt W a len ns) :
    Calls Tryz.prog 33 #[.slice a len cap, .string p, con k v] W (TPost (treePut ns p k v) W.heap.size W) := by
  have H := Lib.hid (fun W1 (hb : Below W.heap.size W W1) => treeOf_c a len cap ns hl hs W1 (hN.keep hb))
  obtain ⟨d, hd⟩ : ∃ d, depB p = d := ⟨_, rfl⟩
  have HP := Lib.hid (fun W1 => show Calls Tryz.prog 42 #[.string p] W1 (fun e w' => e = .returned (.int .i64 d) ∧ Below W1.heap.size W1 w') by rw [← hd]; exact pathDepth_c p (by omega) W1)
  have HD := Lib.hid hd
  have HVC := Lib.hid (fun W1 => implValid_c k v W1)
  obtain ⟨vb, hvb⟩ : ∃ vb, validB k v = vb := ⟨_, rfl⟩
  rw [hvb] at HVC
  have HVB := Lib.hid hvb
  clear hN hs hd hvb
  unfold con
  go_enter Tryz.func33, Tryz.ntmps33
  go_wp2_with fail
  refine (H.out _ (below_box _ _)).mono ?_
  rintro e W2 ⟨hB, h⟩
  have HB2 := Lib.hid (below_next (below_box W _) hB)
  have q0 := box_cell hB 0
  have q1 := box_cell hB 1
  simp at q0 q1
  rcases h with ⟨hv, rfl⟩ | ⟨hv, A, b, rfl, hA0, hT, hA⟩
  · have HG := Lib.hid (treePut_bad (p := p) (k := k) (v := v) (.inl hv))
    clear hv hB
    go_wp2
    refine bodyPost_ret (v := .tuple #[.slice none 0 0, .bool false]) (by simp [results, Tryz.f33, go_sem]) rfl (tput_nil HG.out HB2.out)
  · have HV := Lib.hid hv
    have HT := Lib.hid hT
    have HA := Lib.hid hA
    have HA0 := Lib.hid hA0
    have hlt2 : W.heap.size < W2.heap.size := by have := hB.size; simp at this; omega
    clear hv hB hT hA hA0
    go_wp2_with fail
    refine (HP.out _).mono ?_
    rintro e W3 ⟨rfl, hb3⟩
    have r0 := cell_kept hb3 q0
    have r1 := cell_kept hb3 q1
    have HB3 := Lib.hid (below_next HB2.out hb3)
    have HT3 := Lib.hid (HT.out.below hb3)
    have hlt3 : W.heap.size < W3.heap.size := by have := hb3.size; omega
    clear q0 q1 hb3
    by_cases hd1 : d ≤ 0
    · have HG := Lib.hid (treePut_bad (ns := ns) (p := p) (k := k) (v := v) (.inr (.inl (by rw [HD.out]; omega))))
      go_wp2
      refine bodyPost_ret (v := .tuple #[.slice none 0 0, .bool false]) (by simp [results, Tryz.f33, go_sem]) rfl (tput_nil HG.out HB3.out)
    · have hd0 : 0 < d := by omega
      have hdd : decide (d ≤ 0) = false := decide_eq_false hd1
      clear hd1
      go_wp2_with fail
      refine (HVC.out _).mono ?_
      rintro e W5 ⟨rfl, hb5⟩
      have u0 := cell_kept hb5 r0
      have u1 := cell_kept hb5 r1
      have HB5 := Lib.hid (below_next HB3.out hb5)
      have HT5 := Lib.hid (HT3.out.below hb5)
      have hN5 : W.heap.size < W5.heap.size := by have := hb5.size; omega
      clear r0 r1 hb5
      cases vb with
      | false =>
        have HG := Lib.hid (treePut_bad (ns := ns) (p := p) (k := k) (v := v) (.inr (.inr HVB.out)))
        go_wp2
        refine bodyPost_ret (v := .tuple #[.slice none 0 0, .bool false]) (by simp [results, Tryz.f33, go_sem]) rfl (tput_nil HG.out HB5.out)
      | true =>
        obtain ⟨w, hw, hpw⟩ := vpB_word (vp_of_depth (p := p) (by rw [HD.out]; omega))
        have HW := Lib.hid hw
        have HPW := Lib.hid hpw
        have HNE := Lib.hid ((word_depth hw).1 (by rw [← hpw, HD.out]; omega))
        have HAW := Lib.hid (show Away A W.heap.size from fun u e => by have := HA.out u _ e; rw [World.size_alloc] at this; omega)
        have HS0 := Lib.hid (show W5.drew.cell? ⟨W.heap.size, 0, none⟩ = some (.int .i64 k) ∧ W5.drew.cell? ⟨W.heap.size, 1, none⟩ = some (.int .i64 v) from ⟨u0, u1⟩)
        have HAT := Lib.hid (show Calls Tryz.prog 23 #[.pointer (some ⟨b, 0, none⟩), .string p] W5.drew (AtPost A (Fof ns) w W5.drew) by
          rw [hpw]; exact at_c A _ w hw W5.drew (HT5.out.kept (W' := W5.drew) fun _ _ _ => rfl) _ HA0.out)
        clear hw hpw
        go_upto_region 4 with (fail)
        refine wp_region_held_drew (S := (fun w' => w'.cell? ⟨W.heap.size, 0, none⟩ = some (.int .i64 k) ∧ w'.cell? ⟨W.heap.size, 1, none⟩ = some (.int .i64 v))) (by kernel_rfl) HS0.out (fun hH => ?_)
        refine wpAnyH_take (i := 0) (oi := _) (v := ?_) rfl (by kernel_rfl) (by kernel_rfl) (by kernel_rfl) (fun _ _ _ h => h) (Or.inl ⟨by rfl, ?_⟩) (by assumption) ?_
        rotate_left
        · (intro w hSw; (try dsimp only at hSw); go_simp; try with_reducible rfl)
        try simp only [Act.put, List.getElem_toArray, List.getElem_cons_zero, List.setIfInBounds_toArray, List.set_cons_zero, List.set_cons_succ]
        refine wpAnyH_take (i := 1) (oi := _) (v := ?_) rfl (by kernel_rfl) (by kernel_rfl) (by kernel_rfl) (fun _ _ _ h => h) (Or.inl ⟨by rfl, ?_⟩) (by assumption) ?_
        rotate_left
        · (intro w hSw; (try dsimp only at hSw); go_simp; try with_reducible rfl)
        try simp only [Act.put, List.getElem_toArray, List.getElem_cons_zero, List.getElem_cons_succ, List.setIfInBounds_toArray, List.set_cons_zero, List.set_cons_succ]
        refine wpAnyH_take (i := 3) (oi := _) (v := ?_) rfl (by kernel_rfl) (by kernel_rfl) (by kernel_rfl) (fun _ _ _ h => h) (Or.inl ⟨by rfl, ?_⟩) (by assumption) ?_
        rotate_left
        · (intro w hSw; (try dsimp only at hSw); go_simp; try with_reducible rfl)
        try simp only [Act.put, List.getElem_toArray, List.getElem_cons_zero, List.getElem_cons_succ, List.setIfInBounds_toArray, List.set_cons_zero, List.set_cons_succ]
        refine wpAnyH_ready (rs := [2]) (by kernel_rfl) (by simp) ?_
        refine AllReadyH.cons rfl (fun K hK => ?_) (AllReadyH.nil)
        go_simp
        go_at_call 23; (with_reducible refine (HAT.out).mono ?_); rintro e W6 ⟨A6, b6, rfl, hb6, hT6, hX6, hO6⟩
        refine hK.out _ _ ⟨(off_cell2 hO6 hN5 HAW.out 0).trans u0, (off_cell2 hO6 hN5 HAW.out 1).trans u1⟩ (fun hHeld => ?_)
        try simp only [Act.put, List.getElem_toArray, List.getElem_cons_zero, List.getElem_cons_succ, List.setIfInBounds_toArray, List.set_cons_zero, List.set_cons_succ]
        have f60 := hT6.frozen hb6 0
        have f61 := hT6.frozen hb6 1
        have c60 := hT6.cell hb6 0
        have c61 := hT6.cell hb6 1
        simp only [plc, List.getElem?_toArray, List.getElem?_cons_zero, List.getElem?_cons_succ] at c60 c61
        refine wpAnyH_take (i := 4) (oi := _) (v := ?_) rfl (by kernel_rfl) (by kernel_rfl) (by kernel_rfl) (fun _ _ _ h => h) (Or.inl ⟨by rfl, ?_⟩) (by assumption) ?_
        rotate_left
        · (intro w hSw; (try dsimp only at hSw); go_simp; try with_reducible rfl)
        try simp only [Act.put, List.getElem_toArray, List.getElem_cons_zero, List.getElem_cons_succ, List.setIfInBounds_toArray, List.set_cons_zero, List.set_cons_succ]
        refine wpAnyH_take (i := 5) (oi := _) (v := ?_) rfl (by kernel_rfl) (by kernel_rfl) (by kernel_rfl) (fun _ _ _ h => h) (Or.inl ⟨by rfl, ?_⟩) (by assumption) ?_
        rotate_left
        · (intro w hSw; (try dsimp only at hSw); go_simp; try with_reducible rfl)
        try simp only [Act.put, List.getElem_toArray, List.getElem_cons_zero, List.getElem_cons_succ, List.setIfInBounds_toArray, List.set_cons_zero, List.set_cons_succ]
        refine wpAnyH_ready (rs := [6]) (by kernel_rfl) (by simp) ?_
        refine AllReadyH.cons rfl (fun K hK => ?_) (AllReadyH.nil)
        go_simp
        have hnb : W.heap.size ≠ b6 := fun e => (ext_away hX6 (show W.heap.size < W5.drew.heap.size from hN5) HAW.out) w (by rw [e]; exact hb6)
        have hfrom := ext_from hX6 (show W.heap.size ≤ W5.drew.heap.size from HB5.out.size) (fun u c e => by have := HA.out u c e; rw [World.size_alloc] at this; omega)
        have HT7 := Lib.hid (hT6.write hb6 k v)
        have HB7 := Lib.hid (show Below W.heap.size W ((W6.setCell ⟨b6, 0, none⟩ (.int .i64 k)).setCell ⟨b6, 1, none⟩ (.int .i64 v)) from
          ((HB5.out.trans (show Below W.heap.size W5 W6 from ⟨hO6.os, hO6.tape, hO6.output, hO6.size, fun j hj => hO6.block j (by have := HB5.out.size; show j < W5.heap.size; omega) fun u e => by have := HA.out u j e; rw [World.size_alloc] at this; omega⟩)).setCell (hfrom w b6 hb6) _).setCell (hfrom w b6 hb6) _)
        have HR7 := Lib.hid ((hX6 [] _).1 HA0.out)
        refine hK.out _ _ ⟨(past2 hnb).trans ((off_cell2 hO6 hN5 HAW.out 0).trans u0), (past2 hnb).trans ((off_cell2 hO6 hN5 HAW.out 1).trans u1)⟩ (fun hHeld => ?_)
        try simp only [Act.put, List.getElem_toArray, List.getElem_cons_zero, List.getElem_cons_succ, List.setIfInBounds_toArray, List.set_cons_zero, List.set_cons_succ]
        refine wpAnyH_done (by kernel_rfl) ?_ _
        clear hK hO6 hX6 hT6 hb6 f60 f61 c60 c61 u0 u1 hfrom hHeld hnb
        generalize (W6.setCell ⟨b6, 0, none⟩ (.int .i64 k)).setCell ⟨b6, 1, none⟩ (.int .i64 v) = W7 at HT7 HB7 ⊢
        obtain ⟨out, hout⟩ : ∃ out, out = lst (setF (Fof ns) w (k, v)) 4 [] := ⟨_, rfl⟩
        have HOUT := Lib.hid (show out = putL ns p k v by rw [hout, HPW.out]; exact put_lst HV.out HW.out HNE.out k v)
        have HSH := Lib.hid (show Short 2097152 out by rw [hout]; exact lst_short.mono (by omega))
        have HLN := Lib.hid (show out.length ≤ 4096 by rw [hout]; exact lst_le (by omega) _)
        have HND := Lib.hid (nodes_c A6 _ 4 [] b W7 rfl HT7.out HR7.out)
        have HND2 := Lib.hid (show Calls Tryz.prog 50 #[.pointer (some ⟨b, 0, none⟩), .string ⟨#[47]⟩] W7 (fun e W' => OwnsNodes W7.heap.size out e W' ∧ Below W7.heap.size W7 W') by rw [hout]; exact HND.out)
        clear hout HND
        go_wp2_with fail
        refine HND2.out.mono ?_
        rintro e W8 ⟨⟨sl, rfl, ho8⟩, hb8⟩
        obtain ⟨a8, cap8, rfl, hn8⟩ := nodes_of_own ho8
        obtain ⟨vt, hvt⟩ : ∃ vt, validT out = vt := ⟨_, rfl⟩
        have HTV := Lib.hid (implTreeValid_c a8 out.length cap8 out (by have := HLN.out; omega) HSH.out W8 hn8)
        rw [hvt] at HTV
        have HVT := Lib.hid hvt
        have HO8 := Lib.hid ho8
        have HB8 := Lib.hid (below_next HB7.out hb8)
        clear ho8 hb8 hn8 hvt
        go_wp2_with fail
        refine HTV.out.mono ?_
        rintro e W9 ⟨rfl, hb9⟩
        have HO9 := Lib.hid (own_below HO8.out hb9)
        have HB9 := Lib.hid (below_next HB8.out hb9)
        clear hb9
        cases vt with
        | false =>
          have HG := Lib.hid (show treePut ns p k v = none by
            unfold treePut
            rw [← HOUT.out, show validT out = false from HVT.out]; simp)
          go_wp2
          refine bodyPost_ret (v := .tuple #[.slice none 0 0, .bool false]) (by simp [results, Tryz.f33, go_sem]) rfl (tput_nil HG.out HB9.out)
        | true =>
          have HG := Lib.hid (show treePut ns p k v = some out by
            unfold treePut
            rw [← HOUT.out, show validT out = true from HVT.out, show validT ns = true from HV.out, show validB k v = true from HVB.out, show decide (1 ≤ depB p) = true from decide_eq_true (by rw [HD.out]; omega)]; rfl)
          have hsz7 : W.heap.size ≤ W7.heap.size := HB7.out.size
          go_wp2
          refine bodyPost_ret (v := .tuple #[.slice a8 out.length cap8, .bool true]) (by simp [results, Tryz.f33, go_sem]) rfl ⟨_, out, true, rfl, .inl ⟨rfl, HG.out⟩, own_mono HO9.out hsz7, HB9.out⟩

end Go.Proofs.YtnmpbocnbcokeaaGreatDoor

/-
  WALKS: slices.Grow and slices.Concat of lists of nodes, empty ones and nil too.
-/
namespace Go.Proofs.YtnmpbocnbcokeaaGreatDoor
open Go.RowKit
set_option linter.unusedVariables false

set_option maxHeartbeats 1000000 in
set_option maxRecDepth 100000 in
/-- slices.Grow of nothing: room for n nodes. -/
theorem growNd_c (n : Nat) (hn : n ≤ 2097152) (W : World) :
    Calls Tryz.prog 45 #[.slice none 0 0, .int .i64 n] W fun e W' => OwnsNodes W.heap.size [] e W' ∧ Below W.heap.size W W' := by
  by_cases h0 : n = 0
  · subst h0
    go_enter Tryz.func45, Tryz.ntmps45
    go_wp2
    refine bodyPost_ret (v := .slice none 0 0) (by simp [results, Tryz.f45, go_sem]) rfl ⟨⟨_, rfl, World.ownsRow_nil _ _ _ _⟩, Below.refl _ _⟩
  · have h1 : 1 ≤ n := by omega
    obtain ⟨i0, hi, hz0, hz1, hz2⟩ := info_parts infoNode
    have hold : (Builtin.firstCells i0.size 0 (.slice none 0 0)).run Tryz.prog W.drew = .ok (([] : List Value)).toArray W.drew := run_firstCells_none W.drew i0.size 0 0 0
    have hrz : ∀ ty, (Builtin.append_ #[23, 3] ty #[.slice none 0 0, .int .i64 n]).run Tryz.prog W =
        .ok (.slice (some ⟨W.heap.size, 0, none⟩) (0 + n) (grownCap W (0 + n) 0 49)) (W.drew.alloc (.cells (([] : List Value).toArray ++ Builtin.zeroCells (Value.agg #[.string ⟨#[]⟩, .int .i64 0, .int .i64 0]).cells n ++ Builtin.zeroCells (Value.agg #[.string ⟨#[]⟩, .int .i64 0, .int .i64 0]).cells (grownCap W (0 + n) 0 49 - (0 + n))) 49)) := fun ty =>
      Lib.run_append_grow_zeros W 23 3 ty 49 i0 (.agg #[.string ⟨#[]⟩, .int .i64 0, .int .i64 0]) .i64 .i64 Tryz.underlying23 Tryz.underlying3 hi hz0 none 0 0 [] hold n (by omega) (by omega) (by omega) (by omega) (by rw [hz2]; omega) (growslice_fits (by omega) (by rw [hz2]; omega))
    have hGn : 0 + n ≤ grownCap W (0 + n) 0 49 := grownCap_ge W _ _ _
    have hGm : grownCap W (0 + n) 0 49 ≤ maxLen := grownCap_le_maxLen W (0 + n) 0 49 (by unfold maxLen; omega)
    rw [Nat.zero_add] at hrz hGn hGm
    obtain ⟨G, hG⟩ : ∃ G, G = grownCap W n 0 49 := ⟨_, rfl⟩
    rw [← hG] at hrz hGn hGm
    have HGN := Lib.hid hGn
    have HGM := Lib.hid hGm
    have n0 : 0 < (n : Int) := by omega
    have hn' : (n : Int) ≤ 2097152 := by omega
    have hG63 : G ≤ 9223372036854775807 := by unfold maxLen at hGm; omega
    clear hold hG hGn hGm
    go_enter Tryz.func45, Tryz.ntmps45
    go_wp2_with (at_builtin; refine Lib.wpList_append_run _ rfl _ _ _ _ rfl _ _ rfl rfl _ _ (hrz _) ?_)
    refine bodyPost_ret (v := .slice (some ⟨W.heap.size, 0, none⟩) 0 G) (by simp [results, Tryz.f45, go_sem]) rfl ⟨⟨_, rfl, ?_⟩, ((Below.refl _ W).alloc (Nat.le_refl _) _).drew⟩
    exact World.ownsRow_made (e := 49) (size := 3) W _ G (Nat.le_refl _) HGM.out (by
      rw [Array.size_append, size_zeroCells, size_zeroCells]
      have := HGN.out
      simp
      omega)

/-- A list of nodes among the arguments of slices.Concat. -/
structure NRow where
  a : Option Addr
  len : Nat
  cap : Nat
  ns : List Nd

/-- A slice of lists of nodes in memory. -/
def RowsAt (W : World) (g off : Nat) (rows : List NRow) : Prop := ∀ i r, rows[i]? = some r → W.cell? ⟨g, off + i, none⟩ = some (.slice r.a r.len r.cap) ∧ NodesAt W r.a r.len r.ns

theorem RowsAt.keep {W W' : World} {g off : Nat} {rows : List NRow} (h : RowsAt W g off rows) (hb : Below W.heap.size W W') : RowsAt W' g off rows := fun i r hr =>
  ⟨cell_kept hb (h i r hr).1, (h i r hr).2.keep hb⟩

def allN (rows : List NRow) : List Nd := rows.flatMap NRow.ns

theorem allN_next {rows : List NRow} {i : Nat} {r : NRow} (h : rows[i]? = some r) : allN (rows.take (i + 1)) = allN (rows.take i) ++ r.ns := by
  unfold allN
  rw [List.take_add_one, h, List.flatMap_append]
  simp

theorem allN_le (rows : List NRow) (i : Nat) : (allN (rows.take i)).length ≤ (allN rows).length := by
  conv => rhs; rw [← List.take_append_drop i rows]
  unfold allN
  rw [List.flatMap_append, List.length_append]
  omega

theorem flatN_cell1 (ns : List Nd) : ∀ u ∈ flatN ns, u.oneCell' = true := by
  intro u hu
  unfold flatN at hu
  obtain ⟨n, _, hn⟩ := List.mem_flatMap.1 hu
  simp at hn
  rcases hn with rfl | rfl | rfl <;> rfl

theorem addr_addN (b off j : Nat) : ((⟨b, off, none⟩ : Addr).add j) = ⟨b, off + j, none⟩ := by
  unfold Addr.add
  split
  · rename_i h; rw [h]; rfl
  · rfl

theorem flatN_at : ∀ (ns : List Nd) (j : Nat) (u : Value), (flatN ns)[j]? = some u → ∃ i n, ns[i]? = some n ∧ ((j = i * 3 ∧ u = .string n.p) ∨ (j = i * 3 + 1 ∧ u = .int .i64 n.k) ∨ (j = i * 3 + 2 ∧ u = .int .i64 n.v))
  | [], j, u, h => by simp [flatN] at h
  | m :: r, 0, u, h => ⟨0, m, rfl, .inl ⟨rfl, by simpa [flatN] using h.symm⟩⟩
  | m :: r, 1, u, h => ⟨0, m, rfl, .inr (.inl ⟨rfl, by simpa [flatN] using h.symm⟩)⟩
  | m :: r, 2, u, h => ⟨0, m, rfl, .inr (.inr ⟨rfl, by simpa [flatN] using h.symm⟩)⟩
  | m :: r, j + 3, u, h => by
    obtain ⟨i, n, h1, h2⟩ := flatN_at r j u (by simpa [flatN] using h)
    refine ⟨i + 1, n, by simpa using h1, ?_⟩
    rcases h2 with ⟨rfl, e⟩ | ⟨rfl, e⟩ | ⟨rfl, e⟩
    · exact .inl ⟨by omega, e⟩
    · exact .inr (.inl ⟨by omega, e⟩)
    · exact .inr (.inr ⟨by omega, e⟩)

theorem nodes_cells {W : World} {ad : Addr} {len : Nat} {ns : List Nd} (h : NodesAt W (some ad) len ns) : ∀ j u, (flatN ns)[j]? = some u → W.cell? (ad.add j) = some u := by
  intro j u hj
  obtain ⟨i, n, hn, hc⟩ := flatN_at ns j u hj
  obtain ⟨h1, h0 | ⟨b, off, ha, hh⟩⟩ := h
  · have := (List.getElem?_eq_some_iff.1 hn).1; omega
  · cases ha
    rw [addr_addN]
    obtain ⟨c0, c1, c2⟩ := hh i n hn
    rcases hc with ⟨rfl, rfl⟩ | ⟨rfl, rfl⟩ | ⟨rfl, rfl⟩
    · exact c0
    · exact c1
    · exact c2

theorem run_append_owned_nil {W : World} (base : Nat) (ty : TypeId) (i : TypeInfo) (hi : Tryz.prog.info? 49 = some i) (v : Value) (n : Nat) (xs : List Value) (hown : W.ownsRow base 49 3 v n xs) (cap : Nat) :
    (Builtin.append_ #[23, 23] ty #[v, .slice none 0 cap]).run Tryz.prog W = .ok v W := by
  have ht := Tryz.underlying23
  rcases hown.2 with ⟨rfl, rfl⟩ | ⟨g, cap', cur, rfl, _, _, hnc, _⟩
  · simp [Builtin.append_, run_underlying ht, sizeOf, typeInfo, hi, Builtin.lenOf, Builtin.firstCells]
  · simp [Builtin.append_, run_underlying ht, sizeOf, typeInfo, hi, Builtin.lenOf, Builtin.firstCells, hnc, storeCells]

theorem wpList_append_nodes {w : World} {ops : Array Oper} {rest : List Oper} {o : Oper} {a : Act} {Q : Exit → Act → World → Prop} (hgd : o.guard = none) (s x : Operand)
    (ho : o.op = .call { callee := .builtin .append, args := #[s, x], argTypes := #[23, 23] })
    (base : Nat) (v : Value) (acc : List Nd) (hs : a.eval s = v) (hown : w.ownsRow base 49 3 v acc.length (flatN acc))
    (ad : Option Addr) (len cap : Nat) (zs : List Nd) (hx : a.eval x = .slice ad len cap) (hi : NodesAt w ad len zs) (hlen : acc.length + zs.length ≤ 2097152) (hb : base ≤ w.heap.size)
    (h : ∀ v3 w3, w3.ownsRow base 49 3 v3 (acc ++ zs).length (flatN (acc ++ zs)) → w.grownBy w3 v.ownBlock → wpList Tryz.prog ops Q rest (a.put o.dst v3) w3) : wpList Tryz.prog ops Q (o :: rest) a w := by
  obtain ⟨i0, hi0, hz0, hz1, hz2⟩ := info_parts infoNode
  have hl := hi.1
  refine wpList_plain hgd fun K hK => ?_
  match ad, hx, hi with
  | none, hx, hi =>
    have h0 : len = 0 := by
      obtain ⟨_, h0 | ⟨b, off, ha, _⟩⟩ := hi
      · exact h0
      · cases ha
    have hz : zs = [] := List.length_eq_zero_iff.1 (by omega)
    subst hz; subst h0
    have hrun := run_append_owned_nil (W := w) base o.type i0 hi0 v acc.length (flatN acc) hown cap
    unfold Oper.wp
    simp [execOp, ho, resolve, invoke, builtin, hs, hx, hrun, Result.andThen]
    exact hK _ _ (h v w (by rw [List.append_nil]; exact hown) ⟨rfl, rfl, rfl, Nat.le_refl _, fun _ _ _ => rfl⟩)
  | some ad, hx, hi =>
    exact wp_append_own w s x 23 ho base 49 i0 (.agg #[.string ⟨#[]⟩, .int .i64 0, .int .i64 0]) 3 32 Tryz.underlying23 hi0 hz0 hz1 hz2 rfl (by decide) v acc.length (flatN acc) hs hown ad len cap (flatN zs) hx (by rw [flatN_length]; omega) (nodes_cells hi) (flatN_cell1 _) (by unfold maxLen; omega) (by omega) hb fun v' w' h1 h2 _ => hK _ _ (h v' w' (by rw [flatN_append, List.length_append, hl]; exact h1) h2)

def SizeN (rows : List NRow) (W : World) (s i : Value) (wr : World) : Prop :=
  ∃ n : Nat, i = .int .i64 n ∧ n ≤ rows.length ∧ s = .int .i64 ((allN (rows.take n)).length : Nat) ∧ W = wr

def JoinN (rows : List NRow) (W : World) (o i : Value) (wr : World) : Prop :=
  ∃ n : Nat, i = .int .i64 n ∧ n ≤ rows.length ∧ wr.ownsRow W.heap.size 49 3 o (allN (rows.take n)).length (flatN (allN (rows.take n))) ∧ Hid (Below W.heap.size W wr)

set_option maxHeartbeats 2000000 in
set_option maxRecDepth 100000 in
/-- slices.Concat of lists of nodes. -/
theorem concatN_c (g off cap : Nat) (rows : List NRow) (hl : rows.length ≤ 2097152) (ht : (allN rows).length ≤ 2097152) (W : World) (hN : RowsAt W g off rows) :
    Calls Tryz.prog 24 #[.slice (some ⟨g, off, none⟩) rows.length cap] W fun e W' => OwnsNodes W.heap.size (allN rows) e W' ∧ Below W.heap.size W W' := by
  have HN := Lib.hid hN
  have HT := Lib.hid ht
  obtain ⟨tot, htot⟩ : ∃ tot, tot = (allN rows).length := ⟨_, rfl⟩
  have HG := Lib.hid (fun W' => show Calls Tryz.prog 45 #[.slice none 0 0, .int .i64 tot] W' (fun e W'' => OwnsNodes W'.heap.size [] e W'' ∧ Below W'.heap.size W' W'') from growNd_c tot (by omega) W')
  have HTO := Lib.hid htot
  obtain ⟨len, hlen⟩ : ∃ len, len = rows.length := ⟨_, rfl⟩
  rw [← hlen] at hl ⊢
  have HE := Lib.hid hlen
  have hl' : (len : Int) ≤ 2097152 := by omega
  clear hN ht htot hlen
  go_enter Tryz.func24, Tryz.ntmps24
  go_wp2_with fail
  go_loopw [3, 11] (fun s i wr => SizeN rows W s i wr) (fun _ i _ => len - (intOf i).toNat)
  case atStart => exact ⟨0, rfl, by omega, rfl, rfl⟩
  case round =>
    obtain ⟨i, rfl, hi1, rfl, rfl⟩ := hrel
    by_cases hlt : i < len
    · obtain ⟨r, hr⟩ : ∃ r, rows[i]? = some r := ⟨_, List.getElem?_eq_getElem (by have := HE.out; omega)⟩
      obtain ⟨c0, hzi⟩ := HN.out i r hr
      have HLR := Lib.hid hzi.1
      have hlt' : (i : Int) < len := by omega
      have hil : (i : Int) ≤ 2097152 := by omega
      have HLT := Lib.hid hlt
      have HFN := Lib.hid (allN_next hr)
      have hf1 := allN_le rows (i + 1)
      rw [HFN.out, List.length_append, hzi.1] at hf1
      have hf2 := HT.out
      obtain ⟨s, hs⟩ : ∃ s, s = (allN (rows.take i)).length := ⟨_, rfl⟩
      rw [← hs] at hf1 ⊢
      have HS := Lib.hid hs
      obtain ⟨rl, hrl⟩ : ∃ rl, rl = r.len := ⟨_, rfl⟩
      rw [← hrl] at c0 hf1
      have HRL := Lib.hid hrl
      have hsz : (s : Int) + rl ≤ 2097152 := by omega
      have hsz0 : (0 : Int) ≤ (s : Int) + rl := by omega
      clear hlt hi1 hr hzi hf1 hf2 hs hrl
      go_wp2_with fail
      go_roundw
      case rel => exact ⟨i + 1, by push_cast; rfl, by have := HE.out; have := HLT.out; omega, by rw [HFN.out, List.length_append, ← HS.out, HLR.out, ← HRL.out]; push_cast; rfl, rfl⟩
      case measure => have := HLT.out; simp [intOf]; omega
    · have hge : (len : Int) ≤ i := by omega
      have htk : rows.take i = rows := List.take_of_length_le (by have := HE.out; omega)
      rw [htk, ← HTO.out]
      clear hi1 hlt htk
      go_wp2_with fail
      refine (HG.out _).mono ?_
      rintro e W2 ⟨⟨s2, rfl, ho2⟩, hb2⟩
      have HO2 := Lib.hid ho2
      have HB2 := Lib.hid hb2
      clear ho2 hb2 hge
      go_wp2_with fail
      go_loopw [6, 27] (fun o i w3 => JoinN rows W o i w3) (fun _ i _ => len - (intOf i).toNat)
      case atStart => exact ⟨0, rfl, by omega, HO2.out, HB2.out⟩
      case round =>
        obtain ⟨j, rfl, hi1, hown, HB⟩ := hrel
        by_cases hlt : j < len
        · obtain ⟨r, hr⟩ : ∃ r, rows[j]? = some r := ⟨_, List.getElem?_eq_getElem (by have := HE.out; omega)⟩
          obtain ⟨c0, hzi⟩ := (HN.out.keep HB.out) j r hr
          have hlt' : (j : Int) < len := by omega
          have hil : (j : Int) ≤ 2097152 := by omega
          have HLT := Lib.hid hlt
          have HFN := Lib.hid (allN_next hr)
          have hf1 := allN_le rows (j + 1)
          rw [HFN.out, List.length_append] at hf1
          have HF1 := Lib.hid hf1
          have HZI := Lib.hid hzi
          have HO := Lib.hid hown
          have hlt0 := HO.out.lt
          clear hlt hi1 hr hzi hf1 hown
          go_wp2_with (at_builtin; refine wpList_append_nodes rfl _ _ rfl W.heap.size _ _ rfl HO.out _ _ _ _ rfl HZI.out (by have := HF1.out; have := HT.out; omega) HB.out.size ?_; intro v5 w5 ho5 hg5)
          have B5 : Below W.heap.size W w5 := HB.out.grown hg5 HB.out.size (fun g e => (hlt0 g e).1)
          go_roundw
          case rel => exact ⟨j + 1, by push_cast; rfl, by have := HE.out; have := HLT.out; omega, by rw [HFN.out]; exact ho5, B5⟩
          case measure => have := HLT.out; simp [intOf]; omega
        · have hge : (len : Int) ≤ j := by omega
          have htk : rows.take j = rows := List.take_of_length_le (by have := HE.out; omega)
          rw [htk] at hown
          have HO := Lib.hid hown
          clear hi1 hlt htk hown
          go_wp2
          refine bodyPost_ret (v := u6) (by simp [results, Tryz.f24, go_sem]) rfl ⟨⟨_, rfl, HO.out⟩, HB.out⟩

end Go.Proofs.YtnmpbocnbcokeaaGreatDoor

/-
  WALK: spec.CommandApply.
-/
namespace Go.Proofs.YtnmpbocnbcokeaaGreatDoor
open Go.RowKit
set_option linter.unusedVariables false

/-- What CommandApply tells: nodes that the call has made, and whether the command was done. -/
def ApplyPost (r : List Nd × Bool) (base : Nat) (W : World) (e : Ending) (w' : World) : Prop :=
  ∃ sl, e = .returned (.tuple #[sl, .bool r.2]) ∧ w'.ownsRow base 49 3 sl r.1.length (flatN r.1) ∧ Below W.heap.size W w'

theorem apply_none {r : List Nd × Bool} {base : Nat} {W w : World} (hr : r = ([], false)) (hb : base ≤ w.heap.size) (hB : Below W.heap.size W w) :
    ApplyPost r base W (.returned (.tuple #[.slice (some ⟨w.heap.size, 0, none⟩) 0 0, .bool false])) (w.alloc (.cells #[] 49)) := by
  subst hr
  exact ⟨_, rfl, World.ownsRow_lit (e := 49) (size := 3) w #[] 0 hb (by simp [maxLen]) rfl, below_next hB (below_box _ _)⟩

theorem apply_end {r : List Nd × Bool} {out : List Nd} {b : Bool} (hr : r = (out, b)) {base : Nat} {W w' : World} {sl : Value} (ho : w'.ownsRow base 49 3 sl out.length (flatN out)) (hB : Below W.heap.size W w') : ApplyPost r base W (.returned (.tuple #[sl, .bool b])) w' := by
  subst hr
  exact ⟨sl, rfl, ho, hB⟩

set_option maxHeartbeats 2000000 in
set_option maxRecDepth 100000 in
theorem specCmdApply_c (a : Option Addr) (len cap : Nat) (ns : List Nd) (c : Cmd) (hl : len ≤ 2097151) (hs : Short 2097152 ns) (hp : c.p.size ≤ 2097152) (W : World) (hN : NodesAt W a len ns) :
    Calls Tryz.prog 6 #[.slice a len cap, cmdV c] W (ApplyPost (applyC ns c) W.heap.size W) := by
  obtain ⟨vt, hvt⟩ : ∃ vt, validT ns = vt := ⟨_, rfl⟩
  obtain ⟨vc, hvc⟩ : ∃ vc, validC c = vc := ⟨_, rfl⟩
  have HV := Lib.hid (fun W' (hb : Below W.heap.size W W') => show Calls Tryz.prog 17 #[.slice a len cap] W' (BoolPost vt W') by rw [← hvt]; exact specTreeValid_c a len cap ns (by omega) hs W' (hN.keep hb))
  have HC := Lib.hid (fun W' => show Calls Tryz.prog 18 #[cmdV c] W' (BoolPost vc W') by rw [← hvc]; exact specCmdValid_c c hp W')
  have HN := Lib.hid hN
  cases vt with
  | false =>
    have HR := Lib.hid (applyC_bad (c := c) (.inl hvt))
    clear hN hs hvt hvc
    unfold cmdV
    go_enter Tryz.func6, Tryz.ntmps6
    go_wp2_with fail
    refine (HV.out _ (below_box _ _)).mono ?_
    rintro e W1 ⟨rfl, hb1⟩
    have B1 := Lib.hid (below_next (below_box W _) hb1)
    clear hb1
    go_wp2
    go_ret2
    exact apply_none HR.out B1.out.size B1.out
  | true =>
    cases vc with
    | false =>
      have HR := Lib.hid (applyC_bad (ns := ns) (.inr hvc))
      clear hN hs hvt hvc
      unfold cmdV at HC ⊢
      obtain ⟨p, fk, fv, tk, tv⟩ := c
      simp only at HC ⊢
      go_enter Tryz.func6, Tryz.ntmps6
      go_wp2_with fail
      refine (HV.out _ (below_box _ _)).mono ?_
      rintro e W1 ⟨rfl, hb1⟩
      have q0 := box_cell hb1 0
      have q1 := box_cell hb1 1
      have q2 := box_cell hb1 2
      have q3 := box_cell hb1 3
      have q4 := box_cell hb1 4
      simp at q0 q1 q2 q3 q4
      have B1 := Lib.hid (below_next (below_box W _) hb1)
      clear hb1
      go_wp2_with fail
      refine (HC.out _).mono ?_
      rintro e W2 ⟨rfl, hb2⟩
      have B2 := Lib.hid (below_next B1.out hb2)
      clear hb2 q0 q1 q2 q3 q4
      go_wp2
      go_ret2
      exact apply_none HR.out B2.out.size B2.out
    | true =>
      have HR := Lib.hid (applyC_ok hvt hvc)
      have HG := Lib.hid (fun p W' (h : NodesAt W' a len ns) => l3Get_c a len cap ns p (by omega) W' h)
      have HP := Lib.hid (fun W' (h : NodesAt W' a len ns) => specTreePut_c a len cap ns c.p c.tk c.tv hl hs hp W' h)
      have HLN := Lib.hid (show ns.length ≤ 10 from ((validT_iff ns).1 hvt).2.2)
      clear hN hs hvt hvc
      unfold cmdV at HC ⊢
      obtain ⟨p, fk, fv, tk, tv⟩ := c
      simp only at HC HR HP hp ⊢
      obtain ⟨⟨gk, gv⟩, hg⟩ : ∃ g, getT ns p = g := ⟨_, rfl⟩
      have HGP := Lib.hid (fun W' (h : NodesAt W' a len ns) => show Calls Tryz.prog 19 #[.slice a len cap, .string p] W' (fun e w' => e = .returned (.agg #[.int .i64 gk, .int .i64 gv]) ∧ Below W'.heap.size W' w') by have := HG.out p W' h; rw [hg] at this; exact this)
      rw [hg] at HR
      obtain ⟨ee, hee⟩ : ∃ ee, (gk == fk && gv == fv) = ee := ⟨_, rfl⟩
      have heq := fun w' => (conEqQ gk gv fk fv w').trans (show _ = Result.ok (Value.bool ee) w' by rw [hee])
      have HEE := Lib.hid hee
      clear hg hee
      go_enter Tryz.func6, Tryz.ntmps6
      go_wp2_with fail
      refine (HV.out _ (below_box _ _)).mono ?_
      rintro e W1 ⟨rfl, hb1⟩
      have q0 := box_cell hb1 0
      have q1 := box_cell hb1 1
      have q2 := box_cell hb1 2
      have q3 := box_cell hb1 3
      have q4 := box_cell hb1 4
      simp at q0 q1 q2 q3 q4
      have B1 := Lib.hid (below_next (below_box W _) hb1)
      clear hb1
      go_wp2_with fail
      refine (HC.out _).mono ?_
      rintro e W2 ⟨rfl, hb2⟩
      have HS2 := Lib.hid (keepCmd (W0 := W) ⟨q0, q1, q2, q3, q4, B1.out⟩ hb2)
      have HS0 : Hid (W2.drew.cell? ⟨W.heap.size, 0, none⟩ = some (.string p) ∧ W2.drew.cell? ⟨W.heap.size, 1, none⟩ = some (.int .i64 fk) ∧ W2.drew.cell? ⟨W.heap.size, 2, none⟩ = some (.int .i64 fv) ∧ W2.drew.cell? ⟨W.heap.size, 3, none⟩ = some (.int .i64 tk) ∧ W2.drew.cell? ⟨W.heap.size, 4, none⟩ = some (.int .i64 tv) ∧ Below W.heap.size W W2.drew) :=
        ⟨HS2.out.1, HS2.out.2.1, HS2.out.2.2.1, HS2.out.2.2.2.1, HS2.out.2.2.2.2.1, HS2.out.2.2.2.2.2.drew⟩
      have HGD := Lib.hid (HGP.out W2.drew (HN.out.keep HS0.out.2.2.2.2.2))
      clear hb2 q0 q1 q2 q3 q4
      go_upto_region 3 with (fail)
      go_region_held3 (fun w' => w'.cell? ⟨W.heap.size, 0, none⟩ = some (.string p) ∧ w'.cell? ⟨W.heap.size, 1, none⟩ = some (.int .i64 fk) ∧ w'.cell? ⟨W.heap.size, 2, none⟩ = some (.int .i64 fv) ∧ w'.cell? ⟨W.heap.size, 3, none⟩ = some (.int .i64 tk) ∧ w'.cell? ⟨W.heap.size, 4, none⟩ = some (.int .i64 tv) ∧ Below W.heap.size W w')
        (first | exact HS0.out | exact keepCmd HS0.out hb5)
        (first | (go_at_call 19; (with_reducible refine (HGD.out).mono ?_); rintro e W5 ⟨rfl, hb5⟩))
      rename_i hS
      obtain ⟨s0, s1, s2, s3, s4, hB5⟩ := hS
      have HB5 := Lib.hid hB5
      have HN5 := Lib.hid (HN.out.keep hB5)
      clear heq hB5
      cases ee with
      | false =>
        have hR2 := Lib.hid (show applyC ns ⟨p, fk, fv, tk, tv⟩ = (ns, false) by
          rw [HR.out, if_neg]
          intro e
          have := HEE.out
          simp only [Prod.mk.injEq] at e
          rw [e.1, e.2] at this
          simp at this)
        clear s0 s1 s2 s3 s4
        go_wp2_with (at_builtin; refine wpList_append_nodes rfl _ _ rfl W.heap.size _ [] rfl (World.ownsRow_lit (e := 49) (size := 3) W5 #[] 0 HB5.out.size (by simp [maxLen]) rfl) _ _ _ _ rfl (HN5.out.keep (below_box _ _)) (by have := HLN.out; simp; omega) (by have := HB5.out.size; simp; omega) ?_; intro v9 w9 ho9 hg9)
        refine bodyPost_ret (v := .tuple #[v9, .bool false]) (by simp [results, Tryz.f6, go_sem]) rfl (apply_end hR2.out (by simpa using ho9) ?_)
        exact (HB5.out.alloc HB5.out.size _).grown hg9 (by have := HB5.out.size; simp; omega) (fun k e => by cases e; exact HB5.out.size)
      | true =>
        have hgt : (gk, gv) = (fk, fv) := by
          have := HEE.out
          rw [Bool.and_eq_true, beq_iff_eq, beq_iff_eq] at this
          rw [this.1, this.2]
        have HR2 := Lib.hid (HR.out.trans (if_pos hgt))
        have HP5 := Lib.hid (HP.out W5 HN5.out)
        clear hgt
        go_wp2_with fail
        refine HP5.out.mono ?_
        rintro e W6 ⟨sl, out, b, rfl, hc, ho, hb6⟩
        have HB6 := Lib.hid (below_next HB5.out hb6)
        have HN6 := Lib.hid (HN5.out.keep hb6)
        have HO6 := Lib.hid (own_mono ho HB5.out.size)
        clear s0 s1 s2 s3 s4 ho hb6
        rcases hc with ⟨rfl, hr⟩ | ⟨rfl, hr, rfl⟩
        · have hR3 := Lib.hid (show applyC ns ⟨p, fk, fv, tk, tv⟩ = (out, true) by rw [HR2.out, hr])
          clear hr
          go_wp2
          refine bodyPost_ret (v := .tuple #[sl, .bool true]) (by simp [results, Tryz.f6, go_sem]) rfl (apply_end hR3.out HO6.out HB6.out)
        · have hR3 := Lib.hid (show applyC ns ⟨p, fk, fv, tk, tv⟩ = (ns, false) by rw [HR2.out, hr])
          clear hr
          go_wp2_with (at_builtin; refine wpList_append_nodes rfl _ _ rfl W.heap.size _ [] rfl (World.ownsRow_lit (e := 49) (size := 3) W6 #[] 0 HB6.out.size (by simp [maxLen]) rfl) _ _ _ _ rfl (HN6.out.keep (below_box _ _)) (by have := HLN.out; simp; omega) (by have := HB6.out.size; simp; omega) ?_; intro v9 w9 ho9 hg9)
          refine bodyPost_ret (v := .tuple #[v9, .bool false]) (by simp [results, Tryz.f6, go_sem]) rfl (apply_end hR3.out (by simpa using ho9) ?_)
          exact (HB6.out.alloc HB6.out.size _).grown hg9 (by have := HB6.out.size; simp; omega) (fun k e => by cases e; exact HB6.out.size)

end Go.Proofs.YtnmpbocnbcokeaaGreatDoor

/-
  WALKS: impl.treeAfter, impl.CommandApply (over errors.Is and slices.Clone).
-/
namespace Go.Proofs.YtnmpbocnbcokeaaGreatDoor
open Go.RowKit
set_option linter.unusedVariables false

set_option maxHeartbeats 1000000 in
/-- slices.Clone of nodes that lie somewhere. -/
theorem cloneN_c (a : Option Addr) (len cap : Nat) (ns : List Nd) (hl : len ≤ 2097152) (W : World) (hN : NodesAt W a len ns) :
    Calls Tryz.prog 16 #[.slice a len cap] W fun e W' => OwnsNodes W.heap.size ns e W' ∧ Below W.heap.size W W' := by
  have HN := Lib.hid hN
  have HE := Lib.hid hN.1
  have q23 : ∀ (w : World) (a : Option Addr) (n c n' c' : Nat), (binOp .eql 23 (.slice a n c) (.slice none n' c')).run Tryz.prog w = .ok (.bool a.isNone) w := fun w a n c n' c' => Lib.run_eql_slice_nil w _ _ a n c n' c' Tryz.underlying23
  cases a with
  | none =>
    have hz : ns = [] := by
      rcases hN.2 with h | ⟨_, _, h, _⟩
      · exact List.eq_nil_of_length_eq_zero (hN.1.trans h)
      · cases h
    subst hz
    clear hN
    go_enter Tryz.func16, Tryz.ntmps16
    go_wp2
    exact bodyPost_ret (v := .slice none 0 0) (by simp [results, Tryz.f16, go_sem]) rfl ⟨⟨_, rfl, World.ownsRow_nil _ _ _ _⟩, Below.refl _ _⟩
  | some ad =>
    clear hN
    go_enter Tryz.func16, Tryz.ntmps16
    go_wp2_with (at_builtin; refine wpList_append_nodes rfl _ _ rfl W.heap.size _ [] rfl (World.ownsRow_lit (e := 49) (size := 3) W #[] 0 (Nat.le_refl _) (by simp [maxLen]) rfl) _ _ _ _ rfl (HN.out.keep (below_box _ _)) (by have := HE.out; simp; omega) (by simp) ?_; intro v3 w3 ho3 hg3)
    have B3 : Below W.heap.size W w3 := (below_box W _).grown hg3 (by simp) (fun k e => by cases e; exact Nat.le_refl _)
    exact bodyPost_ret (v := v3) (by simp [results, Tryz.f16, go_sem]) rfl ⟨⟨v3, rfl, by simpa using ho3⟩, B3⟩

/-- What treeAfter tells: a tree, or one of the two reasons why there is none. -/
def AfterPost (ns : List Nd) (c : Cmd) (ea eb : Addr) (W : World) (e : Ending) (w' : World) : Prop :=
  ∃ sl err, e = .returned (.tuple #[sl, err]) ∧ Below W.heap.size W w' ∧
    ((sl = .slice none 0 0 ∧ err = .iface 145 (.pointer (some ea)) ∧ applyC ns c = ([], false)) ∨
     (sl = .slice none 0 0 ∧ err = .iface 145 (.pointer (some eb)) ∧ applyC ns c = (ns, false)) ∨
     (err = .nilIface ∧ ∃ out, applyC ns c = (out, true) ∧ w'.ownsRow W.heap.size 49 3 sl out.length (flatN out)))

theorem after_inv {ns : List Nd} {c : Cmd} {ea eb : Addr} {W w' : World} (h : applyC ns c = ([], false)) (hb : Below W.heap.size W w') : AfterPost ns c ea eb W (.returned (.tuple #[.slice none 0 0, .iface 145 (.pointer (some ea))])) w' :=
  ⟨_, _, rfl, hb, .inl ⟨rfl, rfl, h⟩⟩
theorem after_brk {ns : List Nd} {c : Cmd} {ea eb : Addr} {W w' : World} (h : applyC ns c = (ns, false)) (hb : Below W.heap.size W w') : AfterPost ns c ea eb W (.returned (.tuple #[.slice none 0 0, .iface 145 (.pointer (some eb))])) w' :=
  ⟨_, _, rfl, hb, .inr (.inl ⟨rfl, rfl, h⟩)⟩
theorem after_new {ns out : List Nd} {c : Cmd} {ea eb : Addr} {W w' : World} {sl : Value} (h : applyC ns c = (out, true)) (ho : w'.ownsRow W.heap.size 49 3 sl out.length (flatN out)) (hb : Below W.heap.size W w') : AfterPost ns c ea eb W (.returned (.tuple #[sl, .nilIface])) w' :=
  ⟨_, _, rfl, hb, .inr (.inr ⟨rfl, out, h, ho⟩)⟩

set_option maxHeartbeats 2000000 in
set_option maxRecDepth 100000 in
theorem treeAfter_c (a : Option Addr) (len cap : Nat) (ns : List Nd) (c : Cmd) (hl : len ≤ 2097151) (hs : Short 2097152 ns) (hp : c.p.size ≤ 2097152) (W : World) (hN : NodesAt W a len ns) (ea eb : Addr)
    (hI : W.cell? ⟨1, 0, none⟩ = some (.iface 145 (.pointer (some ea)))) (hK : W.cell? ⟨0, 0, none⟩ = some (.iface 145 (.pointer (some eb)))) :
    Calls Tryz.prog 14 #[.slice a len cap, cmdV c] W (AfterPost ns c ea eb W) := by
  obtain ⟨vt, hvt⟩ : ∃ vt, validT ns = vt := ⟨_, rfl⟩
  obtain ⟨vc, hvc⟩ : ∃ vc, validC c = vc := ⟨_, rfl⟩
  have HI := Lib.hid (fun W' (hb : Below W.heap.size W W') => cell_kept hb hI)
  have HK := Lib.hid (fun W' (hb : Below W.heap.size W W') => cell_kept hb hK)
  clear hI hK
  have HV := Lib.hid (fun W' (hb : Below W.heap.size W W') => show Calls Tryz.prog 31 #[.slice a len cap] W' (BoolPost vt W') by rw [← hvt]; exact implTreeValid_c a len cap ns (by omega) hs W' (hN.keep hb))
  have HC := Lib.hid (fun W' => show Calls Tryz.prog 32 #[cmdV c] W' (BoolPost vc W') by rw [← hvc]; exact implCmdValid_c c hp W')
  have HN := Lib.hid hN
  cases vt with
  | false =>
    have HR := Lib.hid (applyC_bad (c := c) (.inl hvt))
    clear hN hs hvt hvc
    unfold cmdV
    go_enter Tryz.func14, Tryz.ntmps14
    go_wp2_with fail
    refine (HV.out _ (below_box _ _)).mono ?_
    rintro e W1 ⟨rfl, hb1⟩
    have B1 := Lib.hid (below_next (below_box W _) hb1)
    have gi := HI.out _ B1.out
    clear hb1
    go_upto_region 2 with (fail)
    go_region
    all_goals (try go_wp2)
    all_goals go_ret2
    all_goals (first | exact after_inv HR.out B1.out.drew | exact after_inv HR.out B1.out)
  | true =>
    cases vc with
    | false =>
      have HR := Lib.hid (applyC_bad (ns := ns) (.inr hvc))
      clear hN hs hvt hvc
      unfold cmdV at HC ⊢
      obtain ⟨p, fk, fv, tk, tv⟩ := c
      simp only at HC ⊢
      go_enter Tryz.func14, Tryz.ntmps14
      go_wp2_with fail
      refine (HV.out _ (below_box _ _)).mono ?_
      rintro e W1 ⟨rfl, hb1⟩
      have q0 := box_cell hb1 0
      have q1 := box_cell hb1 1
      have q2 := box_cell hb1 2
      have q3 := box_cell hb1 3
      have q4 := box_cell hb1 4
      simp at q0 q1 q2 q3 q4
      have B1 := Lib.hid (below_next (below_box W _) hb1)
      clear hb1
      go_wp2_with fail
      refine (HC.out _).mono ?_
      rintro e W2 ⟨rfl, hb2⟩
      have B2 := Lib.hid (below_next B1.out hb2)
      have gi := HI.out _ B2.out
      clear hb2 q0 q1 q2 q3 q4
      go_upto_region 2 with (fail)
      go_region
      all_goals (try go_wp2)
      all_goals go_ret2
      all_goals (first | exact after_inv HR.out B2.out.drew | exact after_inv HR.out B2.out)
    | true =>
      have HR := Lib.hid (applyC_ok hvt hvc)
      have hdep := ((validC_iff c).1 hvc).1
      have HG := Lib.hid (fun W' (h : NodesAt W' a len ns) => implTreeGet_c a len cap ns c.p (by omega) hs (by omega) W' h)
      have HP := Lib.hid (fun W' (h : NodesAt W' a len ns) => implTreePut_c a len cap ns c.p c.tk c.tv (by omega) hs hp W' h)
      have htg := treeGet_eq hvt (vp_of_depth hdep)
      clear hN hs hvt hvc hdep
      unfold cmdV at HC ⊢
      obtain ⟨p, fk, fv, tk, tv⟩ := c
      simp only at HC HR HP HG hp htg ⊢
      obtain ⟨⟨gk, gv⟩, hg⟩ : ∃ g, getT ns p = g := ⟨_, rfl⟩
      rw [hg] at HR htg
      have HGP := Lib.hid (fun W' (h : NodesAt W' a len ns) => show Calls Tryz.prog 8 #[.slice a len cap, .string p] W' (fun e w' => e = .returned (.agg #[.int .i64 gk, .int .i64 gv]) ∧ Below W'.heap.size W' w') by have := HG.out W' h; rw [htg] at this; exact this)
      obtain ⟨ee, hee⟩ : ∃ ee, (!(gk == fk && gv == fv)) = ee := ⟨_, rfl⟩
      have hne := fun w' => (conNeQ gk gv fk fv w').trans (show _ = Result.ok (Value.bool ee) w' by rw [hee])
      have HEE := Lib.hid hee
      clear hg hee htg HG
      go_enter Tryz.func14, Tryz.ntmps14
      go_wp2_with fail
      refine (HV.out _ (below_box _ _)).mono ?_
      rintro e W1 ⟨rfl, hb1⟩
      have q0 := box_cell hb1 0
      have q1 := box_cell hb1 1
      have q2 := box_cell hb1 2
      have q3 := box_cell hb1 3
      have q4 := box_cell hb1 4
      simp at q0 q1 q2 q3 q4
      have B1 := Lib.hid (below_next (below_box W _) hb1)
      clear hb1
      go_wp2_with fail
      refine (HC.out _).mono ?_
      rintro e W2 ⟨rfl, hb2⟩
      have HS2 := Lib.hid (keepCmd (W0 := W) ⟨q0, q1, q2, q3, q4, B1.out⟩ hb2)
      have HS0 : Hid (W2.drew.cell? ⟨W.heap.size, 0, none⟩ = some (.string p) ∧ W2.drew.cell? ⟨W.heap.size, 1, none⟩ = some (.int .i64 fk) ∧ W2.drew.cell? ⟨W.heap.size, 2, none⟩ = some (.int .i64 fv) ∧ W2.drew.cell? ⟨W.heap.size, 3, none⟩ = some (.int .i64 tk) ∧ W2.drew.cell? ⟨W.heap.size, 4, none⟩ = some (.int .i64 tv) ∧ Below W.heap.size W W2.drew) :=
        ⟨HS2.out.1, HS2.out.2.1, HS2.out.2.2.1, HS2.out.2.2.2.1, HS2.out.2.2.2.2.1, HS2.out.2.2.2.2.2.drew⟩
      have HGD := Lib.hid (HGP.out W2.drew (HN.out.keep HS0.out.2.2.2.2.2))
      clear hb2 q0 q1 q2 q3 q4
      go_upto_region 3 with (fail)
      go_region_held3 (fun w' => w'.cell? ⟨W.heap.size, 0, none⟩ = some (.string p) ∧ w'.cell? ⟨W.heap.size, 1, none⟩ = some (.int .i64 fk) ∧ w'.cell? ⟨W.heap.size, 2, none⟩ = some (.int .i64 fv) ∧ w'.cell? ⟨W.heap.size, 3, none⟩ = some (.int .i64 tk) ∧ w'.cell? ⟨W.heap.size, 4, none⟩ = some (.int .i64 tv) ∧ Below W.heap.size W w')
        (first | exact HS0.out | exact keepCmd HS0.out hb5)
        (first | (go_at_call 8; (with_reducible refine (HGD.out).mono ?_); rintro e W5 ⟨rfl, hb5⟩))
      rename_i hS
      obtain ⟨s0, s1, s2, s3, s4, hB5⟩ := hS
      have HB5 := Lib.hid hB5
      have HN5 := Lib.hid (HN.out.keep hB5)
      clear hne hB5
      cases ee with
      | true =>
        have hR2 := Lib.hid (show applyC ns ⟨p, fk, fv, tk, tv⟩ = (ns, false) by
          rw [HR.out, if_neg]
          intro e
          have := HEE.out
          simp only [Prod.mk.injEq] at e
          rw [e.1, e.2] at this
          simp at this)
        have gk := HK.out _ HB5.out
        clear s0 s1 s2 s3 s4
        go_upto_region 4 with (fail)
        go_region
        all_goals (try go_wp2)
        all_goals go_ret2
        all_goals (first | exact after_brk hR2.out HB5.out.drew | exact after_brk hR2.out HB5.out)
      | false =>
        have hgt : (gk, gv) = (fk, fv) := by
          have := HEE.out
          rw [Bool.not_eq_false', Bool.and_eq_true, beq_iff_eq, beq_iff_eq] at this
          rw [this.1, this.2]
        have HR2 := Lib.hid (HR.out.trans (if_pos hgt))
        have HP5 := Lib.hid (HP.out W5 HN5.out)
        clear hgt
        go_wp2_with fail
        refine HP5.out.mono ?_
        rintro e W6 ⟨sl, out, b, rfl, hc, ho, hb6⟩
        have HB6 := Lib.hid (below_next HB5.out hb6)
        have HO6 := Lib.hid (own_mono ho HB5.out.size)
        have gk := HK.out _ HB6.out
        clear s0 s1 s2 s3 s4 ho hb6
        rcases hc with ⟨rfl, hr⟩ | ⟨rfl, hr, rfl⟩
        · have hR3 := Lib.hid (show applyC ns ⟨p, fk, fv, tk, tv⟩ = (out, true) by rw [HR2.out, hr])
          clear hr
          go_wp2
          go_ret2
          exact after_new hR3.out HO6.out HB6.out
        · have hR3 := Lib.hid (show applyC ns ⟨p, fk, fv, tk, tv⟩ = (ns, false) by rw [HR2.out, hr])
          clear hr
          go_upto_region 7 with (fail)
          go_region
          all_goals (try go_wp2)
          all_goals go_ret2
          all_goals (first | exact after_brk hR3.out HB6.out.drew | exact after_brk hR3.out HB6.out)

theorem errEqNil (v : Value) (t : TypeId) (w : World) : (binOp .eql 43 (.iface t v) .nilIface).run Tryz.prog w = .ok (.bool false) w :=
  run_eql_held_nil w 43 t v (by kernel_rfl)
theorem nilEqNil (w : World) : (binOp .eql 43 .nilIface .nilIface).run Tryz.prog w = .ok (.bool true) w :=
  run_eql_nil_nil w 43 (by kernel_rfl)

set_option maxHeartbeats 2000000 in
set_option maxRecDepth 100000 in
theorem implCmdApply_c (a : Option Addr) (len cap : Nat) (ns : List Nd) (c : Cmd) (hl : len ≤ 2097151) (hs : Short 2097152 ns) (hp : c.p.size ≤ 2097152) (W : World) (hN : NodesAt W a len ns) (hE : CmdVars W) :
    Calls Tryz.prog 5 #[.slice a len cap, cmdV c] W (ApplyPost (applyC ns c) W.heap.size W) := by
  have HE := Lib.hid hE
  obtain ⟨ea, eb, ca, cb, ta, tb, hI, hK, hne, ha, hb⟩ := hE
  have HT := Lib.hid (fun W' (hb : Below W.heap.size W W') => treeAfter_c a len cap ns c hl hs hp W' (hN.keep hb) ea eb (cell_kept hb hI) (cell_kept hb hK))
  have HK := Lib.hid (fun W' (hb : Below W.heap.size W W') => cell_kept hb hK)
  have HO := Lib.hid (fun W' (hx : Below W.heap.size W W') => isErr_other ea eb ca cb ta tb W' hne (heap_kept hx ha) (heap_kept hx hb))
  have HCL := Lib.hid (fun W' (hb : Below W.heap.size W W') => cloneN_c a len cap ns (by omega) W' (hN.keep hb))
  clear hN hs hI hK hne ha hb
  unfold cmdV at HT ⊢
  obtain ⟨p, fk, fv, tk, tv⟩ := c
  simp only at HT ⊢
  go_enter Tryz.func5, Tryz.ntmps5
  go_wp2_with fail
  refine (HT.out _ (below_box _ _)).mono ?_
  rintro e W1 ⟨sl, err, rfl, hb1, hc⟩
  have B1 := Lib.hid (below_next (below_box W _) hb1)
  have gk := HK.out _ B1.out
  clear hb1
  rcases hc with ⟨rfl, rfl, hr⟩ | ⟨rfl, rfl, hr⟩ | ⟨rfl, out, hr, ho⟩
  · have HR := Lib.hid hr
    clear hr
    go_wp2_with fail
    refine (HO.out _ B1.out).mono ?_
    rintro e W2 ⟨rfl, rfl⟩
    have he := errEqNil
    go_upto_region 4 with (fail)
    go_region
    all_goals (try go_wp2)
    all_goals go_ret2
    all_goals (first | exact apply_end HR.out (World.ownsRow_nil _ _ _ _) B1.out.drew | exact apply_end HR.out (World.ownsRow_nil _ _ _ _) B1.out)
  · have HR := Lib.hid hr
    clear hr
    go_wp2_with fail
    refine (isErr_same eb _).mono ?_
    rintro e W2 ⟨rfl, rfl⟩
    go_wp2_with fail
    refine (HCL.out _ B1.out).mono ?_
    rintro e W3 ⟨⟨v3, rfl, ho3⟩, hb3⟩
    go_wp2
    go_ret2
    exact apply_end HR.out (own_mono ho3 B1.out.size) (below_next B1.out hb3)
  · have HR := Lib.hid hr
    have HO1 := Lib.hid (own_mono ho (below_box W _).size)
    clear hr ho
    go_wp2_with fail
    refine (isErr_nil eb _).mono ?_
    rintro e W2 ⟨rfl, rfl⟩
    have he := nilEqNil
    go_upto_region 4 with (fail)
    go_region
    all_goals (try go_wp2)
    all_goals go_ret2
    all_goals (first | exact apply_end HR.out HO1.out B1.out.drew | exact apply_end HR.out HO1.out B1.out)

end Go.Proofs.YtnmpbocnbcokeaaGreatDoor

/-
  slices.Sort and slices.Compact of texts, by the library's contracts, at this program's numbers.
-/
namespace Go.Proofs.YtnmpbocnbcokeaaGreatDoor
open Go.Shelf Go.RowKit
def So0.lays190_ren : Go.Shelf.Ren := ⟨fun | 190 => 25 | 125 => 47 | 258 => 46 | 128 => 67 | 129 => 68 | 302 => 58 | 303 => 59 | 304 => 60 | 305 => 61 | 306 => 62 | 307 => 63 | 308 => 64 | 309 => 65 | 310 => 66 | 333 => 75 | 329 => 76 | 330 => 77 | 334 => 78 | 335 => 79 | 336 => 80 | 344 => 84 | n => n, fun | 31 => 35 | 9 => 9 | 3 => 3 | 46 => 87 | 0 => 0 | 51 => 123 | 53 => 125 | 4 => 4 | 183 => 115 | 182 => 114 | 131 => 120 | 5 => 5 | 218 => 133 | 222 => 137 | 228 => 140 | 229 => 141 | n => n, fun | n => n⟩
theorem So0.lays190 : Go.Proofs.Lays.n190 Tryz.prog So0.lays190_ren := {
  mixed := by kernel_rfl
  f125 := Tryz.func47.trans (congrArg some (by kernel_rfl))
  f128 := Tryz.func67.trans (congrArg some (by kernel_rfl))
  f129 := Tryz.func68.trans (congrArg some (by kernel_rfl))
  f190 := Tryz.func25.trans (congrArg some (by kernel_rfl))
  f258 := Tryz.func46.trans (congrArg some (by kernel_rfl))
  f302 := Tryz.func58.trans (congrArg some (by kernel_rfl))
  f303 := Tryz.func59.trans (congrArg some (by kernel_rfl))
  f304 := Tryz.func60.trans (congrArg some (by kernel_rfl))
  f305 := Tryz.func61.trans (congrArg some (by kernel_rfl))
  f306 := Tryz.func62.trans (congrArg some (by kernel_rfl))
  f307 := Tryz.func63.trans (congrArg some (by kernel_rfl))
  f308 := Tryz.func64.trans (congrArg some (by kernel_rfl))
  f309 := Tryz.func65.trans (congrArg some (by kernel_rfl))
  f310 := Tryz.func66.trans (congrArg some (by kernel_rfl))
  f329 := Tryz.func76.trans (congrArg some (by kernel_rfl))
  f330 := Tryz.func77.trans (congrArg some (by kernel_rfl))
  f333 := Tryz.func75.trans (congrArg some (by kernel_rfl))
  f334 := Tryz.func78.trans (congrArg some (by kernel_rfl))
  f335 := Tryz.func79.trans (congrArg some (by kernel_rfl))
  f336 := Tryz.func80.trans (congrArg some (by kernel_rfl))
  f344 := Tryz.func84.trans (congrArg some (by kernel_rfl))
  t0 := Tryz.underlying0
  a0 := Tryz.isAgg0
  z0 := Tryz.sizeOf0
  v0 := Tryz.zeroValue0
  t3 := Tryz.underlying3
  a3 := Tryz.isAgg3
  z3 := Tryz.sizeOf3
  v3 := Tryz.zeroValue3
  t4 := Tryz.underlying4
  a4 := Tryz.isAgg4
  z4 := Tryz.sizeOf4
  v4 := Tryz.zeroValue4
  t5 := Tryz.underlying5
  a5 := Tryz.isAgg5
  z5 := Tryz.sizeOf5
  v5 := Tryz.zeroValue5
  t9 := Tryz.underlying9
  a9 := Tryz.isAgg9
  z9 := Tryz.sizeOf9
  v9 := Tryz.zeroValue9
  t31 := Tryz.underlying35
  a31 := Tryz.isAgg35
  z31 := Tryz.sizeOf35
  v31 := Tryz.zeroValue35
  t46 := Tryz.underlying87
  a46 := Tryz.isAgg87
  z46 := Tryz.sizeOf87
  v46 := Tryz.zeroValue87
  t51 := Tryz.underlying123
  a51 := Tryz.isAgg123
  z51 := Tryz.sizeOf123
  v51 := Tryz.zeroValue123
  t53 := Tryz.underlying125
  a53 := Tryz.isAgg125
  z53 := Tryz.sizeOf125
  v53 := Tryz.zeroValue125
  t131 := Tryz.underlying120
  a131 := Tryz.isAgg120
  z131 := Tryz.sizeOf120
  v131 := Tryz.zeroValue120
  t182 := Tryz.underlying114
  a182 := Tryz.isAgg114
  z182 := Tryz.sizeOf114
  v182 := Tryz.zeroValue114
  t183 := Tryz.underlying115
  a183 := Tryz.isAgg115
  z183 := Tryz.sizeOf115
  v183 := Tryz.zeroValue115
  t218 := Tryz.underlying133
  a218 := Tryz.isAgg133
  z218 := Tryz.sizeOf133
  v218 := Tryz.zeroValue133
  t222 := Tryz.underlying137
  a222 := Tryz.isAgg137
  z222 := Tryz.sizeOf137
  v222 := Tryz.zeroValue137
  t228 := Tryz.underlying140
  a228 := Tryz.isAgg140
  z228 := Tryz.sizeOf140
  v228 := Tryz.zeroValue140
  t229 := Tryz.underlying141
  a229 := Tryz.isAgg141
  z229 := Tryz.sizeOf141
  v229 := Tryz.zeroValue141 }
def So0.lays194_ren : Go.Shelf.Ren := ⟨fun | 194 => 26 | n => n, fun | 31 => 35 | 9 => 9 | 3 => 3 | 4 => 4 | 0 => 0 | n => n, fun | n => n⟩
theorem So0.lays194 : Go.Proofs.Lays.n194 Tryz.prog So0.lays194_ren := {
  mixed := by kernel_rfl
  f194 := Tryz.func26.trans (congrArg some (by kernel_rfl))
  t0 := Tryz.underlying0
  a0 := Tryz.isAgg0
  z0 := Tryz.sizeOf0
  v0 := Tryz.zeroValue0
  t3 := Tryz.underlying3
  a3 := Tryz.isAgg3
  z3 := Tryz.sizeOf3
  v3 := Tryz.zeroValue3
  t4 := Tryz.underlying4
  a4 := Tryz.isAgg4
  z4 := Tryz.sizeOf4
  v4 := Tryz.zeroValue4
  t9 := Tryz.underlying9
  a9 := Tryz.isAgg9
  z9 := Tryz.sizeOf9
  v9 := Tryz.zeroValue9
  t31 := Tryz.underlying35
  a31 := Tryz.isAgg35
  z31 := Tryz.sizeOf35
  v31 := Tryz.zeroValue35 }

end Go.Proofs.YtnmpbocnbcokeaaGreatDoor

/-
  WALKS: slices.Sort and slices.Compact of texts that the call owns.
-/
namespace Go.Proofs.YtnmpbocnbcokeaaGreatDoor
open Go.Shelf Go.RowKit Go.Sort
set_option linter.unusedVariables false

def bytesOf (xs : List ByteArray) : List (List UInt8) := xs.map (fun x => x.data.toList)
def textsOf (ss : List (List UInt8)) : List ByteArray := ss.map (fun s => ⟨s.toArray⟩)

theorem bytes_texts (ss : List (List UInt8)) : bytesOf (textsOf ss) = ss := by
  unfold bytesOf textsOf
  rw [List.map_map]
  have : ((fun x : ByteArray => x.data.toList) ∘ fun s : List UInt8 => (⟨s.toArray⟩ : ByteArray)) = id := rfl
  rw [this, List.map_id]

theorem texts_bytes (xs : List ByteArray) : textsOf (bytesOf xs) = xs := by
  unfold bytesOf textsOf
  rw [List.map_map]
  have : ((fun s : List UInt8 => (⟨s.toArray⟩ : ByteArray)) ∘ fun x : ByteArray => x.data.toList) = id := by
    funext x
    show (⟨x.data.toList.toArray⟩ : ByteArray) = x
    rw [Array.toArray_toList]
  rw [this, List.map_id]

theorem enc_bytes (xs : List ByteArray) : (bytesOf xs).map encStr = xs.map Value.string := by
  have h := texts_bytes xs
  conv => rhs; rw [← h]
  unfold textsOf
  rw [List.map_map]
  rfl

theorem enc_texts (ss : List (List UInt8)) : ss.map encStr = (textsOf ss).map Value.string := by rw [← enc_bytes, bytes_texts]

/-- Texts that do not descend. -/
def NotDesc (l : List ByteArray) : Prop := l.Pairwise (fun x y => ltB y x = false)

theorem sorted_notDesc (ss : List (List UInt8)) : NotDesc (textsOf (ss.mergeSort fun x y => decide (x ≤ y))) := by
  unfold NotDesc textsOf
  rw [List.pairwise_map]
  have h := List.pairwise_mergeSort (le := fun x y : List UInt8 => decide (x ≤ y)) (fun a b c h1 h2 => by
    rw [decide_eq_true_eq] at h1 h2 ⊢; exact List.le_trans h1 h2) (fun a b => by
    rw [Bool.or_eq_true, decide_eq_true_eq, decide_eq_true_eq]; exact List.le_total a b) ss
  refine h.imp fun {x y} hxy => ?_
  rw [decide_eq_true_eq] at hxy
  rw [Bool.eq_false_iff]
  intro hc
  have := (ltB_iff _ _).1 hc
  exact (List.not_lt.2 hxy) this

theorem sorted_mem (xs : List ByteArray) (p : ByteArray) : p ∈ textsOf ((bytesOf xs).mergeSort fun x y => decide (x ≤ y)) ↔ p ∈ xs := by
  conv => rhs; rw [← texts_bytes xs]
  unfold textsOf
  rw [List.mem_map, List.mem_map]
  simp only [List.mem_mergeSort]

/-- What slices.Sort leaves. -/
def SortPost (base : Nat) (v : Value) (xs : List ByteArray) (W : World) (e : Ending) (w' : World) : Prop :=
  e = .returned (.tuple #[]) ∧ ∃ ys, NotDesc ys ∧ ys.length = xs.length ∧ (∀ p, p ∈ ys ↔ p ∈ xs) ∧ w'.ownsRow base 9 1 v ys.length (ys.map Value.string) ∧ W.grownBy w' v.ownBlock

theorem sortS_c (base : Nat) (v : Value) (xs : List ByteArray) (hl : xs.length ≤ 2097152) (W : World) (ho : W.ownsRow base 9 1 v xs.length (xs.map Value.string)) :
    Calls Tryz.prog 25 #[v] W (SortPost base v xs W) := by
  rcases ho.2 with ⟨rfl, h0⟩ | ⟨g, cap, cur, rfl, hbase, hb, h1, h2, h3, h4⟩
  · have hx : xs = [] := List.length_eq_zero_iff.1 h0
    subst hx
    refine (Any.slices_Sort_string_none So0.lays190 none 0 W).mono ?_
    rintro e w' ⟨rfl, rfl⟩
    exact ⟨rfl, [], List.Pairwise.nil, rfl, fun _ => Iff.rfl, ho, ⟨rfl, rfl, rfl, Nat.le_refl _, fun _ _ _ => rfl⟩⟩
  · have hbl : (bytesOf xs).length = xs.length := by unfold bytesOf; rw [List.length_map]
    have hh : Holds encStr W g 0 (bytesOf xs).toArray := holds_of_block hb (by rw [hbl, enc_bytes]; simpa using h4)
    have hc := Any.slices_Sort_string So0.lays190 g 0 cap (bytesOf xs) W hh (Array.getElem?_eq_some_iff.1 hb).1 (by rw [hbl]; omega)
    rw [hbl] at hc
    refine Calls.mono hc ?_
    rintro e w' ⟨rfl, n, os, rfl⟩
    have hml : ((bytesOf xs).mergeSort fun x y => decide (x ≤ y)).length = (bytesOf xs).length := List.length_mergeSort _
    refine ⟨rfl, textsOf ((bytesOf xs).mergeSort fun x y => decide (x ≤ y)), sorted_notDesc _, by unfold textsOf; rw [List.length_map, hml, hbl], sorted_mem xs, ?_, grownBy_sorted _⟩
    have := ownsRow_sorted (n := n) (os := os) (e := 9) hml hbase hb (by rw [hbl]; exact h1) h2 h3
    rw [hbl, enc_texts] at this
    rw [show (textsOf ((bytesOf xs).mergeSort fun x y => decide (x ≤ y))).length = xs.length by unfold textsOf; rw [List.length_map, hml, hbl]]
    exact this

/-! ## Compact -/

theorem gem {ss : List (List UInt8)} {j : Nat} (hj : j < ss.length) : ss[j]! = ss[j] := by simp [hj]

theorem comp_mem (ss : List (List UInt8)) (s : List UInt8) : s ∈ Lib.compact ss ↔ s ∈ ss := by
  have hget : ∀ j, j < ss.length → ss.toArray[j]! = ss[j]! := fun j hj => by simp
  unfold Lib.compact Lib.compactUpTo
  rw [List.mem_map]
  constructor
  · rintro ⟨j, hj, rfl⟩
    rw [List.mem_filter, List.mem_range] at hj
    have := hj.1
    rw [hget j this, gem this]
    exact List.getElem_mem this
  · intro hs
    obtain ⟨j, hj, rfl⟩ := List.getElem_of_mem hs
    induction j with
    | zero => exact ⟨0, by rw [List.mem_filter, List.mem_range]; exact ⟨hj, by simp [Lib.keeps]⟩, by rw [hget 0 hj, gem hj]⟩
    | succ j ih =>
      by_cases hk : Lib.keeps ss.toArray (j + 1) = true
      · exact ⟨j + 1, by rw [List.mem_filter, List.mem_range]; exact ⟨hj, hk⟩, by rw [hget _ hj, gem hj]⟩
      · have hj' : j < ss.length := by omega
        have e : ss[j + 1] = ss[j] := by
          unfold Lib.keeps at hk
          rw [decide_eq_true_eq] at hk
          have h2 : ss.toArray[j + 1]! = ss.toArray[j]! := by
            refine Classical.byContradiction fun hne => hk (.inr ?_)
            rwa [Nat.add_sub_cancel]
          rw [hget _ hj, hget _ hj', gem hj, gem hj'] at h2
          exact h2
        rw [e]
        exact ih hj' (List.getElem_mem hj')

theorem comp_asc {xs : List ByteArray} (h : NotDesc xs) : AscP (textsOf (Lib.compact (bytesOf xs))) := by
  unfold AscP textsOf Lib.compact Lib.compactUpTo
  rw [List.pairwise_map, List.pairwise_map]
  have hbl : (bytesOf xs).length = xs.length := by unfold bytesOf; rw [List.length_map]
  have hget : ∀ j (hj : j < xs.length), (⟨((bytesOf xs).toArray[j]!).toArray⟩ : ByteArray) = xs[j] := fun j hj => by
    have : (bytesOf xs).toArray[j]! = xs[j].data.toList := by
      simp [bytesOf, hj]
    rw [this, Array.toArray_toList]
  have hp := List.pairwise_iff_getElem.1 h
  have hr : ((List.range (bytesOf xs).length).filter (Lib.keeps (bytesOf xs).toArray)).Pairwise (· < ·) := List.Pairwise.filter _ List.pairwise_lt_range
  refine hr.imp_of_mem fun {i j} hi hj hij => ?_
  rw [List.mem_filter, List.mem_range, hbl] at hi hj
  rw [hget i hi.1, hget j hj.1]
  have hk := hj.2
  unfold Lib.keeps at hk
  rw [decide_eq_true_eq] at hk
  have hj1 : j - 1 < xs.length := by omega
  have hne : xs[j] ≠ xs[j - 1] := by
    rcases hk with h0 | h0
    · omega
    · intro e
      apply h0
      have a1 : (bytesOf xs).toArray[j]! = xs[j].data.toList := by simp [bytesOf, hj.1]
      have a2 : (bytesOf xs).toArray[j - 1]! = xs[j - 1].data.toList := by simp [bytesOf, hj1]
      rw [a1, a2, e]
  have h1 : ltB xs[j - 1] xs[j] = true := by
    have h2 := hp (j - 1) j hj1 hj.1 (by omega)
    refine Classical.byContradiction fun hc => hne ?_
    exact (ltB_tri (by simpa using hc) h2).symm
  by_cases he : i = j - 1
  · subst he; exact h1
  · have h2 := hp i (j - 1) hi.1 hj1 (by omega)
    by_cases h3 : ltB xs[i] xs[j - 1] = true
    · exact ltB_trans h3 h1
    · have := ltB_tri (by simpa using h3) h2
      rw [this]; exact h1

/-- What slices.Compact leaves of texts that do not descend. -/
def CompPost (base : Nat) (ys : List ByteArray) (W : World) (e : Ending) (w' : World) : Prop :=
  ∃ v' zs, e = .returned v' ∧ AscP zs ∧ (∀ p, p ∈ zs ↔ p ∈ ys) ∧ w'.ownsRow base 9 1 v' zs.length (zs.map Value.string)

theorem comp_len (ss : List (List UInt8)) : (Lib.compact ss).length ≤ ss.length := by
  unfold Lib.compact Lib.compactUpTo
  rw [List.length_map]
  refine Nat.le_trans (List.length_filter_le _ _) ?_
  rw [List.length_range]; exact Nat.le_refl _

theorem compactS_c (base : Nat) (v : Value) (ys : List ByteArray) (hl : ys.length ≤ 2097152) (hd : NotDesc ys) (W : World) (ho : W.ownsRow base 9 1 v ys.length (ys.map Value.string)) :
    Calls Tryz.prog 26 #[v] W fun e w' => CompPost base ys W e w' ∧ W.grownBy w' v.ownBlock := by
  rcases ho.2 with ⟨rfl, h0⟩ | ⟨g, cap, cur, rfl, hbase, hb, h1, h2, h3, h4⟩
  · have hx : ys = [] := List.length_eq_zero_iff.1 h0
    subst hx
    refine (Any.slices_Compact_string_empty So0.lays194 none 0 W).mono ?_
    rintro e w' ⟨rfl, rfl⟩
    exact ⟨⟨_, [], rfl, List.Pairwise.nil, fun _ => Iff.rfl, ho⟩, ⟨rfl, rfl, rfl, Nat.le_refl _, fun _ _ _ => rfl⟩⟩
  · have hbl : (bytesOf ys).length = ys.length := by unfold bytesOf; rw [List.length_map]
    have hh : Holds encStr W g 0 (bytesOf ys).toArray := holds_of_block hb (by rw [hbl, enc_bytes]; simpa using h4)
    have hc := Any.slices_Compact_string So0.lays194 g 0 cap (bytesOf ys) W hh (by rw [hbl]; omega) (by rw [hbl]; exact h1)
    rw [hbl] at hc
    refine Calls.mono hc ?_
    rintro e w' ⟨rfl, n, rfl⟩
    obtain ⟨zs, hzs⟩ : ∃ zs, zs = Lib.compact (bytesOf ys) ++ List.replicate (ys.length - (Lib.compact (bytesOf ys)).length) [] := ⟨_, rfl⟩
    rw [← hzs]
    have hcl := comp_len (bytesOf ys)
    rw [hbl] at hcl
    have hzl : zs.length = (bytesOf ys).length := by rw [hzs, List.length_append, List.length_replicate, hbl]; omega
    have hrow := ownsRow_sorted (n := n) (os := #[]) (e := 9) hzl hbase hb (by rw [hbl]; exact h1) h2 h3
    have hgr := grownBy_sorted (w := W) (g := g) (n := n) (os := #[]) zs.toArray
    have hg0 : grow (putRow encStr (Sort.ahead W n) g 0 zs.toArray) #[] = putRow encStr (Sort.ahead W n) g 0 zs.toArray := by
      unfold grow
      simp
      rfl
    rw [hg0] at hrow hgr
    have htl : (textsOf (Lib.compact (bytesOf ys))).length = (Lib.compact (bytesOf ys)).length := by unfold textsOf; rw [List.length_map]
    refine ⟨⟨_, textsOf (Lib.compact (bytesOf ys)), rfl, comp_asc hd, fun p => ?_, ?_⟩, hgr⟩
    · conv => rhs; rw [← texts_bytes ys]
      unfold textsOf
      rw [List.mem_map, List.mem_map]
      simp only [comp_mem]
    · rw [htl, ← enc_texts]
      rcases hrow.2 with ⟨hv, _⟩ | ⟨g', cap', cur', hv, q1, q2, q3, q4, q5, q6⟩
      · cases hv
      · cases hv
        refine ⟨by rw [List.length_map, Nat.mul_one], .inr ⟨g, cap, cur', rfl, q1, q2, by omega, q4, q5, ?_⟩⟩
        rw [Nat.mul_one] at q6 ⊢
        rw [hbl] at q6
        have q7 : (cur'.toList.take ys.length).take (Lib.compact (bytesOf ys)).length = (zs.map encStr).take (Lib.compact (bytesOf ys)).length := by rw [q6]
        rw [List.take_take, Nat.min_eq_left hcl] at q7
        rw [q7, ← List.map_take, hzs, List.take_left]

end Go.Proofs.YtnmpbocnbcokeaaGreatDoor

/-
  WALKS: slices.Backward over a list of nodes.
-/
namespace Go.Proofs.YtnmpbocnbcokeaaGreatDoor
open Go.RowKit
set_option linter.unusedVariables false

attribute [local go_sem] Oper.semAt_some

/-- A node of a list, with its place. -/
structure Elt (ns : List Nd) where
  i : Nat
  n : Nd
  at_ : ns[i]? = some n

/-- The nodes ahead of a place, the last one first. -/
def backE (ns : List Nd) : (j : Nat) → j ≤ ns.length → List (Elt ns)
  | 0, _ => []
  | j + 1, h => ⟨j, ns[j], by simp⟩ :: backE ns j (by omega)

theorem backE_length (ns : List Nd) : ∀ (j : Nat) (h : j ≤ ns.length), (backE ns j h).length = j
  | 0, _ => rfl
  | j + 1, h => by show (backE ns j _).length + 1 = _; rw [backE_length ns j]

def ndV (n : Nd) : Value := .agg #[.string n.p, .int .i64 n.k, .int .i64 n.v]

/-- What a round keeps: what lay below, and the box of the list. -/
def BackK (n₀ Bn : Nat) (W W' : World) : Prop := Below n₀ W W' ∧ W'.heap[Bn]? = W.heap[Bn]?

theorem nodes_below {n₀ : Nat} {W W' : World} {a : Option Addr} {len : Nat} {ns : List Nd} (h : NodesAt W a len ns) (hl : ∀ b off, a = some ⟨b, off, none⟩ → len ≠ 0 → b < n₀) (hb : Below n₀ W W') : NodesAt W' a len ns := by
  obtain ⟨h1, h0 | ⟨b, off, ha, hc⟩⟩ := h
  · exact ⟨h1, .inl h0⟩
  · by_cases h0 : len = 0
    · exact ⟨h1, .inl h0⟩
    · have hbn := hl b off ha h0
      exact ⟨h1, .inr ⟨b, off, ha, fun i n hn => ⟨(hb.cell (p := ⟨b, _, none⟩) hbn).trans (hc i n hn).1, (hb.cell (p := ⟨b, _, none⟩) hbn).trans (hc i n hn).2.1, (hb.cell (p := ⟨b, _, none⟩) hbn).trans (hc i n hn).2.2⟩⟩⟩

theorem nodes_lt {W : World} {a : Option Addr} {len : Nat} {ns : List Nd} (h : NodesAt W a len ns) : ∀ b off, a = some ⟨b, off, none⟩ → len ≠ 0 → b < W.heap.size := by
  intro b off ha h0
  obtain ⟨b', off', n, ha', _, hc, _⟩ := h.node (i := 0) (by omega)
  rw [ha] at ha'
  cases ha'
  exact World.block_lt_of_cell? W _ hc

end Go.Proofs.YtnmpbocnbcokeaaGreatDoor

/-
  PLAIN MATHEMATICS OF A STACK OF SUMS: nodes from the last to the first one; the paths that wait for their parent are on top.
-/
namespace Go.Proofs.YtnmpbocnbcokeaaGreatDoor

/-- The number of a path's last letter. -/
def nameN (q : ByteArray) : Int := ((q.data.toList.getLast?.getD 97).toNat : Int) - 97

abbrev Stk := List (ByteArray × Int)

/-- The paths just behind p are taken off, one sum after the other. -/
def popL (p : ByteArray) : Int → Stk → Int × Stk
  | n, [] => (n, [])
  | n, x :: r => if parB x.1 = p then popL p ((31 * n + 7 * nameN x.1 + 100 * x.2 + 3) % 9973) r else (n, x :: r)

def stepNd (n : Nd) (a : List Int × Stk) : List Int × Stk :=
  ((popL n.p (baseW (n.k, n.v)) a.2).1 :: a.1, (n.p, (popL n.p (baseW (n.k, n.v)) a.2).1) :: (popL n.p (baseW (n.k, n.v)) a.2).2)

/-- The sums of a list of nodes, and the stack that is left. -/
def runL (ns : List Nd) : List Int × Stk := ns.foldr stepNd ([], [])

theorem runL_cons (n : Nd) (r : List Nd) : runL (n :: r) = stepNd n (runL r) := rfl

theorem runL_length : ∀ ns : List Nd, (runL ns).1.length = ns.length
  | [] => rfl
  | n :: r => by rw [runL_cons]; show (runL r).1.length + 1 = _; rw [runL_length r]; rfl

/-! ## What is on a stack -/

def StkOk (S : Stk) : Prop := ∀ x ∈ S, vpB x.1 = true ∧ 0 ≤ x.2 ∧ x.2 ≤ 9972

theorem popL_ok {p : ByteArray} : ∀ {S : Stk} {n : Int}, StkOk S → 0 ≤ n ∧ n ≤ 9972 → StkOk (popL p n S).2 ∧ (0 ≤ (popL p n S).1 ∧ (popL p n S).1 ≤ 9972)
  | [], n, h, hn => ⟨h, hn⟩
  | x :: r, n, h, hn => by
    unfold popL
    split
    · exact popL_ok (fun y hy => h y (List.mem_cons_of_mem _ hy)) (by omega)
    · exact ⟨h, hn⟩

theorem popL_len {p : ByteArray} : ∀ {S : Stk} {n : Int}, (popL p n S).2.length ≤ S.length
  | [], n => Nat.le_refl _
  | x :: r, n => by
    unfold popL
    split
    · exact Nat.le_trans (popL_len (S := r)) (by simp)
    · exact Nat.le_refl _

/-- Nodes that a run can start from. -/
def NdsOk (ns : List Nd) : Prop := ∀ n ∈ ns, vpB n.p = true ∧ validB n.k n.v = true

theorem base_ok {k v : Int} (h : validB k v = true) : 0 ≤ baseW (k, v) ∧ baseW (k, v) ≤ 9972 := by
  have := base_range (c := (k, v)) h
  exact ⟨by omega, by omega⟩

theorem runL_ok : ∀ {ns : List Nd}, NdsOk ns → StkOk (runL ns).2 ∧ (runL ns).2.length ≤ ns.length
  | [], _ => ⟨fun x hx => (by cases hx), Nat.le_refl _⟩
  | n :: r, h => by
    obtain ⟨h1, h2⟩ := runL_ok (ns := r) fun m hm => h m (List.mem_cons_of_mem _ hm)
    obtain ⟨hp, hv⟩ := h n (by simp)
    obtain ⟨g1, g2⟩ := popL_ok (p := n.p) h1 (base_ok hv)
    rw [runL_cons]
    refine ⟨fun x hx => ?_, ?_⟩
    · rcases List.mem_cons.1 hx with rfl | hx
      · exact ⟨hp, g2⟩
      · exact g1 x hx
    · show (popL _ _ _).2.length + 1 ≤ _
      have := popL_len (p := n.p) (S := (runL r).2) (n := baseW (n.k, n.v))
      simp only [List.length_cons]; omega

theorem runL_ok' {ns : List Nd} (h : NdsOk ns) (i : Nat) : StkOk (runL (ns.drop i)).2 ∧ (runL (ns.drop i)).2.length ≤ ns.length - i := by
  have := runL_ok (ns := ns.drop i) fun m hm => h m (List.mem_of_mem_drop hm)
  rwa [List.length_drop] at this

/-! ## The run over a tree -/

def lt4 (k : Nat) : UInt8 := UInt8.ofNat (97 + k)

theorem lt4_letter {k : Nat} (h : k < 4) : Pm.letter (lt4 k) = true := by
  rcases (by omega : k = 0 ∨ k = 1 ∨ k = 2 ∨ k = 3) with rfl | rfl | rfl | rfl <;> decide

theorem lt4_name {k : Nat} (h : k < 4) : ((lt4 k).toNat : Int) - 97 = k := by
  rcases (by omega : k = 0 ∨ k = 1 ∨ k = 2 ∨ k = 3) with rfl | rfl | rfl | rfl <;> decide

theorem lt4_inj {j k : Nat} (hj : j < 4) (hk : k < 4) (h : lt4 j = lt4 k) : j = k := by
  have h1 := lt4_name hj
  have h2 := lt4_name hk
  rw [h] at h1
  omega

theorem Wrd.snoc {w : List UInt8} (hw : Wrd w) (hl : w.length < 4) {k : Nat} (hk : k < 4) : Wrd (w ++ [lt4 k]) :=
  ⟨by simp; omega, fun x hx => by
    rcases List.mem_append.1 hx with hx | hx
    · exact hw.2 x hx
    · rw [List.mem_singleton.1 hx]; exact lt4_letter hk⟩

theorem flat_last : ∀ (w : List UInt8) (c : UInt8), (Pm.flat (w ++ [c])).getLast? = some c
  | [], c => rfl
  | x :: w, c => by
    show (47 :: x :: Pm.flat (w ++ [c])).getLast? = some c
    have := flat_last w c
    rw [List.getLast?_cons, List.getLast?_cons, this]
    rfl

theorem name_word (w : List UInt8) {k : Nat} (hk : k < 4) : nameN (pB (w ++ [lt4 k])) = k := by
  unfold nameN
  rw [pB_list]
  unfold Pm.pathOf
  rw [if_neg (by simp), flat_last]
  exact lt4_name hk

def kidK (G : List UInt8 → Int × Int) (d : Nat) (w : List UInt8) (k : Nat) : Stk :=
  if (G (w ++ [lt4 k])).1 = 0 then [] else [(pB (w ++ [lt4 k]), sumW G d (w ++ [lt4 k]))]

def kids (G : List UInt8 → Int × Int) : Nat → List UInt8 → Stk
  | 0, _ => []
  | d + 1, w => (List.range 4).flatMap (kidK G d w)

def AwayW (w : List UInt8) (S : Stk) : Prop := ∀ x ∈ S, ∃ v, Wrd v ∧ v ≠ [] ∧ x.1 = pB v ∧ ¬ (w <+: v)

theorem popL_away {w : List UInt8} (hw : Wrd w) {S : Stk} (h : AwayW w S) (n : Int) : popL (pB w) n S = (n, S) := by
  cases S with
  | nil => rfl
  | cons x r =>
    obtain ⟨v, hv, hn, e, hp⟩ := h x (List.mem_cons_self ..)
    unfold popL
    rw [if_neg]
    rw [e, parB_pB hv hn]
    intro q
    have := pB_inj hv.dropLast hw q
    exact hp (by rw [← this]; exact List.dropLast_prefix v)

theorem popL_kids (G : List UInt8 → Int × Int) (d : Nat) {w : List UInt8} (hw : Wrd w) (hl : w.length < 4) {S : Stk} (h : AwayW w S) : ∀ (ks : List Nat), (∀ k ∈ ks, k < 4) → ∀ n,
    popL (pB w) n (ks.flatMap (kidK G d w) ++ S) = (ks.foldl (fun n k => if (G (w ++ [lt4 k])).1 = 0 then n else stepW (sumW G d (w ++ [lt4 k])) k n) n, S)
  | [], _, n => by simpa using popL_away hw h n
  | k :: ks, hk, n => by
    have ih := popL_kids G d hw hl h ks (fun j hj => hk j (List.mem_cons_of_mem _ hj))
    have hk4 := hk k (List.mem_cons_self ..)
    rw [List.flatMap_cons, List.foldl_cons]
    unfold kidK
    by_cases hz : (G (w ++ [lt4 k])).1 = 0
    · rw [if_pos hz, if_pos hz]
      exact ih n
    · rw [if_neg hz, if_neg hz]
      show popL (pB w) n ((pB (w ++ [lt4 k]), sumW G d (w ++ [lt4 k])) :: (ks.flatMap (kidK G d w) ++ S)) = _
      unfold popL
      rw [if_pos]
      · rw [name_word w hk4]
        exact ih _
      · show parB (pB (w ++ [lt4 k])) = pB w
        rw [parB_pB (hw.snoc hl hk4) (by simp), List.dropLast_concat]

theorem kids_none {G : List UInt8 → Int × Int} {d : Nat} {w : List UInt8} (h : d ≠ 0 → ∀ k, k < 4 → (G (w ++ [lt4 k])).1 = 0) : kids G d w = [] := by
  cases d with
  | zero => rfl
  | succ d =>
    show (List.range 4).flatMap (kidK G d w) = []
    rw [List.flatMap_eq_nil_iff]
    intro k hk
    unfold kidK
    rw [if_pos (h (by omega) k (List.mem_range.1 hk))]

/-- What is somewhere has a directory ahead of it. -/
def Grown (G : List UInt8 → Int × Int) : Prop := ∀ w k, k < 4 → Wrd w → w.length < 4 → (G (w ++ [lt4 k])).1 ≠ 0 → (G w).1 = 1

/-- One node above what is behind it. -/
theorem popL_node {G : List UInt8 → Int × Int} (hG : Grown G) {d : Nat} {w : List UInt8} (hw : Wrd w) (hd : w.length + d = 4) {S : Stk} (h : AwayW w S) :
    popL (pB w) (baseW (G w)) (kids G d w ++ S) = (sumW G d w, S) := by
  cases d with
  | zero => exact popL_away hw h _
  | succ d =>
    have hl : w.length < 4 := by omega
    have := popL_kids G d hw hl h (List.range 4) (fun k hk => List.mem_range.1 hk) (baseW (G w))
    rw [show kids G (d + 1) w = (List.range 4).flatMap (kidK G d w) from rfl, this]
    have hp : partW G d w 4 = sumW G (d + 1) w := by
      by_cases h1 : (G w).1 = 1
      · exact (sumW_part _ _ _ h1).symm
      · rw [sumW_file _ _ _ h1]
        exact partW_none _ _ _ (fun k hk => Classical.byContradiction fun hz => h1 (hG w k hk hw hl hz)) 4 (Nat.le_refl _)
    rw [← hp]; rfl

def sumN (G : List UInt8 → Int × Int) (n : Nd) : Int := sumW G (4 - (wordOf n.p).length) (wordOf n.p)

theorem sumN_at {G : List UInt8 → Int × Int} {w : List UInt8} (hw : Wrd w) {d : Nat} (hd : w.length + d = 4) : sumN G (ndAt G w) = sumW G d w := by
  unfold sumN
  show sumW G (4 - (wordOf (pB w)).length) (wordOf (pB w)) = _
  rw [wordOf_pB hw.2, show 4 - w.length = d by omega]

theorem awayW_snoc {w : List UInt8} {S : Stk} (h : AwayW w S) (c : UInt8) : AwayW (w ++ [c]) S := fun x hx => by
  obtain ⟨v, h1, h2, h3, h4⟩ := h x hx
  exact ⟨v, h1, h2, h3, fun q => h4 ((List.prefix_append w [c]).trans q)⟩

theorem awayW_app {w : List UInt8} {S T : Stk} (h : AwayW w S) (h' : AwayW w T) : AwayW w (S ++ T) := fun x hx => by
  rcases List.mem_append.1 hx with hx | hx
  · exact h x hx
  · exact h' x hx

theorem awayW_kid (G : List UInt8 → Int × Int) (d : Nat) {w : List UInt8} (hw : Wrd w) (hl : w.length < 4) {j : Nat} (hj : j < 4) (ks : List Nat) (hk : ∀ k ∈ ks, k < 4 ∧ k ≠ j) : AwayW (w ++ [lt4 j]) (ks.flatMap (kidK G d w)) := fun x hx => by
  obtain ⟨k, hk', hx⟩ := List.mem_flatMap.1 hx
  obtain ⟨hk4, hkj⟩ := hk k hk'
  unfold kidK at hx
  split at hx
  · cases hx
  · rw [List.mem_singleton] at hx
    subst hx
    refine ⟨w ++ [lt4 k], hw.snoc hl hk4, by simp, rfl, fun q => hkj ?_⟩
    have e := q.eq_of_length (by simp)
    have := List.append_cancel_left e
    simp only [List.cons.injEq, and_true] at this
    exact (lt4_inj hj hk4 this).symm

theorem lst_range (G : List UInt8 → Int × Int) (d : Nat) (w : List UInt8) : lst G (d + 1) w = (List.range 4).flatMap (fun k => oneAt G (w ++ [lt4 k]) ++ lst G d (w ++ [lt4 k])) := rfl

theorem run_lst {G : List UInt8 → Int × Int} (hG : Grown G) : ∀ (d : Nat) (w : List UInt8), Wrd w → w.length + d = 4 → ∀ (A : List Int) (S : Stk), AwayW w S →
    (lst G d w).foldr stepNd (A, S) = ((lst G d w).map (sumN G) ++ A, kids G d w ++ S)
  | 0, w, hw, hd, A, S, hS => rfl
  | d + 1, w, hw, hd, A, S, hS => by
    have hl : w.length < 4 := by omega
    have hone : ∀ k, k < 4 → ∀ (A : List Int) (S : Stk), AwayW (w ++ [lt4 k]) S →
        (oneAt G (w ++ [lt4 k]) ++ lst G d (w ++ [lt4 k])).foldr stepNd (A, S) = ((oneAt G (w ++ [lt4 k]) ++ lst G d (w ++ [lt4 k])).map (sumN G) ++ A, kidK G d w k ++ S) := by
      intro k hk A S hS
      have hw' := hw.snoc hl hk
      have hd' : (w ++ [lt4 k]).length + d = 4 := by simp; omega
      rw [List.foldr_append, run_lst hG d _ hw' hd' A S hS]
      unfold oneAt kidK
      by_cases hz : (G (w ++ [lt4 k])).1 = 0
      · rw [if_pos hz, if_pos hz, kids_none]
        · rfl
        · intro hd0 j hj
          refine Classical.byContradiction fun hc => ?_
          have := hG _ j hj hw' (by omega) hc
          rw [hz] at this; cases this
      · rw [if_neg hz, if_neg hz]
        show stepNd (ndAt G (w ++ [lt4 k])) _ = _
        unfold stepNd
        have e := popL_node hG hw' hd' hS
        show ((popL (pB (w ++ [lt4 k])) (baseW (G (w ++ [lt4 k]))) _).1 :: _, _) = _
        show ((popL (pB (w ++ [lt4 k])) (baseW (G (w ++ [lt4 k]))) (kids G d (w ++ [lt4 k]) ++ S)).1 :: _, (pB (w ++ [lt4 k]), (popL (pB (w ++ [lt4 k])) (baseW (G (w ++ [lt4 k]))) (kids G d (w ++ [lt4 k]) ++ S)).1) :: (popL (pB (w ++ [lt4 k])) (baseW (G (w ++ [lt4 k]))) (kids G d (w ++ [lt4 k]) ++ S)).2) = _
        rw [e, List.map_append, List.map_cons, List.map_nil, sumN_at hw' hd']
        rfl
    have hall : ∀ (ks : List Nat), (∀ k ∈ ks, k < 4) → ks.Nodup →
        (ks.flatMap (fun k => oneAt G (w ++ [lt4 k]) ++ lst G d (w ++ [lt4 k]))).foldr stepNd (A, S) = ((ks.flatMap (fun k => oneAt G (w ++ [lt4 k]) ++ lst G d (w ++ [lt4 k]))).map (sumN G) ++ A, ks.flatMap (kidK G d w) ++ S) := by
      intro ks
      induction ks with
      | nil => intro _ _; rfl
      | cons k ks ih =>
        intro hk hn
        obtain ⟨hn1, hn2⟩ := List.nodup_cons.1 hn
        have hk4 := hk k (by simp)
        rw [List.flatMap_cons, List.flatMap_cons, List.foldr_append, ih (fun j hj => hk j (List.mem_cons_of_mem _ hj)) hn2,
          hone k hk4 _ _ (awayW_app (awayW_kid G d hw hl hk4 ks fun j hj => ⟨hk j (List.mem_cons_of_mem _ hj), fun e => hn1 (e ▸ hj)⟩) (awayW_snoc hS _))]
        simp only [List.map_append, List.append_assoc]
    rw [lst_range]
    exact hall (List.range 4) (fun k hk => List.mem_range.1 hk) List.nodup_range

theorem grown_of {ns : List Nd} (h : validT ns = true) : Grown (Fof ns) := by
  intro w k hk hw hl hz
  have hw' := hw.snoc hl hk
  have hm := node_of h hw' (by simp) hz
  have g := (((validT_iff ns).1 h).2.1 _ hm).2.2.2
  rw [show (ndAt (Fof ns) (w ++ [lt4 k])).p = pB (w ++ [lt4 k]) from rfl, parB_pB hw' (by simp), List.dropLast_concat] at g
  exact g

theorem all_lst {ns : List Nd} (h : validT ns = true) : lst (Fof ns) 4 [] = ns := by
  have := under_lst h Wrd.nil
  rw [show 4 - ([] : List UInt8).length = 4 from rfl] at this
  rw [this, List.filter_eq_self]
  intro n hn
  obtain ⟨w, hw, hne, e, _⟩ := node_word h hn
  rw [e, undB_pB Wrd.nil hw, decide_eq_true_eq]
  refine ⟨List.nil_prefix, ?_⟩
  have : w.length ≠ 0 := fun e => hne (List.length_eq_zero_iff.1 e)
  simp; omega

/-- The program's sums of a tree. -/
theorem run_tree {ns : List Nd} (h : validT ns = true) : runL ns = (ns.map (fun n => treeSum ns n.p), kids (Fof ns) 4 []) := by
  have := run_lst (grown_of h) 4 [] Wrd.nil rfl [] [] (fun x hx => by cases hx)
  rw [all_lst h, List.append_nil, List.append_nil] at this
  show ns.foldr stepNd ([], []) = _
  rw [this]
  congr 1
  refine List.map_congr_left fun n hn => ?_
  unfold treeSum
  rw [h, (good_path h hn).2]
  rfl

theorem run_root {ns : List Nd} (h : validT ns = true) : (runL (⟨rootB, 1, 0⟩ :: ns)).1 = treeSum ns rootB :: ns.map (fun n => treeSum ns n.p) := by
  rw [runL_cons, run_tree h]
  unfold stepNd
  show (popL (pB []) (baseW (1, 0)) (kids (Fof ns) 4 [])).1 :: _ = _
  have e := popL_node (grown_of h) (d := 4) Wrd.nil rfl (S := []) (fun x hx => by cases hx)
  rw [List.append_nil, Fof_root] at e
  rw [e]
  have := treeSum_word h Wrd.nil
  rw [pB_root] at this
  rw [this]
  rfl

theorem nds_ok {ns : List Nd} (h : validT ns = true) : NdsOk ns := fun n hn =>
  ⟨(good_path h hn).2, (((validT_iff ns).1 h).2.1 n hn).2.1⟩

theorem nds_root {ns : List Nd} (h : validT ns = true) : NdsOk (⟨rootB, 1, 0⟩ :: ns) := fun n hn => by
  rcases List.mem_cons.1 hn with rfl | hn
  · exact ⟨by decide, by decide⟩
  · exact nds_ok h n hn

/-- A path that is in no node has the sum of nothing. -/
theorem sum_missing {ns : List Nd} {p : ByteArray} (h : validT ns = true) (hv : vpB p = true) (hr : p ≠ rootB) (hm : ∀ n ∈ ns, n.p ≠ p) : treeSum ns p = 1 := by
  obtain ⟨w, hw, rfl⟩ := vpB_word hv
  have e : Fof ns w = (0, 0) := getT_none hr hm
  rw [treeSum_word h hw, sumW_file _ _ _ (by rw [e]; decide), e]
  rfl

end Go.Proofs.YtnmpbocnbcokeaaGreatDoor

/-
  WALKS: the stack of paths: impl.contentSum, pathStack.top, pathStack.sum.
-/
namespace Go.Proofs.YtnmpbocnbcokeaaGreatDoor
open Go.RowKit
set_option linter.unusedVariables false

/-- What a walk leaves that ends in a number. -/
def IntPost (n : Int) (W : World) (e : Ending) (w' : World) : Prop := e = .returned (.int .i64 n) ∧ Below W.heap.size W w'

/-- The cells of a stack, the lowest path first. -/
def flatS (st : Stk) : List Value := st.flatMap (fun x => [.string x.1, .int .i64 x.2])

theorem flatS_append (a b : Stk) : flatS (a ++ b) = flatS a ++ flatS b := by unfold flatS; rw [List.flatMap_append]
theorem flatS_one (x : ByteArray × Int) : flatS [x] = [.string x.1, .int .i64 x.2] := rfl
theorem flatS_length (st : Stk) : (flatS st).length = st.length * 2 := by
  induction st with
  | nil => rfl
  | cons n r ih =>
    have : flatS (n :: r) = [.string n.1, .int .i64 n.2] ++ flatS r := rfl
    rw [this, List.length_append, ih]
    simp; omega

/-- The path on top, or none. -/
def topQ (st : Stk) : ByteArray × Int := st.getLast?.getD (⟨#[]⟩, 0)

theorem topQ_nil : topQ [] = (⟨#[]⟩, 0) := rfl
theorem topQ_snoc (st : Stk) (x : ByteArray × Int) : topQ (st ++ [x]) = x := by unfold topQ; simp

def SumdRet (x : ByteArray × Int) (W : World) (e : Ending) (w' : World) : Prop := e = .returned (.agg #[.string x.1, .int .i64 x.2]) ∧ Below W.heap.size W w'

/-- What the stack's steps keep: all that lies below a base, but for the stack's own box; and whatever is no cells. -/
structure StkKept (B base : Nat) (W W' : World) : Prop where
  low : Below 0 W W'
  block : ∀ k, k < base → k ≠ B → W'.heap[k]? = W.heap[k]?
  others : KeepsOthers W W'

theorem StkKept.trans {B base : Nat} {W W1 W2 : World} (h : StkKept B base W W1) (k : StkKept B base W1 W2) : StkKept B base W W2 :=
  ⟨h.low.trans k.low, fun j hj hne => (k.block j hj hne).trans (h.block j hj hne), h.others.trans k.others⟩

theorem StkKept.of_below {B base : Nat} {W W' : World} (hb : base ≤ W.heap.size) (h : Below W.heap.size W W') : StkKept B base W W' :=
  ⟨h.mono (Nat.zero_le _), fun j hj _ => h.block j (by omega), ⟨h.size, fun k o hk _ => (h.block k (Array.getElem?_eq_some_iff.1 hk).1).trans hk⟩⟩

theorem StkKept.set {B base : Nat} (W : World) (i : Nat) (v : Value) : StkKept B base W (W.setCell ⟨B, i, none⟩ v) :=
  ⟨⟨rfl, rfl, rfl, by simp [World.setCell], fun k hk => absurd hk (Nat.not_lt_zero _)⟩, fun j _ hne => Below.heap_setCell _ _ _ _ hne, KeepsOthers.setCell _ _ _⟩

theorem StkKept.cell {B base : Nat} {W W' : World} (h : StkKept B base W W') {p : Addr} (hp : p.block < base) (hne : p.block ≠ B) {v : Value} (hc : W.cell? p = some v) : W'.cell? p = some v :=
  (World.cell?_of_block (h.block _ hp hne)).trans hc

/-- How many paths a stack has. -/
def lenAt (W : World) (B : Nat) : Nat := match W.cell? ⟨B, 0, none⟩ with
  | some (.slice _ n _) => n
  | _ => 0

theorem vpB_size8 {p : ByteArray} (h : vpB p = true) : p.size ≤ 8 := by
  obtain ⟨w, hw, rfl⟩ := vpB_word h
  exact pB_size hw

theorem topQ_size {stk : Stk} (h : StkOk stk) : (topQ stk).1.size ≤ 8 := by
  rcases List.eq_nil_or_concat stk with rfl | ⟨st', x, rfl⟩
  · decide
  · rw [List.concat_eq_append] at *
    rw [topQ_snoc]
    exact vpB_size8 (h x (by simp)).1

/-- The last letter of a path whose parent is one. -/
theorem path_last {q p : ByteArray} (hq : vpB q = true) (hp : vpB p = true) (h : parB q = p) : ∃ (j kx : Nat) (hj : j < q.size), q.size = j + 1 ∧ kx ≤ 3 ∧ (q[j].toNat : Int) = 97 + kx ∧ nameN q = kx ∧ j ≤ 8 := by
  obtain ⟨w, hw, rfl⟩ := vpB_word hq
  have hsz := pB_size hw
  rcases List.eq_nil_or_concat w with rfl | ⟨v, c, rfl⟩
  · rw [← h] at hp; exact absurd hp (by decide)
  · rw [List.concat_eq_append] at *
    have hc := hw.2 c (by simp)
    obtain ⟨kx, hk, rfl⟩ : ∃ kx, kx < 4 ∧ c = lt4 kx := by
      have := (letter_iff c).1 hc
      simp only [letters, List.mem_cons, List.not_mem_nil, or_false] at this
      rcases this with rfl | rfl | rfl | rfl
      · exact ⟨0, by omega, rfl⟩
      · exact ⟨1, by omega, rfl⟩
      · exact ⟨2, by omega, rfl⟩
      · exact ⟨3, by omega, rfl⟩
    have hl : (pB (v ++ [lt4 kx])).data.toList.getLast? = some (lt4 kx) := by
      rw [pB_list]; unfold Pm.pathOf; rw [if_neg (by simp), flat_last]
    have h1 : 1 ≤ (pB (v ++ [lt4 kx])).size := by
      rw [Lib.size_eq]
      cases hd : (pB (v ++ [lt4 kx])).data.toList with
      | nil => rw [hd] at hl; cases hl
      | cons => simp
    refine ⟨(pB (v ++ [lt4 kx])).size - 1, kx, by omega, by omega, by omega, ?_, name_word v hk, by omega⟩
    have e : (pB (v ++ [lt4 kx])).data.toList[(pB (v ++ [lt4 kx])).size - 1]? = some (lt4 kx) := by
      rw [Lib.size_eq, ← List.getLast?_eq_getElem?]; exact hl
    rw [Pm.byte_getElem? _ _ (by omega)] at e
    have := lt4_name hk
    rw [Option.some.inj e]
    omega

theorem StkKept.drew {B base : Nat} {W W' : World} (h : StkKept B base W W') : StkKept B base W W'.drew := ⟨h.low.drew, h.block, h.others.trans ⟨Nat.le_refl _, fun _ _ h _ => h⟩⟩

theorem StkKept.setFar {B base : Nat} (W : World) {c : Nat} (h : base ≤ c) (i : Nat) (v : Value) : StkKept B base W (W.setCell ⟨c, i, none⟩ v) :=
  ⟨⟨rfl, rfl, rfl, by simp [World.setCell], fun k hk => absurd hk (Nat.not_lt_zero _)⟩, fun j hj _ => Below.heap_setCell _ _ _ _ (by show j ≠ c; omega), KeepsOthers.setCell _ _ _⟩

theorem StkKept.grown {B base : Nat} {W W' : World} {e : TypeId} {size n : Nat} {v : Value} {xs : List Value} (h : W.ownsRow base e size v n xs) (hb : base ≤ W.heap.size) (hg : W.grownBy W' v.ownBlock) : StkKept B base W W' := by
  refine ⟨⟨hg.os, hg.tape, hg.output, hg.size, fun k hk => absurd hk (Nat.not_lt_zero _)⟩, fun k hk _ => ?_, KeepsOthers.of_grownBy hg fun j o hj ho => ?_⟩
  · exact hg.block k (by omega) fun e => by have := (h.lt k e.symm).1; omega
  · rcases h.2 with ⟨rfl, _⟩ | ⟨g, cap, cur, rfl, h1, h2, _⟩
    · cases hj
    · simp [Value.ownBlock] at hj
      subst hj
      rw [h2] at ho; cases ho; rfl

theorem flatS_snoc (stk : Stk) (p : ByteArray) (m : Int) : flatS (stk ++ [(p, m)]) = flatS stk ++ [.string p, .int .i64 m] := by rw [flatS_append]; rfl

theorem parB_empty {p : ByteArray} (hp : vpB p = true) : parB ⟨#[]⟩ ≠ p := by
  intro e
  rw [← e] at hp
  exact absurd hp (by decide)

end Go.Proofs.YtnmpbocnbcokeaaGreatDoor

/-
  PLAIN MATHEMATICS OF FRAMES: bodies, their sums, frames, and what a scan finds.
-/
namespace Go.Proofs.YtnmpbocnbcokeaaGreatDoor

def byteOk (x : Int) : Bool := decide (0 ≤ x ∧ x ≤ 255)
def bodyOk (b : List Int) : Bool := b.all byteOk && decide (1 ≤ b.length ∧ b.length ≤ 16)
def sumStep (n x : Int) : Int := (31 * n + x) % 251
def sumB (b : List Int) : Int := b.foldl sumStep 7
def bodySum (b : List Int) : Int := if bodyOk b = true then sumB b else -1
def frame (b : List Int) : List Int := (b.length : Int) :: (b ++ [sumB b])
def frameOf (b : List Int) : List Int := if bodyOk b = true then frame b else []
def framesL (bs : List (List Int)) : List Int := bs.flatMap frame
def framesOf (bs : List (List Int)) : Option (List Int) := if (bs.all bodyOk && decide (bs.length ≤ 40)) = true then some (framesL bs) else none

theorem frame_length (b : List Int) : (frame b).length = b.length + 2 := by simp [frame]
theorem framesL_append (a b : List (List Int)) : framesL (a ++ b) = framesL a ++ framesL b := by unfold framesL; rw [List.flatMap_append]
theorem framesL_cons (b : List Int) (bs : List (List Int)) : framesL (b :: bs) = frame b ++ framesL bs := rfl
theorem framesL_one (b : List Int) : framesL [b] = frame b := by simp [framesL]

theorem bodyOk_len {b : List Int} (h : bodyOk b = true) : 1 ≤ b.length ∧ b.length ≤ 16 := by
  unfold bodyOk at h
  simp only [Bool.and_eq_true, decide_eq_true_eq] at h
  exact h.2
theorem bodyOk_byte {b : List Int} (h : bodyOk b = true) {x : Int} (hx : x ∈ b) : 0 ≤ x ∧ x ≤ 255 := by
  unfold bodyOk at h
  simp only [Bool.and_eq_true, List.all_eq_true] at h
  have := h.1 x hx
  unfold byteOk at this
  simpa using this

theorem sumStep_range (n x : Int) : 0 ≤ sumStep n x ∧ sumStep n x ≤ 250 := by unfold sumStep; omega
theorem foldl_range : ∀ (b : List Int) (n : Int), 0 ≤ n → n ≤ 250 → 0 ≤ b.foldl sumStep n ∧ b.foldl sumStep n ≤ 250
  | [], _, h1, h2 => ⟨h1, h2⟩
  | x :: r, n, _, _ => by
    obtain ⟨a, b⟩ := sumStep_range n x
    exact foldl_range r _ a b
theorem sumB_range (b : List Int) : 0 ≤ sumB b ∧ sumB b ≤ 250 := foldl_range b 7 (by omega) (by omega)

theorem foldl_inj : ∀ (b : List Int) (n m : Int), 0 ≤ n → n ≤ 250 → 0 ≤ m → m ≤ 250 → n ≠ m → b.foldl sumStep n ≠ b.foldl sumStep m
  | [], _, _, _, _, _, _, h => h
  | x :: r, n, m, h1, h2, h3, h4, h => by
    obtain ⟨a, b⟩ := sumStep_range n x
    obtain ⟨c, d⟩ := sumStep_range m x
    refine foldl_inj r _ _ a b c d ?_
    unfold sumStep
    omega

/-- A changed byte changes the sum. -/
theorem sum_changed {b : List Int} {k : Nat} {x y : Int} (hk : b[k]? = some x) (hxy : y = x + 1 ∨ y = x - 1) : sumB (b.set k y) ≠ sumB b := by
  have hl := (List.getElem?_eq_some_iff.1 hk).1
  have hx := (List.getElem?_eq_some_iff.1 hk).2
  have e1 : b = b.take k ++ x :: b.drop (k + 1) := by
    rw [← hx, List.getElem_cons_drop, List.take_append_drop]
  have e2 : b.set k y = b.take k ++ y :: b.drop (k + 1) := List.set_eq_take_append_cons_drop.trans (if_pos hl)
  rw [e2]
  conv => rhs; rw [e1]
  unfold sumB
  rw [List.foldl_append, List.foldl_append, List.foldl_cons, List.foldl_cons]
  obtain ⟨a, b'⟩ := foldl_range (b.take k) 7 (by omega) (by omega)
  generalize (b.take k).foldl sumStep 7 = n at a b'
  obtain ⟨p, q⟩ := sumStep_range n y
  obtain ⟨r, s⟩ := sumStep_range n x
  refine foldl_inj _ _ _ p q r s ?_
  unfold sumStep
  omega

/-! ## Scanning -/

/-- A whole frame at the beginning: its body. -/
def headOk (n : Int) (rest : List Int) : Bool :=
  decide (1 ≤ n ∧ n ≤ 16) && (decide (n.toNat + 1 ≤ rest.length) && (bodyOk (rest.take n.toNat) && decide (rest[n.toNat]? = some (sumB (rest.take n.toNat)))))

def scanF : Nat → List Int → List (List Int) × Nat
  | 0, _ => ([], 0)
  | _ + 1, [] => ([], 0)
  | f + 1, n :: rest => if headOk n rest = true then ((rest.take n.toNat) :: (scanF f (rest.drop (n.toNat + 1))).1, n.toNat + 2 + (scanF f (rest.drop (n.toNat + 1))).2) else ([], 0)

def scanL (l : List Int) : List (List Int) × Nat := scanF l.length l

theorem headOk_iff (n : Int) (rest : List Int) : headOk n rest = true ↔ (1 ≤ n ∧ n ≤ 16) ∧ n.toNat + 1 ≤ rest.length ∧ bodyOk (rest.take n.toNat) = true ∧ rest[n.toNat]? = some (sumB (rest.take n.toNat)) := by
  unfold headOk
  simp only [Bool.and_eq_true, decide_eq_true_eq]

theorem scanF_more : ∀ (f g : Nat) (l : List Int), l.length ≤ f → l.length ≤ g → scanF f l = scanF g l
  | 0, 0, _, _, _ => rfl
  | 0, g + 1, [], _, _ => rfl
  | f + 1, 0, [], _, _ => rfl
  | f + 1, g + 1, [], _, _ => rfl
  | f + 1, g + 1, n :: rest, h1, h2 => by
    unfold scanF
    have : scanF f (rest.drop (n.toNat + 1)) = scanF g (rest.drop (n.toNat + 1)) := scanF_more f g _ (by rw [List.length_drop]; simp at h1; omega) (by rw [List.length_drop]; simp at h2; omega)
    rw [this]

theorem scanL_cons (n : Int) (rest : List Int) : scanL (n :: rest) = if headOk n rest = true then ((rest.take n.toNat) :: (scanL (rest.drop (n.toNat + 1))).1, n.toNat + 2 + (scanL (rest.drop (n.toNat + 1))).2) else ([], 0) := by
  unfold scanL
  show scanF (rest.length + 1) (n :: rest) = _
  conv => lhs; unfold scanF
  rw [scanF_more rest.length (rest.drop (n.toNat + 1)).length _ (by rw [List.length_drop]; omega) (Nat.le_refl _)]

theorem scanL_nil : scanL [] = ([], 0) := rfl

theorem head_frame {b : List Int} (h : bodyOk b = true) (rest : List Int) : headOk (b.length : Int) (b ++ [sumB b] ++ rest) = true := by
  rw [headOk_iff]
  have hl := bodyOk_len h
  have e : (b.length : Int).toNat = b.length := by omega
  rw [e]
  have ht : (b ++ [sumB b] ++ rest).take b.length = b := by rw [List.append_assoc, List.take_left']; rfl
  refine ⟨by omega, by simp, by rw [ht]; exact h, ?_⟩
  rw [ht, List.append_assoc, List.getElem?_append_right (Nat.le_refl _)]
  simp

theorem scan_frame {b : List Int} (h : bodyOk b = true) (rest : List Int) : scanL (frame b ++ rest) = (b :: (scanL rest).1, b.length + 2 + (scanL rest).2) := by
  unfold frame
  rw [List.cons_append, scanL_cons, if_pos (head_frame h rest)]
  have e : (b.length : Int).toNat = b.length := by omega
  rw [e]
  have ht : (b ++ [sumB b] ++ rest).take b.length = b := by rw [List.append_assoc, List.take_left']; rfl
  have hd : (b ++ [sumB b] ++ rest).drop (b.length + 1) = rest := by
    rw [List.drop_left']; simp
  rw [ht, hd]

/-- What was framed is found. -/
theorem scan_frames : ∀ {bs : List (List Int)}, bs.all bodyOk = true → ∀ rest, scanL (framesL bs ++ rest) = (bs ++ (scanL rest).1, (framesL bs).length + (scanL rest).2)
  | [], _, rest => by simp [framesL]
  | b :: bs, h, rest => by
    simp only [List.all_cons, Bool.and_eq_true] at h
    rw [framesL_cons, List.append_assoc, scan_frame h.1, scan_frames h.2]
    simp [frame_length]
    omega

theorem scan_all {bs : List (List Int)} (h : bs.all bodyOk = true) : scanL (framesL bs) = (bs, (framesL bs).length) := by
  have := scan_frames h []
  rw [List.append_nil, scanL_nil] at this
  simpa using this

/-- A frame that lacks its last number is none. -/
theorem scan_torn {b : List Int} (h : bodyOk b = true) : scanL (frame b).dropLast = ([], 0) := by
  unfold frame
  have hl := bodyOk_len h
  have : ((b.length : Int) :: (b ++ [sumB b])).dropLast = (b.length : Int) :: b := by
    rw [← List.cons_append, List.dropLast_concat]
  rw [this, scanL_cons, if_neg]
  rw [headOk_iff]
  rintro ⟨_, h2, _⟩
  have e : (b.length : Int).toNat = b.length := by omega
  omega

theorem scan_torn_all {bs : List (List Int)} {b : List Int} (h : (bs ++ [b]).all bodyOk = true) : scanL (framesL (bs ++ [b])).dropLast = (bs, (framesL bs).length) := by
  simp only [List.all_append, Bool.and_eq_true, List.all_cons, List.all_nil, and_true] at h
  rw [framesL_append, framesL_one, List.dropLast_append_of_ne_nil (by simp [frame]), scan_frames h.1, scan_torn h.2]
  simp

/-- What is found was framed. -/
theorem scan_sound : ∀ (l : List Int), (scanL l).1.all bodyOk = true ∧ framesL (scanL l).1 = l.take (scanL l).2 ∧ (scanL l).2 ≤ l.length := by
  intro l
  generalize hn : l.length = m
  induction m using Nat.strongRecOn generalizing l with
  | ind m ih =>
    match l with
    | [] => exact ⟨rfl, rfl, by simp [scanL_nil]⟩
    | n :: rest =>
      rw [scanL_cons]
      by_cases h : headOk n rest = true
      · rw [if_pos h]
        obtain ⟨h1, h2, h3, h4⟩ := (headOk_iff _ _).1 h
        obtain ⟨i1, i2, i3⟩ := ih (rest.drop (n.toNat + 1)).length (by rw [List.length_drop]; simp at hn; omega) _ rfl
        have hdl : (rest.drop (n.toNat + 1)).length = rest.length - (n.toNat + 1) := List.length_drop
        have htl : (rest.take n.toNat).length = n.toNat := by rw [List.length_take]; omega
        have hfr : frame (rest.take n.toNat) = n :: rest.take (n.toNat + 1) := by
          unfold frame
          rw [htl, List.take_add_one, h4, show ((n.toNat : Nat) : Int) = n by omega]
          rfl
        refine ⟨by simp only [List.all_cons, Bool.and_eq_true]; exact ⟨h3, i1⟩, ?_, ?_⟩
        · show framesL (_ :: _) = _
          rw [framesL_cons, i2, hfr]
          show n :: (rest.take (n.toNat + 1) ++ _) = _
          have ej : n.toNat + 2 + (scanL (rest.drop (n.toNat + 1))).2 = (n.toNat + 1 + (scanL (rest.drop (n.toNat + 1))).2) + 1 := by omega
          rw [ej, List.take_succ_cons]
          congr 1
          generalize (scanL (rest.drop (n.toNat + 1))).2 = j
          exact (List.take_add (l := rest) (i := n.toNat + 1) (j := j)).symm
        · show n.toNat + 2 + _ ≤ m
          simp at hn
          omega
      · rw [if_neg h]
        exact ⟨rfl, rfl, Nat.zero_le _⟩

/-- Good frames stay good. -/
theorem scan_more (l : List Int) {b : List Int} (h : bodyOk b = true) : scanL (l.take (scanL l).2 ++ frame b) = ((scanL l).1 ++ [b], (scanL l).2 + b.length + 2) := by
  obtain ⟨h1, h2, h3⟩ := scan_sound l
  have hl : (framesL (scanL l).1).length = (scanL l).2 := by rw [h2, List.length_take]; omega
  rw [← h2, ← framesL_one b, ← framesL_append, scan_all (by rw [List.all_append, h1]; simp [h]), framesL_append, List.length_append, hl, framesL_one, frame_length]
  rfl

/-- A part of the numbers has a part of the bodies. -/
theorem scan_part : ∀ (l : List Int) (k : Nat), (scanL (l.take k)).2 ≤ k ∧ (scanL (l.take k)).2 ≤ (scanL l).2 ∧ (scanL (l.take k)).1 <+: (scanL l).1 := by
  intro l
  generalize hn : l.length = m
  induction m using Nat.strongRecOn generalizing l with
  | ind m ih =>
    intro k
    have hk : (scanL (l.take k)).2 ≤ k := Nat.le_trans (scan_sound (l.take k)).2.2 (by rw [List.length_take]; omega)
    refine ⟨hk, ?_⟩
    clear hk
    match l, k with
    | [], k => simp [scanL_nil]
    | n :: rest, 0 => simp [scanL_nil]
    | n :: rest, k + 1 =>
      rw [List.take_succ_cons, scanL_cons]
      by_cases h : headOk n (rest.take k) = true
      · obtain ⟨h1, h2, h3, h4⟩ := (headOk_iff _ _).1 h
        rw [List.length_take] at h2
        have e1 : (rest.take k).take n.toNat = rest.take n.toNat := by rw [List.take_take, Nat.min_eq_left (by omega)]
        have e2 : (rest.take k).drop (n.toNat + 1) = (rest.drop (n.toNat + 1)).take (k - (n.toNat + 1)) := by rw [List.drop_take]
        have e3 : (rest.take k)[n.toNat]? = rest[n.toNat]? := by rw [List.getElem?_take, if_pos (by omega)]
        have h' : headOk n rest = true := (headOk_iff _ _).2 ⟨h1, by omega, by rw [← e1]; exact h3, by rw [← e3, ← e1]; exact h4⟩
        rw [if_pos h, scanL_cons n rest, if_pos h', e1, e2]
        obtain ⟨_, i2, i3⟩ := ih (rest.drop (n.toNat + 1)).length (by rw [List.length_drop]; simp at hn; omega) _ rfl (k - (n.toNat + 1))
        refine ⟨by show _ + _ ≤ _ + _; omega, ?_⟩
        obtain ⟨t, ht⟩ := i3
        exact ⟨t, by show (_ :: _) ++ t = _ :: _; rw [List.cons_append, ht]⟩
      · rw [if_neg h]
        exact ⟨Nat.zero_le _, List.nil_prefix⟩

theorem framesOf_some {bs : List (List Int)} {out : List Int} (h : framesOf bs = some out) : bs.all bodyOk = true ∧ bs.length ≤ 40 ∧ out = framesL bs := by
  unfold framesOf at h
  split at h
  · rename_i hc
    simp only [Bool.and_eq_true, decide_eq_true_eq] at hc
    exact ⟨hc.1, hc.2, (Option.some.inj h).symm⟩
  · cases h

theorem framesOf_take {bs : List (List Int)} {out : List Int} (h : framesOf bs = some out) (k : Nat) : framesOf (bs.take k) = some (framesL (bs.take k)) ∧ framesOf (bs.drop k) = some (framesL (bs.drop k)) ∧ framesL (bs.take k) ++ framesL (bs.drop k) = out := by
  obtain ⟨h1, h2, h3⟩ := framesOf_some h
  have ha : ∀ c : List (List Int), (∀ x ∈ c, x ∈ bs) → c.all bodyOk = true := fun c hc => List.all_eq_true.2 fun x hx => List.all_eq_true.1 h1 x (hc x hx)
  refine ⟨?_, ?_, ?_⟩
  · unfold framesOf
    rw [ha _ (fun x hx => List.mem_of_mem_take hx), decide_eq_true (by rw [List.length_take]; omega)]; rfl
  · unfold framesOf
    rw [ha _ (fun x hx => List.mem_of_mem_drop hx), decide_eq_true (by rw [List.length_drop]; omega)]; rfl
  · rw [← framesL_append, List.take_append_drop, h3]

end Go.Proofs.YtnmpbocnbcokeaaGreatDoor

/-
  WALKS: lists of numbers; spec.l6In, l4Bytes, l4Body, l4Sum, BodySum.
-/
namespace Go.Proofs.YtnmpbocnbcokeaaGreatDoor
open Go.RowKit
set_option linter.unusedVariables false

/-- A list of numbers, wherever it lies. -/
def IntsAt (W : World) (a : Option Addr) (len : Nat) (zs : List Int) : Prop :=
  zs.length = len ∧ (len = 0 ∨ ∃ b off, a = some ⟨b, off, none⟩ ∧ ∀ i z, zs[i]? = some z → W.cell? ⟨b, off + i, none⟩ = some (.int .i64 z))

theorem IntsAt.keep {W W' : World} {a : Option Addr} {len : Nat} {zs : List Int} (h : IntsAt W a len zs) (hb : Below W.heap.size W W') : IntsAt W' a len zs := by
  obtain ⟨h1, h0 | ⟨b, off, ha, hc⟩⟩ := h
  · exact ⟨h1, .inl h0⟩
  · exact ⟨h1, .inr ⟨b, off, ha, fun i x hx => cell_kept hb (hc i x hx)⟩⟩

theorem IntsAt.at {W : World} {a : Option Addr} {len : Nat} {zs : List Int} (h : IntsAt W a len zs) {i : Nat} (hi : i < len) :
    ∃ b off z, a = some ⟨b, off, none⟩ ∧ zs[i]? = some z ∧ W.cell? ⟨b, off + i, none⟩ = some (.int .i64 z) := by
  obtain ⟨h1, h0 | ⟨b, off, ha, hc⟩⟩ := h
  · omega
  · obtain ⟨x, hx⟩ : ∃ x, zs[i]? = some x := ⟨_, List.getElem?_eq_getElem (by omega)⟩
    exact ⟨b, off, x, ha, hx, hc i x hx⟩

def intsV (zs : List Int) : List Value := zs.map (Value.int .i64)

theorem ints_of_own {W : World} {base : Nat} {e : TypeId} {v : Value} {zs : List Int} (h : W.ownsRow base e 1 v zs.length (intsV zs)) :
    ∃ a cap, v = .slice a zs.length cap ∧ IntsAt W a zs.length zs := by
  rcases h.2 with ⟨rfl, h0⟩ | ⟨g, cap, cur, rfl, h1, h2, h3, h4, h5, h6⟩
  · exact ⟨none, 0, by rw [h0], rfl, .inl h0⟩
  · refine ⟨some ⟨g, 0, none⟩, cap, rfl, rfl, .inr ⟨g, 0, rfl, fun i x hx => ?_⟩⟩
    have hi := (List.getElem?_eq_some_iff.1 hx).1
    rw [Nat.zero_add, h.cellAt i (by omega)]
    unfold intsV
    rw [List.getElem?_map, hx]; rfl

theorem retb {a b : Bool} (h : a = b) : Ending.returned (.bool a) = .returned (.bool b) := by rw [h]

set_option maxHeartbeats 400000 in
theorem l6In_c (n lo hi : Int) (w : World) : Calls Tryz.prog 52 #[.int .i64 n, .int .i64 lo, .int .i64 hi] w fun e w' => e = .returned (.bool (decide (lo ≤ n ∧ n ≤ hi))) ∧ w' = w := by
  by_cases h1 : lo ≤ n
  · by_cases h2 : n ≤ hi
    · have hr := Lib.hid (show true = decide (lo ≤ n ∧ n ≤ hi) from (decide_eq_true ⟨h1, h2⟩).symm)
      have d1 : decide (lo ≤ n) = true := decide_eq_true h1
      have d2 : decide (n ≤ hi) = true := decide_eq_true h2
      go_enter Tryz.func52, Tryz.ntmps52
      go_wp2
      go_ret
      exact ⟨retb hr.out, rfl⟩
    · have hr := Lib.hid (show false = decide (lo ≤ n ∧ n ≤ hi) from (decide_eq_false (fun h => h2 h.2)).symm)
      have d1 : decide (lo ≤ n) = true := decide_eq_true h1
      have d2 : decide (n ≤ hi) = false := decide_eq_false h2
      have h2' : hi < n := by omega
      clear h2
      go_enter Tryz.func52, Tryz.ntmps52
      go_wp2
      go_ret
      exact ⟨retb hr.out, rfl⟩
  · have hr := Lib.hid (show false = decide (lo ≤ n ∧ n ≤ hi) from (decide_eq_false (fun h => h1 h.1)).symm)
    have d1 : decide (lo ≤ n) = false := decide_eq_false h1
    have h1' : n < lo := by omega
    clear h1
    go_enter Tryz.func52, Tryz.ntmps52
    go_wp2
    go_ret
    exact ⟨retb hr.out, rfl⟩

def BytesRel (zs : List Int) (W : World) (i : Value) (wr : World) : Prop := ∃ n : Nat, i = .int .i64 n ∧ n ≤ zs.length ∧ Hid ((zs.take n).all byteOk = true) ∧ wr = W

theorem take_all {zs : List Int} {i : Nat} {z : Int} (h : zs[i]? = some z) : (zs.take (i + 1)).all byteOk = ((zs.take i).all byteOk && byteOk z) := by
  rw [List.take_add_one, h]
  simp [List.all_append]

theorem all_take_false {zs : List Int} {i : Nat} (h : (zs.take i).all byteOk = false) : zs.all byteOk = false := by
  rw [Bool.eq_false_iff] at h ⊢
  intro hc
  exact h (List.all_eq_true.2 fun x hx => List.all_eq_true.1 hc x (List.mem_of_mem_take hx))

def SumRel (zs : List Int) (W : World) (n i : Value) (wr : World) : Prop := ∃ k : Nat, i = .int .i64 k ∧ k ≤ zs.length ∧ n = .int .i64 (sumB (zs.take k)) ∧ wr = W

theorem sumB_next {zs : List Int} {i : Nat} {z : Int} (h : zs[i]? = some z) : sumB (zs.take (i + 1)) = (31 * sumB (zs.take i) + z) % 251 := by
  unfold sumB
  rw [List.take_add_one, h, List.foldl_append]
  rfl

end Go.Proofs.YtnmpbocnbcokeaaGreatDoor

/-
  WALKS: spec.FrameOf.
-/
namespace Go.Proofs.YtnmpbocnbcokeaaGreatDoor
open Go.RowKit
set_option linter.unusedVariables false

theorem infoInt : (Tryz.prog.info? 3).map (fun i => (i.zero, i.size, i.bytes)) = some (some (.int .i64 0), 1, 8) := by kernel_rfl

/-- A list of numbers that the call has made. -/
def OwnsInts (base : Nat) (zs : List Int) (e : Ending) (w' : World) : Prop := ∃ sl, e = .returned sl ∧ w'.ownsRow base 3 1 sl zs.length (intsV zs)

theorem intsV_append (a b : List Int) : intsV (a ++ b) = intsV a ++ intsV b := by unfold intsV; rw [List.map_append]
theorem intsV_length (a : List Int) : (intsV a).length = a.length := by unfold intsV; rw [List.length_map]
theorem intsV_cells (zs : List Int) : ∀ u ∈ intsV zs, u.oneCell' = true := by
  intro u hu
  unfold intsV at hu
  obtain ⟨z, _, rfl⟩ := List.mem_map.1 hu
  rfl

theorem own_join1 {W : World} {b : Nat} {e : TypeId} {v : Value} {acc more : List Int} (h : W.ownsRow b e 1 v (acc.length + more.length) (intsV acc ++ intsV more)) : W.ownsRow b e 1 v (acc ++ more).length (intsV (acc ++ more)) := by
  rw [intsV_append, List.length_append]; exact h

theorem own_below1 {W W' : World} {base : Nat} {e : TypeId} {size n : Nat} {v : Value} {xs : List Value} (h : W.ownsRow base e size v n xs) (hg : Below W.heap.size W W') : W'.ownsRow base e size v n xs :=
  h.kept (below_grown hg) (by cases hv : v.ownBlock <;> simp)

theorem own_mono1 {W : World} {b c : Nat} {e : TypeId} {size n : Nat} {v : Value} {xs : List Value} (h : W.ownsRow c e size v n xs) (hbc : b ≤ c) : W.ownsRow b e size v n xs := by
  obtain ⟨h1, h2 | ⟨g, cap, cur, h3, h4, h5⟩⟩ := h
  · exact ⟨h1, .inl h2⟩
  · exact ⟨h1, .inr ⟨g, cap, cur, h3, Nat.le_trans hbc h4, h5⟩⟩

theorem add_off (b off j : Nat) : ((⟨b, off, none⟩ : Addr).add j) = ⟨b, off + j, none⟩ := by
  unfold Addr.add
  split
  · rename_i h; rw [h]; rfl
  · rfl

theorem ints_cells {W : World} {b off len : Nat} {zs : List Int} (h : IntsAt W (some ⟨b, off, none⟩) len zs) : ∀ j u, (intsV zs)[j]? = some u → W.cell? ((⟨b, off, none⟩ : Addr).add j) = some u := by
  intro j u hj
  unfold intsV at hj
  rw [List.getElem?_map] at hj
  obtain ⟨z, hz, rfl⟩ := Option.map_eq_some_iff.1 hj
  obtain ⟨h1, h0 | ⟨b', off', ha, hc⟩⟩ := h
  · have := (List.getElem?_eq_some_iff.1 hz).1; omega
  · simp at ha
    obtain ⟨rfl, rfl⟩ := ha
    rw [add_off]; exact hc j z hz

theorem cell_int_new (w : World) (v : Value) (t : TypeId) : ∀ j u, [v][j]? = some u → (w.alloc (.cells #[v] t)).cell? ((⟨w.heap.size, 0, none⟩ : Addr).add j) = some u := by
  intro j u hj
  match j, hj with
  | 0, hj => simp at hj; subst hj; simp [Addr.add]

end Go.Proofs.YtnmpbocnbcokeaaGreatDoor

/-
  WALKS: impl.sumsOf.
-/
namespace Go.Proofs.YtnmpbocnbcokeaaGreatDoor
open Go.RowKit
set_option linter.unusedVariables false

attribute [local go_sem] Oper.semAt_some

/-- One round: a sum is written, and the stack moves on. -/
def stepB {ns : List Nd} (a : List Int × Stk) (x : Elt ns) : List Int × Stk :=
  (a.1.set x.i (popL x.n.p (baseW (x.n.k, x.n.v)) a.2).1, (x.n.p, (popL x.n.p (baseW (x.n.k, x.n.v)) a.2).1) :: (popL x.n.p (baseW (x.n.k, x.n.v)) a.2).2)

theorem set_last (j : Nat) (r : Int) (A : List Int) : (List.replicate (j + 1) (0 : Int) ++ A).set j r = List.replicate j 0 ++ r :: A := by
  rw [List.replicate_succ', List.append_assoc, List.set_append_right _ _ (by simp)]
  simp

theorem fold_back (ns : List Nd) : ∀ (j : Nat) (h : j ≤ ns.length), (backE ns j h).foldl stepB (List.replicate j 0 ++ (runL (ns.drop j)).1, (runL (ns.drop j)).2) = runL ns
  | 0, _ => by simp [backE]
  | j + 1, h => by
    have hd : ns.drop j = ns[j] :: ns.drop (j + 1) := List.drop_eq_getElem_cons (by omega)
    have e : runL (ns.drop j) = stepNd ns[j] (runL (ns.drop (j + 1))) := by rw [hd, runL_cons]
    have ih := fold_back ns j (by omega)
    rw [e] at ih
    show List.foldl stepB (stepB _ ⟨j, ns[j], _⟩) (backE ns j _) = _
    unfold stepB
    simp only
    rw [set_last]
    exact ih

theorem fold_all (ns : List Nd) : (backE ns ns.length (Nat.le_refl _)).foldl stepB (List.replicate ns.length 0, []) = runL ns := by
  have := fold_back ns ns.length (Nat.le_refl _)
  rw [List.drop_length] at this
  simpa [runL] using this

theorem infoInt3 : (Tryz.prog.info? 3).map (fun i => (i.zero, i.size, i.bytes)) = some (some (.int .i64 0), 1, 8) := by kernel_rfl

theorem made_row (W : World) (len : Nat) (hm : len ≤ maxLen) : (W.alloc (.cells (madeCells #[.int .i64 0] len) 3)).ownsRow W.heap.size 3 1 (.slice (some ⟨W.heap.size, 0, none⟩) len len) len (intsV (List.replicate len 0)) := by
  refine ⟨by rw [intsV_length, List.length_replicate, Nat.mul_one], .inr ⟨W.heap.size, len, _, rfl, Nat.le_refl _, World.alloc_heap_new W _, Nat.le_refl _, hm, by rw [size_madeCells, Nat.mul_one], ?_⟩⟩
  rw [Nat.mul_one, List.take_of_length_le (by rw [Array.length_toList, size_madeCells]; omega)]
  unfold madeCells intsV
  rw [List.map_replicate, List.eq_replicate_iff]
  refine ⟨by simp, fun v hv => ?_⟩
  simp [Nat.mod_one] at hv
  exact hv.2.symm

theorem StkKept.row {B base : Nat} {W W' : World} (h : StkKept B base W W') {g0 b0 n cap size : Nat} {e : TypeId} {xs : List Value} (hg : g0 < base) (hne : g0 ≠ B) (ho : W.ownsRow b0 e size (.slice (some ⟨g0, 0, none⟩) n cap) n xs) : W'.ownsRow b0 e size (.slice (some ⟨g0, 0, none⟩) n cap) n xs := by
  refine ⟨ho.1, ?_⟩
  rcases ho.2 with ⟨h0, _⟩ | ⟨g, cap', cur, hv, h1, h2, h3⟩
  · cases h0
  · cases hv
    exact .inr ⟨g0, cap, cur, rfl, h1, (h.block g0 hg hne).trans h2, h3⟩

theorem intsV_set (zs : List Int) (i : Nat) (r : Int) : (intsV zs).set i (.int .i64 r) = intsV (zs.set i r) := by unfold intsV; rw [List.map_set]

/-- The loop's variable lies in a box of its own. -/
def NdBox {ns : List Nd} (B0 : Nat) (tm : Nat → Elt ns → Array Value) (x : Elt ns) (a' : Act) (W : World) : Prop :=
  ∃ Bx, B0 ≤ Bx ∧ W.heap[Bx]? = some (.cells #[.string x.n.p, .int .i64 x.n.k, .int .i64 x.n.v] 49 (0, 0)) ∧ a' = { tmps := tm Bx x, defers := [] }

theorem NdBox.own {ns : List Nd} (B0 : Nat) (tm : Nat → Elt ns → Array Value) (x : Elt ns) (a' : Act) : Own (fun (_ : Unit) W => NdBox B0 tm x a' W) := by
  rintro _ A B row ⟨Bx, h0, h1, h2⟩ hg hr
  refine ⟨Bx, h0, (hg.block Bx (Array.getElem?_eq_some_iff.1 h1).1 fun e => ?_).trans h1, h2⟩
  obtain ⟨o, ho, hc⟩ := hr _ e.symm
  rw [h1] at ho; cases ho; cases hc

end Go.Proofs.YtnmpbocnbcokeaaGreatDoor

/-
  WALKS: spec.l5Sum, TreeSum, TreeSums.
-/
namespace Go.Proofs.YtnmpbocnbcokeaaGreatDoor
open Go.RowKit
set_option linter.unusedVariables false

theorem convLetter (w : World) (c : Nat) : (convert 22 9 (.slice (some ⟨w.heap.size, 0, none⟩) 1 1)).run Tryz.prog (w.alloc (.cells #[.int .u8 (97 + (c : Int))] 5)) =
    .ok (.string ⟨#[UInt8.ofNat (97 + c)]⟩) (w.alloc (.cells #[.int .u8 (97 + (c : Int))] 5)) := by
  rw [run_convert_bytes_string _ _ _ _ _ _ _ Tryz.underlying22 Tryz.underlying5 Tryz.underlying9, run_bytesToString _ _ _ _ [97 + (c : Int)] ?_]
  · simp only [List.foldl_cons, List.foldl_nil]
    have : (97 + (c : Int)).toNat = 97 + c := by omega
    rw [this]; rfl
  · simp [loadCells, go_sem, Addr.add]

theorem pB_len {v : List UInt8} : (pB v).size ≤ 2 * v.length + 1 := by
  show (Pm.pathOf v).length ≤ _
  unfold Pm.pathOf
  split
  · simp
  · rw [Pm.flat_length]; omega

theorem mk_app (x y : ByteArray) : (x ++ y).data.toList = x.data.toList ++ y.data.toList := by simp [ByteArray.data_append]

theorem child_root (c : UInt8) : (⟨#[47]⟩ : ByteArray) ++ ⟨#[c]⟩ = pB [c] := by
  rw [← Lib.mk_data ((⟨#[47]⟩ : ByteArray) ++ ⟨#[c]⟩), mk_app]; rfl

theorem child_path {w : List UInt8} (hw : w ≠ []) (c : UInt8) : pB w ++ ⟨#[47]⟩ ++ ⟨#[c]⟩ = pB (w ++ [c]) := by
  rw [← Lib.mk_data (pB w ++ ⟨#[47]⟩ ++ ⟨#[c]⟩), mk_app, mk_app, pB_list]
  unfold pB Pm.pathOf
  rw [if_neg hw, if_neg (by simp), Pm.flat_append]
  simp [Pm.flat]

/-- What a sum's walk leaves: a number. -/
def NumPost (n : Int) (W : World) (e : Ending) (w' : World) : Prop := e = .returned (.int .i64 n) ∧ Below W.heap.size W w'

def L5Rel (G : List UInt8 → Int × Int) (d : Nat) (w : List UInt8) (W : World) (n k : Value) (wr : World) : Prop :=
  ∃ m : Nat, k = .int .i64 m ∧ m ≤ 4 ∧ n = .int .i64 (partW G d w m) ∧ Hid (Below W.heap.size W wr)

theorem letter_ofNat {k : Nat} (hk : k < 4) : Pm.letter (UInt8.ofNat (97 + k)) = true := by
  rcases (by omega : k = 0 ∨ k = 1 ∨ k = 2 ∨ k = 3) with rfl | rfl | rfl | rfl <;> decide

theorem word_next {w : List UInt8} (hw : Wrd w) (h : w.length < 4) {k : Nat} (hk : k < 4) : Wrd (w ++ [UInt8.ofNat (97 + k)]) :=
  ⟨by rw [List.length_append]; show w.length + 1 ≤ 4; omega, fun x hx => by
    rcases List.mem_append.1 hx with hx | hx
    · exact hw.2 x hx
    · rw [List.mem_singleton.1 hx]; exact letter_ofNat hk⟩

def SumsRel (ns : List Nd) (W1 : World) (o i : Value) (wr : World) : Prop :=
  ∃ n : Nat, i = .int .i64 n ∧ n ≤ ns.length ∧ Hid (validT ns = true ∨ n = 0) ∧ wr.ownsRow W1.heap.size 3 1 o ((ns.take n).map (fun x => treeSum ns x.p)).length (intsV ((ns.take n).map (fun x => treeSum ns x.p))) ∧ Hid (Below W1.heap.size W1 wr)

end Go.Proofs.YtnmpbocnbcokeaaGreatDoor
