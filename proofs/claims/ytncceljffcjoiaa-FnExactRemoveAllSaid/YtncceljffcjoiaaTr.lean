/-
  TREES IN MEMORY: places, each with its content and the places behind it.
-/
import Derived.RangeFuncBox
import Derived.Test.YtncceljffcjoiaaTa
import Derived.Test.YtncceljffcjoiaaWd
namespace Go.Proofs.Ytncceljffcjoiaa
open Go.RowKit

theorem infoPlace : (Try.prog.info? 94).map (fun i => (i.zero, i.size)) = some (some (.agg #[.int .i64 0, .int .i64 0, .pointer none, .pointer none, .pointer none, .pointer none]), 6) := by kernel_rfl

def ptrTo (o : Option Nat) : Value := .pointer (o.map fun b => ⟨b, 0, none⟩)

/-- The cells of the place of a word. -/
def plc (A : List UInt8 → Option Nat) (F : List UInt8 → Int × Int) (w : List UInt8) : Array Value :=
  #[.int .i64 (F w).1, .int .i64 (F w).2, ptrTo (A (w ++ [97])), ptrTo (A (w ++ [98])), ptrTo (A (w ++ [99])), ptrTo (A (w ++ [100]))]

/-- Where the places lie, and what they hold. -/
structure Trie (W : World) (A : List UInt8 → Option Nat) (F : List UInt8 → Int × Int) : Prop where
  wrd : ∀ w b, A w = some b → Wrd w
  root : A [] ≠ none
  inj : ∀ u w b, A u = some b → A w = some b → u = w
  up : ∀ w c, A w = none → A (w ++ [c]) = none
  nil : ∀ w, Wrd w → A w = none → F w = (0, 0)
  cells : ∀ w b, A w = some b → W.heap[b]? = some (.cells (plc A F w) 94)

theorem Trie.lt {W : World} {A : List UInt8 → Option Nat} {F : List UInt8 → Int × Int} (h : Trie W A F) {w : List UInt8} {b : Nat} (hb : A w = some b) : b < W.heap.size :=
  (Array.getElem?_eq_some_iff.1 (h.cells w b hb)).1

theorem Trie.kept {W W' : World} {A : List UInt8 → Option Nat} {F : List UInt8 → Int × Int} (h : Trie W A F) (hk : ∀ w b, A w = some b → W'.heap[b]? = W.heap[b]?) : Trie W' A F :=
  ⟨h.wrd, h.root, h.inj, h.up, h.nil, fun w b hb => (hk w b hb).trans (h.cells w b hb)⟩

theorem Trie.below {W W' : World} {A : List UInt8 → Option Nat} {F : List UInt8 → Int × Int} (h : Trie W A F) (hb : Below W.heap.size W W') : Trie W' A F :=
  h.kept fun _ _ e => hb.block _ (h.lt e)

theorem Trie.congr {W : World} {A : List UInt8 → Option Nat} {F G : List UInt8 → Int × Int} (h : Trie W A F) (hg : ∀ w, Wrd w → F w = G w) : Trie W A G :=
  ⟨h.wrd, h.root, h.inj, h.up, fun w hw e => by rw [← hg w hw]; exact h.nil w hw e, fun w b hb => by
    rw [h.cells w b hb]; unfold plc; rw [hg w (h.wrd w b hb)]⟩

/-- What a call that walks and extends the places keeps: all other blocks. -/
structure Off (A : List UInt8 → Option Nat) (n : Nat) (W W' : World) : Prop where
  os : W'.os = W.os
  tape : W'.tape = W.tape
  output : W'.output = W.output
  size : W.heap.size ≤ W'.heap.size
  block : ∀ k, k < n → (∀ w, A w ≠ some k) → W'.heap[k]? = W.heap[k]?

theorem Off.below {A : List UInt8 → Option Nat} {n m : Nat} {W W' : World} (h : Off A n W W') (hm : m ≤ n) (hA : ∀ w b, A w = some b → m ≤ b) : Below m W W' :=
  ⟨h.os, h.tape, h.output, h.size, fun k hk => h.block k (by omega) fun w e => by have := hA w k e; omega⟩

theorem Off.of_below {A : List UInt8 → Option Nat} {n : Nat} {W W' : World} (h : Below n W W') : Off A n W W' :=
  ⟨h.os, h.tape, h.output, h.size, fun k hk _ => h.block k hk⟩

theorem Off.trans {A : List UInt8 → Option Nat} {n : Nat} {W W1 W2 : World} (h : Off A n W W1) (k : Off A n W1 W2) : Off A n W W2 :=
  ⟨k.os.trans h.os, k.tape.trans h.tape, k.output.trans h.output, Nat.le_trans h.size k.size, fun j hj hA => (k.block j hj hA).trans (h.block j hj hA)⟩

theorem Off.set {A : List UInt8 → Option Nat} {n : Nat} {W W' : World} (h : Off A n W W') {p : Addr} (hp : n ≤ p.block ∨ ∃ w, A w = some p.block) (v : Value) : Off A n W (W'.setCell p v) :=
  h.trans ⟨rfl, rfl, rfl, by simp [World.setCell], fun k hk hA => Below.heap_setCell _ _ _ _ (by
    rintro rfl
    rcases hp with hp | ⟨w, hw⟩
    · omega
    · exact hA w hw)⟩

theorem Off.new {A : List UInt8 → Option Nat} {n : Nat} {W W' : World} (h : Off A n W W') (hn : n ≤ W'.heap.size) (o : Obj) : Off A n W (W'.alloc o) :=
  h.trans ⟨rfl, rfl, rfl, by simp, fun k hk _ => Below.heap_alloc _ _ _ (by omega)⟩

/-- The places that a call leaves: those that there were, and new ones. -/
def Ext (A A' : List UInt8 → Option Nat) (n : Nat) : Prop := ∀ w b, (A w = some b → A' w = some b) ∧ (A' w = some b → A w = some b ∨ n ≤ b)

theorem Ext.refl (A : List UInt8 → Option Nat) (n : Nat) : Ext A A n := fun _ _ => ⟨id, .inl⟩

theorem Trie.cell {W : World} {A : List UInt8 → Option Nat} {F : List UInt8 → Int × Int} (h : Trie W A F) {w : List UInt8} {b : Nat} (hb : A w = some b) (i : Nat) :
    W.cell? ⟨b, i, none⟩ = (plc A F w)[i]? := by
  simp [World.cell?, h.cells w b hb]
theorem Trie.frozen {W : World} {A : List UInt8 → Option Nat} {F : List UInt8 → Int × Int} (h : Trie W A F) {w : List UInt8} {b : Nat} (hb : A w = some b) (i : Nat) :
    W.frozen? ⟨b, i, none⟩ = false := by
  simp [World.frozen?, h.cells w b hb]

theorem setCell_heap {W : World} {b : Nat} {c : Array Value} {t : TypeId} (h : W.heap[b]? = some (.cells c t)) (i : Nat) (v : Value) :
    (W.setCell ⟨b, i, none⟩ v).heap[b]? = some (.cells (c.setIfInBounds i v) t) := by
  simp only [World.setCell, Array.getElem?_modify, if_pos, h, Option.map_some]
  rfl

/-- A content is written. -/
theorem Trie.write {W : World} {A : List UInt8 → Option Nat} {F : List UInt8 → Int × Int} (h : Trie W A F) {w : List UInt8} {b : Nat} (hb : A w = some b) (k v : Int) :
    Trie ((W.setCell ⟨b, 0, none⟩ (.int .i64 k)).setCell ⟨b, 1, none⟩ (.int .i64 v)) A (setF F w (k, v)) := by
  refine ⟨h.wrd, h.root, h.inj, h.up, fun u hu e => ?_, fun u c hc => ?_⟩
  · unfold setF
    rw [if_neg (fun q => by rw [q, hb] at e; cases e)]
    exact h.nil u hu e
  · by_cases e : u = w
    · subst e
      have ebc : b = c := by rw [hb] at hc; exact Option.some.inj hc
      subst ebc
      rw [setCell_heap (setCell_heap (h.cells u b hb) 0 _) 1 _]
      unfold plc setF
      rw [if_pos rfl]
      rfl
    · have ne : c ≠ b := fun q => e (h.inj u w b (by rw [← q]; exact hc) hb)
      rw [Below.heap_setCell _ _ _ _ ne, Below.heap_setCell _ _ _ _ ne, h.cells u c hc]
      unfold plc setF
      rw [if_neg e]

def addA (A : List UInt8 → Option Nat) (w : List UInt8) (b : Nat) : List UInt8 → Option Nat := fun u => if u = w then some b else A u

theorem app_one_inj {a b : List UInt8} {x y : UInt8} (h : a ++ [x] = b ++ [y]) : a = b ∧ x = y := by
  have := List.append_inj' h rfl
  exact ⟨this.1, by simpa using this.2⟩

theorem addA_kids {A : List UInt8 → Option Nat} {F : List UInt8 → Int × Int} {w u : List UInt8} {c : UInt8} {n : Nat} (h : u ≠ w) : plc (addA A (w ++ [c]) n) F u = plc A F u := by
  have : ∀ x, addA A (w ++ [c]) n (u ++ [x]) = A (u ++ [x]) := fun x => by
    unfold addA; exact if_neg fun e => h (app_one_inj e).1
  unfold plc; rw [this, this, this, this]

/-- A place is made behind another one. -/
theorem Trie.make {W : World} {A : List UInt8 → Option Nat} {F : List UInt8 → Int × Int} (h : Trie W A F) {w : List UInt8} {b : Nat} (hb : A w = some b) {c : UInt8} (i : Nat) (hi : i < 4) (hc : c = UInt8.ofNat (97 + i)) (hl : w.length < 4) (hn : A (w ++ [c]) = none) :
    Trie ((W.alloc (.cells #[.int .i64 0, .int .i64 0, .pointer none, .pointer none, .pointer none, .pointer none] 94)).setCell ⟨b, 2 + i, none⟩ (.pointer (some ⟨W.heap.size, 0, none⟩)))
      (addA A (w ++ [c]) W.heap.size) F := by
  have hbl := h.lt hb
  have hcl : Pm.letter c = true := by
    subst hc
    rcases (by omega : i = 0 ∨ i = 1 ∨ i = 2 ∨ i = 3) with rfl | rfl | rfl | rfl <;> decide
  have hwc : Wrd (w ++ [c]) := ⟨by simp; omega, fun x hx => by
    rcases List.mem_append.1 hx with hx | hx
    · exact (h.wrd w b hb).2 x hx
    · rw [List.mem_singleton.1 hx]; exact hcl⟩
  have hnew : ∀ u a, A u = some a → a ≠ W.heap.size := fun u a e q => by have := h.lt e; omega
  refine ⟨fun u a e => ?_, ?_, fun u v a eu ev => ?_, fun u x e => ?_, fun u hu e => ?_, fun u a e => ?_⟩
  · unfold addA at e
    split at e
    · rename_i q; rw [q]; exact hwc
    · exact h.wrd u a e
  · unfold addA; rw [if_neg (by simp)]; exact h.root
  · unfold addA at eu ev
    split at eu <;> split at ev
    · rename_i q1 q2; rw [q1, q2]
    · exact absurd (Option.some.inj eu).symm (hnew v a ev)
    · exact absurd (Option.some.inj ev).symm (hnew u a eu)
    · exact h.inj u v a eu ev
  · unfold addA at e ⊢
    split at e
    · cases e
    · rename_i q
      rw [if_neg]
      · exact h.up u x e
      · intro q2
        have := (app_one_inj q2).1
        rw [this, hb] at e; cases e
  · unfold addA at e
    split at e
    · cases e
    · exact h.nil u hu e
  · by_cases q : u = w ++ [c]
    · subst q
      have ea : a = W.heap.size := by unfold addA at e; rw [if_pos rfl] at e; exact (Option.some.inj e).symm
      subst ea
      rw [Below.heap_setCell _ _ _ _ (show W.heap.size ≠ b by omega), World.alloc_heap_new]
      have hF := h.nil (w ++ [c]) hwc hn
      have hk : ∀ x, addA A (w ++ [c]) W.heap.size (w ++ [c] ++ [x]) = none := fun x => by
        unfold addA
        rw [if_neg (by intro q; have := congrArg List.length q; simp at this)]
        exact h.up _ x hn
      unfold plc
      rw [hk, hk, hk, hk, hF]
      rfl
    · have eA : A u = some a := by unfold addA at e; rwa [if_neg q] at e
      by_cases q2 : u = w
      · subst q2
        have ea : a = b := by rw [hb] at eA; exact (Option.some.inj eA).symm
        subst ea
        have h0 : (W.alloc (.cells #[.int .i64 0, .int .i64 0, .pointer none, .pointer none, .pointer none, .pointer none] 94)).heap[a]? = some (.cells (plc A F u) 94) := by
          rw [Below.heap_alloc _ _ _ hbl]; exact h.cells u a eA
        rw [setCell_heap h0]
        have hsame : ∀ x, x ≠ c → addA A (u ++ [c]) W.heap.size (u ++ [x]) = A (u ++ [x]) := fun x hx => by
          unfold addA; exact if_neg fun e => hx (app_one_inj e).2
        have hself : addA A (u ++ [c]) W.heap.size (u ++ [c]) = some W.heap.size := if_pos rfl
        subst hc
        rcases (by omega : i = 0 ∨ i = 1 ∨ i = 2 ∨ i = 3) with rfl | rfl | rfl | rfl
        · have e0 : addA A (u ++ [97]) W.heap.size (u ++ [97]) = some W.heap.size := hself
          have e1 := hsame 98 (by decide)
          have e2 := hsame 99 (by decide)
          have e3 := hsame 100 (by decide)
          show _ = some (Obj.cells (plc (addA A (u ++ [97]) W.heap.size) F u) _)
          unfold plc
          rw [e0, show addA A (u ++ [97]) W.heap.size (u ++ [98]) = A (u ++ [98]) from e1, show addA A (u ++ [97]) W.heap.size (u ++ [99]) = A (u ++ [99]) from e2, show addA A (u ++ [97]) W.heap.size (u ++ [100]) = A (u ++ [100]) from e3]
          rfl
        · have e0 : addA A (u ++ [98]) W.heap.size (u ++ [98]) = some W.heap.size := hself
          have e1 := hsame 97 (by decide)
          have e2 := hsame 99 (by decide)
          have e3 := hsame 100 (by decide)
          show _ = some (Obj.cells (plc (addA A (u ++ [98]) W.heap.size) F u) _)
          unfold plc
          rw [e0, show addA A (u ++ [98]) W.heap.size (u ++ [97]) = A (u ++ [97]) from e1, show addA A (u ++ [98]) W.heap.size (u ++ [99]) = A (u ++ [99]) from e2, show addA A (u ++ [98]) W.heap.size (u ++ [100]) = A (u ++ [100]) from e3]
          rfl
        · have e0 : addA A (u ++ [99]) W.heap.size (u ++ [99]) = some W.heap.size := hself
          have e1 := hsame 97 (by decide)
          have e2 := hsame 98 (by decide)
          have e3 := hsame 100 (by decide)
          show _ = some (Obj.cells (plc (addA A (u ++ [99]) W.heap.size) F u) _)
          unfold plc
          rw [e0, show addA A (u ++ [99]) W.heap.size (u ++ [97]) = A (u ++ [97]) from e1, show addA A (u ++ [99]) W.heap.size (u ++ [98]) = A (u ++ [98]) from e2, show addA A (u ++ [99]) W.heap.size (u ++ [100]) = A (u ++ [100]) from e3]
          rfl
        · have e0 : addA A (u ++ [100]) W.heap.size (u ++ [100]) = some W.heap.size := hself
          have e1 := hsame 97 (by decide)
          have e2 := hsame 98 (by decide)
          have e3 := hsame 99 (by decide)
          show _ = some (Obj.cells (plc (addA A (u ++ [100]) W.heap.size) F u) _)
          unfold plc
          rw [e0, show addA A (u ++ [100]) W.heap.size (u ++ [97]) = A (u ++ [97]) from e1, show addA A (u ++ [100]) W.heap.size (u ++ [98]) = A (u ++ [98]) from e2, show addA A (u ++ [100]) W.heap.size (u ++ [99]) = A (u ++ [99]) from e3]
          rfl
      · have ne : a ≠ b := fun e3 => q2 (h.inj u w b (by rw [← e3]; exact eA) hb)
        rw [Below.heap_setCell _ _ _ _ ne, Below.heap_alloc _ _ _ (h.lt eA), h.cells u a eA, addA_kids q2]

theorem ext_add {A : List UInt8 → Option Nat} {w : List UInt8} {n b : Nat} (hn : A w = none) (hb : n ≤ b) : Ext A (addA A w b) n := fun u c => by
  unfold addA
  refine ⟨fun h => ?_, fun h => ?_⟩
  · rw [if_neg (fun e => by rw [e, hn] at h; cases h)]; exact h
  · split at h
    · right; rw [← Option.some.inj h]; exact hb
    · exact .inl h

theorem Ext.trans {A B C : List UInt8 → Option Nat} {n : Nat} (h : Ext A B n) (k : Ext B C n) : Ext A C n := fun w b =>
  ⟨fun e => (k w b).1 ((h w b).1 e), fun e => by
    rcases (k w b).2 e with e | e
    · exact (h w b).2 e
    · exact .inr e⟩

/-- A new tree. -/
theorem Trie.new (W : World) : Trie (W.alloc (.cells #[.int .i64 1, .int .i64 0, .pointer none, .pointer none, .pointer none, .pointer none] 94)) (fun w => if w = [] then some W.heap.size else none) (Fof []) := by
  refine ⟨fun w b e => ?_, by simp, fun u w b eu ew => ?_, fun w c e => by simp, fun w hw e => ?_, fun w b e => ?_⟩
  · by_cases h : w = []
    · rw [h]; exact Wrd.nil
    · simp [h] at e
  · by_cases h : u = []
    · by_cases h' : w = []
      · rw [h, h']
      · simp [h'] at ew
    · simp [h] at eu
  · by_cases h : w = []
    · simp [h] at e
    · exact Fof_nil h hw
  · by_cases h : w = []
    · subst h
      simp at e
      subst e
      rw [World.alloc_heap_new]
      unfold plc
      rw [Fof_root]
      simp [ptrTo]
    · simp [h] at e

end Go.Proofs.Ytncceljffcjoiaa
