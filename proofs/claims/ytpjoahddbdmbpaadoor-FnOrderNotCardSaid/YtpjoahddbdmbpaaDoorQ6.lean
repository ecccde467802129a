/-
  Texts of this proof, one behind the other: Qr, Tr, Wa, Of, Ip, Tx, No, Iq.
-/
import Derived.Sort.QuietIn
import Derived.RangeFuncCalls
import Derived.RangeFuncBox
import Derived.Sort.CutIn
import Derived.Laws.Cover1
import Derived.Deep.RegionHeld3
import Derived.Deep.Cut
import Derived.Laws.AppendOwnNone
import Derived.Laws.Concat
import Derived.Laws.Runes
import Derived.Test.YtpjoahddbdmbpaaDoorBn
import Derived.Test.YtpjoahddbdmbpaaDoorTa
import Derived.Test.YtpjoahddbdmbpaaDoorWd
import Derived.Test.YtpjoahddbdmbpaaDoorPd
import Derived.Test.YtpjoahddbdmbpaaDoorPi
import Derived.Test.YtpjoahddbdmbpaaDoorQ5
import Derived.Test.YtpjoahddbdmbpaaDoorTv
import Derived.Test.YtpjoahddbdmbpaaDoorSa
import Derived.Test.YtpjoahddbdmbpaaDoorTl
import Derived.Test.YtpjoahddbdmbpaaDoorTt
/-
  A REGION THAT DRAWS ITS ORDER AND ONLY READS, within a round of a loop over a function: the law of the kit for activations, carried into a round.
-/
namespace Go.Proofs.YtpjoahddbdmbpaaDoor
open Go.RowKit

theorem wpOpIn_round {F : Fence} {n : Nat} {P : Program} {ops : Array Oper} {Q : Exit → Act → World → Prop} {i : Nat} {K K' : Act → World → Prop} {a : Act} {w : World} (l : Nat) (hro : F.round = none)
    (hd : ∀ o, ops[i]? = some o → ∀ c, o.op ≠ .defer c) (hK : ∀ a w, K a w → K' a w) (h : wpOpIn F n P ops Q i K a w) : wpOpIn (F.inRound l) n P ops Q i K' a w := by
  have h := wpOpIn_mono hK h
  unfold wpOpIn at h ⊢
  cases ho : ops[i]? with
  | none => simp only [ho] at h ⊢; exact h
  | some o =>
    simp only [ho] at h ⊢
    split
    · rename_i hw
      rw [if_pos hw] at h
      refine ⟨h.1, ?_⟩
      have h2 := h.2
      rw [hro, Oper.semAt_none] at h2
      rw [Oper.semAt_eq _ _ _ (hd o ho)]
      exact h2
    · rename_i hw
      rw [if_neg hw] at h
      exact h

theorem wpAnyIn_round {F : Fence} {n : Nat} {P : Program} {ops : Array Oper} {Q : Exit → Act → World → Prop} {md : Region.Mode} (l : Nat) (hro : F.round = none)
    (hd : ∀ (i : Nat) (o : Oper), ops[i]? = some o → ∀ c, o.op ≠ .defer c) : ∀ (fuel : Nat) (listed : Array Bool) (a : Act) (w : World), wpAnyIn F n P md ops Q fuel listed a w → wpAnyIn (F.inRound l) n P md ops Q fuel listed a w
  | 0, _, _, _, h => h
  | fuel + 1, _, _, _, h => ⟨h.1, fun i hi => wpOpIn_round l hro (hd i) (fun a w => wpAnyIn_round l hro hd fuel _ a w) (h.2 i hi)⟩

def noDefer (o : Oper) : Bool := match o.op with
  | .defer _ => false
  | _ => true

theorem quiet_round {F : Fence} {n : Nat} {P : Program} {id : Nat} {Q : Exit → Act → World → Prop} {a : Act} {w : World} {ops : List Oper} (l : Nat) (hro : F.round = none) (hm : P.follows .mixedOrders = true) (hB : Region.lexB .any ops.toArray = true)
    (hd : ops.all noDefer = true)
    (h : wpQuietIn F n P ops.toArray (fun w' => ∃ n, w' = w.drewN n) (fun a' => ∀ w', (∃ n, w' = w.drewN n) → Q .normal a' w') ops a) : (Code.region id ops.toArray true).wpIn (F.inRound l) n P Q a w := by
  simp only [Region.lexB, Bool.and_eq_true] at hB
  have hd' : ∀ (i : Nat) (o : Oper), ops.toArray[i]? = some o → ∀ c, o.op ≠ .defer c := by
    intro i o ho c e
    have hm : o ∈ ops := by
      have := List.mem_of_getElem? (by simpa using ho : ops[i]? = some o)
      exact this
    have := List.all_eq_true.1 hd o hm
    unfold noDefer at this
    rw [e] at this
    cases this
  refine wpIn_region_any hm (wpAnyIn_round l hro hd' _ _ _ _ ?_)
  refine wpAnyIn_of_quiet (C := fun w' => ∃ n, w' = w.drewN n) (Q := fun a' => ∀ w', (∃ n, w' = w.drewN n) → Q .normal a' w') hro (fun _ w' hw' h => h w' hw') _ _ _ _ ⟨1, rfl⟩ ?_
  have := wpAnyQIn_lex (F := F) (n := n) (C := fun w' => ∃ n, w' = w.drewN n) (md := .any) hB.1 ops 0 (Array.replicate ops.toArray.size false) a (by simp) (by simpa using hB.2) h
  simpa using this

/-- A region that draws its order, within a round: walked as outside of it. -/
theorem region_round {F : Fence} {n : Nat} {P : Program} {id : Nat} {Q : Exit → Act → World → Prop} {a : Act} {w : World} {ops : List Oper} (l : Nat) (hro : F.round = none) (hm : P.follows .mixedOrders = true) (hd : ops.all noDefer = true)
    (h : wpAnyIn F n P .any ops.toArray Q ops.toArray.size (Array.replicate ops.toArray.size false) a w.drew) : (Code.region id ops.toArray true).wpIn (F.inRound l) n P Q a w := by
  have hd' : ∀ (i : Nat) (o : Oper), ops.toArray[i]? = some o → ∀ c, o.op ≠ .defer c := by
    intro i o ho c e
    have hm : o ∈ ops := by
      have := List.mem_of_getElem? (by simpa using ho : ops[i]? = some o)
      exact this
    have := List.all_eq_true.1 hd o hm
    unfold noDefer at this
    rw [e] at this
    cases this
  exact wpIn_region_any hm (wpAnyIn_round l hro hd' _ _ _ _ h)

end Go.Proofs.YtpjoahddbdmbpaaDoor

/-
  TREES IN MEMORY: places, each with its content and the places behind it.
-/
namespace Go.Proofs.YtpjoahddbdmbpaaDoor
open Go.RowKit

theorem infoPlace : (Tryd.prog.info? 91).map (fun i => (i.zero, i.size)) = some (some (.agg #[.int .i64 0, .int .i64 0, .pointer none, .pointer none, .pointer none, .pointer none]), 6) := by kernel_rfl

def ptrTo (o : Option Nat) : Value := .pointer (o.map fun b => ⟨b, 0, none⟩)

/-- The cells of the place of a word. -/
def plc (A : List UInt8 → Option Nat) (F : List UInt8 → Int × Int) (w : List UInt8) : Array Value :=
  #[.int .i64 (F w).1, .int .i64 (F w).2, ptrTo (A (w ++ [97])), ptrTo (A (w ++ [98])), ptrTo (A (w ++ [99])), ptrTo (A (w ++ [100]))]

/-- Where the places lie, and what they hold. -/
structure Trie (W : World) (A : List UInt8 → Option Nat) (F : List UInt8 → Int × Int) : Prop where
  wrd : ∀ w b, A w = some b → Wrd w
  root : A [] ≠ none
  inj : ∀ u w b, A u = some b → A w = some b → u = w
  up : ∀ w c, A w = none → A (w ++ [c]) = none
  nil : ∀ w, Wrd w → A w = none → F w = (0, 0)
  cells : ∀ w b, A w = some b → W.heap[b]? = some (.cells (plc A F w) 91)

theorem Trie.lt {W : World} {A : List UInt8 → Option Nat} {F : List UInt8 → Int × Int} (h : Trie W A F) {w : List UInt8} {b : Nat} (hb : A w = some b) : b < W.heap.size :=
  (Array.getElem?_eq_some_iff.1 (h.cells w b hb)).1

theorem Trie.kept {W W' : World} {A : List UInt8 → Option Nat} {F : List UInt8 → Int × Int} (h : Trie W A F) (hk : ∀ w b, A w = some b → W'.heap[b]? = W.heap[b]?) : Trie W' A F :=
  ⟨h.wrd, h.root, h.inj, h.up, h.nil, fun w b hb => (hk w b hb).trans (h.cells w b hb)⟩

theorem Trie.below {W W' : World} {A : List UInt8 → Option Nat} {F : List UInt8 → Int × Int} (h : Trie W A F) (hb : Below W.heap.size W W') : Trie W' A F :=
  h.kept fun _ _ e => hb.block _ (h.lt e)

theorem Trie.congr {W : World} {A : List UInt8 → Option Nat} {F G : List UInt8 → Int × Int} (h : Trie W A F) (hg : ∀ w, Wrd w → F w = G w) : Trie W A G :=
  ⟨h.wrd, h.root, h.inj, h.up, fun w hw e => by rw [← hg w hw]; exact h.nil w hw e, fun w b hb => by
    rw [h.cells w b hb]; unfold plc; rw [hg w (h.wrd w b hb)]⟩

/-- What a call that walks and extends the places keeps: all other blocks. -/
structure Off (A : List UInt8 → Option Nat) (n : Nat) (W W' : World) : Prop where
  os : W'.os = W.os
  tape : W'.tape = W.tape
  output : W'.output = W.output
  size : W.heap.size ≤ W'.heap.size
  block : ∀ k, k < n → (∀ w, A w ≠ some k) → W'.heap[k]? = W.heap[k]?

theorem Off.below {A : List UInt8 → Option Nat} {n m : Nat} {W W' : World} (h : Off A n W W') (hm : m ≤ n) (hA : ∀ w b, A w = some b → m ≤ b) : Below m W W' :=
  ⟨h.os, h.tape, h.output, h.size, fun k hk => h.block k (by omega) fun w e => by have := hA w k e; omega⟩

theorem Off.of_below {A : List UInt8 → Option Nat} {n : Nat} {W W' : World} (h : Below n W W') : Off A n W W' :=
  ⟨h.os, h.tape, h.output, h.size, fun k hk _ => h.block k hk⟩

theorem Off.trans {A : List UInt8 → Option Nat} {n : Nat} {W W1 W2 : World} (h : Off A n W W1) (k : Off A n W1 W2) : Off A n W W2 :=
  ⟨k.os.trans h.os, k.tape.trans h.tape, k.output.trans h.output, Nat.le_trans h.size k.size, fun j hj hA => (k.block j hj hA).trans (h.block j hj hA)⟩

theorem Off.set {A : List UInt8 → Option Nat} {n : Nat} {W W' : World} (h : Off A n W W') {p : Addr} (hp : n ≤ p.block ∨ ∃ w, A w = some p.block) (v : Value) : Off A n W (W'.setCell p v) :=
  h.trans ⟨rfl, rfl, rfl, by simp [World.setCell], fun k hk hA => Below.heap_setCell _ _ _ _ (by
    rintro rfl
    rcases hp with hp | ⟨w, hw⟩
    · omega
    · exact hA w hw)⟩

theorem Off.new {A : List UInt8 → Option Nat} {n : Nat} {W W' : World} (h : Off A n W W') (hn : n ≤ W'.heap.size) (o : Obj) : Off A n W (W'.alloc o) :=
  h.trans ⟨rfl, rfl, rfl, by simp, fun k hk _ => Below.heap_alloc _ _ _ (by omega)⟩

/-- The places that a call leaves: those that there were, and new ones. -/
def Ext (A A' : List UInt8 → Option Nat) (n : Nat) : Prop := ∀ w b, (A w = some b → A' w = some b) ∧ (A' w = some b → A w = some b ∨ n ≤ b)

theorem Ext.refl (A : List UInt8 → Option Nat) (n : Nat) : Ext A A n := fun _ _ => ⟨id, .inl⟩

theorem Trie.cell {W : World} {A : List UInt8 → Option Nat} {F : List UInt8 → Int × Int} (h : Trie W A F) {w : List UInt8} {b : Nat} (hb : A w = some b) (i : Nat) :
    W.cell? ⟨b, i, none⟩ = (plc A F w)[i]? := by
  simp [World.cell?, h.cells w b hb]
theorem Trie.frozen {W : World} {A : List UInt8 → Option Nat} {F : List UInt8 → Int × Int} (h : Trie W A F) {w : List UInt8} {b : Nat} (hb : A w = some b) (i : Nat) :
    W.frozen? ⟨b, i, none⟩ = false := by
  simp [World.frozen?, h.cells w b hb]

theorem setCell_heap {W : World} {b : Nat} {c : Array Value} {t : TypeId} (h : W.heap[b]? = some (.cells c t)) (i : Nat) (v : Value) :
    (W.setCell ⟨b, i, none⟩ v).heap[b]? = some (.cells (c.setIfInBounds i v) t) := by
  simp only [World.setCell, Array.getElem?_modify, if_pos, h, Option.map_some]
  rfl

/-- A content is written. -/
theorem Trie.write {W : World} {A : List UInt8 → Option Nat} {F : List UInt8 → Int × Int} (h : Trie W A F) {w : List UInt8} {b : Nat} (hb : A w = some b) (k v : Int) :
    Trie ((W.setCell ⟨b, 0, none⟩ (.int .i64 k)).setCell ⟨b, 1, none⟩ (.int .i64 v)) A (setF F w (k, v)) := by
  refine ⟨h.wrd, h.root, h.inj, h.up, fun u hu e => ?_, fun u c hc => ?_⟩
  · unfold setF
    rw [if_neg (fun q => by rw [q, hb] at e; cases e)]
    exact h.nil u hu e
  · by_cases e : u = w
    · subst e
      have ebc : b = c := by rw [hb] at hc; exact Option.some.inj hc
      subst ebc
      rw [setCell_heap (setCell_heap (h.cells u b hb) 0 _) 1 _]
      unfold plc setF
      rw [if_pos rfl]
      rfl
    · have ne : c ≠ b := fun q => e (h.inj u w b (by rw [← q]; exact hc) hb)
      rw [Below.heap_setCell _ _ _ _ ne, Below.heap_setCell _ _ _ _ ne, h.cells u c hc]
      unfold plc setF
      rw [if_neg e]

def addA (A : List UInt8 → Option Nat) (w : List UInt8) (b : Nat) : List UInt8 → Option Nat := fun u => if u = w then some b else A u

theorem app_one_inj {a b : List UInt8} {x y : UInt8} (h : a ++ [x] = b ++ [y]) : a = b ∧ x = y := by
  have := List.append_inj' h rfl
  exact ⟨this.1, by simpa using this.2⟩

theorem addA_kids {A : List UInt8 → Option Nat} {F : List UInt8 → Int × Int} {w u : List UInt8} {c : UInt8} {n : Nat} (h : u ≠ w) : plc (addA A (w ++ [c]) n) F u = plc A F u := by
  have : ∀ x, addA A (w ++ [c]) n (u ++ [x]) = A (u ++ [x]) := fun x => by
    unfold addA; exact if_neg fun e => h (app_one_inj e).1
  unfold plc; rw [this, this, this, this]

/-- A place is made behind another one. -/
theorem Trie.make {W : World} {A : List UInt8 → Option Nat} {F : List UInt8 → Int × Int} (h : Trie W A F) {w : List UInt8} {b : Nat} (hb : A w = some b) {c : UInt8} (i : Nat) (hi : i < 4) (hc : c = UInt8.ofNat (97 + i)) (hl : w.length < 4) (hn : A (w ++ [c]) = none) :
    Trie ((W.alloc (.cells #[.int .i64 0, .int .i64 0, .pointer none, .pointer none, .pointer none, .pointer none] 91)).setCell ⟨b, 2 + i, none⟩ (.pointer (some ⟨W.heap.size, 0, none⟩)))
      (addA A (w ++ [c]) W.heap.size) F := by
  have hbl := h.lt hb
  have hcl : Pm.letter c = true := by
    subst hc
    rcases (by omega : i = 0 ∨ i = 1 ∨ i = 2 ∨ i = 3) with rfl | rfl | rfl | rfl <;> decide
  have hwc : Wrd (w ++ [c]) := ⟨by simp; omega, fun x hx => by
    rcases List.mem_append.1 hx with hx | hx
    · exact (h.wrd w b hb).2 x hx
    · rw [List.mem_singleton.1 hx]; exact hcl⟩
  have hnew : ∀ u a, A u = some a → a ≠ W.heap.size := fun u a e q => by have := h.lt e; omega
  refine ⟨fun u a e => ?_, ?_, fun u v a eu ev => ?_, fun u x e => ?_, fun u hu e => ?_, fun u a e => ?_⟩
  · unfold addA at e
    split at e
    · rename_i q; rw [q]; exact hwc
    · exact h.wrd u a e
  · unfold addA; rw [if_neg (by simp)]; exact h.root
  · unfold addA at eu ev
    split at eu <;> split at ev
    · rename_i q1 q2; rw [q1, q2]
    · exact absurd (Option.some.inj eu).symm (hnew v a ev)
    · exact absurd (Option.some.inj ev).symm (hnew u a eu)
    · exact h.inj u v a eu ev
  · unfold addA at e ⊢
    split at e
    · cases e
    · rename_i q
      rw [if_neg]
      · exact h.up u x e
      · intro q2
        have := (app_one_inj q2).1
        rw [this, hb] at e; cases e
  · unfold addA at e
    split at e
    · cases e
    · exact h.nil u hu e
  · by_cases q : u = w ++ [c]
    · subst q
      have ea : a = W.heap.size := by unfold addA at e; rw [if_pos rfl] at e; exact (Option.some.inj e).symm
      subst ea
      rw [Below.heap_setCell _ _ _ _ (show W.heap.size ≠ b by omega), World.alloc_heap_new]
      have hF := h.nil (w ++ [c]) hwc hn
      have hk : ∀ x, addA A (w ++ [c]) W.heap.size (w ++ [c] ++ [x]) = none := fun x => by
        unfold addA
        rw [if_neg (by intro q; have := congrArg List.length q; simp at this)]
        exact h.up _ x hn
      unfold plc
      rw [hk, hk, hk, hk, hF]
      rfl
    · have eA : A u = some a := by unfold addA at e; rwa [if_neg q] at e
      by_cases q2 : u = w
      · subst q2
        have ea : a = b := by rw [hb] at eA; exact (Option.some.inj eA).symm
        subst ea
        have h0 : (W.alloc (.cells #[.int .i64 0, .int .i64 0, .pointer none, .pointer none, .pointer none, .pointer none] 91)).heap[a]? = some (.cells (plc A F u) 91) := by
          rw [Below.heap_alloc _ _ _ hbl]; exact h.cells u a eA
        rw [setCell_heap h0]
        have hsame : ∀ x, x ≠ c → addA A (u ++ [c]) W.heap.size (u ++ [x]) = A (u ++ [x]) := fun x hx => by
          unfold addA; exact if_neg fun e => hx (app_one_inj e).2
        have hself : addA A (u ++ [c]) W.heap.size (u ++ [c]) = some W.heap.size := if_pos rfl
        subst hc
        rcases (by omega : i = 0 ∨ i = 1 ∨ i = 2 ∨ i = 3) with rfl | rfl | rfl | rfl
        · have e0 : addA A (u ++ [97]) W.heap.size (u ++ [97]) = some W.heap.size := hself
          have e1 := hsame 98 (by decide)
          have e2 := hsame 99 (by decide)
          have e3 := hsame 100 (by decide)
          show _ = some (Obj.cells (plc (addA A (u ++ [97]) W.heap.size) F u) _)
          unfold plc
          rw [e0, show addA A (u ++ [97]) W.heap.size (u ++ [98]) = A (u ++ [98]) from e1, show addA A (u ++ [97]) W.heap.size (u ++ [99]) = A (u ++ [99]) from e2, show addA A (u ++ [97]) W.heap.size (u ++ [100]) = A (u ++ [100]) from e3]
          rfl
        · have e0 : addA A (u ++ [98]) W.heap.size (u ++ [98]) = some W.heap.size := hself
          have e1 := hsame 97 (by decide)
          have e2 := hsame 99 (by decide)
          have e3 := hsame 100 (by decide)
          show _ = some (Obj.cells (plc (addA A (u ++ [98]) W.heap.size) F u) _)
          unfold plc
          rw [e0, show addA A (u ++ [98]) W.heap.size (u ++ [97]) = A (u ++ [97]) from e1, show addA A (u ++ [98]) W.heap.size (u ++ [99]) = A (u ++ [99]) from e2, show addA A (u ++ [98]) W.heap.size (u ++ [100]) = A (u ++ [100]) from e3]
          rfl
        · have e0 : addA A (u ++ [99]) W.heap.size (u ++ [99]) = some W.heap.size := hself
          have e1 := hsame 97 (by decide)
          have e2 := hsame 98 (by decide)
          have e3 := hsame 100 (by decide)
          show _ = some (Obj.cells (plc (addA A (u ++ [99]) W.heap.size) F u) _)
          unfold plc
          rw [e0, show addA A (u ++ [99]) W.heap.size (u ++ [97]) = A (u ++ [97]) from e1, show addA A (u ++ [99]) W.heap.size (u ++ [98]) = A (u ++ [98]) from e2, show addA A (u ++ [99]) W.heap.size (u ++ [100]) = A (u ++ [100]) from e3]
          rfl
        · have e0 : addA A (u ++ [100]) W.heap.size (u ++ [100]) = some W.heap.size := hself
          have e1 := hsame 97 (by decide)
          have e2 := hsame 98 (by decide)
          have e3 := hsame 99 (by decide)
          show _ = some (Obj.cells (plc (addA A (u ++ [100]) W.heap.size) F u) _)
          unfold plc
          rw [e0, show addA A (u ++ [100]) W.heap.size (u ++ [97]) = A (u ++ [97]) from e1, show addA A (u ++ [100]) W.heap.size (u ++ [98]) = A (u ++ [98]) from e2, show addA A (u ++ [100]) W.heap.size (u ++ [99]) = A (u ++ [99]) from e3]
          rfl
      · have ne : a ≠ b := fun e3 => q2 (h.inj u w b (by rw [← e3]; exact eA) hb)
        rw [Below.heap_setCell _ _ _ _ ne, Below.heap_alloc _ _ _ (h.lt eA), h.cells u a eA, addA_kids q2]

theorem ext_add {A : List UInt8 → Option Nat} {w : List UInt8} {n b : Nat} (hn : A w = none) (hb : n ≤ b) : Ext A (addA A w b) n := fun u c => by
  unfold addA
  refine ⟨fun h => ?_, fun h => ?_⟩
  · rw [if_neg (fun e => by rw [e, hn] at h; cases h)]; exact h
  · split at h
    · right; rw [← Option.some.inj h]; exact hb
    · exact .inl h

theorem Ext.trans {A B C : List UInt8 → Option Nat} {n : Nat} (h : Ext A B n) (k : Ext B C n) : Ext A C n := fun w b =>
  ⟨fun e => (k w b).1 ((h w b).1 e), fun e => by
    rcases (k w b).2 e with e | e
    · exact (h w b).2 e
    · exact .inr e⟩

/-- A new tree. -/
theorem Trie.new (W : World) : Trie (W.alloc (.cells #[.int .i64 1, .int .i64 0, .pointer none, .pointer none, .pointer none, .pointer none] 91)) (fun w => if w = [] then some W.heap.size else none) (Fof []) := by
  refine ⟨fun w b e => ?_, by simp, fun u w b eu ew => ?_, fun w c e => by simp, fun w hw e => ?_, fun w b e => ?_⟩
  · by_cases h : w = []
    · rw [h]; exact Wrd.nil
    · simp [h] at e
  · by_cases h : u = []
    · by_cases h' : w = []
      · rw [h, h']
      · simp [h'] at ew
    · simp [h] at eu
  · by_cases h : w = []
    · simp [h] at e
    · exact Fof_nil h hw
  · by_cases h : w = []
    · subst h
      simp at e
      subst e
      rw [World.alloc_heap_new]
      unfold plc
      rw [Fof_root]
      simp [ptrTo]
    · simp [h] at e

end Go.Proofs.YtpjoahddbdmbpaaDoor

/-
  WALKS: the place of a path (impl.place.at).
-/
namespace Go.Proofs.YtpjoahddbdmbpaaDoor
open Go.RowKit Go.Shelf

attribute [local go_sem] Oper.semAt_some

/-- The letters among the parts. -/
def wd (pre : List ByteArray) : List UInt8 := pre.flatMap (fun x => if Pm.nameBB x = true then x.data.toList else [])

theorem wd_app (pre : List ByteArray) (x : ByteArray) : wd (pre ++ [x]) = wd pre ++ (if Pm.nameBB x = true then x.data.toList else []) := by
  unfold wd; rw [List.flatMap_append]; simp

theorem name_letter {x : ByteArray} (h : Pm.nameBB x = true) : ∃ c i, x = ⟨#[c]⟩ ∧ i < 4 ∧ c = UInt8.ofNat (97 + i) := by
  obtain ⟨⟨l⟩⟩ := x
  match l, h with
  | [c], h =>
    have h' : Pm.letter c = true := h
    have := (letter_iff c).1 h'
    simp only [letters, List.mem_cons, List.not_mem_nil, or_false] at this
    rcases this with rfl | rfl | rfl | rfl
    · exact ⟨97, 0, rfl, by omega, rfl⟩
    · exact ⟨98, 1, rfl, by omega, rfl⟩
    · exact ⟨99, 2, rfl, by omega, rfl⟩
    · exact ⟨100, 3, rfl, by omega, rfl⟩
  | [], h => cases h
  | _ :: _ :: _, h => cases h

theorem wd_len (pre : List ByteArray) : (wd pre).length ≤ pre.length := by
  induction pre with
  | nil => simp [wd]
  | cons x r ih =>
    have : wd (x :: r) = (if Pm.nameBB x = true then x.data.toList else []) ++ wd r := rfl
    rw [this, List.length_append, List.length_cons]
    split
    · rename_i h
      obtain ⟨c, i, rfl, _⟩ := name_letter h
      simp; omega
    · simp; omega

theorem parts_word {v : List UInt8} (h : Wrd v) : wd (Pm.partsB (pB v)) = v ∧ (Pm.partsB (pB v)).length ≤ 4 := by
  by_cases hn : v = []
  · subst hn; decide
  · have hp : Pm.partsB (pB v) = v.map fun x => ⟨#[x]⟩ := by
      unfold Pm.partsB
      rw [pB_list, Pm.parts_path v hn h.2, List.map_map]
      rfl
    rw [hp]
    refine ⟨?_, by rw [List.length_map]; exact h.1⟩
    have hv := h.2
    clear hn hp h
    induction v with
    | nil => rfl
    | cons c r ih =>
      have hc : Pm.nameBB ⟨#[c]⟩ = true := hv c (by simp)
      have : wd ((c :: r).map fun x => (⟨#[x]⟩ : ByteArray)) = (if Pm.nameBB ⟨#[c]⟩ = true then [c] else []) ++ wd (r.map fun x => ⟨#[x]⟩) := rfl
      rw [this, if_pos hc, ih (fun x hx => hv x (List.mem_cons_of_mem _ hx))]
      rfl

theorem pB_size {v : List UInt8} (h : Wrd v) : (pB v).size ≤ 8 := by
  show (Pm.pathOf v).length ≤ 8
  unfold Pm.pathOf
  split
  · simp
  · rw [Pm.flat_length]; have := h.1; omega

def AtPost (A : List UInt8 → Option Nat) (F : List UInt8 → Int × Int) (v : List UInt8) (w : World) (e : Ending) (w' : World) : Prop :=
  ∃ A' b, e = .returned (.pointer (some ⟨b, 0, none⟩)) ∧ A' v = some b ∧ Trie w' A' F ∧ Ext A A' w.heap.size ∧ Off A w.heap.size w w'

def AtI (A : List UInt8 → Option Nat) (F : List UInt8 → Int × Int) (w : World) (pre : List ByteArray) (W : World) : Prop :=
  w.heap.size + 2 ≤ W.heap.size ∧ ∃ A' b, A' (wd pre) = some b ∧ Trie W A' F ∧ Ext A A' (w.heap.size + 2) ∧ Off A w.heap.size w W ∧ Boxed W w.heap.size 71 (.pointer (some ⟨b, 0, none⟩))

theorem AtI.own (A : List UInt8 → Option Nat) (F : List UInt8 → Int × Int) (w : World) (B : Nat) (hB : w.heap.size ≤ B) : OwnFrom B (AtI A F w) := by
  rintro pre W W' row ⟨h0, A', b, h1, h2, h3, h4, h5⟩ hg hr
  refine ⟨Nat.le_trans h0 hg.size, A', b, h1, h2.kept fun u c hc => hg.block c (h2.lt hc) fun e => ?_, h3, ?_, ?_⟩
  · obtain ⟨_, o, ho, hoc⟩ := hr c e.symm
    rw [h2.cells u c hc] at ho
    cases ho; cases hoc
  · refine h4.trans ⟨hg.os, hg.tape, hg.output, hg.size, fun k hk _ => hg.block k (by have := h4.size; omega) fun e => ?_⟩
    have := (hr k e.symm).1; omega
  · refine h5.kept hg fun e => ?_
    obtain ⟨_, o, ho, hoc⟩ := hr _ e.symm
    rw [show W.heap[w.heap.size]? = _ from h5] at ho
    cases ho; cases hoc

theorem size_setC (W : World) (a : Addr) (v : Value) : (W.setCell a v).heap.size = W.heap.size := by simp [World.setCell]

theorem Boxed.past {W : World} {B : Nat} {t : TypeId} {v : Value} (h : Boxed W B t v) {b : Nat} (hb : B ≠ b) (i : Nat) (u : Value) : Boxed (W.setCell ⟨b, i, none⟩ u) B t v := by
  unfold Boxed at h ⊢
  rw [Below.heap_setCell _ _ _ _ hb]; exact h

theorem box_apart {A A' : List UInt8 → Option Nat} {F : List UInt8 → Int × Int} {w : World} (hT : Trie w A F) (h3 : Ext A A' (w.heap.size + 2)) {u : List UInt8} {c : Nat} (hc : A' u = some c) : c ≠ w.heap.size := fun e => by
  rcases (h3 u c).2 hc with q | q
  · have := hT.lt q; omega
  · omega

/-- A round that finds a place. -/
theorem at_found {A A' : List UInt8 → Option Nat} {F : List UInt8 → Int × Int} {w W : World} {pre : List ByteArray} {b b' : Nat} (hT : Trie w A F) (hz : w.heap.size + 2 ≤ W.heap.size) (h2 : Trie W A' F) (h3 : Ext A A' (w.heap.size + 2)) (h4 : Off A w.heap.size w W)
    (h5 : Boxed W w.heap.size 71 (.pointer (some ⟨b, 0, none⟩))) (hA : A' (wd pre) = some b') : AtI A F w pre (W.setCell ⟨w.heap.size, 0, none⟩ (.pointer (some ⟨b', 0, none⟩))) :=
  ⟨by rw [size_setC]; exact hz, A', b', hA, h2.kept fun u c hc => Below.heap_setCell _ _ _ _ (box_apart hT h3 hc), h3, h4.set (.inl (Nat.le_refl _)) _, h5.set _⟩

/-- A round that makes a place. -/
theorem at_made {A A' : List UInt8 → Option Nat} {F : List UInt8 → Int × Int} {w W : World} {pre : List ByteArray} {u : List UInt8} {c : UInt8} {i b : Nat} (hT : Trie w A F) (hz : w.heap.size + 2 ≤ W.heap.size) (h1 : A' u = some b) (h2 : Trie W A' F) (h3 : Ext A A' (w.heap.size + 2)) (h4 : Off A w.heap.size w W)
    (h5 : Boxed W w.heap.size 71 (.pointer (some ⟨b, 0, none⟩))) (hi : i < 4) (hc : c = UInt8.ofNat (97 + i)) (hl : u.length < 4) (hn : A' (u ++ [c]) = none) (hw : wd pre = u ++ [c]) :
    AtI A F w pre (((W.alloc (.cells #[.int .i64 0, .int .i64 0, .pointer none, .pointer none, .pointer none, .pointer none] 91)).setCell ⟨b, 2 + i, none⟩ (.pointer (some ⟨W.heap.size, 0, none⟩))).setCell ⟨w.heap.size, 0, none⟩ (.pointer (some ⟨W.heap.size, 0, none⟩))) := by
  have h3' : Ext A (addA A' (u ++ [c]) W.heap.size) (w.heap.size + 2) := h3.trans (ext_add hn hz)
  have hb := box_apart hT h3 h1
  obtain ⟨o, ho⟩ : ∃ o, o = (Obj.cells #[.int .i64 0, .int .i64 0, .pointer none, .pointer none, .pointer none, .pointer none] 91) := ⟨_, rfl⟩
  have hm := h2.make h1 i hi hc hl hn
  rw [← ho] at hm ⊢
  clear ho
  have hoff : Off A w.heap.size w ((W.alloc o).setCell ⟨b, 2 + i, none⟩ (.pointer (some ⟨W.heap.size, 0, none⟩))) := by
    refine (h4.new (by omega) _).set ?_ _
    rcases (h3 u b).2 h1 with q | q
    · exact .inr ⟨u, q⟩
    · exact .inl (by show w.heap.size ≤ b; omega)
  have hbox : Boxed ((W.alloc o).setCell ⟨b, 2 + i, none⟩ (.pointer (some ⟨W.heap.size, 0, none⟩))) w.heap.size 71 (.pointer (some ⟨b, 0, none⟩)) := Boxed.past (h5.alloc o) (fun e => hb e.symm) _ _
  have hsz : w.heap.size + 2 ≤ ((W.alloc o).setCell ⟨b, 2 + i, none⟩ (.pointer (some ⟨W.heap.size, 0, none⟩))).heap.size := by
    rw [size_setC, World.size_alloc]; omega
  have hself : addA A' (u ++ [c]) W.heap.size (wd pre) = some W.heap.size := by rw [hw]; exact if_pos rfl
  generalize (W.alloc o).setCell ⟨b, 2 + i, none⟩ (.pointer (some ⟨W.heap.size, 0, none⟩)) = W6 at hm hoff hbox hsz ⊢
  exact at_found hT hsz hm h3' hoff hbox hself

set_option maxRecDepth 100000 in
set_option maxHeartbeats 2000000 in
theorem at_in (A : List UInt8 → Option Nat) (F : List UInt8 → Int × Int) (v : List UInt8) (hv : Wrd v) (w : World) (hT : Trie w A F) (b0 : Nat) (h0 : A [] = some b0) :
    CallsIn Fence.wide 6 Tryd.prog 50 #[.pointer (some ⟨b0, 0, none⟩), .string (pB v)] w (AtPost A F v w) := by
  have hs := Nat.le_trans (pB_size hv) (show 8 ≤ 140737488355328 by omega)
  obtain ⟨hwd, hlen⟩ := parts_word hv
  obtain ⟨s, hsv⟩ : ∃ s, s = pB v := ⟨_, rfl⟩
  rw [← hsv] at hs hwd hlen ⊢
  have HT := Lib.hid hT
  have HV := Lib.hid hsv
  clear hsv hT
  refine callsIn_of_wp_marks Tryd.func50 rfl trivial ?_ rfl
  simp only [Tryd.ntmps50, List.size_toArray, List.length_cons, List.length_nil, Nat.reduceAdd, Nat.reduceSub, Array.replicate_succ, Array.replicate_zero, List.push_toArray, List.append_toArray, List.nil_append, List.cons_append]
  gi_wp2_with (refine ⟨trivial, ?_⟩; gi_at_call 61; refine (partsOf_in _ s _).mono ?_; rintro e w' ⟨rfl, rfl⟩)
  have b1 := Boxed.new w 71 (.pointer (some ⟨b0, 0, none⟩))
  have b2 := Boxed.new (w.alloc (.cells #[.pointer (some ⟨b0, 0, none⟩)] 71)) 9 (.string s)
  simp only [World.size_alloc] at b2
  have hB0 : Below w.heap.size w ((w.alloc (.cells #[.pointer (some ⟨b0, 0, none⟩)] 71)).alloc (.cells #[.string s] 9)) := ((Below.refl _ w).alloc (Nat.le_refl _) _).alloc (by simp) _
  refine wpIn_rangeFunc_ownG rfl (by omega) (gf := 69) (lb := #[.pointer (some ⟨w.heap.size + 1, 0, none⟩)]) rfl trivial (enters_of Tryd.func69 (by kernel_rfl) rfl)
    (partsOf_stops _ (by omega) (w.heap.size + 1) 0 s hs _ (by simp) b2.cell) belowK_t (belowK_b (Nat.zero_le _)) (Below.refl _ _) (fun _ => rfl)
    (AtI A F w) (fun _ _ _ => False)
    (AtI.own A F w _ (by simp; omega)) (fun _ _ _ _ _ h => h.elim)
    ⟨by simp, A, b0, h0, HT.out.below hB0, Ext.refl _ _, .of_below hB0, b1.alloc _⟩
    (fun x => { tmps := #[.pointer (some ⟨b0, 0, none⟩), .string s, .pointer (some ⟨w.heap.size, 0, none⟩), undef, .pointer none, .string x, undef, .string s, .func (.func 69) #[] #[.pointer (some ⟨w.heap.size + 1, 0, none⟩)], .string x, undef, undef, undef, undef, undef, undef, undef, undef, undef, undef, undef, undef, undef, undef, undef, undef, undef, undef, undef, undef, undef, undef], defers := [] }) ?assign ?body ?done ?stop
  case assign =>
    intro l x W K hK
    gi_wp2
    exact hK
  case body =>
    rintro l pre x W ⟨hz, A', b, h1, h2, h3, h4, h5⟩ hpl
    have HZ := Lib.hid hz
    clear hz
    have hc0 := h5.cell
    have hf0 := h5.frozen
    cases hx : Pm.nameBB x with
    | false =>
      have hn := fun w => name_no hx w
      have hw : Hid (wd (pre ++ [x]) = wd pre) := by show _ = _; rw [wd_app, hx]; simp
      clear hx
      gi_wp2_with (refine ⟨trivial, ?_⟩; gi_at_call 62; refine (CallsIn.inRound l (callsIn_wide.2 (hn _))).mono ?_; rintro e w' ⟨rfl, rfl⟩)
      exact ⟨(KeepsOthers.refl _).from _, Below.refl _ _, HZ.out, A', b, by rw [hw.out]; exact h1, h2, h3, h4, h5⟩
    | true =>
      have hn := fun w => name_yes hx w
      obtain ⟨c, i, hxc, hi, hc⟩ := name_letter hx
      have hw : Hid (wd (pre ++ [x]) = wd pre ++ [c]) := by show _ = _; rw [wd_app, hx, hxc]; rfl
      have HX := Lib.hid hxc
      have HC := Lib.hid hc
      clear hx hxc hc
      gi_wp2_with (refine ⟨trivial, ?_⟩; gi_at_call 62; refine (CallsIn.inRound l (callsIn_wide.2 (hn _))).mono ?_; rintro e w' ⟨rfl, rfl⟩)
      have hxc := HX.out
      subst hxc
      have hcv : (c.toNat : Int) = 97 + i := by
        rw [HC.out]
        rcases (by omega : i = 0 ∨ i = 1 ∨ i = 2 ∨ i = 3) with rfl | rfl | rfl | rfl <;> rfl
      have hwr : ((((⟨#[c]⟩ : ByteArray)[0]'(by simp [ByteArray.size])).toNat : Int) - 97) % 256 = i := by
        show ((c.toNat : Int) - 97) % 256 = i
        rw [hcv]; omega
      have hi0 : (0 : Int) ≤ i := by omega
      have hi4 : (i : Int) < 4 := by omega
      clear hcv
      refine quiet_round (F := Fence.wide) l rfl (by kernel_rfl) (by kernel_rfl) (by kernel_rfl) ?_
      repeat (gi_big_quiet_step (fail))
      refine wpQuietIn_nil ?_
      rintro _ ⟨nq, rfl⟩
      have h2' : Trie (w'.drewN nq) A' F := h2.kept fun _ _ _ => rfl
      have h4' : Off A w.heap.size w (w'.drewN nq) := h4.trans ⟨rfl, rfl, rfl, Nat.le_refl _, fun _ _ _ => rfl⟩
      have h5' : Boxed (w'.drewN nq) w.heap.size 71 (.pointer (some ⟨b, 0, none⟩)) := h5
      have hz' : w.heap.size + 2 ≤ (w'.drewN nq).heap.size := HZ.out
      clear HZ
      have hk0 : KeepsOthers w' (w'.drewN nq) := ⟨Nat.le_refl _, fun _ _ h _ => h⟩
      have hb0' : Below 0 w' (w'.drewN nq) := ⟨rfl, rfl, rfl, Nat.le_refl _, fun _ _ => rfl⟩
      clear h2 h4 h5 hc0 hf0
      generalize w'.drewN nq = W at h2' h4' h5' hk0 hb0' hz' ⊢
      have HZ := Lib.hid hz'
      clear hz'
      have hbw : b ≠ w.heap.size := fun e => by
        rcases (h3 (wd pre) b).2 h1 with q | q
        · have := HT.out.lt q; omega
        · omega
      have hlp : (wd pre).length < 4 := Nat.lt_of_le_of_lt (wd_len pre) (by omega)
      have hc2 : W.cell? ⟨b, 2 + i, none⟩ = some (ptrTo (A' (wd pre ++ [c]))) := by
        rw [h2'.cell h1, HC.out]
        rcases (by omega : i = 0 ∨ i = 1 ∨ i = 2 ∨ i = 3) with rfl | rfl | rfl | rfl <;> rfl
      have hf2 := h2'.frozen h1 (2 + i)
      have hc0 := h5'.cell
      have hf0 := h5'.frozen
      have H2 := Lib.hid h2'
      have H3 := Lib.hid h3
      have H4 := Lib.hid h4'
      have H5 := Lib.hid h5'
      have HK := Lib.hid hk0
      have HB := Lib.hid hb0'
      have H1 := Lib.hid h1
      clear h1 h2' h3 h4' h5' hk0 hb0' hwr hn
      cases hA : A' (wd pre ++ [c]) with
      | some b' =>
        rw [hA] at hc2
        have HA := Lib.hid hA
        clear hA
        unfold ptrTo at hc2
        simp only [Option.map_some] at hc2
        gi_wp2
        exact ⟨(HK.out.trans (KeepsOthers.setCell _ _ _)).from _, HB.out.setCell (Nat.zero_le _) _, at_found HT.out HZ.out H2.out H3.out H4.out H5.out (by rw [hw.out]; exact HA.out)⟩
      | none =>
        rw [hA] at hc2
        have HA := Lib.hid hA
        clear hA
        unfold ptrTo at hc2
        simp only [Option.map_none] at hc2
        have hbl := H2.out.lt H1.out
        have hnx : (W.alloc (.cells #[.int .i64 0, .int .i64 0, .pointer none, .pointer none, .pointer none, .pointer none] 91)).cell? ⟨b, 2 + i, none⟩ = some (.pointer none) := by
          rw [World.cell?_alloc_old _ _ _ (by simp; omega)]; exact hc2
        gi_upto_region 7 with (fail)
        obtain ⟨W6, hW6⟩ : ∃ W6, W6 = (W.alloc (.cells #[.int .i64 0, .int .i64 0, .pointer none, .pointer none, .pointer none, .pointer none] 91)).setCell ⟨b, 2 + i, none⟩ (.pointer (some ⟨W.heap.size, 0, none⟩)) := ⟨_, rfl⟩
        rw [← World.setCell_alloc_past _ _ _ _ hbl, ← hW6]
        have hc6 : W6.cell? ⟨b, 2 + i, none⟩ = some (.pointer (some ⟨W.heap.size, 0, none⟩)) := by
          rw [hW6]; exact World.cell?_setCell_same _ _ _ hnx
        have q6 : Boxed W6 w.heap.size 71 (.pointer (some ⟨b, 0, none⟩)) := by
          rw [hW6]; exact Boxed.past (H5.out.alloc _) (fun e => hbw e.symm) _ _
        have hc7 := q6.cell
        have hf7 := q6.frozen
        have HW6 := Lib.hid hW6
        clear hW6 q6 hc0 hf0 hc2 hf2 hnx
        gi_wp2
        rw [HW6.out]
        exact ⟨(((HK.out.trans (KeepsOthers.alloc _ _)).trans (KeepsOthers.setCell _ _ _)).trans (KeepsOthers.setCell _ _ _)).from _, ((HB.out.alloc (Nat.zero_le _) _).setCell (Nat.zero_le _) _).setCell (Nat.zero_le _) _,
          at_made HT.out HZ.out H1.out H2.out H3.out H4.out H5.out hi HC.out hlp HA.out hw.out⟩
  case done =>
    rintro D ys W hD rfl ⟨hz, A', b, h1, h2, h3, h4, h5⟩ hK
    have hc0 := h5.cell
    have HZ := Lib.hid hz
    have H1 := Lib.hid (show A' v = some b by rw [← hwd]; exact h1)
    have H2 := Lib.hid h2
    have H3 := Lib.hid h3
    have H4 := Lib.hid h4
    have H5 := Lib.hid h5
    clear h1 h2 h3 h4 h5 hz
    gi_wp2
    refine ⟨by simp, .inl ⟨_, _, rfl, run_takeDeferred hK, ?_⟩⟩
    have hD' : w.heap.size ≤ D := by simp at hD; omega
    have hne : ∀ u c, A' u = some c → c ≠ D := fun u c hc e => by
      have := H2.out.cells u c hc
      rw [e, hK] at this; cases this
    refine ⟨.pointer (some ⟨b, 0, none⟩), by simp [results, Tryd.f50, go_sem], A', b, rfl, H1.out, H2.out.kept (fun u c hc => World.putObj_heap_other (hne u c hc)), fun u c => ⟨(H3.out u c).1, fun e => ?_⟩, H4.out.trans ⟨rfl, rfl, rfl, by simp, fun k hk _ => World.putObj_heap_other (by omega)⟩⟩
    rcases (H3.out u c).2 e with q | q
    · exact .inl q
    · exact .inr (by omega)
  case stop =>
    rintro D c pre W hD hpre hf
    exact hf.elim

theorem at_c (A : List UInt8 → Option Nat) (F : List UInt8 → Int × Int) (v : List UInt8) (hv : Wrd v) (w : World) (hT : Trie w A F) (b0 : Nat) (h0 : A [] = some b0) :
    Calls Tryd.prog 50 #[.pointer (some ⟨b0, 0, none⟩), .string (pB v)] w (AtPost A F v w) := callsIn_wide.1 (at_in A F v hv w hT b0 h0)

end Go.Proofs.YtpjoahddbdmbpaaDoor

/-
  WALKS: impl.treeOf.
-/
namespace Go.Proofs.YtpjoahddbdmbpaaDoor
open Go.RowKit
set_option linter.unusedVariables false

def lastB (a : List Nd) : ByteArray := match a.getLast? with
  | none => rootB
  | some m => m.p

theorem next_iff (a : List Nd) (n : Nd) : Next a n ↔ vpB n.p = true ∧ ltB (lastB a) n.p = true ∧ validB n.k n.v = true ∧ n.k ≠ 0 ∧ (getT a (parB n.p)).1 = 1 := Iff.rfl

/-- What treeOf returns. -/
def RootPost (ns : List Nd) (W : World) (e : Ending) (W' : World) : Prop :=
  Below W.heap.size W W' ∧ ((validT ns = false ∧ e = .returned (.tuple #[.pointer none, .bool false])) ∨
    (validT ns = true ∧ ∃ A b, e = .returned (.tuple #[.pointer (some ⟨b, 0, none⟩), .bool true]) ∧ A [] = some b ∧ Trie W' A (Fof ns) ∧ ∀ u c, A u = some c → W.heap.size ≤ c))

def RootRel (ns : List Nd) (W : World) (l i : Value) (wr : World) : Prop :=
  ∃ (n : Nat) (A : List UInt8 → Option Nat), i = .int .i64 n ∧ n ≤ ns.length ∧ l = .string (lastB (ns.take n)) ∧ Hid (validT (ns.take n) = true) ∧ Hid (Trie wr A (Fof (ns.take n))) ∧ Hid (A [] = some W.heap.size) ∧
    Hid (∀ u c, A u = some c → W.heap.size ≤ c) ∧ Hid (Below W.heap.size W wr)

theorem of_bad {ns : List Nd} {W w' : World} (h : validT ns = false) (hB : Below W.heap.size W w') : RootPost ns W (.returned (.tuple #[.pointer none, .bool false])) w' := ⟨hB, .inl ⟨h, rfl⟩⟩

/-- A node that does not fit. -/
theorem not_next {ns : List Nd} {i : Nat} {n : Nd} (hn : ns[i]? = some n) (hl : ns.length ≤ 10) (hv : validT (ns.take i) = true) (h : ¬ Next (ns.take i) n) : validT ns = false := by
  rw [Bool.eq_false_iff]
  intro hc
  have h2 := valid_pre hc (i + 1)
  have hi := (List.getElem?_eq_some_iff.1 hn).1
  rw [List.take_add_one, hn] at h2
  exact h ((valid_step (by rw [List.length_take]; omega) hv).1 h2)

theorem take_next {ns : List Nd} {i : Nat} {n : Nd} (hn : ns[i]? = some n) : ns.take (i + 1) = ns.take i ++ [n] := by
  rw [List.take_add_one, hn]; rfl

theorem lastB_app (a : List Nd) (n : Nd) : lastB (a ++ [n]) = n.p := by
  unfold lastB; rw [List.getLast?_concat]

theorem leq_of (a b : ByteArray) : (Op.bytesLess a.toList b.toList || a.toList == b.toList) = !ltB b a := by
  cases h : ltB b a with
  | true =>
    have h1 : Op.bytesLess a.toList b.toList = false := ltB_asymm h
    have h2 : (a.toList == b.toList) = false := toList_ne (ltB_ne h).symm
    rw [h1, h2]; rfl
  | false =>
    by_cases h1 : ltB a b = true
    · rw [show Op.bytesLess a.toList b.toList = true from h1]; rfl
    · have e := ltB_tri (show ltB a b = false by simpa using h1) h
      subst e; simp

theorem above_last {a : List Nd} {p : ByteArray} (h : validT a = true) (h2 : ltB (lastB a) p = true) : ltB rootB p = true := by
  obtain ⟨ha, hg, _⟩ := (validT_iff a).1 h
  unfold lastB at h2
  cases hl : a.getLast? with
  | none => rw [hl] at h2; exact h2
  | some l =>
    rw [hl] at h2
    exact ltB_trans (root_lt (hg l (List.mem_of_getLast? hl)).1) h2

theorem box3_cell {w w' : World} {cs : Array Value} {t : TypeId} (hb : Below (w.alloc (.cells cs t)).heap.size (w.alloc (.cells cs t)) w') (i : Nat) : w'.cell? ⟨w.heap.size, i, none⟩ = cs[i]? := by
  rw [hb.cell (p := ⟨w.heap.size, i, none⟩) (by simp)]
  rw [World.cell?_alloc_new]

theorem off_cell {A : List UInt8 → Option Nat} {W W' : World} (h : Off A W.heap.size W W') {B : Nat} (hB : B < W.heap.size) (hA : ∀ u c, A u = some c → c < B) (i : Nat) : W'.cell? ⟨B, i, none⟩ = W.cell? ⟨B, i, none⟩ := by
  have := h.block B hB (fun u e => by have := hA u B e; omega)
  unfold World.cell?
  rw [this]

theorem ext_from {A A' : List UInt8 → Option Nat} {n m : Nat} (h : Ext A A' n) (hm : m ≤ n) (hA : ∀ u c, A u = some c → m ≤ c) : ∀ u c, A' u = some c → m ≤ c := fun u c e => by
  rcases (h u c).2 e with q | q
  · exact hA u c q
  · omega

/-- A box that no place is in. -/
def Away (A : List UInt8 → Option Nat) (B : Nat) : Prop := ∀ u, A u ≠ some B

theorem ext_box {A A' : List UInt8 → Option Nat} {n B : Nat} (h : Ext A A' n) (hB : B < n) (hA : ∀ u c, A u = some c → c < B) : Away A' B := fun u e => by
  rcases (h u B).2 e with q | q
  · have := hA u B q; omega
  · omega

theorem ext_away {A A' : List UInt8 → Option Nat} {n B : Nat} (h : Ext A A' n) (hB : B < n) (hA : Away A B) : Away A' B := fun u e => by
  rcases (h u B).2 e with q | q
  · exact hA u q
  · omega

theorem off_cell2 {A : List UInt8 → Option Nat} {W W' : World} (h : Off A W.heap.size W W') {B : Nat} (hB : B < W.heap.size) (hA : Away A B) (i : Nat) : W'.cell? ⟨B, i, none⟩ = W.cell? ⟨B, i, none⟩ := by
  have := h.block B hB hA
  unfold World.cell?
  rw [this]

theorem past2 {W : World} {B b : Nat} (h : B ≠ b) {x y : Value} {i : Nat} : ((W.setCell ⟨b, 0, none⟩ x).setCell ⟨b, 1, none⟩ y).cell? ⟨B, i, none⟩ = W.cell? ⟨B, i, none⟩ := by
  rw [World.cell?_setCell_other _ _ _ _ (fun e => h (congrArg Addr.block e).symm), World.cell?_setCell_other _ _ _ _ (fun e => h (congrArg Addr.block e).symm)]

/-- A node more: the tree, and its places. -/
theorem of_step {ns : List Nd} {i : Nat} {p : ByteArray} {k v : Int} (hn : ns[i]? = some ⟨p, k, v⟩) (hv : validT (ns.take i) = true) {w : List UInt8} (hw : Wrd w) (hne : w ≠ []) (hp : p = pB w) (hl : ltB (lastB (ns.take i)) p = true)
    (hc : validB k v = true) (hk : k ≠ 0) (hpar : (Fof (ns.take i) w.dropLast).1 = 1) (h10 : ns.length ≤ 10) {A : List UInt8 → Option Nat} {W : World} {b : Nat} (hT : Trie W A (Fof (ns.take i))) (hb : A w = some b) :
    validT (ns.take (i + 1)) = true ∧ Trie ((W.setCell ⟨b, 0, none⟩ (.int .i64 k)).setCell ⟨b, 1, none⟩ (.int .i64 v)) A (Fof (ns.take (i + 1))) := by
  have hi := (List.getElem?_eq_some_iff.1 hn).1
  have hN : Next (ns.take i) ⟨p, k, v⟩ := (next_iff _ _).2 ⟨by show vpB p = true; rw [hp]; exact vpB_pB hw, hl, hc, hk, by
    show (getT (ns.take i) (parB p)).1 = 1
    rw [hp, parB_pB hw hne]; exact hpar⟩
  have hA := (next_above hv hN).1
  rw [take_next hn]
  refine ⟨(valid_step (by rw [List.length_take]; omega) hv).2 hN, (hT.write hb k v).congr fun u hu => ?_⟩
  exact (Fof_app (n := ⟨p, k, v⟩) hw hne hp (fun m hm => ltB_ne (hA m hm)) hu).symm

set_option maxHeartbeats 4000000 in
set_option maxRecDepth 100000 in
theorem treeOf_c (a : Option Addr) (len cap : Nat) (ns : List Nd) (hl : len ≤ 2097152) (hs : Short 2097152 ns) (W : World) (hN : NodesAt W a len ns) :
    Calls Tryd.prog 34 #[.slice a len cap] W (RootPost ns W) := by
  have HE := Lib.hid hN.1
  have HN := Lib.hid hN
  have HS := Lib.hid hs
  clear hN hs
  by_cases h10 : 10 < len
  · have hbad := Lib.hid (show validT ns = false by
      rw [Bool.eq_false_iff]; intro h
      have := ((validT_iff ns).1 h).2.2
      have := HE.out; omega)
    have h10' : (10 : Int) < len := by omega
    clear h10
    go_enter Tryd.func34, Tryd.ntmps34
    go_wp2
    refine bodyPost_ret (v := .tuple #[.pointer none, .bool false]) (by simp [results, Tryd.f34, go_sem]) rfl (of_bad hbad.out (Below.refl _ _))
  · have h10' : (len : Int) ≤ 10 := by omega
    have HL := Lib.hid (show len ≤ 10 by omega)
    clear h10
    go_enter Tryd.func34, Tryd.ntmps34
    go_wp2
    go_loopw [5, 16] (fun l i wr => RootRel ns W l i wr) (fun _ i _ => len - (intOf i).toNat)
    case atStart =>
      refine ⟨0, fun w => if w = [] then some W.heap.size else none, rfl, by omega, rfl, (show validT [] = true by decide), Trie.new W, if_pos rfl, fun u c hc => ?_, below_box _ _⟩
      simp at hc; omega
    case round =>
      obtain ⟨i, A, rfl, hi, rfl, HV, HT, HA0, HA, HB⟩ := hrel
      by_cases hlt : i < len
      · obtain ⟨b, off, n, rfl, hn, c0, c1, c2⟩ := (HN.out.keep HB.out).node hlt
        have hlt' : (i : Int) < len := by omega
        have HLT := Lib.hid hlt
        have HNN := Lib.hid hn
        have hsz := HS.out n (List.mem_of_getElem? hn)
        have HP := Lib.hid (fun W1 => pathValid_c n.p (by omega) W1)
        obtain ⟨vp, hvp⟩ : ∃ vp, vpB n.p = vp := ⟨_, rfl⟩
        have HP := Lib.hid (fun W1 => show Calls Tryd.prog 49 #[.string n.p] W1 (BoolPost vp W1) by rw [← hvp]; exact pathValid_c n.p (by omega) W1)
        have HVP := Lib.hid hvp
        obtain ⟨lb, hlb⟩ : ∃ lb, lastB (ns.take i) = lb := ⟨_, rfl⟩
        rw [hlb]
        have HLB := Lib.hid hlb
        have HSZ := Lib.hid hsz
        obtain ⟨p, k, v⟩ := n
        clear hlt hn hi hsz hvp hlb
        simp only at HP HVP HSZ c0 c1 c2
        go_wp2_with fail
        refine (HP.out _).mono ?_
        rintro e W2 ⟨rfl, hb2⟩
        have q0 := box3_cell hb2 0
        have q1 := box3_cell hb2 1
        have q2 := box3_cell hb2 2
        simp at q0 q1 q2
        have HB2 := Lib.hid (below_next HB.out (below_next (below_box _ _) hb2))
        have HT2 := Lib.hid ((HT.out.below (below_box _ _)).below hb2)
        have hN2 : wr.heap.size < W2.heap.size := by have := hb2.size; simp at this; omega
        have HAN := Lib.hid (show ∀ u c, A u = some c → c < wr.heap.size from fun u c h => HT.out.lt h)
        clear c0 c1 c2 hb2
        cases vp with
        | false =>
          go_wp2
          refine bodyPost_ret (v := .tuple #[.pointer none, .bool false]) (by simp [results, Tryd.f34, go_sem]) rfl (of_bad (not_next HNN.out (by have := HE.out; have := HL.out; omega) HV.out (fun h => ?_)) HB2.out)
          have := h.1
          rw [show vpB p = false from HVP.out] at this; cases this
        | true =>
          obtain ⟨lq, hlq⟩ : ∃ lq, ltB lb p = lq := ⟨_, rfl⟩
          have hle := leq_of p lb
          rw [hlq] at hle
          have HLQ := Lib.hid hlq
          have HVC := Lib.hid (fun W1 => implValid_c k v W1)
          obtain ⟨vb, hvb⟩ : ∃ vb, validB k v = vb := ⟨_, rfl⟩
          rw [hvb] at HVC
          have HVB := Lib.hid hvb
          clear hlq hvb
          cases lq with
          | false =>
            go_wp2
            refine bodyPost_ret (v := .tuple #[.pointer none, .bool false]) (by simp [results, Tryd.f34, go_sem]) rfl (of_bad (not_next HNN.out (by have := HE.out; have := HL.out; omega) HV.out (fun h => ?_)) HB2.out)
            have := ((next_iff _ _).1 h).2.1
            rw [HLB.out, show ltB lb p = false from HLQ.out] at this; cases this
          | true =>
            go_wp2_with fail
            refine (HVC.out _).mono ?_
            rintro e W3 ⟨rfl, hb3⟩
            have r0 := cell_kept hb3 q0
            have r1 := cell_kept hb3 q1
            have r2 := cell_kept hb3 q2
            have HB3 := Lib.hid (below_next HB2.out hb3)
            have HT3 := Lib.hid (HT2.out.below hb3)
            have hN3 : wr.heap.size < W3.heap.size := by have := hb3.size; omega
            clear q0 q1 q2 hb3
            cases vb with
            | false =>
              go_wp2
              refine bodyPost_ret (v := .tuple #[.pointer none, .bool false]) (by simp [results, Tryd.f34, go_sem]) rfl (of_bad (not_next HNN.out (by have := HE.out; have := HL.out; omega) HV.out (fun h => ?_)) HB3.out)
              have := ((next_iff _ _).1 h).2.2.1
              rw [show validB k v = false from HVB.out] at this; cases this
            | true =>
              by_cases hk0 : k = 0
              · have hkb : (k == 0) = true := by rw [hk0]; rfl
                have HK0 := Lib.hid hk0
                clear hk0
                go_wp2
                refine bodyPost_ret (v := .tuple #[.pointer none, .bool false]) (by simp [results, Tryd.f34, go_sem]) rfl (of_bad (not_next HNN.out (by have := HE.out; have := HL.out; omega) HV.out (fun h => ?_)) HB3.out)
                exact ((next_iff _ _).1 h).2.2.2.1 HK0.out
              · have hkb : (k == 0) = false := by simpa using hk0
                have HK0 := Lib.hid hk0
                clear hk0
                obtain ⟨w, hw, hpw⟩ := vpB_word HVP.out
                have hne : w ≠ [] := by
                  rintro rfl
                  have hx := above_last HV.out (by rw [HLB.out]; exact HLQ.out)
                  rw [hpw, pB_root, ltB_irrefl] at hx; cases hx
                have HW := Lib.hid hw
                have HPW := Lib.hid hpw
                have HNE := Lib.hid hne
                have hpar : parentB p = pB w.dropLast := by rw [hpw]; exact parB_pB hw hne
                have HPP := Lib.hid (fun W1 => show Calls Tryd.prog 51 #[.string p] W1 (fun e w' => e = .returned (.string (pB w.dropLast)) ∧ Below W1.heap.size W1 w') by rw [← hpar]; exact pathParent_c p HSZ.out W1)
                clear hpar hw hpw hne
                go_wp2_with fail
                refine (HPP.out _).mono ?_
                rintro e W4 ⟨rfl, hb4⟩
                have s0 := cell_kept hb4 r0
                have s1 := cell_kept hb4 r1
                have s2 := cell_kept hb4 r2
                have HB4 := Lib.hid (below_next HB3.out hb4)
                have HT4 := Lib.hid (HT3.out.below hb4)
                have hN4 : wr.heap.size < W4.heap.size := by have := hb4.size; omega
                clear r0 r1 r2 hb4
                go_wp2_with fail
                refine (at_c A _ _ HW.out.dropLast _ HT4.out _ HA0.out).mono ?_
                rintro e W5 ⟨A5, b5, rfl, hb5, hT5, hX5, hO5⟩
                have hoff5 := hO5
                have u0 : W5.cell? ⟨wr.heap.size, 0, none⟩ = some (.string p) := (off_cell hO5 hN4 HAN.out 0).trans s0
                have u1 : W5.cell? ⟨wr.heap.size, 1, none⟩ = some (.int .i64 k) := (off_cell hO5 hN4 HAN.out 1).trans s1
                have u2 : W5.cell? ⟨wr.heap.size, 2, none⟩ = some (.int .i64 v) := (off_cell hO5 hN4 HAN.out 2).trans s2
                have HB5 := Lib.hid (HB4.out.trans (hO5.below HB4.out.size HA.out))
                have HA5 := Lib.hid (ext_from hX5 HB4.out.size HA.out)
                have HAN5 := Lib.hid (ext_box hX5 (show wr.heap.size < W4.heap.size from hN4) HAN.out)
                have HR5 := Lib.hid ((hX5 [] _).1 HA0.out)
                have HT5 := Lib.hid hT5
                have t0 := hT5.cell hb5 0
                have hN5 : wr.heap.size < W5.heap.size := by have := hO5.size; omega
                have HB5' := Lib.hid hb5
                obtain ⟨k5, hk5⟩ : ∃ k5, k5 = (Fof (ns.take i) w.dropLast).1 := ⟨_, rfl⟩
                have t0' : W5.cell? ⟨b5, 0, none⟩ = some (.int .i64 k5) := by rw [hk5]; exact t0
                have HK5 := Lib.hid hk5
                clear s0 s1 s2 hO5 hoff5 hX5 hT5 t0 hb5 hk5
                by_cases h1 : k5 = 1
                · have hkb1 : (k5 == 1) = true := by rw [h1]; rfl
                  have H1 := Lib.hid h1
                  clear h1
                  go_upto_region 14 with (fail)
                  have HS0 := Lib.hid (show W5.drew.cell? ⟨wr.heap.size, 0, none⟩ = some (.string p) ∧ W5.drew.cell? ⟨wr.heap.size, 1, none⟩ = some (.int .i64 k) ∧ W5.drew.cell? ⟨wr.heap.size, 2, none⟩ = some (.int .i64 v) from ⟨u0, u1, u2⟩)
                  have HAT := Lib.hid (show Calls Tryd.prog 50 #[.pointer (some ⟨W.heap.size, 0, none⟩), .string p] W5.drew (AtPost A5 (Fof (ns.take i)) w W5.drew) by
                    rw [HPW.out]; exact at_c A5 _ w HW.out W5.drew (HT5.out.kept (W' := W5.drew) fun _ _ _ => rfl) _ HR5.out)
                  refine wp_region_held_drew (S := (fun w' => w'.cell? ⟨wr.heap.size, 0, none⟩ = some (.string p) ∧ w'.cell? ⟨wr.heap.size, 1, none⟩ = some (.int .i64 k) ∧ w'.cell? ⟨wr.heap.size, 2, none⟩ = some (.int .i64 v))) (by kernel_rfl) HS0.out (fun hH => ?_)
                  refine wpAnyH_take (i := 0) (oi := _) (v := ?_) rfl (by kernel_rfl) (by kernel_rfl) (by kernel_rfl) (fun _ _ _ h => h) (Or.inl ⟨by rfl, ?_⟩) (by assumption) ?_
                  rotate_left
                  · (intro w hSw; (try dsimp only at hSw); go_simp; try with_reducible rfl)
                  try simp only [Act.put, List.getElem_toArray, List.getElem_cons_zero, List.setIfInBounds_toArray, List.set_cons_zero, List.set_cons_succ]
                  refine wpAnyH_take (i := 1) (oi := _) (v := ?_) rfl (by kernel_rfl) (by kernel_rfl) (by kernel_rfl) (fun _ _ _ h => h) (Or.inl ⟨by rfl, ?_⟩) (by assumption) ?_
                  rotate_left
                  · (intro w hSw; (try dsimp only at hSw); go_simp; try with_reducible rfl)
                  try simp only [Act.put, List.getElem_toArray, List.getElem_cons_zero, List.getElem_cons_succ, List.setIfInBounds_toArray, List.set_cons_zero, List.set_cons_succ]
                  refine wpAnyH_take (i := 2) (oi := _) (v := ?_) rfl (by kernel_rfl) (by kernel_rfl) (by kernel_rfl) (fun _ _ _ h => h) (Or.inl ⟨by rfl, ?_⟩) (by assumption) ?_
                  rotate_left
                  · (intro w hSw; (try dsimp only at hSw); go_simp; try with_reducible rfl)
                  try simp only [Act.put, List.getElem_toArray, List.getElem_cons_zero, List.getElem_cons_succ, List.setIfInBounds_toArray, List.set_cons_zero, List.set_cons_succ]
                  refine wpAnyH_take (i := 4) (oi := _) (v := ?_) rfl (by kernel_rfl) (by kernel_rfl) (by kernel_rfl) (fun _ _ _ h => h) (Or.inl ⟨by rfl, ?_⟩) (by assumption) ?_
                  rotate_left
                  · (intro w hSw; (try dsimp only at hSw); go_simp; try with_reducible rfl)
                  try simp only [Act.put, List.getElem_toArray, List.getElem_cons_zero, List.getElem_cons_succ, List.setIfInBounds_toArray, List.set_cons_zero, List.set_cons_succ]
                  refine wpAnyH_take (i := 5) (oi := _) (v := ?_) rfl (by kernel_rfl) (by kernel_rfl) (by kernel_rfl) (fun _ _ _ h => h) (Or.inl ⟨by rfl, ?_⟩) (by assumption) ?_
                  rotate_left
                  · (intro w hSw; (try dsimp only at hSw); go_simp; try with_reducible rfl)
                  try simp only [Act.put, List.getElem_toArray, List.getElem_cons_zero, List.getElem_cons_succ, List.setIfInBounds_toArray, List.set_cons_zero, List.set_cons_succ]
                  refine wpAnyH_ready (rs := [3]) (by kernel_rfl) (by simp) ?_
                  refine AllReadyH.cons rfl (fun K hK => ?_) (AllReadyH.nil)
                  go_simp
                  go_at_call 50; (with_reducible refine (HAT.out).mono ?_); rintro e W6 ⟨A6, b6, rfl, hb6, hT6, hX6, hO6⟩
                  refine hK.out _ _ ⟨(off_cell2 hO6 hN5 HAN5.out 0).trans u0, (off_cell2 hO6 hN5 HAN5.out 1).trans u1, (off_cell2 hO6 hN5 HAN5.out 2).trans u2⟩ (fun hHeld => ?_)
                  try simp only [Act.put, List.getElem_toArray, List.getElem_cons_zero, List.getElem_cons_succ, List.setIfInBounds_toArray, List.set_cons_zero, List.set_cons_succ]
                  have f60 := hT6.frozen hb6 0
                  have f61 := hT6.frozen hb6 1
                  have c60 := hT6.cell hb6 0
                  have c61 := hT6.cell hb6 1
                  simp only [plc, List.getElem?_toArray, List.getElem?_cons_zero, List.getElem?_cons_succ] at c60 c61
                  refine wpAnyH_take (i := 6) (oi := _) (v := ?_) rfl (by kernel_rfl) (by kernel_rfl) (by kernel_rfl) (fun _ _ _ h => h) (Or.inl ⟨by rfl, ?_⟩) (by assumption) ?_
                  rotate_left
                  · (intro w hSw; (try dsimp only at hSw); go_simp; try with_reducible rfl)
                  try simp only [Act.put, List.getElem_toArray, List.getElem_cons_zero, List.getElem_cons_succ, List.setIfInBounds_toArray, List.set_cons_zero, List.set_cons_succ]
                  refine wpAnyH_take (i := 7) (oi := _) (v := ?_) rfl (by kernel_rfl) (by kernel_rfl) (by kernel_rfl) (fun _ _ _ h => h) (Or.inl ⟨by rfl, ?_⟩) (by assumption) ?_
                  rotate_left
                  · (intro w hSw; (try dsimp only at hSw); go_simp; try with_reducible rfl)
                  try simp only [Act.put, List.getElem_toArray, List.getElem_cons_zero, List.getElem_cons_succ, List.setIfInBounds_toArray, List.set_cons_zero, List.set_cons_succ]
                  refine wpAnyH_ready (rs := [8]) (by kernel_rfl) (by simp) ?_
                  refine AllReadyH.cons rfl (fun K hK => ?_) (AllReadyH.nil)
                  go_simp
                  have hAw6 := ext_away hX6 (show wr.heap.size < W5.drew.heap.size from hN5) HAN5.out
                  have hnb : wr.heap.size ≠ b6 := fun e => hAw6 w (by rw [e]; exact hb6)
                  have HEND := Lib.hid (of_step (k := k) (v := v) HNN.out HV.out HW.out HNE.out HPW.out (by rw [HLB.out]; exact HLQ.out) HVB.out HK0.out (by have h7 := HK5.out; rw [H1.out] at h7; exact h7.symm) (by have := HE.out; have := HL.out; omega) hT6 hb6)
                  have HB6 := Lib.hid (show Below W.heap.size W ((W6.setCell ⟨b6, 0, none⟩ (.int .i64 k)).setCell ⟨b6, 1, none⟩ (.int .i64 v)) from
                    ((HB5.out.trans (show Below W.heap.size W5 W6 from ⟨hO6.os, hO6.tape, hO6.output, hO6.size, fun j hj => hO6.block j (by have := HB5.out.size; show j < W5.heap.size; omega) fun u e => by have := HA5.out u j e; omega⟩)).setCell (ext_from hX6 (show W.heap.size ≤ W5.drew.heap.size from HB5.out.size) HA5.out w b6 hb6) _).setCell (ext_from hX6 (show W.heap.size ≤ W5.drew.heap.size from HB5.out.size) HA5.out w b6 hb6) _)
                  have HA6 := Lib.hid (ext_from hX6 (show W.heap.size ≤ W5.drew.heap.size from HB5.out.size) HA5.out)
                  have HR6 := Lib.hid ((hX6 [] _).1 HR5.out)
                  have z0 : ((W6.setCell ⟨b6, 0, none⟩ (.int .i64 k)).setCell ⟨b6, 1, none⟩ (.int .i64 v)).cell? ⟨wr.heap.size, 0, none⟩ = some (.string p) := (past2 hnb).trans ((off_cell2 hO6 hN5 HAN5.out 0).trans u0)
                  refine hK.out _ _ ⟨z0, (past2 hnb).trans ((off_cell2 hO6 hN5 HAN5.out 1).trans u1), (past2 hnb).trans ((off_cell2 hO6 hN5 HAN5.out 2).trans u2)⟩ (fun hHeld => ?_)
                  try simp only [Act.put, List.getElem_toArray, List.getElem_cons_zero, List.getElem_cons_succ, List.setIfInBounds_toArray, List.set_cons_zero, List.set_cons_succ]
                  refine wpAnyH_done (by kernel_rfl) ?_ _
                  clear hK hO6 hX6 hT6 hb6 f60 f61 c60 c61 u0 u1 u2 t0'
                  generalize (W6.setCell ⟨b6, 0, none⟩ (.int .i64 k)).setCell ⟨b6, 1, none⟩ (.int .i64 v) = W7 at HEND HB6 z0 ⊢
                  go_wp2
                  go_roundw
                  case rel => exact ⟨i + 1, A6, by go_num, by have := HE.out; have := HLT.out; omega, by rw [take_next HNN.out, lastB_app], HEND.out.1, HEND.out.2, HR6.out, HA6.out, HB6.out⟩
                  case measure => have := HLT.out; simp [intOf]; omega
                · have hkb1 : (k5 == 1) = false := by simpa using h1
                  have H1 := Lib.hid h1
                  clear h1
                  go_wp2
                  refine bodyPost_ret (v := .tuple #[.pointer none, .bool false]) (by simp [results, Tryd.f34, go_sem]) rfl (of_bad (not_next HNN.out (by have := HE.out; have := HL.out; omega) HV.out (fun h => ?_)) HB5.out)
                  have := ((next_iff _ _).1 h).2.2.2.2
                  rw [show (⟨p, k, v⟩ : Nd).p = p from rfl, HPW.out, parB_pB HW.out HNE.out] at this
                  exact H1.out (HK5.out.trans this)
      · have hge : (len : Int) ≤ i := by omega
        have hieq : i = len := by have := HE.out; omega
        have htk : ns.take i = ns := List.take_of_length_le (by have := HE.out; omega)
        rw [htk] at HV HT
        go_wp2
        refine bodyPost_ret (v := .tuple #[.pointer (some ⟨W.heap.size, 0, none⟩), .bool true]) (by simp [results, Tryd.f34, go_sem]) rfl ⟨HB.out, .inr ⟨HV.out, A, W.heap.size, rfl, HA0.out, HT.out, HA.out⟩⟩

end Go.Proofs.YtpjoahddbdmbpaaDoor

/-
  WALKS: impl.TreeValid, impl.TreeGet.
-/
namespace Go.Proofs.YtpjoahddbdmbpaaDoor
open Go.RowKit
set_option linter.unusedVariables false

set_option maxHeartbeats 1000000 in
set_option maxRecDepth 100000 in
theorem implTreeValid_c (a : Option Addr) (len cap : Nat) (ns : List Nd) (hl : len ≤ 2097152) (hs : Short 2097152 ns) (W : World) (hN : NodesAt W a len ns) :
    Calls Tryd.prog 19 #[.slice a len cap] W (BoolPost (validT ns) W) := by
  have H := Lib.hid (treeOf_c a len cap ns hl hs W hN)
  clear hN hs
  go_enter Tryd.func19, Tryd.ntmps19
  go_wp2_with fail
  refine H.out.mono ?_
  rintro e W2 ⟨hB, ⟨hv, rfl⟩ | ⟨hv, A, b, rfl, _, _, _⟩⟩
  · have HV := Lib.hid hv
    clear hv
    go_wp2
    go_ret
    exact ⟨ret_bool HV.out.symm, hB⟩
  · have HV := Lib.hid hv
    clear hv
    go_wp2
    go_ret
    exact ⟨ret_bool HV.out.symm, hB⟩

theorem treeGet_bad {ns : List Nd} {p : ByteArray} (h : validT ns = false ∨ vpB p = false) : treeGet ns p = (0, 0) := by
  unfold treeGet
  rcases h with h | h <;> simp [h]

set_option maxHeartbeats 2000000 in
set_option maxRecDepth 100000 in
theorem implTreeGet_c (a : Option Addr) (len cap : Nat) (ns : List Nd) (p : ByteArray) (hl : len ≤ 2097152) (hs : Short 2097152 ns) (hp : p.size ≤ 2097152) (W : World) (hN : NodesAt W a len ns) :
    Calls Tryd.prog 52 #[.slice a len cap, .string p] W (ConRet (treeGet ns p).1 (treeGet ns p).2 W) := by
  have H := Lib.hid (fun W1 (hb : Below W.heap.size W W1) => treeOf_c a len cap ns hl hs W1 (hN.keep hb))
  have HS := Lib.hid hs
  have HN := Lib.hid hN
  obtain ⟨vp, hvp⟩ : ∃ vp, vpB p = vp := ⟨_, rfl⟩
  have HP := Lib.hid (fun W1 => show Calls Tryd.prog 49 #[.string p] W1 (BoolPost vp W1) by rw [← hvp]; exact pathValid_c p (by omega) W1)
  have HVP := Lib.hid hvp
  clear hN hs hvp
  go_enter Tryd.func52, Tryd.ntmps52
  go_wp2_with fail
  refine (H.out _ (below_box _ _)).mono ?_
  rintro e W2 ⟨hB, h⟩
  rcases h with ⟨hv, rfl⟩ | ⟨hv, A, b, rfl, hA0, hT, hA⟩
  · have HG := Lib.hid (treeGet_bad (p := p) (.inl hv))
    have T1 := Lib.hid ((two_new W _ _ _).below hB)
    have B1 := Lib.hid (below_next (below_box W _) hB)
    obtain ⟨g0, g1, f0, f1, -⟩ := T1.out
    clear hv hB
    go_wp2
    exact conS_set 4 _ rfl HG.out T1.out B1.out rfl
  · have HV := Lib.hid hv
    have HB1 := Lib.hid hB
    have HT := Lib.hid hT
    have HA := Lib.hid hA
    have HA0 := Lib.hid hA0
    clear hv hB hT hA hA0
    go_wp2_with fail
    refine (HP.out _).mono ?_
    rintro e W3 ⟨rfl, hb3⟩
    cases vp with
    | false =>
      have HG := Lib.hid (treeGet_bad (ns := ns) (p := p) (.inr HVP.out))
      have T1 := Lib.hid (((two_new W _ _ _).below HB1.out).below hb3)
      have B1 := Lib.hid (below_next (below_box W _) (below_next HB1.out hb3))
      obtain ⟨g0, g1, f0, f1, -⟩ := T1.out
      clear hb3
      go_wp2
      exact conS_set 4 _ rfl HG.out T1.out B1.out rfl
    | true =>
      obtain ⟨w, hw, hpw⟩ := vpB_word HVP.out
      have HG := Lib.hid (show treeGet ns p = ((Fof ns w).1, (Fof ns w).2) by rw [treeGet_eq HV.out HVP.out, hpw]; rfl)
      have HB3 := Lib.hid (below_next HB1.out hb3)
      have HAT := Lib.hid (show Calls Tryd.prog 50 #[.pointer (some ⟨b, 0, none⟩), .string p] W3 (AtPost A (Fof ns) w W3) by
        rw [hpw]; exact at_c A _ w hw W3 (HT.out.below hb3) _ HA0.out)
      clear hb3 hw hpw
      go_wp2_with fail
      refine HAT.out.mono ?_
      rintro e W4 ⟨A4, b4, rfl, hb4, hT4, hX4, hO4⟩
      have HB4 := Lib.hid (HB3.out.trans (hO4.below (m := (W.alloc (.cells #[.int .i64 0, .int .i64 0] 29)).heap.size) HB3.out.size HA.out))
      have T1 := Lib.hid ((two_new W _ _ _).below HB4.out)
      have B1 := Lib.hid (below_next (below_box W _) HB4.out)
      obtain ⟨g0, g1, f0, f1, -⟩ := T1.out
      have c0 := hT4.cell hb4 0
      have c1 := hT4.cell hb4 1
      have c0' : W4.cell? ⟨b4, 0, none⟩ = some (.int .i64 (Fof ns w).1) := c0
      have c1' : W4.cell? ⟨b4, 1, none⟩ = some (.int .i64 (Fof ns w).2) := c1
      clear hO4 hX4 hT4 hb4 c0 c1
      generalize (Fof ns w).1 = k at c0' HG
      generalize (Fof ns w).2 = v at c1' HG
      go_wp2
      exact conS_set 4 _ rfl HG.out T1.out B1.out rfl

end Go.Proofs.YtpjoahddbdmbpaaDoor

/-
  TEXTS OF PLACES: what stands ahead of a name (strings.TrimSuffix of a slash, and a slash).
-/
namespace Go.Proofs.YtpjoahddbdmbpaaDoor
open Go.RowKit

def begB (v : List UInt8) : ByteArray := if v = [] then ⟨#[47]⟩ else pB v ++ ⟨#[47]⟩

theorem begB_name (v : List UInt8) (c : UInt8) : begB v ++ ⟨#[c]⟩ = pB (v ++ [c]) := by
  unfold begB
  by_cases h : v = []
  · rw [if_pos h, h]; rfl
  · rw [if_neg h]
    apply ByteArray.ext
    apply Array.ext'
    simp only [ByteArray.data_append, Array.toList_append]
    rw [pB_list, pB_list]
    unfold Pm.pathOf
    rw [if_neg h, if_neg (by simp), Pm.flat_append, List.append_assoc]
    rfl

theorem pB_last {v : List UInt8} (hv : Wrd v) (hn : v ≠ []) : ∃ m c, (pB v).size = m + 1 ∧ ((pB v).extract m (m + 1)).toList = [c] ∧ c ≠ 47 := by
  have e := Pm.flat_last v hn
  have hs : (pB v).data.toList = Pm.flat v.dropLast ++ [47, v.getLast hn] := by
    rw [pB_list]; unfold Pm.pathOf; rw [if_neg hn]; exact e
  have hz : (pB v).size = (Pm.flat v.dropLast ++ [47, v.getLast hn]).length := by rw [← hs]; rfl
  refine ⟨(Pm.flat v.dropLast).length + 1, v.getLast hn, by rw [hz]; simp, ?_, Pm.letter_not_47 (hv.2 _ (List.getLast_mem hn))⟩
  rw [Lib.toList_data, ByteArray.data_extract, Array.toList_extract, hs]
  simp [List.extract_eq_take_drop]

set_option maxHeartbeats 400000 in
set_option maxRecDepth 100000 in
theorem hasSuffix_word {v : List UInt8} (hv : Wrd v) (hn : v ≠ []) (w : World) :
    Calls Tryd.prog 78 #[.string (pB v), .string ⟨#[47]⟩] w fun e w' => e = .returned (.bool false) ∧ w' = w := by
  obtain ⟨m, c, h1, h2, h3⟩ := pB_last hv hn
  have hmax : m ≤ 7 := by
    have : (pB v).size ≤ 8 := by
      show (Pm.pathOf v).length ≤ 8
      unfold Pm.pathOf; rw [if_neg hn, Pm.flat_length]; have := hv.1; omega
    omega
  obtain ⟨s, hs⟩ : ∃ s, s = pB v := ⟨_, rfl⟩
  rw [← hs] at h1 h2 ⊢
  clear hs
  have e1 : ((m : Int) + 1 - 1).toNat = m := by omega
  have e2 : (c == 47) = false := by simpa using h3
  have e3 : (1 : Int) ≤ m + 1 := by omega
  clear h3
  go_enter Tryd.func78, Tryd.ntmps78
  go_wp2
  go_ret
  exact ⟨rfl, rfl⟩

set_option maxHeartbeats 400000 in
set_option maxRecDepth 100000 in
theorem hasSuffix_root (w : World) :
    Calls Tryd.prog 78 #[.string ⟨#[47]⟩, .string ⟨#[47]⟩] w fun e w' => e = .returned (.bool true) ∧ w' = w := by
  have h : (((⟨#[47]⟩ : ByteArray).extract 0 1).toList == [47]) = true := by rw [Lib.toList_data]; rfl
  go_enter Tryd.func78, Tryd.ntmps78
  go_wp2
  go_ret
  exact ⟨rfl, rfl⟩

set_option maxHeartbeats 400000 in
set_option maxRecDepth 100000 in
theorem slTrim_c {v : List UInt8} (hv : Wrd v) (w : World) :
    Calls Tryd.prog 76 #[.string (pB v), .string ⟨#[47]⟩] w fun e w' => e = .returned (.string (if v = [] then ⟨#[]⟩ else pB v)) ∧ w' = w := by
  by_cases hn : v = []
  · subst hn
    rw [if_pos rfl]
    have hc := fun w => hasSuffix_root w
    show Calls Tryd.prog 76 #[.string ⟨#[47]⟩, .string ⟨#[47]⟩] w _
    go_enter Tryd.func76, Tryd.ntmps76
    go_wp2_with (go_at_call 78; refine (hc _).mono ?_; rintro e w' ⟨rfl, rfl⟩)
    go_ret
    exact ⟨rfl, rfl⟩
  · rw [if_neg hn]
    have hc := fun w => hasSuffix_word hv hn w
    generalize pB v = s at hc ⊢
    go_enter Tryd.func76, Tryd.ntmps76
    go_wp2_with (go_at_call 78; refine (hc _).mono ?_; rintro e w' ⟨rfl, rfl⟩)
    go_ret
    exact ⟨rfl, rfl⟩

set_option maxHeartbeats 400000 in
set_option maxRecDepth 100000 in
theorem trim_c {v : List UInt8} (hv : Wrd v) (w : World) :
    Calls Tryd.prog 73 #[.string (pB v), .string ⟨#[47]⟩] w fun e w' => e = .returned (.string (if v = [] then ⟨#[]⟩ else pB v)) ∧ w' = w := by
  have hc := fun w => slTrim_c hv w
  generalize pB v = s at hc ⊢
  generalize (if v = [] then (⟨#[]⟩ : ByteArray) else s) = t at hc ⊢
  go_enter Tryd.func73, Tryd.ntmps73
  go_wp2_with (go_at_call 76; refine (hc _).mono ?_; rintro e w' ⟨rfl, rfl⟩)
  go_ret
  exact ⟨rfl, rfl⟩

theorem beg_eq (v : List UInt8) : (if v = [] then (⟨#[]⟩ : ByteArray) else pB v) ++ ⟨#[47]⟩ = begB v := by
  unfold begB; split <;> rfl

end Go.Proofs.YtpjoahddbdmbpaaDoor

/-
  WALKS: the nodes behind a place (impl.place.nodes).
-/
namespace Go.Proofs.YtpjoahddbdmbpaaDoor
open Go.RowKit
set_option linter.unusedVariables false

/-- What is behind one letter. -/
def part (F : List UInt8 → Int × Int) (d : Nat) (w : List UInt8) (c : UInt8) : List Nd := oneAt F (w ++ [c]) ++ lst F d (w ++ [c])
def accN (F : List UInt8 → Int × Int) (d : Nat) (w : List UInt8) (n : Nat) : List Nd := (letters.take n).flatMap (part F d w)

theorem accN_four (F : List UInt8 → Int × Int) (d : Nat) (w : List UInt8) : accN F d w 4 = lst F (d + 1) w := rfl

theorem lst_len (F : List UInt8 → Int × Int) : ∀ (d : Nat) (w : List UInt8), (lst F d w).length + 1 ≤ 8 ^ d
  | 0, _ => by simp [lst]
  | d + 1, w => by
    have ho : ∀ u, (oneAt F u).length ≤ 1 := fun u => by unfold oneAt; split <;> simp
    have h1 := lst_len F d (w ++ [97])
    have h2 := lst_len F d (w ++ [98])
    have h3 := lst_len F d (w ++ [99])
    have h4 := lst_len F d (w ++ [100])
    have o1 := ho (w ++ [97])
    have o2 := ho (w ++ [98])
    have o3 := ho (w ++ [99])
    have o4 := ho (w ++ [100])
    have e : (lst F (d + 1) w).length = ((oneAt F (w ++ [97])).length + (lst F d (w ++ [97])).length) + (((oneAt F (w ++ [98])).length + (lst F d (w ++ [98])).length) + (((oneAt F (w ++ [99])).length + (lst F d (w ++ [99])).length) + ((oneAt F (w ++ [100])).length + (lst F d (w ++ [100])).length))) := by
      rw [show lst F (d + 1) w = letters.flatMap (part F d w) from rfl]
      unfold letters
      simp only [List.flatMap_cons, List.flatMap_nil, List.length_append, List.length_nil, Nat.add_zero]
      unfold part
      simp only [List.length_append]
    rw [e, Nat.pow_succ]
    have : 1 ≤ 8 ^ d := Nat.one_le_pow _ _ (by omega)
    omega

theorem lst_le {F : List UInt8 → Int × Int} {d : Nat} (hd : d ≤ 4) (w : List UInt8) : (lst F d w).length ≤ 4096 := by
  have h := lst_len F d w
  have : 8 ^ d ≤ 8 ^ 4 := Nat.pow_le_pow_right (by omega) hd
  omega

theorem accN_le {F : List UInt8 → Int × Int} {d : Nat} (hd : d < 4) (w : List UInt8) (n : Nat) : (accN F d w n).length ≤ 4096 := by
  have h : (accN F d w n).length ≤ (lst F (d + 1) w).length := by
    unfold accN
    rw [show lst F (d + 1) w = (letters.take n ++ letters.drop n).flatMap (part F d w) by rw [List.take_append_drop]; rfl, List.flatMap_append, List.length_append]
    omega
  have := lst_le (F := F) (show d + 1 ≤ 4 by omega) w
  omega

theorem accN_next (F : List UInt8 → Int × Int) (d : Nat) (w : List UInt8) {n : Nat} (hn : n < 4) : accN F d w (n + 1) = accN F d w n ++ part F d w (UInt8.ofNat (97 + n)) := by
  rcases (by omega : n = 0 ∨ n = 1 ∨ n = 2 ∨ n = 3) with rfl | rfl | rfl | rfl <;> simp [accN, letters] <;> rfl

theorem oneAt_zero {F : List UInt8 → Int × Int} {u : List UInt8} (h : (F u).1 = 0) : oneAt F u = [] := if_pos h
theorem oneAt_some {F : List UInt8 → Int × Int} {u : List UInt8} (h : (F u).1 ≠ 0) : oneAt F u = [ndAt F u] := if_neg h

theorem none_down {W : World} {A : List UInt8 → Option Nat} {F : List UInt8 → Int × Int} (h : Trie W A F) {w : List UInt8} (hn : A w = none) : ∀ u, A (w ++ u) = none := by
  intro u
  generalize hl : u.length = n
  induction n generalizing u with
  | zero => rw [List.length_eq_zero_iff.1 hl, List.append_nil]; exact hn
  | succ n ih =>
    have hu : u ≠ [] := fun e => by rw [e] at hl; cases hl
    have e := List.dropLast_concat_getLast hu
    rw [← e, ← List.append_assoc]
    exact h.up _ _ (ih _ (by rw [List.length_dropLast, hl]; rfl))

theorem part_none {W : World} {A : List UInt8 → Option Nat} {F : List UInt8 → Int × Int} (h : Trie W A F) {w : List UInt8} (hw : Wrd w) {d : Nat} (hd : w.length + (d + 1) ≤ 4) {c : UInt8} (hc : Pm.letter c = true) (hn : A (w ++ [c]) = none) : part F d w c = [] := by
  have hz : ∀ u, Wrd (w ++ [c] ++ u) → F (w ++ [c] ++ u) = (0, 0) := fun u hu => h.nil _ hu (none_down h hn u)
  have hwc : ∀ u, u.length ≤ d → (∀ x ∈ u, Pm.letter x = true) → Wrd (w ++ [c] ++ u) := fun u hu hl => ⟨by simp; omega, fun x hx => by
    rcases List.mem_append.1 hx with hx | hx
    · rcases List.mem_append.1 hx with hx | hx
      · exact hw.2 x hx
      · rw [List.mem_singleton.1 hx]; exact hc
    · exact hl x hx⟩
  unfold part
  rw [oneAt_zero, List.nil_append, List.eq_nil_iff_forall_not_mem]
  · intro x hx
    obtain ⟨c', u, h1, h2, h3, _⟩ := mem_lst.1 hx
    rw [hz (c' :: u) (hwc _ (by rw [List.length_cons]; omega) h2)] at h3
    exact h3 rfl
  · have := hz [] (hwc [] (by simp) (by simp))
    rw [List.append_nil] at this
    rw [this]

theorem letter_nth {n : Nat} (hn : n < 4) : Pm.letter (UInt8.ofNat (97 + n)) = true := by
  rcases (by omega : n = 0 ∨ n = 1 ∨ n = 2 ∨ n = 3) with rfl | rfl | rfl | rfl <;> decide

set_option maxHeartbeats 1000000 in
set_option maxRecDepth 100000 in
theorem index4 (a0 a1 a2 a3 : Option Nat) (W : World) : (Instr.index 89 (.agg #[ptrTo a0, ptrTo a1, ptrTo a2, ptrTo a3]) (.int .i64 0)).run Tryd.prog W = .ok (ptrTo a0) W ∧ (Instr.index 89 (.agg #[ptrTo a0, ptrTo a1, ptrTo a2, ptrTo a3]) (.int .i64 1)).run Tryd.prog W = .ok (ptrTo a1) W
    ∧ (Instr.index 89 (.agg #[ptrTo a0, ptrTo a1, ptrTo a2, ptrTo a3]) (.int .i64 2)).run Tryd.prog W = .ok (ptrTo a2) W ∧ (Instr.index 89 (.agg #[ptrTo a0, ptrTo a1, ptrTo a2, ptrTo a3]) (.int .i64 3)).run Tryd.prog W = .ok (ptrTo a3) W := by
  have h : Tryd.prog.underlying 89 = some (.array 4 71) := by kernel_rfl
  refine ⟨?_, ?_, ?_, ?_⟩ <;> simp [Instr.index, asIntOf, run_underlying h, go_sem, ptrTo]

theorem indexKid (A : List UInt8 → Option Nat) (w : List UInt8) {n : Nat} (hn : n < 4) (W : World) :
    (Instr.index 89 (.agg #[ptrTo (A (w ++ [97])), ptrTo (A (w ++ [98])), ptrTo (A (w ++ [99])), ptrTo (A (w ++ [100]))]) (.int .i64 n)).run Tryd.prog W = .ok (ptrTo (A (w ++ [UInt8.ofNat (97 + n)]))) W := by
  obtain ⟨h0, h1, h2, h3⟩ := index4 (A (w ++ [97])) (A (w ++ [98])) (A (w ++ [99])) (A (w ++ [100])) W
  rcases (by omega : n = 0 ∨ n = 1 ∨ n = 2 ∨ n = 3) with rfl | rfl | rfl | rfl
  · exact h0
  · exact h1
  · exact h2
  · exact h3

theorem indexNone {n : Nat} (hn : n < 4) (W : World) :
    (Instr.index 89 (.agg #[.pointer none, .pointer none, .pointer none, .pointer none]) (.int .i64 n)).run Tryd.prog W = .ok (.pointer none) W := by
  obtain ⟨h0, h1, h2, h3⟩ := index4 none none none none W
  rcases (by omega : n = 0 ∨ n = 1 ∨ n = 2 ∨ n = 3) with rfl | rfl | rfl | rfl
  · exact h0
  · exact h1
  · exact h2
  · exact h3

theorem encode_nth {n : Nat} (hn : n < 4) : Utf8.encode (97 + (n : Int)) = ⟨#[UInt8.ofNat (97 + n)]⟩ := by
  rcases (by omega : n = 0 ∨ n = 1 ∨ n = 2 ∨ n = 3) with rfl | rfl | rfl | rfl <;> rfl

theorem flatN_one_cell (ns : List Nd) : ∀ u ∈ flatN ns, u.oneCell' = true := by
  intro u hu
  unfold flatN at hu
  obtain ⟨n, _, hn⟩ := List.mem_flatMap.1 hu
  simp at hn
  rcases hn with rfl | rfl | rfl <;> rfl

theorem own_cells {W : World} {base : Nat} {e : TypeId} {ns : List Nd} {g cap : Nat} (h : W.ownsRow base e 3 (.slice (some ⟨g, 0, none⟩) ns.length cap) ns.length (flatN ns)) :
    ∀ j u, (flatN ns)[j]? = some u → W.cell? ((⟨g, 0, none⟩ : Addr).add j) = some u := by
  intro j u hj
  have hl := flatN_length ns
  have hj' := (List.getElem?_eq_some_iff.1 hj).1
  have := h.cellAt j (by omega)
  have e2 : ((⟨g, 0, none⟩ : Addr).add j) = ⟨g, j, none⟩ := by
    unfold Addr.add
    split
    · rename_i h0; rw [h0]
    · simp
  rw [e2]
  exact this.trans hj

theorem own_join {W : World} {b : Nat} {e : TypeId} {v : Value} {acc more : List Nd} (h : W.ownsRow b e 3 v (acc.length + more.length) (flatN acc ++ flatN more)) : W.ownsRow b e 3 v (acc ++ more).length (flatN (acc ++ more)) := by
  rw [flatN_append, List.length_append]; exact h

theorem own_cases {W : World} {base : Nat} {e : TypeId} {size n : Nat} {v : Value} {xs : List Value} (h : W.ownsRow base e size v n xs) : (v = .slice none 0 0 ∧ n = 0) ∨ ∃ g cap, v = .slice (some ⟨g, 0, none⟩) n cap := by
  rcases h.2 with h | ⟨g, cap, _, h, _⟩
  · exact .inl h
  · exact .inr ⟨g, cap, h⟩

/-- What nodes returns. -/
def NodesPost (F : List UInt8 → Int × Int) (d : Nat) (w : List UInt8) (W : World) (e : Ending) (W' : World) : Prop := OwnsNodes W.heap.size (lst F d w) e W' ∧ Below W.heap.size W W'

def NodesRel (F : List UInt8 → Int × Int) (d : Nat) (w : List UInt8) (W : World) (o i : Value) (wr : World) : Prop :=
  ∃ n : Nat, i = .int .i64 n ∧ n ≤ 4 ∧ wr.ownsRow W.heap.size 52 3 o (accN F d w n).length (flatN (accN F d w n)) ∧ Hid (Below W.heap.size W wr)

set_option maxHeartbeats 2000000 in
set_option maxRecDepth 100000 in
theorem nodes_c (A : List UInt8 → Option Nat) (F : List UInt8 → Int × Int) (d : Nat) : ∀ (w : List UInt8) (b : Nat) (W : World), w.length + d = 4 → Trie W A F → A w = some b →
    Calls Tryd.prog 65 #[.pointer (some ⟨b, 0, none⟩), .string (pB w)] W (NodesPost F d w W) := by
  induction d with
  | zero =>
    intro w b W hwd hT hb
    have hw := hT.wrd w b hb
    have hnone : ∀ c, A (w ++ [c]) = none := fun c => by
      cases h : A (w ++ [c]) with
      | none => rfl
      | some x =>
        have := (hT.wrd _ _ h).1
        rw [List.length_append, List.length_singleton] at this
        omega
    have hc := fun W => trim_c hw W
    have hbeg := beg_eq w
    have hts : (if w = [] then (⟨#[]⟩ : ByteArray) else pB w).size ≤ 8 := by
      split
      · decide
      · show (Pm.pathOf w).length ≤ 8
        unfold Pm.pathOf
        split
        · simp
        · rw [Pm.flat_length]; omega
    generalize (if w = [] then (⟨#[]⟩ : ByteArray) else pB w) = tr at hc hbeg hts
    generalize hp : pB w = p at hc ⊢
    have c0 := hT.cell hb 2
    have c1 := hT.cell hb 3
    have c2 := hT.cell hb 4
    have c3 := hT.cell hb 5
    simp only [plc, hnone, ptrTo] at c0 c1 c2 c3
    simp at c0 c1 c2 c3
    have HT := Lib.hid hT
    clear hp hT hb
    go_enter Tryd.func65, Tryd.ntmps65
    go_wp2_with (go_at_call 73; refine (hc _).mono ?_; rintro e w' ⟨rfl, rfl⟩)
    go_loop [5, 17] (fun o i => o = .slice none 0 0 ∧ ∃ n : Nat, i = .int .i64 n ∧ n ≤ 4) (fun _ i => 4 - (intOf i).toNat)
    case atStart => exact ⟨rfl, 0, rfl, by omega⟩
    case round =>
      obtain ⟨rfl, n, rfl, hn⟩ := hrel
      by_cases h4 : n = 4
      · subst h4
        go_wp2
        refine bodyPost_ret (v := .slice none 0 0) (by simp [results, Tryd.f65, go_sem]) rfl ⟨⟨.slice none 0 0, rfl, World.ownsRow_nil _ _ _ _⟩, Below.refl _ _⟩
      · have hni : (n : Int) < 4 := by omega
        have hni0 : (0 : Int) ≤ n := by omega
        have hidx := fun W => indexNone (show n < 4 by omega) W
        go_wp2
        go_round
        case rel => exact ⟨rfl, n + 1, by push_cast; rfl, by omega⟩
        case measure => simp [intOf]; omega
  | succ d ih =>
  intro w b W hwd hT hb
  obtain ⟨i0, hi, hz0, hz1, hz2⟩ := info_parts infoNode
  have hw := hT.wrd w b hb
  have HT := Lib.hid hT
  have HB := Lib.hid hb
  have HI := Lib.hid ih
  have hc := fun W => trim_c hw W
  have hbeg := beg_eq w
  have hts : (if w = [] then (⟨#[]⟩ : ByteArray) else pB w).size ≤ 8 := by
    split
    · decide
    · show (Pm.pathOf w).length ≤ 8
      unfold Pm.pathOf
      split
      · simp
      · rw [Pm.flat_length]; omega
  have hbs : (begB w).size ≤ 9 := by rw [← hbeg, ByteArray.size_append]; show _ + 1 ≤ 9; omega
  generalize (if w = [] then (⟨#[]⟩ : ByteArray) else pB w) = tr at hc hbeg hts
  generalize hp : pB w = p at hc ⊢
  have c0 := hT.cell hb 2
  have c1 := hT.cell hb 3
  have c2 := hT.cell hb 4
  have c3 := hT.cell hb 5
  simp [plc] at c0 c1 c2 c3
  clear hp hT hb ih
  go_enter Tryd.func65, Tryd.ntmps65
  go_wp2_with (go_at_call 73; refine (hc _).mono ?_; rintro e w' ⟨rfl, rfl⟩)

  have HBS := Lib.hid hbs
  clear hbeg hts hbs hc
  go_loopw [5, 17] (fun o i wr => NodesRel F d w w' o i wr) (fun _ i _ => 4 - (intOf i).toNat)
  case atStart => exact ⟨0, rfl, by omega, World.ownsRow_nil _ _ _ _, Below.refl _ _⟩
  case round =>
    obtain ⟨n, rfl, hn, hown, hB⟩ := hrel
    by_cases h4 : n = 4
    · subst h4
      go_wp2
      refine bodyPost_ret (v := u5) (by simp [results, Tryd.f65, go_sem]) rfl ⟨⟨u5, rfl, ?_⟩, hB⟩
      rw [← accN_four]; exact hown
    · have hn4 : n < 4 := by omega
      have hni : (n : Int) < 4 := by omega
      have hni0 : (0 : Int) ≤ n := by omega
      have hidx := fun W => indexKid A w hn4 W
      cases hk : A (w ++ [UInt8.ofNat (97 + n)]) with
      | none =>
        have hidx2 := fun W => (hidx W).trans (show _ = Result.ok (.pointer none) W by rw [hk]; rfl)
        clear hidx
        go_wp2
        go_roundw
        case rel =>
          refine ⟨n + 1, by push_cast; rfl, by omega, ?_, hB⟩
          rw [accN_next F d w hn4, part_none HT.out hw (by omega) (letter_nth hn4) hk, List.append_nil]; exact hown
        case measure => simp [intOf]; omega
      | some b' =>
        have hidx2 := fun W => (hidx W).trans (show _ = Result.ok (.pointer (some ⟨b', 0, none⟩)) W by rw [hk]; rfl)
        clear hidx
        have HL1 := Lib.hid (accN_le (F := F) (d := d) (by omega) w n)
        have henc := encode_nth hn4
        have hname := begB_name w (UInt8.ofNat (97 + n))
        have hbs := HBS.out
        have hc1 : ((⟨#[UInt8.ofNat (97 + n)]⟩ : ByteArray)).size = 1 := rfl
        have hwr : IntKind.i32.wrap (97 + (n : Int)) = 97 + n := by rw [IntKind.wrap_i32]; omega
        have hlet := letter_nth hn4
        have HACC := Lib.hid (accN_next F d w hn4)
        obtain ⟨c, hc⟩ : ∃ c, c = UInt8.ofNat (97 + n) := ⟨_, rfl⟩
        rw [← hc] at henc hname hc1 hlet HACC hk
        have HC := Lib.hid hc
        clear hc
        go_upto_region 8 with (fail)
        have HK := Lib.hid hk
        have HB2 := Lib.hid (show Wrd (w ++ [c]) from HT.out.wrd _ _ hk)
        have k0 := (HT.out.below hB.out).cell hk 0
        have k1 := (HT.out.below hB.out).cell hk 1
        simp only [plc] at k0 k1
        obtain ⟨k, hkk⟩ : ∃ k, k = (F (w ++ [c])).1 := ⟨_, rfl⟩
        obtain ⟨v, hvv⟩ : ∃ v, v = (F (w ++ [c])).2 := ⟨_, rfl⟩
        rw [← hkk] at k0
        rw [← hvv] at k1
        have k0' : wr.cell? ⟨b', 0, none⟩ = some (.int .i64 k) := k0
        have k1' : wr.cell? ⟨b', 1, none⟩ = some (.int .i64 v) := k1
        have HL2 := Lib.hid (lst_le (F := F) (d := d) (by omega) (w ++ [c]))
        clear k0 k1 hk hc1 hbs henc hidx2 hwr
        clear hname
        have HO := Lib.hid hown
        have HCALL := Lib.hid (fun W1 (hT1 : Trie W1 A F) => HI.out (w ++ [c]) b' W1 (by rw [List.length_append, List.length_singleton]; omega) hT1 HK.out)
        by_cases hk0 : k = 0
        · have hkb : (k == 0) = true := by rw [hk0]; rfl
          have HPART := Lib.hid (show part F d w c = lst F d (w ++ [c]) by unfold part; rw [oneAt_zero (by rw [← hkk]; exact hk0)]; rfl)
          subst hk0
          clear hown hkk hvv

          go_wp2_with fail
          refine (HCALL.out _ (HT.out.below hB.out)).mono ?_
          rintro e W2 ⟨⟨sl, rfl, ho2⟩, hb2⟩
          have hoa := own_below HO.out hb2
          have hB2 : Below w'.heap.size w' W2 := below_next hB.out hb2
          have H2 := Lib.hid ho2
          rcases own_cases ho2 with ⟨rfl, hz⟩ | ⟨g, cap, rfl⟩
          · have hz' : lst F d (w ++ [c]) = [] := List.length_eq_zero_iff.1 hz
            clear ho2 hb2 hz
            go_wp2_with (at_builtin; refine wpList_append_own_none rfl _ _ 23 rfl w'.heap.size 52 i0 3 Tryd.underlying23 hi _ _ _ rfl hoa rfl ?_)
            go_roundw
            case rel =>
              refine ⟨n + 1, by push_cast; rfl, by omega, ?_, hB2⟩
              rw [HACC.out, HPART.out, hz', List.append_nil]
              exact hoa
            case measure => simp [intOf]; omega
          · clear ho2 hb2
            go_wp2_with (at_builtin; refine wpList_append_own _ rfl _ _ 23 rfl w'.heap.size 52 i0 (.agg #[.string ⟨#[]⟩, .int .i64 0, .int .i64 0]) 3 32 Tryd.underlying23 hi hz0 hz1 hz2 rfl (by decide) _ _ _ rfl hoa ⟨g, 0, none⟩ _ cap (flatN (lst F d (w ++ [c]))) rfl (flatN_length _) (own_cells H2.out) (flatN_one_cell _) (by unfold maxLen; have := HL1.out; have := HL2.out; simp at this ⊢; omega) (by have := HL1.out; have := HL2.out; simp at this ⊢; omega) hB2.size ?_; intro v4 w4 ho4 hg4 hn4)
            have B4 : Below w'.heap.size w' w4 := hB2.grown hg4 hB2.size (fun g e => (hoa.lt g e).1)
            go_roundw
            case rel =>
              refine ⟨n + 1, by push_cast; rfl, by omega, ?_, B4⟩
              rw [HACC.out, HPART.out]
              exact own_join ho4
            case measure => simp [intOf]; omega

        · have hkb : (k == 0) = false := by simpa using hk0
          have HPART := Lib.hid (show part F d w c = [(⟨pB (w ++ [c]), k, v⟩ : Nd)] ++ lst F d (w ++ [c]) by unfold part; rw [oneAt_some (by rw [← hkk]; exact hk0)]; unfold ndAt; rw [← hkk, ← hvv])
          have hlt0 := hown.lt
          clear hown hkk hvv
          generalize hq : pB (w ++ [c]) = q at HCALL HPART ⊢
          go_wp2_with (at_builtin; refine wpList_append_own _ rfl _ _ 23 rfl w'.heap.size 52 i0 (.agg #[.string ⟨#[]⟩, .int .i64 0, .int .i64 0]) 3 32 Tryd.underlying23 hi hz0 hz1 hz2 rfl (by decide) _ _ _ rfl (HO.out.alloc _) ⟨wr.heap.size, 0, none⟩ 1 1 [.string q, .int .i64 k, .int .i64 v] rfl rfl (cell_three_new _ _ _ _ _) (fun x hx => by simp at hx; rcases hx with rfl | rfl | rfl <;> rfl) (by unfold maxLen; have := HL1.out; omega) (by have := HL1.out; omega) (by have := hB.out.size; simp; omega) ?_; intro v3 w3 ho3 hg3 hn3)
          have B3 : Below w'.heap.size w' w3 := (hB.out.alloc hB.out.size _).grown hg3 (by have := hB.out.size; simp; omega) (fun g e => (hlt0 g e).1)
          go_wp2_with fail
          refine (HCALL.out _ (HT.out.below B3)).mono ?_
          rintro e W2 ⟨⟨sl, rfl, ho2⟩, hb2⟩
          have hoa := own_below (own_push (⟨q, k, v⟩ : Nd) ho3) hb2
          have hB2 : Below w'.heap.size w' W2 := below_next B3 hb2
          have H2 := Lib.hid ho2
          rcases own_cases ho2 with ⟨rfl, hz⟩ | ⟨g, cap, rfl⟩
          · have hz' : lst F d (w ++ [c]) = [] := List.length_eq_zero_iff.1 hz
            clear ho2 hb2 hz
            go_wp2_with (at_builtin; refine wpList_append_own_none rfl _ _ 23 rfl w'.heap.size 52 i0 3 Tryd.underlying23 hi _ _ _ rfl hoa rfl ?_)
            go_roundw
            case rel =>
              refine ⟨n + 1, by push_cast; rfl, by omega, ?_, hB2⟩
              rw [HACC.out, HPART.out, hz', List.append_nil]
              exact hoa
            case measure => simp [intOf]; omega
          · clear ho2 hb2
            go_wp2_with (at_builtin; refine wpList_append_own _ rfl _ _ 23 rfl w'.heap.size 52 i0 (.agg #[.string ⟨#[]⟩, .int .i64 0, .int .i64 0]) 3 32 Tryd.underlying23 hi hz0 hz1 hz2 rfl (by decide) _ _ _ rfl hoa ⟨g, 0, none⟩ _ cap (flatN (lst F d (w ++ [c]))) rfl (flatN_length _) (own_cells H2.out) (flatN_one_cell _) (by unfold maxLen; have h5 := HL1.out; have h6 := HL2.out; simp at h5 h6 ⊢; omega) (by have h5 := HL1.out; have h6 := HL2.out; simp at h5 h6 ⊢; omega) hB2.size ?_; intro v4 w4 ho4 hg4 hn4)
            have B4 : Below w'.heap.size w' w4 := hB2.grown hg4 hB2.size (fun g e => (hoa.lt g e).1)
            go_roundw
            case rel =>
              refine ⟨n + 1, by push_cast; rfl, by omega, ?_, B4⟩
              rw [HACC.out, HPART.out, ← List.append_assoc]
              exact own_join ho4
            case measure => simp [intOf]; omega


end Go.Proofs.YtpjoahddbdmbpaaDoor

/-
  WALKS: impl.TreePut.
-/
namespace Go.Proofs.YtpjoahddbdmbpaaDoor
open Go.RowKit
set_option linter.unusedVariables false

theorem treePut_bad {ns : List Nd} {p : ByteArray} {k v : Int} (h : validT ns = false ∨ ¬ 1 ≤ depB p ∨ validB k v = false) : treePut ns p k v = none := by
  unfold treePut
  rcases h with h | h | h <;> simp [h]

theorem tput_nil {r : Option (List Nd)} {base : Nat} {W w : World} (hr : r = none) (hB : Below W.heap.size W w) : TPost r base W (.returned (.tuple #[.slice none 0 0, .bool false])) w :=
  ⟨_, [], false, rfl, .inr ⟨rfl, hr, rfl⟩, World.ownsRow_nil _ _ _ _, hB⟩

theorem lst_short {F : List UInt8 → Int × Int} : Short 8 (lst F 4 []) := by
  intro n hn
  obtain ⟨c, u, h1, h2, h3, rfl⟩ := mem_lst.1 hn
  exact pB_size (v := [] ++ c :: u) ⟨by rw [List.nil_append, List.length_cons]; omega, h2⟩

theorem Short.mono {m m' : Nat} {ns : List Nd} (h : Short m ns) (hm : m ≤ m') : Short m' ns := fun n hn => Nat.le_trans (h n hn) hm

set_option maxHeartbeats 4000000 in
set_option maxRecDepth 100000 in
theorem implTreePut_c (a : Option Addr) (len cap : Nat) (ns : List Nd) (p : ByteArray) (k v : Int) (hl : len ≤ 2097152) (hs : Short 2097152 ns) (hp : p.size ≤ 2097152) (W : World) (hN : NodesAt W a len ns) :
    Calls Tryd.prog 53 #[.slice a len cap, .string p, con k v] W (TPost (treePut ns p k v) W.heap.size W) := by
  have H := Lib.hid (fun W1 (hb : Below W.heap.size W W1) => treeOf_c a len cap ns hl hs W1 (hN.keep hb))
  obtain ⟨d, hd⟩ : ∃ d, depB p = d := ⟨_, rfl⟩
  have HP := Lib.hid (fun W1 => show Calls Tryd.prog 47 #[.string p] W1 (fun e w' => e = .returned (.int .i64 d) ∧ Below W1.heap.size W1 w') by rw [← hd]; exact pathDepth_c p (by omega) W1)
  have HD := Lib.hid hd
  have HVC := Lib.hid (fun W1 => implValid_c k v W1)
  obtain ⟨vb, hvb⟩ : ∃ vb, validB k v = vb := ⟨_, rfl⟩
  rw [hvb] at HVC
  have HVB := Lib.hid hvb
  clear hN hs hd hvb
  unfold con
  go_enter Tryd.func53, Tryd.ntmps53
  go_wp2_with fail
  refine (H.out _ (below_box _ _)).mono ?_
  rintro e W2 ⟨hB, h⟩
  have HB2 := Lib.hid (below_next (below_box W _) hB)
  have q0 := box_cell hB 0
  have q1 := box_cell hB 1
  simp at q0 q1
  rcases h with ⟨hv, rfl⟩ | ⟨hv, A, b, rfl, hA0, hT, hA⟩
  · have HG := Lib.hid (treePut_bad (p := p) (k := k) (v := v) (.inl hv))
    clear hv hB
    go_wp2
    refine bodyPost_ret (v := .tuple #[.slice none 0 0, .bool false]) (by simp [results, Tryd.f53, go_sem]) rfl (tput_nil HG.out HB2.out)
  · have HV := Lib.hid hv
    have HT := Lib.hid hT
    have HA := Lib.hid hA
    have HA0 := Lib.hid hA0
    have hlt2 : W.heap.size < W2.heap.size := by have := hB.size; simp at this; omega
    clear hv hB hT hA hA0
    go_wp2_with fail
    refine (HP.out _).mono ?_
    rintro e W3 ⟨rfl, hb3⟩
    have r0 := cell_kept hb3 q0
    have r1 := cell_kept hb3 q1
    have HB3 := Lib.hid (below_next HB2.out hb3)
    have HT3 := Lib.hid (HT.out.below hb3)
    have hlt3 : W.heap.size < W3.heap.size := by have := hb3.size; omega
    clear q0 q1 hb3
    by_cases hd1 : d ≤ 0
    · have HG := Lib.hid (treePut_bad (ns := ns) (p := p) (k := k) (v := v) (.inr (.inl (by rw [HD.out]; omega))))
      go_wp2
      refine bodyPost_ret (v := .tuple #[.slice none 0 0, .bool false]) (by simp [results, Tryd.f53, go_sem]) rfl (tput_nil HG.out HB3.out)
    · have hd0 : 0 < d := by omega
      have hdd : decide (d ≤ 0) = false := decide_eq_false hd1
      clear hd1
      go_wp2_with fail
      refine (HVC.out _).mono ?_
      rintro e W5 ⟨rfl, hb5⟩
      have u0 := cell_kept hb5 r0
      have u1 := cell_kept hb5 r1
      have HB5 := Lib.hid (below_next HB3.out hb5)
      have HT5 := Lib.hid (HT3.out.below hb5)
      have hN5 : W.heap.size < W5.heap.size := by have := hb5.size; omega
      clear r0 r1 hb5
      cases vb with
      | false =>
        have HG := Lib.hid (treePut_bad (ns := ns) (p := p) (k := k) (v := v) (.inr (.inr HVB.out)))
        go_wp2
        refine bodyPost_ret (v := .tuple #[.slice none 0 0, .bool false]) (by simp [results, Tryd.f53, go_sem]) rfl (tput_nil HG.out HB5.out)
      | true =>
        obtain ⟨w, hw, hpw⟩ := vpB_word (vp_of_depth (p := p) (by rw [HD.out]; omega))
        have HW := Lib.hid hw
        have HPW := Lib.hid hpw
        have HNE := Lib.hid ((word_depth hw).1 (by rw [← hpw, HD.out]; omega))
        have HAW := Lib.hid (show Away A W.heap.size from fun u e => by have := HA.out u _ e; rw [World.size_alloc] at this; omega)
        have HS0 := Lib.hid (show W5.drew.cell? ⟨W.heap.size, 0, none⟩ = some (.int .i64 k) ∧ W5.drew.cell? ⟨W.heap.size, 1, none⟩ = some (.int .i64 v) from ⟨u0, u1⟩)
        have HAT := Lib.hid (show Calls Tryd.prog 50 #[.pointer (some ⟨b, 0, none⟩), .string p] W5.drew (AtPost A (Fof ns) w W5.drew) by
          rw [hpw]; exact at_c A _ w hw W5.drew (HT5.out.kept (W' := W5.drew) fun _ _ _ => rfl) _ HA0.out)
        clear hw hpw
        go_upto_region 4 with (fail)
        refine wp_region_held_drew (S := (fun w' => w'.cell? ⟨W.heap.size, 0, none⟩ = some (.int .i64 k) ∧ w'.cell? ⟨W.heap.size, 1, none⟩ = some (.int .i64 v))) (by kernel_rfl) HS0.out (fun hH => ?_)
        refine wpAnyH_take (i := 0) (oi := _) (v := ?_) rfl (by kernel_rfl) (by kernel_rfl) (by kernel_rfl) (fun _ _ _ h => h) (Or.inl ⟨by rfl, ?_⟩) (by assumption) ?_
        rotate_left
        · (intro w hSw; (try dsimp only at hSw); go_simp; try with_reducible rfl)
        try simp only [Act.put, List.getElem_toArray, List.getElem_cons_zero, List.setIfInBounds_toArray, List.set_cons_zero, List.set_cons_succ]
        refine wpAnyH_take (i := 1) (oi := _) (v := ?_) rfl (by kernel_rfl) (by kernel_rfl) (by kernel_rfl) (fun _ _ _ h => h) (Or.inl ⟨by rfl, ?_⟩) (by assumption) ?_
        rotate_left
        · (intro w hSw; (try dsimp only at hSw); go_simp; try with_reducible rfl)
        try simp only [Act.put, List.getElem_toArray, List.getElem_cons_zero, List.getElem_cons_succ, List.setIfInBounds_toArray, List.set_cons_zero, List.set_cons_succ]
        refine wpAnyH_take (i := 3) (oi := _) (v := ?_) rfl (by kernel_rfl) (by kernel_rfl) (by kernel_rfl) (fun _ _ _ h => h) (Or.inl ⟨by rfl, ?_⟩) (by assumption) ?_
        rotate_left
        · (intro w hSw; (try dsimp only at hSw); go_simp; try with_reducible rfl)
        try simp only [Act.put, List.getElem_toArray, List.getElem_cons_zero, List.getElem_cons_succ, List.setIfInBounds_toArray, List.set_cons_zero, List.set_cons_succ]
        refine wpAnyH_ready (rs := [2]) (by kernel_rfl) (by simp) ?_
        refine AllReadyH.cons rfl (fun K hK => ?_) (AllReadyH.nil)
        go_simp
        go_at_call 50; (with_reducible refine (HAT.out).mono ?_); rintro e W6 ⟨A6, b6, rfl, hb6, hT6, hX6, hO6⟩
        refine hK.out _ _ ⟨(off_cell2 hO6 hN5 HAW.out 0).trans u0, (off_cell2 hO6 hN5 HAW.out 1).trans u1⟩ (fun hHeld => ?_)
        try simp only [Act.put, List.getElem_toArray, List.getElem_cons_zero, List.getElem_cons_succ, List.setIfInBounds_toArray, List.set_cons_zero, List.set_cons_succ]
        have f60 := hT6.frozen hb6 0
        have f61 := hT6.frozen hb6 1
        have c60 := hT6.cell hb6 0
        have c61 := hT6.cell hb6 1
        simp only [plc, List.getElem?_toArray, List.getElem?_cons_zero, List.getElem?_cons_succ] at c60 c61
        refine wpAnyH_take (i := 4) (oi := _) (v := ?_) rfl (by kernel_rfl) (by kernel_rfl) (by kernel_rfl) (fun _ _ _ h => h) (Or.inl ⟨by rfl, ?_⟩) (by assumption) ?_
        rotate_left
        · (intro w hSw; (try dsimp only at hSw); go_simp; try with_reducible rfl)
        try simp only [Act.put, List.getElem_toArray, List.getElem_cons_zero, List.getElem_cons_succ, List.setIfInBounds_toArray, List.set_cons_zero, List.set_cons_succ]
        refine wpAnyH_take (i := 5) (oi := _) (v := ?_) rfl (by kernel_rfl) (by kernel_rfl) (by kernel_rfl) (fun _ _ _ h => h) (Or.inl ⟨by rfl, ?_⟩) (by assumption) ?_
        rotate_left
        · (intro w hSw; (try dsimp only at hSw); go_simp; try with_reducible rfl)
        try simp only [Act.put, List.getElem_toArray, List.getElem_cons_zero, List.getElem_cons_succ, List.setIfInBounds_toArray, List.set_cons_zero, List.set_cons_succ]
        refine wpAnyH_ready (rs := [6]) (by kernel_rfl) (by simp) ?_
        refine AllReadyH.cons rfl (fun K hK => ?_) (AllReadyH.nil)
        go_simp
        have hnb : W.heap.size ≠ b6 := fun e => (ext_away hX6 (show W.heap.size < W5.drew.heap.size from hN5) HAW.out) w (by rw [e]; exact hb6)
        have hfrom := ext_from hX6 (show W.heap.size ≤ W5.drew.heap.size from HB5.out.size) (fun u c e => by have := HA.out u c e; rw [World.size_alloc] at this; omega)
        have HT7 := Lib.hid (hT6.write hb6 k v)
        have HB7 := Lib.hid (show Below W.heap.size W ((W6.setCell ⟨b6, 0, none⟩ (.int .i64 k)).setCell ⟨b6, 1, none⟩ (.int .i64 v)) from
          ((HB5.out.trans (show Below W.heap.size W5 W6 from ⟨hO6.os, hO6.tape, hO6.output, hO6.size, fun j hj => hO6.block j (by have := HB5.out.size; show j < W5.heap.size; omega) fun u e => by have := HA.out u j e; rw [World.size_alloc] at this; omega⟩)).setCell (hfrom w b6 hb6) _).setCell (hfrom w b6 hb6) _)
        have HR7 := Lib.hid ((hX6 [] _).1 HA0.out)
        refine hK.out _ _ ⟨(past2 hnb).trans ((off_cell2 hO6 hN5 HAW.out 0).trans u0), (past2 hnb).trans ((off_cell2 hO6 hN5 HAW.out 1).trans u1)⟩ (fun hHeld => ?_)
        try simp only [Act.put, List.getElem_toArray, List.getElem_cons_zero, List.getElem_cons_succ, List.setIfInBounds_toArray, List.set_cons_zero, List.set_cons_succ]
        refine wpAnyH_done (by kernel_rfl) ?_ _
        clear hK hO6 hX6 hT6 hb6 f60 f61 c60 c61 u0 u1 hfrom hHeld hnb
        generalize (W6.setCell ⟨b6, 0, none⟩ (.int .i64 k)).setCell ⟨b6, 1, none⟩ (.int .i64 v) = W7 at HT7 HB7 ⊢
        obtain ⟨out, hout⟩ : ∃ out, out = lst (setF (Fof ns) w (k, v)) 4 [] := ⟨_, rfl⟩
        have HOUT := Lib.hid (show out = putL ns p k v by rw [hout, HPW.out]; exact put_lst HV.out HW.out HNE.out k v)
        have HSH := Lib.hid (show Short 2097152 out by rw [hout]; exact lst_short.mono (by omega))
        have HLN := Lib.hid (show out.length ≤ 4096 by rw [hout]; exact lst_le (by omega) _)
        have HND := Lib.hid (nodes_c A6 _ 4 [] b W7 rfl HT7.out HR7.out)
        have HND2 := Lib.hid (show Calls Tryd.prog 65 #[.pointer (some ⟨b, 0, none⟩), .string ⟨#[47]⟩] W7 (fun e W' => OwnsNodes W7.heap.size out e W' ∧ Below W7.heap.size W7 W') by rw [hout]; exact HND.out)
        clear hout HND
        go_wp2_with fail
        refine HND2.out.mono ?_
        rintro e W8 ⟨⟨sl, rfl, ho8⟩, hb8⟩
        obtain ⟨a8, cap8, rfl, hn8⟩ := nodes_of_own ho8
        obtain ⟨vt, hvt⟩ : ∃ vt, validT out = vt := ⟨_, rfl⟩
        have HTV := Lib.hid (implTreeValid_c a8 out.length cap8 out (by have := HLN.out; omega) HSH.out W8 hn8)
        rw [hvt] at HTV
        have HVT := Lib.hid hvt
        have HO8 := Lib.hid ho8
        have HB8 := Lib.hid (below_next HB7.out hb8)
        clear ho8 hb8 hn8 hvt
        go_wp2_with fail
        refine HTV.out.mono ?_
        rintro e W9 ⟨rfl, hb9⟩
        have HO9 := Lib.hid (own_below HO8.out hb9)
        have HB9 := Lib.hid (below_next HB8.out hb9)
        clear hb9
        cases vt with
        | false =>
          have HG := Lib.hid (show treePut ns p k v = none by
            unfold treePut
            rw [← HOUT.out, show validT out = false from HVT.out]; simp)
          go_wp2
          refine bodyPost_ret (v := .tuple #[.slice none 0 0, .bool false]) (by simp [results, Tryd.f53, go_sem]) rfl (tput_nil HG.out HB9.out)
        | true =>
          have HG := Lib.hid (show treePut ns p k v = some out by
            unfold treePut
            rw [← HOUT.out, show validT out = true from HVT.out, show validT ns = true from HV.out, show validB k v = true from HVB.out, show decide (1 ≤ depB p) = true from decide_eq_true (by rw [HD.out]; omega)]; rfl)
          have hsz7 : W.heap.size ≤ W7.heap.size := HB7.out.size
          go_wp2
          refine bodyPost_ret (v := .tuple #[.slice a8 out.length cap8, .bool true]) (by simp [results, Tryd.f53, go_sem]) rfl ⟨_, out, true, rfl, .inl ⟨rfl, HG.out⟩, own_mono HO9.out hsz7, HB9.out⟩

end Go.Proofs.YtpjoahddbdmbpaaDoor
