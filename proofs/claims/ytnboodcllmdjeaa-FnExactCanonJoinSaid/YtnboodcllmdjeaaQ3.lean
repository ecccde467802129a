/-
  Texts of this proof, one behind the other: Co, Qr, Tr, Wa, Of, Ip.
-/
import Derived.Sort.QuietIn
import Derived.RangeFuncCalls
import Derived.RangeFuncBox
import Derived.Sort.CutIn
import Derived.Laws.Cover1
import Derived.Deep.RegionHeld3
import Derived.Deep.Cut
import Derived.Test.YtnboodcllmdjeaaCv
import Derived.Test.YtnboodcllmdjeaaBn
import Derived.Test.YtnboodcllmdjeaaTa
import Derived.Test.YtnboodcllmdjeaaWd
import Derived.Test.YtnboodcllmdjeaaPd
import Derived.Test.YtnboodcllmdjeaaQ2
import Derived.Test.YtnboodcllmdjeaaTv
/-
  WALKS: contents: impl.contentOf, impl.ContentValid.
-/
namespace Go.Proofs.Ytnboodcllmdjeaa
open Go.RowKit
set_option linter.unusedVariables false

/-- What a content stands for, and whether it is one. -/
def conOf (k v : Int) : Value × Bool :=
  if k = 0 ∧ v = 0 then (.iface 129 (.agg #[]), true)
  else if k = 1 ∧ v = 0 then (.iface 130 (.agg #[]), true)
  else if k = 2 ∧ 0 ≤ v ∧ v ≤ 99 then (.iface 132 (.agg #[.int .i64 v]), true)
  else (.nilIface, false)

theorem conOf_valid (k v : Int) : (conOf k v).2 = validB k v := by
  unfold conOf validB
  split
  · rename_i h; simp [h]
  · split
    · rename_i h; simp [h]
    · split
      · rename_i h; simp [h]
      · rename_i h1 h2 h3
        symm
        apply decide_eq_false
        rintro (⟨h, h4 | h4⟩ | h)
        · exact h1 ⟨h4, h⟩
        · exact h2 ⟨h4, h⟩
        · exact h3 h

def ConPost (k v : Int) (w : World) (e : Ending) (w' : World) : Prop :=
  e = .returned (.tuple #[(conOf k v).1, .bool (conOf k v).2]) ∧ Below w.heap.size w w'

theorem con_post (k v : Int) (w : World) (r : Value × Bool) (h : conOf k v = r) (t : TypeId) : ConPost k v w (.returned (.tuple #[r.1, .bool r.2])) (w.alloc (.cells #[.int .i64 k, .int .i64 v] t)) := by
  subst h; exact ⟨rfl, below_box _ _⟩

set_option maxHeartbeats 400000 in
set_option maxRecDepth 100000 in
theorem contentOf_c (k v : Int) (w : World) : Calls Try.prog 79 #[con k v] w (ConPost k v w) := by
  unfold con
  by_cases h0 : k = 0
  · subst h0
    by_cases hv : v = 0
    · subst hv
      go_enter Try.func79, Try.ntmps79
      go_wp2
      go_ret2
      exact con_post _ _ _ (_, _) rfl _
    · have H := Lib.hid (show conOf 0 v = (.nilIface, false) by unfold conOf; simp [hv])
      go_enter Try.func79, Try.ntmps79
      go_wp2
      go_ret2
      exact con_post _ _ _ (_, _) H.out _
  · by_cases h1 : k = 1
    · subst h1
      clear h0
      by_cases hv : v = 0
      · subst hv
        go_enter Try.func79, Try.ntmps79
        go_wp2
        go_ret2
        exact con_post _ _ _ (_, _) rfl _
      · have H := Lib.hid (show conOf 1 v = (.nilIface, false) by unfold conOf; simp [hv])
        go_enter Try.func79, Try.ntmps79
        go_wp2
        go_ret2
        exact con_post _ _ _ (_, _) H.out _
    · by_cases h2 : k = 2
      · subst h2
        clear h0 h1
        by_cases hv : 0 ≤ v
        · by_cases hw : v ≤ 99
          · have H := Lib.hid (show conOf 2 v = (.iface 132 (.agg #[.int .i64 v]), true) by unfold conOf; simp [hv, hw])
            go_enter Try.func79, Try.ntmps79
            go_wp2
            go_ret2
            exact con_post _ _ _ (_, _) H.out _
          · have H := Lib.hid (show conOf 2 v = (.nilIface, false) by unfold conOf; simp [hw])
            have hw' : 99 < v := by omega
            clear hw
            go_enter Try.func79, Try.ntmps79
            go_wp2
            go_ret2
            exact con_post _ _ _ (_, _) H.out _
        · have H := Lib.hid (show conOf 2 v = (.nilIface, false) by unfold conOf; simp [hv])
          have hv' : v < 0 := by omega
          clear hv
          go_enter Try.func79, Try.ntmps79
          go_wp2
          go_ret2
          exact con_post _ _ _ (_, _) H.out _
      · have H := Lib.hid (show conOf k v = (.nilIface, false) by unfold conOf; simp [h0, h1, h2])
        go_enter Try.func79, Try.ntmps79
        go_wp2
        go_ret2
        exact con_post _ _ _ (_, _) H.out _

set_option maxHeartbeats 400000 in
set_option maxRecDepth 100000 in
theorem implValid_c (k v : Int) (w : World) : Calls Try.prog 71 #[con k v] w (BoolPost (validB k v) w) := by
  have H := Lib.hid (fun w => contentOf_c k v w)
  have HV := Lib.hid (conOf_valid k v)
  unfold con at H ⊢
  go_enter Try.func71, Try.ntmps71
  go_wp2_with fail
  refine (H.out _).mono ?_
  rintro e W1 ⟨rfl, hb⟩
  rw [HV.out]
  go_wp2
  go_ret
  exact ⟨rfl, below_next (below_box _ _) hb⟩

end Go.Proofs.Ytnboodcllmdjeaa

/-
  A REGION THAT DRAWS ITS ORDER AND ONLY READS, within a round of a loop over a function: the law of the kit for activations, carried into a round.
-/
namespace Go.Proofs.Ytnboodcllmdjeaa
open Go.RowKit

theorem wpOpIn_round {F : Fence} {n : Nat} {P : Program} {ops : Array Oper} {Q : Exit → Act → World → Prop} {i : Nat} {K K' : Act → World → Prop} {a : Act} {w : World} (l : Nat) (hro : F.round = none)
    (hd : ∀ o, ops[i]? = some o → ∀ c, o.op ≠ .defer c) (hK : ∀ a w, K a w → K' a w) (h : wpOpIn F n P ops Q i K a w) : wpOpIn (F.inRound l) n P ops Q i K' a w := by
  have h := wpOpIn_mono hK h
  unfold wpOpIn at h ⊢
  cases ho : ops[i]? with
  | none => simp only [ho] at h ⊢; exact h
  | some o =>
    simp only [ho] at h ⊢
    split
    · rename_i hw
      rw [if_pos hw] at h
      refine ⟨h.1, ?_⟩
      have h2 := h.2
      rw [hro, Oper.semAt_none] at h2
      rw [Oper.semAt_eq _ _ _ (hd o ho)]
      exact h2
    · rename_i hw
      rw [if_neg hw] at h
      exact h

theorem wpAnyIn_round {F : Fence} {n : Nat} {P : Program} {ops : Array Oper} {Q : Exit → Act → World → Prop} {md : Region.Mode} (l : Nat) (hro : F.round = none)
    (hd : ∀ (i : Nat) (o : Oper), ops[i]? = some o → ∀ c, o.op ≠ .defer c) : ∀ (fuel : Nat) (listed : Array Bool) (a : Act) (w : World), wpAnyIn F n P md ops Q fuel listed a w → wpAnyIn (F.inRound l) n P md ops Q fuel listed a w
  | 0, _, _, _, h => h
  | fuel + 1, _, _, _, h => ⟨h.1, fun i hi => wpOpIn_round l hro (hd i) (fun a w => wpAnyIn_round l hro hd fuel _ a w) (h.2 i hi)⟩

def noDefer (o : Oper) : Bool := match o.op with
  | .defer _ => false
  | _ => true

theorem quiet_round {F : Fence} {n : Nat} {P : Program} {id : Nat} {Q : Exit → Act → World → Prop} {a : Act} {w : World} {ops : List Oper} (l : Nat) (hro : F.round = none) (hm : P.follows .mixedOrders = true) (hB : Region.lexB .any ops.toArray = true)
    (hd : ops.all noDefer = true)
    (h : wpQuietIn F n P ops.toArray (fun w' => ∃ n, w' = w.drewN n) (fun a' => ∀ w', (∃ n, w' = w.drewN n) → Q .normal a' w') ops a) : (Code.region id ops.toArray true).wpIn (F.inRound l) n P Q a w := by
  simp only [Region.lexB, Bool.and_eq_true] at hB
  have hd' : ∀ (i : Nat) (o : Oper), ops.toArray[i]? = some o → ∀ c, o.op ≠ .defer c := by
    intro i o ho c e
    have hm : o ∈ ops := by
      have := List.mem_of_getElem? (by simpa using ho : ops[i]? = some o)
      exact this
    have := List.all_eq_true.1 hd o hm
    unfold noDefer at this
    rw [e] at this
    cases this
  refine wpIn_region_any hm (wpAnyIn_round l hro hd' _ _ _ _ ?_)
  refine wpAnyIn_of_quiet (C := fun w' => ∃ n, w' = w.drewN n) (Q := fun a' => ∀ w', (∃ n, w' = w.drewN n) → Q .normal a' w') hro (fun _ w' hw' h => h w' hw') _ _ _ _ ⟨1, rfl⟩ ?_
  have := wpAnyQIn_lex (F := F) (n := n) (C := fun w' => ∃ n, w' = w.drewN n) (md := .any) hB.1 ops 0 (Array.replicate ops.toArray.size false) a (by simp) (by simpa using hB.2) h
  simpa using this

/-- A region that draws its order, within a round: walked as outside of it. -/
theorem region_round {F : Fence} {n : Nat} {P : Program} {id : Nat} {Q : Exit → Act → World → Prop} {a : Act} {w : World} {ops : List Oper} (l : Nat) (hro : F.round = none) (hm : P.follows .mixedOrders = true) (hd : ops.all noDefer = true)
    (h : wpAnyIn F n P .any ops.toArray Q ops.toArray.size (Array.replicate ops.toArray.size false) a w.drew) : (Code.region id ops.toArray true).wpIn (F.inRound l) n P Q a w := by
  have hd' : ∀ (i : Nat) (o : Oper), ops.toArray[i]? = some o → ∀ c, o.op ≠ .defer c := by
    intro i o ho c e
    have hm : o ∈ ops := by
      have := List.mem_of_getElem? (by simpa using ho : ops[i]? = some o)
      exact this
    have := List.all_eq_true.1 hd o hm
    unfold noDefer at this
    rw [e] at this
    cases this
  exact wpIn_region_any hm (wpAnyIn_round l hro hd' _ _ _ _ h)

end Go.Proofs.Ytnboodcllmdjeaa

/-
  TREES IN MEMORY: places, each with its content and the places behind it.
-/
namespace Go.Proofs.Ytnboodcllmdjeaa
open Go.RowKit

def ptrTo (o : Option Nat) : Value := .pointer (o.map fun b => ⟨b, 0, none⟩)

/-- The cells of the place of a word. -/
def plc (A : List UInt8 → Option Nat) (F : List UInt8 → Int × Int) (w : List UInt8) : Array Value :=
  #[.int .i64 (F w).1, .int .i64 (F w).2, ptrTo (A (w ++ [97])), ptrTo (A (w ++ [98])), ptrTo (A (w ++ [99])), ptrTo (A (w ++ [100]))]

/-- What a call that walks and extends the places keeps: all other blocks. -/
structure Off (A : List UInt8 → Option Nat) (n : Nat) (W W' : World) : Prop where
  os : W'.os = W.os
  tape : W'.tape = W.tape
  output : W'.output = W.output
  size : W.heap.size ≤ W'.heap.size
  block : ∀ k, k < n → (∀ w, A w ≠ some k) → W'.heap[k]? = W.heap[k]?

theorem Off.below {A : List UInt8 → Option Nat} {n m : Nat} {W W' : World} (h : Off A n W W') (hm : m ≤ n) (hA : ∀ w b, A w = some b → m ≤ b) : Below m W W' :=
  ⟨h.os, h.tape, h.output, h.size, fun k hk => h.block k (by omega) fun w e => by have := hA w k e; omega⟩

theorem Off.of_below {A : List UInt8 → Option Nat} {n : Nat} {W W' : World} (h : Below n W W') : Off A n W W' :=
  ⟨h.os, h.tape, h.output, h.size, fun k hk _ => h.block k hk⟩

theorem Off.trans {A : List UInt8 → Option Nat} {n : Nat} {W W1 W2 : World} (h : Off A n W W1) (k : Off A n W1 W2) : Off A n W W2 :=
  ⟨k.os.trans h.os, k.tape.trans h.tape, k.output.trans h.output, Nat.le_trans h.size k.size, fun j hj hA => (k.block j hj hA).trans (h.block j hj hA)⟩

theorem Off.set {A : List UInt8 → Option Nat} {n : Nat} {W W' : World} (h : Off A n W W') {p : Addr} (hp : n ≤ p.block ∨ ∃ w, A w = some p.block) (v : Value) : Off A n W (W'.setCell p v) :=
  h.trans ⟨rfl, rfl, rfl, by simp [World.setCell], fun k hk hA => Below.heap_setCell _ _ _ _ (by
    rintro rfl
    rcases hp with hp | ⟨w, hw⟩
    · omega
    · exact hA w hw)⟩

theorem Off.new {A : List UInt8 → Option Nat} {n : Nat} {W W' : World} (h : Off A n W W') (hn : n ≤ W'.heap.size) (o : Obj) : Off A n W (W'.alloc o) :=
  h.trans ⟨rfl, rfl, rfl, by simp, fun k hk _ => Below.heap_alloc _ _ _ (by omega)⟩

/-- The places that a call leaves: those that there were, and new ones. -/
def Ext (A A' : List UInt8 → Option Nat) (n : Nat) : Prop := ∀ w b, (A w = some b → A' w = some b) ∧ (A' w = some b → A w = some b ∨ n ≤ b)

theorem Ext.refl (A : List UInt8 → Option Nat) (n : Nat) : Ext A A n := fun _ _ => ⟨id, .inl⟩

theorem setCell_heap {W : World} {b : Nat} {c : Array Value} {t : TypeId} (h : W.heap[b]? = some (.cells c t)) (i : Nat) (v : Value) :
    (W.setCell ⟨b, i, none⟩ v).heap[b]? = some (.cells (c.setIfInBounds i v) t) := by
  simp only [World.setCell, Array.getElem?_modify, if_pos, h, Option.map_some]
  rfl

def addA (A : List UInt8 → Option Nat) (w : List UInt8) (b : Nat) : List UInt8 → Option Nat := fun u => if u = w then some b else A u

theorem app_one_inj {a b : List UInt8} {x y : UInt8} (h : a ++ [x] = b ++ [y]) : a = b ∧ x = y := by
  have := List.append_inj' h rfl
  exact ⟨this.1, by simpa using this.2⟩

theorem addA_kids {A : List UInt8 → Option Nat} {F : List UInt8 → Int × Int} {w u : List UInt8} {c : UInt8} {n : Nat} (h : u ≠ w) : plc (addA A (w ++ [c]) n) F u = plc A F u := by
  have : ∀ x, addA A (w ++ [c]) n (u ++ [x]) = A (u ++ [x]) := fun x => by
    unfold addA; exact if_neg fun e => h (app_one_inj e).1
  unfold plc; rw [this, this, this, this]

theorem ext_add {A : List UInt8 → Option Nat} {w : List UInt8} {n b : Nat} (hn : A w = none) (hb : n ≤ b) : Ext A (addA A w b) n := fun u c => by
  unfold addA
  refine ⟨fun h => ?_, fun h => ?_⟩
  · rw [if_neg (fun e => by rw [e, hn] at h; cases h)]; exact h
  · split at h
    · right; rw [← Option.some.inj h]; exact hb
    · exact .inl h

theorem Ext.trans {A B C : List UInt8 → Option Nat} {n : Nat} (h : Ext A B n) (k : Ext B C n) : Ext A C n := fun w b =>
  ⟨fun e => (k w b).1 ((h w b).1 e), fun e => by
    rcases (k w b).2 e with e | e
    · exact (h w b).2 e
    · exact .inr e⟩

end Go.Proofs.Ytnboodcllmdjeaa

/-
  WALKS: the place of a path (impl.place.at).
-/
namespace Go.Proofs.Ytnboodcllmdjeaa
open Go.RowKit Go.Shelf

attribute [local go_sem] Oper.semAt_some

/-- The letters among the parts. -/
def wd (pre : List ByteArray) : List UInt8 := pre.flatMap (fun x => if Pm.nameBB x = true then x.data.toList else [])

theorem wd_app (pre : List ByteArray) (x : ByteArray) : wd (pre ++ [x]) = wd pre ++ (if Pm.nameBB x = true then x.data.toList else []) := by
  unfold wd; rw [List.flatMap_append]; simp

theorem name_letter {x : ByteArray} (h : Pm.nameBB x = true) : ∃ c i, x = ⟨#[c]⟩ ∧ i < 4 ∧ c = UInt8.ofNat (97 + i) := by
  obtain ⟨⟨l⟩⟩ := x
  match l, h with
  | [c], h =>
    have h' : Pm.letter c = true := h
    have := (letter_iff c).1 h'
    simp only [letters, List.mem_cons, List.not_mem_nil, or_false] at this
    rcases this with rfl | rfl | rfl | rfl
    · exact ⟨97, 0, rfl, by omega, rfl⟩
    · exact ⟨98, 1, rfl, by omega, rfl⟩
    · exact ⟨99, 2, rfl, by omega, rfl⟩
    · exact ⟨100, 3, rfl, by omega, rfl⟩
  | [], h => cases h
  | _ :: _ :: _, h => cases h

theorem wd_len (pre : List ByteArray) : (wd pre).length ≤ pre.length := by
  induction pre with
  | nil => simp [wd]
  | cons x r ih =>
    have : wd (x :: r) = (if Pm.nameBB x = true then x.data.toList else []) ++ wd r := rfl
    rw [this, List.length_append, List.length_cons]
    split
    · rename_i h
      obtain ⟨c, i, rfl, _⟩ := name_letter h
      simp; omega
    · simp; omega

theorem parts_word {v : List UInt8} (h : Wrd v) : wd (Pm.partsB (pB v)) = v ∧ (Pm.partsB (pB v)).length ≤ 4 := by
  by_cases hn : v = []
  · subst hn; decide
  · have hp : Pm.partsB (pB v) = v.map fun x => ⟨#[x]⟩ := by
      unfold Pm.partsB
      rw [pB_list, Pm.parts_path v hn h.2, List.map_map]
      rfl
    rw [hp]
    refine ⟨?_, by rw [List.length_map]; exact h.1⟩
    have hv := h.2
    clear hn hp h
    induction v with
    | nil => rfl
    | cons c r ih =>
      have hc : Pm.nameBB ⟨#[c]⟩ = true := hv c (by simp)
      have : wd ((c :: r).map fun x => (⟨#[x]⟩ : ByteArray)) = (if Pm.nameBB ⟨#[c]⟩ = true then [c] else []) ++ wd (r.map fun x => ⟨#[x]⟩) := rfl
      rw [this, if_pos hc, ih (fun x hx => hv x (List.mem_cons_of_mem _ hx))]
      rfl

theorem pB_size {v : List UInt8} (h : Wrd v) : (pB v).size ≤ 8 := by
  show (Pm.pathOf v).length ≤ 8
  unfold Pm.pathOf
  split
  · simp
  · rw [Pm.flat_length]; have := h.1; omega

theorem size_setC (W : World) (a : Addr) (v : Value) : (W.setCell a v).heap.size = W.heap.size := by simp [World.setCell]

theorem Boxed.past {W : World} {B : Nat} {t : TypeId} {v : Value} (h : Boxed W B t v) {b : Nat} (hb : B ≠ b) (i : Nat) (u : Value) : Boxed (W.setCell ⟨b, i, none⟩ u) B t v := by
  unfold Boxed at h ⊢
  rw [Below.heap_setCell _ _ _ _ hb]; exact h

end Go.Proofs.Ytnboodcllmdjeaa

/-
  WALKS: impl.treeOf.
-/
namespace Go.Proofs.Ytnboodcllmdjeaa
open Go.RowKit
set_option linter.unusedVariables false

def lastB (a : List Nd) : ByteArray := match a.getLast? with
  | none => rootB
  | some m => m.p

theorem next_iff (a : List Nd) (n : Nd) : Next a n ↔ vpB n.p = true ∧ ltB (lastB a) n.p = true ∧ validB n.k n.v = true ∧ n.k ≠ 0 ∧ (getT a (parB n.p)).1 = 1 := Iff.rfl

/-- A node that does not fit. -/
theorem not_next {ns : List Nd} {i : Nat} {n : Nd} (hn : ns[i]? = some n) (hl : ns.length ≤ 10) (hv : validT (ns.take i) = true) (h : ¬ Next (ns.take i) n) : validT ns = false := by
  rw [Bool.eq_false_iff]
  intro hc
  have h2 := valid_pre hc (i + 1)
  have hi := (List.getElem?_eq_some_iff.1 hn).1
  rw [List.take_add_one, hn] at h2
  exact h ((valid_step (by rw [List.length_take]; omega) hv).1 h2)

theorem take_next {ns : List Nd} {i : Nat} {n : Nd} (hn : ns[i]? = some n) : ns.take (i + 1) = ns.take i ++ [n] := by
  rw [List.take_add_one, hn]; rfl

theorem lastB_app (a : List Nd) (n : Nd) : lastB (a ++ [n]) = n.p := by
  unfold lastB; rw [List.getLast?_concat]

theorem leq_of (a b : ByteArray) : (Op.bytesLess a.toList b.toList || a.toList == b.toList) = !ltB b a := by
  cases h : ltB b a with
  | true =>
    have h1 : Op.bytesLess a.toList b.toList = false := ltB_asymm h
    have h2 : (a.toList == b.toList) = false := toList_ne (ltB_ne h).symm
    rw [h1, h2]; rfl
  | false =>
    by_cases h1 : ltB a b = true
    · rw [show Op.bytesLess a.toList b.toList = true from h1]; rfl
    · have e := ltB_tri (show ltB a b = false by simpa using h1) h
      subst e; simp

theorem above_last {a : List Nd} {p : ByteArray} (h : validT a = true) (h2 : ltB (lastB a) p = true) : ltB rootB p = true := by
  obtain ⟨ha, hg, _⟩ := (validT_iff a).1 h
  unfold lastB at h2
  cases hl : a.getLast? with
  | none => rw [hl] at h2; exact h2
  | some l =>
    rw [hl] at h2
    exact ltB_trans (root_lt (hg l (List.mem_of_getLast? hl)).1) h2

theorem box3_cell {w w' : World} {cs : Array Value} {t : TypeId} (hb : Below (w.alloc (.cells cs t)).heap.size (w.alloc (.cells cs t)) w') (i : Nat) : w'.cell? ⟨w.heap.size, i, none⟩ = cs[i]? := by
  rw [hb.cell (p := ⟨w.heap.size, i, none⟩) (by simp)]
  rw [World.cell?_alloc_new]

theorem off_cell {A : List UInt8 → Option Nat} {W W' : World} (h : Off A W.heap.size W W') {B : Nat} (hB : B < W.heap.size) (hA : ∀ u c, A u = some c → c < B) (i : Nat) : W'.cell? ⟨B, i, none⟩ = W.cell? ⟨B, i, none⟩ := by
  have := h.block B hB (fun u e => by have := hA u B e; omega)
  unfold World.cell?
  rw [this]

theorem ext_from {A A' : List UInt8 → Option Nat} {n m : Nat} (h : Ext A A' n) (hm : m ≤ n) (hA : ∀ u c, A u = some c → m ≤ c) : ∀ u c, A' u = some c → m ≤ c := fun u c e => by
  rcases (h u c).2 e with q | q
  · exact hA u c q
  · omega

/-- A box that no place is in. -/
def Away (A : List UInt8 → Option Nat) (B : Nat) : Prop := ∀ u, A u ≠ some B

theorem ext_box {A A' : List UInt8 → Option Nat} {n B : Nat} (h : Ext A A' n) (hB : B < n) (hA : ∀ u c, A u = some c → c < B) : Away A' B := fun u e => by
  rcases (h u B).2 e with q | q
  · have := hA u B q; omega
  · omega

theorem ext_away {A A' : List UInt8 → Option Nat} {n B : Nat} (h : Ext A A' n) (hB : B < n) (hA : Away A B) : Away A' B := fun u e => by
  rcases (h u B).2 e with q | q
  · exact hA u q
  · omega

theorem off_cell2 {A : List UInt8 → Option Nat} {W W' : World} (h : Off A W.heap.size W W') {B : Nat} (hB : B < W.heap.size) (hA : Away A B) (i : Nat) : W'.cell? ⟨B, i, none⟩ = W.cell? ⟨B, i, none⟩ := by
  have := h.block B hB hA
  unfold World.cell?
  rw [this]

theorem past2 {W : World} {B b : Nat} (h : B ≠ b) {x y : Value} {i : Nat} : ((W.setCell ⟨b, 0, none⟩ x).setCell ⟨b, 1, none⟩ y).cell? ⟨B, i, none⟩ = W.cell? ⟨B, i, none⟩ := by
  rw [World.cell?_setCell_other _ _ _ _ (fun e => h (congrArg Addr.block e).symm), World.cell?_setCell_other _ _ _ _ (fun e => h (congrArg Addr.block e).symm)]

end Go.Proofs.Ytnboodcllmdjeaa

/-
  WALKS: impl.TreeValid, impl.TreeGet.
-/
namespace Go.Proofs.Ytnboodcllmdjeaa
open Go.RowKit
theorem treeGet_bad {ns : List Nd} {p : ByteArray} (h : validT ns = false ∨ vpB p = false) : treeGet ns p = (0, 0) := by
  unfold treeGet
  rcases h with h | h <;> simp [h]

end Go.Proofs.Ytnboodcllmdjeaa
