/-
  PLAIN MATHEMATICS OF TREES, more: valid trees, and what the document promises of them.
-/
import Derived.Test.YtoipbocbgadjbaaTm
import Derived.Test.YtoipbocbgadjbaaCv
namespace Go.Proofs.Ytoipbocbgadjbaa

def parB (s : ByteArray) : ByteArray := ⟨⟨Pm.parent s.data.toList⟩⟩
def depB (s : ByteArray) : Int := Pm.depth s.data.toList
def vpB (s : ByteArray) : Bool := Pm.valid s.data.toList
def undB (a b : ByteArray) : Bool := Pm.under a.data.toList b.data.toList
def rootB : ByteArray := ⟨#[47]⟩

/-- What is asked of the node at a place. -/
def okAt (ns : List Nd) (i : Nat) : Bool := match ns[i]? with
  | none => true
  | some n => decide (1 ≤ depB n.p) && validB n.k n.v && !(n.k == 0) && (match i with | 0 => true | j + 1 => (match ns[j]? with | some m => ltB m.p n.p | none => true)) && ((getT ns (parB n.p)).1 == 1)

/-- spec.TreeValid. -/
def validT (ns : List Nd) : Bool := (List.range ns.length).all (okAt ns) && decide (ns.length ≤ 10)

/-- What a node is in a tree. -/
def Good (ns : List Nd) (n : Nd) : Prop := 1 ≤ depB n.p ∧ validB n.k n.v = true ∧ n.k ≠ 0 ∧ (getT ns (parB n.p)).1 = 1

theorem asc_iff (ns : List Nd) : Asc ns ↔ ∀ j m n, ns[j]? = some m → ns[j + 1]? = some n → ltB m.p n.p = true := by
  constructor
  · intro h j m n hm hn
    obtain ⟨h1, e1⟩ := List.getElem?_eq_some_iff.1 hm
    obtain ⟨h2, e2⟩ := List.getElem?_eq_some_iff.1 hn
    have := List.pairwise_iff_getElem.1 h j (j + 1) h1 h2 (by omega)
    rw [e1, e2] at this; exact this
  · intro h
    induction ns with
    | nil => exact List.Pairwise.nil
    | cons x r ih =>
      have hr : Asc r := ih (fun j m n hm hn => h (j + 1) m n (by simpa using hm) (by simpa using hn))
      refine asc_cons.2 ⟨fun m hm => ?_, hr⟩
      cases r with
      | nil => cases hm
      | cons y r =>
        have hxy := h 0 x y rfl rfl
        rcases List.mem_cons.1 hm with rfl | hm
        · exact hxy
        · exact ltB_trans hxy ((asc_cons.1 hr).1 m hm)

theorem validT_iff (ns : List Nd) : validT ns = true ↔ Asc ns ∧ (∀ n ∈ ns, Good ns n) ∧ ns.length ≤ 10 := by
  unfold validT
  rw [Bool.and_eq_true, List.all_eq_true, decide_eq_true_eq]
  constructor
  · rintro ⟨h, hl⟩
    have h' : ∀ (i : Nat) (n : Nd), ns[i]? = some n → okAt ns i = true := fun i n hn => h i (List.mem_range.2 (List.getElem?_eq_some_iff.1 hn).1)
    refine ⟨(asc_iff ns).2 fun j m n hm hn => ?_, fun n hn => ?_, hl⟩
    · have := h' (j + 1) n hn
      unfold okAt at this
      rw [hn] at this
      simp only [hm] at this
      simp only [Bool.and_eq_true] at this
      exact this.1.2
    · obtain ⟨i, hi⟩ := List.getElem?_of_mem hn
      have := h' i n hi
      unfold okAt at this
      rw [hi] at this
      simp only [Bool.and_eq_true, decide_eq_true_eq] at this
      exact ⟨this.1.1.1.1, this.1.1.1.2, by simpa using this.1.1.2, by simpa using this.2⟩
  · rintro ⟨ha, hg, hl⟩
    refine ⟨fun i hi => ?_, hl⟩
    obtain ⟨n, hn⟩ : ∃ n, ns[i]? = some n := ⟨_, List.getElem?_eq_getElem (List.mem_range.1 hi)⟩
    obtain ⟨g1, g2, g3, g4⟩ := hg n (List.mem_of_getElem? hn)
    unfold okAt
    rw [hn]
    simp only [Bool.and_eq_true, decide_eq_true_eq]
    refine ⟨⟨⟨⟨g1, g2⟩, by simpa using g3⟩, ?_⟩, by simpa using g4⟩
    cases i with
    | zero => rfl
    | succ j =>
      cases hm : ns[j]? with
      | none => simp [hm]
      | some m => simpa [hm] using (asc_iff ns).1 ha j m n hm hn

/-- spec.TreeGet. -/
def treeGet (ns : List Nd) (p : ByteArray) : Int × Int := if (validT ns && vpB p) = true then getT ns p else (0, 0)
/-- spec.TreePut. -/
def treePut (ns : List Nd) (p : ByteArray) (k v : Int) : Option (List Nd) :=
  if (validT ns && decide (1 ≤ depB p) && validB k v) = true then (if validT (putL ns p k v) = true then some (putL ns p k v) else none) else none
/-- spec.TreeUnder. -/
def treeUnder (ns : List Nd) (p : ByteArray) : List ByteArray := if (validT ns && vpB p) = true then (ns.filter (fun n => undB p n.p)).map Nd.p else []

/-! ## Paths -/

theorem parB_valid {p : ByteArray} (h : 1 ≤ depB p) : vpB (parB p) = true ∧ depB (parB p) = depB p - 1 ∧ undB (parB p) p = true ∧ undB p (parB p) = false := by
  have hne : Pm.parent p.data.toList ≠ [] := by
    unfold Pm.parent
    rw [if_neg (by unfold depB at h; omega)]
    split
    · simp
    · rename_i hl
      intro e
      have := congrArg List.length e
      rw [List.length_take] at this
      simp only [List.length_nil] at this
      omega
  exact Pm.parent_facts p.data.toList hne

theorem vp_of_depth {p : ByteArray} (h : 1 ≤ depB p) : vpB p = true := by
  unfold depB Pm.depth at h
  unfold vpB
  split at h
  · assumption
  · omega

theorem depth_root_B : depB rootB = 0 := by decide

theorem root_of_depth {p : ByteArray} (hv : vpB p = true) (h : ¬ 1 ≤ depB p) : p = rootB := by
  have := Pm.depth_facts p.data.toList hv
  by_cases e : p.data.toList = [47]
  · rw [← Lib.mk_data p, e]; rfl
  · exact absurd (by have := (this.2 e).1; unfold depB; omega) h

theorem getT_root (ns : List Nd) : getT ns rootB = (1, 0) := by unfold getT; exact if_pos rfl
theorem getT_other {ns : List Nd} {p : ByteArray} (h : 1 ≤ depB p) : getT ns p = getL ns p := by
  unfold getT
  rw [if_neg (fun e => by rw [e] at h; exact absurd h (by decide))]

theorem und_depth {a b : ByteArray} (h : undB a b = true) : vpB a = true ∧ 1 ≤ depB b ∧ depB a < depB b := by
  unfold undB Pm.under at h
  have h1 : Pm.valid a.data.toList = true ∧ Pm.valid b.data.toList = true := by
    simp only [Bool.and_eq_true] at h
    exact h.1
  have h2 : Pm.under a.data.toList b.data.toList = true := h
  rw [← Pm.under_impl] at h2
  simp only [Bool.and_eq_true, decide_eq_true_eq] at h2
  exact ⟨h1.1, by unfold depB; omega, by unfold depB; omega⟩

theorem und_trans_par {a b : ByteArray} (h : undB a b = true) : parB b = a ∨ undB a (parB b) = true := by
  rcases Pm.under_facts _ _ h with e | e
  · left
    rw [← Lib.mk_data a, ← e]; rfl
  · exact .inr e

theorem par_lt {p : ByteArray} (h : 1 ≤ depB (parB p)) : ltB (parB p) p = true := by
  have hp : 1 ≤ depB p := by
    by_cases h1 : 1 ≤ depB p
    · exact h1
    · exfalso
      have : parB p = ⟨⟨[]⟩⟩ := by
        unfold parB Pm.parent
        rw [if_pos (by unfold depB at h1; omega)]
      rw [this] at h
      exact absurd h (by decide)
  rw [ltB_iff]
  have e : (parB p).data.toList = Pm.parent p.data.toList := rfl
  rw [e]
  rw [show depB (parB p) = Pm.depth (Pm.parent p.data.toList) from rfl] at h
  unfold Pm.parent at h ⊢
  rw [if_neg (by unfold depB at hp; omega)] at h ⊢
  by_cases hl : p.data.toList.length ≤ 2
  · rw [if_pos hl] at h
    exact absurd h (by decide)
  · rw [if_neg hl]
    have key : ∀ (l : List UInt8) (m : Nat), m < l.length → l.take m < l := by
      intro l
      induction l with
      | nil => intro m hm; simp at hm
      | cons c r ih =>
        intro m hm
        cases m with
        | zero => simp
        | succ m =>
          rw [List.take_succ_cons, List.cons_lt_cons_iff]
          exact .inr ⟨rfl, ih m (by simpa using hm)⟩
    exact key _ _ (by omega)

end Go.Proofs.Ytoipbocbgadjbaa
