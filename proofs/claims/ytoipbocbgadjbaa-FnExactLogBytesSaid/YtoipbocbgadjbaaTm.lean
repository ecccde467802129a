/-
  PLAIN MATHEMATICS OF TREES: lists of nodes that ascend, what is put into them, what is under a path.
-/
import Derived.Sort.Walk0
import Derived.Lib.Strings
import Derived.Test.YtoipbocbgadjbaaPq
namespace Go.Proofs.Ytoipbocbgadjbaa

/-- A node: its path, and the kind and the value of its content. -/
structure Nd where
  p : ByteArray
  k : Int
  v : Int

/-- The order of texts, byte by byte. -/
def ltB (a b : ByteArray) : Bool := Op.bytesLess a.toList b.toList

theorem ltB_iff (a b : ByteArray) : ltB a b = true ↔ a.data.toList < b.data.toList := by
  unfold ltB; rw [Go.Proofs.bytesLess_eq, Lib.toList_data, Lib.toList_data]; simp

theorem ltB_irrefl (a : ByteArray) : ltB a a = false := by
  rw [Bool.eq_false_iff]; exact fun h => List.lt_irrefl _ ((ltB_iff a a).1 h)

theorem ltB_trans {a b c : ByteArray} (h : ltB a b = true) (k : ltB b c = true) : ltB a c = true :=
  (ltB_iff a c).2 (List.lt_trans ((ltB_iff a b).1 h) ((ltB_iff b c).1 k))

theorem ltB_asymm {a b : ByteArray} (h : ltB a b = true) : ltB b a = false := by
  rw [Bool.eq_false_iff]; exact fun k => List.lt_asymm ((ltB_iff a b).1 h) ((ltB_iff b a).1 k)

theorem ltB_tri {a b : ByteArray} (h : ltB a b = false) (k : ltB b a = false) : a = b := by
  have h' : ¬ a.data.toList < b.data.toList := fun x => by rw [(ltB_iff a b).2 x] at h; cases h
  have k' : ¬ b.data.toList < a.data.toList := fun x => by rw [(ltB_iff b a).2 x] at k; cases k
  have e := List.le_antisymm (List.not_lt.1 k') (List.not_lt.1 h')
  rw [← Lib.mk_data a, ← Lib.mk_data b, e]

theorem ltB_ne {a b : ByteArray} (h : ltB a b = true) : a ≠ b := fun e => by rw [e, ltB_irrefl] at h; cases h

/-- Paths ascend. -/
def Asc (ns : List Nd) : Prop := ns.Pairwise (fun x y => ltB x.p y.p = true)

def look (ns : List Nd) (p : ByteArray) : Option Nd := ns.find? (fun n => decide (n.p = p))
def getL (ns : List Nd) (p : ByteArray) : Int × Int := match look ns p with
  | some n => (n.k, n.v)
  | none => (0, 0)
def getT (ns : List Nd) (p : ByteArray) : Int × Int := if p = ⟨#[47]⟩ then (1, 0) else getL ns p

theorem look_some {ns : List Nd} {p : ByteArray} {n : Nd} (h : look ns p = some n) : n ∈ ns ∧ n.p = p :=
  ⟨List.mem_of_find?_eq_some h, by simpa using List.find?_some h⟩

theorem look_none {ns : List Nd} {p : ByteArray} : look ns p = none ↔ ∀ n ∈ ns, n.p ≠ p := by
  unfold look; rw [List.find?_eq_none]; simp

theorem asc_cons {n : Nd} {r : List Nd} : Asc (n :: r) ↔ (∀ m ∈ r, ltB n.p m.p = true) ∧ Asc r := List.pairwise_cons

theorem look_mem {ns : List Nd} (ha : Asc ns) {n : Nd} (h : n ∈ ns) : look ns n.p = some n := by
  induction ns with
  | nil => cases h
  | cons m r ih =>
    obtain ⟨h1, h2⟩ := asc_cons.1 ha
    unfold look
    rw [List.find?_cons]
    by_cases e : m.p = n.p
    · rw [decide_eq_true e]
      rcases List.mem_cons.1 h with rfl | h
      · rfl
      · exact absurd e (ltB_ne (h1 n h))
    · rw [decide_eq_false e]
      rcases List.mem_cons.1 h with rfl | h
      · exact absurd rfl e
      · exact ih h2 h

theorem look_cons_self (n : Nd) (r : List Nd) : look (n :: r) n.p = some n := by
  unfold look; rw [List.find?_cons, decide_eq_true rfl]

theorem look_cons_ne {n : Nd} {r : List Nd} {p : ByteArray} (h : n.p ≠ p) : look (n :: r) p = look r p := by
  unfold look; rw [List.find?_cons, decide_eq_false h]

theorem look_tail {n : Nd} {r : List Nd} (h : ∀ m ∈ r, ltB n.p m.p = true) : look r n.p = none :=
  look_none.2 fun m hm e => by have := ltB_ne (h m hm); exact this e.symm

/-- Trees are told by their contents. -/
theorem asc_ext : ∀ {a b : List Nd}, Asc a → Asc b → (∀ p, look a p = look b p) → a = b
  | [], [], _, _, _ => rfl
  | [], y :: b, _, _, h => by have := h y.p; rw [look_cons_self] at this; cases this
  | x :: a, [], _, _, h => by have := h x.p; rw [look_cons_self] at this; cases this
  | x :: a, y :: b, ha, hb, h => by
    obtain ⟨hx, ha'⟩ := asc_cons.1 ha
    obtain ⟨hy, hb'⟩ := asc_cons.1 hb
    have e : x.p = y.p := by
      by_cases e : x.p = y.p
      · exact e
      · have h1 : look b x.p = some x := by rw [← look_cons_ne (n := y) (fun q => e q.symm), ← h, look_cons_self]
        have h2 : look a y.p = some y := by rw [← look_cons_ne (n := x) e, h, look_cons_self]
        have l1 := hy x (look_some h1).1
        have l2 := hx y (look_some h2).1
        rw [ltB_asymm l1] at l2; cases l2
    have exy : x = y := by
      have := h x.p
      rw [look_cons_self, e, look_cons_self] at this
      exact Option.some.inj this
    subst exy
    rw [asc_ext ha' hb' (fun p => by
      by_cases q : x.p = p
      · subst q; rw [look_tail hx, look_tail hy]
      · rw [← look_cons_ne (n := x) q, h, look_cons_ne q])]

/-! ## Putting -/

/-- What l3Put makes, from a place on. -/
def putGo (p : ByteArray) (k v : Int) : Bool → List Nd → List Nd
  | done, [] => if done = true then [] else [⟨p, k, v⟩]
  | done, n :: r =>
    if done = false ∧ ltB p n.p = true then ⟨p, k, v⟩ :: (if n.p = p then putGo p k v true r else n :: putGo p k v true r)
    else if n.p = p then (if done = true then putGo p k v true r else ⟨p, k, v⟩ :: putGo p k v true r)
    else n :: putGo p k v done r

def putL (ns : List Nd) (p : ByteArray) (k v : Int) : List Nd := putGo p k v (k == 0) ns

theorem putGo_true (p : ByteArray) (k v : Int) (ns : List Nd) : putGo p k v true ns = ns.filter (fun n => decide (n.p ≠ p)) := by
  induction ns with
  | nil => rfl
  | cons n r ih =>
    unfold putGo
    rw [if_neg (by simp)]
    by_cases e : n.p = p
    · rw [if_pos e, if_pos rfl, ih, List.filter_cons_of_neg (by simpa using e)]
    · rw [if_neg e, ih, List.filter_cons_of_pos (by simpa using e)]

theorem putGo_mem (p : ByteArray) (k v : Int) (x : Nd) : ∀ ns : List Nd, x ∈ putGo p k v false ns ↔ x = ⟨p, k, v⟩ ∨ (x ∈ ns ∧ x.p ≠ p)
  | [] => by simp [putGo]
  | n :: r => by
    have ih := putGo_mem p k v x r
    unfold putGo
    rw [putGo_true]
    by_cases h : ltB p n.p = true
    · rw [if_pos ⟨rfl, h⟩]
      have e : ¬ n.p = p := fun e => ltB_ne h e.symm
      rw [if_neg e]
      simp only [List.mem_cons, List.mem_filter, decide_eq_true_eq]
      constructor
      · rintro (h1 | h1 | h1)
        · exact .inl h1
        · subst h1; exact .inr ⟨.inl rfl, e⟩
        · exact .inr ⟨.inr h1.1, h1.2⟩
      · rintro (h1 | ⟨h1 | h1, h2⟩)
        · exact .inl h1
        · exact .inr (.inl h1)
        · exact .inr (.inr ⟨h1, h2⟩)
    · rw [if_neg (fun c => h c.2)]
      by_cases e : n.p = p
      · rw [if_pos e, if_neg (by simp)]
        simp only [List.mem_cons, List.mem_filter, decide_eq_true_eq]
        constructor
        · rintro (h1 | h1)
          · exact .inl h1
          · exact .inr ⟨.inr h1.1, h1.2⟩
        · rintro (h1 | ⟨h1 | h1, h2⟩)
          · exact .inl h1
          · subst h1; exact absurd e h2
          · exact .inr ⟨h1, h2⟩
      · rw [if_neg e, List.mem_cons, ih, List.mem_cons]
        constructor
        · rintro (h1 | h1 | h1)
          · subst h1; exact .inr ⟨.inl rfl, e⟩
          · exact .inl h1
          · exact .inr ⟨.inr h1.1, h1.2⟩
        · rintro (h1 | ⟨h1 | h1, h2⟩)
          · exact .inr (.inl h1)
          · exact .inl h1
          · exact .inr (.inr ⟨h1, h2⟩)

theorem asc_filter {ns : List Nd} (h : Asc ns) (q : Nd → Bool) : Asc (ns.filter q) := List.Pairwise.filter q h

theorem putGo_asc (p : ByteArray) (k v : Int) : ∀ {ns : List Nd}, Asc ns → Asc (putGo p k v false ns)
  | [], _ => by simp [putGo, Asc]
  | n :: r, h => by
    obtain ⟨h1, h2⟩ := asc_cons.1 h
    unfold putGo
    rw [putGo_true]
    by_cases hl : ltB p n.p = true
    · rw [if_pos ⟨rfl, hl⟩, if_neg (fun e => ltB_ne hl e.symm)]
      refine asc_cons.2 ⟨fun m hm => ?_, asc_cons.2 ⟨fun m hm => h1 m (List.mem_filter.1 hm).1, asc_filter h2 _⟩⟩
      rcases List.mem_cons.1 hm with rfl | hm
      · exact hl
      · exact ltB_trans hl (h1 m (List.mem_filter.1 hm).1)
    · rw [if_neg (fun c => hl c.2)]
      by_cases e : n.p = p
      · rw [if_pos e, if_neg (by simp)]
        refine asc_cons.2 ⟨fun m hm => ?_, asc_filter h2 _⟩
        rw [← e]; exact h1 m (List.mem_filter.1 hm).1
      · rw [if_neg e]
        refine asc_cons.2 ⟨fun m hm => ?_, putGo_asc p k v h2⟩
        rcases (putGo_mem p k v m r).1 hm with rfl | hm
        · by_cases l : ltB n.p p = true
          · exact l
          · exact absurd (ltB_tri (by simpa using l) (by simpa using hl)) e
        · exact h1 m hm.1

theorem putL_mem {ns : List Nd} {p : ByteArray} {k v : Int} {x : Nd} : x ∈ putL ns p k v ↔ (k ≠ 0 ∧ x = ⟨p, k, v⟩) ∨ (x ∈ ns ∧ x.p ≠ p) := by
  unfold putL
  by_cases h : k = 0
  · rw [show (k == 0) = true by simpa using h, putGo_true]
    simp [h, List.mem_filter]
  · rw [show (k == 0) = false by simpa using h, putGo_mem]
    simp [h]

theorem putL_asc {ns : List Nd} (h : Asc ns) (p : ByteArray) (k v : Int) : Asc (putL ns p k v) := by
  unfold putL
  cases k == 0 with
  | true => rw [putGo_true]; exact asc_filter h _
  | false => exact putGo_asc p k v h

theorem look_put {ns : List Nd} (h : Asc ns) (p : ByteArray) (k v : Int) (q : ByteArray) :
    look (putL ns p k v) q = if q = p then (if k = 0 then none else some ⟨p, k, v⟩) else look ns q := by
  have ha := putL_asc h p k v
  by_cases e : q = p
  · rw [if_pos e]
    subst e
    by_cases hk : k = 0
    · rw [if_pos hk, look_none]
      intro n hn
      rcases putL_mem.1 hn with h1 | h1
      · exact absurd hk h1.1
      · exact h1.2
    · rw [if_neg hk]
      exact look_mem ha (n := ⟨q, k, v⟩) (putL_mem.2 (.inl ⟨hk, rfl⟩))
  · rw [if_neg e]
    cases hl : look ns q with
    | some n =>
      obtain ⟨h1, h2⟩ := look_some hl
      subst h2
      exact look_mem ha (putL_mem.2 (.inr ⟨h1, e⟩))
    | none =>
      rw [look_none]
      intro n hn
      rcases putL_mem.1 hn with h1 | h1
      · rw [h1.2]; exact fun x => e x.symm
      · exact look_none.1 hl n h1.1

theorem filter_length : ∀ {ns : List Nd}, Asc ns → ∀ (p : ByteArray), (ns.filter (fun n => decide (n.p ≠ p))).length + (if look ns p = none then 0 else 1) = ns.length
  | [], _, p => by simp [look]
  | n :: r, h, p => by
    obtain ⟨h1, h2⟩ := asc_cons.1 h
    by_cases e : n.p = p
    · rw [List.filter_cons_of_neg (by simpa using e)]
      subst e
      rw [look_cons_self, if_neg (by simp)]
      have := filter_length h2 n.p
      rw [look_tail h1, if_pos rfl] at this
      simp only [List.length_cons]; omega
    · rw [List.filter_cons_of_pos (by simpa using e), look_cons_ne e]
      have := filter_length h2 p
      simp only [List.length_cons]; omega

theorem putGo_length (p : ByteArray) (k v : Int) : ∀ ns : List Nd, (putGo p k v false ns).length = (ns.filter (fun n => decide (n.p ≠ p))).length + 1
  | [] => rfl
  | n :: r => by
    have ih := putGo_length p k v r
    unfold putGo
    rw [putGo_true]
    by_cases h : ltB p n.p = true
    · have e : ¬ n.p = p := fun e => ltB_ne h e.symm
      rw [if_pos ⟨rfl, h⟩, if_neg e, List.filter_cons_of_pos (by simpa using e)]
      simp
    · rw [if_neg (fun c => h c.2)]
      by_cases e : n.p = p
      · rw [if_pos e, if_neg (by simp), List.filter_cons_of_neg (by simpa using e)]
        simp
      · rw [if_neg e, List.filter_cons_of_pos (by simpa using e)]
        simp only [List.length_cons, ih]

/-- How many nodes there are behind a put. -/
theorem putL_length {ns : List Nd} (h : Asc ns) (p : ByteArray) (k v : Int) :
    (putL ns p k v).length + (if look ns p = none then 0 else 1) = ns.length + (if k = 0 then 0 else 1) := by
  have hf := filter_length h p
  unfold putL
  by_cases hk : k = 0
  · rw [show (k == 0) = true by simpa using hk, putGo_true, if_pos hk]; exact hf
  · rw [show (k == 0) = false by simpa using hk, putGo_length, if_neg hk]; omega

end Go.Proofs.Ytoipbocbgadjbaa
