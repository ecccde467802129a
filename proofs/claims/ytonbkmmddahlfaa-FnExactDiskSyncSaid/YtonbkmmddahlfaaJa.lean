/-
  PLAIN MATHEMATICS OF DISKS (chapter 31): files, disks, what is read, written, made safe, renamed, and left by a crash; the promises P110 to P118.
-/
import Derived.Test.YtonbkmmddahlfaaFm
namespace Go.Proofs.Ytonbkmmddahlfaa

/-- A file: its number, its safe bytes, its fresh ones. -/
structure Bl where
  n : Int
  s : List Int
  f : List Int

def blOk (b : Bl) : Bool := decide (1 ≤ b.n ∧ b.n ≤ 3) && (b.s.all byteOk && (b.f.all byteOk && decide (b.s.length + b.f.length ≤ 400)))
/-- Files with numbers that ascend from l on. -/
def dvalid : Int → List Bl → Bool
  | _, [] => true
  | l, b :: r => blOk b && (decide (l < b.n) && dvalid b.n r)
def diskV (bs : List Bl) : Bool := dvalid 0 bs
def allB (b : Bl) : List Int := b.s ++ b.f
def findB (bs : List Bl) (n : Int) : Option Bl := bs.find? (fun b => b.n == n)
def withoutB (bs : List Bl) (n : Int) : List Bl := bs.filter (fun b => b.n != n)
def insB (b : Bl) : List Bl → List Bl
  | [] => [b]
  | c :: r => if b.n < c.n then b :: c :: r else c :: insB b r
def withB (bs : List Bl) (b : Bl) : List Bl := insB b (withoutB bs b.n)

def diskRead (bs : List Bl) (n : Int) : Option (List Int) := if diskV bs = true then (findB bs n).map allB else none
def writeB (bs : List Bl) (n : Int) (zs : List Int) : Bl := ⟨n, ((findB bs n).getD ⟨n, [], []⟩).s, ((findB bs n).getD ⟨n, [], []⟩).f ++ zs⟩
def diskWrite (bs : List Bl) (n : Int) (zs : List Int) : Option (List Bl) :=
  if (diskV bs && (zs.all byteOk && diskV (withB bs (writeB bs n zs)))) = true then some (withB bs (writeB bs n zs)) else none
def diskSync (bs : List Bl) (n : Int) : Option (List Bl) :=
  if diskV bs = true then (findB bs n).map (fun b => withB bs ⟨n, allB b, []⟩) else none
def diskRename (bs : List Bl) (a c : Int) : Option (List Bl) :=
  if (diskV bs && decide (1 ≤ c ∧ c ≤ 3)) = true then (findB bs a).map (fun b => withB (withoutB bs a) ⟨c, b.s, b.f⟩) else none
def keepK (keep : List Int) (n : Int) : Nat := (keep.getD (n - 1).toNat 0).toNat
def crashB (keep : List Int) (b : Bl) : Bl := ⟨b.n, b.s ++ b.f.take (keepK keep b.n), []⟩
def keepOk (keep : List Int) : Bool := decide (keep.length ≤ 3) && keep.all (fun k => decide (0 ≤ k ∧ k ≤ 400))
def diskCrash (bs : List Bl) (keep : List Int) : Option (List Bl) := if (diskV bs && keepOk keep) = true then some (bs.map (crashB keep)) else none

/-! ## A disk as three places -/

abbrev Fs := Int → Option Bl
def ofF (F : Fs) : List Bl := (F 1).toList ++ ((F 2).toList ++ (F 3).toList)
def GoodF (F : Fs) : Prop := ∀ k b, F k = some b → b.n = k ∧ blOk b = true
def updF (F : Fs) (k : Int) (o : Option Bl) : Fs := fun j => if j = k then o else F j

theorem blOk_iff (b : Bl) : blOk b = true ↔ (1 ≤ b.n ∧ b.n ≤ 3) ∧ b.s.all byteOk = true ∧ b.f.all byteOk = true ∧ b.s.length + b.f.length ≤ 400 := by
  unfold blOk; simp only [Bool.and_eq_true, decide_eq_true_eq]

theorem GoodF.out {F : Fs} (h : GoodF F) {k : Int} (hk : ¬ (1 ≤ k ∧ k ≤ 3)) : F k = none := by
  cases e : F k with
  | none => rfl
  | some b =>
    obtain ⟨e1, e2⟩ := h k b e
    have := ((blOk_iff b).1 e2).1
    omega

theorem dvalid_low : ∀ {bs : List Bl} {l : Int}, dvalid l bs = true → ∀ b ∈ bs, l < b.n ∧ blOk b = true
  | [], _, _ => by simp
  | c :: r, l, h => by
    unfold dvalid at h
    simp only [Bool.and_eq_true, decide_eq_true_eq] at h
    intro b hb
    rcases List.mem_cons.1 hb with rfl | hb
    · exact ⟨h.2.1, h.1⟩
    · obtain ⟨h1, h2⟩ := dvalid_low h.2.2 b hb
      exact ⟨by omega, h2⟩

theorem find_low {bs : List Bl} {l k : Int} (h : dvalid l bs = true) (hk : k ≤ l) : findB bs k = none := by
  unfold findB
  rw [List.find?_eq_none]
  intro b hb e
  have := (dvalid_low h b hb).1
  have e2 : b.n = k := by simpa using e
  omega

/-- A valid list is that of its places. -/
theorem three_of : ∀ {bs : List Bl} {l : Int}, dvalid l bs = true → bs = (if l < 1 then (findB bs 1).toList else []) ++ ((if l < 2 then (findB bs 2).toList else []) ++ (if l < 3 then (findB bs 3).toList else []))
  | [], l, _ => by simp [findB]
  | c :: r, l, h => by
    have h0 := h
    unfold dvalid at h
    simp only [Bool.and_eq_true, decide_eq_true_eq] at h
    obtain ⟨h1, h2, h3⟩ := h
    have hn := ((blOk_iff c).1 h1).1
    have ih := three_of h3
    have f1 : ∀ k, findB (c :: r) k = if c.n = k then some c else findB r k := by
      intro k
      unfold findB
      rw [List.find?_cons]
      by_cases e : c.n = k
      · rw [if_pos e]; simp [e]
      · rw [if_neg e, show (c.n == k) = false by simpa using e]
    rw [f1, f1, f1]
    have hc : c.n = 1 ∨ c.n = 2 ∨ c.n = 3 := by omega
    rcases hc with e | e | e
    · rw [e] at ih h2 h3 ⊢
      have : l < 1 := h2
      rw [if_pos this, if_pos (show l < 2 by omega), if_pos (show l < 3 by omega)]
      simp only [if_neg (show ¬ (1 : Int) = 2 by omega), if_neg (show ¬ (1 : Int) = 3 by omega)]
      simp at ih ⊢
      exact ih
    · rw [e] at ih h2 h3 ⊢
      rw [if_pos h2, if_pos (show l < 3 by omega)]
      have g := find_low (k := 1) h3 (by omega)
      simp only [if_neg (show ¬ (2 : Int) = 1 by omega), if_neg (show ¬ (2 : Int) = 3 by omega), g]
      simp at ih ⊢
      exact ih
    · rw [e] at ih h2 h3 ⊢
      rw [if_pos h2]
      have g := find_low (k := 1) h3 (by omega)
      have g2 := find_low (k := 2) h3 (by omega)
      simp only [if_neg (show ¬ (3 : Int) = 1 by omega), if_neg (show ¬ (3 : Int) = 2 by omega), g, g2]
      simp at ih ⊢
      exact ih

theorem disk_of {bs : List Bl} (h : diskV bs = true) : GoodF (findB bs) ∧ bs = ofF (findB bs) := by
  refine ⟨fun k b e => ?_, ?_⟩
  · have hm : b ∈ bs := List.mem_of_find?_eq_some e
    have he := List.find?_some e
    exact ⟨by simpa using he, (dvalid_low h b hm).2⟩
  · have := three_of h
    rw [if_pos (by omega), if_pos (by omega), if_pos (by omega)] at this
    exact this

/-- The places of a list of places. -/
theorem valid_ofF {F : Fs} (h : GoodF F) : diskV (ofF F) = true := by
  unfold diskV ofF
  cases e1 : F 1 with
  | none =>
    cases e2 : F 2 with
    | none =>
      cases e3 : F 3 with
      | none => rfl
      | some c => obtain ⟨c1, c2⟩ := h 3 c e3; simp [dvalid, c1, c2]
    | some b =>
      obtain ⟨b1, b2⟩ := h 2 b e2
      cases e3 : F 3 with
      | none => simp [dvalid, b1, b2]
      | some c => obtain ⟨c1, c2⟩ := h 3 c e3; simp [dvalid, c1, c2, b1, b2]
  | some a =>
    obtain ⟨a1, a2⟩ := h 1 a e1
    cases e2 : F 2 with
    | none =>
      cases e3 : F 3 with
      | none => simp [dvalid, a1, a2]
      | some c => obtain ⟨c1, c2⟩ := h 3 c e3; simp [dvalid, c1, c2, a1, a2]
    | some b =>
      obtain ⟨b1, b2⟩ := h 2 b e2
      cases e3 : F 3 with
      | none => simp [dvalid, b1, b2, a1, a2]
      | some c => obtain ⟨c1, c2⟩ := h 3 c e3; simp [dvalid, c1, c2, b1, b2, a1, a2]

/-- Numbers alone. -/
def NumF (F : Fs) : Prop := ∀ k b, F k = some b → b.n = k
theorem GoodF.num {F : Fs} (h : GoodF F) : NumF F := fun k b e => (h k b e).1

theorem find_ofF {F : Fs} (h : NumF F) {k : Int} (hk : (1 ≤ k ∧ k ≤ 3) ∨ F k = none) : findB (ofF F) k = F k := by
  unfold findB ofF
  have g : ∀ j (b : Bl), F j = some b → (b.n == k) = decide (j = k) := fun j b e => by rw [h j b e]; rfl
  rw [List.find?_append, List.find?_append]
  have key : ∀ j : Int, List.find? (fun b => b.n == k) (F j).toList = if j = k then F j else none := by
    intro j
    cases e : F j with
    | none => simp
    | some b =>
      rw [Option.toList_some, List.find?_cons, g j b e]
      by_cases ej : j = k
      · simp [ej]
      · simp [ej]
  rw [key, key, key]
  rcases hk with hk | hk
  · have hc : k = 1 ∨ k = 2 ∨ k = 3 := by omega
    rcases hc with rfl | rfl | rfl <;> simp
  · rw [hk]
    by_cases e1 : (1 : Int) = k
    · subst e1; simp [hk]
    · by_cases e2 : (2 : Int) = k
      · subst e2; simp [hk]
      · by_cases e3 : (3 : Int) = k
        · subst e3; simp [hk]
        · simp [e1, e2, e3]

theorem find_good {F : Fs} (h : GoodF F) (k : Int) : findB (ofF F) k = F k :=
  find_ofF h.num (by by_cases e : 1 ≤ k ∧ k ≤ 3; exact .inl e; exact .inr (h.out e))

theorem without_ofF {F : Fs} (h : NumF F) (k : Int) : withoutB (ofF F) k = ofF (updF F k none) := by
  unfold withoutB ofF
  rw [List.filter_append, List.filter_append]
  have key : ∀ j : Int, List.filter (fun b => b.n != k) (F j).toList = (updF F k none j).toList := by
    intro j
    unfold updF
    cases e : F j with
    | none => simp
    | some b =>
      have := h j b e
      by_cases ej : j = k
      · simp [this, ej]
      · simp [this, ej]
  rw [key, key, key]

theorem ins_ofF {F : Fs} (h : NumF F) (b : Bl) (hb : 1 ≤ b.n ∧ b.n ≤ 3) (h0 : F b.n = none) : insB b (ofF F) = ofF (updF F b.n (some b)) := by
  have hc : b.n = 1 ∨ b.n = 2 ∨ b.n = 3 := by omega
  unfold ofF updF
  rcases hc with e | e | e
  · rw [e] at h0
    rw [e, h0]
    simp only [if_pos, if_neg (show ¬ (2 : Int) = 1 by omega), if_neg (show ¬ (3 : Int) = 1 by omega)]
    cases e2 : F 2 with
    | none =>
      cases e3 : F 3 with
      | none => simp [insB]
      | some c => simp [insB, h 3 c e3, e]
    | some c2 => simp [insB, h 2 c2 e2, e]
  · rw [e] at h0
    rw [e, h0]
    simp only [if_pos, if_neg (show ¬ (1 : Int) = 2 by omega), if_neg (show ¬ (3 : Int) = 2 by omega)]
    cases e1 : F 1 with
    | none =>
      cases e3 : F 3 with
      | none => simp [insB]
      | some c => simp [insB, h 3 c e3, e]
    | some c1 =>
      cases e3 : F 3 with
      | none => simp [insB, h 1 c1 e1, e]
      | some c => simp [insB, h 3 c e3, h 1 c1 e1, e]
  · rw [e] at h0
    rw [e, h0]
    simp only [if_pos, if_neg (show ¬ (1 : Int) = 3 by omega), if_neg (show ¬ (2 : Int) = 3 by omega)]
    cases e1 : F 1 with
    | none =>
      cases e2 : F 2 with
      | none => simp [insB]
      | some c => simp [insB, h 2 c e2, e]
    | some c1 =>
      cases e2 : F 2 with
      | none => simp [insB, h 1 c1 e1, e]
      | some c => simp [insB, h 2 c e2, h 1 c1 e1, e]

theorem NumF.upd {F : Fs} (h : NumF F) {k : Int} {o : Option Bl} (ho : ∀ b, o = some b → b.n = k) : NumF (updF F k o) := by
  intro j b e
  unfold updF at e
  by_cases hj : j = k
  · rw [if_pos hj] at e; rw [hj]; exact ho b e
  · rw [if_neg hj] at e; exact h j b e
theorem GoodF.upd {F : Fs} (h : GoodF F) {k : Int} {o : Option Bl} (ho : ∀ b, o = some b → b.n = k ∧ blOk b = true) : GoodF (updF F k o) := by
  intro j b e
  unfold updF at e
  by_cases hj : j = k
  · rw [if_pos hj] at e; rw [hj]; exact ho b e
  · rw [if_neg hj] at e; exact h j b e
theorem updF_upd (F : Fs) (k : Int) (o p : Option Bl) : updF (updF F k o) k p = updF F k p := by
  funext j; unfold updF; by_cases h : j = k <;> simp [h]
theorem updF_same (F : Fs) (k : Int) (o : Option Bl) : updF F k o k = o := by unfold updF; simp
theorem updF_other (F : Fs) {k j : Int} (h : j ≠ k) (o : Option Bl) : updF F k o j = F j := by unfold updF; simp [h]
theorem updF_id {F : Fs} {k : Int} {o : Option Bl} (h : F k = o) : updF F k o = F := by
  funext j; unfold updF; by_cases e : j = k
  · rw [if_pos e, e, h]
  · rw [if_neg e]

theorem with_ofF {F : Fs} (h : NumF F) (b : Bl) (hb : 1 ≤ b.n ∧ b.n ≤ 3) : withB (ofF F) b = ofF (updF F b.n (some b)) := by
  unfold withB
  rw [without_ofF h, ins_ofF (h.upd (by simp)) b hb (updF_same _ _ _), updF_upd]

theorem mem_ins (b : Bl) : ∀ bs : List Bl, b ∈ insB b bs
  | [] => by simp [insB]
  | c :: r => by
    unfold insB
    by_cases h : b.n < c.n
    · rw [if_pos h]; simp
    · rw [if_neg h]; exact List.mem_cons_of_mem _ (mem_ins b r)

theorem with_valid {bs : List Bl} {b : Bl} (h : diskV (withB bs b) = true) : blOk b = true := (dvalid_low h b (mem_ins b _)).2

/-! ## What the functions make, by places -/

theorem read_F {F : Fs} (h : GoodF F) (k : Int) : diskRead (ofF F) k = (F k).map allB := by
  unfold diskRead; rw [if_pos (valid_ofF h), find_good h]

theorem write_F {F : Fs} (h : GoodF F) (k : Int) (zs : List Int) :
    diskWrite (ofF F) k zs = if blOk (writeB (ofF F) k zs) = true then some (ofF (updF F k (some (writeB (ofF F) k zs)))) else none := by
  unfold diskWrite
  by_cases hb : blOk (writeB (ofF F) k zs) = true
  · have hk : 1 ≤ k ∧ k ≤ 3 := ((blOk_iff _).1 hb).1
    have hz : zs.all byteOk = true := by
      have := ((blOk_iff _).1 hb).2.2.1
      unfold writeB at this
      rw [List.all_append, Bool.and_eq_true] at this
      exact this.2
    have e : withB (ofF F) (writeB (ofF F) k zs) = ofF (updF F k (some (writeB (ofF F) k zs))) := with_ofF h.num _ hk
    rw [e, valid_ofF h, hz, valid_ofF (h.upd (fun b e => by cases e; exact ⟨rfl, hb⟩)), if_pos hb]
    rfl
  · rw [if_neg hb, if_neg]
    intro hc
    simp only [Bool.and_eq_true] at hc
    exact hb (with_valid hc.2.2)

theorem writeB_F {F : Fs} (h : GoodF F) (k : Int) (zs : List Int) : writeB (ofF F) k zs = ⟨k, ((F k).getD ⟨k, [], []⟩).s, ((F k).getD ⟨k, [], []⟩).f ++ zs⟩ := by
  unfold writeB; rw [find_good h]

theorem sync_F {F : Fs} (h : GoodF F) (k : Int) : diskSync (ofF F) k = (F k).map (fun b => ofF (updF F k (some ⟨k, allB b, []⟩))) := by
  unfold diskSync
  rw [if_pos (valid_ofF h), find_good h]
  cases e : F k with
  | none => rfl
  | some b =>
    have hk : 1 ≤ k ∧ k ≤ 3 := by obtain ⟨e1, e2⟩ := h k b e; have := ((blOk_iff _).1 e2).1; omega
    simp only [Option.map_some]
    rw [with_ofF h.num _ hk]

theorem rename_F {F : Fs} (h : GoodF F) (a c : Int) :
    diskRename (ofF F) a c = if 1 ≤ c ∧ c ≤ 3 then (F a).map (fun b => ofF (updF (updF F a none) c (some ⟨c, b.s, b.f⟩))) else none := by
  unfold diskRename
  rw [valid_ofF h, find_good h]
  by_cases hc : 1 ≤ c ∧ c ≤ 3
  · rw [decide_eq_true hc, if_pos (show (true && true) = true from rfl), if_pos hc]
    cases e : F a with
    | none => rfl
    | some b =>
      simp only [Option.map_some]
      rw [without_ofF h.num, with_ofF (h.num.upd (by simp)) _ hc]
  · rw [decide_eq_false hc, if_neg hc]; rfl

theorem map_ofF (F : Fs) (g : Bl → Bl) : (ofF F).map g = ofF (fun k => (F k).map g) := by
  have e : ∀ o : Option Bl, o.toList.map g = (o.map g).toList := by intro o; cases o <;> rfl
  unfold ofF; rw [List.map_append, List.map_append, e, e, e]
theorem crash_F {F : Fs} (h : GoodF F) (keep : List Int) : diskCrash (ofF F) keep = if keepOk keep = true then some (ofF (fun k => (F k).map (crashB keep))) else none := by
  unfold diskCrash
  rw [valid_ofF h, Bool.true_and, map_ofF]

theorem crash_ok {keep : List Int} {b : Bl} (hb : blOk b = true) : blOk (crashB keep b) = true := by
  rw [blOk_iff] at hb ⊢
  obtain ⟨h1, h2, h3, h4⟩ := hb
  refine ⟨h1, ?_, rfl, ?_⟩
  · unfold crashB
    rw [List.all_append, h2, Bool.true_and, List.all_eq_true]
    intro x hx
    exact List.all_eq_true.1 h3 x (List.mem_of_mem_take hx)
  · unfold crashB
    simp only [List.length_append, List.length_take, List.length_nil]
    omega
theorem crash_good {F : Fs} (h : GoodF F) (keep : List Int) : GoodF (fun k => (F k).map (crashB keep)) := by
  intro k b e
  cases e1 : F k with
  | none => simp [e1] at e
  | some c =>
    simp [e1] at e
    subst e
    obtain ⟨h1, h2⟩ := h k c e1
    exact ⟨h1, crash_ok h2⟩
theorem sync_ok {b : Bl} (hb : blOk b = true) : blOk ⟨b.n, allB b, []⟩ = true := by
  rw [blOk_iff] at hb ⊢
  obtain ⟨h1, h2, h3, h4⟩ := hb
  exact ⟨h1, by unfold allB; rw [List.all_append, h2, h3]; rfl, rfl, by unfold allB; simp; omega⟩
theorem num_ok {b : Bl} {c : Int} (hb : blOk b = true) (hc : 1 ≤ c ∧ c ≤ 3) : blOk ⟨c, b.s, b.f⟩ = true := by
  rw [blOk_iff] at hb ⊢
  exact ⟨hc, hb.2⟩

theorem write_good {F : Fs} (h : GoodF F) {k : Int} {b : Bl} (hk : b.n = k) (hb : blOk b = true) : GoodF (updF F k (some b)) := h.upd (fun c e => by cases e; exact ⟨hk, hb⟩)
theorem sync_good {F : Fs} (h : GoodF F) {k : Int} {b : Bl} (e : F k = some b) : GoodF (updF F k (some ⟨k, allB b, []⟩)) := by
  obtain ⟨e1, e2⟩ := h k b e
  refine h.upd (fun c e => ?_)
  cases e
  have := sync_ok e2
  rw [e1] at this
  exact ⟨rfl, this⟩
theorem rename_good {F : Fs} (h : GoodF F) {a c : Int} {b : Bl} (e : F a = some b) (hc : 1 ≤ c ∧ c ≤ 3) : GoodF (updF (updF F a none) c (some ⟨c, b.s, b.f⟩)) :=
  (h.upd (by simp)).upd (fun d e' => by cases e'; exact ⟨rfl, num_ok (h a b e).2 hc⟩)

/-! ## The promises -/

/-- P110: what is written is read; other files have the same bytes. -/
theorem write_told {bs out : List Bl} {n : Int} {zs : List Int} (h : diskWrite bs n zs = some out) :
    diskV out = true ∧ diskRead out n = some (((diskRead bs n).getD []) ++ zs) ∧ ∀ k, k ≠ n → diskRead out k = diskRead bs k := by
  have hv : diskV bs = true := by
    unfold diskWrite at h
    by_cases e : diskV bs = true
    · exact e
    · rw [Bool.eq_false_iff.2 e] at h; simp at h
  obtain ⟨hg, he⟩ := disk_of hv
  generalize findB bs = F at hg he
  subst he
  rw [write_F hg] at h
  by_cases hb : blOk (writeB (ofF F) n zs) = true
  · rw [if_pos hb] at h
    obtain rfl := Option.some.inj h
    have hG := write_good hg (k := n) rfl hb
    refine ⟨valid_ofF hG, ?_, fun k hk => ?_⟩
    · rw [read_F hG, read_F hg, updF_same, writeB_F hg]
      cases e : F n with
      | none => rfl
      | some b => simp [allB]
    · rw [read_F hG, read_F hg, updF_other _ hk]
  · rw [if_neg hb] at h; cases h

/-- P116: bytes can be written in parts. -/
theorem write_parts {bs out : List Bl} {n : Int} {zs : List Int} (h : diskWrite bs n zs = some out) (k : Nat) :
    ∃ x, diskWrite bs n (zs.take k) = some x ∧ diskWrite x n (zs.drop k) = some out := by
  have hv : diskV bs = true := by
    unfold diskWrite at h
    by_cases e : diskV bs = true
    · exact e
    · rw [Bool.eq_false_iff.2 e] at h; simp at h
  obtain ⟨hg, he⟩ := disk_of hv
  generalize findB bs = F at hg he
  subst he
  rw [write_F hg] at h
  by_cases hb : blOk (writeB (ofF F) n zs) = true
  · rw [if_pos hb] at h
    obtain rfl := Option.some.inj h
    have hb2 : blOk (writeB (ofF F) n (zs.take k)) = true := by
      rw [writeB_F hg, blOk_iff] at hb ⊢
      obtain ⟨h1, h2, h3, h4⟩ := hb
      simp only [List.all_append, Bool.and_eq_true, List.length_append] at h3 h4 ⊢
      refine ⟨h1, h2, ⟨h3.1, ?_⟩, by rw [List.length_take]; omega⟩
      rw [List.all_eq_true] at h3 ⊢
      exact fun x hx => List.all_eq_true.1 h3.2 x (List.mem_of_mem_take hx)
    have hG := write_good hg (k := n) rfl hb2
    refine ⟨_, by rw [write_F hg, if_pos hb2], ?_⟩
    have e2 : writeB (ofF (updF F n (some (writeB (ofF F) n (zs.take k))))) n (zs.drop k) = writeB (ofF F) n zs := by
      rw [writeB_F hG, updF_same, writeB_F hg, writeB_F hg]
      simp only [Option.getD_some, List.append_assoc, List.take_append_drop]
    rw [write_F hG, e2, if_pos hb, updF_upd]
  · rw [if_neg hb] at h; cases h

theorem sync_valid {bs out : List Bl} {n : Int} (h : diskSync bs n = some out) : ∃ F b, bs = ofF F ∧ GoodF F ∧ F n = some b ∧ out = ofF (updF F n (some ⟨n, allB b, []⟩)) := by
  have hv : diskV bs = true := by
    unfold diskSync at h
    by_cases e : diskV bs = true
    · exact e
    · rw [if_neg e] at h; cases h
  obtain ⟨hg, he⟩ := disk_of hv
  generalize findB bs = F at hg he
  subst he
  rw [sync_F hg] at h
  cases e : F n with
  | none => rw [e] at h; cases h
  | some b => rw [e] at h; exact ⟨F, b, rfl, hg, e, (Option.some.inj h).symm⟩

/-- P111: what is safe survives a crash. -/
theorem sync_told {bs out : List Bl} {n : Int} (h : diskSync bs n = some out) :
    ∃ zs x, diskRead bs n = some zs ∧ diskRead out n = some zs ∧ diskCrash out [] = some x ∧ diskRead x n = some zs := by
  obtain ⟨F, b, rfl, hg, e, rfl⟩ := sync_valid h
  have hG := sync_good hg e
  refine ⟨allB b, _, by rw [read_F hg, e]; rfl, by rw [read_F hG, updF_same]; simp [allB], by rw [crash_F hG, if_pos (by rfl)], ?_⟩
  rw [read_F (crash_good hG [])]
  simp only [updF_same, Option.map_some]
  simp [crashB, allB]

/-- P112: making safe twice is making safe once. -/
theorem sync_twice {bs out : List Bl} {n : Int} (h : diskSync bs n = some out) : diskSync out n = some out ∧ diskV out = true := by
  obtain ⟨F, b, rfl, hg, e, rfl⟩ := sync_valid h
  have hG := sync_good hg e
  refine ⟨?_, valid_ofF hG⟩
  rw [sync_F hG, updF_same]
  simp [updF_upd, allB]

theorem rename_valid {bs out : List Bl} {a c : Int} (h : diskRename bs a c = some out) :
    ∃ F b, bs = ofF F ∧ GoodF F ∧ F a = some b ∧ (1 ≤ c ∧ c ≤ 3) ∧ out = ofF (updF (updF F a none) c (some ⟨c, b.s, b.f⟩)) := by
  have hv : diskV bs = true := by
    unfold diskRename at h
    by_cases e : diskV bs = true
    · exact e
    · rw [Bool.eq_false_iff.2 e] at h; simp at h
  obtain ⟨hg, he⟩ := disk_of hv
  generalize findB bs = F at hg he
  subst he
  rw [rename_F hg] at h
  by_cases hc : 1 ≤ c ∧ c ≤ 3
  · rw [if_pos hc] at h
    cases e : F a with
    | none => rw [e] at h; cases h
    | some b => rw [e] at h; exact ⟨F, b, rfl, hg, e, hc, (Option.some.inj h).symm⟩
  · rw [if_neg hc] at h; cases h

/-- P113: a renamed file has the same bytes. -/
theorem rename_told {bs out : List Bl} {a c : Int} (h : diskRename bs a c = some out) :
    ∃ zs, diskRead bs a = some zs ∧ diskRead out c = some zs ∧ (diskRead out a).isSome = decide (a = c) ∧ ∀ k, k ≠ a → k ≠ c → diskRead out k = diskRead bs k := by
  obtain ⟨F, b, rfl, hg, e, hc, rfl⟩ := rename_valid h
  have hG := rename_good hg e hc
  refine ⟨allB b, by rw [read_F hg, e]; rfl, by rw [read_F hG, updF_same]; rfl, ?_, fun k h1 h2 => by rw [read_F hG, read_F hg, updF_other _ h2, updF_other _ h1]⟩
  rw [read_F hG]
  by_cases ea : a = c
  · rw [ea, updF_same]; simp
  · rw [updF_other _ ea, updF_same]; simp [ea]

/-- P118: a file can get its number back. -/
theorem rename_back {bs out : List Bl} {a c : Int} (h : diskRename bs a c = some out) (hn : diskRead bs c = none) : diskRename out c a = some bs := by
  obtain ⟨F, b, rfl, hg, e, hc, rfl⟩ := rename_valid h
  have hG := rename_good hg e hc
  obtain ⟨b1, b2⟩ := hg a b e
  have ha := ((blOk_iff _).1 b2).1
  rw [b1] at ha
  rw [read_F hg] at hn
  have hn' : F c = none := by cases e1 : F c with
    | none => rfl
    | some d => rw [e1] at hn; cases hn
  have hac : a ≠ c := fun e1 => by rw [e1] at e; rw [e] at hn'; cases hn'
  rw [rename_F hG, if_pos ha, updF_same]
  simp only [Option.map_some]
  congr 2
  funext j
  unfold updF
  by_cases h1 : j = a
  · rw [if_pos h1, h1, e, ← b1]
  · rw [if_neg h1]
    by_cases h2 : j = c
    · rw [if_pos h2, h2, hn']
    · rw [if_neg h2, if_neg h2, if_neg h1]

/-- P114: a crash keeps a beginning. -/
theorem crash_told {bs out : List Bl} {keep : List Int} (h : diskCrash bs keep = some out) : out = bs.map (crashB keep) ∧ diskV out = true ∧ keepOk keep = true := by
  unfold diskCrash at h
  by_cases e : (diskV bs && keepOk keep) = true
  · rw [if_pos e] at h
    obtain rfl := Option.some.inj h
    simp only [Bool.and_eq_true] at e
    refine ⟨rfl, ?_, e.2⟩
    obtain ⟨hg, he⟩ := disk_of e.1
    generalize findB bs = F at hg he
    subst he
    rw [map_ofF]
    exact valid_ofF (crash_good hg keep)
  · rw [if_neg e] at h; cases h

/-- P115: a second crash loses nothing. -/
theorem crash_twice {bs out : List Bl} {keep : List Int} (h : diskCrash bs keep = some out) : diskCrash out keep = some out ∧ diskCrash out [] = some out := by
  obtain ⟨rfl, hv, hk⟩ := crash_told h
  have key : ∀ k2, (bs.map (crashB keep)).map (crashB k2) = bs.map (crashB keep) := by
    intro k2
    rw [List.map_map]
    refine List.map_congr_left (fun b _ => ?_)
    simp [crashB]
  unfold diskCrash
  rw [hv, hk, key, key]
  exact ⟨rfl, rfl⟩

theorem dvalid_mono : ∀ {bs : List Bl} {l m : Int}, dvalid l bs = true → m ≤ l → dvalid m bs = true
  | [], _, _, _, _ => rfl
  | c :: r, l, m, h, hm => by
    unfold dvalid at h ⊢
    simp only [Bool.and_eq_true, decide_eq_true_eq] at h ⊢
    exact ⟨h.1, by omega, h.2.2⟩

/-- P117: files may be missing. -/
theorem part_go : ∀ {bs : List Bl} {l : Int} (k : Nat), dvalid l bs = true → dvalid l (bs.take k ++ bs.drop (k + 1)) = true
  | [], _, k, _ => by simp [dvalid]
  | c :: r, l, 0, h => by
    unfold dvalid at h
    simp only [Bool.and_eq_true, decide_eq_true_eq] at h
    simp only [List.take_zero, List.drop_succ_cons, List.drop_zero, List.nil_append]
    exact dvalid_mono h.2.2 (by omega)
  | c :: r, l, k + 1, h => by
    unfold dvalid at h
    simp only [Bool.and_eq_true, decide_eq_true_eq] at h
    simp only [List.take_succ_cons, List.drop_succ_cons, List.cons_append]
    unfold dvalid
    simp only [Bool.and_eq_true, decide_eq_true_eq]
    exact ⟨h.1, h.2.1, part_go k h.2.2⟩
theorem twice_go : ∀ {bs : List Bl} {l : Int} (k : Nat), k < bs.length → dvalid l (bs.take (k + 1) ++ bs.drop k) = false
  | [], _, k, h => absurd h (Nat.not_lt_zero _)
  | c :: r, l, 0, _ => by
    simp only [List.take_succ_cons, List.take_zero, List.drop_zero, List.cons_append, List.nil_append]
    simp [dvalid]
  | c :: r, l, k + 1, h => by
    simp only [List.take_succ_cons, List.drop_succ_cons, List.cons_append]
    unfold dvalid
    rw [twice_go k (by simpa using h)]
    simp

end Go.Proofs.Ytonbkmmddahlfaa
