/-
  PLAIN MATHEMATICS OF PLACES: a path is a word of letters; a tree's nodes, listed from a place on.
-/
import Derived.Test.YtoipbocbgadjbaaTp
namespace Go.Proofs.Ytoipbocbgadjbaa

/-- The letters of a path that is valid. -/
def Wrd (w : List UInt8) : Prop := w.length ≤ 4 ∧ ∀ x ∈ w, Pm.letter x = true
def pB (w : List UInt8) : ByteArray := ⟨⟨Pm.pathOf w⟩⟩

theorem pB_list (w : List UInt8) : (pB w).data.toList = Pm.pathOf w := rfl

theorem Wrd.nil : Wrd [] := ⟨by simp, by simp⟩
theorem Wrd.take {w : List UInt8} (h : Wrd w) (n : Nat) : Wrd (w.take n) :=
  ⟨by rw [List.length_take]; have := h.1; omega, fun x hx => h.2 x (List.mem_of_mem_take hx)⟩
theorem Wrd.left {w u : List UInt8} (h : Wrd (w ++ u)) : Wrd w :=
  ⟨by have := h.1; rw [List.length_append] at this; omega, fun x hx => h.2 x (List.mem_append_left _ hx)⟩

theorem vpB_word {p : ByteArray} (h : vpB p = true) : ∃ w, Wrd w ∧ p = pB w := by
  obtain ⟨w, h4, hl, e⟩ := Pm.valid_of p.data.toList h
  exact ⟨w, ⟨h4, hl⟩, by rw [← Lib.mk_data p, e]; rfl⟩

theorem pB_inj {a b : List UInt8} (ha : Wrd a) (hb : Wrd b) (h : pB a = pB b) : a = b :=
  Pm.pathOf_inj (by have := congrArg (fun x : ByteArray => x.data.toList) h; exact this) ha.2 hb.2

theorem pB_root : pB [] = rootB := rfl
theorem vpB_pB {w : List UInt8} (h : Wrd w) : vpB (pB w) = true := Pm.valid_path w h.1 h.2
theorem depB_pB {w : List UInt8} (h : Wrd w) : depB (pB w) = w.length := Pm.depth_path w h.1 h.2
theorem parB_pB {w : List UInt8} (h : Wrd w) (hn : w ≠ []) : parB (pB w) = pB w.dropLast := by
  unfold parB pB; rw [show (⟨⟨Pm.pathOf w⟩⟩ : ByteArray).data.toList = Pm.pathOf w from rfl, Pm.parent_path w hn h.1 h.2]
theorem undB_pB {a b : List UInt8} (ha : Wrd a) (hb : Wrd b) : undB (pB a) (pB b) = decide (a <+: b ∧ a.length < b.length) := Pm.under_path a b ha.1 hb.1 ha.2 hb.2

theorem Wrd.dropLast {w : List UInt8} (h : Wrd w) : Wrd w.dropLast :=
  ⟨by rw [List.length_dropLast]; have := h.1; omega, fun x hx => h.2 x (List.dropLast_subset _ hx)⟩

/-! ## The order -/

theorem app_lt (p a b : List UInt8) : p ++ a < p ++ b ↔ a < b := by
  induction p with
  | nil => exact Iff.rfl
  | cons c p ih =>
    rw [List.cons_append, List.cons_append, List.cons_lt_cons_iff]
    constructor
    · rintro (h | ⟨_, h⟩)
      · exact absurd h (UInt8.lt_irrefl c)
      · exact ih.1 h
    · exact fun h => .inr ⟨rfl, ih.2 h⟩

theorem pathOf_ext_lt (w : List UInt8) (c : UInt8) (u : List UInt8) : Pm.pathOf w < Pm.pathOf (w ++ c :: u) := by
  unfold Pm.pathOf
  rw [if_neg (show ¬ w ++ c :: u = [] by simp)]
  by_cases h : w = []
  · subst h
    rw [if_pos rfl]
    show [47] < 47 :: c :: Pm.flat u
    rw [List.cons_lt_cons_iff]; right; simp
  · rw [if_neg h, Pm.flat_append]
    have := (app_lt (Pm.flat w) [] (Pm.flat (c :: u))).2 (by show [] < 47 :: c :: Pm.flat u; simp)
    simpa using this

theorem pathOf_side_lt (w : List UInt8) (c d : UInt8) (h : c < d) (u v : List UInt8) : Pm.pathOf (w ++ c :: u) < Pm.pathOf (w ++ d :: v) := by
  unfold Pm.pathOf
  rw [if_neg (show ¬ w ++ c :: u = [] by simp), if_neg (show ¬ w ++ d :: v = [] by simp), Pm.flat_append, Pm.flat_append, app_lt]
  show 47 :: c :: Pm.flat u < 47 :: d :: Pm.flat v
  rw [List.cons_lt_cons_iff]; right
  refine ⟨rfl, ?_⟩
  rw [List.cons_lt_cons_iff]; exact .inl h

theorem ltB_ext (w : List UInt8) (c : UInt8) (u : List UInt8) : ltB (pB w) (pB (w ++ c :: u)) = true := (ltB_iff _ _).2 (pathOf_ext_lt w c u)
theorem ltB_side (w : List UInt8) {c d : UInt8} (h : c < d) (u v : List UInt8) : ltB (pB (w ++ c :: u)) (pB (w ++ d :: v)) = true := (ltB_iff _ _).2 (pathOf_side_lt w c d h u v)

/-! ## What is behind a place -/

def letters : List UInt8 := [97, 98, 99, 100]
theorem letter_iff (c : UInt8) : Pm.letter c = true ↔ c ∈ letters := by
  unfold Pm.letter Pm.nameB letters
  simp only [List.mem_cons, List.not_mem_nil, or_false, decide_eq_true_eq]
  constructor
  · rintro ⟨h1, h2⟩
    have h : c.toNat = 97 ∨ c.toNat = 98 ∨ c.toNat = 99 ∨ c.toNat = 100 := by omega
    rcases h with h | h | h | h
    · exact .inl (UInt8.toNat_inj.1 h)
    · exact .inr (.inl (UInt8.toNat_inj.1 h))
    · exact .inr (.inr (.inl (UInt8.toNat_inj.1 h)))
    · exact .inr (.inr (.inr (UInt8.toNat_inj.1 h)))
  · rintro (rfl | rfl | rfl | rfl) <;> decide

def ndAt (F : List UInt8 → Int × Int) (w : List UInt8) : Nd := ⟨pB w, (F w).1, (F w).2⟩
def oneAt (F : List UInt8 → Int × Int) (w : List UInt8) : List Nd := if (F w).1 = 0 then [] else [ndAt F w]

/-- The nodes behind a place, d names deep. -/
def lst (F : List UInt8 → Int × Int) : Nat → List UInt8 → List Nd
  | 0, _ => []
  | d + 1, w => letters.flatMap (fun c => oneAt F (w ++ [c]) ++ lst F d (w ++ [c]))

theorem mem_one {F : List UInt8 → Int × Int} {w : List UInt8} {n : Nd} : n ∈ oneAt F w ↔ (F w).1 ≠ 0 ∧ n = ndAt F w := by
  unfold oneAt; split <;> simp_all

theorem mem_lst {F : List UInt8 → Int × Int} {n : Nd} : ∀ {d : Nat} {w : List UInt8}, n ∈ lst F d w ↔ ∃ c u, u.length < d ∧ (∀ x ∈ c :: u, Pm.letter x = true) ∧ (F (w ++ c :: u)).1 ≠ 0 ∧ n = ndAt F (w ++ c :: u)
  | 0, w => by simp [lst]
  | d + 1, w => by
    unfold lst
    simp only [List.mem_flatMap, List.mem_append, mem_one]
    constructor
    · rintro ⟨c, hc, ⟨h1, h2⟩ | h⟩
      · exact ⟨c, [], by simp, by simpa using (letter_iff c).2 hc, h1, h2⟩
      · obtain ⟨c', u, h1, h2, h3, h4⟩ := mem_lst.1 h
        rw [List.append_assoc, List.singleton_append] at h3 h4
        refine ⟨c, c' :: u, by simpa using h1, fun x hx => ?_, h3, h4⟩
        rcases List.mem_cons.1 hx with rfl | hx
        · exact (letter_iff _).2 hc
        · exact h2 x hx
    · rintro ⟨c, u, h1, h2, h3, h4⟩
      refine ⟨c, (letter_iff c).1 (h2 c (by simp)), ?_⟩
      cases u with
      | nil => exact .inl ⟨h3, h4⟩
      | cons c' u =>
        refine .inr (mem_lst.2 ⟨c', u, by simpa using h1, fun x hx => h2 x (List.mem_cons_of_mem _ hx), ?_, ?_⟩)
        · rw [List.append_assoc, List.singleton_append]; exact h3
        · rw [List.append_assoc, List.singleton_append]; exact h4

/-- What is listed from a letter on is behind that letter. -/
theorem part_form {F : List UInt8 → Int × Int} {n : Nd} {d : Nat} {w : List UInt8} {c : UInt8} (h : n ∈ oneAt F (w ++ [c]) ++ lst F d (w ++ [c])) : ∃ u, n.p = pB (w ++ c :: u) := by
  rcases List.mem_append.1 h with h | h
  · exact ⟨[], by rw [(mem_one.1 h).2]; rfl⟩
  · obtain ⟨c', u, _, _, _, h4⟩ := mem_lst.1 h
    exact ⟨c' :: u, by rw [h4]; simp [ndAt]⟩

theorem asc_append {a b : List Nd} (ha : Asc a) (hb : Asc b) (h : ∀ x ∈ a, ∀ y ∈ b, ltB x.p y.p = true) : Asc (a ++ b) := List.pairwise_append.2 ⟨ha, hb, h⟩

theorem asc_lst (F : List UInt8 → Int × Int) : ∀ (d : Nat) (w : List UInt8), Asc (lst F d w)
  | 0, _ => List.Pairwise.nil
  | d + 1, w => by
    unfold lst
    have hp : ∀ c, Asc (oneAt F (w ++ [c]) ++ lst F d (w ++ [c])) := fun c => by
      refine asc_append ?_ (asc_lst F d _) fun x hx y hy => ?_
      · unfold oneAt; split
        · exact List.Pairwise.nil
        · exact List.pairwise_singleton _ _
      · obtain ⟨c', u, _, _, _, h4⟩ := mem_lst.1 hy
        rw [(mem_one.1 hx).2, h4]
        exact ltB_ext _ _ _
    have hs : ∀ (ls : List UInt8), ls.Pairwise (· < ·) → Asc (ls.flatMap (fun c => oneAt F (w ++ [c]) ++ lst F d (w ++ [c]))) := by
      intro ls
      induction ls with
      | nil => intro _; exact List.Pairwise.nil
      | cons c r ih =>
        intro h
        obtain ⟨h1, h2⟩ := List.pairwise_cons.1 h
        rw [List.flatMap_cons]
        refine asc_append (hp c) (ih h2) fun x hx y hy => ?_
        obtain ⟨c', hc', hy⟩ := List.mem_flatMap.1 hy
        obtain ⟨u, e⟩ := part_form hx
        obtain ⟨v, e'⟩ := part_form hy
        rw [e, e']
        exact ltB_side w (h1 c' hc') u v
    exact hs letters (by decide)

/-- Two lists that ascend are told by their members. -/
theorem asc_mem_ext {a b : List Nd} (ha : Asc a) (hb : Asc b) (h : ∀ x, x ∈ a ↔ x ∈ b) : a = b := by
  refine asc_ext ha hb fun p => ?_
  cases e : look a p with
  | some n =>
    obtain ⟨h1, h2⟩ := look_some e
    subst h2
    exact (look_mem hb ((h n).1 h1)).symm
  | none =>
    symm
    rw [look_none] at e ⊢
    exact fun n hn => e n ((h n).2 hn)

/-! ## What a list of nodes says of the places -/

def Fof (ns : List Nd) : List UInt8 → Int × Int := fun w => getT ns (pB w)
def setF (F : List UInt8 → Int × Int) (w : List UInt8) (c : Int × Int) : List UInt8 → Int × Int := fun u => if u = w then c else F u

theorem Fof_root (ns : List Nd) : Fof ns [] = (1, 0) := getT_root ns
theorem Fof_nil {w : List UInt8} (h : w ≠ []) (hw : Wrd w) : Fof [] w = (0, 0) := by
  unfold Fof
  rw [getT_other (by rw [depB_pB hw]; have : w.length ≠ 0 := fun e => h (List.length_eq_zero_iff.1 e); omega)]; rfl

theorem word_depth {w : List UInt8} (hw : Wrd w) : 1 ≤ depB (pB w) ↔ w ≠ [] := by
  rw [depB_pB hw]
  constructor
  · rintro h rfl; simp at h
  · intro h
    have : w.length ≠ 0 := fun e => h (List.length_eq_zero_iff.1 e)
    omega

theorem look_app {a : List Nd} {n : Nd} {p : ByteArray} (h : n.p ≠ p) : look (a ++ [n]) p = look a p := by
  unfold look
  rw [List.find?_append]
  simp [h]

theorem getT_app_ne {a : List Nd} {n : Nd} {p : ByteArray} (h : n.p ≠ p) : getT (a ++ [n]) p = getT a p := by
  unfold getT getL; rw [look_app h]

theorem look_app_self {a : List Nd} {n : Nd} (h : ∀ m ∈ a, m.p ≠ n.p) : look (a ++ [n]) n.p = some n := by
  have := look_none.2 h
  unfold look at this ⊢
  rw [List.find?_append, this]
  simp

theorem Fof_app {a : List Nd} {n : Nd} {w u : List UInt8} (hw : Wrd w) (hn : w ≠ []) (e : n.p = pB w) (ha : ∀ m ∈ a, m.p ≠ n.p) (hu : Wrd u) : Fof (a ++ [n]) u = setF (Fof a) w (n.k, n.v) u := by
  unfold setF
  by_cases h : u = w
  · subst h
    rw [if_pos rfl]
    unfold Fof
    rw [getT_other ((word_depth hw).2 hn)]
    unfold getL
    rw [← e, look_app_self ha]
  · rw [if_neg h]
    exact getT_app_ne fun x => h (pB_inj hu hw (by rw [← x, e]))

/-- What the program asks of the next node. -/
def Next (a : List Nd) (n : Nd) : Prop :=
  vpB n.p = true ∧ ltB (match a.getLast? with | none => rootB | some m => m.p) n.p = true ∧ validB n.k n.v = true ∧ n.k ≠ 0 ∧ (getT a (parB n.p)).1 = 1

theorem valid_app {a : List Nd} {n : Nd} (h : validT (a ++ [n]) = true) : validT a = true := by
  have := valid_dropLast h
  rwa [List.dropLast_concat] at this

theorem valid_take : ∀ (d : Nat) {ns : List Nd}, validT ns = true → validT (ns.take (ns.length - d)) = true
  | 0, ns, h => by rw [Nat.sub_zero, List.take_length]; exact h
  | d + 1, ns, h => by
    have := valid_dropLast (valid_take d h)
    rw [List.dropLast_eq_take, List.take_take, List.length_take] at this
    rwa [show ns.length - (d + 1) = min (min (ns.length - d) ns.length - 1) (ns.length - d) by omega]
theorem valid_pre {ns : List Nd} (h : validT ns = true) (i : Nat) : validT (ns.take i) = true := by
  by_cases hi : i ≤ ns.length
  · have := valid_take (ns.length - i) h
    rwa [show ns.length - (ns.length - i) = i by omega] at this
  · rw [List.take_of_length_le (by omega)]; exact h

theorem last_le {a : List Nd} (ha : Asc a) {m l : Nd} (hm : m ∈ a) (hl : a.getLast? = some l) : m = l ∨ ltB m.p l.p = true := by
  obtain ⟨b, rfl⟩ := List.getLast?_eq_some_iff.1 hl
  rcases List.mem_append.1 hm with h | h
  · exact .inr ((List.pairwise_append.1 ha).2.2 m h l (by simp))
  · exact .inl (by simpa using h)

theorem root_lt {p : ByteArray} (h : 1 ≤ depB p) : ltB rootB p = true := by
  obtain ⟨w, hw, rfl⟩ := vpB_word (vp_of_depth h)
  cases w with
  | nil => exact absurd h (by decide)
  | cons c u => exact ltB_ext [] c u

theorem next_above {a : List Nd} {n : Nd} (h : validT a = true) (hn : Next a n) : (∀ m ∈ a, ltB m.p n.p = true) ∧ ltB rootB n.p = true := by
  obtain ⟨ha, hg, _⟩ := (validT_iff a).1 h
  obtain ⟨_, h2, _⟩ := hn
  cases hl : a.getLast? with
  | none =>
    rw [hl] at h2
    rw [List.getLast?_eq_none_iff] at hl
    subst hl
    exact ⟨fun m hm => (by cases hm), h2⟩
  | some l =>
    rw [hl] at h2
    have hla : l ∈ a := List.mem_of_getLast? hl
    refine ⟨fun m hm => ?_, ltB_trans (root_lt (hg l hla).1) h2⟩
    rcases last_le ha hm hl with rfl | e
    · exact h2
    · exact ltB_trans e h2

theorem next_depth {a : List Nd} {n : Nd} (h : validT a = true) (hn : Next a n) : 1 ≤ depB n.p := by
  obtain ⟨w, hw, e⟩ := vpB_word hn.1
  have := (next_above h hn).2
  rw [e, word_depth hw]
  rintro rfl
  rw [e, pB_root, ltB_irrefl] at this
  cases this

theorem par_ne {p : ByteArray} (h : 1 ≤ depB p) : parB p ≠ p := fun e => by
  have := (parB_valid h).2.1
  rw [e] at this; omega

/-- A tree with one node more. -/
theorem valid_step {a : List Nd} {n : Nd} (hl : a.length < 10) (h : validT a = true) : validT (a ++ [n]) = true ↔ Next a n := by
  obtain ⟨ha, hg, _⟩ := (validT_iff a).1 h
  rw [validT_iff]
  constructor
  · rintro ⟨h1, h2, _⟩
    obtain ⟨g1, g2, g3, g4⟩ := h2 n (by simp)
    have hab := (List.pairwise_append.1 h1).2.2
    refine ⟨vp_of_depth g1, ?_, g2, g3, by rw [← getT_app_ne (n := n) (fun e => par_ne g1 e.symm)]; exact g4⟩
    cases hl : a.getLast? with
    | none => exact root_lt g1
    | some l => exact hab l (List.mem_of_getLast? hl) n (by simp)
  · intro hn
    obtain ⟨ab, _⟩ := next_above h hn
    have hd := next_depth h hn
    refine ⟨asc_append ha (List.pairwise_singleton _ _) (fun x hx y hy => by rw [List.mem_singleton.1 hy]; exact ab x hx), fun m hm => ?_, by rw [List.length_append, List.length_singleton]; omega⟩
    rcases List.mem_append.1 hm with hm | hm
    · obtain ⟨g1, g2, g3, g4⟩ := hg m hm
      refine ⟨g1, g2, g3, ?_⟩
      rw [getT_app_ne]
      · exact g4
      · intro e
        by_cases hr : 1 ≤ depB (parB m.p)
        · obtain ⟨x, hx, hxp⟩ : ∃ x ∈ a, x.p = parB m.p := by
            rw [getT_other hr] at g4
            unfold getL at g4
            cases hk : look a (parB m.p) with
            | none => rw [hk] at g4; simp at g4
            | some x => exact ⟨x, (look_some hk).1, (look_some hk).2⟩
          exact ltB_ne (ab x hx) (hxp.trans e.symm)
        · rw [← e] at hr; exact hr hd
    · rw [List.mem_singleton.1 hm]
      obtain ⟨q1, q2, q3, q4, q5⟩ := hn
      exact ⟨hd, q3, q4, by rw [getT_app_ne (fun e => par_ne hd e.symm)]; exact q5⟩

/-! ## The lists that the program makes -/

/-- All nodes of a valid tree have words. -/
theorem node_word {ns : List Nd} (h : validT ns = true) {n : Nd} (hn : n ∈ ns) : ∃ w, Wrd w ∧ w ≠ [] ∧ n.p = pB w ∧ Fof ns w = (n.k, n.v) := by
  obtain ⟨h1, h2⟩ := good_path h hn
  obtain ⟨w, hw, e⟩ := vpB_word h2
  refine ⟨w, hw, (word_depth hw).1 (by rw [← e]; exact h1), e, ?_⟩
  unfold Fof; rw [← e]; exact getT_mem h hn

theorem node_of {ns : List Nd} (h : validT ns = true) {w : List UInt8} (hw : Wrd w) (hn : w ≠ []) (hk : (Fof ns w).1 ≠ 0) : ndAt (Fof ns) w ∈ ns := by
  have hk' := hk
  unfold Fof at hk
  rcases getT_some hk with e | ⟨n, h1, h2, _⟩
  · exact absurd (pB_inj hw Wrd.nil e) hn
  · have := getT_mem h h1
    have e : ndAt (Fof ns) w = n := by
      unfold ndAt Fof
      rw [← h2, this]
    rw [e]; exact h1

theorem under_lst {ns : List Nd} (h : validT ns = true) {w : List UInt8} (hw : Wrd w) : (lst (Fof ns) (4 - w.length) w) = ns.filter (fun n => undB (pB w) n.p) := by
  have ha := ((validT_iff ns).1 h).1
  refine asc_mem_ext (asc_lst _ _ _) (asc_filter ha _) fun x => ?_
  rw [mem_lst, List.mem_filter]
  constructor
  · rintro ⟨c, u, h1, h2, h3, rfl⟩
    have hw' : Wrd (w ++ c :: u) := ⟨by simp; have := hw.1; omega, fun x hx => by
      rcases List.mem_append.1 hx with hx | hx
      · exact hw.2 x hx
      · exact h2 x hx⟩
    refine ⟨node_of h hw' (by simp) h3, ?_⟩
    show undB (pB w) (pB (w ++ c :: u)) = true
    rw [undB_pB hw hw', decide_eq_true_eq]
    exact ⟨List.prefix_append _ _, by simp⟩
  · rintro ⟨hx, hu⟩
    obtain ⟨v, hv, hvn, e, ef⟩ := node_word h hx
    rw [e, undB_pB hw hv, decide_eq_true_eq] at hu
    obtain ⟨⟨t, rfl⟩, hlen⟩ := hu
    cases t with
    | nil => simp at hlen
    | cons c u =>
      refine ⟨c, u, ?_, fun x hx => hv.2 x (List.mem_append_right _ hx), ?_, ?_⟩
      · have := hv.1; simp at this; omega
      · rw [ef]; exact (((validT_iff ns).1 h).2.1 x hx).2.2.1
      · cases x with
        | mk xp xk xv =>
          simp only at e ef
          unfold ndAt; rw [ef, e]

theorem put_lst {ns : List Nd} (h : validT ns = true) {w : List UInt8} (hw : Wrd w) (hn : w ≠ []) (k v : Int) : lst (setF (Fof ns) w (k, v)) 4 [] = putL ns (pB w) k v := by
  have ha := ((validT_iff ns).1 h).1
  refine asc_mem_ext (asc_lst _ _ _) (putL_asc ha _ _ _) fun x => ?_
  rw [mem_lst, putL_mem]
  simp only [List.nil_append]
  constructor
  · rintro ⟨c, u, h1, h2, h3, rfl⟩
    have hw' : Wrd (c :: u) := ⟨by rw [List.length_cons]; omega, h2⟩
    unfold setF at h3
    unfold ndAt setF
    by_cases e : c :: u = w
    · rw [if_pos e] at h3 ⊢
      exact .inl ⟨h3, by rw [e]⟩
    · rw [if_neg e] at h3 ⊢
      exact .inr ⟨node_of h hw' (by simp) h3, fun q => e (pB_inj hw' hw q)⟩
  · rintro (⟨hk, rfl⟩ | ⟨hx, hp⟩)
    · cases w with
      | nil => exact absurd rfl hn
      | cons c u => exact ⟨c, u, by have := hw.1; rw [List.length_cons] at this; omega, hw.2, by simpa [setF] using hk, by simp [ndAt, setF]⟩
    · obtain ⟨v', hv, hvn, e, ef⟩ := node_word h hx
      have hvw : v' ≠ w := fun q => hp (by rw [e, q])
      cases v' with
      | nil => exact absurd rfl hvn
      | cons c u =>
        refine ⟨c, u, by have := hv.1; rw [List.length_cons] at this; omega, hv.2, ?_, ?_⟩
        · unfold setF; rw [if_neg hvw, ef]; exact (((validT_iff ns).1 h).2.1 x hx).2.2.1
        · cases x with
          | mk xp xk xv =>
            simp only at e ef
            unfold ndAt setF; rw [if_neg hvw, ef, e]

theorem lst_congr {F G : List UInt8 → Int × Int} : ∀ {d : Nat} {w : List UInt8}, (∀ c u, u.length < d → (∀ x ∈ c :: u, Pm.letter x = true) → F (w ++ c :: u) = G (w ++ c :: u)) → lst F d w = lst G d w := by
  intro d w h
  refine asc_mem_ext (asc_lst _ _ _) (asc_lst _ _ _) fun x => ?_
  rw [mem_lst, mem_lst]
  constructor
  · rintro ⟨c, u, h1, h2, h3, h4⟩
    exact ⟨c, u, h1, h2, by rw [← h c u h1 h2]; exact h3, by rw [h4]; unfold ndAt; rw [h c u h1 h2]⟩
  · rintro ⟨c, u, h1, h2, h3, h4⟩
    exact ⟨c, u, h1, h2, by rw [h c u h1 h2]; exact h3, by rw [h4]; unfold ndAt; rw [h c u h1 h2]⟩

end Go.Proofs.Ytoipbocbgadjbaa
