/-
  WALKS: impl.ContentParse, spec.ContentParse.
-/
import Derived.Test.YtnmpbocnbcokeabDoorCn
namespace Go.Proofs.YtnmpbocnbcokeabDoor
open Go.RowKit
set_option linter.unusedVariables false

/-- A content and whether there is one. -/
def PairPost (k v : Int) (ok : Bool) (w : World) (e : Ending) (w' : World) : Prop := e = .returned (.tuple #[con k v, .bool ok]) ∧ Below w.heap.size w w'

theorem pair_results (fn : Func) (hf : fn.results = #[.cell 2 23, .tmp 3]) (W : World) (n : Nat) (k v : Int) (b : Bool) (tmps : Array Value) (ht : tmps[2]? = some (.pointer (some ⟨n, 0, none⟩))) (hb : tmps[3]? = some (.bool b))
    (h : W.cell? ⟨n, 0, none⟩ = some (.int .i64 k) ∧ W.cell? ⟨n, 1, none⟩ = some (.int .i64 v)) : (results fn tmps).run Tryd.prog W = .ok (.tuple #[con k v, .bool b]) W := by
  obtain ⟨c0, c1⟩ := h
  simp [results, hf, go_sem, ht, hb, c0, c1]

theorem pair_ret (fn : Func) (hf : fn.results = #[.cell 2 23, .tmp 3]) {W W' : World} {a b : Value} {k v : Int} {ok : Bool} {tmps : Array Value} (hT : Two W' W.heap.size a b) (hB : Below W.heap.size W W') (ht : tmps[2]? = some (.pointer (some ⟨W.heap.size, 0, none⟩))) (hb : tmps[3]? = some (.bool ok)) :
    bodyPost Tryd.prog fn (PairPost k v ok W) .ret ⟨tmps, []⟩ ((W'.setCell ⟨W.heap.size, 0, none⟩ (.int .i64 k)).setCell ⟨W.heap.size, 1, none⟩ (.int .i64 v)) :=
  bodyPost_ret (pair_results fn hf _ W.heap.size k v ok _ ht hb (let h2 := (hT.set0 (c := .int .i64 k)).set1 (c := .int .i64 v); ⟨h2.1, h2.2.1⟩)) rfl
    ⟨rfl, below_setCell (below_setCell hB _ _ (Nat.le_refl _)) _ _ (Nat.le_refl _)⟩

set_option maxHeartbeats 400000 in
theorem parse_none (s : ByteArray) (HN : Hid (∀ w, ErrVars w → Calls Tryd.prog 18 #[.string s] w (NamedPost .nilIface false w))) (w : World) (hE : ErrVars w) :
    Calls Tryd.prog 11 #[.string s] w (PairPost 0 0 false w) := by
  have HE := Lib.hid hE
  clear hE
  go_enter Tryd.func11, Tryd.ntmps11
  go_wp2_with fail
  refine (HN.out _ (HE.out.keep (below_box _ _))).mono ?_; rintro e W1 ⟨rfl, hb⟩
  have T1 := Lib.hid ((two_new w _ _ _).below hb)
  have B1 := Lib.hid (below_next (below_box w _) hb)
  obtain ⟨g0, g1, f0, f1, -⟩ := T1.out
  clear hb
  go_wp2
  exact pair_ret _ rfl T1.out B1.out rfl rfl

set_option maxHeartbeats 400000 in
theorem parse_yes (s : ByteArray) (x : Value) (k v : Int) (HN : Hid (∀ w, ErrVars w → Calls Tryd.prog 18 #[.string s] w (NamedPost x true w))) (HP : Hid (∀ w, Calls Tryd.prog 19 #[x] w (ConRet k v w)))
    (HT : Hid (conText k v = s)) (w : World) (hE : ErrVars w) :
    Calls Tryd.prog 11 #[.string s] w (PairPost k v true w) := by
  have HE := Lib.hid hE
  have HX : Hid (∀ w, Calls Tryd.prog 20 #[con k v] w (TextPost s w)) := by intro w; rw [← HT.out]; exact implText_c k v w
  clear hE
  go_enter Tryd.func11, Tryd.ntmps11
  go_wp2_with fail
  refine (HN.out _ (HE.out.keep (below_box _ _))).mono ?_; rintro e W1 ⟨rfl, hb1⟩
  have T1 := Lib.hid ((two_new w _ _ _).below hb1)
  have B1 := Lib.hid (below_next (below_box w _) hb1)
  clear hb1
  go_wp2_with fail
  refine (HP.out _).mono ?_; rintro e W2 ⟨rfl, hb2⟩
  have T2 := Lib.hid (T1.out.below hb2)
  have B2 := Lib.hid (below_next B1.out hb2)
  clear hb2
  unfold con at HX ⊢
  go_wp2_with fail
  refine (HX.out _).mono ?_; rintro e W3 ⟨rfl, hb3⟩
  have T3 := Lib.hid (T2.out.below (below_next (below_box _ _) hb3))
  have B3 := Lib.hid (below_next B2.out (below_next (below_box _ _) hb3))
  have c0 := box_cell hb3 0
  have c1 := box_cell hb3 1
  obtain ⟨g0, g1, f0, f1, -⟩ := T3.out
  clear hb3
  go_wp2
  exact pair_ret _ rfl T3.out B3.out rfl rfl

set_option maxHeartbeats 400000 in
theorem parse_not (s t : ByteArray) (x : Value) (k v : Int) (HN : Hid (∀ w, ErrVars w → Calls Tryd.prog 18 #[.string s] w (NamedPost x true w))) (HP : Hid (∀ w, Calls Tryd.prog 19 #[x] w (ConRet k v w)))
    (HT : Hid (conText k v = t)) (hts : t ≠ s) (w : World) (hE : ErrVars w) :
    Calls Tryd.prog 11 #[.string s] w (PairPost 0 0 false w) := by
  have HE := Lib.hid hE
  have HX : Hid (∀ w, Calls Tryd.prog 20 #[con k v] w (TextPost t w)) := by intro w; rw [← HT.out]; exact implText_c k v w
  have hne : (t.toList == s.toList) = false := by
    rw [beq_eq_false_iff_ne, Lib.toList_data, Lib.toList_data]
    exact fun e => hts (by rw [← Lib.mk_data t, ← Lib.mk_data s, e])
  clear hE hts
  go_enter Tryd.func11, Tryd.ntmps11
  go_wp2_with fail
  refine (HN.out _ (HE.out.keep (below_box _ _))).mono ?_; rintro e W1 ⟨rfl, hb1⟩
  have T1 := Lib.hid ((two_new w _ _ _).below hb1)
  have B1 := Lib.hid (below_next (below_box w _) hb1)
  clear hb1
  go_wp2_with fail
  refine (HP.out _).mono ?_; rintro e W2 ⟨rfl, hb2⟩
  have T2 := Lib.hid (T1.out.below hb2)
  have B2 := Lib.hid (below_next B1.out hb2)
  clear hb2
  unfold con at HX ⊢
  go_wp2_with fail
  refine (HX.out _).mono ?_; rintro e W3 ⟨rfl, hb3⟩
  have T3 := Lib.hid (T2.out.below (below_next (below_box _ _) hb3))
  have B3 := Lib.hid (below_next B2.out (below_next (below_box _ _) hb3))
  obtain ⟨g0, g1, f0, f1, -⟩ := T3.out
  clear hb3
  go_wp2
  exact pair_ret _ rfl T3.out B3.out rfl rfl

theorem fB_facts (n : Nat) : ((fB n).extract 0 1).toList = [102] ∧ 1 ≤ (fB n).size ∧ ((fB n).extract 1 (fB n).size).data.toList = Lib.decDigits n := by
  have h := fB_data n
  obtain ⟨s, hs⟩ : ∃ s, fB n = s := ⟨_, rfl⟩
  rw [hs] at h ⊢
  obtain ⟨⟨l⟩⟩ := s
  simp at h
  subst h
  refine ⟨?_, ?_, ?_⟩
  · rw [Lib.toList_data, ByteArray.data_extract]; simp
  · simp [ByteArray.size]
  · rw [ByteArray.data_extract]; simp [ByteArray.size]

theorem parseR_none {s : ByteArray} (h45 : s ≠ ⟨#[45]⟩) (h100 : s ≠ ⟨#[100]⟩) (h : ∀ n, n < 100 → s ≠ fB n) : parseR s = (0, 0, false) := by
  unfold parseR
  rw [if_neg h45, if_neg h100, findF_none h]

theorem parseR_file {n : Nat} (h : n < 100) : parseR (fB n) = (2, (n : Int), true) := by
  have hf := fB_data n
  have h45 : fB n ≠ ⟨#[45]⟩ := fun e => by rw [e] at hf; simp at hf
  have h100 : fB n ≠ ⟨#[100]⟩ := fun e => by rw [e] at hf; simp at hf
  unfold parseR
  rw [if_neg h45, if_neg h100, findF_fB h]

def ParsePost (s : ByteArray) (w : World) (e : Ending) (w' : World) : Prop := PairPost (parseR s).1 (parseR s).2.1 (parseR s).2.2 w e w'

/-- impl.ContentParse, at every text. -/
theorem implParse_c (s : ByteArray) (hl : s.size ≤ 140737488355328) (w : World) (hE : ErrVars w) : Calls Tryd.prog 11 #[.string s] w (ParsePost s w) := by
  unfold ParsePost
  by_cases h45 : s = ⟨#[45]⟩
  · subst h45
    exact parse_yes _ _ 0 0 (fun w _ => named_dash w) (fun w => plainOf_nothing w) rfl w hE
  by_cases h100 : s = ⟨#[100]⟩
  · subst h100
    exact parse_yes _ _ 1 0 (fun w _ => named_d w) (fun w => plainOf_directory w) rfl w hE
  by_cases hf : 1 ≤ s.size ∧ (s.extract 0 1).toList = [102]
  · obtain ⟨hs, hp⟩ := hf
    cases ha : Lib.atoiAll (s.extract 1 s.size).data.toList with
    | ok u =>
      by_cases ht : conText 2 u = s
      · obtain ⟨n, hn, rfl, rfl⟩ := conText_is ht (fun e => by rw [e] at hs; simp [ByteArray.size] at hs)
        rw [parseR_file hn]
        exact parse_yes _ _ 2 n (fun w h => named_file _ hp hs hl n ha w h) (fun w => plainOf_file n w) ht w hE
      · rw [parseR_none h45 h100 (fun n hn e => ht (by
          subst e
          rw [(fB_facts n).2.2, atoi_dec hn] at ha
          injection ha with ha
          rw [← ha, conText_file hn]))]
        exact parse_not s _ _ 2 u (fun w h => named_file _ hp hs hl u ha w h) (fun w => plainOf_file u w) rfl ht w hE
    | «syntax» =>
      rw [parseR_none h45 h100 (fun n hn e => by subst e; rw [(fB_facts n).2.2, atoi_dec hn] at ha; cases ha)]
      exact parse_none s (fun w h => named_bad s hp hs hl (fun u hu => by rw [ha] at hu; cases hu) w h) w hE
    | range =>
      rw [parseR_none h45 h100 (fun n hn e => by subst e; rw [(fB_facts n).2.2, atoi_dec hn] at ha; cases ha)]
      exact parse_none s (fun w h => named_bad s hp hs hl (fun u hu => by rw [ha] at hu; cases hu) w h) w hE
  · rw [parseR_none h45 h100 (fun n hn e => hf (by subst e; exact ⟨(fB_facts n).2.1, (fB_facts n).1⟩))]
    exact parse_none s (fun w h => named_other s h45 h100 hl (fun h1 => beq_eq_false_iff_ne.2 (fun e => hf ⟨h1, e⟩)) w h) w hE

def SpecRel (s : ByteArray) (w : World) (i : Value) (wr : World) : Prop :=
  ∃ n : Nat, i = .int .i64 n ∧ n ≤ 100 ∧ Hid (∀ m, m < n → s ≠ fB m) ∧ Hid (Two wr w.heap.size (.int .i64 0) (.int .i64 0)) ∧ Hid (Below w.heap.size w wr)

set_option maxHeartbeats 1000000 in
set_option maxRecDepth 100000 in
theorem specParse_loop (s : ByteArray) (h45 : s ≠ ⟨#[45]⟩) (h100 : s ≠ ⟨#[100]⟩) (w : World) : Calls Tryd.prog 8 #[.string s] w (ParsePost s w) := by
  have n1 : (s.toList == [45]) = false := bytes_ne (l := [45]) h45
  have n2 : (s.toList == [100]) = false := bytes_ne (l := [100]) h100
  have HN := Lib.hid (And.intro h45 h100)
  clear h45 h100
  go_enter Tryd.func8, Tryd.ntmps8
  go_wp2
  clear n1 n2
  go_loopw [4, 5] (fun i c wr => SpecRel s w i wr) (fun i _ _ => (100 - intOf i).toNat)
  case atStart => exact ⟨0, rfl, by omega, Lib.hid (fun m h => absurd h (by omega)), two_new w _ _ _, below_box w _⟩
  case round =>
    obtain ⟨n, rfl, hn, HM, HT, HB⟩ := hrel
    by_cases h9 : n ≤ 99
    · have h9' : (n : Int) ≤ 99 := by omega
      have HX : Hid (∀ w, Calls Tryd.prog 14 #[.agg #[.int .i64 2, .int .i64 n]] w (TextPost (fB n) w)) := by
        intro w; rw [← conText_file (show n < 100 by omega)]; exact specText_c 2 n w
      have HN9 := Lib.hid h9
      by_cases he : s = fB n
      · have HR := Lib.hid (show parseR s = (2, (n : Int), true) by rw [he, parseR_file (by omega)])
        rw [← he] at HX
        clear he h9 hn
        go_wp2_with fail
        refine (HX.out _).mono ?_; rintro e W3 ⟨rfl, hb3⟩
        have T3 := Lib.hid (HT.out.below (below_next (below_box _ _) hb3))
        have B3 := Lib.hid (below_next HB.out (below_next (below_box _ _) hb3))
        have c0 := box_cell hb3 0
        have c1 := box_cell hb3 1
        obtain ⟨g0, g1, f0, f1, -⟩ := T3.out
        clear hb3
        go_wp2
        unfold ParsePost
        rw [HR.out]
        exact pair_ret _ rfl T3.out B3.out rfl rfl
      · have HE := Lib.hid he
        have hne : ((fB n).toList == s.toList) = false := by
          rw [beq_eq_false_iff_ne, Lib.toList_data, Lib.toList_data]
          exact fun e => he (by rw [← Lib.mk_data s, ← e, Lib.mk_data])
        generalize fB n = t at HX hne
        clear he h9 hn
        go_wp2_with fail
        refine (HX.out _).mono ?_; rintro e W3 ⟨rfl, hb3⟩
        have T3 := Lib.hid (HT.out.below (below_next (below_box _ _) hb3))
        have B3 := Lib.hid (below_next HB.out (below_next (below_box _ _) hb3))
        clear hb3
        go_wp2
        have h9 := HN9.out
        refine ⟨⟨n + 1, by go_num, by omega, ?_, T3, B3⟩, ?_⟩
        · intro m hm
          by_cases hmn : m < n
          · exact HM.out m hmn
          · have : m = n := by omega
            subst this; exact HE.out
        · simp [intOf]; omega
    · have h9' : (99 : Int) < n := by omega
      have HR := Lib.hid (parseR_none HN.out.1 HN.out.2 (fun m hm => HM.out m (by omega)))
      obtain ⟨g0, g1, f0, f1, -⟩ := HT.out
      clear h9 hn
      go_wp2
      unfold ParsePost
      rw [HR.out]
      exact pair_ret _ rfl HT.out HB.out rfl rfl

set_option maxHeartbeats 400000 in
theorem specParse_dash (w : World) : Calls Tryd.prog 8 #[.string ⟨#[45]⟩] w (ParsePost ⟨#[45]⟩ w) := by
  go_enter Tryd.func8, Tryd.ntmps8
  go_wp2
  exact bodyPost_ret (pair_results _ rfl _ w.heap.size 0 0 true _ rfl rfl ⟨by rw [World.cell?_alloc_new]; rfl, by rw [World.cell?_alloc_new]; rfl⟩) rfl ⟨rfl, below_box _ _⟩

set_option maxHeartbeats 400000 in
theorem specParse_d (w : World) : Calls Tryd.prog 8 #[.string ⟨#[100]⟩] w (ParsePost ⟨#[100]⟩ w) := by
  go_enter Tryd.func8, Tryd.ntmps8
  go_wp2
  exact bodyPost_ret (pair_results _ rfl _ w.heap.size 1 0 true _ rfl rfl ⟨by rw [World.cell?_alloc_new]; rfl, by rw [World.cell?_alloc_new]; rfl⟩) rfl ⟨rfl, below_box _ _⟩

/-- spec.ContentParse, at every text. -/
theorem specParse_c (s : ByteArray) (w : World) : Calls Tryd.prog 8 #[.string s] w (ParsePost s w) := by
  by_cases h45 : s = ⟨#[45]⟩
  · subst h45; exact specParse_dash w
  by_cases h100 : s = ⟨#[100]⟩
  · subst h100; exact specParse_d w
  exact specParse_loop s h45 h100 w

end Go.Proofs.YtnmpbocnbcokeabDoor
