/-
  WALK: spec.CommandParse.
-/
import Derived.Test.YtnmpbocnbcokeabDoorCz
import Derived.Test.YtnmpbocnbcokeabDoorCk
namespace Go.Proofs.YtnmpbocnbcokeabDoor
open Go.RowKit
set_option linter.unusedVariables false

theorem wordsL_short : ∀ (l : List UInt8) (x : List UInt8), x ∈ wordsL l → x.length ≤ l.length
  | [], x, h => by simp [wordsL] at h; subst h; simp
  | c :: r, x, h => by
    unfold wordsL at h
    split at h
    · rcases List.mem_cons.1 h with rfl | h
      · simp
      · have := wordsL_short r x h; simp; omega
    · split at h
      · rcases List.mem_singleton.1 h with rfl; simp
      · rename_i w ws hr
        rcases List.mem_cons.1 h with rfl | h
        · have := wordsL_short r w (by rw [hr]; simp)
          simp; omega
        · have := wordsL_short r x (by rw [hr]; exact List.mem_cons_of_mem _ h)
          simp; omega

theorem wordsB_short {s x : ByteArray} (h : x ∈ wordsB s) : x.size ≤ s.size := by
  unfold wordsB at h
  obtain ⟨w, hw, rfl⟩ := List.mem_map.1 h
  have := wordsL_short _ _ hw
  rw [Lib.size_eq s]
  show w.toArray.size ≤ _
  rw [List.size_toArray]
  exact this

theorem wordsB_pos (s : ByteArray) : 1 ≤ (wordsB s).length := by
  unfold wordsB
  rw [List.length_map]
  cases h : wordsL s.data.toList with
  | nil => exact absurd h (wordsL_ne _)
  | cons x r => simp

theorem parse_count {s : ByteArray} (h : (wordsB s).length ≠ 3) : parseC s = (zeroC, false) := by
  unfold parseC
  split
  · rename_i a b c e; rw [e] at h; exact absurd rfl h
  · rfl


set_option maxHeartbeats 1000000 in
set_option maxRecDepth 100000 in
theorem specCmdParse_count (s : ByteArray) (hs : s.size ≤ 2097152) (h3 : (wordsB s).length ≠ 3) (W : World) : Calls Tryd.prog 4 #[.string s] W (CmdPairPost (parseC s).1 (parseC s).2 W) := by
  have HR := Lib.hid (parse_count h3)
  obtain ⟨n, hn⟩ : ∃ n, (wordsB s).length = n := ⟨_, rfl⟩
  have HW := Lib.hid (fun W' => l11Words_c s hs W')
  have hb3 : ((n : Int) != 3) = true := by rw [hn] at h3; simp; omega
  have HN := Lib.hid hn
  clear h3 hn
  go_enter Tryd.func4, Tryd.ntmps4
  go_wp2_with fail
  refine (HW.out _).mono ?_
  rintro e W1 ⟨⟨g, cap, rfl, hrow⟩, hb1⟩
  have T1 := Lib.hid ((five_new W _ _ _ _ _ _).below hb1)
  have B1 := Lib.hid (below_next (below_box W _) hb1)
  rw [HN.out] at *
  clear hb1 hrow
  obtain ⟨c0, c1, c2, c3, c4, f0, f1, f2, f3, f4, -⟩ := T1.out
  go_wp2
  rw [HR.out]
  exact cmdpair_ret _ rfl rfl T1.out B1.out rfl rfl

theorem parse_three {s a b c : ByteArray} (h : wordsB s = [a, b, c]) {k1 v1 k2 v2 : Int} {p1 p2 : Bool} (h1 : parseR b = (k1, v1, p1)) (h2 : parseR c = (k2, v2, p2)) :
    parseC s = if (p1 && p2 && validC ⟨a, k1, v1, k2, v2⟩) = true then (⟨a, k1, v1, k2, v2⟩, true) else (zeroC, false) := by
  unfold parseC
  rw [h]
  simp only [h1, h2]

/-- What stands still while the command is put together. -/
def CPar (W : World) (n3 g n2 : Nat) (a : ByteArray) (k1 v1 k2 v2 : Int) (w' : World) : Prop :=
  w'.cell? ⟨g, 0, none⟩ = some (.string a) ∧ w'.cell? ⟨n2, 0, none⟩ = some (.int .i64 k1) ∧ w'.cell? ⟨n2, 1, none⟩ = some (.int .i64 v1) ∧ w'.cell? ⟨n3, 0, none⟩ = some (.int .i64 k2) ∧ w'.cell? ⟨n3, 1, none⟩ = some (.int .i64 v2) ∧
    Five w' W.heap.size (.string ⟨#[]⟩) (.int .i64 0) (.int .i64 0) (.int .i64 0) (.int .i64 0) ∧ Below W.heap.size W w'

theorem CPar.drew {W w' : World} {n3 g n2 : Nat} {a : ByteArray} {k1 v1 k2 v2 : Int} (h : CPar W n3 g n2 a k1 v1 k2 v2 w') : CPar W n3 g n2 a k1 v1 k2 v2 w'.drew :=
  ⟨h.1, h.2.1, h.2.2.1, h.2.2.2.1, h.2.2.2.2.1, h.2.2.2.2.2.1.drew, h.2.2.2.2.2.2.drew⟩

theorem CPar.next {W w' : World} {n3 g n2 : Nat} {a : ByteArray} {k1 v1 k2 v2 : Int} (h : CPar W n3 g n2 a k1 v1 k2 v2 w') (o : Obj) : CPar W n3 g n2 a k1 v1 k2 v2 (w'.alloc o) := by
  obtain ⟨h0, h1, h2, h3, h4, h5, h6⟩ := h
  have hb := below_box w' o
  exact ⟨cell_kept hb h0, cell_kept hb h1, cell_kept hb h2, cell_kept hb h3, cell_kept hb h4, h5.below hb, below_next h6 hb⟩

set_option maxHeartbeats 2000000 in
set_option maxRecDepth 100000 in
theorem specCmdParse_three (s : ByteArray) (hs : s.size ≤ 2097152) (a b c : ByteArray) (h3 : wordsB s = [a, b, c]) (W : World) : Calls Tryd.prog 4 #[.string s] W (CmdPairPost (parseC s).1 (parseC s).2 W) := by
  have hW := fun W' => l11Words_c s hs W'
  rw [h3] at hW
  have HW := Lib.hid hW
  have ha := wordsB_short (show a ∈ wordsB s by rw [h3]; simp)
  obtain ⟨⟨k1, v1, p1⟩, h1⟩ : ∃ r, parseR b = r := ⟨_, rfl⟩
  obtain ⟨⟨k2, v2, p2⟩, h2⟩ : ∃ r, parseR c = r := ⟨_, rfl⟩
  obtain ⟨vc, hvc⟩ : ∃ vc, validC ⟨a, k1, v1, k2, v2⟩ = vc := ⟨_, rfl⟩
  have HR := Lib.hid (parse_three h3 h1 h2)
  have H1 := Lib.hid (fun W' => show Calls Tryd.prog 8 #[.string b] W' (PairPost k1 v1 p1 W') by have := specParse_c b W'; unfold ParsePost at this; rw [h1] at this; exact this)
  have H2 := Lib.hid (fun W' => show Calls Tryd.prog 8 #[.string c] W' (PairPost k2 v2 p2 W') by have := specParse_c c W'; unfold ParsePost at this; rw [h2] at this; exact this)
  have HC := Lib.hid (fun W' => show Calls Tryd.prog 9 #[.agg #[.string a, .int .i64 k1, .int .i64 v1, .int .i64 k2, .int .i64 v2]] W' (BoolPost vc W') by rw [← hvc]; exact specCmdValid_c ⟨a, k1, v1, k2, v2⟩ (by show a.size ≤ _; omega) W')
  rw [hvc] at HR
  clear h3 h1 h2 hvc ha hW
  go_enter Tryd.func4, Tryd.ntmps4
  go_wp2_with fail
  refine (HW.out _).mono ?_
  rintro e W1 ⟨⟨g, cap, rfl, hrow⟩, hb1⟩
  have T1 := Lib.hid ((five_new W _ _ _ _ _ _).below hb1)
  have B1 := Lib.hid (below_next (below_box W _) hb1)
  have HO := Lib.hid hrow
  have d0 : W1.cell? ⟨g, 0, none⟩ = some (.string a) := (hrow.cellAt 0 (by simp)).trans rfl
  have d1 : W1.cell? ⟨g, 1, none⟩ = some (.string b) := (hrow.cellAt 1 (by simp)).trans rfl
  have d2 : W1.cell? ⟨g, 2, none⟩ = some (.string c) := (hrow.cellAt 2 (by simp)).trans rfl
  clear hb1 hrow
  go_wp2_with fail
  refine (H1.out _).mono ?_
  rintro e W2 ⟨rfl, hb2⟩
  have e0 := cell_kept hb2 d0
  have e2 := cell_kept hb2 d2
  have T2 := Lib.hid (T1.out.below hb2)
  have B2 := Lib.hid (below_next B1.out hb2)
  have e3 := fun o => cell_kept (below_box W2 o) e2
  clear hb2 d0 d1 d2 e2
  go_wp2_with fail
  refine (H2.out _).mono ?_
  rintro e W3 ⟨rfl, hb3⟩
  have hb3' := below_next (below_box W2 _) hb3
  have f0 := cell_kept hb3' e0
  have x0 := box_cell hb3 0
  have x1 := box_cell hb3 1
  simp at x0 x1
  have T3 := Lib.hid (T2.out.below hb3')
  have B3 := Lib.hid (below_next B2.out hb3')
  have y0 := fun o => cell_kept (below_box W3 o) f0
  have z0 := fun o => cell_kept (below_box W3 o) x0
  have z1 := fun o => cell_kept (below_box W3 o) x1
  have z2 : ∀ o : Obj, True := fun _ => trivial
  have HS0 : Hid (CPar W W3.heap.size g W2.heap.size a k1 v1 k2 v2 (W3.alloc (.cells #[.int .i64 k2, .int .i64 v2] 23))) :=
    ⟨y0 _, z0 _, z1 _, by rw [World.cell?_alloc_new]; rfl, by rw [World.cell?_alloc_new]; rfl, T3.out.alloc _, B3.out.alloc B3.out.size _⟩
  have HS1 := Lib.hid (HS0.out.next (.cells #[.string ⟨#[]⟩, .int .i64 0, .int .i64 0, .int .i64 0, .int .i64 0] 25))
  have HS2 := Lib.hid (HS0.out.next (.cells #[.string a, .int .i64 k1, .int .i64 v1, .int .i64 k2, .int .i64 v2] 25))
  clear hb3 hb3' e0 e3 f0 x0 x1 z2
  go_upto_region 6 with (fail)
  go_region_held3 (fun w' => w'.cell? ⟨g, 0, none⟩ = some (.string a) ∧ w'.cell? ⟨W2.heap.size, 0, none⟩ = some (.int .i64 k1) ∧ w'.cell? ⟨W2.heap.size, 1, none⟩ = some (.int .i64 v1) ∧ w'.cell? ⟨W3.heap.size, 0, none⟩ = some (.int .i64 k2) ∧ w'.cell? ⟨W3.heap.size, 1, none⟩ = some (.int .i64 v2) ∧ Five w' W.heap.size (.string ⟨#[]⟩) (.int .i64 0) (.int .i64 0) (.int .i64 0) (.int .i64 0) ∧ Below W.heap.size W w')
    (first | exact HS0.out.drew | exact HS1.out.drew | exact HS2.out.drew)
    (fail)
  rename_i hHeld
  have HF5 : Hid (Five ((W3.alloc (.cells #[.int .i64 k2, .int .i64 v2] 23)).alloc (.cells #[.string a, .int .i64 k1, .int .i64 v1, .int .i64 k2, .int .i64 v2] 25)).drew (W3.heap.size + 1) (.string a) (.int .i64 k1) (.int .i64 v1) (.int .i64 k2) (.int .i64 v2)) := by
    have := (five_new (W3.alloc (.cells #[.int .i64 k2, .int .i64 v2] 23)) (.string a) (.int .i64 k1) (.int .i64 v1) (.int .i64 k2) (.int .i64 v2) 25).drew
    have e : (W3.alloc (.cells #[.int .i64 k2, .int .i64 v2] 23)).heap.size = W3.heap.size + 1 := by simp
    rw [e] at this
    exact this
  have HT5 := Lib.hid HS2.out.drew.2.2.2.2.2.1
  have HB5 := Lib.hid HS2.out.drew.2.2.2.2.2.2
  clear hHeld HS0 HS1 HS2 y0 z0 z1 T3 B3 T1 B1 T2 B2 HO
  generalize ((W3.alloc (.cells #[.int .i64 k2, .int .i64 v2] 23)).alloc (.cells #[.string a, .int .i64 k1, .int .i64 v1, .int .i64 k2, .int .i64 v2] 25)).drew = W5 at HF5 HT5 HB5 ⊢
  generalize W3.heap.size + 1 = n4 at HF5 ⊢
  obtain ⟨c0, c1, c2, c3, c4, -⟩ := HF5.out
  obtain ⟨-, -, -, -, -, f0, f1, f2, f3, f4, -⟩ := HT5.out
  obtain ⟨t0, t1, t2, t3, t4, -⟩ := HT5.out
  cases p1 with
  | false =>
    clear c0 c1 c2 c3 c4
    go_wp2
    rw [HR.out]
    exact cmdpair_ret _ rfl rfl HT5.out HB5.out rfl rfl
  | true =>
    cases p2 with
    | false =>
      clear c0 c1 c2 c3 c4
      go_wp2
      rw [HR.out]
      exact cmdpair_ret _ rfl rfl HT5.out HB5.out rfl rfl
    | true =>
      clear f0 f1 f2 f3 f4 t0 t1 t2 t3 t4
      go_wp2_with fail
      refine (HC.out _).mono ?_
      rintro e W6 ⟨rfl, hb6⟩
      have T6 := Lib.hid (HT5.out.below hb6)
      have F6 := Lib.hid (HF5.out.below hb6)
      have B6 := Lib.hid (below_next HB5.out hb6)
      clear hb6 c0 c1 c2 c3 c4 HT5 HF5 HB5
      obtain ⟨t0, t1, t2, t3, t4, f0, f1, f2, f3, f4, -⟩ := T6.out
      cases vc with
      | false =>
        go_wp2
        rw [HR.out]
        exact cmdpair_ret _ rfl rfl T6.out B6.out rfl rfl
      | true =>
        obtain ⟨c0, c1, c2, c3, c4, -⟩ := F6.out
        go_wp2
        rw [HR.out]
        exact cmdpair_ret _ rfl rfl T6.out B6.out rfl rfl

theorem specCmdParse_c (s : ByteArray) (hs : s.size ≤ 2097152) (W : World) : Calls Tryd.prog 4 #[.string s] W (CmdPairPost (parseC s).1 (parseC s).2 W) := by
  by_cases h : (wordsB s).length = 3
  · match h' : wordsB s, h with
    | [a, b, c], _ => exact specCmdParse_three s hs a b c h' W
  · exact specCmdParse_count s hs h W

end Go.Proofs.YtnmpbocnbcokeabDoor
