/-
  WALKS: spec.l31Copy, l31All, DiskRead.
-/
import Derived.Test.YtonbkmmddahlfaaJo
namespace Go.Proofs.Ytonbkmmddahlfaa
open Go.RowKit
set_option linter.unusedVariables false

theorem jp_first : (0 : Nat) ≤ 0 := Nat.le_refl 0

set_option maxHeartbeats 4000000 in
set_option maxRecDepth 100000 in
theorem l31Copy_c (n : Int) (a1 a2 : Option Addr) (c1 c2 : Nat) (s f : List Int) (hs : s.length ≤ 2097152) (hf : f.length ≤ 2097152) (W : World) (h1 : LsAt W (.slice a1 s.length c1) s) (h2 : LsAt W (.slice a2 f.length c2) f) :
    Calls Try.prog 40 #[.agg #[.int .i64 n, .slice a1 s.length c1, .slice a2 f.length c2]] W (FilePost ⟨n, s, f⟩ W) := by
  have hb := below_next (below_box W (.cells #[.int .i64 n, .slice a1 s.length c1, .slice a2 f.length c2] 48)) (below_box (W.alloc (.cells #[.int .i64 n, .slice a1 s.length c1, .slice a2 f.length c2] 48)) (.cells #[.int .i64 0, .slice none 0 0, .slice none 0 0] 48))
  have HB := Lib.hid hb
  have HX := Lib.hid ((bbox_new W n (.slice a1 s.length c1) (.slice a2 f.length c2)).keep (below_box _ (.cells #[.int .i64 0, .slice none 0 0, .slice none 0 0] 48)))
  have HY := Lib.hid (show BBox ((W.alloc (.cells #[.int .i64 n, .slice a1 s.length c1, .slice a2 f.length c2] 48)).alloc (.cells #[.int .i64 0, .slice none 0 0, .slice none 0 0] 48)) (W.heap.size + 1) 0 (.slice none 0 0) (.slice none 0 0) by
    have := bbox_new (W.alloc (.cells #[.int .i64 n, .slice a1 s.length c1, .slice a2 f.length c2] 48)) 0 (.slice none 0 0) (.slice none 0 0)
    rwa [World.size_alloc] at this)
  have HS := Lib.hid h1
  have HK := Lib.hid h2
  have HSS := Lib.hid (And.intro hs hf)
  obtain ⟨ls, hls⟩ : ∃ x, s.length = x := ⟨_, rfl⟩
  obtain ⟨lf, hlf⟩ : ∃ x, f.length = x := ⟨_, rfl⟩
  rw [hls] at HB HX HY HS ⊢
  rw [hlf] at HB HX HY HK ⊢
  clear h1 h2 hb hls hlf hs hf
  go_enter Try.func40, Try.ntmps40
  go_wp2
  generalize hX : (W.alloc (.cells #[.int .i64 n, .slice a1 ls c1, .slice a2 lf c2] 48)).alloc (.cells #[.int .i64 0, .slice none 0 0, .slice none 0 0] 48) = X at HX HY HB ⊢
  have HSX := Lib.hid (fun W' (hb : Below X.heap.size X W') => (HS.out.keep HB.out).keep hb)
  have HKX := Lib.hid (fun W' (hb : Below X.heap.size X W') => (HK.out.keep HB.out).keep hb)
  clear hX HS HK
  obtain ⟨x0, x1, x2, -, -, -⟩ := HX.out.cells
  have HS0 := Lib.hid (show X.cell? ⟨W.heap.size, 0, none⟩ = some (.int .i64 n) ∧ X.cell? ⟨W.heap.size, 1, none⟩ = some (.slice a1 ls c1) ∧ X.cell? ⟨W.heap.size, 2, none⟩ = some (.slice a2 lf c2) from ⟨x0, x1, x2⟩)
  have HKP := Lib.hid (fun (u2 : World) (hb : Below X.heap.size X u2) => show u2.cell? ⟨W.heap.size, 0, none⟩ = some (.int .i64 n) ∧ u2.cell? ⟨W.heap.size, 1, none⟩ = some (.slice a1 ls c1) ∧ u2.cell? ⟨W.heap.size, 2, none⟩ = some (.slice a2 lf c2) from ⟨cell_kept hb HS0.out.1, cell_kept hb HS0.out.2.1, cell_kept hb HS0.out.2.2⟩)
  have HNE := Lib.hid (show W.heap.size ≠ W.heap.size + 1 by omega)
  clear x0 x1 x2
  go_region_held3 (fun w' => w'.cell? ⟨W.heap.size, 0, none⟩ = some (.int .i64 n) ∧ w'.cell? ⟨W.heap.size, 1, none⟩ = some (.slice a1 ls c1) ∧ w'.cell? ⟨W.heap.size, 2, none⟩ = some (.slice a2 lf c2))
    (first | exact HS8.out _ _ _ | exact HKP.out _ (by (repeat (first | exact Below.refl _ _ | exact HB4.out | exact HB3.out | apply Below.drew | refine below_al ?_ (Nat.le_refl _) _))))
    (first
      | (rw [if_pos (by rfl)]; refine wp_append_lit _ _ rfl X.heap.size _ rfl a1 ls c1 s rfl (HSX.out _ (by (repeat (first | exact Below.refl _ _ | apply Below.drew | refine below_al ?_ (Nat.le_refl _) _)))) HSS.out.1 (Below.size (w := X) (by (repeat (first | exact Below.refl X.heap.size _ | apply Below.drew | refine below_al ?_ (Nat.le_refl _) _)))) ?_; intro v3 w3 hF3 hb3; have HB3 := Lib.hid (below_next (show Below X.heap.size X _ by (repeat (first | exact Below.refl _ _ | apply Below.drew | refine below_al ?_ (Nat.le_refl _) _))) hb3); have HF3 := Lib.hid hF3; obtain ⟨a3, c3, rfl⟩ := hF3.out; clear hF3 hb3)
      | (rw [if_pos (by rfl)]; refine wp_append_lit _ _ rfl X.heap.size _ rfl a2 lf c2 f rfl (HKX.out _ (by (repeat (first | exact Below.refl _ _ | exact HB3.out | apply Below.drew | refine below_al ?_ (Nat.le_refl _) _)))) HSS.out.2 (Below.size (w := X) (by (repeat (first | exact Below.refl X.heap.size _ | exact HB3.out | apply Below.drew | refine below_al ?_ (Nat.le_refl _) _)))) ?_; intro v4 w4 hF4 hb4; have HB4 := Lib.hid (below_next (show Below X.heap.size X _ by (repeat (first | exact Below.refl _ _ | exact HB3.out | apply Below.drew | refine below_al ?_ (Nat.le_refl _) _))) hb4); have HF4 := Lib.hid hF4; have HL3 := Lib.hid ((HF3.out.ls.keep (show Below w3.heap.size w3 _ by (repeat (first | exact Below.refl _ _ | apply Below.drew | refine below_al ?_ (Nat.le_refl _) _)))).keep hb4); have HY4 := Lib.hid (HY.out.keep HB4.out); obtain ⟨y0, y1, y2, z0, z1, z2⟩ := HY4.out.cells; obtain ⟨a4, c4, rfl⟩ := hF4.out; have HS8 := Lib.hid (fun p q r => show (((w4.setCell ⟨W.heap.size + 1, 0, none⟩ p).setCell ⟨W.heap.size + 1, 1, none⟩ q).setCell ⟨W.heap.size + 1, 2, none⟩ r).cell? ⟨W.heap.size, 0, none⟩ = some (.int .i64 n) ∧ (((w4.setCell ⟨W.heap.size + 1, 0, none⟩ p).setCell ⟨W.heap.size + 1, 1, none⟩ q).setCell ⟨W.heap.size + 1, 2, none⟩ r).cell? ⟨W.heap.size, 1, none⟩ = some (.slice a1 ls c1) ∧ (((w4.setCell ⟨W.heap.size + 1, 0, none⟩ p).setCell ⟨W.heap.size + 1, 1, none⟩ q).setCell ⟨W.heap.size + 1, 2, none⟩ r).cell? ⟨W.heap.size, 2, none⟩ = some (.slice a2 lf c2) from ⟨far3 HNE.out (HKP.out _ HB4.out).1, far3 HNE.out (HKP.out _ HB4.out).2.1, far3 HNE.out (HKP.out _ HB4.out).2.2⟩); clear hF4 hb4))
  all_goals
    rename_i hS
    clear hS
    have hk := HY4.out.kept3 n (.slice a3 s.length c3) (.slice a4 f.length c4)
    have HL := Lib.hid (And.intro (HL3.out.kept hk) (HF4.out.ls.kept hk))
    have HBE := Lib.hid (below_set3 (n := W.heap.size) (d := W.heap.size + 1) (o1 := 0) (o2 := 1) (o3 := 2) (p := .int .i64 n) (q := .slice a3 s.length c3) (r := .slice a4 f.length c4) (HB.out.trans (HB4.out.mono HB.out.size)) (Nat.le_succ _))
    have HYP := Lib.hid (HY4.out.put n (.slice a3 s.length c3) (.slice a4 f.length c4))
    clear hk y0 y1 y2 z0 z1 z2
    go_wp2
    exact bodyPost_ret (blob_results _ rfl _ (W.heap.size + 1) n (.slice a3 s.length c3) (.slice a4 f.length c4) _ rfl HYP.out) rfl ⟨_, _, rfl, HL.out.1, HL.out.2, HBE.out⟩

end Go.Proofs.Ytonbkmmddahlfaa
