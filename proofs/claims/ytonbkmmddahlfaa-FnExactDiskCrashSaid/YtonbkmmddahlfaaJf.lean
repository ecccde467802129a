/-
  WALKS: the block of a disk (a mutex, three files); impl.settled.
-/
import Derived.Deep.RegionHeld3
import Derived.Deep.RegionLaw
import Derived.Test.YtonbkmmddahlfaaJe
namespace Go.Proofs.Ytonbkmmddahlfaa
open Go.RowKit
set_option linter.unusedVariables false

theorem jf_first : (0 : Nat) ≤ 0 := Nat.le_refl 0

/-- A file in a block of its own. -/
def BBox (W : World) (c : Nat) (n : Int) (u v : Value) : Prop := W.heap[c]? = some (.cells #[.int .i64 n, u, v] 48 (0, 0))
theorem BBox.cells {W : World} {c : Nat} {n : Int} {u v : Value} (h : BBox W c n u v) : W.cell? ⟨c, 0, none⟩ = some (.int .i64 n) ∧ W.cell? ⟨c, 1, none⟩ = some u ∧ W.cell? ⟨c, 2, none⟩ = some v ∧ W.frozen? ⟨c, 0, none⟩ = false ∧ W.frozen? ⟨c, 1, none⟩ = false ∧ W.frozen? ⟨c, 2, none⟩ = false := by
  unfold BBox at h
  simp [World.cell?, World.frozen?, h]
theorem BBox.lt {W : World} {c : Nat} {n : Int} {u v : Value} (h : BBox W c n u v) : c < W.heap.size := (Array.getElem?_eq_some_iff.1 h).1
theorem BBox.keep {W W' : World} {c : Nat} {n : Int} {u v : Value} (h : BBox W c n u v) (hb : Below W.heap.size W W') : BBox W' c n u v := (hb.block c h.lt).trans h
theorem bbox_new (W : World) (n : Int) (u v : Value) : BBox (W.alloc (.cells #[.int .i64 n, u, v] 48)) W.heap.size n u v := World.alloc_heap_new W _
theorem BBox.put {W : World} {c : Nat} {n : Int} {u v : Value} (h : BBox W c n u v) (m : Int) (p q : Value) : BBox (((W.setCell ⟨c, 0, none⟩ (.int .i64 m)).setCell ⟨c, 1, none⟩ p).setCell ⟨c, 2, none⟩ q) c m p q := by
  unfold BBox at h ⊢
  simp [World.setCell, h, Array.getElem?_modify]
theorem BBox.kept3 {W : World} {c : Nat} {n : Int} {u v : Value} (h : BBox W c n u v) (m : Int) (p q : Value) : IntKept W (((W.setCell ⟨c, 0, none⟩ (.int .i64 m)).setCell ⟨c, 1, none⟩ p).setCell ⟨c, 2, none⟩ q) := by
  refine ⟨rfl, rfl, rfl, by simp [World.setCell], fun k cs hk hc => ?_⟩
  have hne : k ≠ c := by
    rintro rfl
    unfold BBox at h
    rw [h] at hc
    cases hc
  rw [Below.heap_setCell _ _ _ _ hne, Below.heap_setCell _ _ _ _ hne, Below.heap_setCell _ _ _ _ hne]
theorem blob_results (fn : Func) {i : Nat} (hf : fn.results = #[.cell i 48]) (W : World) (c : Nat) (n : Int) (u v : Value) (tmps : Array Value) (ht : tmps[i]? = some (.pointer (some ⟨c, 0, none⟩))) (h : BBox W c n u v) :
    (results fn tmps).run Try.prog W = .ok (.agg #[.int .i64 n, u, v]) W := by
  obtain ⟨c0, c1, c2, -⟩ := h.cells
  simp [results, hf, go_sem, ht, c0, c1, c2]

theorem far3 {W : World} {b d o o1 o2 o3 : Nat} {v p q r : Value} (hne : b ≠ d) (h : W.cell? ⟨b, o, none⟩ = some v) : (((W.setCell ⟨d, o1, none⟩ p).setCell ⟨d, o2, none⟩ q).setCell ⟨d, o3, none⟩ r).cell? ⟨b, o, none⟩ = some v := by
  have e : ∀ x : Nat, (⟨d, x, none⟩ : Addr) ≠ ⟨b, o, none⟩ := fun x h => hne (congrArg Addr.block h).symm
  rw [World.cell?_setCell_other _ _ _ _ (e _), World.cell?_setCell_other _ _ _ _ (e _), World.cell?_setCell_other _ _ _ _ (e _)]
  exact h

theorem frozen_kept {W W' : World} {b o o' : Nat} {v : Value} (hb : Below W.heap.size W W') (hc : W.cell? ⟨b, o', none⟩ = some v) (hf : W.frozen? ⟨b, o, none⟩ = false) : W'.frozen? ⟨b, o, none⟩ = false :=
  (World.frozen?_of_block (a := ⟨b, o, none⟩) (hb.block b (World.block_lt_of_cell? W ⟨b, o', none⟩ hc))).trans hf

/-- What settled tells. -/
def FilePost (x : Bl) (W : World) (e : Ending) (w' : World) : Prop := ∃ u v, e = .returned (.agg #[.int .i64 x.n, u, v]) ∧ LsAt w' u x.s ∧ LsAt w' v x.f ∧ Below W.heap.size W w'

theorem take_min {f : List Int} {k : Nat} : f.take (min k f.length) = f.take k := by
  rcases Nat.le_total k f.length with h | h
  · rw [Nat.min_eq_left h]
  · rw [Nat.min_eq_right h, List.take_length, List.take_of_length_le h]

set_option maxHeartbeats 2000000 in
set_option maxRecDepth 100000 in
theorem settled_c (n : Int) (a1 a2 : Option Addr) (c1 c2 : Nat) (s f : List Int) (k : Nat) (hs : s.length + f.length ≤ 2097152) (hk : k ≤ 2097152) (W : World) (h1 : LsAt W (.slice a1 s.length c1) s) (h2 : LsAt W (.slice a2 f.length c2) f) :
    Calls Try.prog 60 #[.agg #[.int .i64 n, .slice a1 s.length c1, .slice a2 f.length c2], .int .i64 k] W (FilePost ⟨n, s ++ f.take k, []⟩ W) := by
  obtain ⟨m, hm⟩ : ∃ m, min k f.length = m := ⟨_, rfl⟩
  obtain ⟨g, hg⟩ : ∃ g, f.take k = g := ⟨_, rfl⟩
  have hgm : f.take m = g := by rw [← hm, take_min, hg]
  have hml : m ≤ f.length := by omega
  have hgl : g.length = m := by rw [← hgm, List.length_take]; omega
  obtain ⟨-, -, hfc, hfm, -⟩ := h2.ints
  have hkp := h2.take hml
  rw [hgm] at hkp
  rw [hg]
  have hb := below_next (below_box W (.cells #[.int .i64 n, .slice a1 s.length c1, .slice a2 f.length c2] 48)) (below_box (W.alloc (.cells #[.int .i64 n, .slice a1 s.length c1, .slice a2 f.length c2] 48)) (.cells #[.int .i64 0, .slice none 0 0, .slice none 0 0] 48))
  have HB := Lib.hid hb
  have HX := Lib.hid ((bbox_new W n (.slice a1 s.length c1) (.slice a2 f.length c2)).keep (below_box _ (.cells #[.int .i64 0, .slice none 0 0, .slice none 0 0] 48)))
  have HY := Lib.hid (show BBox ((W.alloc (.cells #[.int .i64 n, .slice a1 s.length c1, .slice a2 f.length c2] 48)).alloc (.cells #[.int .i64 0, .slice none 0 0, .slice none 0 0] 48)) (W.heap.size + 1) 0 (.slice none 0 0) (.slice none 0 0) by
    have := bbox_new (W.alloc (.cells #[.int .i64 n, .slice a1 s.length c1, .slice a2 f.length c2] 48)) 0 (.slice none 0 0) (.slice none 0 0)
    rwa [World.size_alloc] at this)
  have HS := Lib.hid h1
  have HK := Lib.hid hkp
  have HSZ := Lib.hid (show s.length + g.length ≤ 2097152 by omega)
  obtain ⟨ls, hls⟩ : ∃ x, s.length = x := ⟨_, rfl⟩
  obtain ⟨lf, hlf⟩ : ∃ x, f.length = x := ⟨_, rfl⟩
  rw [hls] at HB HX HY HS ⊢
  rw [hlf] at HB HX HY hml hfc ⊢
  have hfc' : (lf : Int) ≤ c2 := by omega
  have hmc : (m : Int) ≤ c2 := by omega
  have hm0 : (0 : Int) ≤ m := by omega
  have hcm : c2 ≤ 9223372036854775807 := Nat.le_trans hfm (by unfold maxLen; omega)
  have hmin : min (k : Int) lf = m := by rw [← hm, hlf]; omega
  have hk' : (k : Int) ≤ 2097152 := by omega
  clear h1 h2 hkp hb hls hlf hm hg hgm hgl hfm hfc hml
  go_enter Try.func60, Try.ntmps60
  go_wp2
  generalize hX : (W.alloc (.cells #[.int .i64 n, .slice a1 ls c1, .slice a2 lf c2] 48)).alloc (.cells #[.int .i64 0, .slice none 0 0, .slice none 0 0] 48) = X at HX HY HB ⊢
  have HSX := Lib.hid (HS.out.keep HB.out)
  have HKX := Lib.hid (HK.out.keep HB.out)
  clear hX HS HK
  obtain ⟨x0, x1, x2, -, -, -⟩ := HX.out.cells
  obtain ⟨y0, y1, y2, z0, z1, z2⟩ := HY.out.cells
  have HB1 := Lib.hid (below_next HB.out (below_box X (.cells #[.slice a1 ls c1, .slice a2 m c2] 29)).drew)
  have HS0 := Lib.hid (show X.drew.cell? ⟨W.heap.size, 0, none⟩ = some (.int .i64 n) ∧ X.drew.cell? ⟨W.heap.size, 1, none⟩ = some (.slice a1 ls c1) from ⟨x0, x1⟩)
  have HKP := Lib.hid (fun (u1 u2 : World) (h : u1.cell? ⟨W.heap.size, 0, none⟩ = some (.int .i64 n) ∧ u1.cell? ⟨W.heap.size, 1, none⟩ = some (.slice a1 ls c1)) (hb : Below u1.heap.size u1 u2) => show u2.cell? ⟨W.heap.size, 0, none⟩ = some (.int .i64 n) ∧ u2.cell? ⟨W.heap.size, 1, none⟩ = some (.slice a1 ls c1) from ⟨cell_kept hb h.1, cell_kept hb h.2⟩)
  have HS1 := Lib.hid (HKP.out X (X.alloc (.cells #[.slice a1 ls c1, .slice a2 m c2] 29)).drew HS0.out (below_box X _).drew)
  have HY1 := Lib.hid (HY.out.keep (below_box X (.cells #[.slice a1 ls c1, .slice a2 m c2] 29)).drew)
  have HC := Lib.hid (show Calls Try.prog 58 #[.slice (some ⟨X.heap.size, 0, none⟩) 2 2] (X.alloc (.cells #[.slice a1 ls c1, .slice a2 m c2] 29)).drew (fun e W' => OwnsInts (X.heap.size + 1) (s ++ g) e W' ∧ Below (X.alloc (.cells #[.slice a1 ls c1, .slice a2 m c2] 29)).drew.heap.size (X.alloc (.cells #[.slice a1 ls c1, .slice a2 m c2] 29)).drew W') by
    have := concat2_c X.heap.size 2 (.slice a1 ls c1) (.slice a2 m c2) s g HSZ.out (X.alloc (.cells #[.slice a1 ls c1, .slice a2 m c2] 29)).drew (two_newJ X _ _ _) (HSX.out.keep (below_box X _).drew) (HKX.out.keep (below_box X _).drew)
    rwa [show (X.alloc (.cells #[.slice a1 ls c1, .slice a2 m c2] 29)).drew.heap.size = X.heap.size + 1 from World.size_alloc _ _] at this ⊢)
  clear x0 x1 x2 y0 y1 y2 z0 z1 z2
  go_region_held3 (fun w' => w'.cell? ⟨W.heap.size, 0, none⟩ = some (.int .i64 n) ∧ w'.cell? ⟨W.heap.size, 1, none⟩ = some (.slice a1 ls c1))
    (first | exact HS0.out | exact HS1.out | exact HS7.out | exact HS8.out _ _ _)
    (first | (go_at_call 58; (with_reducible refine (HC.out).mono ?_); rintro e W7 ⟨⟨s7, rfl, ho7⟩, hb7⟩; have HS7 := Lib.hid (HKP.out _ _ HS1.out hb7); have HS8 := Lib.hid (fun p q r => show (((W7.setCell ⟨W.heap.size + 1, 0, none⟩ p).setCell ⟨W.heap.size + 1, 1, none⟩ q).setCell ⟨W.heap.size + 1, 2, none⟩ r).cell? ⟨W.heap.size, 0, none⟩ = some (.int .i64 n) ∧ (((W7.setCell ⟨W.heap.size + 1, 0, none⟩ p).setCell ⟨W.heap.size + 1, 1, none⟩ q).setCell ⟨W.heap.size + 1, 2, none⟩ r).cell? ⟨W.heap.size, 1, none⟩ = some (.slice a1 ls c1) from ⟨by rw [World.cell?_setCell_other _ _ _ _ (by simp), World.cell?_setCell_other _ _ _ _ (by simp), World.cell?_setCell_other _ _ _ _ (by simp)]; exact HS7.out.1, by rw [World.cell?_setCell_other _ _ _ _ (by simp), World.cell?_setCell_other _ _ _ _ (by simp), World.cell?_setCell_other _ _ _ _ (by simp)]; exact HS7.out.2⟩); have HY7 := Lib.hid (HY1.out.keep hb7); have HB7 := Lib.hid (below_next HB1.out hb7); have HL7 := Lib.hid (ls_of_own ho7); obtain ⟨y0, y1, y2, z0, z1, z2⟩ := HY7.out.cells; obtain ⟨a7, c7, rfl, -⟩ := ints_of_own ho7; clear hb7 ho7))
  have hll : (s ++ g).length = s.length + g.length := List.length_append
  go_wp2
  refine bodyPost_ret (blob_results _ rfl _ (W.heap.size + 1) n (.slice a7 (s.length + g.length) c7) (.slice none 0 0) _ rfl (HY7.out.put _ _ _)) rfl ⟨_, _, rfl, ?_, ls_nil _, below_setCell (below_setCell (below_setCell HB7.out _ _ (Nat.le_succ _)) _ _ (Nat.le_succ _)) _ _ (Nat.le_succ _)⟩
  rw [← hll]
  exact HL7.out.kept (HY7.out.kept3 _ _ _)

end Go.Proofs.Ytonbkmmddahlfaa
