/-
  WALKS: spec.DrawContentText.
-/
import Derived.Test.YtmmnihgnejndjaaDoorCd
namespace Go.Proofs.YtmmnihgnejndjaaDoor
open Go.RowKit
set_option linter.unusedVariables false

/-- A drawn content, out of the code. -/
def DrawTextPost (W : World) (e : Ending) (W' : World) : Prop := ∃ k v : Int, e = .returned (con k v) ∧ -1 ≤ k ∧ k ≤ 3 ∧ -1 ≤ v ∧ v ≤ 100 ∧ Below W.heap.size W W'

set_option maxHeartbeats 400000 in
theorem drawText_c (a : Option Addr) (len cap : Nat) (zs : List Int) (W : World) (h : IsRow .u8 W a len cap zs) :
    Calls Tryd.prog 7 #[.slice a len cap] W (DrawTextPost W) := by
  have HI := Lib.hid h
  have HO := Lib.hid (fun W h => l6Open_c a len cap zs W h)
  have HL := Lib.hid (fun N0 B W1 hR => l91Content_c N0 B 0 W1 (by omega) hR)
  clear h
  go_enter Tryd.func7, Tryd.ntmps7
  go_wp2_with fail
  refine (HO.out _ (HI.out.alloc _)).mono ?_
  rintro e W1 ⟨rfl, hR, hB⟩
  have T1 := Lib.hid ((two_new W _ _ _).below hB)
  have B1 := Lib.hid (below_next (below_box W _) hB)
  have hR' : RdAt (W.heap.size + 1 + 1) W1 (W.heap.size + 1) 0 := by simpa using hR
  clear hB hR
  go_wp2_with fail
  refine (HL.out _ _ _ hR').mono ?_
  rintro e W2 ⟨k, v, q, rfl, k0, k1, v0, v1, hq, hR2, hg⟩
  have KV := Lib.hid (And.intro k0 (And.intro k1 (And.intro v0 v1)))
  have T2 := Lib.hid (T1.out.keep hg (by simp))
  have B2 := Lib.hid (B1.out.grown hg B1.out.size (fun k e => by cases e; simp))
  clear k0 k1 v0 v1 hq hR' hR2 hg
  obtain ⟨g0, g1, f0, f1, -⟩ := T2.out
  go_wp2
  refine bodyPost_ret (con_results _ rfl _ W.heap.size k v _ rfl (let h2 := (T2.out.set0 (c := .int .i64 k)).set1 (c := .int .i64 v); ⟨h2.1, h2.2.1⟩)) rfl ?_
  exact ⟨k, v, rfl, KV.out.1, KV.out.2.1, KV.out.2.2.1, KV.out.2.2.2, below_setCell (below_setCell B2.out _ _ (Nat.le_refl _)) _ _ (Nat.le_refl _)⟩

end Go.Proofs.YtmmnihgnejndjaaDoor
