/-
  WALKS: spec.DrawContentParse: a text that is often that of a content.
-/
import Derived.Test.YtmmnihgnejndjaaDoorCd
import Derived.Test.YtmmnihgnejndjaaDoorCt
import Derived.Test.YtmmnihgnejndjaaDoorTw
namespace Go.Proofs.YtmmnihgnejndjaaDoor
open Go.RowKit
set_option linter.unusedVariables false

def contentTwists : List ByteArray := [⟨#[]⟩, ⟨#[48]⟩, ⟨#[49]⟩, ⟨#[102]⟩, ⟨#[100]⟩, ⟨#[45]⟩]

theorem conText_size (k v : Int) : (conText k v).size ≤ 3 := by
  unfold conText
  split
  · rename_i h
    split
    · decide
    · split
      · decide
      · rename_i h0 h1
        have h' := h
        unfold validB at h'
        simp [h0, h1] at h'
        rw [ByteArray.size_append]
        have := decB_size v.toNat (by omega)
        show 1 + _ ≤ 3
        omega
  · decide

set_option maxHeartbeats 400000 in
set_option maxRecDepth 100000 in
theorem drawParse_c (a : Option Addr) (len cap : Nat) (zs : List Int) (W : World) (h : IsRow .u8 W a len cap zs) :
    Calls Tryd.prog 12 #[.slice a len cap] W (DrawPost 64 W) := by
  have HO := Lib.hid (l6Open_c a len cap zs W h)
  have HL := Lib.hid (fun W1 hR => l91Content_c (W.heap.size + 1) W.heap.size 0 W1 (by omega) hR)
  have HT := Lib.hid (fun k v w => specText_c k v w)
  unfold con at HT
  clear h
  go_enter Tryd.func12, Tryd.ntmps12
  go_wp2_with fail
  refine HO.out.mono ?_
  rintro e W1 ⟨rfl, hR, hB⟩
  go_wp2_with fail
  refine (HL.out _ hR).mono ?_
  rintro e W2 ⟨k, v, q, rfl, k0, k1, v0, v1, hq, hR2, hg⟩
  have B2 := Lib.hid (below_of_reader hB hg)
  clear k0 k1 v0 v1 hB hR hg
  go_wp2_with fail
  refine (HT.out k v _).mono ?_
  rintro e W3 ⟨rfl, hb3⟩
  have B3 := Lib.hid (below_next B2.out hb3)
  have hR3 := hR2.keep hb3
  clear hR2 hb3
  have hsz := conText_size k v
  generalize conText k v = s at hsz
  have HW := Lib.hid (fun W4 hR hc => l91Twist_c (W.heap.size + 1) W.heap.size q W3.heap.size 6 s (by omega) contentTwists (by decide) (by decide) (by decide) (by have := hR3.lt; omega) W4 (by omega) hR hc)
  have HS := Lib.hid hsz
  have HQ := Lib.hid hq
  clear hsz hq
  go_wp2_with fail
  refine (HW.out _ (hR3.alloc _) ?_).mono ?_
  · intro j x hj
    rw [World.cell?_alloc_new]
    rcases j with _ | _ | _ | _ | _ | _ | j <;> simp [contentTwists] at hj ⊢ <;> exact hj
  rintro e W4 ⟨t, q', rfl, ht, -, -, hg4⟩
  have H4 := Lib.hid (show t.size ≤ 64 by have := HS.out; omega)
  have B4 := Lib.hid (below_of_reader (B3.out.trans ((below_box W3 _).mono B3.out.size)) hg4)
  clear ht hg4
  go_wp2
  go_ret
  exact ⟨t, rfl, H4.out, B4.out⟩

end Go.Proofs.YtmmnihgnejndjaaDoor
