/-
  WALKS: laws.sameDisk at equal lists of files.
-/
import Derived.Test.YtaehgdglbplomaaJf
import Derived.Test.YtaehgdglbplomaaFe
namespace Go.Proofs.Ytaehgdglbplomaa
open Go.RowKit
set_option linter.unusedVariables false

theorem jw_first : (0 : Nat) ≤ 0 := Nat.le_refl 0

set_option maxHeartbeats 4000000 in
set_option maxRecDepth 100000 in
theorem sameDisk_c (d1 d2 : Option Addr) (len k1 k2 : Nat) (bs : List Bl) (hl : len ≤ 2097152) (hs : ∀ b ∈ bs, b.s.length ≤ 2097152 ∧ b.f.length ≤ 2097152) (W : World) (h1 : BlobsAt W d1 len bs) (h2 : BlobsAt W d2 len bs) :
    Calls Try.prog 21 #[.slice d1 len k1, .slice d2 len k2] W (BoolPost true W) := by
  have H1 := Lib.hid h1
  have H2 := Lib.hid h2
  have HS := Lib.hid hs
  clear h1 h2 hs
  go_enter Try.func21, Try.ntmps21
  go_wp2
  go_loopw [5] (fun i wr => SameRel len W i wr) (fun i _ => len - (intOf i).toNat)
  case atStart => exact ⟨0, rfl, by omega, Below.refl _ _⟩
  case round =>
    obtain ⟨i, rfl, hi, HB⟩ := hrel
    by_cases hlt : i < len
    · obtain ⟨b, off, x, a1, c1, a2, c2, rfl, hx, x0, x1, x2, l1, l2⟩ := (H1.out.keep HB.out).at2 hlt
      obtain ⟨b', off', x', a1', c1', a2', c2', rfl, hx', y0, y1, y2, m1, m2⟩ := (H2.out.keep HB.out).at2 hlt
      obtain rfl : x = x' := Option.some.inj (hx.symm.trans hx')
      have hlt' : (i : Int) < len := by omega
      have hil : (i : Int) ≤ 2097152 := by omega
      have HLT := Lib.hid hlt
      have hxl := HS.out x (List.mem_of_getElem? hx)
      have HC1 := Lib.hid (fun W' (hw : Below wr.heap.size wr W') => sameInts_c a1 a1' x.s.length c1 c1' x.s hxl.1 W' ((l1.keep hw).ints.2.1) ((m1.keep hw).ints.2.1))
      have HC2 := Lib.hid (fun W' (hw : Below wr.heap.size wr W') => sameInts_c a2 a2' x.f.length c2 c2' x.f hxl.2 W' ((l2.keep hw).ints.2.1) ((m2.keep hw).ints.2.1))
      generalize x.n = xn at x0 y0
      generalize x.s.length = xs at x1 y1 HC1
      generalize x.f.length = xf at x2 y2 HC2
      clear hi hlt hx hx' l1 l2 m1 m2 hxl
      have HS0 := Lib.hid (show wr.drew.cell? ⟨b, off + i * 3, none⟩ = some (.int .i64 xn) ∧ wr.drew.cell? ⟨b, off + i * 3 + 1, none⟩ = some (.slice a1 xs c1) ∧ wr.drew.cell? ⟨b, off + i * 3 + 2, none⟩ = some (.slice a2 xf c2) ∧ wr.drew.cell? ⟨b', off' + i * 3, none⟩ = some (.int .i64 xn) ∧ wr.drew.cell? ⟨b', off' + i * 3 + 1, none⟩ = some (.slice a1' xs c1') ∧ wr.drew.cell? ⟨b', off' + i * 3 + 2, none⟩ = some (.slice a2' xf c2') from ⟨x0, x1, x2, y0, y1, y2⟩)
      have HKP := Lib.hid (fun (u2 : World) (hb : Below wr.heap.size wr.drew u2) => show u2.cell? ⟨b, off + i * 3, none⟩ = some (.int .i64 xn) ∧ u2.cell? ⟨b, off + i * 3 + 1, none⟩ = some (.slice a1 xs c1) ∧ u2.cell? ⟨b, off + i * 3 + 2, none⟩ = some (.slice a2 xf c2) ∧ u2.cell? ⟨b', off' + i * 3, none⟩ = some (.int .i64 xn) ∧ u2.cell? ⟨b', off' + i * 3 + 1, none⟩ = some (.slice a1' xs c1') ∧ u2.cell? ⟨b', off' + i * 3 + 2, none⟩ = some (.slice a2' xf c2') from ⟨cell_kept hb HS0.out.1, cell_kept hb HS0.out.2.1, cell_kept hb HS0.out.2.2.1, cell_kept hb HS0.out.2.2.2.1, cell_kept hb HS0.out.2.2.2.2.1, cell_kept hb HS0.out.2.2.2.2.2⟩)
      go_upto_region 6 with (fail)
      clear x0 x1 x2 y0 y1 y2
      go_region_held3 (fun w' => w'.cell? ⟨b, off + i * 3, none⟩ = some (.int .i64 xn) ∧ w'.cell? ⟨b, off + i * 3 + 1, none⟩ = some (.slice a1 xs c1) ∧ w'.cell? ⟨b, off + i * 3 + 2, none⟩ = some (.slice a2 xf c2) ∧ w'.cell? ⟨b', off' + i * 3, none⟩ = some (.int .i64 xn) ∧ w'.cell? ⟨b', off' + i * 3 + 1, none⟩ = some (.slice a1' xs c1') ∧ w'.cell? ⟨b', off' + i * 3 + 2, none⟩ = some (.slice a2' xf c2'))
        (first | exact HS0.out | exact HKP.out _ HB6.out | exact HKP.out _ HB7.out)
        (first
          | ((try rw [if_pos (by rfl)]); go_at_call 23; (with_reducible refine (HC1.out wr.drew (Below.refl _ _).drew).mono ?_); rintro e W6 ⟨rfl, hb6⟩; have HB6 := Lib.hid (show Below wr.heap.size wr.drew W6 from hb6); clear hb6)
          | ((try rw [if_pos (by rfl)]); go_at_call 23; (with_reducible refine (HC2.out W6 (show Below wr.heap.size wr W6 from (Below.refl _ _).drew.trans HB6.out)).mono ?_); rintro e W7 ⟨rfl, hb7⟩; have HB7 := Lib.hid (show Below wr.heap.size wr.drew W7 from HB6.out.trans (hb7.mono HB6.out.size)); clear hb7))
      all_goals
        have HB9 := Lib.hid (HB.out.drew.trans (HB7.out.mono HB.out.size))
        go_wp2
        go_roundw
        case rel => exact ⟨i + 1, by go_num, by have := HLT.out; omega, HB9⟩
        case measure => have := HLT.out; simp [intOf]; omega
    · have hge : (len : Int) ≤ i := by omega
      clear hi hlt
      go_wp2
      go_ret
      exact ⟨rfl, HB.out⟩

end Go.Proofs.Ytaehgdglbplomaa
