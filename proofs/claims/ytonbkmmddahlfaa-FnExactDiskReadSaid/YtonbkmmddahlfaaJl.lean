/-
  WALKS: the program's functions on disks: diskAfter, DiskRead, DiskWrite, DiskSync, DiskRename, DiskCrash.
-/
import Derived.Test.YtonbkmmddahlfaaJk
namespace Go.Proofs.Ytonbkmmddahlfaa
open Go.RowKit Go.MuLone
set_option linter.unusedVariables false

theorem jl_first : (0 : Nat) ≤ 0 := Nat.le_refl 0

theorem FPostN.of {n : Nat} {r : Option (List Int)} {W0 W W' : World} {e : Ending} (h : FPostN n r W e W') (hb : Below W0.heap.size W0 W) (hn : W0.heap.size ≤ n) : FPost r W0 e W' := by
  obtain ⟨sl, out, b, he, hr, ho, hB⟩ := h
  exact ⟨sl, out, b, he, hr, own_mono1 ho hn, hb.trans (hB.mono hn)⟩
/-- What the program's functions on disks tell. -/
def DiskOwn (r : Option (List Bl)) (W : World) (e : Ending) (w' : World) : Prop := DiskPostN W.heap.size r W e w'
theorem DiskPostN.of {n : Nat} {r : Option (List Bl)} {W0 W W' : World} {e : Ending} (h : DiskPostN n r W e W') (hb : Below W0.heap.size W0 W) (hn : W0.heap.size ≤ n) : DiskOwn r W0 e W' := by
  obtain ⟨sl, vs, out, b, he, hr, ho, hi, hB⟩ := h
  exact ⟨sl, vs, out, b, he, hr, own_mono1 ho hn, hi.down hn, hb.trans (hB.mono hn)⟩
theorem DiskOwn.post {r : Option (List Bl)} {W W' : World} {e : Ending} (h : DiskOwn r W e W') : DiskPost r W e W' := by
  obtain ⟨sl, vs, out, b, rfl, hr, ho, hi, hB⟩ := h
  obtain ⟨a, c, rfl, h1, h2⟩ := blobs_of ho (lsAll_inner hi)
  exact ⟨a, c, out, b, rfl, hr, h1, h2, hB⟩

theorem read_of {bs : List Bl} (h : diskV bs = true) (n : Int) : (findB bs n).map allB = diskRead bs n := by unfold diskRead; rw [if_pos h]
theorem ofF_find {bs : List Bl} (h : diskV bs = true) : ofF (findB bs) = bs := (disk_of h).2.symm

set_option maxHeartbeats 2000000 in
set_option maxRecDepth 100000 in
theorem implDiskRead_c (a : Option Addr) (len cap : Nat) (bs : List Bl) (n : Int) (hl : len ≤ 2097152) (hs : ShortB 2000000 bs) (W : World) (hN : BlobsAt W a len bs) :
    Calls Try.prog 15 #[.slice a len cap, .int .i64 n] W (FPost (diskRead bs n) W) := by
  have HF := Lib.hid (diskFrom_c a len cap bs hl hs W hN)
  clear hN hs hl
  go_enter Try.func15, Try.ntmps15
  go_wp2_with fail
  refine HF.out.mono ?_
  rintro e W1 ⟨⟨hv, d, rfl, hd, hsh⟩ | ⟨hv, rfl⟩, hb1⟩
  · have HB1 := Lib.hid hb1
    have HR := Lib.hid (read_c d (findB bs) (disk_of hv).1 n W1 hsh)
    rw [read_of hv] at HR
    have HD := Lib.hid hd
    clear hv hsh hb1 hd
    go_wp2_with fail
    refine HR.out.mono ?_
    rintro e W2 h2
    have HP := Lib.hid (h2.of HB1.out HD.out)
    obtain ⟨sl, out, b, rfl, -⟩ := h2
    go_wp2
    go_ret2
    exact HP.out
  · have HR := Lib.hid (show diskRead bs n = none by unfold diskRead; rw [hv]; rfl)
    have HB1 := Lib.hid hb1
    clear hv hb1
    go_wp2
    go_ret2
    exact ⟨.slice none 0 0, [], false, rfl, .inr ⟨rfl, HR.out, rfl⟩, World.ownsRow_nil _ _ _ _, HB1.out⟩

set_option maxHeartbeats 2000000 in
set_option maxRecDepth 100000 in
theorem diskAfter_c (a : Option Addr) (len cap : Nat) (bs : List Bl) (v : Value) (r : List Bl → Option (List Bl)) (hr : diskV bs = false → r bs = none) (hl : len ≤ 2097152) (hs : ShortB 2000000 bs) (W : World) (hN : BlobsAt W a len bs) (hv : StepAt W v r) :
    Calls Try.prog 42 #[.slice a len cap, v] W (DiskOwn (r bs) W) := by
  have HF := Lib.hid (diskFrom_c a len cap bs hl hs W hN)
  have HV := Lib.hid hv
  have HRB := Lib.hid hr
  obtain ⟨g, lb, rfl, -⟩ := hv
  clear hN hs hl hr
  go_enter Try.func42, Try.ntmps42
  go_wp2_with fail
  refine HF.out.mono ?_
  rintro e W1 ⟨⟨hv, d, rfl, hd, hsh⟩ | ⟨hv, rfl⟩, hb1⟩
  · have HB1 := Lib.hid hb1
    have HR := Lib.hid (change_c d (findB bs) (disk_of hv).1 _ r W W1 hsh HV.out hb1 hd)
    rw [ofF_find hv] at HR
    have HD := Lib.hid hd
    clear hv hsh hb1 hd
    go_wp2_with fail
    refine HR.out.mono ?_
    rintro e W2 h2
    have HP := Lib.hid (h2.of HB1.out HD.out)
    obtain ⟨sl, ws, out, b, rfl, -⟩ := h2
    go_wp2
    go_ret2
    exact HP.out
  · have HR := Lib.hid (HRB.out hv)
    have HB1 := Lib.hid hb1
    clear hv hb1
    go_wp2
    go_ret2
    exact ⟨.slice none 0 0, [], [], false, rfl, .inr ⟨rfl, HR.out, rfl⟩, World.ownsRow_nil _ _ _ _, ⟨rfl, fun i z v hz => by simp [listsB] at hz, List.Pairwise.nil⟩, HB1.out⟩

/-! ## The steps -/

theorem box_kept {W W' : World} {v : Value} {t : TypeId} (hb : Below (W.alloc (.cells #[v] t)).heap.size (W.alloc (.cells #[v] t)) W') : W'.cell? ⟨W.heap.size, 0, none⟩ = some v := box_cell hb 0

set_option maxHeartbeats 2000000 in
set_option maxRecDepth 100000 in
theorem stepWrite (W0 : World) (B1 B2 : Nat) (n : Int) (ab : Option Addr) (cb : Nat) (zs : List Int) (hz : zs.length ≤ 2000000) (h1 : W0.cell? ⟨B1, 0, none⟩ = some (.int .i64 n)) (h2 : W0.cell? ⟨B2, 0, none⟩ = some (.slice ab zs.length cb)) (hb : LsAt W0 (.slice ab zs.length cb) zs) :
    StepAt W0 (.func (.func 43) #[] #[.pointer (some ⟨B1, 0, none⟩), .pointer (some ⟨B2, 0, none⟩)]) (fun bs => diskWrite bs n zs) := by
  refine ⟨_, _, rfl, enters_of Try.func43 (by kernel_rfl) rfl, fun d F W hG hd hW hS => ?_⟩
  show Calls Try.prog 43 #[.pointer (some ⟨d, 2, none⟩), .pointer (some ⟨B1, 0, none⟩), .pointer (some ⟨B2, 0, none⟩)] W (StepPost d 1 (diskWrite (ofF F) n zs) W)
  have HC := Lib.hid (write_cJ d 1 F hG n ab cb zs hz W hS (hb.keep hW))
  have e1 := cell_kept hW h1
  have e2 := cell_kept hW h2
  generalize zs.length = zl at HC e2
  clear hb h1 h2 hW hS hG hd hz
  go_enter Try.func43, Try.ntmps43
  go_wp2_with fail
  refine HC.out.mono ?_
  rintro e W2 h2
  have HP := Lib.hid h2
  obtain ⟨ok, fs, rfl, -⟩ := h2
  go_wp2
  go_ret
  exact HP.out

set_option maxHeartbeats 2000000 in
set_option maxRecDepth 100000 in
theorem stepSync (W0 : World) (B1 : Nat) (n : Int) (h1 : W0.cell? ⟨B1, 0, none⟩ = some (.int .i64 n)) :
    StepAt W0 (.func (.func 45) #[] #[.pointer (some ⟨B1, 0, none⟩)]) (fun bs => diskSync bs n) := by
  refine ⟨_, _, rfl, enters_of Try.func45 (by kernel_rfl) rfl, fun d F W hG hd hW hS => ?_⟩
  show Calls Try.prog 45 #[.pointer (some ⟨d, 2, none⟩), .pointer (some ⟨B1, 0, none⟩)] W (StepPost d 1 (diskSync (ofF F) n) W)
  have HC := Lib.hid (sync_c d 1 F hG n W hS)
  have e1 := cell_kept hW h1
  clear h1 hW hS hG hd
  go_enter Try.func45, Try.ntmps45
  go_wp2_with fail
  refine HC.out.mono ?_
  rintro e W2 h2
  have HP := Lib.hid h2
  obtain ⟨ok, fs, rfl, -⟩ := h2
  go_wp2
  go_ret
  exact HP.out

set_option maxHeartbeats 2000000 in
set_option maxRecDepth 100000 in
theorem stepRename (W0 : World) (B1 B2 : Nat) (n c : Int) (h1 : W0.cell? ⟨B1, 0, none⟩ = some (.int .i64 n)) (h2 : W0.cell? ⟨B2, 0, none⟩ = some (.int .i64 c)) :
    StepAt W0 (.func (.func 48) #[] #[.pointer (some ⟨B1, 0, none⟩), .pointer (some ⟨B2, 0, none⟩)]) (fun bs => diskRename bs n c) := by
  refine ⟨_, _, rfl, enters_of Try.func48 (by kernel_rfl) rfl, fun d F W hG hd hW hS => ?_⟩
  show Calls Try.prog 48 #[.pointer (some ⟨d, 2, none⟩), .pointer (some ⟨B1, 0, none⟩), .pointer (some ⟨B2, 0, none⟩)] W (StepPost d 1 (diskRename (ofF F) n c) W)
  have HC := Lib.hid (rename_c d 1 F hG n c W hS)
  have e1 := cell_kept hW h1
  have e2 := cell_kept hW h2
  clear h1 h2 hW hS hG hd
  go_enter Try.func48, Try.ntmps48
  go_wp2_with fail
  refine HC.out.mono ?_
  rintro e W2 h2
  have HP := Lib.hid h2
  obtain ⟨ok, fs, rfl, -⟩ := h2
  go_wp2
  go_ret
  exact HP.out

set_option maxHeartbeats 2000000 in
set_option maxRecDepth 100000 in
theorem stepCrash (W0 : World) (B1 : Nat) (ak : Option Addr) (lk ck : Nat) (keep : List Int) (hl : lk ≤ 2097152) (h1 : W0.cell? ⟨B1, 0, none⟩ = some (.slice ak lk ck)) (hN : IntsAt W0 ak lk keep) :
    StepAt W0 (.func (.func 50) #[] #[.pointer (some ⟨B1, 0, none⟩)]) (fun bs => diskCrash bs keep) := by
  refine ⟨_, _, rfl, enters_of Try.func50 (by kernel_rfl) rfl, fun d F W hG hd hW hS => ?_⟩
  show Calls Try.prog 50 #[.pointer (some ⟨d, 2, none⟩), .pointer (some ⟨B1, 0, none⟩)] W (StepPost d 1 (diskCrash (ofF F) keep) W)
  have HC := Lib.hid (crash_c d 1 F hG ak lk ck keep hl W hS (hN.keep hW))
  have e1 := cell_kept hW h1
  clear h1 hW hS hG hd hN hl
  go_enter Try.func50, Try.ntmps50
  go_wp2_with fail
  refine HC.out.mono ?_
  rintro e W2 h2
  have HP := Lib.hid h2
  obtain ⟨ok, fs, rfl, -⟩ := h2
  go_wp2
  go_ret
  exact HP.out

/-- From a world with more in it. -/
theorem DiskOwn.up {r : Option (List Bl)} {W W1 W' : World} {e : Ending} (h : DiskOwn r W1 e W') (hb : Below W.heap.size W W1) : DiskOwn r W e W' := DiskPostN.of h hb hb.size

set_option maxHeartbeats 2000000 in
set_option maxRecDepth 100000 in
theorem implDiskSync_c (a : Option Addr) (len cap : Nat) (bs : List Bl) (n : Int) (hl : len ≤ 2097152) (hs : ShortB 2000000 bs) (W : World) (hN : BlobsAt W a len bs) :
    Calls Try.prog 25 #[.slice a len cap, .int .i64 n] W (DiskOwn (diskSync bs n) W) := by
  have hb := below_box W (.cells #[.int .i64 n] 3)
  have HC := Lib.hid (diskAfter_c a len cap bs _ (fun bs => diskSync bs n) (fun h => by unfold diskSync; rw [h]; rfl) hl hs _ (hN.keep hb) (stepSync _ W.heap.size n (by rw [World.cell?_alloc_new]; rfl)))
  have HB := Lib.hid hb
  clear hN hs hl hb
  go_enter Try.func25, Try.ntmps25
  go_wp2_with fail
  refine HC.out.mono ?_
  rintro e W2 h2
  have HP := Lib.hid (h2.up HB.out)
  obtain ⟨sl, ws, out, b, rfl, -⟩ := h2
  go_wp2
  go_ret2
  exact HP.out

set_option maxHeartbeats 2000000 in
set_option maxRecDepth 100000 in
theorem implDiskCrash_c (a : Option Addr) (len cap : Nat) (bs : List Bl) (ak : Option Addr) (lk ck : Nat) (keep : List Int) (hl : len ≤ 2097152) (hs : ShortB 2000000 bs) (hk : lk ≤ 2097152) (W : World) (hN : BlobsAt W a len bs) (hK : IntsAt W ak lk keep) :
    Calls Try.prog 29 #[.slice a len cap, .slice ak lk ck] W (DiskOwn (diskCrash bs keep) W) := by
  have hb := below_box W (.cells #[.slice ak lk ck] 29)
  have HC := Lib.hid (diskAfter_c a len cap bs _ (fun bs => diskCrash bs keep) (fun h => by unfold diskCrash; rw [h]; rfl) hl hs _ (hN.keep hb) (stepCrash _ W.heap.size ak lk ck keep hk (by rw [World.cell?_alloc_new]; rfl) (hK.keep hb)))
  have HB := Lib.hid hb
  clear hN hs hl hb hK hk
  go_enter Try.func29, Try.ntmps29
  go_wp2_with fail
  refine HC.out.mono ?_
  rintro e W2 h2
  have HP := Lib.hid (h2.up HB.out)
  obtain ⟨sl, ws, out, b, rfl, -⟩ := h2
  go_wp2
  go_ret2
  exact HP.out

set_option maxHeartbeats 2000000 in
set_option maxRecDepth 100000 in
theorem implDiskRename_c (a : Option Addr) (len cap : Nat) (bs : List Bl) (n c : Int) (hl : len ≤ 2097152) (hs : ShortB 2000000 bs) (W : World) (hN : BlobsAt W a len bs) :
    Calls Try.prog 27 #[.slice a len cap, .int .i64 n, .int .i64 c] W (DiskOwn (diskRename bs n c) W) := by
  have ha := below_box W (.cells #[.int .i64 n] 3)
  have hb := below_box (W.alloc (.cells #[.int .i64 n] 3)) (.cells #[.int .i64 c] 3)
  have hab := below_next ha hb
  have HC := Lib.hid (diskAfter_c a len cap bs _ (fun bs => diskRename bs n c) (fun h => by unfold diskRename; rw [h]; rfl) hl hs _ (hN.keep hab) (stepRename ((W.alloc (.cells #[.int .i64 n] 3)).alloc (.cells #[.int .i64 c] 3)) W.heap.size (W.heap.size + 1) n c (cell_kept hb (by rw [World.cell?_alloc_new]; rfl)) (by have := World.cell?_alloc_new (W.alloc (.cells #[.int .i64 n] 3)) #[.int .i64 c] 3 0; rw [World.size_alloc] at this; rw [this]; rfl)))
  have HB := Lib.hid hab
  clear hN hs hl hb ha hab
  go_enter Try.func27, Try.ntmps27
  go_wp2_with fail
  refine HC.out.mono ?_
  rintro e W2 h2
  have HP := Lib.hid (h2.up HB.out)
  obtain ⟨sl, ws, out, b, rfl, -⟩ := h2
  go_wp2
  go_ret2
  exact HP.out

set_option maxHeartbeats 2000000 in
set_option maxRecDepth 100000 in
theorem implDiskWrite_c (a : Option Addr) (len cap : Nat) (bs : List Bl) (n : Int) (ab : Option Addr) (lb cb : Nat) (zs : List Int) (hl : len ≤ 2097152) (hs : ShortB 2000000 bs) (hz : zs.length ≤ 2000000) (W : World) (hN : BlobsAt W a len bs) (hB : LsAt W (.slice ab lb cb) zs) :
    Calls Try.prog 22 #[.slice a len cap, .int .i64 n, .slice ab lb cb] W (DiskOwn (diskWrite bs n zs) W) := by
  obtain ⟨hlb, -⟩ := hB.ints
  subst hlb
  have ha := below_box W (.cells #[.int .i64 n] 3)
  have hb := below_box (W.alloc (.cells #[.int .i64 n] 3)) (.cells #[.slice ab zs.length cb] 29)
  have hab := below_next ha hb
  have HC := Lib.hid (diskAfter_c a len cap bs _ (fun bs => diskWrite bs n zs) (fun h => by unfold diskWrite; rw [h]; rfl) hl hs _ (hN.keep hab) (stepWrite ((W.alloc (.cells #[.int .i64 n] 3)).alloc (.cells #[.slice ab zs.length cb] 29)) W.heap.size (W.heap.size + 1) n ab cb zs hz (cell_kept hb (by rw [World.cell?_alloc_new]; rfl)) (by have := World.cell?_alloc_new (W.alloc (.cells #[.int .i64 n] 3)) #[.slice ab zs.length cb] 29 0; rw [World.size_alloc] at this; rw [this]; rfl) (hB.keep hab)))
  have HB := Lib.hid hab
  generalize zs.length = zl at HC HB
  clear hN hs hl hb ha hab hB hz
  go_enter Try.func22, Try.ntmps22
  go_wp2_with fail
  refine HC.out.mono ?_
  rintro e W2 h2
  have HP := Lib.hid (h2.up HB.out)
  obtain ⟨sl, ws, out, b, rfl, -⟩ := h2
  go_wp2
  go_ret2
  exact HP.out

end Go.Proofs.Ytonbkmmddahlfaa
