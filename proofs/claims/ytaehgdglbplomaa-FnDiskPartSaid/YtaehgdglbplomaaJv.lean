/-
  WALKS: the draws of chapter 31.
-/
import Derived.Test.YtaehgdglbplomaaJd
namespace Go.Proofs.Ytaehgdglbplomaa
open Go.RowKit
set_option linter.unusedVariables false

theorem jv_first : (0 : Nat) ≤ 0 := Nat.le_refl 0

/-- A drawn disk, of the call's own. -/
def DrawnD (W W' : World) (sl : Value) (bs : List Bl) : Prop := ∃ vs, DiskAt W' W.heap.size sl bs vs ∧ bs.length ≤ 4 ∧ SmallB bs ∧ Below W.heap.size W W'
def DPost (W : World) (e : Ending) (W' : World) : Prop := ∃ sl bs, e = .returned sl ∧ DrawnD W W' sl bs
def DOnePost (W : World) (e : Ending) (W' : World) : Prop := ∃ sl bs n, e = .returned (.tuple #[sl, .int .i64 n]) ∧ (0 ≤ n ∧ n ≤ 4) ∧ DrawnD W W' sl bs
def DTwoPost (W : World) (e : Ending) (W' : World) : Prop := ∃ sl bs n m, e = .returned (.tuple #[sl, .int .i64 n, .int .i64 m]) ∧ (0 ≤ n ∧ n ≤ 4) ∧ (0 ≤ m ∧ m ≤ 4) ∧ DrawnD W W' sl bs
def OwnZ (k : Nat) (W W' : World) (s : Value) (zs : List Int) : Prop := W'.ownsRow W.heap.size 3 1 s zs.length (intsV zs) ∧ zs.length ≤ k ∧ ∀ z ∈ zs, -1 ≤ z ∧ z ≤ 401
def DWritePost (W : World) (e : Ending) (W' : World) : Prop := ∃ sl bs n s zs, e = .returned (.tuple #[sl, .int .i64 n, s]) ∧ (0 ≤ n ∧ n ≤ 4) ∧ OwnZ 200 W W' s zs ∧ DrawnD W W' sl bs
def DKeepPost (W : World) (e : Ending) (W' : World) : Prop := ∃ sl bs s zs, e = .returned (.tuple #[sl, s]) ∧ OwnZ 4 W W' s zs ∧ DrawnD W W' sl bs

theorem drawn_of {W W1 W2 W3 : World} {B : Nat} {sl : Value} {bs : List Bl} {vs : List Value} (hd : DiskAt W2 W1.heap.size sl bs vs) (hl : bs.length ≤ 4) (hs : SmallB bs) (hB1 : W.heap.size = B) (hB : Below W.heap.size W W1) (hlt : B < W1.heap.size) (hg : W1.grownBy W2 (some B)) (hg3 : W2.grownBy W3 (some B)) : DrawnD W W3 sl bs := by
  subst hB1
  exact ⟨vs, (hd.reader hlt hg3).down hB.size, hl, hs, below_of_reader hB (grownBy_trans hg hg3)⟩

set_option maxHeartbeats 1000000 in
theorem drawDiskValid_c (a : Option Addr) (len cap : Nat) (zs : List Int) (W : World) (h : IsRow .u8 W a len cap zs) :
    Calls Try.prog 34 #[.slice a len cap] W (DPost W) := by
  have HO := Lib.hid (l6Open_c a len cap zs W h)
  have HA := Lib.hid (fun W1 hR => l92Disk_c (W.heap.size + 1) W.heap.size 0 W1 (by omega) hR)
  clear h
  go_enter Try.func34, Try.ntmps34
  go_wp2_with fail
  refine HO.out.mono ?_; rintro e W1 ⟨rfl, hR, hB⟩
  have hlt := hR.lt
  go_wp2_with fail
  refine (HA.out _ hR).mono ?_; rintro e W2 ⟨sl, vs, bs, q, rfl, hd, hl, hs, -, -, hg⟩
  have HX := Lib.hid (show DPost W (.returned sl) W2 from ⟨sl, bs, rfl, drawn_of hd hl hs rfl hB hlt hg (⟨rfl, rfl, rfl, Nat.le_refl _, fun _ _ _ => rfl⟩ : W2.grownBy W2 _)⟩)
  clear hd hl hs hg hR hB hlt
  go_wp2
  go_ret
  exact HX.out

set_option maxHeartbeats 1000000 in
theorem drawDiskRead_c (a : Option Addr) (len cap : Nat) (zs : List Int) (W : World) (h : IsRow .u8 W a len cap zs) :
    Calls Try.prog 59 #[.slice a len cap] W (DOnePost W) := by
  have HO := Lib.hid (l6Open_c a len cap zs W h)
  have HA := Lib.hid (fun W1 hR => l92Disk_c (W.heap.size + 1) W.heap.size 0 W1 (by omega) hR)
  have HN := Lib.hid (fun q W1 hq hR => l92Name_c (W.heap.size + 1) W.heap.size q W1 hq hR)
  clear h
  go_enter Try.func59, Try.ntmps59
  go_wp2_with fail
  refine HO.out.mono ?_; rintro e W1 ⟨rfl, hR, hB⟩
  have hlt := hR.lt
  go_wp2_with fail
  refine (HA.out _ hR).mono ?_; rintro e W2 ⟨sl, vs, bs, q, rfl, hd, hl, hs, hq, hR2, hg⟩
  have HX := Lib.hid (fun W3 => drawn_of (W3 := W3) hd hl hs rfl hB hlt hg)
  clear hd hl hs hg hR hB hlt
  go_wp2_with fail
  refine (HN.out q _ (by omega) hR2).mono ?_; rintro e W3 ⟨n, q3, rfl, hn, -, -, hg3⟩
  have HY := Lib.hid (show DOnePost W (.returned (.tuple #[sl, .int .i64 n])) W3 from ⟨sl, bs, n, rfl, hn, HX.out W3 hg3⟩)
  clear hn hg3 hR2 hq
  go_wp2
  go_ret2
  exact HY.out

set_option maxHeartbeats 1000000 in
theorem drawDiskSync_c (a : Option Addr) (len cap : Nat) (zs : List Int) (W : World) (h : IsRow .u8 W a len cap zs) :
    Calls Try.prog 24 #[.slice a len cap] W (DOnePost W) := by
  have HA := Lib.hid (drawDiskRead_c a len cap zs W h)
  clear h
  go_enter Try.func24, Try.ntmps24
  go_wp2_with fail
  refine HA.out.mono ?_; rintro e W2 ⟨sl, bs, n, rfl, hn, hd⟩
  have HY := Lib.hid (show DOnePost W (.returned (.tuple #[sl, .int .i64 n])) W2 from ⟨sl, bs, n, rfl, hn, hd⟩)
  clear hn hd
  go_wp2
  go_ret2
  exact HY.out

set_option maxHeartbeats 1000000 in
theorem drawDiskRename_c (a : Option Addr) (len cap : Nat) (zs : List Int) (W : World) (h : IsRow .u8 W a len cap zs) :
    Calls Try.prog 29 #[.slice a len cap] W (DTwoPost W) := by
  have HO := Lib.hid (l6Open_c a len cap zs W h)
  have HA := Lib.hid (fun W1 hR => l92Disk_c (W.heap.size + 1) W.heap.size 0 W1 (by omega) hR)
  have HN := Lib.hid (fun q W1 hq hR => l92Name_c (W.heap.size + 1) W.heap.size q W1 hq hR)
  clear h
  go_enter Try.func29, Try.ntmps29
  go_wp2_with fail
  refine HO.out.mono ?_; rintro e W1 ⟨rfl, hR, hB⟩
  have hlt := hR.lt
  go_wp2_with fail
  refine (HA.out _ hR).mono ?_; rintro e W2 ⟨sl, vs, bs, q, rfl, hd, hl, hs, hq, hR2, hg⟩
  have HX := Lib.hid (fun W3 => drawn_of (W3 := W3) hd hl hs rfl hB hlt hg)
  clear hd hl hs hg hR hB hlt
  go_wp2_with fail
  refine (HN.out q _ (by omega) hR2).mono ?_; rintro e W3 ⟨n, q3, rfl, hn, hq3, hR3, hg3⟩
  have HNN := Lib.hid hn
  have HG3 := Lib.hid hg3
  clear hn hR2 hg3
  go_wp2_with fail
  refine (HN.out q3 _ (by omega) hR3).mono ?_; rintro e W4 ⟨m, q4, rfl, hm, -, -, hg4⟩
  have HY := Lib.hid (show DTwoPost W (.returned (.tuple #[sl, .int .i64 n, .int .i64 m])) W4 from ⟨sl, bs, n, m, rfl, HNN.out, hm, HX.out W4 (grownBy_trans HG3.out hg4)⟩)
  clear hm hg4 hR3 hq hq3
  go_wp2
  go_ret3
  exact HY.out

set_option maxHeartbeats 1000000 in
theorem drawDiskWrite_c (a : Option Addr) (len cap : Nat) (zs : List Int) (W : World) (h : IsRow .u8 W a len cap zs) :
    Calls Try.prog 18 #[.slice a len cap] W (DWritePost W) := by
  have HO := Lib.hid (l6Open_c a len cap zs W h)
  have HA := Lib.hid (fun W1 hR => l92Disk_c (W.heap.size + 1) W.heap.size 0 W1 (by omega) hR)
  have HN := Lib.hid (fun q W1 hq hR => l92Name_c (W.heap.size + 1) W.heap.size q W1 hq hR)
  have HBY := Lib.hid (fun q W1 hq hR => l92Bytes_c (W.heap.size + 1) W.heap.size q W1 hq hR)
  clear h
  go_enter Try.func18, Try.ntmps18
  go_wp2_with fail
  refine HO.out.mono ?_; rintro e W1 ⟨rfl, hR, hB⟩
  have hlt := hR.lt
  have HSZ := Lib.hid hB.size
  go_wp2_with fail
  refine (HA.out _ hR).mono ?_; rintro e W2 ⟨sl, vs, bs, q, rfl, hd, hl, hs, hq, hR2, hg⟩
  have HX := Lib.hid (fun W3 => drawn_of (W3 := W3) hd hl hs rfl hB hlt hg)
  have HSZ2 := Lib.hid (Nat.le_trans HSZ.out hg.size)
  clear hd hl hs hg hR hB hlt
  go_wp2_with fail
  refine (HN.out q _ (by omega) hR2).mono ?_; rintro e W3 ⟨n, q3, rfl, hn, hq3, hR3, hg3⟩
  have HNN := Lib.hid hn
  have HG3 := Lib.hid hg3
  clear hn hR2 hg3
  go_wp2_with fail
  refine (HBY.out q3 _ (by omega) hR3).mono ?_; rintro e W4 ⟨s, zs, q4, rfl, ho, hzl, hz, -, -, hg4⟩
  have HY := Lib.hid (show DWritePost W (.returned (.tuple #[sl, .int .i64 n, s])) W4 from ⟨sl, bs, n, s, zs, rfl, HNN.out, ⟨own_mono1 ho (Nat.le_trans HSZ2.out HG3.out.size), hzl, fun z h => by have := hz z h; omega⟩, HX.out W4 (grownBy_trans HG3.out hg4)⟩)
  clear ho hzl hz hg4 hR3 hq hq3
  go_wp2
  go_ret3
  exact HY.out

end Go.Proofs.Ytaehgdglbplomaa
