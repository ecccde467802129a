/-
  WALKS: the program's FramesScan.
-/
import Derived.Test.YtdlkofgapjdeaaaGb
namespace Go.Proofs.Ytdlkofgapjdeaaa
open Go.RowKit
set_option linter.unusedVariables false

theorem own_pass {W W' : World} {D : Nat} {e : TypeId} {size n : Nat} {v : Value} {xs : List Value} (h : W.ownsRow (D + 1) e size v n xs) (hg : W.grownBy W' (some D)) : W'.ownsRow (D + 1) e size v n xs := by
  refine h.kept hg ?_
  cases hv : v.ownBlock with
  | none => exact .inl rfl
  | some k => right; intro e; cases e; have := (h.lt _ hv).1; omega

theorem Inner.pass {W W' : World} {D : Nat} {vs : List Value} {bs : List (List Int)} (h : Inner W (D + 1) vs bs) (hg : W.grownBy W' (some D)) : Inner W' (D + 1) vs bs :=
  ⟨h.1, fun i z v hz hv => own_pass (h.2.1 i z v hz hv) hg, h.2.2⟩

theorem Inner.lower {W : World} {b c : Nat} {vs : List Value} {bs : List (List Int)} (h : Inner W c vs bs) (hbc : b ≤ c) : Inner W b vs bs :=
  ⟨h.1, fun i z v hz hv => own_mono1 (h.2.1 i z v hz hv) hbc, h.2.2⟩

theorem CurAt.pass {W W' : World} {D : Nat} {a : Option Addr} {len cap p : Nat} {zs : List Int} {row : Option Nat} (h : CurAt W D a len cap zs p) (hg : W.grownBy W' row) (hr : some D ≠ row) (hI : IntsAt W' a len zs) : CurAt W' D a len cap zs p :=
  have hb := hg.block D h.lt hr
  ⟨hg.cell h.c0 hr, hg.cell h.c1 hr, (World.frozen?_of_block (a := ⟨D, 0, none⟩) hb).trans h.f0, (World.frozen?_of_block (a := ⟨D, 1, none⟩) hb).trans h.f1, h.le, hI, h.far⟩

def IScanRel (a : Option Addr) (len cap : Nat) (zs : List Int) (W : World) (o : Value) (wr : World) : Prop :=
  ∃ (n : Nat) (acc : List (List Int)) (vs : List Value), Hid (CurAt wr W.heap.size a len cap zs n) ∧ Hid (acc.length ≤ n) ∧ Hid (scanL zs = (acc ++ (scanL (zs.drop n)).1, n + (scanL (zs.drop n)).2)) ∧
    wr.ownsRow (W.heap.size + 1) 23 1 o acc.length vs ∧ Hid (Inner wr (W.heap.size + 1) vs acc) ∧ Hid (Below W.heap.size W wr)

def placeOf (W : World) (D : Nat) : Nat := (intOf ((W.cell? ⟨D, 1, none⟩).getD undef)).toNat

theorem CurAt.place {W : World} {D : Nat} {a : Option Addr} {len cap p : Nat} {zs : List Int} (h : CurAt W D a len cap zs p) : placeOf W D = p := by
  unfold placeOf
  rw [h.c1]
  simp [intOf]

set_option maxHeartbeats 4000000 in
set_option maxRecDepth 100000 in
theorem implFramesScan_c (a : Option Addr) (len cap : Nat) (zs : List Int) (hl : len ≤ 2097152) (hlc : len ≤ cap) (hcm : cap ≤ maxLen) (W : World) (hN : IntsAt W a len zs) :
    Calls Try.prog 22 #[.slice a len cap] W (ScanPost (scanL zs) W) := by
  obtain ⟨j0, ji, jz0, jz1, jz2⟩ := info_parts infoInts
  have HE := Lib.hid hN.1
  have HN := Lib.hid hN
  have HF := Lib.hid (fun W' n (h : CurAt W' W.heap.size a len cap zs n) => frame_c a len cap zs W.heap.size n hl hlc hcm W' h)
  have HC0 := Lib.hid (show CurAt (W.alloc (.cells #[.slice a len cap, .int .i64 0] 47)) W.heap.size a len cap zs 0 from CurAt.new (Nat.zero_le _) hN)
  have HL := Lib.hid hl
  clear hN hlc hcm hl
  go_enter Try.func22, Try.ntmps22
  go_wp2
  go_loopw [5] (fun o wr => IScanRel a len cap zs W o wr) (fun _ wr => len - placeOf wr W.heap.size)
  case atStart =>
    exact ⟨0, [], [], HC0.out, by simp [Hid], by simp [Hid], World.ownsRow_nil _ _ _ _, ⟨rfl, fun i z v hz => by simp at hz, List.Pairwise.nil⟩, below_box _ _⟩
  case round =>
    obtain ⟨n, acc, vs, HC, HAL, HSC, hown, HIN, HB⟩ := hrel
    have HO := Lib.hid hown
    clear hown
    go_wp2_with fail
    refine (HF.out _ _ HC.out).mono ?_
    rintro e W2 h
    rcases h with ⟨hst, rfl, hb2⟩ | ⟨m, sl, hz, hho, hle, rfl, ho2, hc2, hg2⟩
    · have HC2 := Lib.hid (HC.out.keep hb2)
      have HO2 := Lib.hid (own_mono1 (own_below1 HO.out hb2) (Nat.le_succ W.heap.size))
      have HI2 := Lib.hid ((HIN.out.below hb2).lower (Nat.le_succ W.heap.size))
      have HB2 := Lib.hid (HB.out.trans (hb2.mono HB.out.size))
      have HST := Lib.hid hst
      have k1 := HC2.out.c1
      clear hst hb2
      go_wp2
      go_quiet (fail)
      go_wp2
      refine bodyPost_ret (v := .tuple #[u5, .int .i64 n]) (by simp [results, Try.f22, go_sem]) rfl (scan_end HSC.out HST.out (own_below1 HO2.out (drewN_below W2 nq)) (HI2.out.below (drewN_below W2 nq)) (HB2.out.trans ((drewN_below W2 nq).mono HB2.out.size)))
    · have HGO := Lib.hid (scan_go hz hho HSC.out)
      obtain ⟨bd, hbd⟩ : ∃ bd, bd = (zs.drop (n + 1)).take m := ⟨_, rfl⟩
      rw [← hbd] at ho2 HGO
      obtain ⟨a3, c3, rfl, -⟩ := ints_of_own ho2
      have HLE := Lib.hid hle
      have HB2 := Lib.hid (show Below W.heap.size W W2 from HB.out.grown hg2 HB.out.size (fun k e => by cases e; exact Nat.le_refl _))
      have HO2 := Lib.hid (own_pass HO.out hg2)
      have HI2 := Lib.hid (HIN.out.pass hg2)
      have HC2 := Lib.hid hc2
      have HBS := Lib.hid (show W.heap.size + 1 ≤ wr.heap.size from HC.out.lt)
      have HVD := Lib.hid (show ∀ u ∈ vs, ∀ k, u.ownBlock = some k → (Value.slice a3 bd.length c3).ownBlock ≠ some k from fun u hu k e1 e2 => by
        have h1 := HIN.out.lt u hu k e1
        have h2 := (ho2.lt k e2).1
        omega)
      have HO3 := Lib.hid ho2
      have hlt6 := HO2.out.lt
      clear hz hho hbd ho2 hle hc2 hg2
      go_wp2_with (at_builtin; refine wpList_append_own _ rfl _ _ 29 rfl (W.heap.size + 1) 23 j0 (.slice none 0 0) 1 24 Try.underlying29 ji jz0 jz1 jz2 rfl (by decide) _ _ _ rfl (HO2.out.alloc _) ⟨W2.heap.size, 0, none⟩ 1 1 [.slice a3 bd.length c3] rfl rfl (cell_int_new _ _ _) (fun y hy => by simp at hy; subst hy; rfl) (by have := HAL.out; have := HLE.out; have := HL.out; unfold maxLen; omega) (by have := HAL.out; have := HLE.out; have := HL.out; omega) (by have := HC2.out.lt; simp; omega) ?_; intro v7 w7 ho7 hg7 hn7)
      have B7 : Below W.heap.size W w7 := (HB2.out.alloc HB2.out.size _).grown hg7 (by have := HB2.out.size; simp; omega) (fun g e => by have := (hlt6 g e).1; omega)
      have hI7 := ((HI2.out.below (below_box _ _)).grown (HO2.out.alloc _) hg7)
      have hO37 : w7.ownsRow wr.heap.size 3 1 (.slice a3 bd.length c3) bd.length (intsV bd) := own_farT (own_below1 HO3.out (below_box W2 _)) hg7 (own_types HO3.out HO2.out (by decide))
      have hC7 : CurAt w7 W.heap.size a len cap zs (n + m + 2) := (HC2.out.keep (below_box W2 _)).pass hg7 (fun e => by have := (hlt6 _ e.symm).1; omega) (HN.out.keep B7)
      go_roundw
      case rel =>
        exact ⟨n + m + 2, acc ++ [bd], vs ++ [.slice a3 bd.length c3], hC7, by have h5 := HAL.out; show (acc ++ [bd]).length ≤ _; simp; omega, HGO.out, by rw [List.length_append]; exact ho7, hI7.push (own_mono1 hO37 HBS.out) HVD.out, B7⟩
      case measure =>
        have e7 := hC7.place
        have er := HC.out.place
        have := HLE.out
        rw [e7, er]
        omega

end Go.Proofs.Ytdlkofgapjdeaaa
