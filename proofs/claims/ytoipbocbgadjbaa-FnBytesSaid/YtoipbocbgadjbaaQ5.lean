/-
  Texts of this proof, one behind the other: Ke, Kf.
-/
import Derived.Test.YtoipbocbgadjbaaKd
import Derived.Test.YtoipbocbgadjbaaIw
import Derived.Test.YtoipbocbgadjbaaQ2
import Derived.Test.YtoipbocbgadjbaaQ3
import Derived.Test.YtoipbocbgadjbaaQ4
import Derived.Test.YtoipbocbgadjbaaCt
/-
  WALKS: the program's journals: textOf, CommandBytes, CommandFrom, LogBytes.
-/
namespace Go.Proofs.Ytoipbocbgadjbaa
open Go.RowKit
set_option linter.unusedVariables false
set_option linter.unusedSimpArgs false

def uV (zs : List Int) : List Value := zs.map (Value.int .u8)

theorem uV_length (zs : List Int) : (uV zs).length = zs.length := by unfold uV; rw [List.length_map]

theorem push_all : ∀ (zs : List Int) (r : ByteArray), zs.foldl (fun r n => r.push (UInt8.ofNat n.toNat)) r = ⟨r.data ++ (zs.map byI).toArray⟩
  | [], r => by apply ByteArray.ext; simp
  | z :: zs, r => by
    rw [List.foldl_cons, push_all zs]
    apply ByteArray.ext
    simp [byI]

/-- A text out of bytes. -/
theorem conv_all (W : World) (g cap : Nat) (zs : List Int) (h : ∀ j v, (uV zs)[j]? = some v → W.cell? ⟨g, j, none⟩ = some v) :
    (convert 22 9 (.slice (some ⟨g, 0, none⟩) zs.length cap)).run Try.prog W = .ok (.string (textI zs)) W := by
  rw [run_convert_bytes_string (e := 5) W _ _ _ _ _ Try.underlying22 Try.underlying5 Try.underlying9]
  have hl := run_loadCells_list (P := Try.prog) (w := W) ⟨g, 0, none⟩ (uV zs) (fun j v hj => by rw [add_off, Nat.zero_add]; exact h j v hj)
  rw [uV_length] at hl
  refine (run_bytesToString W ⟨g, 0, none⟩ zs.length cap zs hl).trans ?_
  rw [push_all]
  congr 2
  apply ByteArray.ext
  simp [textI]

theorem below_none16 {W W' : World} (h : W.grownBy W' none) : Below W.heap.size W W' := ⟨h.os, h.tape, h.output, h.size, fun k hk => h.block k hk (by simp)⟩

theorem infoU8 : (Try.prog.info? 5).map (fun i => (i.zero, i.size, i.bytes)) = some (some (.int .u8 0), 1, 1) := by kernel_rfl

/-- Between two rounds of textOf. -/
def TextRel (zs : List Int) (len : Nat) (W : World) (i : Value) (wr : World) : Prop :=
  ∃ n : Nat, i = .int .i64 n ∧ n ≤ len ∧ Hid (wr.ownsRow W.heap.size 5 1 (.slice (some ⟨W.heap.size, 0, none⟩) len len) len (uV (zs.take n ++ List.replicate (len - n) 0))) ∧ Hid (Below W.heap.size W wr)

theorem text_next {zs : List Int} {len n : Nat} {z : Int} (h : zs[n]? = some z) (hn : n < len) (he : zs.length = len) : (uV (zs.take n ++ List.replicate (len - n) 0)).set n (.int .u8 z) = uV (zs.take (n + 1) ++ List.replicate (len - (n + 1)) 0) := by
  unfold uV
  rw [← List.map_set, List.set_append_right _ _ (by rw [List.length_take]; omega), List.take_add_one, h]
  congr 1
  have e : n - (zs.take n).length = 0 := by rw [List.length_take]; omega
  rw [e]
  obtain ⟨m, hm⟩ : ∃ m, len - n = m + 1 := ⟨len - n - 1, by omega⟩
  have hm' : len - (n + 1) = m := by omega
  rw [hm, hm', List.replicate_succ]
  simp

set_option maxHeartbeats 2000000 in
set_option maxRecDepth 100000 in
theorem textOf_c (a : Option Addr) (len cap : Nat) (zs : List Int) (hl : len ≤ 2097152) (hz : ∀ z ∈ zs, (0 : Int) ≤ z ∧ z ≤ 255) (W : World) (hN : IntsAt W a len zs) :
    Calls Try.prog 34 #[.slice a len cap] W (TextPost (textI zs) W) := by
  obtain ⟨i0, hi, hz0, hz1, hz2⟩ := info_parts infoU8
  have HN := Lib.hid hN
  have HE := Lib.hid hN.1
  have HZ := Lib.hid hz
  have hl' : (len : Int) ≤ 2097152 := by omega
  clear hN hz
  go_enter Try.func34, Try.ntmps34
  go_wp2_with (refine wpList_make_full _ rfl _ _ 22 rfl W.heap.size 5 i0 (.int .u8 0) 1 Try.underlying22 hi hz0 hz1 .i64 .i64 _ _ len rfl rfl rfl rfl (by rw [hz2]; omega) (by unfold maxLen; omega) (Nat.le_refl _) ?_; intro w1 hown1 hg1)
  have HB1 := Lib.hid (below_none16 hg1)
  have HO1 : Hid (w1.ownsRow W.heap.size 5 1 (.slice (some ⟨W.heap.size, 0, none⟩) len len) len (uV (zs.take 0 ++ List.replicate (len - 0) 0))) := by
    rw [Nat.mul_one, show (madeCells (Value.int .u8 0).cells len).toList = uV (zs.take 0 ++ List.replicate (len - 0) 0) from (toList_madeCells_one _ _).trans (by simp [uV])] at hown1
    exact hown1
  clear hown1 hg1
  go_loopw [11] (fun i wr => TextRel zs len W i wr) (fun i _ => len - (intOf i).toNat)
  case atStart => exact ⟨0, rfl, Nat.zero_le _, HO1, HB1⟩
  case round =>
    obtain ⟨n, rfl, hn, HO, HB⟩ := hrel
    by_cases hlt : n < len
    · have hlt' : (n : Int) < len := by omega
      have hw1 : IntKind.i64.wrap ((n : Int) + 1) = (n : Int) + 1 := IntWalk.i64_in _ (by omega)
      obtain ⟨b, off, z, rfl, hat, c0⟩ := (HN.out.keep HB.out).at (i := n) hlt
      have HAT := Lib.hid hat
      obtain ⟨z0, z1⟩ := HZ.out z (List.mem_of_getElem? hat)
      have hw2 : IntKind.u8.wrap z = z := by show z % 256 = z; omega
      have HLT := Lib.hid hlt
      obtain ⟨u0, e0⟩ : ∃ u, wr.cell? ⟨W.heap.size, n, none⟩ = some u := by
        rw [HO.out.cellAt _ (by omega)]
        exact ⟨_, List.getElem?_eq_getElem (by rw [HO.out.1]; omega)⟩
      have y0 := HO.out.frozenAt n
      clear hn hlt hat
      go_wp2
      go_roundw
      case rel => exact ⟨n + 1, by go_num, HLT.out, by have := (HO.out.stored n (.int .u8 z)).1; rw [text_next HAT.out HLT.out HE.out] at this; exact this, HB.out.grown (HO.out.stored n (.int .u8 z)).2 HB.out.size (fun k e => by cases e; exact Nat.le_refl _)⟩
      case measure => have := HLT.out; simp [intOf]; omega
    · have hnl : n = len := by omega
      have hge : ¬ (n : Int) < len := by omega
      have HO' : Hid (wr.ownsRow W.heap.size 5 1 (.slice (some ⟨W.heap.size, 0, none⟩) len len) len (uV zs)) := by
        have := HO.out
        rw [hnl, List.take_of_length_le (by rw [HE.out]; exact Nat.le_refl _), Nat.sub_self] at this
        exact Lib.hid (by simpa using this)
      have HC := conv_all wr W.heap.size len zs (fun j v hj => by
        have hj2 := (List.getElem?_eq_some_iff.1 hj).1
        rw [uV_length, HE.out] at hj2
        rw [HO'.out.cellAt _ (by omega)]; exact hj)
      rw [HE.out] at HC
      clear hlt hn
      go_wp2
      go_ret
      exact ⟨rfl, HB.out⟩

/-- What a call leaves that ends in numbers of its own. -/
def NumsPost (zs : List Int) (W : World) (e : Ending) (w' : World) : Prop := OwnsInts W.heap.size zs e w' ∧ Below W.heap.size W w'

theorem five_low {W W' : World} {N n : Nat} {a b c d e : Value} (h : Five W n a b c d e) (hb : Below N W W') (hn : n < N) : Five W' n a b c d e := by
  have hk := hb.block n hn
  have hs := hb.size
  unfold Five World.cell? World.frozen? at h ⊢
  simp only [hk]
  exact ⟨h.1, h.2.1, h.2.2.1, h.2.2.2.1, h.2.2.2.2.1, h.2.2.2.2.2.1, h.2.2.2.2.2.2.1, h.2.2.2.2.2.2.2.1, h.2.2.2.2.2.2.2.2.1, h.2.2.2.2.2.2.2.2.2.1, Nat.lt_of_lt_of_le h.2.2.2.2.2.2.2.2.2.2 hs⟩

/-- Between two rounds of CommandBytes. -/
def BytRel (p : ByteArray) (fk fv tk tv : Int) (W : World) (o i : Value) (wr : World) : Prop :=
  ∃ n : Nat, i = .int .i64 n ∧ n ≤ p.size ∧ wr.ownsRow (W.heap.size + 1) 3 1 o (4 + n) (intsV ([fk, fv, tk, tv] ++ (intsB p).take n)) ∧ Hid (Five wr W.heap.size (.string p) (.int .i64 fk) (.int .i64 fv) (.int .i64 tk) (.int .i64 tv)) ∧ Hid (Below W.heap.size W wr)

theorem lit_four (W : World) (a b c d : Int) : (W.alloc (.cells #[.int .i64 a, .int .i64 b, .int .i64 c, .int .i64 d] 3)).ownsRow W.heap.size 3 1 (.slice (some ⟨W.heap.size, 0, none⟩) 4 4) (4 + 0) (intsV ([a, b, c, d] ++ [])) :=
  ⟨by simp [intsV], .inr ⟨W.heap.size, 4, _, rfl, Nat.le_refl _, heap_alloc_new W _, Nat.le_refl _, by simp [maxLen], by simp, by simp [intsV]⟩⟩

theorem wrap_byte (b : UInt8) : wrap64 (b.toNat : Int) = (b.toNat : Int) := by
  have := b.toNat_lt
  unfold wrap64
  omega
theorem nums_next {p : ByteArray} {n : Nat} {fk fv tk tv : Int} (h : n < p.size) : intsV ([fk, fv, tk, tv] ++ (intsB p).take n) ++ [.int .i64 (p[n].toNat : Int)] = intsV ([fk, fv, tk, tv] ++ (intsB p).take (n + 1)) := by
  rw [List.take_add_one, show (intsB p)[n]? = some (p[n].toNat : Int) by
    unfold intsB
    rw [List.getElem?_map, Array.getElem?_toList]
    rw [Array.getElem?_eq_getElem (show n < p.data.size from h)]
    rfl]
  unfold intsV
  simp

set_option maxHeartbeats 4000000 in
set_option maxRecDepth 100000 in
theorem implCmdBytes_c (c : Cmd) (hp : c.p.size ≤ 2097152) (W : World) : Calls Try.prog 10 #[cmdV c] W (NumsPost (cmdBytes c) W) := by
  obtain ⟨i0, hi, hz0, hz1, hz2⟩ := info_parts infoInt
  obtain ⟨vc, hvc⟩ : ∃ vc, validC c = vc := ⟨_, rfl⟩
  have HC := Lib.hid (fun W' => show Calls Try.prog 16 #[cmdV c] W' (BoolPost vc W') by rw [← hvc]; exact implCmdValid_c c hp W')
  cases vc with
  | false =>
    have HR := Lib.hid (cmdBytes_bad hvc)
    clear hvc
    unfold cmdV at HC ⊢
    obtain ⟨p, fk, fv, tk, tv⟩ := c
    simp only at HC ⊢
    go_enter Try.func10, Try.ntmps10
    go_wp2_with fail
    refine (HC.out _).mono ?_
    rintro e W1 ⟨rfl, hb1⟩
    have B1 := Lib.hid (below_next (below_box W _) hb1)
    clear hb1
    go_wp2
    go_ret
    exact ⟨⟨_, rfl, by rw [HR.out]; exact World.ownsRow_nil _ _ _ _⟩, B1.out⟩
  | true =>
    have HR := Lib.hid (cmdBytes_ok hvc)
    have HPS := Lib.hid (path_size ((validC_iff c).1 hvc).1)
    clear hvc
    unfold cmdV at HC ⊢
    obtain ⟨p, fk, fv, tk, tv⟩ := c
    simp only at HC HR HPS hp ⊢
    go_enter Try.func10, Try.ntmps10
    go_wp2_with fail
    refine (HC.out _).mono ?_
    rintro e W1 ⟨rfl, hb1⟩
    have B1 := Lib.hid (below_next (below_box W _) hb1)
    have F1 := Lib.hid ((five_new W (.string p) (.int .i64 fk) (.int .i64 fv) (.int .i64 tk) (.int .i64 tv) 26).below hb1)
    have L1 := Lib.hid (show W.heap.size + 1 ≤ W1.heap.size by have := hb1.size; simpa using this)
    clear hb1
    obtain ⟨q0, q1, q2, q3, q4, g0, g1, g2, g3, g4, -⟩ := F1.out
    have hps : (p.size : Int) ≤ 8 := by have := HPS.out; omega
    have e0 := fun o => cell_kept (below_box W1 o) q0
    go_wp2
    have HO1 := Lib.hid (own_mono1 (lit_four W1 fk fv tk tv) L1.out)
    have HF1 := Lib.hid (F1.out.below (below_box W1 (.cells #[.int .i64 fk, .int .i64 fv, .int .i64 tk, .int .i64 tv] 3)))
    have HB1 := Lib.hid (below_next B1.out (below_box W1 (.cells #[.int .i64 fk, .int .i64 fv, .int .i64 tk, .int .i64 tv] 3)))
    clear q0 q1 q2 q3 q4 g0 g1 g2 g3 g4 e0
    go_loopw [3, 24] (fun o i wr => BytRel p fk fv tk tv W o i wr) (fun _ i _ => p.size - (intOf i).toNat)
    case atStart => exact ⟨0, rfl, Nat.zero_le _, HO1.out, HF1, HB1⟩
    case round =>
      obtain ⟨n, rfl, hn, hrow, HF, HB⟩ := hrel
      by_cases hlt : n < p.size
      · have hlt' : (n : Int) < p.size := by omega
        have hw1 : IntKind.i64.wrap ((n : Int) + 1) = (n : Int) + 1 := IntWalk.i64_in _ (by omega)
        obtain ⟨x0, x1, x2, x3, x4, -, -, -, -, -, xlt⟩ := HF.out
        have HLE := Lib.hid (show W.heap.size + 1 ≤ wr.heap.size from xlt)
        have HLT := Lib.hid hlt
        have HROW := Lib.hid hrow
        have hltb := hrow.lt
        clear hn hlt hrow xlt
        have hN8 : 4 + n ≤ 12 := by have := HPS.out; have := HLT.out; omega
        go_wp2_with (at_builtin; refine wpList_append_own _ rfl _ _ 28 rfl (W.heap.size + 1) 3 i0 (.int .i64 0) 1 8 Try.underlying28 hi hz0 hz1 hz2 rfl (by decide) _ _ _ rfl (HROW.out.alloc _) ⟨wr.heap.size, 0, none⟩ 1 1 [.int .i64 _] rfl rfl (cell_int_new _ _ _) (fun x hx => by simp at hx; subst hx; rfl) (by unfold maxLen; omega) (by omega) (by have := HLE.out; simp; omega) ?_; intro v6 w6 ho6 hg6 hn6)
        have B6 : Below (W.heap.size + 1) wr w6 := ((Below.refl _ wr).alloc HLE.out _).grown hg6 (by have := HLE.out; simp; omega) (fun g e => (hltb g e).1)
        have ho7 := ho6
        rw [wrap_byte, nums_next (fk := fk) (fv := fv) (tk := tk) (tv := tv) HLT.out] at ho7
        go_roundw
        case rel => exact ⟨n + 1, by go_num, HLT.out, ho7, Lib.hid (five_low HF.out B6 (Nat.lt_succ_self _)), Lib.hid (HB.out.trans (B6.mono (by omega)))⟩
        case measure => have := HLT.out; simp [intOf]; omega
      · have hnl : n = p.size := by omega
        have hge : ¬ (n : Int) < p.size := by omega
        have HROW := Lib.hid hrow
        clear hn hlt hrow
        go_wp2
        go_ret
        refine ⟨⟨_, rfl, ?_⟩, HB.out⟩
        rw [HR.out]
        have := HROW.out
        rw [hnl, List.take_of_length_le (by rw [intsB_length]; exact Nat.le_refl _)] at this
        rw [show (fk :: fv :: tk :: tv :: intsB p).length = 4 + p.size by simp [intsB_length]; omega]
        exact own_mono1 this (Nat.le_succ _)

/-- What stands still while the command is put together. -/
def FPar (W : World) (b off : Nat) (z0 z1 z2 z3 : Int) (w' : World) : Prop :=
  w'.cell? ⟨b, off, none⟩ = some (.int .i64 z0) ∧ w'.cell? ⟨b, off + 1, none⟩ = some (.int .i64 z1) ∧ w'.cell? ⟨b, off + 2, none⟩ = some (.int .i64 z2) ∧ w'.cell? ⟨b, off + 3, none⟩ = some (.int .i64 z3) ∧
    Five w' W.heap.size (.string ⟨#[]⟩) (.int .i64 0) (.int .i64 0) (.int .i64 0) (.int .i64 0) ∧ Below W.heap.size W w'
theorem FPar.drew {W w' : World} {b off : Nat} {z0 z1 z2 z3 : Int} (h : FPar W b off z0 z1 z2 z3 w') : FPar W b off z0 z1 z2 z3 w'.drew := ⟨h.1, h.2.1, h.2.2.1, h.2.2.2.1, h.2.2.2.2.1.drew, h.2.2.2.2.2.drew⟩
theorem FPar.kept {W w' w2 : World} {b off : Nat} {z0 z1 z2 z3 : Int} (h : FPar W b off z0 z1 z2 z3 w') (hb : Below w'.heap.size w' w2) : FPar W b off z0 z1 z2 z3 w2 :=
  ⟨cell_kept hb h.1, cell_kept hb h.2.1, cell_kept hb h.2.2.1, cell_kept hb h.2.2.2.1, h.2.2.2.2.1.below hb, below_next h.2.2.2.2.2 hb⟩
theorem FPar.next {W w' : World} {b off : Nat} {z0 z1 z2 z3 : Int} (h : FPar W b off z0 z1 z2 z3 w') (o : Obj) : FPar W b off z0 z1 z2 z3 (w'.alloc o) := h.kept (below_box w' o)


theorem FPar.set5 {W w' : World} {b off n : Nat} {z0 z1 z2 z3 : Int} {u0 u1 u2 u3 u4 : Value} (h : FPar W b off z0 z1 z2 z3 w') (hn : W.heap.size < n) (hb : b ≠ n) :
    FPar W b off z0 z1 z2 z3 (((((w'.setCell ⟨n, 0, none⟩ u0).setCell ⟨n, 1, none⟩ u1).setCell ⟨n, 2, none⟩ u2).setCell ⟨n, 3, none⟩ u3).setCell ⟨n, 4, none⟩ u4) := by
  obtain ⟨c0, c1, c2, c3, h5, hB⟩ := h
  have hc : ∀ (w : World) (o j : Nat) (u v : Value), w.cell? ⟨b, o, none⟩ = some v → (w.setCell ⟨n, j, none⟩ u).cell? ⟨b, o, none⟩ = some v := fun w o j u v e => (World.cell?_setCell_far w _ _ u (by simpa using Ne.symm hb)).trans e
  exact ⟨hc _ _ _ _ _ (hc _ _ _ _ _ (hc _ _ _ _ _ (hc _ _ _ _ _ (hc _ _ _ _ _ c0)))), hc _ _ _ _ _ (hc _ _ _ _ _ (hc _ _ _ _ _ (hc _ _ _ _ _ (hc _ _ _ _ _ c1)))), hc _ _ _ _ _ (hc _ _ _ _ _ (hc _ _ _ _ _ (hc _ _ _ _ _ (hc _ _ _ _ _ c2)))), hc _ _ _ _ _ (hc _ _ _ _ _ (hc _ _ _ _ _ (hc _ _ _ _ _ (hc _ _ _ _ _ c3)))),
    ((((h5.setOther (by simp; omega)).setOther (by simp; omega)).setOther (by simp; omega)).setOther (by simp; omega)).setOther (by simp; omega), below_set5 hB (Nat.le_of_lt hn)⟩

theorem from_all {b : List Int} (h : b.all byteOk = true) (hv : validC (cmdOf b) = true) : fromOk b = true := by
  obtain ⟨h1, h2⟩ := path_size ((validC_iff _).1 hv).1
  have hs : (cmdOf b).p.size = b.length - 4 := by unfold cmdOf textI; simp [ByteArray.size]
  rw [hs] at h1 h2
  refine (fromOk_iff b).2 ⟨by omega, ?_, hv⟩
  unfold bodyOk
  rw [h, Bool.true_and]
  exact decide_eq_true (by omega)

theorem tail_ints {W : World} {b off len : Nat} {zs : List Int} (h : IntsAt W (some ⟨b, off, none⟩) len zs) (h4 : 4 ≤ len) : IntsAt W (some ⟨b, off + 4, none⟩) (len - 4) (zs.drop 4) := by
  obtain ⟨h1, h0 | ⟨b', off', ha, hc⟩⟩ := h
  · omega
  · cases ha
    refine ⟨by rw [List.length_drop, h1], .inr ⟨b, off + 4, rfl, fun i z hi => ?_⟩⟩
    rw [List.getElem?_drop] at hi
    have := hc (4 + i) z hi
    rw [show off + 4 + i = off + (4 + i) by omega]
    exact this

set_option maxHeartbeats 4000000 in
set_option maxRecDepth 100000 in
theorem implCmdFrom_c (a : Option Addr) (len cap : Nat) (zs : List Int) (hl : len ≤ 2097152) (hlc : len ≤ cap) (hcm : cap ≤ maxLen) (W : World) (hN : IntsAt W a len zs) :
    Calls Try.prog 13 #[.slice a len cap] W (CmdPairPost (cmdFrom zs).1 (cmdFrom zs).2 W) := by
  obtain ⟨ab, hab⟩ : ∃ b, zs.all byteOk = b := ⟨_, rfl⟩
  have HBO := Lib.hid (fun W' (hb : Below W.heap.size W W') => show Calls Try.prog 33 #[.slice a len cap] W' (fun e W1 => e = .returned (.bool ab) ∧ W1 = W') by rw [← hab]; exact areBytes_c a len cap zs hl W' (hN.keep hb))
  have HN := Lib.hid hN
  have HE := Lib.hid hN.1
  have HBK := Lib.hid hab
  have HL := Lib.hid hl
  have F0 := Lib.hid (five_new W (.string ⟨#[]⟩) (.int .i64 0) (.int .i64 0) (.int .i64 0) (.int .i64 0) 26)
  have B0 := Lib.hid (below_box W (.cells #[.string ⟨#[]⟩, .int .i64 0, .int .i64 0, .int .i64 0, .int .i64 0] 26))
  have HCP := Lib.hid (And.intro hlc hcm)
  clear hN hab hlc hcm
  by_cases h5 : len < 4
  · have h5' : (len : Int) < 4 := by omega
    have HR := Lib.hid (cmdFrom_no (b := zs) (by unfold fromOk; rw [decide_eq_false (by have := HE.out; omega)]; rfl))
    obtain ⟨f0, f1, f2, f3, f4, g0, g1, g2, g3, g4, -⟩ := F0.out
    go_enter Try.func13, Try.ntmps13
    go_wp2
    rw [HR.out]
    exact bodyPost_ret (cmdpair_results _ rfl _ W.heap.size zeroC _ _ rfl rfl F0.out) rfl ⟨rfl, B0.out⟩
  · have h5' : ¬ (len : Int) < 4 := by omega
    cases ab with
    | false =>
      have HR := Lib.hid (cmdFrom_no (b := zs) (by unfold fromOk bodyOk; rw [HBK.out, Bool.false_and, Bool.false_and, Bool.and_false]))
      obtain ⟨f0, f1, f2, f3, f4, g0, g1, g2, g3, g4, -⟩ := F0.out
      go_enter Try.func13, Try.ntmps13
      go_wp2_with fail
      refine (HBO.out _ B0.out).mono ?_
      rintro e W1 ⟨rfl, rfl⟩
      go_wp2
      rw [HR.out]
      exact bodyPost_ret (cmdpair_results _ rfl _ W.heap.size zeroC _ _ rfl rfl F0.out) rfl ⟨rfl, B0.out⟩
    | true =>
      obtain ⟨cv, hcv⟩ : ∃ b, validC (cmdOf zs) = b := ⟨_, rfl⟩
      have HCV := Lib.hid hcv
      clear hcv
      obtain ⟨b, off, z0, rfl, hz0, c0⟩ := HN.out.at (i := 0) (by omega)
      obtain ⟨_, _, z1, e1, hz1, c1⟩ := HN.out.at (i := 1) (by omega)
      cases e1
      obtain ⟨_, _, z2, e2, hz2, c2⟩ := HN.out.at (i := 2) (by omega)
      cases e2
      obtain ⟨_, _, z3, e3, hz3, c3⟩ := HN.out.at (i := 3) (by omega)
      cases e3
      simp only [Nat.add_zero] at c0
      obtain ⟨px, hpx⟩ : ∃ px, textI (zs.drop 4) = px := ⟨_, rfl⟩
      have HCC := Lib.hid (show cmdOf zs = ⟨px, z0, z1, z2, z3⟩ by
        unfold cmdOf
        rw [hpx, List.getD_eq_getElem?_getD, List.getD_eq_getElem?_getD, List.getD_eq_getElem?_getD, List.getD_eq_getElem?_getD, hz0, hz1, hz2, hz3]
        rfl)
      have hl0 : (0 : Int) < len := by omega
      have hl1 : (1 : Int) < len := by omega
      have hl2 : (2 : Int) < len := by omega
      have hl3 : (3 : Int) < len := by omega
      have hl4 : (4 : Int) ≤ len := by omega
      have hl0n : 0 < len := by omega
      have hps : px.size ≤ 2097152 := by
        rw [← hpx]
        have := HE.out
        unfold textI
        simp [ByteArray.size]
        omega
      have HV := Lib.hid (fun W' => show Calls Try.prog 16 #[cmdV ⟨px, z0, z1, z2, z3⟩] W' (BoolPost cv W') by
        rw [← HCV.out, HCC.out]
        exact implCmdValid_c _ hps W')
      have HTX := Lib.hid (fun x (hx : IntsAt W x (len - 4) (zs.drop 4)) W' (hb : Below W.heap.size W W') => show Calls Try.prog 34 #[.slice x (len - 4) (cap - 4)] W' (TextPost px W') by
        rw [← hpx]
        refine textOf_c x (len - 4) (cap - 4) (zs.drop 4) (by omega) (fun z hz => ?_) W' (hx.keep hb)
        have := List.all_eq_true.1 HBK.out z (List.mem_of_mem_drop hz)
        unfold byteOk at this
        simpa using this)
      have HBW := Lib.hid (show b < W.heap.size by by_cases hb : b < W.heap.size; exact hb; simp [World.cell?, Array.getElem?_eq_none (Nat.le_of_not_lt hb)] at c0)
      have HS0 : Hid (FPar W b off z0 z1 z2 z3 (W.alloc (.cells #[.string ⟨#[]⟩, .int .i64 0, .int .i64 0, .int .i64 0, .int .i64 0] 26))) :=
        Lib.hid ⟨cell_kept (below_box W _) c0, cell_kept (below_box W _) c1, cell_kept (below_box W _) c2, cell_kept (below_box W _) c3, F0.out, B0.out⟩
      clear hpx hz0 hz1 hz2 hz3 c0 c1 c2 c3 hps
      unfold cmdV at HV
      simp only at HV
      go_enter Try.func13, Try.ntmps13
      go_wp2_with fail
      refine (HBO.out _ B0.out).mono ?_
      rintro e W1 ⟨rfl, rfl⟩
      by_cases hcap : cap = 4
      · subst hcap
        have hlen : len = 4 := by have := HCP.out.1; omega
        subst hlen
        have HX := Lib.hid (HTX.out (some ⟨b, off, none⟩) ⟨by rw [List.length_drop, HE.out], .inl rfl⟩)
        have HS1 := Lib.hid (HS0.out.next (.cells #[.string ⟨#[]⟩, .int .i64 0, .int .i64 0, .int .i64 0, .int .i64 0] 26))
        have X0 := Lib.hid (HX.out (W.alloc (.cells #[.string ⟨#[]⟩, .int .i64 0, .int .i64 0, .int .i64 0, .int .i64 0] 26)).drew B0.out.drew)
        have X1 := Lib.hid (HX.out ((W.alloc (.cells #[.string ⟨#[]⟩, .int .i64 0, .int .i64 0, .int .i64 0, .int .i64 0] 26)).alloc (.cells #[.string ⟨#[]⟩, .int .i64 0, .int .i64 0, .int .i64 0, .int .i64 0] 26)).drew HS1.out.drew.2.2.2.2.2)
        have F1 : Hid (Five ((W.alloc (.cells #[.string ⟨#[]⟩, .int .i64 0, .int .i64 0, .int .i64 0, .int .i64 0] 26)).alloc (.cells #[.string ⟨#[]⟩, .int .i64 0, .int .i64 0, .int .i64 0, .int .i64 0] 26)).drew (W.heap.size + 1) (.string ⟨#[]⟩) (.int .i64 0) (.int .i64 0) (.int .i64 0) (.int .i64 0)) := Lib.hid (by have := (five_new (W.alloc (.cells #[.string ⟨#[]⟩, .int .i64 0, .int .i64 0, .int .i64 0, .int .i64 0] 26)) (.string ⟨#[]⟩) (.int .i64 0) (.int .i64 0) (.int .i64 0) (.int .i64 0) 26).drew; rw [World.size_alloc] at this; exact this)
        go_upto_region 3 with (fail)
        refine wp_region_held_drew (S := (fun w' => FPar W b off z0 z1 z2 z3 w')) (by kernel_rfl) HS0.out.drew (fun hH => ?_)
        refine wpAnyH_take (i := 0) (oi := _) (v := ?_) rfl (by kernel_rfl) (by kernel_rfl) (by kernel_rfl) (fun _ _ _ h => h) (Or.inl ⟨by rfl, ?_⟩) (by assumption) ?_
        rotate_left
        · (intro w hSw; obtain ⟨s0, s1, s2, s3, -, -⟩ := hSw; go_simp; try with_reducible rfl)
        try simp only [Act.put, List.getElem_toArray, List.getElem_cons_zero, List.getElem_cons_succ, List.setIfInBounds_toArray, List.set_cons_zero, List.set_cons_succ]
        refine wpAnyH_take (i := 1) (oi := _) (v := ?_) rfl (by kernel_rfl) (by kernel_rfl) (by kernel_rfl) (fun _ _ _ h => h) (Or.inl ⟨by rfl, ?_⟩) (by assumption) ?_
        rotate_left
        · (intro w hSw; obtain ⟨s0, s1, s2, s3, -, -⟩ := hSw; go_simp; try with_reducible rfl)
        try simp only [Act.put, List.getElem_toArray, List.getElem_cons_zero, List.getElem_cons_succ, List.setIfInBounds_toArray, List.set_cons_zero, List.set_cons_succ]
        refine wpAnyH_take (i := 3) (oi := _) (v := ?_) rfl (by kernel_rfl) (by kernel_rfl) (by kernel_rfl) (fun _ _ _ h => h) (Or.inl ⟨by rfl, ?_⟩) (by assumption) ?_
        rotate_left
        · (intro w hSw; obtain ⟨s0, s1, s2, s3, -, -⟩ := hSw; go_simp; try with_reducible rfl)
        try simp only [Act.put, List.getElem_toArray, List.getElem_cons_zero, List.getElem_cons_succ, List.setIfInBounds_toArray, List.set_cons_zero, List.set_cons_succ]
        refine wpAnyH_take (i := 4) (oi := _) (v := ?_) rfl (by kernel_rfl) (by kernel_rfl) (by kernel_rfl) (fun _ _ _ h => h) (Or.inl ⟨by rfl, ?_⟩) (by assumption) ?_
        rotate_left
        · (intro w hSw; obtain ⟨s0, s1, s2, s3, -, -⟩ := hSw; go_simp; try with_reducible rfl)
        try simp only [Act.put, List.getElem_toArray, List.getElem_cons_zero, List.getElem_cons_succ, List.setIfInBounds_toArray, List.set_cons_zero, List.set_cons_succ]
        refine wpAnyH_take (i := 5) (oi := _) (v := ?_) rfl (by kernel_rfl) (by kernel_rfl) (by kernel_rfl) (fun _ _ _ h => h) (Or.inl ⟨by rfl, ?_⟩) (by assumption) ?_
        rotate_left
        · (intro w hSw; obtain ⟨s0, s1, s2, s3, -, -⟩ := hSw; go_simp; try with_reducible rfl)
        try simp only [Act.put, List.getElem_toArray, List.getElem_cons_zero, List.getElem_cons_succ, List.setIfInBounds_toArray, List.set_cons_zero, List.set_cons_succ]
        refine wpAnyH_take (i := 6) (oi := _) (v := ?_) rfl (by kernel_rfl) (by kernel_rfl) (by kernel_rfl) (fun _ _ _ h => h) (Or.inl ⟨by rfl, ?_⟩) (by assumption) ?_
        rotate_left
        · (intro w hSw; obtain ⟨s0, s1, s2, s3, -, -⟩ := hSw; go_simp; try with_reducible rfl)
        try simp only [Act.put, List.getElem_toArray, List.getElem_cons_zero, List.getElem_cons_succ, List.setIfInBounds_toArray, List.set_cons_zero, List.set_cons_succ]
        refine wpAnyH_take (i := 7) (oi := _) (v := ?_) rfl (by kernel_rfl) (by kernel_rfl) (by kernel_rfl) (fun _ _ _ h => h) (Or.inl ⟨by rfl, ?_⟩) (by assumption) ?_
        rotate_left
        · (intro w hSw; obtain ⟨s0, s1, s2, s3, -, -⟩ := hSw; go_simp; try with_reducible rfl)
        try simp only [Act.put, List.getElem_toArray, List.getElem_cons_zero, List.getElem_cons_succ, List.setIfInBounds_toArray, List.set_cons_zero, List.set_cons_succ]
        refine wpAnyH_take (i := 8) (oi := _) (v := ?_) rfl (by kernel_rfl) (by kernel_rfl) (by kernel_rfl) (fun _ _ _ h => h) (Or.inl ⟨by rfl, ?_⟩) (by assumption) ?_
        rotate_left
        · (intro w hSw; obtain ⟨s0, s1, s2, s3, -, -⟩ := hSw; go_simp; try with_reducible rfl)
        try simp only [Act.put, List.getElem_toArray, List.getElem_cons_zero, List.getElem_cons_succ, List.setIfInBounds_toArray, List.set_cons_zero, List.set_cons_succ]
        refine wpAnyH_take (i := 9) (oi := _) (v := ?_) rfl (by kernel_rfl) (by kernel_rfl) (by kernel_rfl) (fun _ _ _ h => h) (Or.inl ⟨by rfl, ?_⟩) (by assumption) ?_
        rotate_left
        · (intro w hSw; obtain ⟨s0, s1, s2, s3, -, -⟩ := hSw; go_simp; try with_reducible rfl)
        try simp only [Act.put, List.getElem_toArray, List.getElem_cons_zero, List.getElem_cons_succ, List.setIfInBounds_toArray, List.set_cons_zero, List.set_cons_succ]
        refine wpAnyH_take (i := 10) (oi := _) (v := ?_) rfl (by kernel_rfl) (by kernel_rfl) (by kernel_rfl) (fun _ _ _ h => h) (Or.inl ⟨by rfl, ?_⟩) (by assumption) ?_
        rotate_left
        · (intro w hSw; obtain ⟨s0, s1, s2, s3, -, -⟩ := hSw; go_simp; try with_reducible rfl)
        try simp only [Act.put, List.getElem_toArray, List.getElem_cons_zero, List.getElem_cons_succ, List.setIfInBounds_toArray, List.set_cons_zero, List.set_cons_succ]
        refine wpAnyH_take (i := 11) (oi := _) (v := ?_) rfl (by kernel_rfl) (by kernel_rfl) (by kernel_rfl) (fun _ _ _ h => h) (Or.inl ⟨by rfl, ?_⟩) (by assumption) ?_
        rotate_left
        · (intro w hSw; obtain ⟨s0, s1, s2, s3, -, -⟩ := hSw; go_simp; try with_reducible rfl)
        try simp only [Act.put, List.getElem_toArray, List.getElem_cons_zero, List.getElem_cons_succ, List.setIfInBounds_toArray, List.set_cons_zero, List.set_cons_succ]
        refine wpAnyH_take (i := 12) (oi := _) (v := ?_) rfl (by kernel_rfl) (by kernel_rfl) (by kernel_rfl) (fun _ _ _ h => h) (Or.inl ⟨by rfl, ?_⟩) (by assumption) ?_
        rotate_left
        · (intro w hSw; obtain ⟨s0, s1, s2, s3, -, -⟩ := hSw; go_simp; try with_reducible rfl)
        try simp only [Act.put, List.getElem_toArray, List.getElem_cons_zero, List.getElem_cons_succ, List.setIfInBounds_toArray, List.set_cons_zero, List.set_cons_succ]
        refine wpAnyH_take (i := 13) (oi := _) (v := ?_) rfl (by kernel_rfl) (by kernel_rfl) (by kernel_rfl) (fun _ _ _ h => h) (Or.inl ⟨by rfl, ?_⟩) (by assumption) ?_
        rotate_left
        · (intro w hSw; obtain ⟨s0, s1, s2, s3, -, -⟩ := hSw; go_simp; try with_reducible rfl)
        try simp only [Act.put, List.getElem_toArray, List.getElem_cons_zero, List.getElem_cons_succ, List.setIfInBounds_toArray, List.set_cons_zero, List.set_cons_succ]
        refine wpAnyH_take (i := 14) (oi := _) (v := ?_) rfl (by kernel_rfl) (by kernel_rfl) (by kernel_rfl) (fun _ _ _ h => h) (Or.inl ⟨by rfl, ?_⟩) (by assumption) ?_
        rotate_left
        · (intro w hSw; obtain ⟨s0, s1, s2, s3, -, -⟩ := hSw; go_simp; try with_reducible rfl)
        try simp only [Act.put, List.getElem_toArray, List.getElem_cons_zero, List.getElem_cons_succ, List.setIfInBounds_toArray, List.set_cons_zero, List.set_cons_succ]
        refine wpAnyH_take (i := 15) (oi := _) (v := ?_) rfl (by kernel_rfl) (by kernel_rfl) (by kernel_rfl) (fun _ _ _ h => h) (Or.inl ⟨by rfl, ?_⟩) (by assumption) ?_
        rotate_left
        · (intro w hSw; obtain ⟨s0, s1, s2, s3, -, -⟩ := hSw; go_simp; try with_reducible rfl)
        try simp only [Act.put, List.getElem_toArray, List.getElem_cons_zero, List.getElem_cons_succ, List.setIfInBounds_toArray, List.set_cons_zero, List.set_cons_succ]
        refine wpAnyH_take (i := 16) (oi := _) (v := ?_) rfl (by kernel_rfl) (by kernel_rfl) (by kernel_rfl) (fun _ _ _ h => h) (Or.inl ⟨by rfl, ?_⟩) (by assumption) ?_
        rotate_left
        · (intro w hSw; obtain ⟨s0, s1, s2, s3, -, -⟩ := hSw; go_simp; try with_reducible rfl)
        try simp only [Act.put, List.getElem_toArray, List.getElem_cons_zero, List.getElem_cons_succ, List.setIfInBounds_toArray, List.set_cons_zero, List.set_cons_succ]
        refine wpAnyH_ready (rs := [2, 18]) (by kernel_rfl) (by simp) ?_
        refine AllReadyH.cons rfl (fun K hK => ?_) (AllReadyH.cons rfl (fun K hK => ?_) AllReadyH.nil)
        · go_simp
          go_at_call 34; (with_reducible refine (X0.out).mono ?_); rintro e W5 ⟨rfl, hb5⟩
          have HP5 := Lib.hid (HS0.out.drew.kept hb5)
          refine hK.out _ _ HP5.out (fun hHeld => ?_)
          try simp only [Act.put, List.getElem_toArray, List.getElem_cons_zero, List.getElem_cons_succ, List.setIfInBounds_toArray, List.set_cons_zero, List.set_cons_succ]
          refine wpAnyH_take (i := 17) (oi := _) (v := ?_) rfl (by kernel_rfl) (by kernel_rfl) (by kernel_rfl) (fun _ _ _ h => h) (Or.inl ⟨by rfl, ?_⟩) (by assumption) ?_
          rotate_left
          · (intro w hSw; obtain ⟨s0, s1, s2, s3, -, -⟩ := hSw; go_simp; try with_reducible rfl)
          try simp only [Act.put, List.getElem_toArray, List.getElem_cons_zero, List.getElem_cons_succ, List.setIfInBounds_toArray, List.set_cons_zero, List.set_cons_succ]
          refine wpAnyH_ready (rs := [18]) (by kernel_rfl) (by simp) ?_
          refine AllReadyH.cons rfl (fun K hK => ?_) (AllReadyH.nil)
          go_simp
          refine hK.out _ _ (HP5.out.next _) (fun hHeld => ?_)
          try simp only [Act.put, List.getElem_toArray, List.getElem_cons_zero, List.getElem_cons_succ, List.setIfInBounds_toArray, List.set_cons_zero, List.set_cons_succ]
          have HZ5 := Lib.hid (five_new W5 (.string ⟨#[]⟩) (.int .i64 0) (.int .i64 0) (.int .i64 0) (.int .i64 0) 26)
          obtain ⟨k0, k1, k2, k3, k4, l0, l1, l2, l3, l4, -⟩ := HZ5.out
          refine wpAnyH_ready (rs := [19]) (by kernel_rfl) (by simp) ?_
          refine AllReadyH.cons rfl (fun K hK => ?_) (AllReadyH.nil)
          go_simp
          refine hK.out _ _ (HP5.out.next _) (fun hHeld => ?_)
          try simp only [Act.put, List.getElem_toArray, List.getElem_cons_zero, List.getElem_cons_succ, List.setIfInBounds_toArray, List.set_cons_zero, List.set_cons_succ]
          have HF5 := Lib.hid (five_new W5 (.string px) (.int .i64 z0) (.int .i64 z1) (.int .i64 z2) (.int .i64 z3) 26)
          have HT5 := Lib.hid ((HP5.out.next (.cells #[.string px, .int .i64 z0, .int .i64 z1, .int .i64 z2, .int .i64 z3] 26)).2.2.2.2.1)
          have HB5 := Lib.hid ((HP5.out.next (.cells #[.string px, .int .i64 z0, .int .i64 z1, .int .i64 z2, .int .i64 z3] 26)).2.2.2.2.2)
          refine wpAnyH_done (by kernel_rfl) ?_ _
          clear hHeld hH
          generalize hWf : W5.alloc (.cells #[.string px, .int .i64 z0, .int .i64 z1, .int .i64 z2, .int .i64 z3] 26) = Wf at HF5 HT5 HB5 ⊢
          generalize hn4 : W5.heap.size = n4 at HF5 ⊢
          clear hWf hn4
          obtain ⟨c0, c1, c2, c3, c4, -⟩ := HF5.out
          go_wp2_with fail
          refine (HV.out _).mono ?_
          rintro e W7 ⟨rfl, hb7⟩
          have HF6 := Lib.hid (HF5.out.below hb7)
          have HT6 := Lib.hid (HT5.out.below hb7)
          have HB6 := Lib.hid (below_next HB5.out hb7)
          clear hb7 c0 c1 c2 c3 c4
          obtain ⟨t0, t1, t2, t3, t4, g0, g1, g2, g3, g4, -⟩ := HT6.out
          cases cv with
          | false =>
            have HR := Lib.hid (cmdFrom_no (b := zs) (by unfold fromOk; rw [HCV.out, Bool.and_false, Bool.and_false]))
            go_wp2
            rw [HR.out]
            exact cmdpair_ret _ rfl (c' := zeroC) rfl HT6.out HB6.out rfl rfl
          | true =>
            have HR := Lib.hid (show cmdFrom zs = (⟨px, z0, z1, z2, z3⟩, true) by rw [cmdFrom_yes (from_all HBK.out HCV.out), HCC.out])
            obtain ⟨c0, c1, c2, c3, c4, -⟩ := HF6.out
            go_wp2
            rw [HR.out]
            exact cmdpair_ret _ rfl rfl HT6.out HB6.out rfl rfl
        · go_simp
          refine hK.out _ _ (HS1.out.drew) (fun hHeld => ?_)
          try simp only [Act.put, List.getElem_toArray, List.getElem_cons_zero, List.getElem_cons_succ, List.setIfInBounds_toArray, List.set_cons_zero, List.set_cons_succ]
          refine wpAnyH_ready (rs := [2]) (by kernel_rfl) (by simp) ?_
          refine AllReadyH.cons rfl (fun K hK => ?_) (AllReadyH.nil)
          go_simp
          go_at_call 34; (with_reducible refine (X1.out).mono ?_); rintro e W6 ⟨rfl, hb6⟩
          have HP6 := Lib.hid (HS1.out.drew.kept hb6)
          refine hK.out _ _ HP6.out (fun hHeld => ?_)
          try simp only [Act.put, List.getElem_toArray, List.getElem_cons_zero, List.getElem_cons_succ, List.setIfInBounds_toArray, List.set_cons_zero, List.set_cons_succ]
          refine wpAnyH_take (i := 17) (oi := _) (v := ?_) rfl (by kernel_rfl) (by kernel_rfl) (by kernel_rfl) (fun _ _ _ h => h) (Or.inl ⟨by rfl, ?_⟩) (by assumption) ?_
          rotate_left
          · (intro w hSw; obtain ⟨s0, s1, s2, s3, -, -⟩ := hSw; go_simp; try with_reducible rfl)
          try simp only [Act.put, List.getElem_toArray, List.getElem_cons_zero, List.getElem_cons_succ, List.setIfInBounds_toArray, List.set_cons_zero, List.set_cons_succ]
          have HZ6 := Lib.hid (F1.out.below hb6)
          obtain ⟨k0, k1, k2, k3, k4, l0, l1, l2, l3, l4, -⟩ := HZ6.out
          refine wpAnyH_ready (rs := [19]) (by kernel_rfl) (by simp) ?_
          refine AllReadyH.cons rfl (fun K hK => ?_) (AllReadyH.nil)
          go_simp
          refine hK.out _ _ (HP6.out.set5 (n := W.heap.size + 1) (Nat.lt_succ_self _) (by have := HBW.out; omega)) (fun hHeld => ?_)
          try simp only [Act.put, List.getElem_toArray, List.getElem_cons_zero, List.getElem_cons_succ, List.setIfInBounds_toArray, List.set_cons_zero, List.set_cons_succ]
          have HF5 := Lib.hid (show Five (((((W6.setCell ⟨W.heap.size + 1, 0, none⟩ (.string px)).setCell ⟨W.heap.size + 1, 1, none⟩ (.int .i64 z0)).setCell ⟨W.heap.size + 1, 2, none⟩ (.int .i64 z1)).setCell ⟨W.heap.size + 1, 3, none⟩ (.int .i64 z2)).setCell ⟨W.heap.size + 1, 4, none⟩ (.int .i64 z3)) (W.heap.size + 1) (.string px) (.int .i64 z0) (.int .i64 z1) (.int .i64 z2) (.int .i64 z3) from HZ6.out.setAll)
          have HT5 := Lib.hid ((show FPar W b off z0 z1 z2 z3 (((((W6.setCell ⟨W.heap.size + 1, 0, none⟩ (.string px)).setCell ⟨W.heap.size + 1, 1, none⟩ (.int .i64 z0)).setCell ⟨W.heap.size + 1, 2, none⟩ (.int .i64 z1)).setCell ⟨W.heap.size + 1, 3, none⟩ (.int .i64 z2)).setCell ⟨W.heap.size + 1, 4, none⟩ (.int .i64 z3)) from (HP6.out.set5 (n := W.heap.size + 1) (Nat.lt_succ_self _) (by have := HBW.out; omega))).2.2.2.2.1)
          have HB5 := Lib.hid ((show FPar W b off z0 z1 z2 z3 (((((W6.setCell ⟨W.heap.size + 1, 0, none⟩ (.string px)).setCell ⟨W.heap.size + 1, 1, none⟩ (.int .i64 z0)).setCell ⟨W.heap.size + 1, 2, none⟩ (.int .i64 z1)).setCell ⟨W.heap.size + 1, 3, none⟩ (.int .i64 z2)).setCell ⟨W.heap.size + 1, 4, none⟩ (.int .i64 z3)) from (HP6.out.set5 (n := W.heap.size + 1) (Nat.lt_succ_self _) (by have := HBW.out; omega))).2.2.2.2.2)
          refine wpAnyH_done (by kernel_rfl) ?_ _
          clear hHeld hH
          generalize hWf : (((((W6.setCell ⟨W.heap.size + 1, 0, none⟩ (.string px)).setCell ⟨W.heap.size + 1, 1, none⟩ (.int .i64 z0)).setCell ⟨W.heap.size + 1, 2, none⟩ (.int .i64 z1)).setCell ⟨W.heap.size + 1, 3, none⟩ (.int .i64 z2)).setCell ⟨W.heap.size + 1, 4, none⟩ (.int .i64 z3)) = Wf at HF5 HT5 HB5 ⊢
          generalize hn4 : W.heap.size + 1 = n4 at HF5 ⊢
          clear hWf hn4
          obtain ⟨c0, c1, c2, c3, c4, -⟩ := HF5.out
          go_wp2_with fail
          refine (HV.out _).mono ?_
          rintro e W7 ⟨rfl, hb7⟩
          have HF6 := Lib.hid (HF5.out.below hb7)
          have HT6 := Lib.hid (HT5.out.below hb7)
          have HB6 := Lib.hid (below_next HB5.out hb7)
          clear hb7 c0 c1 c2 c3 c4
          obtain ⟨t0, t1, t2, t3, t4, g0, g1, g2, g3, g4, -⟩ := HT6.out
          cases cv with
          | false =>
            have HR := Lib.hid (cmdFrom_no (b := zs) (by unfold fromOk; rw [HCV.out, Bool.and_false, Bool.and_false]))
            go_wp2
            rw [HR.out]
            exact cmdpair_ret _ rfl (c' := zeroC) rfl HT6.out HB6.out rfl rfl
          | true =>
            have HR := Lib.hid (show cmdFrom zs = (⟨px, z0, z1, z2, z3⟩, true) by rw [cmdFrom_yes (from_all HBK.out HCV.out), HCC.out])
            obtain ⟨c0, c1, c2, c3, c4, -⟩ := HF6.out
            go_wp2
            rw [HR.out]
            exact cmdpair_ret _ rfl rfl HT6.out HB6.out rfl rfl
      · have HX := Lib.hid (HTX.out _ (tail_ints HN.out (by omega)))
        have HS1 := Lib.hid (HS0.out.next (.cells #[.string ⟨#[]⟩, .int .i64 0, .int .i64 0, .int .i64 0, .int .i64 0] 26))
        have X0 := Lib.hid (HX.out (W.alloc (.cells #[.string ⟨#[]⟩, .int .i64 0, .int .i64 0, .int .i64 0, .int .i64 0] 26)).drew B0.out.drew)
        have X1 := Lib.hid (HX.out ((W.alloc (.cells #[.string ⟨#[]⟩, .int .i64 0, .int .i64 0, .int .i64 0, .int .i64 0] 26)).alloc (.cells #[.string ⟨#[]⟩, .int .i64 0, .int .i64 0, .int .i64 0, .int .i64 0] 26)).drew HS1.out.drew.2.2.2.2.2)
        have F1 : Hid (Five ((W.alloc (.cells #[.string ⟨#[]⟩, .int .i64 0, .int .i64 0, .int .i64 0, .int .i64 0] 26)).alloc (.cells #[.string ⟨#[]⟩, .int .i64 0, .int .i64 0, .int .i64 0, .int .i64 0] 26)).drew (W.heap.size + 1) (.string ⟨#[]⟩) (.int .i64 0) (.int .i64 0) (.int .i64 0) (.int .i64 0)) := Lib.hid (by have := (five_new (W.alloc (.cells #[.string ⟨#[]⟩, .int .i64 0, .int .i64 0, .int .i64 0, .int .i64 0] 26)) (.string ⟨#[]⟩) (.int .i64 0) (.int .i64 0) (.int .i64 0) (.int .i64 0) 26).drew; rw [World.size_alloc] at this; exact this)
        go_upto_region 3 with (fail)
        refine wp_region_held_drew (S := (fun w' => FPar W b off z0 z1 z2 z3 w')) (by kernel_rfl) HS0.out.drew (fun hH => ?_)
        refine wpAnyH_take (i := 0) (oi := _) (v := ?_) rfl (by kernel_rfl) (by kernel_rfl) (by kernel_rfl) (fun _ _ _ h => h) (Or.inl ⟨by rfl, ?_⟩) (by assumption) ?_
        rotate_left
        · (intro w hSw; obtain ⟨s0, s1, s2, s3, -, -⟩ := hSw; go_simp; try with_reducible rfl)
        try simp only [Act.put, List.getElem_toArray, List.getElem_cons_zero, List.getElem_cons_succ, List.setIfInBounds_toArray, List.set_cons_zero, List.set_cons_succ]
        refine wpAnyH_take (i := 1) (oi := _) (v := ?_) rfl (by kernel_rfl) (by kernel_rfl) (by kernel_rfl) (fun _ _ _ h => h) (Or.inl ⟨by rfl, ?_⟩) (by assumption) ?_
        rotate_left
        · (intro w hSw; obtain ⟨s0, s1, s2, s3, -, -⟩ := hSw; go_simp; try with_reducible rfl)
        try simp only [Act.put, List.getElem_toArray, List.getElem_cons_zero, List.getElem_cons_succ, List.setIfInBounds_toArray, List.set_cons_zero, List.set_cons_succ]
        refine wpAnyH_take (i := 3) (oi := _) (v := ?_) rfl (by kernel_rfl) (by kernel_rfl) (by kernel_rfl) (fun _ _ _ h => h) (Or.inl ⟨by rfl, ?_⟩) (by assumption) ?_
        rotate_left
        · (intro w hSw; obtain ⟨s0, s1, s2, s3, -, -⟩ := hSw; go_simp; try with_reducible rfl)
        try simp only [Act.put, List.getElem_toArray, List.getElem_cons_zero, List.getElem_cons_succ, List.setIfInBounds_toArray, List.set_cons_zero, List.set_cons_succ]
        refine wpAnyH_take (i := 4) (oi := _) (v := ?_) rfl (by kernel_rfl) (by kernel_rfl) (by kernel_rfl) (fun _ _ _ h => h) (Or.inl ⟨by rfl, ?_⟩) (by assumption) ?_
        rotate_left
        · (intro w hSw; obtain ⟨s0, s1, s2, s3, -, -⟩ := hSw; go_simp; try with_reducible rfl)
        try simp only [Act.put, List.getElem_toArray, List.getElem_cons_zero, List.getElem_cons_succ, List.setIfInBounds_toArray, List.set_cons_zero, List.set_cons_succ]
        refine wpAnyH_take (i := 5) (oi := _) (v := ?_) rfl (by kernel_rfl) (by kernel_rfl) (by kernel_rfl) (fun _ _ _ h => h) (Or.inl ⟨by rfl, ?_⟩) (by assumption) ?_
        rotate_left
        · (intro w hSw; obtain ⟨s0, s1, s2, s3, -, -⟩ := hSw; go_simp; try with_reducible rfl)
        try simp only [Act.put, List.getElem_toArray, List.getElem_cons_zero, List.getElem_cons_succ, List.setIfInBounds_toArray, List.set_cons_zero, List.set_cons_succ]
        refine wpAnyH_take (i := 6) (oi := _) (v := ?_) rfl (by kernel_rfl) (by kernel_rfl) (by kernel_rfl) (fun _ _ _ h => h) (Or.inl ⟨by rfl, ?_⟩) (by assumption) ?_
        rotate_left
        · (intro w hSw; obtain ⟨s0, s1, s2, s3, -, -⟩ := hSw; go_simp; try with_reducible rfl)
        try simp only [Act.put, List.getElem_toArray, List.getElem_cons_zero, List.getElem_cons_succ, List.setIfInBounds_toArray, List.set_cons_zero, List.set_cons_succ]
        refine wpAnyH_take (i := 7) (oi := _) (v := ?_) rfl (by kernel_rfl) (by kernel_rfl) (by kernel_rfl) (fun _ _ _ h => h) (Or.inl ⟨by rfl, ?_⟩) (by assumption) ?_
        rotate_left
        · (intro w hSw; obtain ⟨s0, s1, s2, s3, -, -⟩ := hSw; go_simp; try with_reducible rfl)
        try simp only [Act.put, List.getElem_toArray, List.getElem_cons_zero, List.getElem_cons_succ, List.setIfInBounds_toArray, List.set_cons_zero, List.set_cons_succ]
        refine wpAnyH_take (i := 8) (oi := _) (v := ?_) rfl (by kernel_rfl) (by kernel_rfl) (by kernel_rfl) (fun _ _ _ h => h) (Or.inl ⟨by rfl, ?_⟩) (by assumption) ?_
        rotate_left
        · (intro w hSw; obtain ⟨s0, s1, s2, s3, -, -⟩ := hSw; go_simp; try with_reducible rfl)
        try simp only [Act.put, List.getElem_toArray, List.getElem_cons_zero, List.getElem_cons_succ, List.setIfInBounds_toArray, List.set_cons_zero, List.set_cons_succ]
        refine wpAnyH_take (i := 9) (oi := _) (v := ?_) rfl (by kernel_rfl) (by kernel_rfl) (by kernel_rfl) (fun _ _ _ h => h) (Or.inl ⟨by rfl, ?_⟩) (by assumption) ?_
        rotate_left
        · (intro w hSw; obtain ⟨s0, s1, s2, s3, -, -⟩ := hSw; go_simp; try with_reducible rfl)
        try simp only [Act.put, List.getElem_toArray, List.getElem_cons_zero, List.getElem_cons_succ, List.setIfInBounds_toArray, List.set_cons_zero, List.set_cons_succ]
        refine wpAnyH_take (i := 10) (oi := _) (v := ?_) rfl (by kernel_rfl) (by kernel_rfl) (by kernel_rfl) (fun _ _ _ h => h) (Or.inl ⟨by rfl, ?_⟩) (by assumption) ?_
        rotate_left
        · (intro w hSw; obtain ⟨s0, s1, s2, s3, -, -⟩ := hSw; go_simp; try with_reducible rfl)
        try simp only [Act.put, List.getElem_toArray, List.getElem_cons_zero, List.getElem_cons_succ, List.setIfInBounds_toArray, List.set_cons_zero, List.set_cons_succ]
        refine wpAnyH_take (i := 11) (oi := _) (v := ?_) rfl (by kernel_rfl) (by kernel_rfl) (by kernel_rfl) (fun _ _ _ h => h) (Or.inl ⟨by rfl, ?_⟩) (by assumption) ?_
        rotate_left
        · (intro w hSw; obtain ⟨s0, s1, s2, s3, -, -⟩ := hSw; go_simp; try with_reducible rfl)
        try simp only [Act.put, List.getElem_toArray, List.getElem_cons_zero, List.getElem_cons_succ, List.setIfInBounds_toArray, List.set_cons_zero, List.set_cons_succ]
        refine wpAnyH_take (i := 12) (oi := _) (v := ?_) rfl (by kernel_rfl) (by kernel_rfl) (by kernel_rfl) (fun _ _ _ h => h) (Or.inl ⟨by rfl, ?_⟩) (by assumption) ?_
        rotate_left
        · (intro w hSw; obtain ⟨s0, s1, s2, s3, -, -⟩ := hSw; go_simp; try with_reducible rfl)
        try simp only [Act.put, List.getElem_toArray, List.getElem_cons_zero, List.getElem_cons_succ, List.setIfInBounds_toArray, List.set_cons_zero, List.set_cons_succ]
        refine wpAnyH_take (i := 13) (oi := _) (v := ?_) rfl (by kernel_rfl) (by kernel_rfl) (by kernel_rfl) (fun _ _ _ h => h) (Or.inl ⟨by rfl, ?_⟩) (by assumption) ?_
        rotate_left
        · (intro w hSw; obtain ⟨s0, s1, s2, s3, -, -⟩ := hSw; go_simp; try with_reducible rfl)
        try simp only [Act.put, List.getElem_toArray, List.getElem_cons_zero, List.getElem_cons_succ, List.setIfInBounds_toArray, List.set_cons_zero, List.set_cons_succ]
        refine wpAnyH_take (i := 14) (oi := _) (v := ?_) rfl (by kernel_rfl) (by kernel_rfl) (by kernel_rfl) (fun _ _ _ h => h) (Or.inl ⟨by rfl, ?_⟩) (by assumption) ?_
        rotate_left
        · (intro w hSw; obtain ⟨s0, s1, s2, s3, -, -⟩ := hSw; go_simp; try with_reducible rfl)
        try simp only [Act.put, List.getElem_toArray, List.getElem_cons_zero, List.getElem_cons_succ, List.setIfInBounds_toArray, List.set_cons_zero, List.set_cons_succ]
        refine wpAnyH_take (i := 15) (oi := _) (v := ?_) rfl (by kernel_rfl) (by kernel_rfl) (by kernel_rfl) (fun _ _ _ h => h) (Or.inl ⟨by rfl, ?_⟩) (by assumption) ?_
        rotate_left
        · (intro w hSw; obtain ⟨s0, s1, s2, s3, -, -⟩ := hSw; go_simp; try with_reducible rfl)
        try simp only [Act.put, List.getElem_toArray, List.getElem_cons_zero, List.getElem_cons_succ, List.setIfInBounds_toArray, List.set_cons_zero, List.set_cons_succ]
        refine wpAnyH_take (i := 16) (oi := _) (v := ?_) rfl (by kernel_rfl) (by kernel_rfl) (by kernel_rfl) (fun _ _ _ h => h) (Or.inl ⟨by rfl, ?_⟩) (by assumption) ?_
        rotate_left
        · (intro w hSw; obtain ⟨s0, s1, s2, s3, -, -⟩ := hSw; go_simp; try with_reducible rfl)
        try simp only [Act.put, List.getElem_toArray, List.getElem_cons_zero, List.getElem_cons_succ, List.setIfInBounds_toArray, List.set_cons_zero, List.set_cons_succ]
        refine wpAnyH_ready (rs := [2, 18]) (by kernel_rfl) (by simp) ?_
        refine AllReadyH.cons rfl (fun K hK => ?_) (AllReadyH.cons rfl (fun K hK => ?_) AllReadyH.nil)
        · go_simp
          go_at_call 34; (with_reducible refine (X0.out).mono ?_); rintro e W5 ⟨rfl, hb5⟩
          have HP5 := Lib.hid (HS0.out.drew.kept hb5)
          refine hK.out _ _ HP5.out (fun hHeld => ?_)
          try simp only [Act.put, List.getElem_toArray, List.getElem_cons_zero, List.getElem_cons_succ, List.setIfInBounds_toArray, List.set_cons_zero, List.set_cons_succ]
          refine wpAnyH_take (i := 17) (oi := _) (v := ?_) rfl (by kernel_rfl) (by kernel_rfl) (by kernel_rfl) (fun _ _ _ h => h) (Or.inl ⟨by rfl, ?_⟩) (by assumption) ?_
          rotate_left
          · (intro w hSw; obtain ⟨s0, s1, s2, s3, -, -⟩ := hSw; go_simp; try with_reducible rfl)
          try simp only [Act.put, List.getElem_toArray, List.getElem_cons_zero, List.getElem_cons_succ, List.setIfInBounds_toArray, List.set_cons_zero, List.set_cons_succ]
          refine wpAnyH_ready (rs := [18]) (by kernel_rfl) (by simp) ?_
          refine AllReadyH.cons rfl (fun K hK => ?_) (AllReadyH.nil)
          go_simp
          refine hK.out _ _ (HP5.out.next _) (fun hHeld => ?_)
          try simp only [Act.put, List.getElem_toArray, List.getElem_cons_zero, List.getElem_cons_succ, List.setIfInBounds_toArray, List.set_cons_zero, List.set_cons_succ]
          have HZ5 := Lib.hid (five_new W5 (.string ⟨#[]⟩) (.int .i64 0) (.int .i64 0) (.int .i64 0) (.int .i64 0) 26)
          obtain ⟨k0, k1, k2, k3, k4, l0, l1, l2, l3, l4, -⟩ := HZ5.out
          refine wpAnyH_ready (rs := [19]) (by kernel_rfl) (by simp) ?_
          refine AllReadyH.cons rfl (fun K hK => ?_) (AllReadyH.nil)
          go_simp
          refine hK.out _ _ (HP5.out.next _) (fun hHeld => ?_)
          try simp only [Act.put, List.getElem_toArray, List.getElem_cons_zero, List.getElem_cons_succ, List.setIfInBounds_toArray, List.set_cons_zero, List.set_cons_succ]
          have HF5 := Lib.hid (five_new W5 (.string px) (.int .i64 z0) (.int .i64 z1) (.int .i64 z2) (.int .i64 z3) 26)
          have HT5 := Lib.hid ((HP5.out.next (.cells #[.string px, .int .i64 z0, .int .i64 z1, .int .i64 z2, .int .i64 z3] 26)).2.2.2.2.1)
          have HB5 := Lib.hid ((HP5.out.next (.cells #[.string px, .int .i64 z0, .int .i64 z1, .int .i64 z2, .int .i64 z3] 26)).2.2.2.2.2)
          refine wpAnyH_done (by kernel_rfl) ?_ _
          clear hHeld hH
          generalize hWf : W5.alloc (.cells #[.string px, .int .i64 z0, .int .i64 z1, .int .i64 z2, .int .i64 z3] 26) = Wf at HF5 HT5 HB5 ⊢
          generalize hn4 : W5.heap.size = n4 at HF5 ⊢
          clear hWf hn4
          obtain ⟨c0, c1, c2, c3, c4, -⟩ := HF5.out
          go_wp2_with fail
          refine (HV.out _).mono ?_
          rintro e W7 ⟨rfl, hb7⟩
          have HF6 := Lib.hid (HF5.out.below hb7)
          have HT6 := Lib.hid (HT5.out.below hb7)
          have HB6 := Lib.hid (below_next HB5.out hb7)
          clear hb7 c0 c1 c2 c3 c4
          obtain ⟨t0, t1, t2, t3, t4, g0, g1, g2, g3, g4, -⟩ := HT6.out
          cases cv with
          | false =>
            have HR := Lib.hid (cmdFrom_no (b := zs) (by unfold fromOk; rw [HCV.out, Bool.and_false, Bool.and_false]))
            go_wp2
            rw [HR.out]
            exact cmdpair_ret _ rfl (c' := zeroC) rfl HT6.out HB6.out rfl rfl
          | true =>
            have HR := Lib.hid (show cmdFrom zs = (⟨px, z0, z1, z2, z3⟩, true) by rw [cmdFrom_yes (from_all HBK.out HCV.out), HCC.out])
            obtain ⟨c0, c1, c2, c3, c4, -⟩ := HF6.out
            go_wp2
            rw [HR.out]
            exact cmdpair_ret _ rfl rfl HT6.out HB6.out rfl rfl
        · go_simp
          refine hK.out _ _ (HS1.out.drew) (fun hHeld => ?_)
          try simp only [Act.put, List.getElem_toArray, List.getElem_cons_zero, List.getElem_cons_succ, List.setIfInBounds_toArray, List.set_cons_zero, List.set_cons_succ]
          refine wpAnyH_ready (rs := [2]) (by kernel_rfl) (by simp) ?_
          refine AllReadyH.cons rfl (fun K hK => ?_) (AllReadyH.nil)
          go_simp
          go_at_call 34; (with_reducible refine (X1.out).mono ?_); rintro e W6 ⟨rfl, hb6⟩
          have HP6 := Lib.hid (HS1.out.drew.kept hb6)
          refine hK.out _ _ HP6.out (fun hHeld => ?_)
          try simp only [Act.put, List.getElem_toArray, List.getElem_cons_zero, List.getElem_cons_succ, List.setIfInBounds_toArray, List.set_cons_zero, List.set_cons_succ]
          refine wpAnyH_take (i := 17) (oi := _) (v := ?_) rfl (by kernel_rfl) (by kernel_rfl) (by kernel_rfl) (fun _ _ _ h => h) (Or.inl ⟨by rfl, ?_⟩) (by assumption) ?_
          rotate_left
          · (intro w hSw; obtain ⟨s0, s1, s2, s3, -, -⟩ := hSw; go_simp; try with_reducible rfl)
          try simp only [Act.put, List.getElem_toArray, List.getElem_cons_zero, List.getElem_cons_succ, List.setIfInBounds_toArray, List.set_cons_zero, List.set_cons_succ]
          have HZ6 := Lib.hid (F1.out.below hb6)
          obtain ⟨k0, k1, k2, k3, k4, l0, l1, l2, l3, l4, -⟩ := HZ6.out
          refine wpAnyH_ready (rs := [19]) (by kernel_rfl) (by simp) ?_
          refine AllReadyH.cons rfl (fun K hK => ?_) (AllReadyH.nil)
          go_simp
          refine hK.out _ _ (HP6.out.set5 (n := W.heap.size + 1) (Nat.lt_succ_self _) (by have := HBW.out; omega)) (fun hHeld => ?_)
          try simp only [Act.put, List.getElem_toArray, List.getElem_cons_zero, List.getElem_cons_succ, List.setIfInBounds_toArray, List.set_cons_zero, List.set_cons_succ]
          have HF5 := Lib.hid (show Five (((((W6.setCell ⟨W.heap.size + 1, 0, none⟩ (.string px)).setCell ⟨W.heap.size + 1, 1, none⟩ (.int .i64 z0)).setCell ⟨W.heap.size + 1, 2, none⟩ (.int .i64 z1)).setCell ⟨W.heap.size + 1, 3, none⟩ (.int .i64 z2)).setCell ⟨W.heap.size + 1, 4, none⟩ (.int .i64 z3)) (W.heap.size + 1) (.string px) (.int .i64 z0) (.int .i64 z1) (.int .i64 z2) (.int .i64 z3) from HZ6.out.setAll)
          have HT5 := Lib.hid ((show FPar W b off z0 z1 z2 z3 (((((W6.setCell ⟨W.heap.size + 1, 0, none⟩ (.string px)).setCell ⟨W.heap.size + 1, 1, none⟩ (.int .i64 z0)).setCell ⟨W.heap.size + 1, 2, none⟩ (.int .i64 z1)).setCell ⟨W.heap.size + 1, 3, none⟩ (.int .i64 z2)).setCell ⟨W.heap.size + 1, 4, none⟩ (.int .i64 z3)) from (HP6.out.set5 (n := W.heap.size + 1) (Nat.lt_succ_self _) (by have := HBW.out; omega))).2.2.2.2.1)
          have HB5 := Lib.hid ((show FPar W b off z0 z1 z2 z3 (((((W6.setCell ⟨W.heap.size + 1, 0, none⟩ (.string px)).setCell ⟨W.heap.size + 1, 1, none⟩ (.int .i64 z0)).setCell ⟨W.heap.size + 1, 2, none⟩ (.int .i64 z1)).setCell ⟨W.heap.size + 1, 3, none⟩ (.int .i64 z2)).setCell ⟨W.heap.size + 1, 4, none⟩ (.int .i64 z3)) from (HP6.out.set5 (n := W.heap.size + 1) (Nat.lt_succ_self _) (by have := HBW.out; omega))).2.2.2.2.2)
          refine wpAnyH_done (by kernel_rfl) ?_ _
          clear hHeld hH
          generalize hWf : (((((W6.setCell ⟨W.heap.size + 1, 0, none⟩ (.string px)).setCell ⟨W.heap.size + 1, 1, none⟩ (.int .i64 z0)).setCell ⟨W.heap.size + 1, 2, none⟩ (.int .i64 z1)).setCell ⟨W.heap.size + 1, 3, none⟩ (.int .i64 z2)).setCell ⟨W.heap.size + 1, 4, none⟩ (.int .i64 z3)) = Wf at HF5 HT5 HB5 ⊢
          generalize hn4 : W.heap.size + 1 = n4 at HF5 ⊢
          clear hWf hn4
          obtain ⟨c0, c1, c2, c3, c4, -⟩ := HF5.out
          go_wp2_with fail
          refine (HV.out _).mono ?_
          rintro e W7 ⟨rfl, hb7⟩
          have HF6 := Lib.hid (HF5.out.below hb7)
          have HT6 := Lib.hid (HT5.out.below hb7)
          have HB6 := Lib.hid (below_next HB5.out hb7)
          clear hb7 c0 c1 c2 c3 c4
          obtain ⟨t0, t1, t2, t3, t4, g0, g1, g2, g3, g4, -⟩ := HT6.out
          cases cv with
          | false =>
            have HR := Lib.hid (cmdFrom_no (b := zs) (by unfold fromOk; rw [HCV.out, Bool.and_false, Bool.and_false]))
            go_wp2
            rw [HR.out]
            exact cmdpair_ret _ rfl (c' := zeroC) rfl HT6.out HB6.out rfl rfl
          | true =>
            have HR := Lib.hid (show cmdFrom zs = (⟨px, z0, z1, z2, z3⟩, true) by rw [cmdFrom_yes (from_all HBK.out HCV.out), HCC.out])
            obtain ⟨c0, c1, c2, c3, c4, -⟩ := HF6.out
            go_wp2
            rw [HR.out]
            exact cmdpair_ret _ rfl rfl HT6.out HB6.out rfl rfl

end Go.Proofs.Ytoipbocbgadjbaa

/-
  WALKS: the model's journals: CommandBytes, CommandFrom, LogBytes.
-/
namespace Go.Proofs.Ytoipbocbgadjbaa
open Go.RowKit
set_option linter.unusedVariables false

set_option maxHeartbeats 4000000 in
set_option maxRecDepth 100000 in
theorem specCmdBytes_c (c : Cmd) (hp : c.p.size ≤ 2097152) (W : World) : Calls Try.prog 11 #[cmdV c] W (NumsPost (cmdBytes c) W) := by
  obtain ⟨i0, hi, hz0, hz1, hz2⟩ := info_parts infoInt
  obtain ⟨vc, hvc⟩ : ∃ vc, validC c = vc := ⟨_, rfl⟩
  have HC := Lib.hid (fun W' => show Calls Try.prog 32 #[cmdV c] W' (BoolPost vc W') by rw [← hvc]; exact specCmdValid_c c hp W')
  cases vc with
  | false =>
    have HR := Lib.hid (cmdBytes_bad hvc)
    clear hvc
    unfold cmdV at HC ⊢
    obtain ⟨p, fk, fv, tk, tv⟩ := c
    simp only at HC ⊢
    go_enter Try.func11, Try.ntmps11
    go_wp2_with fail
    refine (HC.out _).mono ?_
    rintro e W1 ⟨rfl, hb1⟩
    have B1 := Lib.hid (below_next (below_box W _) hb1)
    clear hb1
    go_wp2
    go_ret
    exact ⟨⟨_, rfl, by rw [HR.out]; exact World.ownsRow_lit (e := 3) (size := 1) W1 #[] 0 B1.out.size (by simp [maxLen]) rfl⟩, B1.out.alloc B1.out.size _⟩
  | true =>
    have HR := Lib.hid (cmdBytes_ok hvc)
    have HPS := Lib.hid (path_size ((validC_iff c).1 hvc).1)
    clear hvc
    unfold cmdV at HC ⊢
    obtain ⟨p, fk, fv, tk, tv⟩ := c
    simp only at HC HR HPS hp ⊢
    go_enter Try.func11, Try.ntmps11
    go_wp2_with fail
    refine (HC.out _).mono ?_
    rintro e W1 ⟨rfl, hb1⟩
    have B1 := Lib.hid (below_next (below_box W _) hb1)
    have F1 := Lib.hid ((five_new W (.string p) (.int .i64 fk) (.int .i64 fv) (.int .i64 tk) (.int .i64 tv) 26).below hb1)
    have L1 := Lib.hid (show W.heap.size + 1 ≤ W1.heap.size by have := hb1.size; simpa using this)
    clear hb1
    obtain ⟨q0, q1, q2, q3, q4, g0, g1, g2, g3, g4, -⟩ := F1.out
    have hps : (p.size : Int) ≤ 8 := by have := HPS.out; omega
    have e0 := fun o => cell_kept (below_box W1 o) q0
    go_wp2
    have HO1 := Lib.hid (own_mono1 (lit_four W1 fk fv tk tv) L1.out)
    have HF1 := Lib.hid (F1.out.below (below_box W1 (.cells #[.int .i64 fk, .int .i64 fv, .int .i64 tk, .int .i64 tv] 3)))
    have HB1 := Lib.hid (below_next B1.out (below_box W1 (.cells #[.int .i64 fk, .int .i64 fv, .int .i64 tk, .int .i64 tv] 3)))
    clear q0 q1 q2 q3 q4 g0 g1 g2 g3 g4 e0
    go_loopw [3, 4] (fun o i wr => BytRel p fk fv tk tv W o i wr) (fun _ i _ => p.size - (intOf i).toNat)
    case atStart => exact ⟨0, rfl, Nat.zero_le _, HO1.out, HF1, HB1⟩
    case round =>
      obtain ⟨n, rfl, hn, hrow, HF, HB⟩ := hrel
      by_cases hlt : n < p.size
      · have hlt' : (n : Int) < p.size := by omega
        have hw1 : IntKind.i64.wrap ((n : Int) + 1) = (n : Int) + 1 := IntWalk.i64_in _ (by omega)
        obtain ⟨x0, x1, x2, x3, x4, -, -, -, -, -, xlt⟩ := HF.out
        have HLE := Lib.hid (show W.heap.size + 1 ≤ wr.heap.size from xlt)
        have HLT := Lib.hid hlt
        have HROW := Lib.hid hrow
        have hltb := hrow.lt
        clear hn hlt hrow xlt
        have hN8 : 4 + n ≤ 12 := by have := HPS.out; have := HLT.out; omega
        go_wp2_with (at_builtin; refine wpList_append_own _ rfl _ _ 28 rfl (W.heap.size + 1) 3 i0 (.int .i64 0) 1 8 Try.underlying28 hi hz0 hz1 hz2 rfl (by decide) _ _ _ rfl (HROW.out.alloc _) ⟨wr.heap.size, 0, none⟩ 1 1 [.int .i64 _] rfl rfl (cell_int_new _ _ _) (fun x hx => by simp at hx; subst hx; rfl) (by unfold maxLen; omega) (by omega) (by have := HLE.out; simp; omega) ?_; intro v6 w6 ho6 hg6 hn6)
        have B6 : Below (W.heap.size + 1) wr w6 := ((Below.refl _ wr).alloc HLE.out _).grown hg6 (by have := HLE.out; simp; omega) (fun g e => (hltb g e).1)
        have ho7 := ho6
        rw [wrap_byte, nums_next (fk := fk) (fv := fv) (tk := tk) (tv := tv) HLT.out] at ho7
        go_roundw
        case rel => exact ⟨n + 1, by go_num, HLT.out, ho7, Lib.hid (five_low HF.out B6 (Nat.lt_succ_self _)), Lib.hid (HB.out.trans (B6.mono (by omega)))⟩
        case measure => have := HLT.out; simp [intOf]; omega
      · have hnl : n = p.size := by omega
        have hge : ¬ (n : Int) < p.size := by omega
        obtain ⟨y0, -⟩ := HF.out
        have HROW := Lib.hid hrow
        clear hn hlt hrow
        go_wp2
        go_ret
        refine ⟨⟨_, rfl, ?_⟩, HB.out⟩
        rw [HR.out]
        have := HROW.out
        rw [hnl, List.take_of_length_le (by rw [intsB_length]; exact Nat.le_refl _)] at this
        rw [show (fk :: fv :: tk :: tv :: intsB p).length = 4 + p.size by simp [intsB_length]; omega]
        exact own_mono1 this (Nat.le_succ _)

theorem drop_take_ints {zs : List Int} {n : Nat} {z : Int} (h : zs[n]? = some z) (h4 : 4 ≤ n) : textI ((zs.take (n + 1)).drop 4) = textI ((zs.take n).drop 4) ++ ⟨#[byI z]⟩ := by
  rw [List.take_add_one, h]
  have hl := (List.getElem?_eq_some_iff.1 h).1
  rw [show (some z).toList = [z] from rfl, List.drop_append_of_le_length (by rw [List.length_take]; omega)]
  apply ByteArray.ext
  simp [textI, ByteArray.data_append]

/-- Between two rounds of CommandFrom. -/
def FromRel (zs : List Int) (W : World) (s i : Value) (wr : World) : Prop :=
  ∃ n : Nat, i = .int .i64 n ∧ 4 ≤ n ∧ n ≤ zs.length ∧ s = .string (textI ((zs.take n).drop 4)) ∧ Hid (Five wr W.heap.size (.string ⟨#[]⟩) (.int .i64 0) (.int .i64 0) (.int .i64 0) (.int .i64 0)) ∧ Hid (Below W.heap.size W wr)

set_option maxHeartbeats 4000000 in
set_option maxRecDepth 100000 in
theorem specCmdFrom_c (a : Option Addr) (len cap : Nat) (zs : List Int) (hl : len ≤ 2097152) (W : World) (hN : IntsAt W a len zs) :
    Calls Try.prog 15 #[.slice a len cap] W (CmdPairPost (cmdFrom zs).1 (cmdFrom zs).2 W) := by
  obtain ⟨bo, hbo⟩ : ∃ b, bodyOk zs = b := ⟨_, rfl⟩
  have HBO := Lib.hid (fun W' (hb : Below W.heap.size W W') => show Calls Try.prog 39 #[.slice a len cap] W' (fun e W1 => e = .returned (.bool bo) ∧ W1 = W') by rw [← hbo]; exact l4Body_c a len cap zs hl W' (hN.keep hb))
  have HN := Lib.hid hN
  have HE := Lib.hid hN.1
  have HBK := Lib.hid hbo
  have HL := Lib.hid hl
  have F0 := Lib.hid (five_new W (.string ⟨#[]⟩) (.int .i64 0) (.int .i64 0) (.int .i64 0) (.int .i64 0) 26)
  have B0 := Lib.hid (below_box W (.cells #[.string ⟨#[]⟩, .int .i64 0, .int .i64 0, .int .i64 0, .int .i64 0] 26))
  clear hN hbo
  by_cases h5 : len < 5
  · have h5' : (len : Int) < 5 := by omega
    have HR := Lib.hid (cmdFrom_no (b := zs) (by unfold fromOk; rw [decide_eq_false (by have := HE.out; omega)]; rfl))
    obtain ⟨f0, f1, f2, f3, f4, g0, g1, g2, g3, g4, -⟩ := F0.out
    go_enter Try.func15, Try.ntmps15
    go_wp2
    rw [HR.out]
    exact bodyPost_ret (cmdpair_results _ rfl _ W.heap.size zeroC _ _ rfl rfl F0.out) rfl ⟨rfl, B0.out⟩
  · have h5' : ¬ (len : Int) < 5 := by omega
    cases bo with
    | false =>
      have HR := Lib.hid (cmdFrom_no (b := zs) (by unfold fromOk; rw [HBK.out, Bool.false_and, Bool.and_false]))
      obtain ⟨f0, f1, f2, f3, f4, g0, g1, g2, g3, g4, -⟩ := F0.out
      go_enter Try.func15, Try.ntmps15
      go_wp2_with fail
      refine (HBO.out _ B0.out).mono ?_
      rintro e W1 ⟨rfl, rfl⟩
      go_wp2
      rw [HR.out]
      exact bodyPost_ret (cmdpair_results _ rfl _ W.heap.size zeroC _ _ rfl rfl F0.out) rfl ⟨rfl, B0.out⟩
    | true =>
      have HLN := Lib.hid (show 5 ≤ zs.length ∧ zs.length ≤ 16 from ⟨by have := HE.out; omega, (bodyOk_len HBK.out).2⟩)
      have hl16 : (len : Int) ≤ 16 := by have := HE.out; have := HLN.out; omega
      obtain ⟨cv, hcv⟩ : ∃ b, validC (cmdOf zs) = b := ⟨_, rfl⟩
      have HCV := Lib.hid hcv
      clear hcv
      go_enter Try.func15, Try.ntmps15
      go_wp2_with fail
      refine (HBO.out _ B0.out).mono ?_
      rintro e W1 ⟨rfl, rfl⟩
      go_wp2
      go_loopw [4, 5] (fun s i wr => FromRel zs W s i wr) (fun _ i _ => zs.length - (intOf i).toNat)
      case atStart => exact ⟨4, rfl, Nat.le_refl _, by have := HLN.out; omega, by rw [show (zs.take 4).drop 4 = [] by simp]; rfl, F0, B0⟩
      case round =>
        obtain ⟨n, rfl, h4, hn, rfl, HF, HB⟩ := hrel
        by_cases hlt : n < zs.length
        · have hlt' : (n : Int) < len := by have := HE.out; omega
          have hw1 : IntKind.i64.wrap ((n : Int) + 1) = (n : Int) + 1 := IntWalk.i64_in _ (by have := HLN.out; omega)
          obtain ⟨b, off, z, rfl, hat, c0⟩ := (HN.out.keep HB.out).at (i := n) (by have := HE.out; omega)
          have HAT := Lib.hid hat
          obtain ⟨z0, z1⟩ := bodyOk_byte HBK.out (List.mem_of_getElem? hat)
          have hw2 : IntKind.u8.wrap z = z := by show z % 256 = z; omega
          have HC := fun W => convN W z 5
          obtain ⟨tx, htx⟩ : ∃ tx, textI ((zs.take n).drop 4) = tx := ⟨_, rfl⟩
          have hts : tx.size ≤ 16 := by rw [← htx]; unfold textI; simp [ByteArray.size]; omega
          rw [htx]
          have y1 : ¬ 9223372036854775807 < tx.size + (⟨#[UInt8.ofNat z.toNat]⟩ : ByteArray).size := by rw [show (⟨#[UInt8.ofNat z.toNat]⟩ : ByteArray).size = 1 from rfl]; omega
          have HTX := Lib.hid htx
          have HLT := Lib.hid hlt
          have H4 := Lib.hid h4
          clear hn hlt hat h4 htx hts
          go_wp2
          refine ⟨⟨n + 1, by go_num, Nat.le_succ_of_le H4.out, HLT.out, by rw [drop_take_ints HAT.out H4.out, HTX.out]; rfl, HF.out.alloc _, HB.out.alloc HB.out.size _⟩, ?_⟩
          have := HLT.out
          simp [intOf]
          omega
        · have hnl : n = zs.length := by omega
          have hge : ¬ (n : Int) < len := by have := HE.out; omega
          obtain ⟨b, off, z0, rfl, hz0, c0⟩ := (HN.out.keep HB.out).at (i := 0) (by have := HE.out; have := HLN.out; omega)
          obtain ⟨_, _, z1, e1, hz1, c1⟩ := (HN.out.keep HB.out).at (i := 1) (by have := HE.out; have := HLN.out; omega)
          cases e1
          obtain ⟨_, _, z2, e2, hz2, c2⟩ := (HN.out.keep HB.out).at (i := 2) (by have := HE.out; have := HLN.out; omega)
          cases e2
          obtain ⟨_, _, z3, e3, hz3, c3⟩ := (HN.out.keep HB.out).at (i := 3) (by have := HE.out; have := HLN.out; omega)
          cases e3
          simp only [Nat.add_zero] at c0
          obtain ⟨px, hpx⟩ : ∃ px, textI ((zs.take n).drop 4) = px := ⟨_, rfl⟩
          rw [hpx]
          have HCC := Lib.hid (show cmdOf zs = ⟨px, z0, z1, z2, z3⟩ by
            rw [hnl, List.take_of_length_le (Nat.le_refl _)] at hpx
            unfold cmdOf
            rw [hpx, List.getD_eq_getElem?_getD, List.getD_eq_getElem?_getD, List.getD_eq_getElem?_getD, List.getD_eq_getElem?_getD, hz0, hz1, hz2, hz3]
            rfl)
          have hl1 : (1 : Int) < len := by omega
          have hl2 : (2 : Int) < len := by omega
          have hl3 : (3 : Int) < len := by omega
          have hl0 : (0 : Int) < len := by omega
          have hl0n : 0 < len := by omega
          have HV := Lib.hid (fun W' => show Calls Try.prog 32 #[cmdV ⟨px, z0, z1, z2, z3⟩] W' (BoolPost cv W') by
            rw [← HCC.out, ← HCV.out]
            refine specCmdValid_c (cmdOf zs) ?_ W'
            have := HLN.out
            unfold cmdOf textI
            simp [ByteArray.size]
            omega)
          clear hpx hz0 hz1 hz2 hz3 hn hlt
          unfold cmdV at HV
          simp only at HV
          have HS0 : Hid (FPar W b off z0 z1 z2 z3 wr) := ⟨c0, c1, c2, c3, HF.out, HB.out⟩
          have HS1 := Lib.hid (HS0.out.next (.cells #[.string ⟨#[]⟩, .int .i64 0, .int .i64 0, .int .i64 0, .int .i64 0] 26))
          have HS2 := Lib.hid (HS0.out.next (.cells #[.string px, .int .i64 z0, .int .i64 z1, .int .i64 z2, .int .i64 z3] 26))
          have d0 := fun o => cell_kept (below_box wr o) c0
          have d1 := fun o => cell_kept (below_box wr o) c1
          have d2 := fun o => cell_kept (below_box wr o) c2
          have d3 := fun o => cell_kept (below_box wr o) c3
          go_upto_region 8 with (fail)
          go_region_held3 (fun w' => w'.cell? ⟨b, off, none⟩ = some (.int .i64 z0) ∧ w'.cell? ⟨b, off + 1, none⟩ = some (.int .i64 z1) ∧ w'.cell? ⟨b, off + 2, none⟩ = some (.int .i64 z2) ∧ w'.cell? ⟨b, off + 3, none⟩ = some (.int .i64 z3) ∧ Five w' W.heap.size (.string ⟨#[]⟩) (.int .i64 0) (.int .i64 0) (.int .i64 0) (.int .i64 0) ∧ Below W.heap.size W w')
            (first | exact HS0.out.drew | exact HS1.out.drew | exact HS2.out.drew)
            (fail)
          rename_i hHeld
          have HF5 : Hid (Five (wr.alloc (.cells #[.string px, .int .i64 z0, .int .i64 z1, .int .i64 z2, .int .i64 z3] 26)).drew wr.heap.size (.string px) (.int .i64 z0) (.int .i64 z1) (.int .i64 z2) (.int .i64 z3)) := Lib.hid (five_new wr _ _ _ _ _ 26).drew
          have HT5 := Lib.hid HS2.out.drew.2.2.2.2.1
          have HB5 := Lib.hid HS2.out.drew.2.2.2.2.2
          clear hHeld HS0 HS1 HS2 c0 c1 c2 c3 d0 d1 d2 d3
          generalize (wr.alloc (.cells #[.string px, .int .i64 z0, .int .i64 z1, .int .i64 z2, .int .i64 z3] 26)).drew = W5 at HF5 HT5 HB5 ⊢
          generalize wr.heap.size = n4 at HF5 ⊢
          have HTL := HT5.out
          obtain ⟨c0, c1, c2, c3, c4, -⟩ := HF5.out
          go_wp2_with fail
          refine (HV.out _).mono ?_
          rintro e W6 ⟨rfl, hb6⟩
          have HF6 := Lib.hid (HF5.out.below hb6)
          have HT6 := Lib.hid (HT5.out.below hb6)
          have HB6 := Lib.hid (below_next HB5.out hb6)
          clear hb6 c0 c1 c2 c3 c4
          obtain ⟨t0, t1, t2, t3, t4, g0, g1, g2, g3, g4, -⟩ := HT6.out
          cases cv with
          | false =>
            have HR := Lib.hid (cmdFrom_no (b := zs) (by unfold fromOk; rw [HCV.out, Bool.and_false, Bool.and_false]))
            go_wp2
            rw [HR.out]
            exact cmdpair_ret _ rfl (c' := zeroC) rfl HT6.out HB6.out rfl rfl
          | true =>
            have HR := Lib.hid (show cmdFrom zs = (⟨px, z0, z1, z2, z3⟩, true) by rw [cmdFrom_yes ((fromOk_iff zs).2 ⟨HLN.out.1, HBK.out, HCV.out⟩), HCC.out])
            obtain ⟨c0, c1, c2, c3, c4, -⟩ := HF6.out
            go_wp2
            rw [HR.out]
            exact cmdpair_ret _ rfl rfl HT6.out HB6.out rfl rfl

end Go.Proofs.Ytoipbocbgadjbaa
