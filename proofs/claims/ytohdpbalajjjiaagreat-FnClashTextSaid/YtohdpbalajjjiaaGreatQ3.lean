/-
  Texts of this proof, one behind the other: Lv, Nf.
-/
import Derived.Test.YtohdpbalajjjiaaGreatLg
import Derived.Test.YtohdpbalajjjiaaGreatQ11
import Derived.Test.YtohdpbalajjjiaaGreatQ2
import Derived.Test.YtohdpbalajjjiaaGreatNe
/-
  WALKS: logs of the model: spec.LogValid, LogApply, LogFits, LogUndo.
-/
namespace Go.Proofs.YtohdpbalajjjiaaGreat
open Go.RowKit
set_option linter.unusedVariables false

def ValidRel (cs : List Cmd) (len : Nat) (W : World) (i : Value) (wr : World) : Prop :=
  ∃ n : Nat, i = .int .i64 n ∧ n ≤ len ∧ Hid (∀ (j : Nat) (c : Cmd), j < n → cs[j]? = some c → validC c = true) ∧ Hid (Below W.heap.size W wr)

set_option maxHeartbeats 2000000 in
set_option maxRecDepth 100000 in
theorem specLogValid_c (a : Option Addr) (len cap : Nat) (cs : List Cmd) (hl : len ≤ 2097152) (hs : ShortC 2097152 cs) (W : World) (hN : CmdsAt W a len cs) :
    Calls Tryz.prog 62 #[.slice a len cap] W (BoolPost (validL cs) W) := by
  have HN := Lib.hid hN
  have HE := Lib.hid hN.1
  have HS := Lib.hid hs
  clear hN hs
  go_enter Tryz.func62, Tryz.ntmps62
  go_wp2
  go_loopw [3] (fun i wr => ValidRel cs len W i wr) (fun i _ => len - (intOf i).toNat)
  case atStart => exact ⟨0, rfl, by omega, Lib.hid (fun j c h _ => absurd h (by omega)), Below.refl _ _⟩
  case round =>
    obtain ⟨i, rfl, hi, HP, HB⟩ := hrel
    by_cases hlt : i < len
    · obtain ⟨b, off, c, rfl, hn, c0, c1, c2, c3, c4⟩ := (HN.out.keep HB.out).node hlt
      have hlt' : (i : Int) < len := by omega
      have HLT := Lib.hid hlt
      obtain ⟨vc, hvc⟩ : ∃ vc, validC c = vc := ⟨_, rfl⟩
      have HC := Lib.hid (fun W' => show Calls Tryz.prog 30 #[cmdV c] W' (BoolPost vc W') by rw [← hvc]; exact specCmdValid_c c (HS.out.at hn) W')
      have HV := Lib.hid hvc
      have HNN := Lib.hid hn
      obtain ⟨p, fk, fv, tk, tv⟩ := c
      unfold cmdV at HC
      simp only at c0 c1 c2 c3 c4 HC
      clear hi hlt hn hvc
      go_wp2_with fail
      refine (HC.out _).mono ?_
      rintro e W2 ⟨rfl, hb2⟩
      have HB2 := Lib.hid (below_next HB.out hb2)
      clear c0 c1 c2 c3 c4 hb2
      cases vc with
      | false =>
        go_wp2
        go_ret
        exact ⟨ret_bool (validL_one HNN.out HV.out).symm, HB2.out⟩
      | true =>
        go_wp2
        go_roundw
        case rel =>
          refine ⟨i + 1, by go_num, by have := HLT.out; omega, Lib.hid (fun j c hj hc => ?_), HB2⟩
          by_cases hji : j < i
          · exact HP.out j c hji hc
          · have : j = i := by omega
            subst this
            rw [HNN.out] at hc
            obtain rfl := Option.some.inj hc
            exact HV.out
        case measure => have := HLT.out; simp [intOf]; omega
    · have hge : (len : Int) ≤ i := by omega
      have HR := Lib.hid (validL_short (cs := cs) (fun j c hc => HP.out j c (by have h1 := (List.getElem?_eq_some_iff.1 hc).1; have h2 := HE.out; omega) hc))
      have HQ := Lib.hid (show decide (cs.length ≤ 20) = decide ((len : Int) ≤ 20) by rw [HE.out]; exact decide_eq_decide.2 (by omega))
      clear hi hlt
      go_wp2
      go_ret
      exact ⟨ret_bool (HR.out.trans HQ.out).symm, HB.out⟩

/-- What LogApply tells. -/
def LogPost (r : List Nd × Int) (W : World) (e : Ending) (w' : World) : Prop :=
  ∃ sl, e = .returned (.tuple #[sl, .int .i64 r.2]) ∧ w'.ownsRow W.heap.size 125 3 sl r.1.length (flatN r.1) ∧ Below W.heap.size W w'

theorem log_end {r : List Nd × Int} {W w' : World} {sl : Value} {out : List Nd} {n : Int} (h : r = (out, n)) (ho : w'.ownsRow W.heap.size 125 3 sl out.length (flatN out)) (hB : Below W.heap.size W w') : LogPost r W (.returned (.tuple #[sl, .int .i64 n])) w' := by
  subst h
  exact ⟨sl, rfl, ho, hB⟩

def ApplyRel (ns : List Nd) (cs : List Cmd) (len : Nat) (W : World) (o i : Value) (wr : World) : Prop :=
  ∃ (n : Nat) (acc : List Nd), i = .int .i64 n ∧ n ≤ len ∧ wr.ownsRow W.heap.size 125 3 o acc.length (flatN acc) ∧ Hid (acc.length ≤ 10) ∧ Hid (Short 2097152 acc) ∧ Hid (runL ns (cs.take n) = (acc, n)) ∧ Hid (Below W.heap.size W wr)

theorem apply_short2 {ns out : List Nd} {c : Cmd} {m : Nat} (h : applyC ns c = (out, true)) (hs : Short m ns) (hp : c.p.size ≤ m) : Short m out ∧ out.length ≤ 10 := by
  obtain ⟨_, _, _, h4⟩ := applyC_some h
  obtain ⟨_, _, _, h5, h6⟩ := treePut_some h4
  refine ⟨?_, ((validT_iff out).1 h6).2.2⟩
  rw [h5]
  exact short_put hs hp

set_option maxHeartbeats 4000000 in
set_option maxRecDepth 100000 in
theorem specLogApply_c (a1 : Option Addr) (len1 cap1 : Nat) (ns : List Nd) (a2 : Option Addr) (len2 cap2 : Nat) (cs : List Cmd) (hl1 : len1 ≤ 2097152) (hl2 : len2 ≤ 2097152) (hs1 : Short 2097152 ns) (hs2 : ShortC 2097152 cs) (W : World) (h1 : NodesAt W a1 len1 ns) (h2 : CmdsAt W a2 len2 cs) :
    Calls Tryz.prog 43 #[.slice a1 len1 cap1, .slice a2 len2 cap2] W (LogPost (logApply ns cs) W) := by
  obtain ⟨vt, hvt⟩ : ∃ vt, validT ns = vt := ⟨_, rfl⟩
  obtain ⟨vl, hvl⟩ : ∃ vl, validL cs = vl := ⟨_, rfl⟩
  have HV := Lib.hid (show Calls Tryz.prog 61 #[.slice a1 len1 cap1] W (BoolPost vt W) by rw [← hvt]; exact specTreeValid_c a1 len1 cap1 ns hl1 hs1 W h1)
  have HL := Lib.hid (fun W' (hb : Below W.heap.size W W') => show Calls Tryz.prog 62 #[.slice a2 len2 cap2] W' (BoolPost vl W') by rw [← hvl]; exact specLogValid_c a2 len2 cap2 cs hl2 hs2 W' (h2.keep hb))
  have H1 := Lib.hid h1
  have H2 := Lib.hid h2
  have HS1 := Lib.hid hs1
  have HS2 := Lib.hid hs2
  have HE2 := Lib.hid h2.1
  cases vt with
  | false =>
    have HR := Lib.hid (logApply_bad (cs := cs) (.inl hvt))
    clear h1 h2 hs1 hs2 hvt hvl
    go_enter Tryz.func43, Tryz.ntmps43
    go_wp2_with fail
    refine HV.out.mono ?_
    rintro e W1 ⟨rfl, hb1⟩
    go_wp2
    go_ret2
    exact log_end HR.out (World.ownsRow_lit (e := 125) (size := 3) W1 #[] 0 hb1.size (by simp [maxLen]) rfl) (below_next hb1 (below_box _ _))
  | true =>
    cases vl with
    | false =>
      have HR := Lib.hid (logApply_bad (ns := ns) (.inr hvl))
      clear h1 h2 hs1 hs2 hvt hvl
      go_enter Tryz.func43, Tryz.ntmps43
      go_wp2_with fail
      refine HV.out.mono ?_
      rintro e W1 ⟨rfl, hb1⟩
      have B1 := Lib.hid hb1
      clear hb1
      go_wp2_with fail
      refine (HL.out _ B1.out).mono ?_
      rintro e W2 ⟨rfl, hb2⟩
      have B2 := Lib.hid (below_next B1.out hb2)
      clear hb2
      go_wp2
      go_ret2
      exact log_end HR.out (World.ownsRow_lit (e := 125) (size := 3) W2 #[] 0 B2.out.size (by simp [maxLen]) rfl) (below_next B2.out (below_box _ _))
    | true =>
      have HR := Lib.hid (logApply_ok hvt hvl)
      have HVL := Lib.hid hvl
      have HLN := Lib.hid (show ns.length ≤ 10 from ((validT_iff ns).1 hvt).2.2)
      have HRN := Lib.hid (show runL ns (cs.take 0) = (ns, 0) from rfl)
      clear h1 h2 hs1 hs2 hvt hvl
      go_enter Tryz.func43, Tryz.ntmps43
      go_wp2_with fail
      refine HV.out.mono ?_
      rintro e W1 ⟨rfl, hb1⟩
      have B1 := Lib.hid hb1
      clear hb1
      go_wp2_with fail
      refine (HL.out _ B1.out).mono ?_
      rintro e W2 ⟨rfl, hb2⟩
      have B2 := Lib.hid (below_next B1.out hb2)
      clear hb2
      go_wp2_with (at_builtin; refine wpList_append_nodes rfl _ _ rfl W.heap.size _ [] rfl (World.ownsRow_lit (e := 125) (size := 3) W2 #[] 0 B2.out.size (by simp [maxLen]) rfl) _ _ _ _ rfl (H1.out.keep (below_next B2.out (below_box _ _))) (by have := HLN.out; simp; omega) (by have := B2.out.size; simp; omega) ?_; intro v3 w3 ho3 hg3)
      have B3 := Lib.hid ((B2.out.alloc B2.out.size (.cells #[] 125)).grown hg3 (by have := B2.out.size; simp; omega) (fun k e => by cases e; exact B2.out.size))
      have ho3' : w3.ownsRow W.heap.size 125 3 v3 ns.length (flatN ns) := by simpa using ho3
      clear hg3 ho3
      go_loopw [6, 7] (fun o i wr => ApplyRel ns cs len2 W o i wr) (fun _ i _ => len2 - (intOf i).toNat)
      case atStart => exact ⟨0, ns, rfl, by omega, ho3', HLN, HS1, HRN, B3⟩
      case round =>
        obtain ⟨i, acc, rfl, hi, hown, HAL, HAS, HRUN, HB⟩ := hrel
        by_cases hlt : i < len2
        · obtain ⟨b, off, c, rfl, hn, c0, c1, c2, c3, c4⟩ := (H2.out.keep HB.out).node hlt
          have hlt' : (i : Int) < len2 := by omega
          have HLT := Lib.hid hlt
          have HNN := Lib.hid hn
          obtain ⟨ao, co, rfl, hno⟩ := nodes_of_own hown
          obtain ⟨⟨out, ok⟩, hr⟩ : ∃ r, applyC acc c = r := ⟨_, rfl⟩
          have HA := Lib.hid (show Calls Tryz.prog 63 #[.slice ao acc.length co, cmdV c] wr (fun e w' => ∃ sl, e = .returned (.tuple #[sl, .bool ok]) ∧ w'.ownsRow wr.heap.size 125 3 sl out.length (flatN out) ∧ Below wr.heap.size wr w') by
            have := specCmdApply_c ao acc.length co acc c (by have := HAL.out; omega) HAS.out (HS2.out.at hn) wr hno
            rw [hr] at this; exact this)
          have HRR := Lib.hid hr
          have HPC := Lib.hid (HS2.out.at hn)
          have HO := Lib.hid hown
          obtain ⟨p, fk, fv, tk, tv⟩ := c
          unfold cmdV at HA
          simp only at c0 c1 c2 c3 c4 HA HPC
          clear hi hlt hn hr hown hno ho3'
          go_wp2_with fail
          refine HA.out.mono ?_
          rintro e W4 ⟨sl, rfl, ho4, hb4⟩
          have HB4 := Lib.hid (below_next HB.out hb4)
          have HO4 := Lib.hid (own_mono ho4 HB.out.size)
          have HOO := Lib.hid (own_below HO.out hb4)
          clear c0 c1 c2 c3 c4 ho4 hb4
          cases ok with
          | false =>
            have HR2 := Lib.hid (run_stop HRUN.out HNN.out (by rw [HRR.out]))
            go_wp2
            go_ret2
            exact log_end (by rw [HR.out, HR2.out]) HOO.out HB4.out
          | true =>
            have HR2 := Lib.hid (run_step HRUN.out HNN.out HRR.out)
            have HSS := Lib.hid (apply_short2 HRR.out HAS.out HPC.out)
            go_wp2
            go_roundw
            case rel => exact ⟨i + 1, out, by go_num, by have := HLT.out; omega, HO4.out, HSS.out.2, HSS.out.1, HR2, HB4⟩
            case measure => have := HLT.out; simp [intOf]; omega
        · have hge : (len2 : Int) ≤ i := by omega
          have hie : i = len2 := by omega
          subst hie
          have HR2 := Lib.hid (show logApply ns cs = (acc, (i : Int)) by
            have := HRUN.out
            rw [← HE2.out] at this ⊢
            rw [HR.out, run_whole this])
          have HO := Lib.hid hown
          clear hi hlt hown ho3'
          go_wp2
          go_ret2
          exact log_end HR2.out HO.out HB.out

end Go.Proofs.YtohdpbalajjjiaaGreat

/-
  WALKS: canonical logs of the model: spec.l14Ends, l14Before, l14Put, l14Sort, l14First.
-/
namespace Go.Proofs.YtohdpbalajjjiaaGreat
open Go.RowKit
set_option linter.unusedVariables false

set_option maxHeartbeats 1000000 in
set_option maxRecDepth 100000 in
theorem specEnds_c (c : Cmd) (W : World) : Calls Tryz.prog 84 #[cmdV c] W (BoolPost (endsC c) W) := by
  obtain ⟨p, fk, fv, tk, tv⟩ := c
  unfold cmdV
  have HB := Lib.hid (below_box W (.cells #[.string p, .int .i64 fk, .int .i64 fv, .int .i64 tk, .int .i64 tv] 33))
  simp only
  by_cases h : tk = 0
  · subst h
    go_enter Tryz.func84, Tryz.ntmps84
    go_wp2
    go_ret
    exact ⟨ret_bool (by unfold endsC; simp), HB.out⟩
  · have h0 : (tk == 0) = false := beq_eq_false_iff_ne.2 h
    by_cases h1 : fk = 1
    · subst h1
      go_enter Tryz.func84, Tryz.ntmps84
      go_wp2
      go_ret
      exact ⟨ret_bool (by unfold endsC; simp), HB.out⟩
    · have h2 : (fk == 1) = false := beq_eq_false_iff_ne.2 h1
      have HX := Lib.hid (show endsC ⟨p, fk, fv, tk, tv⟩ = false by unfold endsC; simp [h0, h2])
      clear h h1
      go_enter Tryz.func84, Tryz.ntmps84
      go_wp2
      go_ret
      exact ⟨ret_bool HX.out.symm, HB.out⟩

/-- Two commands in two boxes of the call's own. -/
def TwoC (W : World) (n : Nat) (c d : Cmd) : Prop :=
  W.cell? ⟨n, 0, none⟩ = some (.string c.p) ∧ W.cell? ⟨n, 1, none⟩ = some (.int .i64 c.fk) ∧ W.cell? ⟨n, 2, none⟩ = some (.int .i64 c.fv) ∧ W.cell? ⟨n, 3, none⟩ = some (.int .i64 c.tk) ∧ W.cell? ⟨n, 4, none⟩ = some (.int .i64 c.tv) ∧
  W.cell? ⟨n + 1, 0, none⟩ = some (.string d.p) ∧ W.cell? ⟨n + 1, 1, none⟩ = some (.int .i64 d.fk) ∧ W.cell? ⟨n + 1, 2, none⟩ = some (.int .i64 d.fv) ∧ W.cell? ⟨n + 1, 3, none⟩ = some (.int .i64 d.tk) ∧ W.cell? ⟨n + 1, 4, none⟩ = some (.int .i64 d.tv)

theorem TwoC.keep {W W' : World} {n : Nat} {c d : Cmd} (h : TwoC W n c d) (hb : Below W.heap.size W W') : TwoC W' n c d := by
  obtain ⟨a0, a1, a2, a3, a4, b0, b1, b2, b3, b4⟩ := h
  exact ⟨cell_kept hb a0, cell_kept hb a1, cell_kept hb a2, cell_kept hb a3, cell_kept hb a4, cell_kept hb b0, cell_kept hb b1, cell_kept hb b2, cell_kept hb b3, cell_kept hb b4⟩

theorem twoC_new (W : World) (c d : Cmd) : TwoC ((W.alloc (.cells #[.string c.p, .int .i64 c.fk, .int .i64 c.fv, .int .i64 c.tk, .int .i64 c.tv] 33)).alloc (.cells #[.string d.p, .int .i64 d.fk, .int .i64 d.fv, .int .i64 d.tk, .int .i64 d.tv] 33)) W.heap.size c d := by
  have h1 := (five_new W (.string c.p) (.int .i64 c.fk) (.int .i64 c.fv) (.int .i64 c.tk) (.int .i64 c.tv) 33).alloc (.cells #[.string d.p, .int .i64 d.fk, .int .i64 d.fv, .int .i64 d.tk, .int .i64 d.tv] 33)
  have h2 := five_new (W.alloc (.cells #[.string c.p, .int .i64 c.fk, .int .i64 c.fv, .int .i64 c.tk, .int .i64 c.tv] 33)) (.string d.p) (.int .i64 d.fk) (.int .i64 d.fv) (.int .i64 d.tk) (.int .i64 d.tv) 33
  rw [World.size_alloc] at h2
  obtain ⟨a0, a1, a2, a3, a4, -⟩ := h1
  obtain ⟨b0, b1, b2, b3, b4, -⟩ := h2
  exact ⟨a0, a1, a2, a3, a4, b0, b1, b2, b3, b4⟩

theorem bef_cases (c d : Cmd) : befC c d = if endsC c = true then (if endsC d = true then ltB d.p c.p else true) else (if endsC d = true then false else ltB c.p d.p) := by
  unfold befC
  cases endsC c <;> cases endsC d <;> rfl

theorem gtr_eq (a b : ByteArray) : (!Op.bytesLess a.toList b.toList && !(a.toList == b.toList)) = ltB b a := by
  show (!ltB a b && !(a.toList == b.toList)) = ltB b a
  cases h : ltB a b with
  | true => rw [ltB_asymm h]; rfl
  | false =>
    cases k : ltB b a with
    | true => rw [toList_ne (ltB_ne k).symm]; rfl
    | false =>
      obtain rfl := ltB_tri h k
      simp

set_option maxHeartbeats 2000000 in
set_option maxRecDepth 100000 in
theorem specBefore_c (c d : Cmd) (W : World) : Calls Tryz.prog 65 #[cmdV c, cmdV d] W (BoolPost (befC c d) W) := by
  obtain ⟨ec, hec⟩ : ∃ e, endsC c = e := ⟨_, rfl⟩
  obtain ⟨ed, hed⟩ : ∃ e, endsC d = e := ⟨_, rfl⟩
  have HC := Lib.hid (fun w => show Calls Tryz.prog 84 #[cmdV c] w (BoolPost ec w) by rw [← hec]; exact specEnds_c c w)
  have HD := Lib.hid (fun w => show Calls Tryz.prog 84 #[cmdV d] w (BoolPost ed w) by rw [← hed]; exact specEnds_c d w)
  have HR := Lib.hid (bef_cases c d)
  rw [hec, hed] at HR
  have HT := Lib.hid (twoC_new W c d)
  have HB := Lib.hid (below_next (below_box W (.cells #[.string c.p, .int .i64 c.fk, .int .i64 c.fv, .int .i64 c.tk, .int .i64 c.tv] 33)) (below_box _ (.cells #[.string d.p, .int .i64 d.fk, .int .i64 d.fv, .int .i64 d.tk, .int .i64 d.tv] 33)))
  clear hec hed
  obtain ⟨p, fk, fv, tk, tv⟩ := c
  obtain ⟨p', fk', fv', tk', tv'⟩ := d
  unfold cmdV at HC HD ⊢
  simp only at HC HD HT HB HR ⊢
  obtain ⟨a0, a1, a2, a3, a4, b0, b1, b2, b3, b4⟩ := HT.out
  have T0 := HT
  have B0 := HB
  simp only at a0 a1 a2 a3 a4 b0 b1 b2 b3 b4
  go_enter Tryz.func65, Tryz.ntmps65
  go_wp2_with fail
  refine (HC.out _).mono ?_
  rintro e W1 ⟨rfl, hb1⟩
  have T1 := Lib.hid (T0.out.keep hb1)
  have B1 := Lib.hid (below_next B0.out hb1)
  clear a0 a1 a2 a3 a4 b0 b1 b2 b3 b4 hb1
  obtain ⟨a0, a1, a2, a3, a4, b0, b1, b2, b3, b4⟩ := T1.out
  cases ec with
  | true =>
    go_wp2_with fail
    refine (HD.out _).mono ?_
    rintro e W2 ⟨rfl, hb2⟩
    have T2 := Lib.hid (T1.out.keep hb2)
    have B2 := Lib.hid (below_next B1.out hb2)
    clear a0 a1 a2 a3 a4 b0 b1 b2 b3 b4 hb2
    obtain ⟨a0, a1, a2, a3, a4, b0, b1, b2, b3, b4⟩ := T2.out
    cases ed with
    | true =>
      go_wp2
      go_ret
      exact ⟨ret_bool ((gtr_eq p p').trans (by rw [HR.out]; rfl)), B2.out⟩
    | false =>
      go_wp2_with fail
      refine (HC.out _).mono ?_
      rintro e W3 ⟨rfl, hb3⟩
      have T3 := Lib.hid (T2.out.keep hb3)
      have B3 := Lib.hid (below_next B2.out hb3)
      clear a0 a1 a2 a3 a4 b0 b1 b2 b3 b4 hb3
      obtain ⟨a0, a1, a2, a3, a4, b0, b1, b2, b3, b4⟩ := T3.out
      go_wp2_with fail
      refine (HC.out _).mono ?_
      rintro e W4 ⟨rfl, hb4⟩
      have T4 := Lib.hid (T3.out.keep hb4)
      have B4 := Lib.hid (below_next B3.out hb4)
      clear a0 a1 a2 a3 a4 b0 b1 b2 b3 b4 hb4
      obtain ⟨a0, a1, a2, a3, a4, b0, b1, b2, b3, b4⟩ := T4.out
      go_wp2
      go_ret
      exact ⟨ret_bool HR.out.symm, B4.out⟩
  | false =>
    go_wp2_with fail
    refine (HC.out _).mono ?_
    rintro e W2 ⟨rfl, hb2⟩
    have T2 := Lib.hid (T1.out.keep hb2)
    have B2 := Lib.hid (below_next B1.out hb2)
    clear a0 a1 a2 a3 a4 b0 b1 b2 b3 b4 hb2
    obtain ⟨a0, a1, a2, a3, a4, b0, b1, b2, b3, b4⟩ := T2.out
    go_wp2_with fail
    refine (HD.out _).mono ?_
    rintro e W3 ⟨rfl, hb3⟩
    have T3 := Lib.hid (T2.out.keep hb3)
    have B3 := Lib.hid (below_next B2.out hb3)
    clear a0 a1 a2 a3 a4 b0 b1 b2 b3 b4 hb3
    obtain ⟨a0, a1, a2, a3, a4, b0, b1, b2, b3, b4⟩ := T3.out
    cases ed with
    | true =>
      go_wp2_with fail
      refine (HC.out _).mono ?_
      rintro e W4 ⟨rfl, hb4⟩
      have T4 := Lib.hid (T3.out.keep hb4)
      have B4 := Lib.hid (below_next B3.out hb4)
      clear a0 a1 a2 a3 a4 b0 b1 b2 b3 b4 hb4
      obtain ⟨a0, a1, a2, a3, a4, b0, b1, b2, b3, b4⟩ := T4.out
      go_wp2
      go_ret
      exact ⟨ret_bool HR.out.symm, B4.out⟩
    | false =>
      go_wp2
      go_ret
      exact ⟨ret_bool HR.out.symm, B3.out⟩

theorem first_next {cs : List Cmd} {p : ByteArray} {i : Nat} (P : ∀ (j : Nat) (d : Cmd), j < i → cs[j]? = some d → d.p ≠ p) {d : Cmd} (hd : cs[i]? = some d) (h : d.p ≠ p) : ∀ (j : Nat) (e : Cmd), j < i + 1 → cs[j]? = some e → e.p ≠ p := by
  intro j e hj he
  by_cases hji : j < i
  · exact P j e hji he
  · have : j = i := by omega
    subst this
    rw [hd] at he
    obtain rfl := Option.some.inj he
    exact h

set_option maxHeartbeats 1000000 in
set_option maxRecDepth 100000 in
theorem specFirst_c (a : Option Addr) (len cap : Nat) (cs : List Cmd) (at_ : Nat) (c : Cmd) (hc : cs[at_]? = some c) (hl : len ≤ 2097152) (W : World) (hN : CmdsAt W a len cs) :
    Calls Tryz.prog 66 #[.slice a len cap, .int .i64 at_] W (BoolPost (firstK cs at_ c.p) W) := by
  have hat : at_ < len := by have := (List.getElem?_eq_some_iff.1 hc).1; have := hN.1; omega
  obtain ⟨b, off, c', rfl, hc', e0, -⟩ := hN.node hat
  obtain rfl : c' = c := by rw [hc] at hc'; exact (Option.some.inj hc').symm
  have HN := Lib.hid hN
  have HAT := Lib.hid hat
  have HC := Lib.hid e0
  have hat' : (at_ : Int) < len := by omega
  have hat0 : (0 : Int) ≤ at_ := by omega
  have hl' : (len : Int) ≤ 2097152 := by omega
  clear hN hat hc hc' e0
  go_enter Tryz.func66, Tryz.ntmps66
  go_wp2
  go_loopw [5] (fun i wr => ∃ n : Nat, i = .int .i64 n ∧ n ≤ at_ ∧ Hid (Below W.heap.size W wr) ∧ Hid (∀ (j : Nat) (d : Cmd), j < n → cs[j]? = some d → d.p ≠ c'.p)) (fun i _ => at_ - (intOf i).toNat)
  case atStart => exact ⟨0, rfl, Nat.zero_le _, Below.refl _ _, Lib.hid (fun j d h _ => absurd h (by omega))⟩
  case round =>
    obtain ⟨n, rfl, hn, HB, HP⟩ := hrel
    by_cases hlt : n < at_
    · have hlt' : (n : Int) < at_ := by omega
      have hnl : (n : Int) < len := by omega
      have hw1 : IntKind.i64.wrap ((n : Int) + 1) = (n : Int) + 1 := IntWalk.i64_in _ (by omega)
      have HLT := Lib.hid hlt
      obtain ⟨b', off', d, hbb, hd, d0, -⟩ := (HN.out.keep HB.out).node (i := n) (by have := HAT.out; omega)
      cases hbb
      have e0 := cell_kept HB.out HC.out
      have HB2 : Hid (Below W.heap.size W wr.drew) := HB.out.drew
      by_cases hp : d.p = c'.p
      · have heq : (d.p.toList == c'.p.toList) = true := by rw [hp]; simp
        have HX := Lib.hid (first_no hd hlt hp)
        obtain ⟨q, fk, fv, tk, tv⟩ := d
        simp only at d0 heq
        clear hn hlt hd hp
        go_upto_region 4 with (fail)
        go_region
        all_goals (try go_wp2)
        all_goals go_ret
        all_goals (exact ⟨ret_bool HX.out.symm, HB2.out⟩)
      · have heq : (d.p.toList == c'.p.toList) = false := toList_ne hp
        have HPN := Lib.hid (first_next HP.out hd hp)
        obtain ⟨q, fk, fv, tk, tv⟩ := d
        simp only at d0 heq
        clear hn hlt hd hp
        go_upto_region 4 with (fail)
        go_region
        go_wp2
        go_roundw
        case rel => exact ⟨n + 1, by go_num, by have := HLT.out; omega, HB2, HPN⟩
        case measure => have := HLT.out; simp [intOf]; omega
    · have hge : (at_ : Int) ≤ n := by omega
      have HX := Lib.hid (first_yes (cs := cs) (i := at_) (p := c'.p) (fun j d hj hd => HP.out j d (by omega) hd))
      clear hn hlt
      go_wp2
      go_ret
      exact ⟨ret_bool HX.out.symm, HB.out⟩

end Go.Proofs.YtohdpbalajjjiaaGreat
