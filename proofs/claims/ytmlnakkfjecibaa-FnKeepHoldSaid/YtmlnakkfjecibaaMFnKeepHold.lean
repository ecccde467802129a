/-
  laws.FnKeepHold returns true for every input, and leaves its arguments as they were.
  Conditions: none.
-/
import Derived.Test.YtmlnakkfjecibaaRows
import Derived.WalkKit
import Derived.ProofKit
import Derived.OpenShut
import Derived.ShutString
import Derived.ChangeOld
import Derived.Below
import Derived.Test.YtmlnakkfjecibaaQ7
import Derived.Test.YtmlnakkfjecibaaQ9
import Derived.Test.YtmlnakkfjecibaaZeq
import Derived.Test.YtmlnakkfjecibaaQ10
import Derived.Test.YtmlnakkfjecibaaQ5
namespace Go.Proofs.Ytmlnakkfjecibaa.fnKeepHold
open Go.ChangeShapes Go.WideShapes Go.ChangeAt Go.RowKit
open Go.ChangeMaps (open_string shut_string)
set_option linter.unusedVariables false

theorem own : ownKnob Try.prog.godebug = none := by kernel_rfl
theorem laidOut : laidOutB Try.prog = true := by kernel_rfl

theorem hold_len (cs : List Cmd) (igs : List ByteArray) : (holdL cs igs).length ≤ cs.length := by
  unfold holdL
  split
  · exact List.length_filter_le _ _
  · exact Nat.zero_le _
theorem keep_hold_has {cs : List Cmd} {igs : List ByteArray} (h : validL cs = true) (hi : igV igs = true) {c : Cmd} (hc : c ∈ cs) : hasC (keepL cs igs) c = !hasC (holdL cs igs) c := by
  have hk := keep_or_hold h hi hc
  cases h1 : hasC (holdL cs igs) c with
  | true =>
    have h2 := hasC_iff.1 h1
    cases h3 : hasC (keepL cs igs) c with
    | false => rfl
    | true => exact absurd h2 (hk.1 (hasC_iff.1 h3))
  | false =>
    have h2 : ¬ c ∈ holdL cs igs := fun k => by rw [hasC_iff.2 k] at h1; cases h1
    exact hasC_iff.2 (hk.2 h2)

set_option maxHeartbeats 4000000 in
set_option maxRecDepth 100000 in
theorem walk (a0 : Option Addr) (len0 cap0 : Nat) (z0 : List Int) (w : World) (w0 : IsRow .u8 w a0 len0 cap0 z0) :
    Calls Try.prog 4 #[.slice a0 len0 cap0] w fun e w' => e = .returned (.bool true) ∧ Below w.heap.size w w' := by
  by_cases h : len0 ≤ 1048576
  · have hl : (len0 : Int) ≤ 1048576 := by omega
    have HD := Lib.hid (drawFilterKeep_c a0 len0 cap0 z0 w w0)
    clear h w0
    go_enter Try.func4, Try.ntmps4
    go_wp2_with fail
    refine HD.out.mono ?_
    rintro e W1 ⟨v1, cs, v2, igs, rfl, o1, l1, s1, o2, l2, s2, hB⟩
    obtain ⟨a, c1, rfl, hA⟩ := cmds_of_own o1
    obtain ⟨b, c2, rfl, hG⟩ := texts_of_own o2
    have HBL := Lib.hid hB
    obtain ⟨kk, hkk⟩ : ∃ x, keepL cs igs = x := ⟨_, rfl⟩
    have HI := Lib.hid (show Calls Try.prog 13 #[.slice a cs.length c1, .slice b igs.length c2] W1 (CmdsPost kk W1) by rw [← hkk]; exact implKeep_c a cs.length c1 cs b igs.length c2 igs (by omega) (by omega) (s1.mono (by omega)) (s2.mono (by omega)) W1 hA hG)
    have HS := Lib.hid (fun W' (hb : Below W1.heap.size W1 W') => show Calls Try.prog 14 #[.slice a cs.length c1, .slice b igs.length c2] W' (CmdsPost kk W') by rw [← hkk]; exact specKeep_c a cs.length c1 cs b igs.length c2 igs (by omega) (by omega) (s1.mono (by omega)) (s2.mono (by omega)) W' (hA.keep hb) (hG.keep hb))
    have HKL := Lib.hid (show kk.length ≤ 21 by rw [← hkk]; have := keep_len cs igs; omega)
    have HKK := Lib.hid hkk
    have HLL := Lib.hid (And.intro l1 l2)
    have HAS := Lib.hid hA
    have HGS := Lib.hid hG
    have HSH := Lib.hid (And.intro s1 s2)
    obtain ⟨u, hu⟩ : ∃ u, validL cs = u := ⟨_, rfl⟩
    obtain ⟨v, hv⟩ : ∃ v, igV igs = v := ⟨_, rfl⟩
    have HU := Lib.hid (fun W' (hb : Below W1.heap.size W1 W') => show Calls Try.prog 17 #[.slice a cs.length c1] W' (BoolPost u W') by rw [← hu]; exact specLogValid_c a cs.length c1 cs (by omega) (s1.mono (by omega)) W' (hA.keep hb))
    have HV := Lib.hid (fun W' (hb : Below W1.heap.size W1 W') => show Calls Try.prog 18 #[.slice b igs.length c2] W' (BoolPost v W') by rw [← hv]; exact specIgnores_c b igs.length c2 igs (by omega) (s2.mono (by omega)) W' (hG.keep hb))
    have HUV := Lib.hid (And.intro hu hv)
    obtain ⟨hh, hhh⟩ : ∃ x, holdL cs igs = x := ⟨_, rfl⟩
    have HHI := Lib.hid (fun W' (hb : Below W1.heap.size W1 W') => show Calls Try.prog 19 #[.slice a cs.length c1, .slice b igs.length c2] W' (CmdsPost hh W') by rw [← hhh]; exact implHold_c a cs.length c1 cs b igs.length c2 igs (by omega) (by omega) (s1.mono (by omega)) (s2.mono (by omega)) W' (hA.keep hb) (hG.keep hb))
    have HMT := Lib.hid (show u = true → v = true → (∀ (n : Nat) (c : Cmd), cs[n]? = some c → hasC kk c = !hasC hh c) ∧ kk.length + hh.length = cs.length by
      intro e1 e2
      rw [← hkk, ← hhh]
      exact ⟨fun n c hc => keep_hold_has (hu.trans e1) (hv.trans e2) (List.mem_of_getElem? hc), keep_hold_len (hu.trans e1) (hv.trans e2)⟩)
    have HHL := Lib.hid (show hh.length ≤ 21 by rw [← hhh]; have := hold_len cs igs; omega)
    clear o1 l1 s1 o2 l2 s2 hB hA hG hkk hu hv hhh
    go_wp2_with fail
    refine HI.out.mono ?_
    rintro e W2 ⟨⟨v3, rfl, o3⟩, hb2⟩
    obtain ⟨a3, c3, rfl, h3⟩ := cmds_of_own o3
    have B2 := Lib.hid hb2
    have HN2 := Lib.hid h3
    clear o3 h3 hb2
    go_wp2_with fail
    refine (HS.out _ B2.out).mono ?_
    rintro e W3 ⟨⟨v4, rfl, o4⟩, hb3⟩
    obtain ⟨a4, c4, rfl, h4⟩ := cmds_of_own o4
    have B3 := Lib.hid (below_next B2.out hb3)
    have HN3 := Lib.hid (HN2.out.keep hb3)
    have HSL := Lib.hid (fun W' (hb : Below W3.heap.size W3 W') => sameLog_c a3 a4 kk.length c3 c4 kk (by have := HKL.out; omega) W' ((HN2.out.keep hb3).keep hb) (h4.keep hb))
    have hL : (kk.length : Int) ≤ 21 := by have := HKL.out; omega
    clear o4 h4 hb3
    go_wp2_with fail
    refine (HSL.out _ (Below.refl _ _)).mono ?_
    rintro e W4 ⟨rfl, hb4⟩
    have X4 := Lib.hid hb4
    clear hb4
    go_wp2_with fail
    refine (HU.out _ (below_next B3.out X4.out)).mono ?_
    rintro e W5 ⟨rfl, hb5⟩
    have X5 := Lib.hid (below_next X4.out hb5)
    clear hb5
    cases u with
    | false =>
      go_wp2_with fail
      refine (HSL.out _ X5.out).mono ?_
      rintro e W6 ⟨rfl, hb6⟩
      have X6 := Lib.hid (below_next X5.out hb6)
      clear hb6
      go_wp2
      go_ret
      exact ⟨rfl, below_next HBL.out (below_next B3.out X6.out)⟩
    | true =>
      go_wp2_with fail
      refine (HV.out _ (below_next B3.out X5.out)).mono ?_
      rintro e W6 ⟨rfl, hb6⟩
      have X6 := Lib.hid (below_next X5.out hb6)
      clear hb6
      cases v with
      | false =>
        go_wp2_with fail
        refine (HSL.out _ X6.out).mono ?_
        rintro e W7 ⟨rfl, hb7⟩
        have X7 := Lib.hid (below_next X6.out hb7)
        clear hb7
        go_wp2
        go_ret
        exact ⟨rfl, below_next HBL.out (below_next B3.out X7.out)⟩
      | true =>
        have HM2 := Lib.hid (HMT.out (by first | rfl | trivial) (by first | rfl | trivial))
        clear HMT
        go_wp2_with fail
        refine (HHI.out _ (below_next B3.out X6.out)).mono ?_
        rintro e W8 ⟨⟨v5, rfl, o5⟩, hb8⟩
        obtain ⟨a5, c5, rfl, h5⟩ := cmds_of_own o5
        have X8 := Lib.hid (below_next X6.out hb8)
        have N5 := Lib.hid h5
        have N3 := Lib.hid (HN3.out.keep X8.out)
        have NA := Lib.hid (HAS.out.keep (below_next B3.out X8.out))
        clear hb8 o5 h5
        have hcl : (cs.length : Int) ≤ 21 := by have := HLL.out; omega
        have hhl : (hh.length : Int) ≤ 21 := by have := HHL.out; omega
        go_wp2_with fail
        go_loopw [8] (fun i wr => ∃ n : Nat, i = .int .i64 n ∧ n ≤ cs.length ∧ Hid (Below W8.heap.size W8 wr)) (fun i _ => cs.length - (intOf i).toNat)
        case atStart => exact ⟨0, rfl, Nat.zero_le _, Lib.hid (Below.refl _ _)⟩
        case round =>
          obtain ⟨n, rfl, hn, HB⟩ := hrel
          by_cases hlt : n < cs.length
          · have hlt' : (n : Int) < cs.length := by omega
            have hw1 : IntKind.i64.wrap ((n : Int) + 1) = (n : Int) + 1 := IntWalk.i64_in _ (by omega)
            have HLT := Lib.hid hlt
            obtain ⟨g, off, c, hga, hc, d0, d1, d2, d3, d4⟩ := (NA.out.keep HB.out).node hlt
            obtain ⟨x, hx⟩ : ∃ x, hasC kk c = x := ⟨_, rfl⟩
            obtain ⟨y, hy⟩ : ∃ x, hasC hh c = x := ⟨_, rfl⟩
            have hxy := HM2.out.1 n c hc
            rw [hx, hy] at hxy
            have HXY := Lib.hid hxy
            have HA1 := Lib.hid (fun W' (hb : Below W8.heap.size W8 W') => show Calls Try.prog 20 #[.slice a3 kk.length c3, cmdV c] W' (BoolPost x W') by rw [← hx]; exact lawHas_c a3 kk.length c3 kk c (by have := HKL.out; omega) W' (N3.out.keep hb))
            have HA2 := Lib.hid (fun W' (hb : Below W8.heap.size W8 W') => show Calls Try.prog 20 #[.slice a5 hh.length c5, cmdV c] W' (BoolPost y W') by rw [← hy]; exact lawHas_c a5 hh.length c5 hh c (by have := HHL.out; omega) W' (N5.out.keep hb))
            clear hn hlt hc hx hy hxy
            obtain ⟨p, fk, fv, tk, tv⟩ := c
            unfold cmdV at HA1 HA2
            simp only at d0 d1 d2 d3 d4 HA1 HA2
            have HS0 := Lib.hid (show wr.drew.cell? ⟨g, off + n * 5, none⟩ = some (.string p) ∧ wr.drew.cell? ⟨g, off + n * 5 + 1, none⟩ = some (.int .i64 fk) ∧ wr.drew.cell? ⟨g, off + n * 5 + 2, none⟩ = some (.int .i64 fv) ∧ wr.drew.cell? ⟨g, off + n * 5 + 3, none⟩ = some (.int .i64 tk) ∧ wr.drew.cell? ⟨g, off + n * 5 + 4, none⟩ = some (.int .i64 tv) ∧ Below W8.heap.size W8 wr.drew from ⟨d0, d1, d2, d3, d4, HB.out.drew⟩)
            have HKP := Lib.hid (fun (u1 u2 : World) (h : u1.cell? ⟨g, off + n * 5, none⟩ = some (.string p) ∧ u1.cell? ⟨g, off + n * 5 + 1, none⟩ = some (.int .i64 fk) ∧ u1.cell? ⟨g, off + n * 5 + 2, none⟩ = some (.int .i64 fv) ∧ u1.cell? ⟨g, off + n * 5 + 3, none⟩ = some (.int .i64 tk) ∧ u1.cell? ⟨g, off + n * 5 + 4, none⟩ = some (.int .i64 tv) ∧ Below W8.heap.size W8 u1) (hb : Below u1.heap.size u1 u2) => show u2.cell? ⟨g, off + n * 5, none⟩ = some (.string p) ∧ u2.cell? ⟨g, off + n * 5 + 1, none⟩ = some (.int .i64 fk) ∧ u2.cell? ⟨g, off + n * 5 + 2, none⟩ = some (.int .i64 fv) ∧ u2.cell? ⟨g, off + n * 5 + 3, none⟩ = some (.int .i64 tk) ∧ u2.cell? ⟨g, off + n * 5 + 4, none⟩ = some (.int .i64 tv) ∧ Below W8.heap.size W8 u2 from ⟨cell_kept hb h.1, cell_kept hb h.2.1, cell_kept hb h.2.2.1, cell_kept hb h.2.2.2.1, cell_kept hb h.2.2.2.2.1, below_next h.2.2.2.2.2 hb⟩)
            have H1 := Lib.hid (fun W' (h : W'.cell? ⟨g, off + n * 5, none⟩ = some (.string p) ∧ W'.cell? ⟨g, off + n * 5 + 1, none⟩ = some (.int .i64 fk) ∧ W'.cell? ⟨g, off + n * 5 + 2, none⟩ = some (.int .i64 fv) ∧ W'.cell? ⟨g, off + n * 5 + 3, none⟩ = some (.int .i64 tk) ∧ W'.cell? ⟨g, off + n * 5 + 4, none⟩ = some (.int .i64 tv) ∧ Below W8.heap.size W8 W') => HA1.out W' h.2.2.2.2.2)
            have H2 := Lib.hid (fun W' (h : W'.cell? ⟨g, off + n * 5, none⟩ = some (.string p) ∧ W'.cell? ⟨g, off + n * 5 + 1, none⟩ = some (.int .i64 fk) ∧ W'.cell? ⟨g, off + n * 5 + 2, none⟩ = some (.int .i64 fv) ∧ W'.cell? ⟨g, off + n * 5 + 3, none⟩ = some (.int .i64 tk) ∧ W'.cell? ⟨g, off + n * 5 + 4, none⟩ = some (.int .i64 tv) ∧ Below W8.heap.size W8 W') => HA2.out W' h.2.2.2.2.2)
            subst hga
            clear d0 d1 d2 d3 d4 HA1 HA2
            go_upto_region 12 with (fail)
            go_region_held3 (fun w' => w'.cell? ⟨g, off + n * 5, none⟩ = some (.string p) ∧ w'.cell? ⟨g, off + n * 5 + 1, none⟩ = some (.int .i64 fk) ∧ w'.cell? ⟨g, off + n * 5 + 2, none⟩ = some (.int .i64 fv) ∧ w'.cell? ⟨g, off + n * 5 + 3, none⟩ = some (.int .i64 tk) ∧ w'.cell? ⟨g, off + n * 5 + 4, none⟩ = some (.int .i64 tv) ∧ Below W8.heap.size W8 w')
              (first | exact HS0.out | exact HSa.out | exact HSb.out | exact HSab.out | exact HSba.out)
              (first
                | (go_at_call 20; (with_reducible refine (H1.out _ HS0.out).mono ?_); rintro e W10 ⟨rfl, hb10⟩; have HSa := Lib.hid (HKP.out _ _ HS0.out hb10); clear hb10)
                | (go_at_call 20; (with_reducible refine (H2.out _ HS0.out).mono ?_); rintro e W11 ⟨rfl, hb11⟩; have HSb := Lib.hid (HKP.out _ _ HS0.out hb11); clear hb11)
                | (go_at_call 20; (with_reducible refine (H2.out _ HSa.out).mono ?_); rintro e W12 ⟨rfl, hb12⟩; have HSab := Lib.hid (HKP.out _ _ HSa.out hb12); clear hb12)
                | (go_at_call 20; (with_reducible refine (H1.out _ HSb.out).mono ?_); rintro e W13 ⟨rfl, hb13⟩; have HSba := Lib.hid (HKP.out _ _ HSb.out hb13); clear hb13))
            all_goals
              rename_i hS
              have HB9 := Lib.hid hS.2.2.2.2.2
              clear hS
              have hxy := HXY.out
              have hdd : (x == y) = false := by rw [hxy]; cases y <;> rfl
              clear hxy
              go_wp2
              all_goals (first
                | (rename_i hxx; rw [hdd] at hxx; cases hxx; done)
                | ((try go_big_round); exact ⟨⟨n + 1, by go_num, HLT.out, HB9⟩, by have := HLT.out; simp [intOf]; omega⟩))
          · have hge : (cs.length : Int) ≤ n := by omega
            have hsum : IntKind.i64.wrap ((kk.length : Int) + (hh.length : Int)) = (cs.length : Int) := by
              have := HM2.out.2
              rw [← this]
              exact (IntWalk.i64_in _ (by omega)).trans (by push_cast; rfl)
            have hee : ((cs.length : Int) == (cs.length : Int)) = true := by simp
            clear hn hlt
            go_wp2
            go_ret
            exact ⟨rfl, below_next HBL.out (below_next B3.out (below_next X8.out HB.out))⟩
  · have hl : ¬ ((len0 : Int) ≤ 1048576) := by omega
    have hl2 : (1048576 : Int) < len0 := by omega
    clear h w0
    go_enter Try.func4, Try.ntmps4
    go_wp2
    go_ret
    exact ⟨rfl, Below.refl _ _⟩


set_option maxRecDepth 100000 in
theorem lifted (os : Os) (started : os.Started) (H : Type) (enc : TypeId × Value → H) :
    ReturnsInHanded {} Try.checked os 4 .any (Rows.fnKeepHoldSpec.pre6 enc Try.prog Try.f4 Rows.fnKeepHoldRow.domain false) (Rows.fnKeepHoldSpec.post enc Try.prog Try.f4 false true false false) := by
  refine returnsInHanded_of_change (C := Try.checked) own started (by kernel_rfl) Try.func4
    (ChangeSpec.witness6 (enc := enc) (C := Try.checked) false ⟨#[], #[.slice none 0 0], []⟩ 8 (by kernel_rfl) (by kernel_rfl) (by kernel_rfl) (by kernel_rfl)) ?_
  intro W base args ds gs before hval0 hW hcnd _
  have hval : ∀ (j : Nat) t v, Try.f4.params[j]? = some t → args[j]? = some v → Value.okWide Try.prog W .any base t v := hval0
  have hW' := hW
  obtain ⟨p, q, hA0, hV, rfl, hfz, hnd⟩ := hW
  have hA : DataW.TrodAll enc Try.prog W 0 (fun _ => true) true Try.f4.params.toList args.toList ds p := hA0
  rw [Try.params4] at hA hval
  obtain ⟨v0, vs0, d0, ds0, p0, q0, hargs, rfl, rfl, h0, r0⟩ := trodAll_cons hA
  obtain ⟨rfl, rfl, rfl⟩ := trodAll_nil r0
  obtain rfl : args = #[v0] := by cases args; simp_all
  obtain ⟨rfl, rfl⟩ := trodVars_none hV
  obtain ⟨a0, len0, cap0, rfl⟩ := okWide_slice Try.underlying22 (hval 0 22 v0 rfl rfl)
  have k0 := h0
  have lt0 : ∀ x ∈ p0, x.block < W.heap.size := by obtain ⟨m, hm⟩ := k0; exact DataW.trod_lt m _ _ _ hm
  obtain ⟨z0, w0⟩ : ∃ zs, IsRow .u8 W a0 len0 cap0 zs := by
    obtain ⟨fuel, hf⟩ := h0
    rcases open_ints Try.underlying22 Try.underlying5 (by kernel_rfl) hf with ⟨hcs, _⟩ | ⟨x, l, c, zs, hcs, _, hl, hm, hz, _, hcell, hwz⟩
    · simp [Value.cells] at hcs
      obtain ⟨rfl, rfl, rfl⟩ := hcs
      exact ⟨[], .inl ⟨rfl, rfl, rfl, rfl⟩⟩
    · simp [Value.cells] at hcs
      obtain ⟨rfl, rfl, rfl⟩ := hcs
      exact ⟨zs, .inr ⟨_, rfl, hl, hm, by simpa using hz, hcell, hwz⟩⟩
  clear hA0 hval0
  refine (walk a0 len0 cap0 z0 W w0).mono fun e W' ⟨he, bel⟩ => ?_
  subst he
  exact ⟨_, rfl, _, _, _, [], _, [], hW', trodAll_mk1 (shut_bool Try.underlying4 _), (trodAll_cons_mk (Below.trod laidOut (by kernel_rfl) (of_decide_eq_true (by kernel_rfl)) k0 bel lt0) trodAll_mk0), rfl, bel.frame _, fun h => by cases h⟩

theorem over : Rows.fnKeepHoldRow.holds Try.pinned (OpenSpec.ofChange Rows.fnKeepHoldSpec) :=
  OpenClaim.holds_of_wide 4 Try.f4 rfl rfl rfl rfl rfl rfl rfl ⟨rfl, rfl, rfl, rfl, rfl⟩ rfl rfl rfl rfl rfl (by kernel_rfl) Try.func4 (by kernel_rfl)
    (of_decide_eq_true (by kernel_rfl)) (by unfold Func.isWrapper; first | (rw [if_pos (by decide +kernel)]; kernel_rfl) | (rw [if_neg (by decide +kernel)]; exact ⟨rfl, rfl⟩))
    (fun os started H enc _ => lifted os started H enc)

theorem proved : Rows.FnKeepHoldSaid := over
end Go.Proofs.Ytmlnakkfjecibaa.fnKeepHold
