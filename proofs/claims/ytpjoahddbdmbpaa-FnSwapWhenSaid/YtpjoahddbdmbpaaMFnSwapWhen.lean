/-
  laws.FnSwapWhen returns true for every input, and leaves its arguments as they were.
  Conditions: none.
-/
import Derived.Test.YtpjoahddbdmbpaaRows
import Derived.WalkKit
import Derived.ProofKit
import Derived.OpenShut
import Derived.ShutString
import Derived.ChangeOld
import Derived.Below
import Derived.Test.YtpjoahddbdmbpaaQ8
import Derived.Test.YtpjoahddbdmbpaaQ6
import Derived.Test.YtpjoahddbdmbpaaQ7
import Derived.Test.YtpjoahddbdmbpaaQ10
namespace Go.Proofs.Ytpjoahddbdmbpaa.fnSwapWhen
open Go.ChangeShapes Go.WideShapes Go.ChangeAt Go.RowKit
open Go.ChangeMaps (open_string shut_string)
set_option linter.unusedVariables false

theorem own : ownKnob Try.prog.godebug = none := by kernel_rfl
theorem laidOut : laidOutB Try.prog = true := by kernel_rfl

theorem swap_len {cs : List Cmd} {k : Int} : (orderSwap cs k).1.length ≤ cs.length := by
  unfold orderSwap
  split
  · split
    · rw [swapK_length]; exact Nat.le_refl _
    · exact Nat.zero_le _
  · exact Nat.zero_le _

/-- What a pair tells, its two parts named. -/
def MPost (out : List Cmd) (b : Bool) (W : World) (e : Ending) (w' : World) : Prop :=
  ∃ sl, e = .returned (.tuple #[sl, .bool b]) ∧ w'.ownsRow W.heap.size 26 5 sl out.length (flatC out) ∧ Below W.heap.size W w'

theorem move_named {r : List Cmd × Bool} {out : List Cmd} {b : Bool} {W : World} {f : Nat} {args : Array Value} (hr : r = (out, b)) (h : Calls Try.prog f args W (MovePost r W)) : Calls Try.prog f args W (MPost out b W) := by
  rw [hr] at h
  exact h

set_option maxHeartbeats 4000000 in
set_option maxRecDepth 100000 in
theorem walk (a0 : Option Addr) (len0 cap0 : Nat) (z0 : List Int) (w : World) (w0 : IsRow .u8 w a0 len0 cap0 z0) :
    Calls Try.prog 6 #[.slice a0 len0 cap0] w fun e w' => e = .returned (.bool true) ∧ Below w.heap.size w w' := by
  by_cases h : len0 ≤ 1048576
  · have hl : (len0 : Int) ≤ 1048576 := by omega
    have HD := Lib.hid (drawOrderSwap_c a0 len0 cap0 z0 w w0)
    clear h w0
    go_enter Try.func6, Try.ntmps6
    go_wp2_with fail
    refine HD.out.mono ?_
    rintro e W1 ⟨sl, cs, k, rfl, ho, hl21, hs66, k0, k1, hB⟩
    obtain ⟨a, cap, rfl, hn⟩ := cmds_of_own ho
    have HBL := Lib.hid hB
    have HCL := Lib.hid hl21
    have HSS := Lib.hid hs66
    have HN := Lib.hid hn
    have HK01 := Lib.hid (And.intro k0 k1)
    obtain ⟨out, b, hr⟩ : ∃ out b, orderSwap cs k = (out, b) := ⟨_, _, rfl⟩
    have HR := Lib.hid hr
    have HOL := Lib.hid (show out.length ≤ 21 by have := swap_len (cs := cs) (k := k); rw [hr] at this; simp only at this; omega)
    have HI := Lib.hid (fun W' (hb : Below W1.heap.size W1 W') => move_named hr (implOrderSwap_c a cs.length cap cs k (by omega) (hs66.mono (by omega)) W' (hn.keep hb)))
    have HS := Lib.hid (fun W' (hb : Below W1.heap.size W1 W') => move_named hr (specOrderSwap_c a cs.length cap cs k (by omega) (hs66.mono (by omega)) W' (hn.keep hb)))
    have hcl21 : (cs.length : Int) ≤ 21 := by omega
    clear ho hn hB hl21 hs66 hr
    obtain ⟨ov, hov⟩ : ∃ ov, orderV cs = ov := ⟨_, rfl⟩
    have HOV := Lib.hid hov
    have HOF := Lib.hid (fun W' (hb : Below W1.heap.size W1 W') => show Calls Try.prog 24 #[.slice a cs.length cap] W' (BoolPost ov W') by rw [← HOV.out]; exact specOrderFits_c a cs.length cap cs (by have := HCL.out; omega) (HSS.out.mono (by omega)) W' (HN.out.keep hb))
    clear hov
    have hkw : IntKind.i64.wrap (k + 1) = k + 1 := IntWalk.i64_in _ (by have := HK01.out; omega)
    have hbb : (b == b) = true := by simp
    go_wp2_with fail
    refine (HI.out _ (Below.refl _ _)).mono ?_
    rintro e W2 ⟨o1, rfl, ho1, hb2⟩
    have B2 := Lib.hid hb2
    clear hb2
    go_wp2_with fail
    refine (HS.out _ B2.out).mono ?_
    rintro e W3 ⟨o2, rfl, ho2, hb3⟩
    have B3 := Lib.hid (below_next B2.out hb3)
    have ho1' := own_below ho1 hb3
    obtain ⟨x1, p1, rfl, hc1⟩ := cmds_of_own ho1'
    obtain ⟨x2, p2, rfl, hc2⟩ := cmds_of_own ho2
    have HSM := Lib.hid (fun W' (hb : Below W3.heap.size W3 W') => sameLog_c x1 x2 out.length p1 p2 out (by have := HOL.out; omega) W' (hc1.keep hb) (hc2.keep hb))
    have HC1 := Lib.hid hc1
    clear ho1 ho2 hb3 ho1' hc1 hc2
    go_wp2_with fail
    refine (HSM.out _ (Below.refl _ _)).mono ?_
    rintro e W4 ⟨rfl, hb4⟩
    have X4 := Lib.hid hb4
    clear hb4
    go_wp2_with fail
    refine (HOF.out _ (below_next B3.out X4.out)).mono ?_
    rintro e W5 ⟨rfl, hb5⟩
    have X5 := Lib.hid (below_next X4.out hb5)
    clear hb5
    cases ov with
    | false =>
      go_wp2_with fail
      refine (HSM.out _ X5.out).mono ?_
      rintro e W6 ⟨rfl, hb6⟩
      go_wp2
      go_ret
      exact ⟨rfl, below_next HBL.out (below_next B3.out (below_next X5.out hb6))⟩
    | true =>
      by_cases hk0 : k < 0
      · have hk0d : decide (k < 0) = true := decide_eq_true hk0
        clear hkw
        go_wp2_with fail
        refine (HSM.out _ X5.out).mono ?_
        rintro e W6 ⟨rfl, hb6⟩
        go_wp2
        go_ret
        exact ⟨rfl, below_next HBL.out (below_next B3.out (below_next X5.out hb6))⟩
      · have hk0d : decide (k < 0) = false := decide_eq_false hk0
        by_cases hk2 : (cs.length : Int) ≤ k + 1
        · have hk2d : decide ((cs.length : Int) ≤ k + 1) = true := decide_eq_true hk2
          go_wp2_with fail
          refine (HSM.out _ X5.out).mono ?_
          rintro e W6 ⟨rfl, hb6⟩
          go_wp2
          go_ret
          exact ⟨rfl, below_next HBL.out (below_next B3.out (below_next X5.out hb6))⟩
        · obtain ⟨n, rfl⟩ := Int.eq_ofNat_of_zero_le (show 0 ≤ k by omega)
          have hk2d : decide ((cs.length : Int) ≤ (n : Int) + 1) = false := decide_eq_false hk2
          have HNL := Lib.hid (show n + 1 < cs.length by omega)
          obtain ⟨mm, hmm⟩ : ∃ mm, mustP (atK cs n) (atK cs (n + 1)) = mm := ⟨_, rfl⟩
          have HMM := Lib.hid hmm
          have HBM := Lib.hid (show b = !mm by have := swap_when HOV.out HNL.out; rw [HR.out, hmm] at this; exact this)
          have X15 := Lib.hid (below_next B3.out X5.out)
          clear hk0 hk2 hmm
          obtain ⟨b', off', c, rfl, hc, a0, a1, a2, a3, a4⟩ := (HN.out.keep X15.out).node (i := n) (by have := HNL.out; omega)
          obtain ⟨b2, off2, d, hbb, hd, e0, e1, e2, e3, e4⟩ := (HN.out.keep X15.out).node (i := n + 1) HNL.out
          cases hbb
          have HM := Lib.hid (fun w => show Calls Try.prog 15 #[cmdV c, cmdV d] w (BoolPost mm w) by rw [← HMM.out, ← get_atT hc, ← get_atT hd]; exact implMustPrecede_c _ _ (Nat.le_trans (by rw [get_atT hc]; exact HSS.out.at hc) (by omega)) (Nat.le_trans (by rw [get_atT hd]; exact HSS.out.at hd) (by omega)) w)
          obtain ⟨p, fk, fv, tk, tv⟩ := c
          obtain ⟨q, gk, gv, uk, uv⟩ := d
          unfold cmdV at HM
          simp only at HM a0 a1 a2 a3 a4 e0 e1 e2 e3 e4
          have HS0 := Lib.hid (show W5.drew.cell? ⟨b', off' + n * 5, none⟩ = some (.string p) ∧ W5.drew.cell? ⟨b', off' + n * 5 + 1, none⟩ = some (.int .i64 fk) ∧ W5.drew.cell? ⟨b', off' + n * 5 + 2, none⟩ = some (.int .i64 fv) ∧ W5.drew.cell? ⟨b', off' + n * 5 + 3, none⟩ = some (.int .i64 tk) ∧ W5.drew.cell? ⟨b', off' + n * 5 + 4, none⟩ = some (.int .i64 tv) ∧ W5.drew.cell? ⟨b', off' + (n + 1) * 5, none⟩ = some (.string q) ∧ W5.drew.cell? ⟨b', off' + (n + 1) * 5 + 1, none⟩ = some (.int .i64 gk) ∧ W5.drew.cell? ⟨b', off' + (n + 1) * 5 + 2, none⟩ = some (.int .i64 gv) ∧ W5.drew.cell? ⟨b', off' + (n + 1) * 5 + 3, none⟩ = some (.int .i64 uk) ∧ W5.drew.cell? ⟨b', off' + (n + 1) * 5 + 4, none⟩ = some (.int .i64 uv) ∧ Below W1.heap.size W1 W5.drew from ⟨a0, a1, a2, a3, a4, e0, e1, e2, e3, e4, (X15.out).drew⟩)
          have HKP := Lib.hid (fun (u1 u2 : World) (h : u1.cell? ⟨b', off' + n * 5, none⟩ = some (.string p) ∧ u1.cell? ⟨b', off' + n * 5 + 1, none⟩ = some (.int .i64 fk) ∧ u1.cell? ⟨b', off' + n * 5 + 2, none⟩ = some (.int .i64 fv) ∧ u1.cell? ⟨b', off' + n * 5 + 3, none⟩ = some (.int .i64 tk) ∧ u1.cell? ⟨b', off' + n * 5 + 4, none⟩ = some (.int .i64 tv) ∧ u1.cell? ⟨b', off' + (n + 1) * 5, none⟩ = some (.string q) ∧ u1.cell? ⟨b', off' + (n + 1) * 5 + 1, none⟩ = some (.int .i64 gk) ∧ u1.cell? ⟨b', off' + (n + 1) * 5 + 2, none⟩ = some (.int .i64 gv) ∧ u1.cell? ⟨b', off' + (n + 1) * 5 + 3, none⟩ = some (.int .i64 uk) ∧ u1.cell? ⟨b', off' + (n + 1) * 5 + 4, none⟩ = some (.int .i64 uv) ∧ Below W1.heap.size W1 u1) (hb : Below u1.heap.size u1 u2) => show u2.cell? ⟨b', off' + n * 5, none⟩ = some (.string p) ∧ u2.cell? ⟨b', off' + n * 5 + 1, none⟩ = some (.int .i64 fk) ∧ u2.cell? ⟨b', off' + n * 5 + 2, none⟩ = some (.int .i64 fv) ∧ u2.cell? ⟨b', off' + n * 5 + 3, none⟩ = some (.int .i64 tk) ∧ u2.cell? ⟨b', off' + n * 5 + 4, none⟩ = some (.int .i64 tv) ∧ u2.cell? ⟨b', off' + (n + 1) * 5, none⟩ = some (.string q) ∧ u2.cell? ⟨b', off' + (n + 1) * 5 + 1, none⟩ = some (.int .i64 gk) ∧ u2.cell? ⟨b', off' + (n + 1) * 5 + 2, none⟩ = some (.int .i64 gv) ∧ u2.cell? ⟨b', off' + (n + 1) * 5 + 3, none⟩ = some (.int .i64 uk) ∧ u2.cell? ⟨b', off' + (n + 1) * 5 + 4, none⟩ = some (.int .i64 uv) ∧ Below W1.heap.size W1 u2 from ⟨cell_kept hb h.1, cell_kept hb h.2.1, cell_kept hb h.2.2.1, cell_kept hb h.2.2.2.1, cell_kept hb h.2.2.2.2.1, cell_kept hb h.2.2.2.2.2.1, cell_kept hb h.2.2.2.2.2.2.1, cell_kept hb h.2.2.2.2.2.2.2.1, cell_kept hb h.2.2.2.2.2.2.2.2.1, cell_kept hb h.2.2.2.2.2.2.2.2.2.1, below_next h.2.2.2.2.2.2.2.2.2.2 hb⟩)
          have hkl : (n : Int) < cs.length := by have := HNL.out; omega
          have hkl2 : (n : Int) + 1 < cs.length := by have := HNL.out; omega
          have hk1 : (0 : Int) ≤ (n : Int) + 1 := by omega
          have ht1 : ((n : Int) + 1).toNat = n + 1 := by omega
          clear hc hd a0 a1 a2 a3 a4 e0 e1 e2 e3 e4
          go_upto_region 8 with (fail)
          go_region_held3 (fun w' => w'.cell? ⟨b', off' + n * 5, none⟩ = some (.string p) ∧ w'.cell? ⟨b', off' + n * 5 + 1, none⟩ = some (.int .i64 fk) ∧ w'.cell? ⟨b', off' + n * 5 + 2, none⟩ = some (.int .i64 fv) ∧ w'.cell? ⟨b', off' + n * 5 + 3, none⟩ = some (.int .i64 tk) ∧ w'.cell? ⟨b', off' + n * 5 + 4, none⟩ = some (.int .i64 tv) ∧ w'.cell? ⟨b', off' + (n + 1) * 5, none⟩ = some (.string q) ∧ w'.cell? ⟨b', off' + (n + 1) * 5 + 1, none⟩ = some (.int .i64 gk) ∧ w'.cell? ⟨b', off' + (n + 1) * 5 + 2, none⟩ = some (.int .i64 gv) ∧ w'.cell? ⟨b', off' + (n + 1) * 5 + 3, none⟩ = some (.int .i64 uk) ∧ w'.cell? ⟨b', off' + (n + 1) * 5 + 4, none⟩ = some (.int .i64 uv) ∧ Below W1.heap.size W1 w')
            (first | exact HS0.out | exact HKP.out _ _ HS0.out hb8)
            (first | (go_at_call 15; (with_reducible refine (HM.out _).mono ?_); rintro e W8 ⟨rfl, hb8⟩))
          all_goals
            rename_i hS9
            have HB9 := Lib.hid hS9.2.2.2.2.2.2.2.2.2.2
            obtain rfl := HBM.out
            clear hS9
            cases mm with
            | true =>
              go_wp2
              go_ret
              exact ⟨rfl, below_next HBL.out HB9.out⟩
            | false =>
              go_wp2
              go_ret
              exact ⟨rfl, below_next HBL.out HB9.out⟩
  · have hl : (1048576 : Int) < len0 := by omega
    clear h w0
    go_enter Try.func6, Try.ntmps6
    go_wp2
    go_ret
    exact ⟨rfl, Below.refl _ _⟩


set_option maxRecDepth 100000 in
theorem lifted (os : Os) (started : os.Started) (H : Type) (enc : TypeId × Value → H) :
    ReturnsInHanded {} Try.checked os 6 .any (Rows.fnSwapWhenSpec.pre6 enc Try.prog Try.f6 Rows.fnSwapWhenRow.domain false) (Rows.fnSwapWhenSpec.post enc Try.prog Try.f6 false true false false) := by
  refine returnsInHanded_of_change (C := Try.checked) own started (by kernel_rfl) Try.func6
    (ChangeSpec.witness6 (enc := enc) (C := Try.checked) false ⟨#[], #[.slice none 0 0], []⟩ 8 (by kernel_rfl) (by kernel_rfl) (by kernel_rfl) (by kernel_rfl)) ?_
  intro W base args ds gs before hval0 hW hcnd _
  have hval : ∀ (j : Nat) t v, Try.f6.params[j]? = some t → args[j]? = some v → Value.okWide Try.prog W .any base t v := hval0
  have hW' := hW
  obtain ⟨p, q, hA0, hV, rfl, hfz, hnd⟩ := hW
  have hA : DataW.TrodAll enc Try.prog W 0 (fun _ => true) true Try.f6.params.toList args.toList ds p := hA0
  rw [Try.params6] at hA hval
  obtain ⟨v0, vs0, d0, ds0, p0, q0, hargs, rfl, rfl, h0, r0⟩ := trodAll_cons hA
  obtain ⟨rfl, rfl, rfl⟩ := trodAll_nil r0
  obtain rfl : args = #[v0] := by cases args; simp_all
  obtain ⟨rfl, rfl⟩ := trodVars_none hV
  obtain ⟨a0, len0, cap0, rfl⟩ := okWide_slice Try.underlying22 (hval 0 22 v0 rfl rfl)
  have k0 := h0
  have lt0 : ∀ x ∈ p0, x.block < W.heap.size := by obtain ⟨m, hm⟩ := k0; exact DataW.trod_lt m _ _ _ hm
  obtain ⟨z0, w0⟩ : ∃ zs, IsRow .u8 W a0 len0 cap0 zs := by
    obtain ⟨fuel, hf⟩ := h0
    rcases open_ints Try.underlying22 Try.underlying5 (by kernel_rfl) hf with ⟨hcs, _⟩ | ⟨x, l, c, zs, hcs, _, hl, hm, hz, _, hcell, hwz⟩
    · simp [Value.cells] at hcs
      obtain ⟨rfl, rfl, rfl⟩ := hcs
      exact ⟨[], .inl ⟨rfl, rfl, rfl, rfl⟩⟩
    · simp [Value.cells] at hcs
      obtain ⟨rfl, rfl, rfl⟩ := hcs
      exact ⟨zs, .inr ⟨_, rfl, hl, hm, by simpa using hz, hcell, hwz⟩⟩
  clear hA0 hval0
  refine (walk a0 len0 cap0 z0 W w0).mono fun e W' ⟨he, bel⟩ => ?_
  subst he
  exact ⟨_, rfl, _, _, _, [], _, [], hW', trodAll_mk1 (shut_bool Try.underlying4 _), (trodAll_cons_mk (Below.trod laidOut (by kernel_rfl) (of_decide_eq_true (by kernel_rfl)) k0 bel lt0) trodAll_mk0), rfl, bel.frame _, fun h => by cases h⟩

theorem over : Rows.fnSwapWhenRow.holds Try.pinned (OpenSpec.ofChange Rows.fnSwapWhenSpec) :=
  OpenClaim.holds_of_wide 6 Try.f6 rfl rfl rfl rfl rfl rfl rfl ⟨rfl, rfl, rfl, rfl, rfl⟩ rfl rfl rfl rfl rfl (by kernel_rfl) Try.func6 (by kernel_rfl)
    (of_decide_eq_true (by kernel_rfl)) (by unfold Func.isWrapper; first | (rw [if_pos (by decide +kernel)]; kernel_rfl) | (rw [if_neg (by decide +kernel)]; exact ⟨rfl, rfl⟩))
    (fun os started H enc _ => lifted os started H enc)

theorem proved : Rows.FnSwapWhenSaid := over
end Go.Proofs.Ytpjoahddbdmbpaa.fnSwapWhen
