/-
  laws.FnOrdersCount returns true for every input, and leaves its arguments as they were.
  Conditions: none.
-/
import Derived.Test.YtpjoahddbdmbpaaRows
import Derived.WalkKit
import Derived.ProofKit
import Derived.OpenShut
import Derived.ShutString
import Derived.ChangeOld
import Derived.Below
import Derived.Test.YtpjoahddbdmbpaaQ8
import Derived.Test.YtpjoahddbdmbpaaQ6
import Derived.Test.YtpjoahddbdmbpaaQ7
namespace Go.Proofs.Ytpjoahddbdmbpaa.fnOrdersCount
open Go.ChangeShapes Go.WideShapes Go.ChangeAt Go.RowKit
open Go.ChangeMaps (open_string shut_string)
set_option linter.unusedVariables false

theorem own : ownKnob Try.prog.godebug = none := by kernel_rfl
theorem laidOut : laidOutB Try.prog = true := by kernel_rfl

set_option maxHeartbeats 4000000 in
set_option maxRecDepth 100000 in
theorem walk (a0 : Option Addr) (len0 cap0 : Nat) (z0 : List Int) (w : World) (w0 : IsRow .u8 w a0 len0 cap0 z0) :
    Calls Try.prog 7 #[.slice a0 len0 cap0] w fun e w' => e = .returned (.bool true) ∧ Below w.heap.size w w' := by
  by_cases h : len0 ≤ 1048576
  · have hl : (len0 : Int) ≤ 1048576 := by omega
    have HD := Lib.hid (drawOrdersCount_c a0 len0 cap0 z0 w w0)
    clear h w0
    go_enter Try.func7, Try.ntmps7
    go_wp2_with fail
    refine HD.out.mono ?_
    rintro e W1 ⟨sl, cs, rfl, ho, hl21, hs66, hB⟩
    obtain ⟨a, cap, rfl, hn⟩ := cmds_of_own ho
    have HBL := Lib.hid hB
    have HCL := Lib.hid hl21
    have HSS := Lib.hid hs66
    have HN := Lib.hid hn
    obtain ⟨n, hnn⟩ : ∃ n, ordersCount cs = n := ⟨_, rfl⟩
    have HNN := Lib.hid hnn
    have HI := Lib.hid (fun x (q : Nat) ds (h1 : ds.length ≤ 21) (h2 : ShortC 66 ds) W' (hc : CmdsAt W' x ds.length ds) => implOrdersCount_c x ds.length q ds (by omega) (h2.mono (by omega)) W' hc)
    have HI1 := Lib.hid (show Calls Try.prog 26 #[.slice a cs.length cap] W1 (CountPostU n W1) by rw [← hnn]; exact HI.out a cap cs hl21 hs66 W1 hn)
    have HS := Lib.hid (fun W' (hb : Below W1.heap.size W1 W') => show Calls Try.prog 27 #[.slice a cs.length cap] W' (CountPost n W') by rw [← hnn]; exact specOrdersCount_c a cs.length cap cs (by omega) (hs66.mono (by omega)) W' (hn.keep hb))
    have hcl21 : (cs.length : Int) ≤ 21 := by omega
    have hne : (n != n) = false := by simp
    have heq : (n == n) = true := by simp
    clear ho hn hB hl21 hs66 hnn
    go_wp2_with fail
    refine HI1.out.mono ?_
    rintro e W2 ⟨rfl, hb2⟩
    have B2 := Lib.hid hb2
    clear hb2
    go_wp2_with fail
    refine (HS.out _ B2.out).mono ?_
    rintro e W3 ⟨rfl, hb3⟩
    have B3 := Lib.hid (below_next B2.out hb3)
    clear hb3
    by_cases h0 : n < 0
    · have h0d : decide (n < 0) = true := decide_eq_true h0
      clear h0
      go_wp2
      go_ret
      exact ⟨rfl, below_next HBL.out B3.out⟩
    · have h0d : decide (n < 0) = false := decide_eq_false h0
      have HNE := Lib.hid (show ordersCount cs ≠ -1 by rw [HNN.out]; omega)
      obtain ⟨hb0, hbf, hb6, hb1⟩ := orders_bound HNE.out
      rw [HNN.out] at hb0 hbf hb1
      have hf720 := fac_le hb6
      have HX := Lib.hid (And.intro hb0 (And.intro hbf hb1))
      have HL6 := Lib.hid hb6
      have hl6 : (cs.length : Int) ≤ 6 := by omega
      have hge : decide (0 ≤ n) = true := decide_eq_true hb0
      have HOF := Lib.hid (fun W' (hb : Below W1.heap.size W1 W') => implOrderFits_c a cs.length cap cs (by have := HCL.out; omega) (HSS.out.mono (by omega)) W' (HN.out.keep hb))
      clear hb0 hbf hb1 hf720 hb6 h0
      go_wp2_with fail
      go_loopw [6, 7] (fun m i wr => ∃ j : Nat, i = .int .i64 ((j : Int) + 2) ∧ m = .int .i64 ((facK (j + 1) : Nat) : Int) ∧ (j = 0 ∨ j + 1 ≤ cs.length) ∧ wr = W3) (fun _ i _ => 10 - (intOf i).toNat)
      case atStart => exact ⟨0, rfl, rfl, .inl rfl, rfl⟩
      case round =>
        obtain ⟨j, rfl, rfl, hj, rfl⟩ := hrel
        have hj6 : j ≤ 6 := by have := HL6.out; omega
        have hw1 : IntKind.i64.wrap ((j : Int) + 2 + 1) = (j : Int) + 2 + 1 := IntWalk.i64_in _ (by omega)
        by_cases hlt : j + 2 ≤ cs.length
        · have hlt' : (j : Int) + 2 ≤ cs.length := by omega
          have hfs : facK (j + 1 + 1) = (j + 1 + 1) * facK (j + 1) := rfl
          have hfl := fac_le (show j + 1 + 1 ≤ 6 by have := HL6.out; omega)
          have hmul : ((facK (j + 1) : Nat) : Int) * ((j : Int) + 2) = ((facK (j + 1 + 1) : Nat) : Int) := by rw [hfs, Int.natCast_mul, Int.mul_comm]; congr 1
          obtain ⟨f, hf⟩ : ∃ f, facK (j + 1) = f := ⟨_, rfl⟩
          obtain ⟨g, hg⟩ : ∃ g, facK (j + 1 + 1) = g := ⟨_, rfl⟩
          have HG := Lib.hid hg
          rw [hf, hg] at hmul
          rw [hg] at hfl
          rw [hf]
          have hwm : IntKind.i64.wrap ((f : Int) * ((j : Int) + 2)) = (g : Int) := by rw [hmul]; exact IntWalk.i64_in _ (by omega)
          have HLT := Lib.hid hlt
          clear hj hlt hfs hfl hmul hf hg
          go_wp2
          go_roundw
          case rel => exact ⟨j + 1, by go_num, by rw [HG.out], .inr (by have := HLT.out; omega), by first | rfl | trivial⟩
          case measure => have := HLT.out; simp [intOf]; omega
        · have hge2 : (cs.length : Int) < (j : Int) + 2 := by omega
          have hle : n ≤ ((facK (j + 1) : Nat) : Int) := by
            have h1 := HX.out.2.1
            rcases hj with rfl | hj
            · have : cs.length = 0 ∨ cs.length = 1 := by omega
              rcases this with e | e <;> rw [e] at h1 <;> exact h1
            · have e : cs.length = j + 1 := by omega
              rw [e] at h1
              exact h1
          have hled : decide (n ≤ ((facK (j + 1) : Nat) : Int)) = true := decide_eq_true hle
          have HO := Lib.hid (HOF.out wr B3.out)
          obtain ⟨v, hv⟩ : ∃ v, orderV cs = v := ⟨_, rfl⟩
          have HY := Lib.hid (show v = true → 1 ≤ n from fun h => HX.out.2.2 (hv.trans h))
          rw [hv] at HO
          clear hj hlt hle hv
          go_wp2_with fail
          refine HO.out.mono ?_
          rintro e W4 ⟨rfl, hb4⟩
          have B4 := Lib.hid (below_next B3.out hb4)
          clear hb4
          cases v with
          | false =>
            go_wp2
            go_ret
            exact ⟨rfl, below_next HBL.out B4.out⟩
          | true =>
            have h1d : decide (1 ≤ n) = true := decide_eq_true (HY.out rfl)
            go_wp2
            go_ret
            exact ⟨rfl, below_next HBL.out B4.out⟩
  · have hl : (1048576 : Int) < len0 := by omega
    clear h w0
    go_enter Try.func7, Try.ntmps7
    go_wp2
    go_ret
    exact ⟨rfl, Below.refl _ _⟩


set_option maxRecDepth 100000 in
theorem lifted (os : Os) (started : os.Started) (H : Type) (enc : TypeId × Value → H) :
    ReturnsInHanded {} Try.checked os 7 .any (Rows.fnOrdersCountSpec.pre6 enc Try.prog Try.f7 Rows.fnOrdersCountRow.domain false) (Rows.fnOrdersCountSpec.post enc Try.prog Try.f7 false true false false) := by
  refine returnsInHanded_of_change (C := Try.checked) own started (by kernel_rfl) Try.func7
    (ChangeSpec.witness6 (enc := enc) (C := Try.checked) false ⟨#[], #[.slice none 0 0], []⟩ 8 (by kernel_rfl) (by kernel_rfl) (by kernel_rfl) (by kernel_rfl)) ?_
  intro W base args ds gs before hval0 hW hcnd _
  have hval : ∀ (j : Nat) t v, Try.f7.params[j]? = some t → args[j]? = some v → Value.okWide Try.prog W .any base t v := hval0
  have hW' := hW
  obtain ⟨p, q, hA0, hV, rfl, hfz, hnd⟩ := hW
  have hA : DataW.TrodAll enc Try.prog W 0 (fun _ => true) true Try.f7.params.toList args.toList ds p := hA0
  rw [Try.params7] at hA hval
  obtain ⟨v0, vs0, d0, ds0, p0, q0, hargs, rfl, rfl, h0, r0⟩ := trodAll_cons hA
  obtain ⟨rfl, rfl, rfl⟩ := trodAll_nil r0
  obtain rfl : args = #[v0] := by cases args; simp_all
  obtain ⟨rfl, rfl⟩ := trodVars_none hV
  obtain ⟨a0, len0, cap0, rfl⟩ := okWide_slice Try.underlying22 (hval 0 22 v0 rfl rfl)
  have k0 := h0
  have lt0 : ∀ x ∈ p0, x.block < W.heap.size := by obtain ⟨m, hm⟩ := k0; exact DataW.trod_lt m _ _ _ hm
  obtain ⟨z0, w0⟩ : ∃ zs, IsRow .u8 W a0 len0 cap0 zs := by
    obtain ⟨fuel, hf⟩ := h0
    rcases open_ints Try.underlying22 Try.underlying5 (by kernel_rfl) hf with ⟨hcs, _⟩ | ⟨x, l, c, zs, hcs, _, hl, hm, hz, _, hcell, hwz⟩
    · simp [Value.cells] at hcs
      obtain ⟨rfl, rfl, rfl⟩ := hcs
      exact ⟨[], .inl ⟨rfl, rfl, rfl, rfl⟩⟩
    · simp [Value.cells] at hcs
      obtain ⟨rfl, rfl, rfl⟩ := hcs
      exact ⟨zs, .inr ⟨_, rfl, hl, hm, by simpa using hz, hcell, hwz⟩⟩
  clear hA0 hval0
  refine (walk a0 len0 cap0 z0 W w0).mono fun e W' ⟨he, bel⟩ => ?_
  subst he
  exact ⟨_, rfl, _, _, _, [], _, [], hW', trodAll_mk1 (shut_bool Try.underlying4 _), (trodAll_cons_mk (Below.trod laidOut (by kernel_rfl) (of_decide_eq_true (by kernel_rfl)) k0 bel lt0) trodAll_mk0), rfl, bel.frame _, fun h => by cases h⟩

theorem over : Rows.fnOrdersCountRow.holds Try.pinned (OpenSpec.ofChange Rows.fnOrdersCountSpec) :=
  OpenClaim.holds_of_wide 7 Try.f7 rfl rfl rfl rfl rfl rfl rfl ⟨rfl, rfl, rfl, rfl, rfl⟩ rfl rfl rfl rfl rfl (by kernel_rfl) Try.func7 (by kernel_rfl)
    (of_decide_eq_true (by kernel_rfl)) (by unfold Func.isWrapper; first | (rw [if_pos (by decide +kernel)]; kernel_rfl) | (rw [if_neg (by decide +kernel)]; exact ⟨rfl, rfl⟩))
    (fun os started H enc _ => lifted os started H enc)

theorem proved : Rows.FnOrdersCountSaid := over
end Go.Proofs.Ytpjoahddbdmbpaa.fnOrdersCount
