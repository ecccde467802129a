/-
  laws.FnOrdersCountSwap returns true for every input, and leaves its arguments as they were.
  Conditions: none.
-/
import Derived.Test.YtpjoahddbdmbpaaRows
import Derived.WalkKit
import Derived.ProofKit
import Derived.OpenShut
import Derived.ShutString
import Derived.ChangeOld
import Derived.Below
import Derived.Test.YtpjoahddbdmbpaaQ8
import Derived.Test.YtpjoahddbdmbpaaQ6
import Derived.Test.YtpjoahddbdmbpaaQ7
namespace Go.Proofs.Ytpjoahddbdmbpaa.fnOrdersCountSwap
open Go.ChangeShapes Go.WideShapes Go.ChangeAt Go.RowKit
open Go.ChangeMaps (open_string shut_string)
set_option linter.unusedVariables false

theorem own : ownKnob Try.prog.godebug = none := by kernel_rfl
theorem laidOut : laidOutB Try.prog = true := by kernel_rfl

theorem drop_cons {cs : List Cmd} {n : Nat} {c : Cmd} (h : cs[n]? = some c) : cs.drop n = c :: cs.drop (n + 1) := by
  obtain ⟨hn, e⟩ := List.getElem?_eq_some_iff.1 h
  rw [List.drop_eq_getElem_cons hn, e]
theorem rev_next {cs : List Cmd} {n : Nat} {c : Cmd} (h : cs[n]? = some c) : (cs.drop n).reverse = (cs.drop (n + 1)).reverse ++ [c] := by rw [drop_cons h, List.reverse_cons]

def RevRel (cs : List Cmd) (W1 : World) (x i : Value) (wr : World) : Prop :=
  ∃ j : Nat, i = .int .i64 ((j : Int) - 1) ∧ j ≤ cs.length ∧ wr.ownsRow W1.heap.size 26 5 x (cs.drop j).reverse.length (flatC (cs.drop j).reverse) ∧ Hid (Below W1.heap.size W1 wr)

set_option maxHeartbeats 4000000 in
set_option maxRecDepth 100000 in
theorem walk (a0 : Option Addr) (len0 cap0 : Nat) (z0 : List Int) (w : World) (w0 : IsRow .u8 w a0 len0 cap0 z0) :
    Calls Try.prog 8 #[.slice a0 len0 cap0] w fun e w' => e = .returned (.bool true) ∧ Below w.heap.size w w' := by
  by_cases h : len0 ≤ 1048576
  · have hl : (len0 : Int) ≤ 1048576 := by omega
    have HD := Lib.hid (drawOrdersCount_c a0 len0 cap0 z0 w w0)
    clear h w0
    go_enter Try.func8, Try.ntmps8
    go_wp2_with fail
    refine HD.out.mono ?_
    rintro e W1 ⟨sl, cs, rfl, ho, hl21, hs66, hB⟩
    obtain ⟨a, cap, rfl, hn⟩ := cmds_of_own ho
    have HBL := Lib.hid hB
    have HCL := Lib.hid hl21
    have HSS := Lib.hid hs66
    have HN := Lib.hid hn
    obtain ⟨n, hnn⟩ : ∃ n, ordersCount cs = n := ⟨_, rfl⟩
    have HNN := Lib.hid hnn
    have HI := Lib.hid (fun x (q : Nat) ds (h1 : ds.length ≤ 21) (h2 : ShortC 66 ds) W' (hc : CmdsAt W' x ds.length ds) => implOrdersCount_c x ds.length q ds (by omega) (h2.mono (by omega)) W' hc)
    have HI1 := Lib.hid (show Calls Try.prog 26 #[.slice a cs.length cap] W1 (CountPostU n W1) by rw [← hnn]; exact HI.out a cap cs hl21 hs66 W1 hn)
    have HS := Lib.hid (fun W' (hb : Below W1.heap.size W1 W') => show Calls Try.prog 27 #[.slice a cs.length cap] W' (CountPost n W') by rw [← hnn]; exact specOrdersCount_c a cs.length cap cs (by omega) (hs66.mono (by omega)) W' (hn.keep hb))
    have hcl21 : (cs.length : Int) ≤ 21 := by omega
    have hne : (n != n) = false := by simp
    have heq : (n == n) = true := by simp
    clear ho hn hB hl21 hs66 hnn
    go_wp2_with fail
    refine HI1.out.mono ?_
    rintro e W2 ⟨rfl, hb2⟩
    have B2 := Lib.hid hb2
    clear hb2
    go_wp2_with fail
    refine (HS.out _ B2.out).mono ?_
    rintro e W3 ⟨rfl, hb3⟩
    have B3 := Lib.hid (below_next B2.out hb3)
    clear hb3
    by_cases h0 : n < 0
    · have h0d : decide (n < 0) = true := decide_eq_true h0
      clear h0
      go_wp2
      go_ret
      exact ⟨rfl, below_next HBL.out B3.out⟩
    · have h0d : decide (n < 0) = false := decide_eq_false h0
      have HNE := Lib.hid (show ordersCount cs ≠ -1 by rw [HNN.out]; omega)
      have HREV := Lib.hid (orders_rev HNE.out)
      have hw0 : IntKind.i64.wrap ((cs.length : Int) - 1) = (cs.length : Int) - 1 := IntWalk.i64_in _ (by omega)
      clear h0
      go_wp2_with fail
      go_loopw [6, 7] (fun x i wr => RevRel cs W1 x i wr) (fun _ i _ => (intOf i + 1).toNat)
      case atStart => exact ⟨cs.length, rfl, Nat.le_refl _, by rw [List.drop_length]; exact World.ownsRow_lit (e := 26) (size := 5) W3 #[] 0 B3.out.size (by simp [maxLen]) rfl, Lib.hid (below_next B3.out (below_box _ _))⟩
      case round =>
        obtain ⟨j, rfl, hj, hown, HB⟩ := hrel
        have HO := Lib.hid hown
        by_cases hlt : 0 < j
        · obtain ⟨m, rfl⟩ : ∃ m, j = m + 1 := ⟨j - 1, by omega⟩
          have hjm : ((m + 1 : Nat) : Int) - 1 = (m : Int) := by omega
          have hm0 : (0 : Int) ≤ m := by omega
          have hml : (m : Int) < cs.length := by omega
          have hwm : IntKind.i64.wrap ((m : Int) - 1) = (m : Int) - 1 := IntWalk.i64_in _ (by omega)
          have HML := Lib.hid (show m + 1 ≤ cs.length by omega)
          obtain ⟨b, off, c, rfl, hc, d0, d1, d2, d3, d4⟩ := (HN.out.keep HB.out).node (i := m) (by omega)
          have HV := Lib.hid (rev_next hc)
          have HAL := Lib.hid (show (cs.drop (m + 1)).reverse.length ≤ 21 by rw [List.length_reverse, List.length_drop]; have := HCL.out; omega)
          obtain ⟨p, fk, fv, tk, tv⟩ := c
          simp only at d0 d1 d2 d3 d4
          rw [hjm]
          clear hj hlt hown hc hjm
          go_wp2_with (at_builtin; refine wpList_append_cmds rfl _ _ rfl W1.heap.size _ _ rfl (HO.out.alloc _) _ _ _ [(⟨p, fk, fv, tk, tv⟩ : Cmd)] rfl (cmds_lit _ (⟨p, fk, fv, tk, tv⟩ : Cmd)) (by have := HAL.out; simp only [List.length_reverse, List.length_drop, List.length_singleton] at this ⊢; omega) (by have := HB.out.size; simp; omega) ?_; intro v4 w4 ho4 hg4; have HB4 := Lib.hid ((HB.out.alloc HB.out.size _).grown hg4 (by have := HB.out.size; simp; omega) (fun k e => (HO.out.lt k e).1)); clear hg4)
          go_roundw
          case rel => exact ⟨m, rfl, by have := HML.out; omega, by rw [HV.out]; exact ho4, HB4⟩
          case measure => simp [intOf]
        · obtain rfl : j = 0 := by omega
          rw [List.drop_zero] at HO hown
          obtain ⟨ds, hds⟩ : ∃ ds, cs.reverse = ds := ⟨_, rfl⟩
          have hdl : ds.length ≤ 21 := by rw [← hds, List.length_reverse]; exact HCL.out
          have hdss : ShortC 66 ds := fun c hc => HSS.out c (by rw [← hds] at hc; exact List.mem_reverse.1 hc)
          rw [hds] at HO HREV
          obtain ⟨x5, p5, rfl, hc5⟩ := cmds_of_own HO.out
          have HI5 := Lib.hid (HI.out x5 p5 ds hdl hdss wr hc5)
          rw [HREV.out, HNN.out] at HI5
          clear hj hlt hown hc5 hdl hdss hds
          go_wp2_with fail
          refine HI5.out.mono ?_
          rintro e W5 ⟨rfl, hb5⟩
          go_wp2
          go_ret
          exact ⟨rfl, below_next HBL.out (below_next HB.out hb5)⟩
  · have hl : (1048576 : Int) < len0 := by omega
    clear h w0
    go_enter Try.func8, Try.ntmps8
    go_wp2
    go_ret
    exact ⟨rfl, Below.refl _ _⟩


set_option maxRecDepth 100000 in
theorem lifted (os : Os) (started : os.Started) (H : Type) (enc : TypeId × Value → H) :
    ReturnsInHanded {} Try.checked os 8 .any (Rows.fnOrdersCountSwapSpec.pre6 enc Try.prog Try.f8 Rows.fnOrdersCountSwapRow.domain false) (Rows.fnOrdersCountSwapSpec.post enc Try.prog Try.f8 false true false false) := by
  refine returnsInHanded_of_change (C := Try.checked) own started (by kernel_rfl) Try.func8
    (ChangeSpec.witness6 (enc := enc) (C := Try.checked) false ⟨#[], #[.slice none 0 0], []⟩ 8 (by kernel_rfl) (by kernel_rfl) (by kernel_rfl) (by kernel_rfl)) ?_
  intro W base args ds gs before hval0 hW hcnd _
  have hval : ∀ (j : Nat) t v, Try.f8.params[j]? = some t → args[j]? = some v → Value.okWide Try.prog W .any base t v := hval0
  have hW' := hW
  obtain ⟨p, q, hA0, hV, rfl, hfz, hnd⟩ := hW
  have hA : DataW.TrodAll enc Try.prog W 0 (fun _ => true) true Try.f8.params.toList args.toList ds p := hA0
  rw [Try.params8] at hA hval
  obtain ⟨v0, vs0, d0, ds0, p0, q0, hargs, rfl, rfl, h0, r0⟩ := trodAll_cons hA
  obtain ⟨rfl, rfl, rfl⟩ := trodAll_nil r0
  obtain rfl : args = #[v0] := by cases args; simp_all
  obtain ⟨rfl, rfl⟩ := trodVars_none hV
  obtain ⟨a0, len0, cap0, rfl⟩ := okWide_slice Try.underlying22 (hval 0 22 v0 rfl rfl)
  have k0 := h0
  have lt0 : ∀ x ∈ p0, x.block < W.heap.size := by obtain ⟨m, hm⟩ := k0; exact DataW.trod_lt m _ _ _ hm
  obtain ⟨z0, w0⟩ : ∃ zs, IsRow .u8 W a0 len0 cap0 zs := by
    obtain ⟨fuel, hf⟩ := h0
    rcases open_ints Try.underlying22 Try.underlying5 (by kernel_rfl) hf with ⟨hcs, _⟩ | ⟨x, l, c, zs, hcs, _, hl, hm, hz, _, hcell, hwz⟩
    · simp [Value.cells] at hcs
      obtain ⟨rfl, rfl, rfl⟩ := hcs
      exact ⟨[], .inl ⟨rfl, rfl, rfl, rfl⟩⟩
    · simp [Value.cells] at hcs
      obtain ⟨rfl, rfl, rfl⟩ := hcs
      exact ⟨zs, .inr ⟨_, rfl, hl, hm, by simpa using hz, hcell, hwz⟩⟩
  clear hA0 hval0
  refine (walk a0 len0 cap0 z0 W w0).mono fun e W' ⟨he, bel⟩ => ?_
  subst he
  exact ⟨_, rfl, _, _, _, [], _, [], hW', trodAll_mk1 (shut_bool Try.underlying4 _), (trodAll_cons_mk (Below.trod laidOut (by kernel_rfl) (of_decide_eq_true (by kernel_rfl)) k0 bel lt0) trodAll_mk0), rfl, bel.frame _, fun h => by cases h⟩

theorem over : Rows.fnOrdersCountSwapRow.holds Try.pinned (OpenSpec.ofChange Rows.fnOrdersCountSwapSpec) :=
  OpenClaim.holds_of_wide 8 Try.f8 rfl rfl rfl rfl rfl rfl rfl ⟨rfl, rfl, rfl, rfl, rfl⟩ rfl rfl rfl rfl rfl (by kernel_rfl) Try.func8 (by kernel_rfl)
    (of_decide_eq_true (by kernel_rfl)) (by unfold Func.isWrapper; first | (rw [if_pos (by decide +kernel)]; kernel_rfl) | (rw [if_neg (by decide +kernel)]; exact ⟨rfl, rfl⟩))
    (fun os started H enc _ => lifted os started H enc)

theorem proved : Rows.FnOrdersCountSwapSaid := over
end Go.Proofs.Ytpjoahddbdmbpaa.fnOrdersCountSwap
