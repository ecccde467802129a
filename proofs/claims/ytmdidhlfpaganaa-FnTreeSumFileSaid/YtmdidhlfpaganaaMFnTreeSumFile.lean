/-
  laws.FnTreeSumFile returns true for every input, and leaves its arguments as they were.
  Conditions: none.
-/
import Derived.Test.YtmdidhlfpaganaaRows
import Derived.WalkKit
import Derived.ProofKit
import Derived.OpenShut
import Derived.ShutString
import Derived.ChangeOld
import Derived.Below
import Derived.Test.YtmdidhlfpaganaaK5
namespace Go.Proofs.Ytmdidhlfpaganaa.fnTreeSumFile
open Go.ChangeShapes Go.WideShapes Go.ChangeAt Go.RowKit
open Go.ChangeMaps (open_string shut_string)
set_option linter.unusedVariables false

theorem own : ownKnob Try.prog.godebug = none := by kernel_rfl
theorem laidOut : laidOutB Try.prog = true := by kernel_rfl

set_option maxHeartbeats 2000000 in
set_option maxRecDepth 100000 in
theorem walk (a0 : Option Addr) (len0 cap0 : Nat) (z0 : List Int) (w : World) (w0 : IsRow .u8 w a0 len0 cap0 z0) :
    Calls Try.prog 4 #[.slice a0 len0 cap0] w fun e w' => e = .returned (.bool true) ∧ Below w.heap.size w w' := by
  by_cases h : len0 ≤ 1048576
  · have hl : (len0 : Int) ≤ 1048576 := by omega
    have HD := Lib.hid (drawTreeSum_c a0 len0 cap0 z0 w w0)
    clear h w0
    go_enter Try.func4, Try.ntmps4
    go_wp2_with fail
    refine HD.out.mono ?_
    rintro e W1 ⟨sl, ns, s, rfl, hs, hd⟩
    obtain ⟨a, cap, rfl, hn⟩ := nodes_of_own hd.1
    have HN := Lib.hid hn
    have hlen := hd.2.1
    have HL := Lib.hid hlen
    have HSS := Lib.hid hs
    have HSH := Lib.hid hd.2.2.1
    have HBL := Lib.hid hd.2.2.2
    obtain ⟨r, hr⟩ : ∃ r, treeSum ns s = r := ⟨_, rfl⟩
    have HI := Lib.hid (fun W' (hb : Below W1.heap.size W1 W') => show Calls Try.prog 13 #[.slice a ns.length cap, .string s] W' (NumPost r W') by
      rw [← hr]; exact implTreeSum_c a ns.length cap ns s (by omega) (hd.2.2.1.mono (by omega)) (by omega) W' (hn.keep hb))
    have HS := Lib.hid (fun W' (hb : Below W1.heap.size W1 W') => show Calls Try.prog 14 #[.slice a ns.length cap, .string s] W' (NumPost r W') by
      rw [← hr]; exact specTreeSum_c a ns.length cap ns s (by omega) (hd.2.2.1.mono (by omega)) (by omega) W' (hn.keep hb))
    have HR := Lib.hid hr
    obtain ⟨k, v, hkv⟩ : ∃ k v, treeGet ns s = (k, v) := ⟨_, _, rfl⟩
    have HG := Lib.hid (fun W' (hb : Below W1.heap.size W1 W') => show Calls Try.prog 17 #[.slice a ns.length cap, .string s] W' (ConRet k v W') by
      have := implTreeGet_c a ns.length cap ns s (by omega) (hd.2.2.1.mono (by omega)) (by omega) W' (hn.keep hb)
      rwa [hkv] at this)
    have HKV := Lib.hid hkv
    have hrr : (r != r) = false := by simp
    have hre : (r == r) = true := by simp
    clear hn hd hr hkv hs
    go_wp2_with fail
    refine (HI.out _ (Below.refl _ _)).mono ?_
    rintro e W2 ⟨rfl, hb2⟩
    have HB2 := Lib.hid hb2
    clear hb2
    go_wp2_with fail
    refine (HS.out _ HB2.out).mono ?_
    rintro e W3 ⟨rfl, hb3⟩
    have HB3 := Lib.hid (below_next HB2.out hb3)
    clear hb3
    by_cases hneg : r < 0
    · go_wp2
      go_ret
      exact ⟨rfl, below_next HBL.out HB3.out⟩
    · have hpos : 0 ≤ r := by omega
      have HV := Lib.hid (treeSum_pos (ns := ns) (p := s) (by rw [HR.out]; exact hpos))
      have HGV := Lib.hid (show getT ns s = (k, v) by rw [← HKV.out, treeGet_eq HV.out.1 HV.out.2])
      have hvb := getT_valid HV.out.1 s
      rw [HGV.out] at hvb
      have HVB := Lib.hid hvb
      clear hneg hvb
      go_wp2_with fail
      refine (HG.out _ HB3.out).mono ?_
      rintro e W4 ⟨rfl, hb4⟩
      have HB4 := Lib.hid (below_next HB3.out hb4)
      clear hb4
      unfold con
      go_upto_region 9 with (fail)
      have x0 : (W4.alloc (.cells #[.int .i64 k, .int .i64 v] 31)).cell? ⟨W4.heap.size, 0, none⟩ = some (.int .i64 k) := by simp
      have x1 : (W4.alloc (.cells #[.int .i64 k, .int .i64 v] 31)).cell? ⟨W4.heap.size, 1, none⟩ = some (.int .i64 v) := by simp
      have HB5 := Lib.hid (below_next HB4.out (below_box W4 (.cells #[.int .i64 k, .int .i64 v] 31)))
      generalize W4.alloc (.cells #[.int .i64 k, .int .i64 v] 31) = W5 at x0 x1 HB5 ⊢
      by_cases hk : k = 2
      · subst hk
        have hv2 := HVB.out
        unfold validB at hv2
        simp only [decide_eq_true_eq] at hv2
        have v0 : 0 ≤ v := by omega
        have v9 : v ≤ 99 := by omega
        clear hv2
        obtain ⟨v', hv'⟩ : ∃ v', v' = (v + 1) % 100 := ⟨_, rfl⟩
        have hrem : (v + 1).tmod 100 = v' := by rw [hv', Int.tmod_eq_emod_of_nonneg (by omega)]
        obtain ⟨out, ho, hso⟩ := file_put HV.out.1 HV.out.2 HGV.out (v' := v') (by omega) (by omega) (by omega)
        have HPU := Lib.hid (show Calls Try.prog 15 #[.slice a ns.length cap, .string s, .agg #[.int .i64 2, .int .i64 v']] W5 (TPost (some out) W5.heap.size W5) by
          rw [← ho]; exact implTreePut_c a ns.length cap ns s 2 v' (by omega) (HSH.out.mono (by omega)) (by have := HSS.out; omega) W5 (HN.out.keep HB5.out))
        have HOL := Lib.hid (show out.length ≤ 10 from ((validT_iff _).1 (treePut_some ho).2.2.2.2).2.2)
        have HOS := Lib.hid (show Short 66 out by rw [(treePut_some ho).2.2.2.1]; exact short_put (HSH.out.mono (by omega)) HSS.out)
        rw [HR.out] at hso
        have HSO := Lib.hid hso
        clear hv' ho hso
        go_wp2_with fail
        refine HPU.out.mono ?_
        rintro e W6 ⟨s6, out6, b6, rfl, hc6, ho6, hb6⟩
        obtain ⟨rfl, rfl⟩ : b6 = true ∧ out6 = out := by
          rcases hc6 with ⟨h1, h2⟩ | ⟨_, h2, _⟩
          · exact ⟨h1, (Option.some.inj h2).symm⟩
          · cases h2
        obtain ⟨x6, p6, rfl, hn6⟩ := nodes_of_own ho6
        have HB6 := Lib.hid (below_next HB5.out hb6)
        have HI6 := Lib.hid (implTreeSum_c x6 out6.length p6 out6 s (by have := HOL.out; omega) (HOS.out.mono (by omega)) (by have := HSS.out; omega) W6 hn6)
        clear hc6 ho6 hb6 hn6 x0 x1
        go_wp2_with fail
        refine HI6.out.mono ?_
        rintro e W7 ⟨rfl, hb7⟩
        have hne : (treeSum out6 s != r) = true := by simpa using HSO.out
        have HB7 := Lib.hid (below_next HBL.out (below_next HB6.out hb7))
        clear hb7
        go_wp2
        go_ret
        exact ⟨rfl, HB7.out⟩
      · have hk2 : (k == 2) = false := beq_eq_false_iff_ne.2 hk
        have hk2' : (k != 2) = true := by simp [bne, hk2]
        clear hk
        go_wp2
        go_ret
        exact ⟨rfl, below_next HBL.out HB5.out⟩
  · have hl : (1048576 : Int) < len0 := by omega
    clear h w0
    go_enter Try.func4, Try.ntmps4
    go_wp2
    go_ret
    exact ⟨rfl, Below.refl _ _⟩


set_option maxRecDepth 100000 in
theorem lifted (os : Os) (started : os.Started) (H : Type) (enc : TypeId × Value → H) :
    ReturnsInHanded {} Try.checked os 4 .any (Rows.fnTreeSumFileSpec.pre6 enc Try.prog Try.f4 Rows.fnTreeSumFileRow.domain false) (Rows.fnTreeSumFileSpec.post enc Try.prog Try.f4 false true false false) := by
  refine returnsInHanded_of_change (C := Try.checked) own started (by kernel_rfl) Try.func4
    (ChangeSpec.witness6 (enc := enc) (C := Try.checked) false ⟨#[], #[.slice none 0 0], []⟩ 8 (by kernel_rfl) (by kernel_rfl) (by kernel_rfl) (by kernel_rfl)) ?_
  intro W base args ds gs before hval0 hW hcnd _
  have hval : ∀ (j : Nat) t v, Try.f4.params[j]? = some t → args[j]? = some v → Value.okWide Try.prog W .any base t v := hval0
  have hW' := hW
  obtain ⟨p, q, hA0, hV, rfl, hfz, hnd⟩ := hW
  have hA : DataW.TrodAll enc Try.prog W 0 (fun _ => true) true Try.f4.params.toList args.toList ds p := hA0
  rw [Try.params4] at hA hval
  obtain ⟨v0, vs0, d0, ds0, p0, q0, hargs, rfl, rfl, h0, r0⟩ := trodAll_cons hA
  obtain ⟨rfl, rfl, rfl⟩ := trodAll_nil r0
  obtain rfl : args = #[v0] := by cases args; simp_all
  obtain ⟨rfl, rfl⟩ := trodVars_none hV
  obtain ⟨a0, len0, cap0, rfl⟩ := okWide_slice Try.underlying22 (hval 0 22 v0 rfl rfl)
  have k0 := h0
  have lt0 : ∀ x ∈ p0, x.block < W.heap.size := by obtain ⟨m, hm⟩ := k0; exact DataW.trod_lt m _ _ _ hm
  obtain ⟨z0, w0⟩ : ∃ zs, IsRow .u8 W a0 len0 cap0 zs := by
    obtain ⟨fuel, hf⟩ := h0
    rcases open_ints Try.underlying22 Try.underlying5 (by kernel_rfl) hf with ⟨hcs, _⟩ | ⟨x, l, c, zs, hcs, _, hl, hm, hz, _, hcell, hwz⟩
    · simp [Value.cells] at hcs
      obtain ⟨rfl, rfl, rfl⟩ := hcs
      exact ⟨[], .inl ⟨rfl, rfl, rfl, rfl⟩⟩
    · simp [Value.cells] at hcs
      obtain ⟨rfl, rfl, rfl⟩ := hcs
      exact ⟨zs, .inr ⟨_, rfl, hl, hm, by simpa using hz, hcell, hwz⟩⟩
  clear hA0 hval0
  refine (walk a0 len0 cap0 z0 W w0).mono fun e W' ⟨he, bel⟩ => ?_
  subst he
  exact ⟨_, rfl, _, _, _, [], _, [], hW', trodAll_mk1 (shut_bool Try.underlying4 _), (trodAll_cons_mk (Below.trod laidOut (by kernel_rfl) (of_decide_eq_true (by kernel_rfl)) k0 bel lt0) trodAll_mk0), rfl, bel.frame _, fun h => by cases h⟩

theorem over : Rows.fnTreeSumFileRow.holds Try.pinned (OpenSpec.ofChange Rows.fnTreeSumFileSpec) :=
  OpenClaim.holds_of_wide 4 Try.f4 rfl rfl rfl rfl rfl rfl rfl ⟨rfl, rfl, rfl, rfl, rfl⟩ rfl rfl rfl rfl rfl (by kernel_rfl) Try.func4 (by kernel_rfl)
    (of_decide_eq_true (by kernel_rfl)) (by unfold Func.isWrapper; first | (rw [if_pos (by decide +kernel)]; kernel_rfl) | (rw [if_neg (by decide +kernel)]; exact ⟨rfl, rfl⟩))
    (fun os started H enc _ => lifted os started H enc)

theorem proved : Rows.FnTreeSumFileSaid := over
end Go.Proofs.Ytmdidhlfpaganaa.fnTreeSumFile
