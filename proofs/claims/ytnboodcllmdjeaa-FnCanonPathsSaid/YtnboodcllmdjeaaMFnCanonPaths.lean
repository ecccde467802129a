/-
  laws.FnCanonPaths returns true for every input, and leaves its arguments as they were.
  Conditions: none.
-/
import Derived.Test.YtnboodcllmdjeaaRows
import Derived.WalkKit
import Derived.ProofKit
import Derived.OpenShut
import Derived.ShutString
import Derived.ChangeOld
import Derived.Below
import Derived.Test.YtnboodcllmdjeaaQ7
import Derived.Test.YtnboodcllmdjeaaQ6
namespace Go.Proofs.Ytnboodcllmdjeaa.fnCanonPaths
open Go.ChangeShapes Go.WideShapes Go.ChangeAt Go.RowKit
open Go.ChangeMaps (open_string shut_string)
set_option linter.unusedVariables false

theorem own : ownKnob Try.prog.godebug = none := by kernel_rfl
theorem laidOut : laidOutB Try.prog = true := by kernel_rfl

/-- What a pair tells, its two parts named. -/
def MPost (out : List Cmd) (b : Bool) (W : World) (e : Ending) (w' : World) : Prop :=
  ∃ sl, e = .returned (.tuple #[sl, .bool b]) ∧ w'.ownsRow W.heap.size 36 5 sl out.length (flatC out) ∧ Below W.heap.size W w'

theorem move_named {r : List Cmd × Bool} {out : List Cmd} {b : Bool} {W : World} {f : Nat} {args : Array Value} (hr : r = (out, b)) (h : Calls Try.prog f args W (MovePost r W)) : Calls Try.prog f args W (MPost out b W) := by
  rw [hr] at h
  exact h

set_option maxHeartbeats 4000000 in
set_option maxRecDepth 100000 in
theorem walk (a0 : Option Addr) (len0 cap0 : Nat) (z0 : List Int) (w : World) (w0 : IsRow .u8 w a0 len0 cap0 z0) :
    Calls Try.prog 5 #[.slice a0 len0 cap0] w fun e w' => e = .returned (.bool true) ∧ Below w.heap.size w w' := by
  by_cases h : len0 ≤ 1048576
  · have hl : (len0 : Int) ≤ 1048576 := by omega
    have HD := Lib.hid (drawCanonValid_c a0 len0 cap0 z0 w w0)
    clear h w0
    go_enter Try.func5, Try.ntmps5
    go_wp2_with fail
    refine HD.out.mono ?_
    rintro e W1 ⟨sl, cs, rfl, ho, hl21, hs66, hB⟩
    obtain ⟨a, cap, rfl, hn⟩ := cmds_of_own ho
    have HBL := Lib.hid hB
    have HCL := Lib.hid hl21
    have HN := Lib.hid hn
    obtain ⟨vl, hvl⟩ : ∃ v, canonV cs = v := ⟨_, rfl⟩
    have HV := Lib.hid hvl
    have HI := Lib.hid (show Calls Try.prog 14 #[.slice a cs.length cap] W1 (BoolPost vl W1) by rw [← hvl]; exact implCanonValid_c a cs.length cap cs (by omega) (hs66.mono (by omega)) W1 hn)
    have HS := Lib.hid (fun W' (hb : Below W1.heap.size W1 W') => show Calls Try.prog 19 #[.slice a cs.length cap] W' (BoolPost vl W') by rw [← hvl]; exact specCanonValid_c a cs.length cap cs (by omega) (hs66.mono (by omega)) W' (hn.keep hb))
    have hl20 : (cs.length : Int) ≤ 21 := by omega
    clear ho hn hB hl21 hs66 hvl
    go_wp2_with fail
    refine HI.out.mono ?_
    rintro e W2 ⟨rfl, hb2⟩
    have B2 := Lib.hid hb2
    clear hb2
    go_wp2_with fail
    refine (HS.out _ B2.out).mono ?_
    rintro e W3 ⟨rfl, hb3⟩
    have B3 := Lib.hid (below_next B2.out hb3)
    clear hb3
    cases vl with
    | false =>
      go_wp2
      go_ret
      exact ⟨rfl, below_next HBL.out B3.out⟩
    | true =>
      go_wp2
      go_loopw [6] (fun vi wr => ∃ i : Nat, vi = .int .i64 i ∧ 1 ≤ i ∧ (i ≤ cs.length ∨ i = 1) ∧ Hid (Below W1.heap.size W1 wr)) (fun vi _ => cs.length - (intOf vi).toNat)
      case atStart => exact ⟨1, rfl, Nat.le_refl _, .inr rfl, B3⟩
      case round =>
        obtain ⟨i, rfl, hi1, hin, HB⟩ := hrel
        by_cases hlt : i < cs.length
        · have hlt' : (i : Int) < cs.length := by omega
          have HLT := Lib.hid (show i + 1 ≤ cs.length ∨ i + 1 = 1 from .inl hlt)
          have HIL := Lib.hid hlt
          have hi0 : (1 : Int) ≤ i := by omega
          obtain ⟨b, off, d, rfl, hd, d0, d1, d2, d3, d4⟩ := (HN.out.keep HB.out).node hlt
          obtain ⟨j, rfl⟩ : ∃ j, i = j + 1 := ⟨i - 1, by omega⟩
          obtain ⟨b', off', c, e, hc, c0, c1, c2, c3, c4⟩ := (HN.out.keep HB.out).node (i := j) (by omega)
          cases e
          have HLOOK := Lib.hid (fun (k : Nat) (x : Cmd) (hx : cs[k]? = some x) (hk : k < j + 1) => (canon_look HV.out hx hd hk).1)
          have HBF := Lib.hid (bef_look (canon_look HV.out hc hd (by omega)).2)
          have HDN := Lib.hid (And.intro d0 (And.intro d1 (And.intro d2 (And.intro d3 d4))))
          have HCN := Lib.hid (And.intro c0 (And.intro c1 (And.intro c2 (And.intro c3 c4))))
          have hj0 : (0 : Int) ≤ j := by omega
          have hjl : (j : Int) + 1 < cs.length := by omega
          have hjl2 : (j : Int) < cs.length := by omega
          clear hlt hin hi1 hi0 hc hd d1 d2 d3 d4 c0 c1 c2 c3 c4
          obtain ⟨wr0, rfl⟩ : ∃ X, X = wr := ⟨_, rfl⟩
          go_wp2
          go_loopw [7] (fun vk wr2 => ∃ k : Nat, vk = .int .i64 k ∧ k ≤ j + 1 ∧ Hid (Below wr0.heap.size wr0 wr2)) (fun vk _ => j + 1 - (intOf vk).toNat)
          case atStart => exact ⟨0, rfl, Nat.zero_le _, Below.refl _ _⟩
          case round =>
            obtain ⟨k, rfl, hk, HK⟩ := hrel
            by_cases hkl : k < j + 1
            · have hkl' : (k : Int) < (j : Int) + 1 := by omega
              obtain ⟨b', off', x, e, hx, y0, -⟩ := ((HN.out.keep HB.out).keep HK.out).node (i := k) (by have := HIL.out; omega)
              cases e
              have hne := toList_ne (HLOOK.out k x hx hkl)
              have z0 := cell_kept HK.out d0
              have HKL := Lib.hid hkl
              have hkl3 : (k : Int) < cs.length := by have := HIL.out; omega
              obtain ⟨xp, xa, xb, xc, xd⟩ := x
              simp only at y0 hne
              clear hk hkl hx
              go_upto_region 14 with (fail)
              go_quiet (fail)
              go_wp2
              go_roundw
              case rel => exact ⟨k + 1, by go_num, HKL.out, below_drewN HK.out _⟩
              case measure => have := HKL.out; simp [intOf]; omega
            · have hkl' : ¬ ((k : Int) < (j : Int) + 1) := by omega
              have HDN2 := Lib.hid (show _ ∧ _ ∧ _ ∧ _ ∧ _ from ⟨cell_kept HK.out HDN.out.1, cell_kept HK.out HDN.out.2.1, cell_kept HK.out HDN.out.2.2.1, cell_kept HK.out HDN.out.2.2.2.1, cell_kept HK.out HDN.out.2.2.2.2⟩)
              have HCN2 := Lib.hid (show _ ∧ _ ∧ _ ∧ _ ∧ _ from ⟨cell_kept HK.out HCN.out.1, cell_kept HK.out HCN.out.2.1, cell_kept HK.out HCN.out.2.2.1, cell_kept HK.out HCN.out.2.2.2.1, cell_kept HK.out HCN.out.2.2.2.2⟩)
              obtain ⟨d0, d1, d2, d3, d4⟩ := HDN2.out
              obtain ⟨c0, c1, c2, c3, c4⟩ := HCN2.out
              obtain ⟨hA, hC⟩ := HBF.out
              obtain ⟨p, fk, fv, tk, tv⟩ := c
              obtain ⟨p', fk', fv', tk', tv'⟩ := d
              simp only at d0 d1 d2 d3 d4 c0 c1 c2 c3 c4 hA hC
              have HBZ := Lib.hid (fun o1 o2 => show Below W1.heap.size W1 ((wr.alloc o1).alloc o2) from below_next (below_next HB.out HK.out) (below_next (below_box wr o1) (below_box _ o2)))
              have g0 := fun o => cell_kept (below_box wr o) d0
              have g1 := fun o => cell_kept (below_box wr o) d1
              have g2 := fun o => cell_kept (below_box wr o) d2
              have g3 := fun o => cell_kept (below_box wr o) d3
              have g4 := fun o => cell_kept (below_box wr o) d4
              clear hk hkl
              by_cases hct : tk = 0
              · subst hct
                by_cases hdt : tk' = 0
                · subst hdt
                  have hlt2 : Op.bytesLess p.toList p'.toList = false := (hA (by unfold endsC; simp)).2
                  clear hA hC
                  go_wp2
                  go_roundw
                  case rel => exact ⟨j + 1 + 1, by go_num, by omega, HLT.out, HBZ.out _ _⟩
                  case measure => have := HIL.out; simp [intOf]; omega
                · have hd0 : (tk' == 0) = false := beq_eq_false_iff_ne.2 hdt
                  by_cases hdf : fk' = 1
                  · subst hdf
                    have hlt2 : Op.bytesLess p.toList p'.toList = false := (hA (by unfold endsC; simp)).2
                    clear hA hC
                    go_wp2
                    go_roundw
                    case rel => exact ⟨j + 1 + 1, by go_num, by omega, HLT.out, HBZ.out _ _⟩
                    case measure => have := HIL.out; simp [intOf]; omega
                  · have hd1 : (fk' == 1) = false := beq_eq_false_iff_ne.2 hdf
                    clear hA hC
                    go_wp2
                    go_roundw
                    case rel => exact ⟨j + 1 + 1, by go_num, by omega, HLT.out, HBZ.out _ _⟩
                    case measure => have := HIL.out; simp [intOf]; omega
              · have hc0 : (tk == 0) = false := beq_eq_false_iff_ne.2 hct
                by_cases hcf : fk = 1
                · subst hcf
                  by_cases hdt : tk' = 0
                  · subst hdt
                    have hlt2 : Op.bytesLess p.toList p'.toList = false := (hA (by unfold endsC; simp)).2
                    clear hA hC
                    go_wp2
                    go_roundw
                    case rel => exact ⟨j + 1 + 1, by go_num, by omega, HLT.out, HBZ.out _ _⟩
                    case measure => have := HIL.out; simp [intOf]; omega
                  · have hd0 : (tk' == 0) = false := beq_eq_false_iff_ne.2 hdt
                    by_cases hdf : fk' = 1
                    · subst hdf
                      have hlt2 : Op.bytesLess p.toList p'.toList = false := (hA (by unfold endsC; simp)).2
                      clear hA hC
                      go_wp2
                      go_roundw
                      case rel => exact ⟨j + 1 + 1, by go_num, by omega, HLT.out, HBZ.out _ _⟩
                      case measure => have := HIL.out; simp [intOf]; omega
                    · have hd1 : (fk' == 1) = false := beq_eq_false_iff_ne.2 hdf
                      clear hA hC
                      go_wp2
                      go_roundw
                      case rel => exact ⟨j + 1 + 1, by go_num, by omega, HLT.out, HBZ.out _ _⟩
                      case measure => have := HIL.out; simp [intOf]; omega
                · have hc1 : (fk == 1) = false := beq_eq_false_iff_ne.2 hcf
                  have hce : endsC ⟨p, fk, fv, tk, tv⟩ = false := by unfold endsC; simp [hc0, hc1]
                  by_cases hdt : tk' = 0
                  · subst hdt
                    exact absurd (hA (by unfold endsC; simp)).1 (by rw [hce]; decide)
                  · have hd0 : (tk' == 0) = false := beq_eq_false_iff_ne.2 hdt
                    by_cases hdf : fk' = 1
                    · subst hdf
                      exact absurd (hA (by unfold endsC; simp)).1 (by rw [hce]; decide)
                    · have hd1 : (fk' == 1) = false := beq_eq_false_iff_ne.2 hdf
                      have hgt2 : (!Op.bytesLess p.toList p'.toList && !(p.toList == p'.toList)) = false := (gtr_eq p p').trans (hC (by unfold endsC; simp [hd0, hd1]) hce)
                      have hlt3 : Op.bytesLess p'.toList p.toList = false := hC (by unfold endsC; simp [hd0, hd1]) hce
                      clear hA hC
                      go_wp2
                      go_roundw
                      case rel => exact ⟨j + 1 + 1, by go_num, by omega, HLT.out, HBZ.out _ _⟩
                      case measure => have := HIL.out; simp [intOf]; omega
        · have hge : ¬ ((i : Int) < cs.length) := by omega
          clear hlt hin hi1
          go_wp2
          go_ret
          exact ⟨rfl, below_next HBL.out HB.out⟩
  · have hl : (1048576 : Int) < len0 := by omega
    clear h w0
    go_enter Try.func5, Try.ntmps5
    go_wp2
    go_ret
    exact ⟨rfl, Below.refl _ _⟩


set_option maxRecDepth 100000 in
theorem lifted (os : Os) (started : os.Started) (H : Type) (enc : TypeId × Value → H) :
    ReturnsInHanded {} Try.checked os 5 .any (Rows.fnCanonPathsSpec.pre6 enc Try.prog Try.f5 Rows.fnCanonPathsRow.domain false) (Rows.fnCanonPathsSpec.post enc Try.prog Try.f5 false true false false) := by
  refine returnsInHanded_of_change (C := Try.checked) own started (by kernel_rfl) Try.func5
    (ChangeSpec.witness6 (enc := enc) (C := Try.checked) false ⟨#[], #[.slice none 0 0], []⟩ 8 (by kernel_rfl) (by kernel_rfl) (by kernel_rfl) (by kernel_rfl)) ?_
  intro W base args ds gs before hval0 hW hcnd _
  have hval : ∀ (j : Nat) t v, Try.f5.params[j]? = some t → args[j]? = some v → Value.okWide Try.prog W .any base t v := hval0
  have hW' := hW
  obtain ⟨p, q, hA0, hV, rfl, hfz, hnd⟩ := hW
  have hA : DataW.TrodAll enc Try.prog W 0 (fun _ => true) true Try.f5.params.toList args.toList ds p := hA0
  rw [Try.params5] at hA hval
  obtain ⟨v0, vs0, d0, ds0, p0, q0, hargs, rfl, rfl, h0, r0⟩ := trodAll_cons hA
  obtain ⟨rfl, rfl, rfl⟩ := trodAll_nil r0
  obtain rfl : args = #[v0] := by cases args; simp_all
  obtain ⟨rfl, rfl⟩ := trodVars_none hV
  obtain ⟨a0, len0, cap0, rfl⟩ := okWide_slice Try.underlying22 (hval 0 22 v0 rfl rfl)
  have k0 := h0
  have lt0 : ∀ x ∈ p0, x.block < W.heap.size := by obtain ⟨m, hm⟩ := k0; exact DataW.trod_lt m _ _ _ hm
  obtain ⟨z0, w0⟩ : ∃ zs, IsRow .u8 W a0 len0 cap0 zs := by
    obtain ⟨fuel, hf⟩ := h0
    rcases open_ints Try.underlying22 Try.underlying5 (by kernel_rfl) hf with ⟨hcs, _⟩ | ⟨x, l, c, zs, hcs, _, hl, hm, hz, _, hcell, hwz⟩
    · simp [Value.cells] at hcs
      obtain ⟨rfl, rfl, rfl⟩ := hcs
      exact ⟨[], .inl ⟨rfl, rfl, rfl, rfl⟩⟩
    · simp [Value.cells] at hcs
      obtain ⟨rfl, rfl, rfl⟩ := hcs
      exact ⟨zs, .inr ⟨_, rfl, hl, hm, by simpa using hz, hcell, hwz⟩⟩
  clear hA0 hval0
  refine (walk a0 len0 cap0 z0 W w0).mono fun e W' ⟨he, bel⟩ => ?_
  subst he
  exact ⟨_, rfl, _, _, _, [], _, [], hW', trodAll_mk1 (shut_bool Try.underlying4 _), (trodAll_cons_mk (Below.trod laidOut (by kernel_rfl) (of_decide_eq_true (by kernel_rfl)) k0 bel lt0) trodAll_mk0), rfl, bel.frame _, fun h => by cases h⟩

theorem over : Rows.fnCanonPathsRow.holds Try.pinned (OpenSpec.ofChange Rows.fnCanonPathsSpec) :=
  OpenClaim.holds_of_wide 5 Try.f5 rfl rfl rfl rfl rfl rfl rfl ⟨rfl, rfl, rfl, rfl, rfl⟩ rfl rfl rfl rfl rfl (by kernel_rfl) Try.func5 (by kernel_rfl)
    (of_decide_eq_true (by kernel_rfl)) (by unfold Func.isWrapper; first | (rw [if_pos (by decide +kernel)]; kernel_rfl) | (rw [if_neg (by decide +kernel)]; exact ⟨rfl, rfl⟩))
    (fun os started H enc _ => lifted os started H enc)

theorem proved : Rows.FnCanonPathsSaid := over
end Go.Proofs.Ytnboodcllmdjeaa.fnCanonPaths
