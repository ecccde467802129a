/-
  laws.FnClashText returns true for every input, and leaves its arguments as they were.
  Conditions: none.
-/
import Derived.Test.YtohdpbalajjjiaaGreatRows
import Derived.WalkKit
import Derived.ProofKit
import Derived.OpenShut
import Derived.ShutString
import Derived.ChangeOld
import Derived.Below
import Derived.Test.YtohdpbalajjjiaaGreatQ10
import Derived.Test.YtohdpbalajjjiaaGreatQ6
import Derived.Test.YtohdpbalajjjiaaGreatQ9
import Derived.Test.YtohdpbalajjjiaaGreatQ8
namespace Go.Proofs.YtohdpbalajjjiaaGreat.fnClashText
open Go.ChangeShapes Go.WideShapes Go.ChangeAt Go.RowKit
open Go.ChangeMaps (open_string shut_string)
set_option linter.unusedVariables false

theorem own : ownKnob Tryz.prog.godebug = none := by kernel_rfl
theorem laidOut : laidOutB Tryz.prog = true := by kernel_rfl

def CountRel (s : ByteArray) (w wl : World) (n i : Value) (wr : World) : Prop :=
  ∃ k : Nat, i = .int .i64 k ∧ k ≤ s.size ∧ n = .int .i64 (nlTo s k : Nat) ∧ wr = wl

set_option maxHeartbeats 4000000 in
set_option maxRecDepth 100000 in
theorem walk (a0 : Option Addr) (len0 cap0 : Nat) (z0 : List Int) (w : World) (w0 : IsRow .u8 w a0 len0 cap0 z0) :
    Calls Tryz.prog 3 #[.slice a0 len0 cap0] w fun e w' => e = .returned (.bool true) ∧ Below w.heap.size w w' := by
  by_cases h : len0 ≤ 1048576
  · have hl : (len0 : Int) ≤ 1048576 := by omega
    have HD := Lib.hid (drawClashText_c a0 len0 cap0 z0 w w0)
    clear h w0
    go_enter Tryz.func3, Tryz.ntmps3
    go_wp2_with fail
    refine HD.out.mono ?_
    rintro e W1 ⟨v1, us, v2, bs, rfl, o1, l1, s1, o2, l2, s2, hB⟩
    obtain ⟨a, c1, rfl, hA⟩ := cmds_of_own o1
    obtain ⟨b, c2, rfl, hBB⟩ := cmds_of_own o2
    have HBL := Lib.hid hB
    obtain ⟨cl, hcl⟩ : ∃ cl, clashesL us bs = cl := ⟨_, rfl⟩
    have HI := Lib.hid (implClashText_c a us.length c1 us b bs.length c2 bs (by omega) (by omega) (s1.mono (by omega)) (s2.mono (by omega)) W1 hA hBB)
    have HS := Lib.hid (fun W' (hb : Below W1.heap.size W1 W') => specClashText_c a us.length c1 us b bs.length c2 bs (by omega) (by omega) (s1.mono (by omega)) (s2.mono (by omega)) W' (hA.keep hb) (hBB.keep hb))
    have HC := Lib.hid (fun W' (hb : Below W1.heap.size W1 W') => show Calls Tryz.prog 8 #[.slice a us.length c1, .slice b bs.length c2] W' (ClashPost cl W') by rw [← hcl]; exact implClashes_c a us.length c1 us b bs.length c2 bs (by omega) (by omega) (s1.mono (by omega)) (s2.mono (by omega)) W' (hA.keep hb) (hBB.keep hb))
    have HA := Lib.hid hA
    have HBB := Lib.hid hBB
    have HSH := Lib.hid (And.intro s1 s2)
    have hL1 : (us.length : Int) ≤ 21 := by omega
    have hL2 : (bs.length : Int) ≤ 21 := by omega
    obtain ⟨s, hs⟩ : ∃ s, clashText us bs = s := ⟨_, rfl⟩
    rw [hs] at HI
    replace HS := Lib.hid (fun W' (hb : Below W1.heap.size W1 W') => hs ▸ HS.out W' hb)
    have HN := Lib.hid (show nlTo s s.size = cl.length by rw [← hs, ← hcl]; exact clashText_count us bs)
    have HZ := Lib.hid (show cl.length = 0 → s = ⟨#[]⟩ from fun h => by rw [← hs]; exact clashText_nil (by rw [hcl]; exact h))
    have HF := Lib.hid (show ∀ x, cl[0]? = some x → ∃ c d, us[x.1]? = some c ∧ bs[x.2]? = some d ∧ (lineC c d).size ≤ s.size ∧ s.extract 0 (lineC c d).size = lineC c d from fun x hx => by
      rw [← hcl] at hx
      obtain ⟨c, d, h1, h2, _⟩ := clash_mem hx
      exact ⟨c, d, h1, h2, by rw [← hs]; exact clashText_first hx h1 h2⟩)
    have hsz : (s.size : Int) ≤ 40000000 := by
      have h1 := linesL_size us bs (clashesL us bs)
      have h2 := clash_small us bs
      have : s.size ≤ 36 * (clashesL us bs).length := by rw [← hs]; exact h1
      omega
    have hcs : (cl.length : Int) ≤ 1000000 := by rw [← hcl]; have := clash_small us bs; omega
    clear o1 l1 s1 o2 l2 s2 hB hA hBB hcl hs
    go_wp2_with fail
    refine HI.out.mono ?_
    rintro e W2 ⟨rfl, hb2⟩
    have B2 := Lib.hid hb2
    clear hb2
    go_wp2_with fail
    refine (HS.out _ B2.out).mono ?_
    rintro e W3 ⟨rfl, hb3⟩
    have B3 := Lib.hid (below_next B2.out hb3)
    clear hb3
    go_wp2_with fail
    refine (HC.out _ B3.out).mono ?_
    rintro e W4 ⟨⟨v4, rfl, o4⟩, hb4⟩
    obtain ⟨a4, c4, rfl, h4⟩ := clash_of_own o4
    have B4 := Lib.hid (below_next B3.out hb4)
    obtain ⟨nc, hnc⟩ : ∃ nc, cl.length = nc := ⟨_, rfl⟩
    rw [hnc] at h4 HN HZ hcs
    rw [hnc]
    have HR := Lib.hid h4
    clear hnc
    clear o4 h4 hb4
    go_wp2_with fail
    go_loopw [8, 9] (fun n i wr => CountRel s w W4 n i wr) (fun _ i _ => s.size - (intOf i).toNat)
    case atStart => exact ⟨0, rfl, Nat.zero_le _, rfl, rfl⟩
    case round =>
      obtain ⟨k, rfl, hk, rfl, rfl⟩ := hrel
      by_cases hlt : k < s.size
      · have hlt' : (k : Int) < s.size := by omega
        have hw1 : IntKind.i64.wrap ((k : Int) + 1) = (k : Int) + 1 := IntWalk.i64_in _ (by omega)
        have hle := nlTo_le s k
        have hw2 : IntKind.i64.wrap ((nlTo s k : Int) + 1) = (nlTo s k : Int) + 1 := IntWalk.i64_in _ (by omega)
        have HST := Lib.hid (nlTo_step hlt)
        have hix : s.data.toList[k]'(by rw [blen]; exact hlt) = s[k]'hlt := by rw [Array.getElem_toList]; rfl
        obtain ⟨bb, hbb⟩ : ∃ bb, (((s[k]'hlt).toNat : Int) == 10) = bb := ⟨_, rfl⟩
        have HST2 := Lib.hid (show nlTo s (k + 1) = nlTo s k + (if bb = true then 1 else 0) by
          rw [HST.out, hix]
          congr 1
          rw [← hbb]
          by_cases h10 : s[k]'hlt = 10
          · rw [if_pos h10, h10]; rfl
          · rw [if_neg h10, if_neg]
            intro h
            exact h10 (UInt8.toNat_inj.1 (by have := eq_of_beq h; have e : (10 : UInt8).toNat = 10 := rfl; rw [e]; omega)))
        clear HST hix
        have HLT := Lib.hid hlt
        cases bb with
        | true =>
          go_wp2
          go_roundw
          case rel => exact ⟨k + 1, by go_num, HLT.out, by rw [HST2.out, if_pos rfl]; go_num, rfl⟩
          case measure => have := HLT.out; simp [intOf]; omega
        | false =>
          go_wp2
          go_roundw
          case rel => exact ⟨k + 1, by go_num, HLT.out, by rw [HST2.out, if_neg Bool.false_ne_true]; rfl, rfl⟩
          case measure => have := HLT.out; simp [intOf]; omega
      · have hge : (s.size : Int) ≤ k := by omega
        obtain rfl : k = s.size := by omega
        rw [HN.out]
        clear hk hlt
        by_cases h0 : nc = 0
        · have h0' : ((nc : Int) == 0) = true := by rw [h0]; rfl
          have hse := HZ.out h0
          subst hse
          go_wp2
          go_ret
          exact ⟨rfl, below_next HBL.out B4.out⟩
        · have h0' : ((nc : Int) == 0) = false := beq_eq_false_iff_ne.2 (by omega)
          have h0p : (0 : Int) < nc := by omega
          have h0n : 0 < nc := by omega
          have h0d : decide (0 < nc) = true := decide_eq_true h0n
          have h0e : decide ((0 : Int) < nc) = true := decide_eq_true h0p
          obtain ⟨g, o0, y, rfl, hy, y1, y2⟩ := HR.out.node (i := 0) (by omega)
          obtain ⟨c, d, hc, hd, hsl, hsx⟩ := HF.out y hy
          obtain ⟨i1, i2⟩ := y
          simp only [Nat.zero_mul, Nat.add_zero] at hc hd y1 y2
          have hi1 : i1 < us.length := (List.getElem?_eq_some_iff.1 hc).1
          have hi2 : i2 < bs.length := (List.getElem?_eq_some_iff.1 hd).1
          obtain ⟨b, off, c', rfl, hc', d0, d1, d2, d3, d4⟩ := (HA.out.keep B4.out).node (i := i1) hi1
          obtain ⟨b', off', d', rfl, hd', e0, e1, e2, e3, e4⟩ := (HBB.out.keep B4.out).node (i := i2) hi2
          obtain rfl := Option.some.inj (hc.symm.trans hc')
          obtain rfl := Option.some.inj (hd.symm.trans hd')
          have HT1 := Lib.hid (fun w => implCmdText_c c (Nat.le_trans (HSH.out.1.at hc) (by omega)) w)
          have HT2 := Lib.hid (fun w => implCmdText_c d (Nat.le_trans (HSH.out.2.at hd) (by omega)) w)
          have z1 := textC_size c
          have z2 := textC_size d
          have HSL := Lib.hid hsl
          have HSX := Lib.hid hsx
          obtain ⟨p, fk, fv, tk, tv⟩ := c
          obtain ⟨q, fk', fv', tk', tv'⟩ := d
          unfold lineC at HSL HSX
          unfold cmdV at HT1 HT2
          simp only at d0 d1 d2 d3 d4 e0 e1 e2 e3 e4 HT1 HT2
          generalize textC ⟨p, fk, fv, tk, tv⟩ = tA at HT1 HSL HSX z1
          generalize textC ⟨q, fk', fv', tk', tv'⟩ = tB at HT2 HSL HSX z2
          have y3 : ¬ 9223372036854775807 < tA.size + 3 := by omega
          have y4 : ¬ 9223372036854775807 < tA.size + 3 + tB.size := by omega
          have y5 : ¬ 9223372036854775807 < tA.size + 3 + tB.size + 1 := by omega
          have q1 : (i1 : Int) < us.length := by omega
          have q2 : (i2 : Int) < bs.length := by omega
          have HSA := Lib.hid (show wr.drew.cell? ⟨g, o0, none⟩ = some (.int .i64 i1) ∧ wr.drew.cell? ⟨g, o0 + 1, none⟩ = some (.int .i64 i2) ∧ wr.drew.cell? ⟨b, off + i1 * 5, none⟩ = some (.string p) ∧ wr.drew.cell? ⟨b, off + i1 * 5 + 1, none⟩ = some (.int .i64 fk) ∧ wr.drew.cell? ⟨b, off + i1 * 5 + 2, none⟩ = some (.int .i64 fv) ∧ wr.drew.cell? ⟨b, off + i1 * 5 + 3, none⟩ = some (.int .i64 tk) ∧ wr.drew.cell? ⟨b, off + i1 * 5 + 4, none⟩ = some (.int .i64 tv) ∧ wr.drew.cell? ⟨b', off' + i2 * 5, none⟩ = some (.string q) ∧ wr.drew.cell? ⟨b', off' + i2 * 5 + 1, none⟩ = some (.int .i64 fk') ∧ wr.drew.cell? ⟨b', off' + i2 * 5 + 2, none⟩ = some (.int .i64 fv') ∧ wr.drew.cell? ⟨b', off' + i2 * 5 + 3, none⟩ = some (.int .i64 tk') ∧ wr.drew.cell? ⟨b', off' + i2 * 5 + 4, none⟩ = some (.int .i64 tv') ∧ Below wr.heap.size wr wr.drew from ⟨y1, y2, d0, d1, d2, d3, d4, e0, e1, e2, e3, e4, (Below.refl _ wr).drew⟩)
          have HKP := Lib.hid (fun (u1 u2 : World) (h : u1.cell? ⟨g, o0, none⟩ = some (.int .i64 i1) ∧ u1.cell? ⟨g, o0 + 1, none⟩ = some (.int .i64 i2) ∧ u1.cell? ⟨b, off + i1 * 5, none⟩ = some (.string p) ∧ u1.cell? ⟨b, off + i1 * 5 + 1, none⟩ = some (.int .i64 fk) ∧ u1.cell? ⟨b, off + i1 * 5 + 2, none⟩ = some (.int .i64 fv) ∧ u1.cell? ⟨b, off + i1 * 5 + 3, none⟩ = some (.int .i64 tk) ∧ u1.cell? ⟨b, off + i1 * 5 + 4, none⟩ = some (.int .i64 tv) ∧ u1.cell? ⟨b', off' + i2 * 5, none⟩ = some (.string q) ∧ u1.cell? ⟨b', off' + i2 * 5 + 1, none⟩ = some (.int .i64 fk') ∧ u1.cell? ⟨b', off' + i2 * 5 + 2, none⟩ = some (.int .i64 fv') ∧ u1.cell? ⟨b', off' + i2 * 5 + 3, none⟩ = some (.int .i64 tk') ∧ u1.cell? ⟨b', off' + i2 * 5 + 4, none⟩ = some (.int .i64 tv') ∧ Below wr.heap.size wr u1) (hb : Below u1.heap.size u1 u2) => show u2.cell? ⟨g, o0, none⟩ = some (.int .i64 i1) ∧ u2.cell? ⟨g, o0 + 1, none⟩ = some (.int .i64 i2) ∧ u2.cell? ⟨b, off + i1 * 5, none⟩ = some (.string p) ∧ u2.cell? ⟨b, off + i1 * 5 + 1, none⟩ = some (.int .i64 fk) ∧ u2.cell? ⟨b, off + i1 * 5 + 2, none⟩ = some (.int .i64 fv) ∧ u2.cell? ⟨b, off + i1 * 5 + 3, none⟩ = some (.int .i64 tk) ∧ u2.cell? ⟨b, off + i1 * 5 + 4, none⟩ = some (.int .i64 tv) ∧ u2.cell? ⟨b', off' + i2 * 5, none⟩ = some (.string q) ∧ u2.cell? ⟨b', off' + i2 * 5 + 1, none⟩ = some (.int .i64 fk') ∧ u2.cell? ⟨b', off' + i2 * 5 + 2, none⟩ = some (.int .i64 fv') ∧ u2.cell? ⟨b', off' + i2 * 5 + 3, none⟩ = some (.int .i64 tk') ∧ u2.cell? ⟨b', off' + i2 * 5 + 4, none⟩ = some (.int .i64 tv') ∧ Below wr.heap.size wr u2 from ⟨cell_kept hb h.1, cell_kept hb h.2.1, cell_kept hb h.2.2.1, cell_kept hb h.2.2.2.1, cell_kept hb h.2.2.2.2.1, cell_kept hb h.2.2.2.2.2.1, cell_kept hb h.2.2.2.2.2.2.1, cell_kept hb h.2.2.2.2.2.2.2.1, cell_kept hb h.2.2.2.2.2.2.2.2.1, cell_kept hb h.2.2.2.2.2.2.2.2.2.1, cell_kept hb h.2.2.2.2.2.2.2.2.2.2.1, cell_kept hb h.2.2.2.2.2.2.2.2.2.2.2.1, below_next h.2.2.2.2.2.2.2.2.2.2.2.2 hb⟩)
          clear z1 z2 hi1 hi2 hc hd hc' hd' hy hsl hsx d0 d1 d2 d3 d4 e0 e1 e2 e3 e4 y1 y2
          go_upto_region 17 with (fail)
          go_region_held3 (fun w' => w'.cell? ⟨g, o0, none⟩ = some (.int .i64 i1) ∧ w'.cell? ⟨g, o0 + 1, none⟩ = some (.int .i64 i2) ∧ w'.cell? ⟨b, off + i1 * 5, none⟩ = some (.string p) ∧ w'.cell? ⟨b, off + i1 * 5 + 1, none⟩ = some (.int .i64 fk) ∧ w'.cell? ⟨b, off + i1 * 5 + 2, none⟩ = some (.int .i64 fv) ∧ w'.cell? ⟨b, off + i1 * 5 + 3, none⟩ = some (.int .i64 tk) ∧ w'.cell? ⟨b, off + i1 * 5 + 4, none⟩ = some (.int .i64 tv) ∧ w'.cell? ⟨b', off' + i2 * 5, none⟩ = some (.string q) ∧ w'.cell? ⟨b', off' + i2 * 5 + 1, none⟩ = some (.int .i64 fk') ∧ w'.cell? ⟨b', off' + i2 * 5 + 2, none⟩ = some (.int .i64 fv') ∧ w'.cell? ⟨b', off' + i2 * 5 + 3, none⟩ = some (.int .i64 tk') ∧ w'.cell? ⟨b', off' + i2 * 5 + 4, none⟩ = some (.int .i64 tv') ∧ Below wr.heap.size wr w')
            (first | exact HSA.out | exact HKP.out _ _ HSA.out hb5 | exact HKP.out _ _ (HKP.out _ _ HSA.out hb5) hb6)
            (first
              | (go_at_call 9; (with_reducible refine (HT1.out _).mono ?_); rintro e W5 ⟨rfl, hb5⟩)
              | (go_at_call 9; (with_reducible refine (HT2.out _).mono ?_); rintro e W6 ⟨rfl, hb6⟩))
          all_goals
            rename_i hS
            have HW7 := Lib.hid hS.2.2.2.2.2.2.2.2.2.2.2.2
            clear hS
            generalize tA ++ (⟨#[32, 124, 32]⟩ : ByteArray) ++ tB ++ ⟨#[10]⟩ = ln at HSL HSX ⊢
            have hln : (ln.size : Int) ≤ s.size := by have := HSL.out; omega
            have hx := HSX.out
            have hx1 : ((s.extract 0 ln.size).toList == ln.toList) = true := by rw [hx]; simp
            clear hx
            go_wp2
            go_ret
            exact ⟨rfl, below_next HBL.out (below_next B4.out HW7.out)⟩
  · have hl : (1048576 : Int) < len0 := by omega
    clear h w0
    go_enter Tryz.func3, Tryz.ntmps3
    go_wp2
    go_ret
    exact ⟨rfl, Below.refl _ _⟩


set_option maxRecDepth 100000 in
theorem lifted (os : Os) (started : os.Started) (H : Type) (enc : TypeId × Value → H) :
    ReturnsInHanded {} Tryz.checked os 3 .any (Rows.fnClashTextSpec.pre6 enc Tryz.prog Tryz.f3 Rows.fnClashTextRow.domain false) (Rows.fnClashTextSpec.post enc Tryz.prog Tryz.f3 false true false false) := by
  refine returnsInHanded_of_change (C := Tryz.checked) own started (by kernel_rfl) Tryz.func3
    (ChangeSpec.witness6 (enc := enc) (C := Tryz.checked) false ⟨#[], #[.slice none 0 0], []⟩ 8 (by kernel_rfl) (by kernel_rfl) (by kernel_rfl) (by kernel_rfl)) ?_
  intro W base args ds gs before hval0 hW hcnd _
  have hval : ∀ (j : Nat) t v, Tryz.f3.params[j]? = some t → args[j]? = some v → Value.okWide Tryz.prog W .any base t v := hval0
  have hW' := hW
  obtain ⟨p, q, hA0, hV, rfl, hfz, hnd⟩ := hW
  have hA : DataW.TrodAll enc Tryz.prog W 0 (fun _ => true) true Tryz.f3.params.toList args.toList ds p := hA0
  rw [Tryz.params3] at hA hval
  obtain ⟨v0, vs0, d0, ds0, p0, q0, hargs, rfl, rfl, h0, r0⟩ := trodAll_cons hA
  obtain ⟨rfl, rfl, rfl⟩ := trodAll_nil r0
  obtain rfl : args = #[v0] := by cases args; simp_all
  obtain ⟨rfl, rfl⟩ := trodVars_none hV
  obtain ⟨a0, len0, cap0, rfl⟩ := okWide_slice Tryz.underlying22 (hval 0 22 v0 rfl rfl)
  have k0 := h0
  have lt0 : ∀ x ∈ p0, x.block < W.heap.size := by obtain ⟨m, hm⟩ := k0; exact DataW.trod_lt m _ _ _ hm
  obtain ⟨z0, w0⟩ : ∃ zs, IsRow .u8 W a0 len0 cap0 zs := by
    obtain ⟨fuel, hf⟩ := h0
    rcases open_ints Tryz.underlying22 Tryz.underlying5 (by kernel_rfl) hf with ⟨hcs, _⟩ | ⟨x, l, c, zs, hcs, _, hl, hm, hz, _, hcell, hwz⟩
    · simp [Value.cells] at hcs
      obtain ⟨rfl, rfl, rfl⟩ := hcs
      exact ⟨[], .inl ⟨rfl, rfl, rfl, rfl⟩⟩
    · simp [Value.cells] at hcs
      obtain ⟨rfl, rfl, rfl⟩ := hcs
      exact ⟨zs, .inr ⟨_, rfl, hl, hm, by simpa using hz, hcell, hwz⟩⟩
  clear hA0 hval0
  refine (walk a0 len0 cap0 z0 W w0).mono fun e W' ⟨he, bel⟩ => ?_
  subst he
  exact ⟨_, rfl, _, _, _, [], _, [], hW', trodAll_mk1 (shut_bool Tryz.underlying4 _), (trodAll_cons_mk (Below.trod laidOut (by kernel_rfl) (of_decide_eq_true (by kernel_rfl)) k0 bel lt0) trodAll_mk0), rfl, bel.frame _, fun h => by cases h⟩

theorem over : Rows.fnClashTextRow.holds Tryz.pinned (OpenSpec.ofChange Rows.fnClashTextSpec) :=
  OpenClaim.holds_of_wide 3 Tryz.f3 rfl rfl rfl rfl rfl rfl rfl ⟨rfl, rfl, rfl, rfl, rfl⟩ rfl rfl rfl rfl rfl (by kernel_rfl) Tryz.func3 (by kernel_rfl)
    (of_decide_eq_true (by kernel_rfl)) (by unfold Func.isWrapper; first | (rw [if_pos (by decide +kernel)]; kernel_rfl) | (rw [if_neg (by decide +kernel)]; exact ⟨rfl, rfl⟩))
    (fun os started H enc _ => lifted os started H enc)

theorem proved : Rows.FnClashTextSaid := over
end Go.Proofs.YtohdpbalajjjiaaGreat.fnClashText
