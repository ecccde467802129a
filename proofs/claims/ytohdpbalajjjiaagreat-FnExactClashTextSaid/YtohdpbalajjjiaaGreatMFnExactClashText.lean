/-
  laws.FnExactClashText returns true for every input, and leaves its arguments as they were.
  Conditions: none.
-/
import Derived.Test.YtohdpbalajjjiaaGreatRows
import Derived.WalkKit
import Derived.ProofKit
import Derived.OpenShut
import Derived.ShutString
import Derived.ChangeOld
import Derived.Below
import Derived.Test.YtohdpbalajjjiaaGreatQ10
import Derived.Test.YtohdpbalajjjiaaGreatQ6
import Derived.Test.YtohdpbalajjjiaaGreatQ11
namespace Go.Proofs.YtohdpbalajjjiaaGreat.fnExactClashText
open Go.ChangeShapes Go.WideShapes Go.ChangeAt Go.RowKit
open Go.ChangeMaps (open_string shut_string)
set_option linter.unusedVariables false

theorem own : ownKnob Tryz.prog.godebug = none := by kernel_rfl
theorem laidOut : laidOutB Tryz.prog = true := by kernel_rfl

theorem own_farC {W W' : World} {b : Nat} {e : TypeId} {size n : Nat} {v : Value} {xs : List Value} (h : W.ownsRow b e size v n xs) {row : Value} (hg : W.grownBy W' row.ownBlock) (hd : ∀ k, v.ownBlock = some k → row.ownBlock ≠ some k) : W'.ownsRow b e size v n xs := by
  refine h.kept hg ?_
  cases hv : v.ownBlock with
  | none => exact .inl rfl
  | some k => right; exact fun e => hd k hv e.symm

set_option maxHeartbeats 4000000 in
set_option maxRecDepth 100000 in
theorem walk (a0 : Option Addr) (len0 cap0 : Nat) (cs : List Cmd) (l0 : len0 ≤ maxLen) (m0 : ShortC maxLen cs) (a1 : Option Addr) (len1 cap1 : Nat) (ds : List Cmd) (l1 : len1 ≤ maxLen) (m1 : ShortC maxLen ds) (w : World) (w0 : CmdsAt w a0 len0 cs) (w1 : CmdsAt w a1 len1 ds) :
    Calls Tryz.prog 4 #[.slice a0 len0 cap0, .slice a1 len1 cap1] w fun e w' => e = .returned (.bool true) ∧ Below w.heap.size w w' := by
  have HSZ0 := Lib.hid (fun (z : Int) (h0 : 0 ≤ z) (h1 : z ≤ 1048576) W' (hb : Below w.heap.size w W') => szCommandS_c z h0 h1 a0 len0 cap0 cs l0 m0 W' (w0.keep hb))
  have HN0 := Lib.hid w0
  have HSZ1 := Lib.hid (fun (z : Int) (h0 : 0 ≤ z) (h1 : z ≤ 1048576) W' (hb : Below w.heap.size w W') => szCommandS_c z h0 h1 a1 len1 cap1 ds l1 m1 W' (w1.keep hb))
  have HN1 := Lib.hid w1
  obtain ⟨vv, hu⟩ : ∃ vv, clashText cs ds = vv := ⟨_, rfl⟩
  have HU := Lib.hid hu
  clear w0 l0 m0 w1 l1 m1 hu
  go_enter Tryz.func4, Tryz.ntmps4
  go_wp2_with fail
  refine (HSZ0.out 1048576 (by omega) (by omega) _ (Below.refl _ _)).mono ?_
  rintro e S0 ⟨z, rfl, hz1, hz, hbz⟩
  have BS0 := Lib.hid (below_next ((Below.refl _ _)) hbz)
  clear hbz
  by_cases hneg : z < 0
  · clear hz
    go_wp2
    go_ret
    exact ⟨rfl, BS0.out⟩
  · obtain ⟨hl, hs⟩ := hz (by omega)
    have hz0 : 0 ≤ z := by omega
    have hzd : decide (z < 0) = false := decide_eq_false hneg
    have HL0 := Lib.hid hl
    have HS0 := Lib.hid hs
    clear hneg hz hl hs
    go_wp2_with fail
    refine (HSZ1.out z hz0 hz1 _ BS0.out).mono ?_
    rintro e S1 ⟨y, rfl, hy1, hz, hbz⟩
    have BS1 := Lib.hid (below_next (BS0.out) hbz)
    clear hbz
    by_cases hneg : y < 0
    · clear hz
      go_wp2
      go_ret
      exact ⟨rfl, BS1.out⟩
    · obtain ⟨hl, hs⟩ := hz (by omega)
      have hy0 : 0 ≤ y := by omega
      have hyd : decide (y < 0) = false := decide_eq_false hneg
      have HL1 := Lib.hid hl
      have HS1 := Lib.hid hs
      clear hneg hz hl hs
      have HTO0 := Lib.hid (fun W' (hb : Below w.heap.size w W') => toCommandS_c a0 len0 cap0 cs (by have := HL0.out; omega) W' (HN0.out.keep hb))
      have HLL0 := Lib.hid (show cs.length ≤ 1048576 by have := HN0.out.1; have := HL0.out; omega)
      have hnl0 : (cs.length : Int) ≤ 1048576 := by have := HLL0.out; omega
      have HS20 := Lib.hid (HS0.out.mono (show 1048576 ≤ 2097152 by omega))
      have HTO1 := Lib.hid (fun W' (hb : Below w.heap.size w W') => toCommandS_c a1 len1 cap1 ds (by have := HL1.out; omega) W' (HN1.out.keep hb))
      have HLL1 := Lib.hid (show ds.length ≤ 1048576 by have := HN1.out.1; have := HL1.out; omega)
      have hnl1 : (ds.length : Int) ≤ 1048576 := by have := HLL1.out; omega
      have HS21 := Lib.hid (HS1.out.mono (show 1048576 ≤ 2097152 by omega))
      have HSP := Lib.hid (fun x0 (p0 : Nat) x1 (p1 : Nat) W' (h0 : CmdsAt W' x0 cs.length cs) (h1 : CmdsAt W' x1 ds.length ds) => show Calls Tryz.prog 7 #[.slice x0 cs.length p0, .slice x1 ds.length p1] W' (TextPost vv W') by rw [← HU.out]; exact specClashText_c x0 cs.length p0 cs x1 ds.length p1 ds (by have := HLL0.out; omega) (by have := HLL1.out; omega) HS20.out HS21.out W' h0 h1)
      have HIM := Lib.hid (fun x0 (p0 : Nat) x1 (p1 : Nat) W' (hb : Below w.heap.size w W') (h0 : CmdsAt W' x0 cs.length cs) (h1 : CmdsAt W' x1 ds.length ds) => show Calls Tryz.prog 6 #[.slice x0 cs.length p0, .slice x1 ds.length p1] W' (TextPost vv W') by rw [← HU.out]; exact implClashText_c x0 cs.length p0 cs x1 ds.length p1 ds (by have := HLL0.out; omega) (by have := HLL1.out; omega) HS20.out HS21.out W' h0 h1)
      go_wp2_with fail
      refine (HTO0.out _ BS1.out).mono ?_
      rintro e Y11 ⟨⟨s2, rfl, ho2⟩, hb2⟩
      obtain ⟨xm0, pm0, rfl, hn2⟩ := cmds_of_own ho2
      have Y11B := Lib.hid (below_next BS1.out hb2)
      have HM0 := Lib.hid hn2
      clear ho2 hn2 hb2
      go_wp2_with fail
      refine (HTO1.out _ Y11B.out).mono ?_
      rintro e Y12 ⟨⟨s2, rfl, ho2⟩, hb2⟩
      obtain ⟨xm1, pm1, rfl, hn2⟩ := cmds_of_own ho2
      have Y12B := Lib.hid (below_next Y11B.out hb2)
      have HM1 := Lib.hid hn2
      replace HM0 := Lib.hid (HM0.out.keep hb2)
      clear ho2 hn2 hb2
      go_wp2_with fail
      refine (HSP.out _ _ _ _ _ HM0.out HM1.out).mono ?_
      rintro e Y13 ⟨rfl, hb3⟩
      have Y13B := Lib.hid (below_next Y12B.out hb3)
      clear hb3
      go_wp2_with fail
      refine (HTO0.out _ Y13B.out).mono ?_
      rintro e Y14 ⟨⟨s4, rfl, ho4⟩, hb4⟩
      obtain ⟨xq0, pq0, rfl, hn4⟩ := cmds_of_own ho4
      have Y14B := Lib.hid (below_next Y13B.out hb4)
      have Y14Z := Lib.hid (show Y13.heap.size ≤ Y14.heap.size from hb4.size)
      have O40 := Lib.hid ho4
      have K40 := Lib.hid (fun k (e : (Value.slice xq0 cs.length pq0).ownBlock = some k) => ho4.lt k e)
      clear ho4 hn4 hb4
      go_wp2_with fail
      refine (HTO1.out _ Y14B.out).mono ?_
      rintro e Y15 ⟨⟨s4, rfl, ho4⟩, hb4⟩
      obtain ⟨xq1, pq1, rfl, hn4⟩ := cmds_of_own ho4
      have Y15B := Lib.hid (below_next Y14B.out hb4)
      have Y15Z := Lib.hid (show Y14.heap.size ≤ Y15.heap.size from hb4.size)
      have O41 := Lib.hid ho4
      have K41 := Lib.hid (fun k (e : (Value.slice xq1 ds.length pq1).ownBlock = some k) => ho4.lt k e)
      replace O40 := Lib.hid (own_below O40.out hb4)
      clear ho4 hn4 hb4
      go_wp2_with fail
      refine (HIM.out _ _ _ _ _ Y15B.out (by obtain ⟨_, _, e, h⟩ := cmds_of_own O40.out; simp at e; rw [e.1]; exact h) (by obtain ⟨_, _, e, h⟩ := cmds_of_own O41.out; simp at e; rw [e.1]; exact h)).mono ?_
      rintro e Y16 ⟨rfl, hb5⟩
      have Y16B := Lib.hid (below_next Y15B.out hb5)
      replace O40 := Lib.hid (own_below O40.out hb5)
      replace O41 := Lib.hid (own_below O41.out hb5)
      clear hb5
      go_wp2_with fail
      refine (HTO0.out _ Y16B.out).mono ?_
      rintro e Y17 ⟨⟨s7, rfl, ho7⟩, hbs⟩
      obtain ⟨x7, p7, rfl, hn7⟩ := cmds_of_own ho7
      have Y17B := Lib.hid (below_next Y16B.out hbs)
      replace O40 := Lib.hid (own_below O40.out hbs)
      replace O41 := Lib.hid (own_below O41.out hbs)
      have HE2 := Lib.hid (eqCommandS_c xq0 x7 cs.length pq0 p7 cs (by have := HLL0.out; omega) Y17 (by obtain ⟨_, _, e, h⟩ := cmds_of_own O40.out; simp at e; rw [e.1]; exact h) hn7)
      clear ho7 hn7 hbs
      go_wp2_with fail
      refine (HE2.out).mono ?_
      rintro e Y18 ⟨rfl, hbs⟩
      have Y18B := Lib.hid (below_next Y17B.out hbs)
      replace O40 := Lib.hid (own_below O40.out hbs)
      replace O41 := Lib.hid (own_below O41.out hbs)
      clear hbs
      go_wp2_with fail
      refine (HTO1.out _ Y18B.out).mono ?_
      rintro e Y19 ⟨⟨s7, rfl, ho7⟩, hbs⟩
      obtain ⟨x7, p7, rfl, hn7⟩ := cmds_of_own ho7
      have Y19B := Lib.hid (below_next Y18B.out hbs)
      replace O40 := Lib.hid (own_below O40.out hbs)
      replace O41 := Lib.hid (own_below O41.out hbs)
      have HE2 := Lib.hid (eqCommandS_c xq1 x7 ds.length pq1 p7 ds (by have := HLL1.out; omega) Y19 (by obtain ⟨_, _, e, h⟩ := cmds_of_own O41.out; simp at e; rw [e.1]; exact h) hn7)
      clear ho7 hn7 hbs
      go_wp2_with fail
      refine (HE2.out).mono ?_
      rintro e Y20 ⟨rfl, hbs⟩
      have Y20B := Lib.hid (below_next Y19B.out hbs)
      replace O40 := Lib.hid (own_below O40.out hbs)
      replace O41 := Lib.hid (own_below O41.out hbs)
      clear hbs
      go_wp2
      go_ret
      exact ⟨rfl, Y20B.out⟩


set_option maxRecDepth 100000 in
theorem lifted (os : Os) (started : os.Started) (H : Type) (enc : TypeId × Value → H) :
    ReturnsInHanded {} Tryz.checked os 4 .any (Rows.fnExactClashTextSpec.pre6 enc Tryz.prog Tryz.f4 Rows.fnExactClashTextRow.domain false) (Rows.fnExactClashTextSpec.post enc Tryz.prog Tryz.f4 false true false false) := by
  refine returnsInHanded_of_change (C := Tryz.checked) own started (by kernel_rfl) Tryz.func4
    (ChangeSpec.witness6 (enc := enc) (C := Tryz.checked) false ⟨#[], #[.slice none 0 0, .slice none 0 0], []⟩ 8 (by kernel_rfl) (by kernel_rfl) (by kernel_rfl) (by kernel_rfl)) ?_
  intro W base args ds gs before hval0 hW hcnd _
  have hval : ∀ (j : Nat) t v, Tryz.f4.params[j]? = some t → args[j]? = some v → Value.okWide Tryz.prog W .any base t v := hval0
  have hW' := hW
  obtain ⟨p, q, hA0, hV, rfl, hfz, hnd⟩ := hW
  have hA : DataW.TrodAll enc Tryz.prog W 0 (fun _ => true) true Tryz.f4.params.toList args.toList ds p := hA0
  rw [Tryz.params4] at hA hval
  obtain ⟨v0, vs0, d0, ds0, p0, q0, hargs, rfl, rfl, h0, r0⟩ := trodAll_cons hA
  obtain ⟨v1, vs1, d1, ds1, p1, q1, rfl, rfl, rfl, h1, r1⟩ := trodAll_cons r0
  obtain ⟨rfl, rfl, rfl⟩ := trodAll_nil r1
  obtain rfl : args = #[v0, v1] := by cases args; simp_all
  obtain ⟨rfl, rfl⟩ := trodVars_none hV
  obtain ⟨a0, len0, cap0, rfl⟩ := okWide_slice Tryz.underlying37 (hval 0 37 v0 rfl rfl)
  have k0 := h0
  have lt0 : ∀ x ∈ p0, x.block < W.heap.size := by obtain ⟨m, hm⟩ := k0; exact DataW.trod_lt m _ _ _ hm
  obtain ⟨z0, w0, l0, m0⟩ : ∃ cs, CmdsAt W a0 len0 cs ∧ len0 ≤ maxLen ∧ ShortC maxLen cs := by
    obtain ⟨fuel, hf⟩ := h0
    exact open_commands hf
  obtain ⟨a1, len1, cap1, rfl⟩ := okWide_slice Tryz.underlying37 (hval 1 37 v1 rfl rfl)
  have k1 := h1
  have lt1 : ∀ x ∈ p1, x.block < W.heap.size := by obtain ⟨m, hm⟩ := k1; exact DataW.trod_lt m _ _ _ hm
  obtain ⟨z1, w1, l1, m1⟩ : ∃ cs, CmdsAt W a1 len1 cs ∧ len1 ≤ maxLen ∧ ShortC maxLen cs := by
    obtain ⟨fuel, hf⟩ := h1
    exact open_commands hf
  clear hA0 hval0
  refine (walk a0 len0 cap0 z0 l0 m0 a1 len1 cap1 z1 l1 m1 W w0 w1).mono fun e W' ⟨he, bel⟩ => ?_
  subst he
  exact ⟨_, rfl, _, _, _, [], _, [], hW', trodAll_mk1 (shut_bool Tryz.underlying4 _), (trodAll_cons_mk (Below.trod laidOut (by kernel_rfl) (of_decide_eq_true (by kernel_rfl)) k0 bel lt0) (trodAll_cons_mk (Below.trod laidOut (by kernel_rfl) (of_decide_eq_true (by kernel_rfl)) k1 bel lt1) trodAll_mk0)), rfl, bel.frame _, fun h => by cases h⟩

theorem over : Rows.fnExactClashTextRow.holds Tryz.pinned (OpenSpec.ofChange Rows.fnExactClashTextSpec) :=
  OpenClaim.holds_of_wide 4 Tryz.f4 rfl rfl rfl rfl rfl rfl rfl ⟨rfl, rfl, rfl, rfl, rfl⟩ rfl rfl rfl rfl rfl (by kernel_rfl) Tryz.func4 (by kernel_rfl)
    (of_decide_eq_true (by kernel_rfl)) (by unfold Func.isWrapper; first | (rw [if_pos (by decide +kernel)]; kernel_rfl) | (rw [if_neg (by decide +kernel)]; exact ⟨rfl, rfl⟩))
    (fun os started H enc _ => lifted os started H enc)

theorem proved : Rows.FnExactClashTextSaid := over
end Go.Proofs.YtohdpbalajjjiaaGreat.fnExactClashText
