/-
  laws.FnExactIgnoresValid returns true for every input, and leaves its arguments as they were.
  Conditions: none.
-/
import Derived.Test.YtmlnakkfjecibaaRows
import Derived.WalkKit
import Derived.ProofKit
import Derived.OpenShut
import Derived.ShutString
import Derived.ChangeOld
import Derived.Below
import Derived.Test.YtmlnakkfjecibaaQ7
import Derived.Test.YtmlnakkfjecibaaQ9
import Derived.Test.YtmlnakkfjecibaaQ10
namespace Go.Proofs.Ytmlnakkfjecibaa.fnExactIgnoresValid
open Go.ChangeShapes Go.WideShapes Go.ChangeAt Go.RowKit
open Go.ChangeMaps (open_string shut_string)
set_option linter.unusedVariables false

theorem own : ownKnob Try.prog.godebug = none := by kernel_rfl
theorem laidOut : laidOutB Try.prog = true := by kernel_rfl

theorem own_farC {W W' : World} {b : Nat} {e : TypeId} {size n : Nat} {v : Value} {xs : List Value} (h : W.ownsRow b e size v n xs) {row : Value} (hg : W.grownBy W' row.ownBlock) (hd : ∀ k, v.ownBlock = some k → row.ownBlock ≠ some k) : W'.ownsRow b e size v n xs := by
  refine h.kept hg ?_
  cases hv : v.ownBlock with
  | none => exact .inl rfl
  | some k => right; exact fun e => hd k hv e.symm

set_option maxHeartbeats 4000000 in
set_option maxRecDepth 100000 in
theorem walk (a0 : Option Addr) (len0 cap0 : Nat) (igs : List ByteArray) (l0 : len0 ≤ maxLen) (m0 : ShortX maxLen igs) (w : World) (w0 : TextsAt w a0 len0 igs) :
    Calls Try.prog 8 #[.slice a0 len0 cap0] w fun e w' => e = .returned (.bool true) ∧ Below w.heap.size w w' := by
  have HSZ0 := Lib.hid (fun (z : Int) (h0 : 0 ≤ z) (h1 : z ≤ 1048576) W' (hb : Below w.heap.size w W') => szStringS_c z h0 h1 a0 len0 cap0 igs l0 m0 W' (w0.keep hb))
  have HN0 := Lib.hid w0
  obtain ⟨vv, hu⟩ : ∃ vv, igV igs = vv := ⟨_, rfl⟩
  have hbb : (vv != vv) = false := by simp
  have HU := Lib.hid hu
  clear w0 l0 m0 hu
  go_enter Try.func8, Try.ntmps8
  go_wp2_with fail
  refine (HSZ0.out 1048576 (by omega) (by omega) _ (Below.refl _ _)).mono ?_
  rintro e S0 ⟨z, rfl, hz1, hz, hbz⟩
  have BS0 := Lib.hid (below_next ((Below.refl _ _)) hbz)
  clear hbz
  by_cases hneg : z < 0
  · clear hz
    go_wp2
    go_ret
    exact ⟨rfl, BS0.out⟩
  · obtain ⟨hl, hs⟩ := hz (by omega)
    have hz0 : 0 ≤ z := by omega
    have hzd : decide (z < 0) = false := decide_eq_false hneg
    have HL0 := Lib.hid hl
    have HS0 := Lib.hid hs
    clear hneg hz hl hs
    have HTO0 := Lib.hid (fun W' (hb : Below w.heap.size w W') => toStringS_c a0 len0 cap0 igs (by have := HL0.out; omega) W' (HN0.out.keep hb))
    have HLL0 := Lib.hid (show igs.length ≤ 1048576 by have := HN0.out.1; have := HL0.out; omega)
    have hnl0 : (igs.length : Int) ≤ 1048576 := by have := HLL0.out; omega
    have HS20 := Lib.hid (HS0.out.mono (show 1048576 ≤ 2097152 by omega))
    have HSP := Lib.hid (fun x0 (p0 : Nat) W' (h0 : TextsAt W' x0 igs.length igs) => show Calls Try.prog 18 #[.slice x0 igs.length p0] W' (BoolPost vv W') by rw [← HU.out]; exact specIgnores_c x0 igs.length p0 igs (by have := HLL0.out; omega) HS20.out W' h0)
    have HIM := Lib.hid (fun x0 (p0 : Nat) W' (hb : Below w.heap.size w W') (h0 : TextsAt W' x0 igs.length igs) => show Calls Try.prog 29 #[.slice x0 igs.length p0] W' (BoolPost vv W') by rw [← HU.out]; exact implIgnores_c x0 igs.length p0 igs (by have := HLL0.out; omega) HS20.out W' h0)
    go_wp2_with fail
    refine (HTO0.out _ BS0.out).mono ?_
    rintro e Y11 ⟨⟨s2, rfl, ho2⟩, hb2⟩
    obtain ⟨xm0, pm0, rfl, hn2⟩ := texts_of_own ho2
    have Y11B := Lib.hid (below_next BS0.out hb2)
    have HM0 := Lib.hid hn2
    clear ho2 hn2 hb2
    go_wp2_with fail
    refine (HSP.out _ _ _ HM0.out).mono ?_
    rintro e Y12 ⟨rfl, hb3⟩
    have Y12B := Lib.hid (below_next Y11B.out hb3)
    clear hb3
    go_wp2_with fail
    refine (HTO0.out _ Y12B.out).mono ?_
    rintro e Y13 ⟨⟨s4, rfl, ho4⟩, hb4⟩
    obtain ⟨xq0, pq0, rfl, hn4⟩ := texts_of_own ho4
    have Y13B := Lib.hid (below_next Y12B.out hb4)
    have Y13Z := Lib.hid (show Y12.heap.size ≤ Y13.heap.size from hb4.size)
    have O40 := Lib.hid ho4
    have K40 := Lib.hid (fun k (e : (Value.slice xq0 igs.length pq0).ownBlock = some k) => ho4.lt k e)
    clear ho4 hn4 hb4
    go_wp2_with fail
    refine (HIM.out _ _ _ Y13B.out (by obtain ⟨_, _, e, h⟩ := texts_of_own O40.out; simp at e; rw [e.1]; exact h)).mono ?_
    rintro e Y14 ⟨rfl, hb5⟩
    have Y14B := Lib.hid (below_next Y13B.out hb5)
    replace O40 := Lib.hid (own_below O40.out hb5)
    clear hb5
    go_wp2_with fail
    refine (HTO0.out _ Y14B.out).mono ?_
    rintro e Y15 ⟨⟨s7, rfl, ho7⟩, hbs⟩
    obtain ⟨x7, p7, rfl, hn7⟩ := texts_of_own ho7
    have Y15B := Lib.hid (below_next Y14B.out hbs)
    replace O40 := Lib.hid (own_below O40.out hbs)
    have HE2 := Lib.hid (eqStringS_c xq0 x7 igs.length pq0 p7 igs (by have := HLL0.out; omega) Y15 (by obtain ⟨_, _, e, h⟩ := texts_of_own O40.out; simp at e; rw [e.1]; exact h) hn7)
    clear ho7 hn7 hbs
    go_wp2_with fail
    refine (HE2.out).mono ?_
    rintro e Y16 ⟨rfl, hbs⟩
    have Y16B := Lib.hid (below_next Y15B.out hbs)
    replace O40 := Lib.hid (own_below O40.out hbs)
    clear hbs
    go_wp2
    go_ret
    exact ⟨rfl, Y16B.out⟩


set_option maxRecDepth 100000 in
theorem lifted (os : Os) (started : os.Started) (H : Type) (enc : TypeId × Value → H) :
    ReturnsInHanded {} Try.checked os 8 .any (Rows.fnExactIgnoresValidSpec.pre6 enc Try.prog Try.f8 Rows.fnExactIgnoresValidRow.domain false) (Rows.fnExactIgnoresValidSpec.post enc Try.prog Try.f8 false true false false) := by
  refine returnsInHanded_of_change (C := Try.checked) own started (by kernel_rfl) Try.func8
    (ChangeSpec.witness6 (enc := enc) (C := Try.checked) false ⟨#[], #[.slice none 0 0], []⟩ 8 (by kernel_rfl) (by kernel_rfl) (by kernel_rfl) (by kernel_rfl)) ?_
  intro W base args ds gs before hval0 hW hcnd _
  have hval : ∀ (j : Nat) t v, Try.f8.params[j]? = some t → args[j]? = some v → Value.okWide Try.prog W .any base t v := hval0
  have hW' := hW
  obtain ⟨p, q, hA0, hV, rfl, hfz, hnd⟩ := hW
  have hA : DataW.TrodAll enc Try.prog W 0 (fun _ => true) true Try.f8.params.toList args.toList ds p := hA0
  rw [Try.params8] at hA hval
  obtain ⟨v0, vs0, d0, ds0, p0, q0, hargs, rfl, rfl, h0, r0⟩ := trodAll_cons hA
  obtain ⟨rfl, rfl, rfl⟩ := trodAll_nil r0
  obtain rfl : args = #[v0] := by cases args; simp_all
  obtain ⟨rfl, rfl⟩ := trodVars_none hV
  obtain ⟨a0, len0, cap0, rfl⟩ := okWide_slice Try.underlying24 (hval 0 24 v0 rfl rfl)
  have k0 := h0
  have lt0 : ∀ x ∈ p0, x.block < W.heap.size := by obtain ⟨m, hm⟩ := k0; exact DataW.trod_lt m _ _ _ hm
  obtain ⟨z0, w0, l0, m0⟩ : ∃ cs, TextsAt W a0 len0 cs ∧ len0 ≤ maxLen ∧ ShortX maxLen cs := by
    obtain ⟨fuel, hf⟩ := h0
    exact open_texts hf
  clear hA0 hval0
  refine (walk a0 len0 cap0 z0 l0 m0 W w0).mono fun e W' ⟨he, bel⟩ => ?_
  subst he
  exact ⟨_, rfl, _, _, _, [], _, [], hW', trodAll_mk1 (shut_bool Try.underlying4 _), (trodAll_cons_mk (Below.trod laidOut (by kernel_rfl) (of_decide_eq_true (by kernel_rfl)) k0 bel lt0) trodAll_mk0), rfl, bel.frame _, fun h => by cases h⟩

theorem over : Rows.fnExactIgnoresValidRow.holds Try.pinned (OpenSpec.ofChange Rows.fnExactIgnoresValidSpec) :=
  OpenClaim.holds_of_wide 8 Try.f8 rfl rfl rfl rfl rfl rfl rfl ⟨rfl, rfl, rfl, rfl, rfl⟩ rfl rfl rfl rfl rfl (by kernel_rfl) Try.func8 (by kernel_rfl)
    (of_decide_eq_true (by kernel_rfl)) (by unfold Func.isWrapper; first | (rw [if_pos (by decide +kernel)]; kernel_rfl) | (rw [if_neg (by decide +kernel)]; exact ⟨rfl, rfl⟩))
    (fun os started H enc _ => lifted os started H enc)

theorem proved : Rows.FnExactIgnoresValidSaid := over
end Go.Proofs.Ytmlnakkfjecibaa.fnExactIgnoresValid
