/-
  laws.FnExactTreeUnder returns true for every input, and leaves its arguments as they were.
  Conditions: none.
-/
import Derived.Test.YtkoopkaoojhfhaaRows
import Derived.Test.YtkoopkaoojhfhaaIu
import Derived.Test.YtkoopkaoojhfhaaOn
import Derived.Test.YtkoopkaoojhfhaaSz
import Derived.Test.YtkoopkaoojhfhaaMk
import Derived.Test.YtkoopkaoojhfhaaTn
import Derived.WalkKit
import Derived.ProofKit
import Derived.OpenShut
import Derived.ShutString
import Derived.ChangeOld
import Derived.Below
namespace Go.Proofs.Ytkoopkaoojhfhaa.fnExactTreeUnder
open Go.ChangeShapes Go.WideShapes Go.ChangeAt Go.RowKit
open Go.ChangeMaps (open_string shut_string)
set_option linter.unusedVariables false

theorem own : ownKnob Try.prog.godebug = none := by kernel_rfl
theorem laidOut : laidOutB Try.prog = true := by kernel_rfl

theorem own_far {W W' : World} {b : Nat} {e : TypeId} {size n : Nat} {v : Value} {xs : List Value} (h : W.ownsRow b e size v n xs) {row : Value} (hg : W.grownBy W' row.ownBlock) (hd : ∀ k, v.ownBlock = some k → row.ownBlock ≠ some k) : W'.ownsRow b e size v n xs := by
  refine h.kept hg ?_
  cases hv : v.ownBlock with
  | none => exact .inl rfl
  | some k => right; exact fun e => hd k hv e.symm

set_option maxHeartbeats 1000000 in
set_option maxRecDepth 100000 in
theorem walk (a0 : Option Addr) (len0 cap0 : Nat) (ns : List Nd) (l0 : len0 ≤ maxLen) (m0 : Short maxLen ns) (s : ByteArray) (w1 : s.size ≤ maxLen) (w : World) (w0 : NodesAt w a0 len0 ns) :
    Calls Try.prog 15 #[.slice a0 len0 cap0, .string s] w fun e w' => e = .returned (.bool true) ∧ Below w.heap.size w w' := by
  by_cases hss : s.size ≤ 1048576
  · have hss' : (s.size : Int) ≤ 1048576 := by omega
    have HSS := Lib.hid hss
    have HSZ := Lib.hid (szNodeS_c a0 len0 cap0 ns l0 m0 w w0)
    have HN := Lib.hid w0
    clear w0 l0 m0 w1 hss
    go_enter Try.func15, Try.ntmps15
    go_wp2_with fail
    refine HSZ.out.mono ?_
    rintro e W1 ⟨z, rfl, hz, hb1⟩
    have HB1 := Lib.hid hb1
    clear hb1
    by_cases h0 : z < 0
    · go_wp2
      go_ret
      exact ⟨rfl, HB1.out⟩
    · obtain ⟨hl, hs⟩ := hz (by omega)
      have hz0 : 0 ≤ z := by omega
      have hzd : decide (z < 0) = false := decide_eq_false h0
      have HTO := Lib.hid (fun W' (hb : Below w.heap.size w W') => toNodeS_c a0 len0 cap0 ns (by omega) W' (HN.out.keep hb))
      have HLE := Lib.hid HN.out.1
      have HLL := Lib.hid (show ns.length ≤ 1048576 by have := HLE.out; omega)
      have hnl : (ns.length : Int) ≤ 1048576 := by have := HLL.out; omega
      have HS2 := Lib.hid (hs.mono (show 1048576 ≤ 2097152 by omega))
      obtain ⟨xs, hxs⟩ : ∃ xs, treeUnder ns s = xs := ⟨_, rfl⟩
      have HXL := Lib.hid (show xs.length ≤ 1048576 by
        rw [← hxs]; unfold treeUnder
        split
        · rw [List.length_map]; exact Nat.le_trans (List.length_filter_le _ _) HLL.out
        · simp)
      have hxl : (xs.length : Int) ≤ 1048576 := by have := HXL.out; omega
      have HXS := Lib.hid hxs
      clear h0 hz hs hxs hl
      go_wp2_with fail
      refine (HTO.out _ HB1.out).mono ?_
      rintro e W2 ⟨⟨s2, rfl, ho2⟩, hb2⟩
      obtain ⟨x2, p2, rfl, hn2⟩ := nodes_of_own ho2
      have HB2 := Lib.hid (below_next HB1.out hb2)
      have HSV := Lib.hid (show Calls Try.prog 31 #[.slice x2 ns.length p2, .string s] W2 (TextsPost xs W2) by
        rw [← HXS.out]; exact specTreeUnder_c x2 ns.length p2 ns s (by have := HLL.out; omega) HS2.out (by have := HSS.out; omega) W2 hn2)
      clear ho2 hn2 hb2
      go_wp2_with fail
      refine HSV.out.mono ?_
      rintro e W3 ⟨⟨s3, rfl, ho3⟩, hb3⟩
      obtain ⟨x3, p3, rfl, -⟩ := texts_of_own ho3
      have HB3 := Lib.hid (below_next HB2.out hb3)
      have HO3 := Lib.hid ho3
      have HW3 := Lib.hid (fun k (e : (Value.slice x3 xs.length p3).ownBlock = some k) => (ho3.lt k e).2)
      clear hb3 ho3
      go_wp2_with fail
      refine (HTO.out _ HB3.out).mono ?_
      rintro e W4 ⟨⟨s4, rfl, ho4⟩, hb4⟩
      obtain ⟨x4, p4, rfl, hn4⟩ := nodes_of_own ho4
      have HB4 := Lib.hid (below_next HB3.out hb4)
      have HO34 := Lib.hid (own_below HO3.out hb4)
      have HO4 := Lib.hid ho4
      have HX4 := Lib.hid (fun k (e : (Value.slice x4 ns.length p4).ownBlock = some k) => ho4.lt k e)
      have hz34 := hb4.size
      have HIV := Lib.hid (show Calls Try.prog 29 #[.slice x4 ns.length p4, .string s] W4 (TextsPost xs W4) by
        rw [← HXS.out]; exact implTreeUnder_c x4 ns.length p4 ns s (by have := HLL.out; omega) HS2.out (by have := HSS.out; omega) W4 hn4)
      clear ho4 hn4 hb4
      go_wp2_with fail
      refine HIV.out.mono ?_
      rintro e W5 ⟨⟨s5, rfl, ho5⟩, hb5⟩
      obtain ⟨x5, p5, rfl, ht5⟩ := texts_of_own ho5
      have HB5 := Lib.hid (below_next HB4.out hb5)
      have HO35 := Lib.hid (own_below HO34.out hb5)
      have HO45 := Lib.hid (own_below HO4.out hb5)
      have HO5 := Lib.hid ho5
      have HX5 := Lib.hid (fun k (e : (Value.slice x5 xs.length p5).ownBlock = some k) => (ho5.lt k e).1)
      have HE1 := Lib.hid (eqStringS_c x5 x3 xs.length p5 p3 xs (by have := HXL.out; omega) W5 ht5 (by obtain ⟨_, _, e, h⟩ := texts_of_own HO35.out; simp at e; rw [e.1]; exact h))
      clear ho5 ht5 hb5
      go_wp2_with fail
      refine HE1.out.mono ?_
      rintro e W6 ⟨rfl, hb6⟩
      have HB6 := Lib.hid (below_next HB5.out hb6)
      have H56 := Lib.hid hb6
      clear hb6
      go_wp2_with fail
      refine (HTO.out _ HB6.out).mono ?_
      rintro e W7 ⟨⟨s7, rfl, ho7⟩, hb7⟩
      obtain ⟨x7, p7, rfl, hn7⟩ := nodes_of_own ho7
      have HB7 := Lib.hid (below_next HB6.out hb7)
      have H57 := Lib.hid (below_next H56.out hb7)
      have HE2 := Lib.hid (eqNodeS_c x4 x7 ns.length p4 p7 ns (by have := HLL.out; omega) W7 (by obtain ⟨_, _, e, h⟩ := nodes_of_own (own_below HO45.out H57.out); simp at e; rw [e.1]; exact h) hn7)
      clear ho7 hn7 hb7
      go_wp2_with fail
      refine HE2.out.mono ?_
      rintro e W8 ⟨rfl, hb8⟩
      have HB8 := Lib.hid (below_next HB7.out hb8)
      have H58 := Lib.hid (below_next H57.out hb8)
      have HMK := Lib.hid (markNodeS_c (.slice x4 ns.length p4) W3.heap.size ns.length (flatN ns) (by have := HLL.out; omega) W8 (own_below HO45.out H58.out))
      clear hb8
      go_wp2_with fail
      refine HMK.out.mono ?_
      rintro e W9 ⟨rfl, hg9, -⟩
      have HB9 := Lib.hid (HB8.out.grown hg9 HB8.out.size (fun k e => by have := (HX4.out k e).1; have := HB3.out.size; omega))
      have HO39 := Lib.hid (own_far (own_below HO35.out H58.out) hg9 (fun k e1 e2 => by have := HW3.out k e1; have := (HX4.out k e2).1; omega))
      have HO59 := Lib.hid (own_far (own_below HO5.out H58.out) hg9 (fun k e1 e2 => by have := HX5.out k e1; have := (HX4.out k e2).2; omega))
      have HE3 := Lib.hid (eqStringS_c x5 x3 xs.length p5 p3 xs (by have := HXL.out; omega) W9 (by obtain ⟨_, _, e, h⟩ := texts_of_own HO59.out; simp at e; rw [e.1]; exact h) (by obtain ⟨_, _, e, h⟩ := texts_of_own HO39.out; simp at e; rw [e.1]; exact h))
      clear hg9
      go_wp2_with fail
      refine HE3.out.mono ?_
      rintro e W10 ⟨rfl, hb10⟩
      have HB10 := Lib.hid (below_next HB9.out hb10)
      have HO3a := Lib.hid (own_below HO39.out hb10)
      have HMS := Lib.hid (markStringS_c (.slice x5 xs.length p5) W4.heap.size xs.length (xs.map Value.string) (by have := HXL.out; omega) W10 (own_below HO59.out hb10))
      clear hb10
      go_wp2_with fail
      refine HMS.out.mono ?_
      rintro e W11 ⟨rfl, hg11, ho11⟩
      have HB11 := Lib.hid (HB10.out.grown hg11 HB10.out.size (fun k e => by have := HX5.out k e; have := HB4.out.size; omega))
      have HO3b := Lib.hid (own_far HO3a.out hg11 (fun k e1 e2 => by have := HW3.out k e1; have := HX5.out k e2; omega))
      have HT11 := Lib.hid (show TextsAt W11 x5 xs.length (markS xs.length) by
        have h2 : W11.ownsRow W4.heap.size 9 1 (.slice x5 xs.length p5) (markS xs.length).length ((markS xs.length).map Value.string) := by rw [markS_len]; exact ho11
        obtain ⟨_, _, e, h⟩ := texts_of_own h2
        rw [markS_len] at e h
        simp at e; rw [e.1]; exact h)
      have HH := Lib.hid (fun W' (hb : Below W11.heap.size W11 W') => heldStringS_c x5 xs.length p5 (by have := HXL.out; omega) W' (HT11.out.keep hb))
      clear hg11 ho11
      go_wp2_with fail
      refine (HH.out _ (Below.refl _ _)).mono ?_
      rintro e W12 ⟨rfl, hb12⟩
      have HB12 := Lib.hid (below_next HB11.out hb12)
      have H12 := Lib.hid hb12
      clear hb12
      go_wp2_with fail
      refine (HTO.out _ HB12.out).mono ?_
      rintro e W13 ⟨⟨s13, rfl, ho13⟩, hb13⟩
      obtain ⟨x13, p13, rfl, hn13⟩ := nodes_of_own ho13
      have HB13 := Lib.hid (below_next HB12.out hb13)
      have H13 := Lib.hid (below_next H12.out hb13)
      have HIV2 := Lib.hid (show Calls Try.prog 29 #[.slice x13 ns.length p13, .string s] W13 (TextsPost xs W13) by
        rw [← HXS.out]; exact implTreeUnder_c x13 ns.length p13 ns s (by have := HLL.out; omega) HS2.out (by have := HSS.out; omega) W13 hn13)
      clear ho13 hn13 hb13
      go_wp2_with fail
      refine HIV2.out.mono ?_
      rintro e W14 ⟨⟨s14, rfl, ho14⟩, hb14⟩
      obtain ⟨x14, p14, rfl, ht14⟩ := texts_of_own ho14
      have HB14 := Lib.hid (below_next HB13.out hb14)
      have H14 := Lib.hid (below_next H13.out hb14)
      have HE4 := Lib.hid (eqStringS_c x14 x3 xs.length p14 p3 xs (by have := HXL.out; omega) W14 ht14 (by obtain ⟨_, _, e, h⟩ := texts_of_own (own_below HO3b.out H14.out); simp at e; rw [e.1]; exact h))
      clear ho14 ht14 hb14
      go_wp2_with fail
      refine HE4.out.mono ?_
      rintro e W15 ⟨rfl, hb15⟩
      have HB15 := Lib.hid (below_next HB14.out hb15)
      have H15 := Lib.hid (below_next H14.out hb15)
      clear hb15
      go_wp2_with fail
      refine (HH.out _ H15.out).mono ?_
      rintro e W16 ⟨rfl, hb16⟩
      have HB16 := Lib.hid (below_next HB15.out hb16)
      clear hb16
      go_wp2
      go_ret
      exact ⟨rfl, HB16.out⟩
  · have hss' : (1048576 : Int) < s.size := by omega
    clear hss w0 l0 m0
    have w1' : s.size ≤ 9223372036854775807 := Nat.le_trans w1 (by unfold maxLen; omega)
    go_enter Try.func15, Try.ntmps15
    go_wp2
    go_ret
    exact ⟨rfl, Below.refl _ _⟩

set_option maxRecDepth 100000 in
theorem lifted (os : Os) (started : os.Started) (H : Type) (enc : TypeId × Value → H) :
    ReturnsInHanded {} Try.checked os 15 .any (Rows.fnExactTreeUnderSpec.pre6 enc Try.prog Try.f15 Rows.fnExactTreeUnderRow.domain false) (Rows.fnExactTreeUnderSpec.post enc Try.prog Try.f15 false true false false) := by
  refine returnsInHanded_of_change (C := Try.checked) own started (by kernel_rfl) Try.func15
    (ChangeSpec.witness6 (enc := enc) (C := Try.checked) false ⟨#[], #[.slice none 0 0, .string ⟨#[]⟩], []⟩ 8 (by kernel_rfl) (by kernel_rfl) (by kernel_rfl) (by kernel_rfl)) ?_
  intro W base args ds gs before hval0 hW hcnd _
  have hval : ∀ (j : Nat) t v, Try.f15.params[j]? = some t → args[j]? = some v → Value.okWide Try.prog W .any base t v := hval0
  have hW' := hW
  obtain ⟨p, q, hA0, hV, rfl, hfz, hnd⟩ := hW
  have hA : DataW.TrodAll enc Try.prog W 0 (fun _ => true) true Try.f15.params.toList args.toList ds p := hA0
  rw [Try.params15] at hA hval
  obtain ⟨v0, vs0, d0, ds0, p0, q0, hargs, rfl, rfl, h0, r0⟩ := trodAll_cons hA
  obtain ⟨v1, vs1, d1, ds1, p1, q1, rfl, rfl, rfl, h1, r1⟩ := trodAll_cons r0
  obtain ⟨rfl, rfl, rfl⟩ := trodAll_nil r1
  obtain rfl : args = #[v0, v1] := by cases args; simp_all
  obtain ⟨rfl, rfl⟩ := trodVars_none hV
  obtain ⟨a0, len0, cap0, rfl⟩ := okWide_slice Try.underlying48 (hval 0 48 v0 rfl rfl)
  have k0 := h0
  have lt0 : ∀ x ∈ p0, x.block < W.heap.size := by obtain ⟨m, hm⟩ := k0; exact DataW.trod_lt m _ _ _ hm
  obtain ⟨z0, w0, l0, m0⟩ : ∃ ns, NodesAt W a0 len0 ns ∧ len0 ≤ maxLen ∧ Short maxLen ns := by
    obtain ⟨fuel, hf⟩ := h0
    exact open_nodes hf
  obtain ⟨a1, rfl, rfl, rfl, w1⟩ := open_string Try.underlying9 (hval 1 9 v1 rfl rfl) h1
  clear hA0 hval0
  refine (walk a0 len0 cap0 z0 l0 m0 a1 w1 W w0).mono fun e W' ⟨he, bel⟩ => ?_
  subst he
  exact ⟨_, rfl, _, _, _, [], _, [], hW', trodAll_mk1 (shut_bool Try.underlying4 _), (trodAll_cons_mk (Below.trod laidOut (by kernel_rfl) (of_decide_eq_true (by kernel_rfl)) k0 bel lt0) (trodAll_cons_mk (shut_string Try.underlying9 w1) trodAll_mk0)), rfl, bel.frame _, fun h => by cases h⟩

theorem over : Rows.fnExactTreeUnderRow.holds Try.pinned (OpenSpec.ofChange Rows.fnExactTreeUnderSpec) :=
  OpenClaim.holds_of_wide 15 Try.f15 rfl rfl rfl rfl rfl rfl rfl ⟨rfl, rfl, rfl, rfl, rfl⟩ rfl rfl rfl rfl rfl (by kernel_rfl) Try.func15 (by kernel_rfl)
    (of_decide_eq_true (by kernel_rfl)) (by unfold Func.isWrapper; first | (rw [if_pos (by decide +kernel)]; kernel_rfl) | (rw [if_neg (by decide +kernel)]; exact ⟨rfl, rfl⟩))
    (fun os started H enc _ => lifted os started H enc)

theorem proved : Rows.FnExactTreeUnderSaid := over
end Go.Proofs.Ytkoopkaoojhfhaa.fnExactTreeUnder
