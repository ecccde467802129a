/-
  laws.FnExactLogBytes returns true for every input, and leaves its arguments as they were.
  Conditions: none.
-/
import Derived.Test.YtoipbocbgadjbaaRows
import Derived.WalkKit
import Derived.ProofKit
import Derived.OpenShut
import Derived.ShutString
import Derived.ChangeOld
import Derived.Below
import Derived.Test.YtoipbocbgadjbaaQ7
import Derived.Test.YtoipbocbgadjbaaQ9
import Derived.Test.YtoipbocbgadjbaaQ10
namespace Go.Proofs.Ytoipbocbgadjbaa.fnExactLogBytes
open Go.ChangeShapes Go.WideShapes Go.ChangeAt Go.RowKit
open Go.ChangeMaps (open_string shut_string)
set_option linter.unusedVariables false

theorem own : ownKnob Try.prog.godebug = none := by kernel_rfl
theorem laidOut : laidOutB Try.prog = true := by kernel_rfl

theorem own_farC {W W' : World} {b : Nat} {e : TypeId} {size n : Nat} {v : Value} {xs : List Value} (h : W.ownsRow b e size v n xs) {row : Value} (hg : W.grownBy W' row.ownBlock) (hd : ∀ k, v.ownBlock = some k → row.ownBlock ≠ some k) : W'.ownsRow b e size v n xs := by
  refine h.kept hg ?_
  cases hv : v.ownBlock with
  | none => exact .inl rfl
  | some k => right; exact fun e => hd k hv e.symm

theorem markInt_b (v : Value) (base len : Nat) (xs : List Value) (hl : len ≤ 2097152) (W : World) (h : W.ownsRow base 3 1 v len xs) :
    Calls Try.prog 23 #[v, .int .i64 1] W fun e W' => e = .returned (.int .i64 (1 + (len : Int))) ∧ W.grownBy W' v.ownBlock ∧ W'.ownsRow base 3 1 v len (intsV (markI 1 len)) := by
  refine (markIntS_c v base len 1 xs hl (by omega) W h).mono ?_
  rintro e W' ⟨rfl, h2, h3⟩
  exact ⟨by push_cast; rfl, h2, h3⟩
theorem heldInt_b (a : Option Addr) (len cap : Nat) (hl : len ≤ 2097152) (W : World) (hN : IntsAt W a len (markI 1 len)) :
    Calls Try.prog 24 #[.slice a len cap, .int .i64 1] W fun e W' => e = .returned (.int .i64 (1 + (len : Int))) ∧ Below W.heap.size W W' := by
  refine (heldIntS_c a len cap 1 hl (by omega) W hN).mono ?_
  rintro e W' ⟨rfl, rfl⟩
  exact ⟨by push_cast; rfl, Below.refl _ _⟩

theorem marked_at {W : World} {base len p : Nat} {x : Option Addr} {e : TypeId} (h : W.ownsRow base e 1 (.slice x len p) len (intsV (markI 1 len))) : IntsAt W x len (markI 1 len) := by
  have h2 : W.ownsRow base e 1 (.slice x len p) (markI 1 len).length (intsV (markI 1 len)) := by rw [markI_len]; exact h
  obtain ⟨_, _, e, h⟩ := ints_of_own h2
  rw [markI_len] at e h
  simp at e; rw [e.1]; exact h
theorem row_own {W : World} {base : Nat} {e : TypeId} {a : Option Addr} {cap : Nat} {us : List Int} (h : W.ownsRow base e 1 (.slice a us.length cap) us.length (intsV us)) : IntsAt W a us.length us := by
  obtain ⟨_, _, e, h⟩ := ints_of_own h
  simp at e; rw [e.1]; exact h

/-- What the answer tells, its two parts named. -/
def RPost (out : List Int) (b : Bool) (W : World) (e : Ending) (w' : World) : Prop :=
  ∃ sl, e = .returned (.tuple #[sl, .bool b]) ∧ w'.ownsRow W.heap.size 3 1 sl out.length (intsV out) ∧ Below W.heap.size W w'
theorem res_named {q : Option (List Int)} {out : List Int} {b : Bool} {W : World} {f : Nat} {args : Array Value} (hr : (match q with | some o => (o, true) | none => (([] : List Int), false)) = (out, b)) (h : Calls Try.prog f args W (FPost q W)) : Calls Try.prog f args W (RPost out b W) := by
  refine h.mono ?_
  rintro e w' ⟨sl, o, b', rfl, hh, ho, hb⟩
  rcases hh with ⟨rfl, rfl⟩ | ⟨rfl, rfl, rfl⟩
  · simp only at hr
    injection hr with h1 h2
    subst h1 h2
    exact ⟨sl, rfl, ho, hb⟩
  · simp only at hr
    injection hr with h1 h2
    subst h1 h2
    exact ⟨sl, rfl, ho, hb⟩

theorem res_le {cs : List Cmd} {u : List Int} {b : Bool} (h : (match logBytes cs with | some o => (o, true) | none => (([] : List Int), false)) = (u, b)) : u.length ≤ 400 := by
  cases hv : validL cs with
  | true =>
    rw [logBytes_yes hv] at h
    injection h with h1 _
    have := frames_len hv
    rw [← h1]
    omega
  | false =>
    rw [logBytes_no hv] at h
    injection h with h1 _
    rw [← h1]
    simp

set_option maxHeartbeats 4000000 in
set_option maxRecDepth 100000 in
theorem walk (a0 : Option Addr) (len0 cap0 : Nat) (cs : List Cmd) (l0 : len0 ≤ maxLen) (m0 : ShortC maxLen cs) (w : World) (w0 : CmdsAt w a0 len0 cs) :
    Calls Try.prog 8 #[.slice a0 len0 cap0] w fun e w' => e = .returned (.bool true) ∧ Below w.heap.size w w' := by
  have HSZ0 := Lib.hid (fun (z : Int) (h0 : 0 ≤ z) (h1 : z ≤ 1048576) W' (hb : Below w.heap.size w W') => szCommandS_c z h0 h1 a0 len0 cap0 cs l0 m0 W' (w0.keep hb))
  have HN0 := Lib.hid w0
  obtain ⟨u, b, hu⟩ : ∃ u b, (match logBytes cs with | some o => (o, true) | none => (([] : List Int), false)) = (u, b) := ⟨_, _, rfl⟩
  have HUL := Lib.hid (res_le hu)
  have hbb : (b != b) = false := by simp
  have HU := Lib.hid hu
  clear w0 l0 m0 hu
  go_enter Try.func8, Try.ntmps8
  go_wp2_with fail
  refine (HSZ0.out 1048576 (by omega) (by omega) _ (Below.refl _ _)).mono ?_
  rintro e S0 ⟨z, rfl, hz1, hz, hbz⟩
  have BS0 := Lib.hid (below_next ((Below.refl _ _)) hbz)
  clear hbz
  by_cases hneg : z < 0
  · clear hz
    go_wp2
    go_ret
    exact ⟨rfl, BS0.out⟩
  · obtain ⟨hl, hs⟩ := hz (by omega)
    have hz0 : 0 ≤ z := by omega
    have hzd : decide (z < 0) = false := decide_eq_false hneg
    have HL0 := Lib.hid hl
    have HS0 := Lib.hid hs
    clear hneg hz hl hs
    have HTO0 := Lib.hid (fun W' (hb : Below w.heap.size w W') => toCommandS_c a0 len0 cap0 cs (by have := HL0.out; omega) W' (HN0.out.keep hb))
    have HLL0 := Lib.hid (show cs.length ≤ 1048576 by have := HN0.out.1; have := HL0.out; omega)
    have hnl0 : (cs.length : Int) ≤ 1048576 := by have := HLL0.out; omega
    have HS20 := Lib.hid (HS0.out.mono (show 1048576 ≤ 2097152 by omega))
    have hul : (u.length : Int) ≤ 400 := by have := HUL.out; omega
    have HSP := Lib.hid (fun x0 (p0 : Nat) W' (h0 : CmdsAt W' x0 cs.length cs) => res_named HU.out (specLogBytes_c x0 cs.length p0 cs (by have := HLL0.out; omega) HS20.out W' h0))
    have HIM := Lib.hid (fun x0 (p0 : Nat) W' (hb : Below w.heap.size w W') (h0 : CmdsAt W' x0 cs.length cs) => res_named HU.out (implLogBytes_c x0 cs.length p0 cs (by have := HLL0.out; omega) HS20.out W' h0))
    go_wp2_with fail
    refine (HTO0.out _ BS0.out).mono ?_
    rintro e Y11 ⟨⟨s2, rfl, ho2⟩, hb2⟩
    obtain ⟨xm0, pm0, rfl, hn2⟩ := cmds_of_own ho2
    have Y11B := Lib.hid (below_next BS0.out hb2)
    have HM0 := Lib.hid hn2
    clear ho2 hn2 hb2
    go_wp2_with fail
    refine (HSP.out _ _ _ HM0.out).mono ?_
    rintro e Y12 ⟨s3, rfl, ho3, hb3⟩
    obtain ⟨x3, p3, rfl, -⟩ := ints_of_own ho3
    have Y12B := Lib.hid (below_next Y11B.out hb3)
    have O3 := Lib.hid ho3
    have K3 := Lib.hid (fun k (e : (Value.slice x3 u.length p3).ownBlock = some k) => (ho3.lt k e).2)
    clear ho3 hb3
    go_wp2_with fail
    refine (HTO0.out _ Y12B.out).mono ?_
    rintro e Y13 ⟨⟨s4, rfl, ho4⟩, hb4⟩
    obtain ⟨xq0, pq0, rfl, hn4⟩ := cmds_of_own ho4
    have Y13B := Lib.hid (below_next Y12B.out hb4)
    have Y13Z := Lib.hid (show Y12.heap.size ≤ Y13.heap.size from hb4.size)
    replace O3 := Lib.hid (own_below O3.out hb4)
    have O40 := Lib.hid ho4
    have K40 := Lib.hid (fun k (e : (Value.slice xq0 cs.length pq0).ownBlock = some k) => ho4.lt k e)
    clear ho4 hn4 hb4
    go_wp2_with fail
    refine (HIM.out _ _ _ Y13B.out (by obtain ⟨_, _, e, h⟩ := cmds_of_own O40.out; simp at e; rw [e.1]; exact h)).mono ?_
    rintro e Y14 ⟨s5, rfl, ho5, hb5⟩
    obtain ⟨x5, p5, rfl, hn5⟩ := ints_of_own ho5
    have Y14B := Lib.hid (below_next Y13B.out hb5)
    replace O3 := Lib.hid (own_below O3.out hb5)
    replace O40 := Lib.hid (own_below O40.out hb5)
    have O5 := Lib.hid ho5
    have K5 := Lib.hid (fun k (e : (Value.slice x5 u.length p5).ownBlock = some k) => (ho5.lt k e).1)
    have HE1 := Lib.hid (eqIntS_c x5 x3 u.length p5 p3 u (by have := HUL.out; omega) Y14 hn5 (row_own O3.out))
    clear ho5 hn5 hb5
    go_wp2_with fail
    refine (HE1.out).mono ?_
    rintro e Y15 ⟨rfl, hbs⟩
    have Y15B := Lib.hid (below_next Y14B.out hbs)
    replace O3 := Lib.hid (own_below O3.out hbs)
    replace O5 := Lib.hid (own_below O5.out hbs)
    replace O40 := Lib.hid (own_below O40.out hbs)
    clear hbs
    go_wp2_with fail
    refine (HTO0.out _ Y15B.out).mono ?_
    rintro e Y16 ⟨⟨s7, rfl, ho7⟩, hbs⟩
    obtain ⟨x7, p7, rfl, hn7⟩ := cmds_of_own ho7
    have Y16B := Lib.hid (below_next Y15B.out hbs)
    replace O3 := Lib.hid (own_below O3.out hbs)
    replace O5 := Lib.hid (own_below O5.out hbs)
    replace O40 := Lib.hid (own_below O40.out hbs)
    have HE2 := Lib.hid (eqCommandS_c xq0 x7 cs.length pq0 p7 cs (by have := HLL0.out; omega) Y16 (by obtain ⟨_, _, e, h⟩ := cmds_of_own O40.out; simp at e; rw [e.1]; exact h) hn7)
    clear ho7 hn7 hbs
    go_wp2_with fail
    refine (HE2.out).mono ?_
    rintro e Y17 ⟨rfl, hbs⟩
    have Y17B := Lib.hid (below_next Y16B.out hbs)
    replace O3 := Lib.hid (own_below O3.out hbs)
    replace O5 := Lib.hid (own_below O5.out hbs)
    replace O40 := Lib.hid (own_below O40.out hbs)
    clear hbs
    have HMK := Lib.hid (show Calls Try.prog 30 #[.slice xq0 cs.length pq0, .int .i64 (1)] Y17 _ from markCommandS_c (.slice xq0 cs.length pq0) Y12.heap.size cs.length 1 (by omega) (by have := HLL0.out; omega) (flatC cs) (by have := HLL0.out; omega) Y17 O40.out)
    go_wp2_with fail
    refine HMK.out.mono ?_
    rintro e Y18 ⟨rfl, hg9, -⟩
    have Y18B := Lib.hid (Y17B.out.grown hg9 Y17B.out.size (fun k e => by have := (K40.out k e).1; have := Y12B.out.size; omega))
    replace O3 := Lib.hid (own_farC O3.out hg9 (fun k e1 e2 => by have := K3.out k e1; have := (K40.out k e2).1; have := Y13Z.out; omega))
    replace O5 := Lib.hid (own_farC O5.out hg9 (fun k e1 e2 => by have := K5.out k e1; have := (K40.out k e2).2; have := Y13Z.out; omega))
    clear HMK hg9
    have HE3 := Lib.hid (eqIntS_c x5 x3 u.length p5 p3 u (by have := HUL.out; omega) Y18 (row_own O5.out) (row_own O3.out))
    go_wp2_with fail
    refine (HE3.out).mono ?_
    rintro e Y19 ⟨rfl, hbs⟩
    have Y19B := Lib.hid (below_next Y18B.out hbs)
    replace O3 := Lib.hid (own_below O3.out hbs)
    replace O5 := Lib.hid (own_below O5.out hbs)
    clear hbs
    have HMK2 := Lib.hid (markInt_b (.slice x5 u.length p5) Y13.heap.size u.length (intsV u) (by have := HUL.out; omega) Y19 O5.out)
    go_wp2_with fail
    refine HMK2.out.mono ?_
    rintro e Y20 ⟨rfl, hgb, hob⟩
    have Y20B := Lib.hid (Y19B.out.grown hgb Y19B.out.size (fun k e => by have := K5.out k e; have := Y13B.out.size; omega))
    replace O3 := Lib.hid (own_farC O3.out hgb (fun k e1 e2 => by have := K3.out k e1; have := K5.out k e2; have := Y13Z.out; omega))
    have HM := Lib.hid (marked_at hob)
    have HH := Lib.hid (fun W' (hb : Below Y20.heap.size Y20 W') => heldInt_b x5 u.length p5 (by have := HUL.out; omega) W' (HM.out.keep hb))
    have HB0 := Lib.hid (Below.refl Y20.heap.size Y20)
    clear HMK2 hgb hob
    go_wp2_with fail
    refine (HH.out _ HB0.out).mono ?_
    rintro e Y21 ⟨rfl, hbs⟩
    have Y21B := Lib.hid (below_next Y20B.out hbs)
    replace O3 := Lib.hid (own_below O3.out hbs)
    replace HB0 := Lib.hid (below_next HB0.out hbs)
    clear hbs
    go_wp2_with fail
    refine (HTO0.out _ Y21B.out).mono ?_
    rintro e Y22 ⟨⟨sd, rfl, hod⟩, hbs⟩
    obtain ⟨xd0, pd0, rfl, hnd⟩ := cmds_of_own hod
    have Y22B := Lib.hid (below_next Y21B.out hbs)
    replace HB0 := Lib.hid (below_next HB0.out hbs)
    replace O3 := Lib.hid (own_below O3.out hbs)
    have HD0 := Lib.hid hnd
    clear hod hnd hbs
    go_wp2_with fail
    refine (HIM.out _ _ _ Y22B.out HD0.out).mono ?_
    rintro e Y23 ⟨se, rfl, hoe, hbs⟩
    obtain ⟨xe, pe, rfl, hne⟩ := ints_of_own hoe
    have Y23B := Lib.hid (below_next Y22B.out hbs)
    replace HB0 := Lib.hid (below_next HB0.out hbs)
    replace O3 := Lib.hid (own_below O3.out hbs)
    have HE4 := Lib.hid (eqIntS_c xe x3 u.length pe p3 u (by have := HUL.out; omega) Y23 hne (row_own O3.out))
    clear hoe hne hbs
    go_wp2_with fail
    refine (HE4.out).mono ?_
    rintro e Y24 ⟨rfl, hbs⟩
    have Y24B := Lib.hid (below_next Y23B.out hbs)
    replace O3 := Lib.hid (own_below O3.out hbs)
    replace HB0 := Lib.hid (below_next HB0.out hbs)
    clear hbs
    go_wp2_with fail
    refine (HH.out _ HB0.out).mono ?_
    rintro e Y25 ⟨rfl, hbg⟩
    go_wp2
    go_ret
    exact ⟨rfl, below_next Y24B.out hbg⟩


set_option maxRecDepth 100000 in
theorem lifted (os : Os) (started : os.Started) (H : Type) (enc : TypeId × Value → H) :
    ReturnsInHanded {} Try.checked os 8 .any (Rows.fnExactLogBytesSpec.pre6 enc Try.prog Try.f8 Rows.fnExactLogBytesRow.domain false) (Rows.fnExactLogBytesSpec.post enc Try.prog Try.f8 false true false false) := by
  refine returnsInHanded_of_change (C := Try.checked) own started (by kernel_rfl) Try.func8
    (ChangeSpec.witness6 (enc := enc) (C := Try.checked) false ⟨#[], #[.slice none 0 0], []⟩ 8 (by kernel_rfl) (by kernel_rfl) (by kernel_rfl) (by kernel_rfl)) ?_
  intro W base args ds gs before hval0 hW hcnd _
  have hval : ∀ (j : Nat) t v, Try.f8.params[j]? = some t → args[j]? = some v → Value.okWide Try.prog W .any base t v := hval0
  have hW' := hW
  obtain ⟨p, q, hA0, hV, rfl, hfz, hnd⟩ := hW
  have hA : DataW.TrodAll enc Try.prog W 0 (fun _ => true) true Try.f8.params.toList args.toList ds p := hA0
  rw [Try.params8] at hA hval
  obtain ⟨v0, vs0, d0, ds0, p0, q0, hargs, rfl, rfl, h0, r0⟩ := trodAll_cons hA
  obtain ⟨rfl, rfl, rfl⟩ := trodAll_nil r0
  obtain rfl : args = #[v0] := by cases args; simp_all
  obtain ⟨rfl, rfl⟩ := trodVars_none hV
  obtain ⟨a0, len0, cap0, rfl⟩ := okWide_slice Try.underlying51 (hval 0 51 v0 rfl rfl)
  have k0 := h0
  have lt0 : ∀ x ∈ p0, x.block < W.heap.size := by obtain ⟨m, hm⟩ := k0; exact DataW.trod_lt m _ _ _ hm
  obtain ⟨z0, w0, l0, m0⟩ : ∃ cs, CmdsAt W a0 len0 cs ∧ len0 ≤ maxLen ∧ ShortC maxLen cs := by
    obtain ⟨fuel, hf⟩ := h0
    exact open_commands hf
  clear hA0 hval0
  refine (walk a0 len0 cap0 z0 l0 m0 W w0).mono fun e W' ⟨he, bel⟩ => ?_
  subst he
  exact ⟨_, rfl, _, _, _, [], _, [], hW', trodAll_mk1 (shut_bool Try.underlying4 _), (trodAll_cons_mk (Below.trod laidOut (by kernel_rfl) (of_decide_eq_true (by kernel_rfl)) k0 bel lt0) trodAll_mk0), rfl, bel.frame _, fun h => by cases h⟩

theorem over : Rows.fnExactLogBytesRow.holds Try.pinned (OpenSpec.ofChange Rows.fnExactLogBytesSpec) :=
  OpenClaim.holds_of_wide 8 Try.f8 rfl rfl rfl rfl rfl rfl rfl ⟨rfl, rfl, rfl, rfl, rfl⟩ rfl rfl rfl rfl rfl (by kernel_rfl) Try.func8 (by kernel_rfl)
    (of_decide_eq_true (by kernel_rfl)) (by unfold Func.isWrapper; first | (rw [if_pos (by decide +kernel)]; kernel_rfl) | (rw [if_neg (by decide +kernel)]; exact ⟨rfl, rfl⟩))
    (fun os started H enc _ => lifted os started H enc)

theorem proved : Rows.FnExactLogBytesSaid := over
end Go.Proofs.Ytoipbocbgadjbaa.fnExactLogBytes
