/-
  laws.FnExactFilterTree returns true for every input, and leaves its arguments as they were.
  Conditions: none.
-/
import Derived.Test.YtmlnakkfjecibaaRows
import Derived.WalkKit
import Derived.ProofKit
import Derived.OpenShut
import Derived.ShutString
import Derived.ChangeOld
import Derived.Below
import Derived.Test.YtmlnakkfjecibaaQ7
import Derived.Test.YtmlnakkfjecibaaQ10
namespace Go.Proofs.Ytmlnakkfjecibaa.fnExactFilterTree
open Go.ChangeShapes Go.WideShapes Go.ChangeAt Go.RowKit
open Go.ChangeMaps (open_string shut_string)
set_option linter.unusedVariables false

theorem own : ownKnob Try.prog.godebug = none := by kernel_rfl
theorem laidOut : laidOutB Try.prog = true := by kernel_rfl

theorem own_farC {W W' : World} {b : Nat} {e : TypeId} {size n : Nat} {v : Value} {xs : List Value} (h : W.ownsRow b e size v n xs) {row : Value} (hg : W.grownBy W' row.ownBlock) (hd : ∀ k, v.ownBlock = some k → row.ownBlock ≠ some k) : W'.ownsRow b e size v n xs := by
  refine h.kept hg ?_
  cases hv : v.ownBlock with
  | none => exact .inl rfl
  | some k => right; exact fun e => hd k hv e.symm

theorem marked_at {W : World} {base len p : Nat} {x : Option Addr} {e : TypeId} (h : W.ownsRow base e 3 (.slice x len p) len (flatN (markN len))) : NodesAt W x len (markN len) := by
  have h2 : W.ownsRow base e 3 (.slice x len p) (markN len).length (flatN (markN len)) := by rw [markN_len]; exact h
  obtain ⟨_, _, e, h⟩ := nodes_of_own h2
  rw [markN_len] at e h
  simp at e; rw [e.1]; exact h
theorem row_own {W : World} {base : Nat} {e : TypeId} {a : Option Addr} {cap : Nat} {us : List Nd} (h : W.ownsRow base e 3 (.slice a us.length cap) us.length (flatN us)) : NodesAt W a us.length us := by
  obtain ⟨_, _, e, h⟩ := nodes_of_own h
  simp at e; rw [e.1]; exact h

/-- What the answer tells, its parts named. -/
def RPost (out : List Nd) (W : World) (e : Ending) (w' : World) : Prop :=
  ∃ sl, e = .returned sl ∧ w'.ownsRow W.heap.size 46 3 sl out.length (flatN out) ∧ Below W.heap.size W w'
theorem res_named {r out : List Nd} {W : World} {f : Nat} {args : Array Value} (hr : r = out) (h : Calls Try.prog f args W (FiltPost r W)) : Calls Try.prog f args W (RPost out W) := by
  subst hr
  refine h.mono ?_
  rintro e w' ⟨⟨sl, h1, h2⟩, h3⟩
  exact ⟨sl, h1, h2, h3⟩

theorem res_le {ns : List Nd} {igs : List ByteArray} {u : List Nd} (h : filtT ns igs = u) : u.length ≤ 400 := by
  rw [← h]
  unfold filtT
  split
  · rename_i hv
    rw [Bool.and_eq_true] at hv
    have h1 := ((validT_iff ns).1 hv.1).2.2
    have h2 := List.length_filter_le (fun n => !inB igs n.p) ns
    omega
  · simp

set_option maxHeartbeats 4000000 in
set_option maxRecDepth 100000 in
theorem walk (a0 : Option Addr) (len0 cap0 : Nat) (ns : List Nd) (l0 : len0 ≤ maxLen) (m0 : Short maxLen ns) (a1 : Option Addr) (len1 cap1 : Nat) (igs : List ByteArray) (l1 : len1 ≤ maxLen) (m1 : ShortX maxLen igs) (w : World) (w0 : NodesAt w a0 len0 ns) (w1 : TextsAt w a1 len1 igs) :
    Calls Try.prog 11 #[.slice a0 len0 cap0, .slice a1 len1 cap1] w fun e w' => e = .returned (.bool true) ∧ Below w.heap.size w w' := by
  have HSZ0 := Lib.hid (fun (z : Int) (h0 : 0 ≤ z) (h1 : z ≤ 1048576) W' (hb : Below w.heap.size w W') => szNodeSG_c z h0 h1 a0 len0 cap0 ns l0 m0 W' (w0.keep hb))
  have HN0 := Lib.hid w0
  have HSZ1 := Lib.hid (fun (z : Int) (h0 : 0 ≤ z) (h1 : z ≤ 1048576) W' (hb : Below w.heap.size w W') => szStringS_c z h0 h1 a1 len1 cap1 igs l1 m1 W' (w1.keep hb))
  have HN1 := Lib.hid w1
  obtain ⟨u, hu⟩ : ∃ u, filtT ns igs = u := ⟨_, rfl⟩
  have HUL := Lib.hid (res_le hu)
  have HU := Lib.hid hu
  clear w0 l0 m0 w1 l1 m1 hu
  go_enter Try.func11, Try.ntmps11
  go_wp2_with fail
  refine (HSZ0.out 1048576 (by omega) (by omega) _ (Below.refl _ _)).mono ?_
  rintro e S0 ⟨z, rfl, hz1, hz, hbz⟩
  have BS0 := Lib.hid (below_next ((Below.refl _ _)) hbz)
  clear hbz
  by_cases hneg : z < 0
  · clear hz
    go_wp2
    go_ret
    exact ⟨rfl, BS0.out⟩
  · obtain ⟨hl, hs⟩ := hz (by omega)
    have hz0 : 0 ≤ z := by omega
    have hzd : decide (z < 0) = false := decide_eq_false hneg
    have HL0 := Lib.hid hl
    have HS0 := Lib.hid hs
    clear hneg hz hl hs
    go_wp2_with fail
    refine (HSZ1.out z hz0 hz1 _ BS0.out).mono ?_
    rintro e S1 ⟨y, rfl, hy1, hz, hbz⟩
    have BS1 := Lib.hid (below_next (BS0.out) hbz)
    clear hbz
    by_cases hneg : y < 0
    · clear hz
      go_wp2
      go_ret
      exact ⟨rfl, BS1.out⟩
    · obtain ⟨hl, hs⟩ := hz (by omega)
      have hy0 : 0 ≤ y := by omega
      have hyd : decide (y < 0) = false := decide_eq_false hneg
      have HL1 := Lib.hid hl
      have HS1 := Lib.hid hs
      clear hneg hz hl hs
      have HTO0 := Lib.hid (fun W' (hb : Below w.heap.size w W') => toNodeS_c a0 len0 cap0 ns (by have := HL0.out; omega) W' (HN0.out.keep hb))
      have HLL0 := Lib.hid (show ns.length ≤ 1048576 by have := HN0.out.1; have := HL0.out; omega)
      have hnl0 : (ns.length : Int) ≤ 1048576 := by have := HLL0.out; omega
      have HS20 := Lib.hid (HS0.out.mono (show 1048576 ≤ 2097152 by omega))
      have HTO1 := Lib.hid (fun W' (hb : Below w.heap.size w W') => toStringS_c a1 len1 cap1 igs (by have := HL1.out; omega) W' (HN1.out.keep hb))
      have HLL1 := Lib.hid (show igs.length ≤ 1048576 by have := HN1.out.1; have := HL1.out; omega)
      have hnl1 : (igs.length : Int) ≤ 1048576 := by have := HLL1.out; omega
      have HS21 := Lib.hid (HS1.out.mono (show 1048576 ≤ 2097152 by omega))
      have hul : (u.length : Int) ≤ 400 := by have := HUL.out; omega
      have HSP := Lib.hid (fun x0 (p0 : Nat) x1 (p1 : Nat) W' (h0 : NodesAt W' x0 ns.length ns) (h1 : TextsAt W' x1 igs.length igs) => res_named HU.out (specFilterTree_c x0 ns.length p0 ns x1 igs.length p1 igs (by have := HLL0.out; omega) (by have := HLL1.out; omega) HS20.out HS21.out W' h0 h1))
      have HIM := Lib.hid (fun x0 (p0 : Nat) x1 (p1 : Nat) W' (hb : Below w.heap.size w W') (h0 : NodesAt W' x0 ns.length ns) (h1 : TextsAt W' x1 igs.length igs) => res_named HU.out (implFilterTree_c x0 ns.length p0 ns x1 igs.length p1 igs (by have := HLL0.out; omega) (by have := HLL1.out; omega) HS20.out HS21.out W' h0 h1))
      go_wp2_with fail
      refine (HTO0.out _ BS1.out).mono ?_
      rintro e Y11 ⟨⟨s2, rfl, ho2⟩, hb2⟩
      obtain ⟨xm0, pm0, rfl, hn2⟩ := nodes_of_own ho2
      have Y11B := Lib.hid (below_next BS1.out hb2)
      have HM0 := Lib.hid hn2
      clear ho2 hn2 hb2
      go_wp2_with fail
      refine (HTO1.out _ Y11B.out).mono ?_
      rintro e Y12 ⟨⟨s2, rfl, ho2⟩, hb2⟩
      obtain ⟨xm1, pm1, rfl, hn2⟩ := texts_of_own ho2
      have Y12B := Lib.hid (below_next Y11B.out hb2)
      have HM1 := Lib.hid hn2
      replace HM0 := Lib.hid (HM0.out.keep hb2)
      clear ho2 hn2 hb2
      go_wp2_with fail
      refine (HSP.out _ _ _ _ _ HM0.out HM1.out).mono ?_
      rintro e Y13 ⟨s3, rfl, ho3, hb3⟩
      obtain ⟨x3, p3, rfl, -⟩ := nodes_of_own ho3
      have Y13B := Lib.hid (below_next Y12B.out hb3)
      have O3 := Lib.hid ho3
      have K3 := Lib.hid (fun k (e : (Value.slice x3 u.length p3).ownBlock = some k) => (ho3.lt k e).2)
      clear ho3 hb3
      go_wp2_with fail
      refine (HTO0.out _ Y13B.out).mono ?_
      rintro e Y14 ⟨⟨s4, rfl, ho4⟩, hb4⟩
      obtain ⟨xq0, pq0, rfl, hn4⟩ := nodes_of_own ho4
      have Y14B := Lib.hid (below_next Y13B.out hb4)
      have Y14Z := Lib.hid (show Y13.heap.size ≤ Y14.heap.size from hb4.size)
      replace O3 := Lib.hid (own_below O3.out hb4)
      have O40 := Lib.hid ho4
      have K40 := Lib.hid (fun k (e : (Value.slice xq0 ns.length pq0).ownBlock = some k) => ho4.lt k e)
      clear ho4 hn4 hb4
      go_wp2_with fail
      refine (HTO1.out _ Y14B.out).mono ?_
      rintro e Y15 ⟨⟨s4, rfl, ho4⟩, hb4⟩
      obtain ⟨xq1, pq1, rfl, hn4⟩ := texts_of_own ho4
      have Y15B := Lib.hid (below_next Y14B.out hb4)
      have Y15Z := Lib.hid (show Y14.heap.size ≤ Y15.heap.size from hb4.size)
      replace O3 := Lib.hid (own_below O3.out hb4)
      have O41 := Lib.hid ho4
      have K41 := Lib.hid (fun k (e : (Value.slice xq1 igs.length pq1).ownBlock = some k) => ho4.lt k e)
      replace O40 := Lib.hid (own_below O40.out hb4)
      clear ho4 hn4 hb4
      go_wp2_with fail
      refine (HIM.out _ _ _ _ _ Y15B.out (by obtain ⟨_, _, e, h⟩ := nodes_of_own O40.out; simp at e; rw [e.1]; exact h) (by obtain ⟨_, _, e, h⟩ := texts_of_own O41.out; simp at e; rw [e.1]; exact h)).mono ?_
      rintro e Y16 ⟨s5, rfl, ho5, hb5⟩
      obtain ⟨x5, p5, rfl, hn5⟩ := nodes_of_own ho5
      have Y16B := Lib.hid (below_next Y15B.out hb5)
      replace O3 := Lib.hid (own_below O3.out hb5)
      replace O40 := Lib.hid (own_below O40.out hb5)
      replace O41 := Lib.hid (own_below O41.out hb5)
      have O5 := Lib.hid ho5
      have K5 := Lib.hid (fun k (e : (Value.slice x5 u.length p5).ownBlock = some k) => (ho5.lt k e).1)
      have HE1 := Lib.hid (eqNodeS_c x5 x3 u.length p5 p3 u (by have := HUL.out; omega) Y16 hn5 (row_own O3.out))
      clear ho5 hn5 hb5
      go_wp2_with fail
      refine (HE1.out).mono ?_
      rintro e Y17 ⟨rfl, hbs⟩
      have Y17B := Lib.hid (below_next Y16B.out hbs)
      replace O3 := Lib.hid (own_below O3.out hbs)
      replace O5 := Lib.hid (own_below O5.out hbs)
      replace O40 := Lib.hid (own_below O40.out hbs)
      replace O41 := Lib.hid (own_below O41.out hbs)
      clear hbs
      go_wp2_with fail
      refine (HTO0.out _ Y17B.out).mono ?_
      rintro e Y18 ⟨⟨s7, rfl, ho7⟩, hbs⟩
      obtain ⟨x7, p7, rfl, hn7⟩ := nodes_of_own ho7
      have Y18B := Lib.hid (below_next Y17B.out hbs)
      replace O3 := Lib.hid (own_below O3.out hbs)
      replace O5 := Lib.hid (own_below O5.out hbs)
      replace O40 := Lib.hid (own_below O40.out hbs)
      replace O41 := Lib.hid (own_below O41.out hbs)
      have HE2 := Lib.hid (eqNodeS_c xq0 x7 ns.length pq0 p7 ns (by have := HLL0.out; omega) Y18 (by obtain ⟨_, _, e, h⟩ := nodes_of_own O40.out; simp at e; rw [e.1]; exact h) hn7)
      clear ho7 hn7 hbs
      go_wp2_with fail
      refine (HE2.out).mono ?_
      rintro e Y19 ⟨rfl, hbs⟩
      have Y19B := Lib.hid (below_next Y18B.out hbs)
      replace O3 := Lib.hid (own_below O3.out hbs)
      replace O5 := Lib.hid (own_below O5.out hbs)
      replace O40 := Lib.hid (own_below O40.out hbs)
      replace O41 := Lib.hid (own_below O41.out hbs)
      clear hbs
      go_wp2_with fail
      refine (HTO1.out _ Y19B.out).mono ?_
      rintro e Y20 ⟨⟨s7, rfl, ho7⟩, hbs⟩
      obtain ⟨x7, p7, rfl, hn7⟩ := texts_of_own ho7
      have Y20B := Lib.hid (below_next Y19B.out hbs)
      replace O3 := Lib.hid (own_below O3.out hbs)
      replace O5 := Lib.hid (own_below O5.out hbs)
      replace O40 := Lib.hid (own_below O40.out hbs)
      replace O41 := Lib.hid (own_below O41.out hbs)
      have HE2 := Lib.hid (eqStringS_c xq1 x7 igs.length pq1 p7 igs (by have := HLL1.out; omega) Y20 (by obtain ⟨_, _, e, h⟩ := texts_of_own O41.out; simp at e; rw [e.1]; exact h) hn7)
      clear ho7 hn7 hbs
      go_wp2_with fail
      refine (HE2.out).mono ?_
      rintro e Y21 ⟨rfl, hbs⟩
      have Y21B := Lib.hid (below_next Y20B.out hbs)
      replace O3 := Lib.hid (own_below O3.out hbs)
      replace O5 := Lib.hid (own_below O5.out hbs)
      replace O40 := Lib.hid (own_below O40.out hbs)
      replace O41 := Lib.hid (own_below O41.out hbs)
      clear hbs
      have HMK := Lib.hid (show Calls Try.prog 43 #[.slice xq0 ns.length pq0, .int .i64 (1)] Y21 _ from markNodeSK_c (.slice xq0 ns.length pq0) Y13.heap.size ns.length 1 (by omega) (by have := HLL0.out; omega) (flatN ns) (by have := HLL0.out; omega) Y21 O40.out)
      go_wp2_with fail
      refine HMK.out.mono ?_
      rintro e Y22 ⟨rfl, hg9, -⟩
      have Y22B := Lib.hid (Y21B.out.grown hg9 Y21B.out.size (fun k e => by have := (K40.out k e).1; have := Y13B.out.size; omega))
      replace O3 := Lib.hid (own_farC O3.out hg9 (fun k e1 e2 => by have := K3.out k e1; have := (K40.out k e2).1; have := Y14Z.out; have := Y15Z.out; omega))
      replace O5 := Lib.hid (own_farC O5.out hg9 (fun k e1 e2 => by have := K5.out k e1; have := (K40.out k e2).2; have := Y14Z.out; have := Y15Z.out; omega))
      replace O41 := Lib.hid (own_farC O41.out hg9 (fun k e1 e2 => by have := (K41.out k e1).1; have := (K40.out k e2).2; have := Y14Z.out; have := Y15Z.out; omega))
      clear HMK hg9
      have HMK := Lib.hid (by
        have := markStringSK_c (.slice xq1 igs.length pq1) Y14.heap.size igs.length (1 + 3 * ns.length) (by omega) (by have := HLL0.out; have := HLL1.out; omega) (igs.map Value.string) (by have := HLL0.out; have := HLL1.out; omega) Y22 O41.out
        rw [show (((1 + 3 * ns.length : Nat)) : Int) = 1 + 3 * (ns.length : Int) by omega] at this
        exact this)
      go_wp2_with fail
      refine HMK.out.mono ?_
      rintro e Y23 ⟨rfl, hg9, -⟩
      have Y23B := Lib.hid (Y22B.out.grown hg9 Y22B.out.size (fun k e => by have := (K41.out k e).1; have := Y14B.out.size; omega))
      replace O3 := Lib.hid (own_farC O3.out hg9 (fun k e1 e2 => by have := K3.out k e1; have := (K41.out k e2).1; have := Y14Z.out; have := Y15Z.out; omega))
      replace O5 := Lib.hid (own_farC O5.out hg9 (fun k e1 e2 => by have := K5.out k e1; have := (K41.out k e2).2; have := Y14Z.out; have := Y15Z.out; omega))
      clear HMK hg9
      have HE3 := Lib.hid (eqNodeS_c x5 x3 u.length p5 p3 u (by have := HUL.out; omega) Y23 (row_own O5.out) (row_own O3.out))
      go_wp2_with fail
      refine (HE3.out).mono ?_
      rintro e Y24 ⟨rfl, hbs⟩
      have Y24B := Lib.hid (below_next Y23B.out hbs)
      replace O3 := Lib.hid (own_below O3.out hbs)
      replace O5 := Lib.hid (own_below O5.out hbs)
      clear hbs
      have HMK2 := Lib.hid (markNodeS_c (.slice x5 u.length p5) Y15.heap.size u.length (flatN u) (by have := HUL.out; omega) Y24 O5.out)
      go_wp2_with fail
      refine HMK2.out.mono ?_
      rintro e Y25 ⟨rfl, hgb, hob⟩
      have Y25B := Lib.hid (Y24B.out.grown hgb Y24B.out.size (fun k e => by have := K5.out k e; have := Y15B.out.size; omega))
      replace O3 := Lib.hid (own_farC O3.out hgb (fun k e1 e2 => by have := K3.out k e1; have := K5.out k e2; have := Y14Z.out; have := Y15Z.out; omega))
      have HM := Lib.hid (marked_at hob)
      have HH := Lib.hid (fun W' (hb : Below Y25.heap.size Y25 W') => heldNodeS_c x5 u.length p5 (by have := HUL.out; omega) W' (HM.out.keep hb))
      have HB0 := Lib.hid (Below.refl Y25.heap.size Y25)
      clear HMK2 hgb hob
      go_wp2_with fail
      refine (HH.out _ HB0.out).mono ?_
      rintro e Y26 ⟨rfl, hbs⟩
      have Y26B := Lib.hid (below_next Y25B.out hbs)
      replace O3 := Lib.hid (own_below O3.out hbs)
      replace HB0 := Lib.hid (below_next HB0.out hbs)
      clear hbs
      go_wp2_with fail
      refine (HTO0.out _ Y26B.out).mono ?_
      rintro e Y27 ⟨⟨sd, rfl, hod⟩, hbs⟩
      obtain ⟨xd0, pd0, rfl, hnd⟩ := nodes_of_own hod
      have Y27B := Lib.hid (below_next Y26B.out hbs)
      replace HB0 := Lib.hid (below_next HB0.out hbs)
      replace O3 := Lib.hid (own_below O3.out hbs)
      have HD0 := Lib.hid hnd
      clear hod hnd hbs
      go_wp2_with fail
      refine (HTO1.out _ Y27B.out).mono ?_
      rintro e Y28 ⟨⟨sd, rfl, hod⟩, hbs⟩
      obtain ⟨xd1, pd1, rfl, hnd⟩ := texts_of_own hod
      have Y28B := Lib.hid (below_next Y27B.out hbs)
      replace HB0 := Lib.hid (below_next HB0.out hbs)
      replace O3 := Lib.hid (own_below O3.out hbs)
      have HD1 := Lib.hid hnd
      replace HD0 := Lib.hid (HD0.out.keep hbs)
      clear hod hnd hbs
      go_wp2_with fail
      refine (HIM.out _ _ _ _ _ Y28B.out HD0.out HD1.out).mono ?_
      rintro e Y29 ⟨se, rfl, hoe, hbs⟩
      obtain ⟨xe, pe, rfl, hne⟩ := nodes_of_own hoe
      have Y29B := Lib.hid (below_next Y28B.out hbs)
      replace HB0 := Lib.hid (below_next HB0.out hbs)
      replace O3 := Lib.hid (own_below O3.out hbs)
      have HE4 := Lib.hid (eqNodeS_c xe x3 u.length pe p3 u (by have := HUL.out; omega) Y29 hne (row_own O3.out))
      clear hoe hne hbs
      go_wp2_with fail
      refine (HE4.out).mono ?_
      rintro e Y30 ⟨rfl, hbs⟩
      have Y30B := Lib.hid (below_next Y29B.out hbs)
      replace O3 := Lib.hid (own_below O3.out hbs)
      replace HB0 := Lib.hid (below_next HB0.out hbs)
      clear hbs
      go_wp2_with fail
      refine (HH.out _ HB0.out).mono ?_
      rintro e Y31 ⟨rfl, hbg⟩
      go_wp2
      go_ret
      exact ⟨rfl, below_next Y30B.out hbg⟩


set_option maxRecDepth 100000 in
theorem lifted (os : Os) (started : os.Started) (H : Type) (enc : TypeId × Value → H) :
    ReturnsInHanded {} Try.checked os 11 .any (Rows.fnExactFilterTreeSpec.pre6 enc Try.prog Try.f11 Rows.fnExactFilterTreeRow.domain false) (Rows.fnExactFilterTreeSpec.post enc Try.prog Try.f11 false true false false) := by
  refine returnsInHanded_of_change (C := Try.checked) own started (by kernel_rfl) Try.func11
    (ChangeSpec.witness6 (enc := enc) (C := Try.checked) false ⟨#[], #[.slice none 0 0, .slice none 0 0], []⟩ 8 (by kernel_rfl) (by kernel_rfl) (by kernel_rfl) (by kernel_rfl)) ?_
  intro W base args ds gs before hval0 hW hcnd _
  have hval : ∀ (j : Nat) t v, Try.f11.params[j]? = some t → args[j]? = some v → Value.okWide Try.prog W .any base t v := hval0
  have hW' := hW
  obtain ⟨p, q, hA0, hV, rfl, hfz, hnd⟩ := hW
  have hA : DataW.TrodAll enc Try.prog W 0 (fun _ => true) true Try.f11.params.toList args.toList ds p := hA0
  rw [Try.params11] at hA hval
  obtain ⟨v0, vs0, d0, ds0, p0, q0, hargs, rfl, rfl, h0, r0⟩ := trodAll_cons hA
  obtain ⟨v1, vs1, d1, ds1, p1, q1, rfl, rfl, rfl, h1, r1⟩ := trodAll_cons r0
  obtain ⟨rfl, rfl, rfl⟩ := trodAll_nil r1
  obtain rfl : args = #[v0, v1] := by cases args; simp_all
  obtain ⟨rfl, rfl⟩ := trodVars_none hV
  obtain ⟨a0, len0, cap0, rfl⟩ := okWide_slice Try.underlying57 (hval 0 57 v0 rfl rfl)
  have k0 := h0
  have lt0 : ∀ x ∈ p0, x.block < W.heap.size := by obtain ⟨m, hm⟩ := k0; exact DataW.trod_lt m _ _ _ hm
  obtain ⟨z0, w0, l0, m0⟩ : ∃ ns, NodesAt W a0 len0 ns ∧ len0 ≤ maxLen ∧ Short maxLen ns := by
    obtain ⟨fuel, hf⟩ := h0
    exact open_nodes hf
  obtain ⟨a1, len1, cap1, rfl⟩ := okWide_slice Try.underlying24 (hval 1 24 v1 rfl rfl)
  have k1 := h1
  have lt1 : ∀ x ∈ p1, x.block < W.heap.size := by obtain ⟨m, hm⟩ := k1; exact DataW.trod_lt m _ _ _ hm
  obtain ⟨z1, w1, l1, m1⟩ : ∃ cs, TextsAt W a1 len1 cs ∧ len1 ≤ maxLen ∧ ShortX maxLen cs := by
    obtain ⟨fuel, hf⟩ := h1
    exact open_texts hf
  clear hA0 hval0
  refine (walk a0 len0 cap0 z0 l0 m0 a1 len1 cap1 z1 l1 m1 W w0 w1).mono fun e W' ⟨he, bel⟩ => ?_
  subst he
  exact ⟨_, rfl, _, _, _, [], _, [], hW', trodAll_mk1 (shut_bool Try.underlying4 _), (trodAll_cons_mk (Below.trod laidOut (by kernel_rfl) (of_decide_eq_true (by kernel_rfl)) k0 bel lt0) (trodAll_cons_mk (Below.trod laidOut (by kernel_rfl) (of_decide_eq_true (by kernel_rfl)) k1 bel lt1) trodAll_mk0)), rfl, bel.frame _, fun h => by cases h⟩

theorem over : Rows.fnExactFilterTreeRow.holds Try.pinned (OpenSpec.ofChange Rows.fnExactFilterTreeSpec) :=
  OpenClaim.holds_of_wide 11 Try.f11 rfl rfl rfl rfl rfl rfl rfl ⟨rfl, rfl, rfl, rfl, rfl⟩ rfl rfl rfl rfl rfl (by kernel_rfl) Try.func11 (by kernel_rfl)
    (of_decide_eq_true (by kernel_rfl)) (by unfold Func.isWrapper; first | (rw [if_pos (by decide +kernel)]; kernel_rfl) | (rw [if_neg (by decide +kernel)]; exact ⟨rfl, rfl⟩))
    (fun os started H enc _ => lifted os started H enc)

theorem proved : Rows.FnExactFilterTreeSaid := over
end Go.Proofs.Ytmlnakkfjecibaa.fnExactFilterTree
