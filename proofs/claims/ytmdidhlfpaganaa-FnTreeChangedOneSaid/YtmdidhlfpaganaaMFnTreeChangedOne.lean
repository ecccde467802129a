/-
  laws.FnTreeChangedOne returns true for every input, and leaves its arguments as they were.
  Conditions: none.
-/
import Derived.Test.YtmdidhlfpaganaaRows
import Derived.WalkKit
import Derived.ProofKit
import Derived.OpenShut
import Derived.ShutString
import Derived.ChangeOld
import Derived.Below
import Derived.Test.YtmdidhlfpaganaaK5
namespace Go.Proofs.Ytmdidhlfpaganaa.fnTreeChangedOne
open Go.ChangeShapes Go.WideShapes Go.ChangeAt Go.RowKit
open Go.ChangeMaps (open_string shut_string)
set_option linter.unusedVariables false

theorem own : ownKnob Try.prog.godebug = none := by kernel_rfl
theorem laidOut : laidOutB Try.prog = true := by kernel_rfl

theorem cell_lt {W : World} {a : Addr} {v : Value} (h : W.cell? a = some v) : a.block < W.heap.size := World.block_lt_of_cell? W _ h

theorem conEql (k v k' v' : Int) (w : World) : (binOp .eql 31 (.agg #[.int .i64 k, .int .i64 v]) (.agg #[.int .i64 k', .int .i64 v'])).run Try.prog w = .ok (.bool (k == k' && v == v')) w := by
  by_cases h : k = k'
  · subst h
    by_cases h2 : v = v'
    · subst h2
      simp [binOp, go_sem, Op.equal, Op.maxDepth]
    · have : (v == v') = false := beq_eq_false_iff_ne.2 h2
      simp [binOp, go_sem, Op.equal, Op.maxDepth, h2]
  · have : (k == k') = false := beq_eq_false_iff_ne.2 h
    simp [binOp, go_sem, Op.equal, Op.maxDepth, this]

theorem texts_lit (W : World) (s : ByteArray) : TextsAt (W.alloc (.cells #[.string s] 9)) (some ⟨W.heap.size, 0, none⟩) 1 [s] := by
  refine ⟨rfl, .inr ⟨W.heap.size, 0, rfl, fun i z hz => ?_⟩⟩
  match i, hz with
  | 0, hz => simp at hz; subst hz; simp
  | i + 1, hz => simp at hz

set_option maxHeartbeats 2000000 in
set_option maxRecDepth 100000 in
theorem walk (a0 : Option Addr) (len0 cap0 : Nat) (z0 : List Int) (w : World) (w0 : IsRow .u8 w a0 len0 cap0 z0) :
    Calls Try.prog 8 #[.slice a0 len0 cap0] w fun e w' => e = .returned (.bool true) ∧ Below w.heap.size w w' := by
  by_cases h : len0 ≤ 1048576
  · have hl : (len0 : Int) ≤ 1048576 := by omega
    have HD := Lib.hid (drawTreePut_c a0 len0 cap0 z0 w w0)
    clear h w0
    go_enter Try.func8, Try.ntmps8
    go_wp2_with fail
    refine HD.out.mono ?_
    rintro e W1 ⟨sl, ns, s, k, v, rfl, hs, hd⟩
    unfold con
    obtain ⟨a, cap, rfl, hn⟩ := nodes_of_own hd.1
    have HN := Lib.hid hn
    have hlen := hd.2.1
    have HL := Lib.hid hlen
    have hsh := hd.2.2.1.mono (show 64 ≤ 66 by omega)
    have HSH := Lib.hid hsh
    have HS := Lib.hid hs
    have HBL := Lib.hid hd.2.2.2
    obtain ⟨r, hr⟩ : ∃ r, treePut ns s k v = r := ⟨_, rfl⟩
    have HT := Lib.hid (fun W' (hb : Below W1.heap.size W1 W') => show Calls Try.prog 15 #[.slice a ns.length cap, .string s, .agg #[.int .i64 k, .int .i64 v]] W' (TPost r W'.heap.size W') by
      rw [← hr]; exact implTreePut_c a ns.length cap ns s k v (by omega) (hsh.mono (by omega)) (by omega) W' (hn.keep hb))
    have HT2 := Lib.hid (fun W' (hb : Below W1.heap.size W1 W') => show Calls Try.prog 30 #[.slice a ns.length cap, .string s, .agg #[.int .i64 k, .int .i64 v]] W' (TPost r W'.heap.size W') by
      rw [← hr]; exact specTreePut_c a ns.length cap ns s k v (by omega) (hsh.mono (by omega)) (by omega) W' (hn.keep hb))
    have HR := Lib.hid hr
    clear hn hd hr hsh
    go_wp2_with fail
    refine (HT.out _ (below_box _ _)).mono ?_
    rintro e W2 ⟨o1, out1, b1, rfl, hc1, ho1, hb2⟩
    have q0 := box_cell hb2 0
    have q1 := box_cell hb2 1
    simp at q0 q1
    have HB2 := Lib.hid (below_next (below_box _ _) hb2)
    have HBX := Lib.hid hb2
    go_wp2_with fail
    refine (HT2.out _ HB2.out).mono ?_
    rintro e W3 ⟨o2, out2, b2, rfl, hc2, ho2, hb3⟩
    have r0 := cell_kept hb3 q0
    have r1 := cell_kept hb3 q1
    have HB3 := Lib.hid (below_next HB2.out hb3)
    have hw1 : W1.heap.size < W3.heap.size := by have := cell_lt r0; simpa using this
    have ho1' := own_below ho1 hb3
    obtain ⟨x1, p1, rfl, hn1⟩ := nodes_of_own ho1'
    obtain ⟨x2, p2, rfl, hn2⟩ := nodes_of_own ho2
    have HO1 := Lib.hid ho1'
    clear q0 q1 ho1 ho2 hb2 hb3 ho1'
    cases r with
    | none =>
      obtain ⟨rfl, rfl⟩ : b1 = false ∧ out1 = [] := by
        rcases hc1 with ⟨_, h⟩ | ⟨h1, _, h2⟩
        · cases h
        · exact ⟨h1, h2⟩
      obtain ⟨rfl, rfl⟩ : b2 = false ∧ out2 = [] := by
        rcases hc2 with ⟨_, h⟩ | ⟨h1, _, h2⟩
        · cases h
        · exact ⟨h1, h2⟩
      have HSM := Lib.hid (fun W' (hb : Below W3.heap.size W3 W') => sameNodes_c x1 x2 0 p1 p2 [] (by omega) W' (hn1.keep hb) (hn2.keep hb))
      clear hc1 hc2 hn1 hn2
      go_wp2_with fail
      refine (HSM.out _ (Below.refl _ _)).mono ?_
      rintro e W4 ⟨rfl, hb4⟩
      have H4 := Lib.hid hb4
      clear hb4
      go_wp2_with fail
      refine (HSM.out _ H4.out).mono ?_
      rintro e W5 ⟨rfl, hb5⟩
      go_wp2
      go_ret
      exact ⟨rfl, below_next HBL.out (below_next HB3.out (below_next H4.out hb5))⟩
    | some out =>
      obtain ⟨rfl, rfl⟩ : b1 = true ∧ out1 = out := by
        rcases hc1 with ⟨h1, h⟩ | ⟨_, h, _⟩
        · exact ⟨h1, (Option.some.inj h).symm⟩
        · cases h
      obtain ⟨rfl, rfl⟩ : b2 = true ∧ out2 = out1 := by
        rcases hc2 with ⟨h1, h⟩ | ⟨_, h, _⟩
        · exact ⟨h1, (Option.some.inj h).symm⟩
        · cases h
      obtain ⟨hv1, hv2, hv3, hv4, hv5⟩ := treePut_some HR.out
      have HVN := Lib.hid hv1
      have HVO := Lib.hid hv5
      have hol : out2.length ≤ 10 := ((validT_iff _).1 hv5).2.2
      have HOS := Lib.hid (show Short 66 out2 by rw [hv4]; exact short_put HSH.out HS.out)
      have HSM := Lib.hid (fun W' (hb : Below W3.heap.size W3 W') => sameNodes_c x1 x2 out2.length p1 p2 out2 (by omega) W' (hn1.keep hb) (hn2.keep hb))
      have HN1 := Lib.hid hn1
      clear hc1 hc2 hn1 hn2 hv1 hv2 hv3 hv4 hv5
      go_wp2_with fail
      refine (HSM.out _ (Below.refl _ _)).mono ?_
      rintro e W4 ⟨rfl, hb4⟩
      have H4 := Lib.hid hb4
      obtain ⟨ch, hch⟩ : ∃ ch, chgL ns out2 = ch := ⟨_, rfl⟩
      have HCP := Lib.hid (show ch = if getT ns s = (k, v) then [] else [s] by rw [← hch]; exact chg_put HR.out)
      have HTC := Lib.hid (fun W' (hb : Below W3.heap.size W3 W') => show Calls Try.prog 24 #[.slice a ns.length cap, .slice x1 out2.length p1] W' (TextsPost ch W') by
        rw [← hch]; exact implTreeChanged_c a ns.length cap ns x1 out2.length p1 out2 (by omega) (by omega) (HSH.out.mono (by omega)) (HOS.out.mono (by omega)) W' (HN.out.keep (below_next HB3.out hb)) (HN1.out.keep hb))
      obtain ⟨k2, v2, hkv⟩ : ∃ k v, treeGet ns s = (k, v) := ⟨_, _, rfl⟩
      have HG0 := Lib.hid (fun W' (hb : Below W1.heap.size W1 W') => show Calls Try.prog 17 #[.slice a ns.length cap, .string s] W' (ConRet k2 v2 W') by
        have := implTreeGet_c a ns.length cap ns s (by omega) (HSH.out.mono (by omega)) (by omega) W' (HN.out.keep hb)
        rwa [hkv] at this)
      have HGT := Lib.hid (show getT ns s = (k2, v2) by rw [← hkv, treeGet_eq HVN.out (vp_of_depth (treePut_some HR.out).2.1)])
      have s0 := cell_kept hb4 r0
      have s1 := cell_kept hb4 r1
      clear hb4 hkv hch r0 r1
      go_wp2_with fail
      refine (HTC.out _ H4.out).mono ?_
      rintro e W5 ⟨⟨x5, rfl, ho5⟩, hb5⟩
      obtain ⟨a5, c5, rfl, ht5⟩ := texts_of_own ho5
      have HT5 := Lib.hid ht5
      have t0 := cell_kept hb5 s0
      have t1 := cell_kept hb5 s1
      have H5 := Lib.hid (below_next H4.out hb5)
      obtain ⟨dd, hdd⟩ : ∃ dd, (k2 == k && v2 == v) = dd := ⟨_, rfl⟩
      have HDD := Lib.hid hdd
      have HS0 := Lib.hid (show W5.drew.cell? ⟨W1.heap.size, 0, none⟩ = some (.int .i64 k) ∧ W5.drew.cell? ⟨W1.heap.size, 1, none⟩ = some (.int .i64 v) from ⟨t0, t1⟩)
      have HG := Lib.hid (HG0.out W5.drew (below_next HB3.out H5.out).drew)
      clear ho5 ht5 hb5 s0 s1 t0 t1 hdd
      go_upto_region 9 with (fail)
      refine wp_region_held_drew (S := (fun w' => w'.cell? ⟨W1.heap.size, 0, none⟩ = some (.int .i64 k) ∧ w'.cell? ⟨W1.heap.size, 1, none⟩ = some (.int .i64 v))) (by kernel_rfl) HS0.out (fun hH => ?_)
      refine wpAnyH_take (i := 0) (oi := _) (v := ?_) rfl (by kernel_rfl) (by kernel_rfl) (by kernel_rfl) (fun _ _ _ h => h) (Or.inl ⟨by rfl, ?_⟩) (by assumption) ?_
      rotate_left
      · (intro w hSw; (try dsimp only at hSw); go_simp; try with_reducible rfl)
      try simp only [Act.put, List.getElem_toArray, List.getElem_cons_zero, List.setIfInBounds_toArray, List.set_cons_zero, List.set_cons_succ]
      refine wpAnyH_take (i := 1) (oi := _) (v := ?_) rfl (by kernel_rfl) (by kernel_rfl) (by kernel_rfl) (fun _ _ _ h => h) (Or.inl ⟨by rfl, ?_⟩) (by assumption) ?_
      rotate_left
      · (intro w hSw; (try dsimp only at hSw); go_simp; try with_reducible rfl)
      try simp only [Act.put, List.getElem_toArray, List.getElem_cons_zero, List.getElem_cons_succ, List.setIfInBounds_toArray, List.set_cons_zero, List.set_cons_succ]
      refine wpAnyH_take (i := 3) (oi := _) (v := ?_) rfl (by kernel_rfl) (by kernel_rfl) (by kernel_rfl) (fun _ _ _ h => h) (Or.inl ⟨by rfl, ?_⟩) (by assumption) ?_
      rotate_left
      · (intro w hSw; (try dsimp only at hSw); go_simp; try with_reducible rfl)
      try simp only [Act.put, List.getElem_toArray, List.getElem_cons_zero, List.getElem_cons_succ, List.setIfInBounds_toArray, List.set_cons_zero, List.set_cons_succ]
      refine wpAnyH_ready (rs := [2]) (by kernel_rfl) (by simp) ?_
      refine AllReadyH.cons rfl (fun K hK => ?_) (AllReadyH.nil)
      go_simp
      go_at_call 17; (with_reducible refine (HG.out).mono ?_); rintro e W7 ⟨rfl, hb7⟩
      refine hK.out _ _ ⟨cell_kept hb7 HS0.out.1, cell_kept hb7 HS0.out.2⟩ (fun hHeld => ?_)
      try simp only [Act.put, List.getElem_toArray, List.getElem_cons_zero, List.getElem_cons_succ, List.setIfInBounds_toArray, List.set_cons_zero, List.set_cons_succ]
      unfold con
      have hne := fun w => (conEql k2 v2 k v w).trans (show _ = Result.ok (Value.bool dd) w by rw [HDD.out])
      refine wpAnyH_take (i := 4) (oi := _) (v := ?_) rfl (by kernel_rfl) (by kernel_rfl) (by kernel_rfl) (fun _ _ _ h => h) (Or.inl ⟨by rfl, ?_⟩) (by assumption) ?_
      rotate_left
      · (intro w hSw; (try dsimp only at hSw); go_simp; try with_reducible rfl)
      try simp only [Act.put, List.getElem_toArray, List.getElem_cons_zero, List.getElem_cons_succ, List.setIfInBounds_toArray, List.set_cons_zero, List.set_cons_succ]
      refine wpAnyH_done (by kernel_rfl) ?_ _
      have H7 := Lib.hid (below_next (show Below W3.heap.size W3 W5.drew from H5.out.drew) hb7)
      have HT7 := Lib.hid ((show TextsAt W5.drew a5 ch.length ch from HT5.out).keep hb7)
      clear hb7
      cases dd with
      | true =>
        have hc0 : ch = [] := by
          rw [HCP.out, HGT.out]
          have := HDD.out
          simp only [Bool.and_eq_true, beq_iff_eq] at this
          rw [this.1, this.2, if_pos rfl]
        subst hc0
        go_wp2_with fail
        go_ret
        exact ⟨rfl, below_next HBL.out (below_next HB3.out H7.out)⟩
      | false =>
        have hc0 : ch = [s] := by
          rw [HCP.out, HGT.out, if_neg]
          intro e
          have := HDD.out
          simp only [Prod.mk.injEq] at e
          rw [e.1, e.2] at this
          simp at this
        subst hc0
        have HSL := Lib.hid (sameTexts_c a5 (some ⟨W7.heap.size, 0, none⟩) 1 c5 1 [s] (by omega) (W7.alloc (.cells #[.string s] 9)) (HT7.out.keep (below_box _ _)) (texts_lit W7 s))
        go_wp2_with fail
        refine HSL.out.mono ?_
        rintro e W8 ⟨rfl, hb8⟩
        have HB8 := Lib.hid (below_next HBL.out (below_next HB3.out (below_next H7.out (below_next (below_box _ _) hb8))))
        clear hb8
        go_wp2
        go_ret
        exact ⟨rfl, HB8.out⟩
  · have hl : (1048576 : Int) < len0 := by omega
    clear h w0
    go_enter Try.func8, Try.ntmps8
    go_wp2
    go_ret
    exact ⟨rfl, Below.refl _ _⟩



set_option maxRecDepth 100000 in
theorem lifted (os : Os) (started : os.Started) (H : Type) (enc : TypeId × Value → H) :
    ReturnsInHanded {} Try.checked os 8 .any (Rows.fnTreeChangedOneSpec.pre6 enc Try.prog Try.f8 Rows.fnTreeChangedOneRow.domain false) (Rows.fnTreeChangedOneSpec.post enc Try.prog Try.f8 false true false false) := by
  refine returnsInHanded_of_change (C := Try.checked) own started (by kernel_rfl) Try.func8
    (ChangeSpec.witness6 (enc := enc) (C := Try.checked) false ⟨#[], #[.slice none 0 0], []⟩ 8 (by kernel_rfl) (by kernel_rfl) (by kernel_rfl) (by kernel_rfl)) ?_
  intro W base args ds gs before hval0 hW hcnd _
  have hval : ∀ (j : Nat) t v, Try.f8.params[j]? = some t → args[j]? = some v → Value.okWide Try.prog W .any base t v := hval0
  have hW' := hW
  obtain ⟨p, q, hA0, hV, rfl, hfz, hnd⟩ := hW
  have hA : DataW.TrodAll enc Try.prog W 0 (fun _ => true) true Try.f8.params.toList args.toList ds p := hA0
  rw [Try.params8] at hA hval
  obtain ⟨v0, vs0, d0, ds0, p0, q0, hargs, rfl, rfl, h0, r0⟩ := trodAll_cons hA
  obtain ⟨rfl, rfl, rfl⟩ := trodAll_nil r0
  obtain rfl : args = #[v0] := by cases args; simp_all
  obtain ⟨rfl, rfl⟩ := trodVars_none hV
  obtain ⟨a0, len0, cap0, rfl⟩ := okWide_slice Try.underlying22 (hval 0 22 v0 rfl rfl)
  have k0 := h0
  have lt0 : ∀ x ∈ p0, x.block < W.heap.size := by obtain ⟨m, hm⟩ := k0; exact DataW.trod_lt m _ _ _ hm
  obtain ⟨z0, w0⟩ : ∃ zs, IsRow .u8 W a0 len0 cap0 zs := by
    obtain ⟨fuel, hf⟩ := h0
    rcases open_ints Try.underlying22 Try.underlying5 (by kernel_rfl) hf with ⟨hcs, _⟩ | ⟨x, l, c, zs, hcs, _, hl, hm, hz, _, hcell, hwz⟩
    · simp [Value.cells] at hcs
      obtain ⟨rfl, rfl, rfl⟩ := hcs
      exact ⟨[], .inl ⟨rfl, rfl, rfl, rfl⟩⟩
    · simp [Value.cells] at hcs
      obtain ⟨rfl, rfl, rfl⟩ := hcs
      exact ⟨zs, .inr ⟨_, rfl, hl, hm, by simpa using hz, hcell, hwz⟩⟩
  clear hA0 hval0
  refine (walk a0 len0 cap0 z0 W w0).mono fun e W' ⟨he, bel⟩ => ?_
  subst he
  exact ⟨_, rfl, _, _, _, [], _, [], hW', trodAll_mk1 (shut_bool Try.underlying4 _), (trodAll_cons_mk (Below.trod laidOut (by kernel_rfl) (of_decide_eq_true (by kernel_rfl)) k0 bel lt0) trodAll_mk0), rfl, bel.frame _, fun h => by cases h⟩

theorem over : Rows.fnTreeChangedOneRow.holds Try.pinned (OpenSpec.ofChange Rows.fnTreeChangedOneSpec) :=
  OpenClaim.holds_of_wide 8 Try.f8 rfl rfl rfl rfl rfl rfl rfl ⟨rfl, rfl, rfl, rfl, rfl⟩ rfl rfl rfl rfl rfl (by kernel_rfl) Try.func8 (by kernel_rfl)
    (of_decide_eq_true (by kernel_rfl)) (by unfold Func.isWrapper; first | (rw [if_pos (by decide +kernel)]; kernel_rfl) | (rw [if_neg (by decide +kernel)]; exact ⟨rfl, rfl⟩))
    (fun os started H enc _ => lifted os started H enc)

theorem proved : Rows.FnTreeChangedOneSaid := over
end Go.Proofs.Ytmdidhlfpaganaa.fnTreeChangedOne
