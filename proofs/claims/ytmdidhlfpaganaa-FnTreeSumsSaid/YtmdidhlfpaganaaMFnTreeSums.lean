/-
  laws.FnTreeSums returns true for every input, and leaves its arguments as they were.
  Conditions: none.
-/
import Derived.Test.YtmdidhlfpaganaaRows
import Derived.WalkKit
import Derived.ProofKit
import Derived.OpenShut
import Derived.ShutString
import Derived.ChangeOld
import Derived.Below
import Derived.Test.YtmdidhlfpaganaaK5
namespace Go.Proofs.Ytmdidhlfpaganaa.fnTreeSums
open Go.ChangeShapes Go.WideShapes Go.ChangeAt Go.RowKit
open Go.ChangeMaps (open_string shut_string)
set_option linter.unusedVariables false

theorem own : ownKnob Try.prog.godebug = none := by kernel_rfl
theorem laidOut : laidOutB Try.prog = true := by kernel_rfl

set_option maxHeartbeats 2000000 in
set_option maxRecDepth 100000 in
theorem walk (a0 : Option Addr) (len0 cap0 : Nat) (z0 : List Int) (w : World) (w0 : IsRow .u8 w a0 len0 cap0 z0) :
    Calls Try.prog 5 #[.slice a0 len0 cap0] w fun e w' => e = .returned (.bool true) ∧ Below w.heap.size w w' := by
  by_cases h : len0 ≤ 1048576
  · have hl : (len0 : Int) ≤ 1048576 := by omega
    have HD := Lib.hid (drawTreeSums_c a0 len0 cap0 z0 w w0)
    clear h w0
    go_enter Try.func5, Try.ntmps5
    go_wp2_with fail
    refine HD.out.mono ?_
    rintro e W1 ⟨sl, ns, rfl, hd⟩
    obtain ⟨a, cap, rfl, hn⟩ := nodes_of_own hd.1
    have HN := Lib.hid hn
    have hlen := hd.2.1
    have HL := Lib.hid hlen
    have HSH := Lib.hid hd.2.2.1
    have HBL := Lib.hid hd.2.2.2
    obtain ⟨vt, hvt⟩ : ∃ vt, validT ns = vt := ⟨_, rfl⟩
    have HV := Lib.hid (fun W' (hb : Below W1.heap.size W1 W') => show Calls Try.prog 22 #[.slice a ns.length cap] W' (BoolPost vt W') by
      rw [← hvt]; exact specTreeValid_c a ns.length cap ns (by omega) (hd.2.2.1.mono (by omega)) W' (hn.keep hb))
    obtain ⟨out, hout⟩ : ∃ out, treeSums ns = out := ⟨_, rfl⟩
    have HI := Lib.hid (show Calls Try.prog 19 #[.slice a ns.length cap] W1 (fun e W' => OwnsInts W1.heap.size out e W' ∧ Below W1.heap.size W1 W') by
      rw [← hout]; exact implTreeSums_c a ns.length cap ns (by omega) (hd.2.2.1.mono (by omega)) W1 hn)
    have HS := Lib.hid (fun W' (hb : Below W1.heap.size W1 W') => show Calls Try.prog 20 #[.slice a ns.length cap] W' (fun e W'' => OwnsInts W'.heap.size out e W'' ∧ Below W'.heap.size W' W'') by
      rw [← hout]; exact specTreeSums_c a ns.length cap ns (by omega) (hd.2.2.1.mono (by omega)) W' (hn.keep hb))
    have HIS := Lib.hid (fun p (hp : p.size ≤ 2097152) W' (hb : Below W1.heap.size W1 W') => implTreeSum_c a ns.length cap ns p (by omega) (hd.2.2.1.mono (by omega)) hp W' (hn.keep hb))
    have HOL := Lib.hid (show out.length ≤ 11 by rw [← hout]; unfold treeSums; split <;> simp; omega)
    obtain ⟨ln, hln⟩ : ∃ ln, ns.length = ln := ⟨_, rfl⟩
    rw [hln] at HI HS HV HN HIS hlen ⊢
    have HLN := Lib.hid hln
    have HOUT := Lib.hid hout
    have HVT := Lib.hid hvt
    have hlen' : (ln : Int) ≤ 11 := by omega
    clear hn hd hvt hout hln hlen
    go_wp2_with fail
    refine HI.out.mono ?_
    rintro e W2 ⟨⟨s2, rfl, ho2⟩, hb2⟩
    obtain ⟨a2, c2, rfl, hn2⟩ := ints_of_own ho2
    have HN2 := Lib.hid hn2
    have HB2 := Lib.hid hb2
    clear ho2 hn2 hb2
    obtain ⟨fl, hfl⟩ : ∃ fl, out.length = fl := ⟨_, rfl⟩
    rw [hfl] at HN2 HOL ⊢
    have HFE := Lib.hid hfl
    clear hfl
    go_wp2_with fail
    refine (HS.out _ HB2.out).mono ?_
    rintro e W3 ⟨⟨s3, rfl, ho3⟩, hb3⟩
    obtain ⟨a3, c3, rfl, hn3⟩ := ints_of_own ho3
    rw [HFE.out] at hn3 ⊢
    have HN3 := Lib.hid hn3
    have HN23 := Lib.hid (HN2.out.keep hb3)
    have HB3 := Lib.hid (below_next HB2.out hb3)
    clear ho3 hn3 hb3
    have HSI := Lib.hid (fun W' (hb : Below W3.heap.size W3 W') => sameInts_c a2 a3 fl c2 c3 out (by have := HOL.out; omega) W' (HN23.out.keep hb) (HN3.out.keep hb))
    go_wp2_with fail
    refine (HSI.out _ (Below.refl _ _)).mono ?_
    rintro e W4 ⟨rfl, hb4⟩
    have H4 := Lib.hid hb4
    have HB4 := Lib.hid (below_next HB3.out hb4)
    clear hb4
    go_wp2_with fail
    refine (HV.out _ HB4.out).mono ?_
    rintro e W5 ⟨rfl, hb5⟩
    have H5 := Lib.hid (below_next H4.out hb5)
    have HB5 := Lib.hid (below_next HB4.out hb5)
    clear hb5
    cases vt with
    | false =>
      go_wp2_with fail
      refine (HSI.out _ H5.out).mono ?_
      rintro e W6 ⟨rfl, hb6⟩
      go_wp2
      go_ret
      exact ⟨rfl, below_next HBL.out (below_next HB5.out hb6)⟩
    | true =>
      have hof : out = ns.map (fun x => treeSum ns x.p) := by rw [← HOUT.out]; unfold treeSums; rw [HVT.out]; rfl
      have hfl : fl = ln := by rw [← HFE.out, ← HLN.out, hof, List.length_map]
      subst hfl
      have HOF := Lib.hid hof
      clear hof
      go_wp2_with fail
      go_loopw [6] (fun i wr => ∃ n : Nat, i = .int .i64 n ∧ n ≤ fl ∧ Hid (Below W5.heap.size W5 wr)) (fun i _ => fl - (intOf i).toNat)
      case atStart => exact ⟨0, rfl, by omega, Below.refl _ _⟩
      case round =>
        obtain ⟨i, rfl, hi, HB⟩ := hrel
        by_cases hlt : i < fl
        · have hlt' : (i : Int) < fl := by omega
          have hil : (i : Int) ≤ 11 := by omega
          have HLT := Lib.hid hlt
          obtain ⟨b, off, z, rfl, hz, x0⟩ := ((HN23.out.keep H5.out).keep HB.out).at hlt
          obtain ⟨b2, off2, n, rfl, hn, y0, -, -⟩ := ((HN.out.keep HB5.out).keep HB.out).node hlt
          have hzs : z = treeSum ns n.p := by
            rw [HOF.out, List.getElem?_map, hn] at hz
            exact (Option.some.inj hz).symm
          have hps : n.p.size ≤ 64 := HSH.out n (List.mem_of_getElem? hn)
          have HIX := Lib.hid (show Calls Try.prog 13 #[.slice (some ⟨b2, off2, none⟩) fl cap, .string n.p] wr.drew (NumPost z wr.drew) by
            rw [hzs]; exact HIS.out n.p (by omega) wr.drew (below_next HB5.out HB.out).drew)
          have HS0 := Lib.hid (show wr.drew.cell? ⟨b, off + i, none⟩ = some (.int .i64 z) ∧ wr.drew.cell? ⟨b2, off2 + i * 3, none⟩ = some (.string n.p) from ⟨x0, y0⟩)
          have hzz : (z != z) = false := by simp
          clear hlt hi hz hn hzs hps
          go_upto_region 11 with (fail)
          refine wp_region_held_drew (S := (fun w' => w'.cell? ⟨b, off + i, none⟩ = some (.int .i64 z) ∧ w'.cell? ⟨b2, off2 + i * 3, none⟩ = some (.string n.p))) (by kernel_rfl) HS0.out (fun hH => ?_)
          refine wpAnyH_take (i := 0) (oi := _) (v := ?_) rfl (by kernel_rfl) (by kernel_rfl) (by kernel_rfl) (fun _ _ _ h => h) (Or.inl ⟨by rfl, ?_⟩) (by assumption) ?_
          rotate_left
          · (intro w hSw; (try dsimp only at hSw); go_simp; try with_reducible rfl)
          try simp only [Act.put, List.getElem_toArray, List.getElem_cons_zero, List.setIfInBounds_toArray, List.set_cons_zero, List.set_cons_succ]
          refine wpAnyH_take (i := 1) (oi := _) (v := ?_) rfl (by kernel_rfl) (by kernel_rfl) (by kernel_rfl) (fun _ _ _ h => h) (Or.inl ⟨by rfl, ?_⟩) (by assumption) ?_
          rotate_left
          · (intro w hSw; (try dsimp only at hSw); go_simp; try with_reducible rfl)
          try simp only [Act.put, List.getElem_toArray, List.getElem_cons_zero, List.getElem_cons_succ, List.setIfInBounds_toArray, List.set_cons_zero, List.set_cons_succ]
          refine wpAnyH_take (i := 2) (oi := _) (v := ?_) rfl (by kernel_rfl) (by kernel_rfl) (by kernel_rfl) (fun _ _ _ h => h) (Or.inl ⟨by rfl, ?_⟩) (by assumption) ?_
          rotate_left
          · (intro w hSw; (try dsimp only at hSw); go_simp; try with_reducible rfl)
          try simp only [Act.put, List.getElem_toArray, List.getElem_cons_zero, List.getElem_cons_succ, List.setIfInBounds_toArray, List.set_cons_zero, List.set_cons_succ]
          refine wpAnyH_take (i := 3) (oi := _) (v := ?_) rfl (by kernel_rfl) (by kernel_rfl) (by kernel_rfl) (fun _ _ _ h => h) (Or.inl ⟨by rfl, ?_⟩) (by assumption) ?_
          rotate_left
          · (intro w hSw; (try dsimp only at hSw); go_simp; try with_reducible rfl)
          try simp only [Act.put, List.getElem_toArray, List.getElem_cons_zero, List.getElem_cons_succ, List.setIfInBounds_toArray, List.set_cons_zero, List.set_cons_succ]
          refine wpAnyH_take (i := 4) (oi := _) (v := ?_) rfl (by kernel_rfl) (by kernel_rfl) (by kernel_rfl) (fun _ _ _ h => h) (Or.inl ⟨by rfl, ?_⟩) (by assumption) ?_
          rotate_left
          · (intro w hSw; (try dsimp only at hSw); go_simp; try with_reducible rfl)
          try simp only [Act.put, List.getElem_toArray, List.getElem_cons_zero, List.getElem_cons_succ, List.setIfInBounds_toArray, List.set_cons_zero, List.set_cons_succ]
          refine wpAnyH_take (i := 5) (oi := _) (v := ?_) rfl (by kernel_rfl) (by kernel_rfl) (by kernel_rfl) (fun _ _ _ h => h) (Or.inl ⟨by rfl, ?_⟩) (by assumption) ?_
          rotate_left
          · (intro w hSw; (try dsimp only at hSw); go_simp; try with_reducible rfl)
          try simp only [Act.put, List.getElem_toArray, List.getElem_cons_zero, List.getElem_cons_succ, List.setIfInBounds_toArray, List.set_cons_zero, List.set_cons_succ]
          refine wpAnyH_take (i := 6) (oi := _) (v := ?_) rfl (by kernel_rfl) (by kernel_rfl) (by kernel_rfl) (fun _ _ _ h => h) (Or.inl ⟨by rfl, ?_⟩) (by assumption) ?_
          rotate_left
          · (intro w hSw; (try dsimp only at hSw); go_simp; try with_reducible rfl)
          try simp only [Act.put, List.getElem_toArray, List.getElem_cons_zero, List.getElem_cons_succ, List.setIfInBounds_toArray, List.set_cons_zero, List.set_cons_succ]
          refine wpAnyH_take (i := 7) (oi := _) (v := ?_) rfl (by kernel_rfl) (by kernel_rfl) (by kernel_rfl) (fun _ _ _ h => h) (Or.inl ⟨by rfl, ?_⟩) (by assumption) ?_
          rotate_left
          · (intro w hSw; (try dsimp only at hSw); go_simp; try with_reducible rfl)
          try simp only [Act.put, List.getElem_toArray, List.getElem_cons_zero, List.getElem_cons_succ, List.setIfInBounds_toArray, List.set_cons_zero, List.set_cons_succ]
          refine wpAnyH_take (i := 8) (oi := _) (v := ?_) rfl (by kernel_rfl) (by kernel_rfl) (by kernel_rfl) (fun _ _ _ h => h) (Or.inl ⟨by rfl, ?_⟩) (by assumption) ?_
          rotate_left
          · (intro w hSw; (try dsimp only at hSw); go_simp; try with_reducible rfl)
          try simp only [Act.put, List.getElem_toArray, List.getElem_cons_zero, List.getElem_cons_succ, List.setIfInBounds_toArray, List.set_cons_zero, List.set_cons_succ]
          refine wpAnyH_take (i := 9) (oi := _) (v := ?_) rfl (by kernel_rfl) (by kernel_rfl) (by kernel_rfl) (fun _ _ _ h => h) (Or.inl ⟨by rfl, ?_⟩) (by assumption) ?_
          rotate_left
          · (intro w hSw; (try dsimp only at hSw); go_simp; try with_reducible rfl)
          try simp only [Act.put, List.getElem_toArray, List.getElem_cons_zero, List.getElem_cons_succ, List.setIfInBounds_toArray, List.set_cons_zero, List.set_cons_succ]
          refine wpAnyH_ready (rs := [10]) (by kernel_rfl) (by simp) ?_
          refine AllReadyH.cons rfl (fun K hK => ?_) (AllReadyH.nil)
          go_simp
          go_at_call 13; (with_reducible refine (HIX.out).mono ?_); rintro e W6 ⟨rfl, hb6⟩
          refine hK.out _ _ ⟨cell_kept hb6 HS0.out.1, cell_kept hb6 HS0.out.2⟩ (fun hHeld => ?_)
          try simp only [Act.put, List.getElem_toArray, List.getElem_cons_zero, List.getElem_cons_succ, List.setIfInBounds_toArray, List.set_cons_zero, List.set_cons_succ]
          refine wpAnyH_take (i := 11) (oi := _) (v := ?_) rfl (by kernel_rfl) (by kernel_rfl) (by kernel_rfl) (fun _ _ _ h => h) (Or.inl ⟨by rfl, ?_⟩) (by assumption) ?_
          rotate_left
          · (intro w hSw; (try dsimp only at hSw); go_simp; try with_reducible rfl)
          try simp only [Act.put, List.getElem_toArray, List.getElem_cons_zero, List.getElem_cons_succ, List.setIfInBounds_toArray, List.set_cons_zero, List.set_cons_succ]
          refine wpAnyH_done (by kernel_rfl) ?_ _
          have HB6 := Lib.hid (below_next (show Below W5.heap.size W5 wr.drew from HB.out.drew) hb6)
          clear x0 y0 hb6
          go_wp2_with fail
          go_roundw
          case rel => exact ⟨i + 1, by push_cast; rfl, by have := HLT.out; omega, HB6.out⟩
          case measure => have := HLT.out; simp [intOf]; omega
        · have hge : (fl : Int) ≤ i := by omega
          have HBE := Lib.hid (below_next HBL.out (below_next HB5.out HB.out))
          have hff : ((fl : Int) == fl) = true := by simp
          clear hi hlt
          go_wp2
          go_ret
          exact ⟨rfl, HBE.out⟩
  · have hl : (1048576 : Int) < len0 := by omega
    clear h w0
    go_enter Try.func5, Try.ntmps5
    go_wp2
    go_ret
    exact ⟨rfl, Below.refl _ _⟩


set_option maxRecDepth 100000 in
theorem lifted (os : Os) (started : os.Started) (H : Type) (enc : TypeId × Value → H) :
    ReturnsInHanded {} Try.checked os 5 .any (Rows.fnTreeSumsSpec.pre6 enc Try.prog Try.f5 Rows.fnTreeSumsRow.domain false) (Rows.fnTreeSumsSpec.post enc Try.prog Try.f5 false true false false) := by
  refine returnsInHanded_of_change (C := Try.checked) own started (by kernel_rfl) Try.func5
    (ChangeSpec.witness6 (enc := enc) (C := Try.checked) false ⟨#[], #[.slice none 0 0], []⟩ 8 (by kernel_rfl) (by kernel_rfl) (by kernel_rfl) (by kernel_rfl)) ?_
  intro W base args ds gs before hval0 hW hcnd _
  have hval : ∀ (j : Nat) t v, Try.f5.params[j]? = some t → args[j]? = some v → Value.okWide Try.prog W .any base t v := hval0
  have hW' := hW
  obtain ⟨p, q, hA0, hV, rfl, hfz, hnd⟩ := hW
  have hA : DataW.TrodAll enc Try.prog W 0 (fun _ => true) true Try.f5.params.toList args.toList ds p := hA0
  rw [Try.params5] at hA hval
  obtain ⟨v0, vs0, d0, ds0, p0, q0, hargs, rfl, rfl, h0, r0⟩ := trodAll_cons hA
  obtain ⟨rfl, rfl, rfl⟩ := trodAll_nil r0
  obtain rfl : args = #[v0] := by cases args; simp_all
  obtain ⟨rfl, rfl⟩ := trodVars_none hV
  obtain ⟨a0, len0, cap0, rfl⟩ := okWide_slice Try.underlying22 (hval 0 22 v0 rfl rfl)
  have k0 := h0
  have lt0 : ∀ x ∈ p0, x.block < W.heap.size := by obtain ⟨m, hm⟩ := k0; exact DataW.trod_lt m _ _ _ hm
  obtain ⟨z0, w0⟩ : ∃ zs, IsRow .u8 W a0 len0 cap0 zs := by
    obtain ⟨fuel, hf⟩ := h0
    rcases open_ints Try.underlying22 Try.underlying5 (by kernel_rfl) hf with ⟨hcs, _⟩ | ⟨x, l, c, zs, hcs, _, hl, hm, hz, _, hcell, hwz⟩
    · simp [Value.cells] at hcs
      obtain ⟨rfl, rfl, rfl⟩ := hcs
      exact ⟨[], .inl ⟨rfl, rfl, rfl, rfl⟩⟩
    · simp [Value.cells] at hcs
      obtain ⟨rfl, rfl, rfl⟩ := hcs
      exact ⟨zs, .inr ⟨_, rfl, hl, hm, by simpa using hz, hcell, hwz⟩⟩
  clear hA0 hval0
  refine (walk a0 len0 cap0 z0 W w0).mono fun e W' ⟨he, bel⟩ => ?_
  subst he
  exact ⟨_, rfl, _, _, _, [], _, [], hW', trodAll_mk1 (shut_bool Try.underlying4 _), (trodAll_cons_mk (Below.trod laidOut (by kernel_rfl) (of_decide_eq_true (by kernel_rfl)) k0 bel lt0) trodAll_mk0), rfl, bel.frame _, fun h => by cases h⟩

theorem over : Rows.fnTreeSumsRow.holds Try.pinned (OpenSpec.ofChange Rows.fnTreeSumsSpec) :=
  OpenClaim.holds_of_wide 5 Try.f5 rfl rfl rfl rfl rfl rfl rfl ⟨rfl, rfl, rfl, rfl, rfl⟩ rfl rfl rfl rfl rfl (by kernel_rfl) Try.func5 (by kernel_rfl)
    (of_decide_eq_true (by kernel_rfl)) (by unfold Func.isWrapper; first | (rw [if_pos (by decide +kernel)]; kernel_rfl) | (rw [if_neg (by decide +kernel)]; exact ⟨rfl, rfl⟩))
    (fun os started H enc _ => lifted os started H enc)

theorem proved : Rows.FnTreeSumsSaid := over
end Go.Proofs.Ytmdidhlfpaganaa.fnTreeSums
