/-
  laws.FnTreePutBack returns true for every input, and leaves its arguments as they were.
  Conditions: none.
-/
import Derived.Test.YtkoopkaoojhfhaaRows
import Derived.Test.YtkoopkaoojhfhaaIu
import Derived.Test.YtkoopkaoojhfhaaLd
import Derived.Test.YtkoopkaoojhfhaaTt
import Derived.Test.YtkoopkaoojhfhaaSm
import Derived.WalkKit
import Derived.ProofKit
import Derived.OpenShut
import Derived.ShutString
import Derived.ChangeOld
import Derived.Below
namespace Go.Proofs.Ytkoopkaoojhfhaa.fnTreePutBack
open Go.ChangeShapes Go.WideShapes Go.ChangeAt Go.RowKit
open Go.ChangeMaps (open_string shut_string)
set_option linter.unusedVariables false

theorem own : ownKnob Try.prog.godebug = none := by kernel_rfl
theorem laidOut : laidOutB Try.prog = true := by kernel_rfl

theorem cell_lt {W : World} {a : Addr} {v : Value} (h : W.cell? a = some v) : a.block < W.heap.size := World.block_lt_of_cell? W _ h

set_option maxHeartbeats 2000000 in
set_option maxRecDepth 100000 in
theorem walk (a0 : Option Addr) (len0 cap0 : Nat) (z0 : List Int) (w : World) (w0 : IsRow .u8 w a0 len0 cap0 z0) :
    Calls Try.prog 6 #[.slice a0 len0 cap0] w fun e w' => e = .returned (.bool true) ∧ Below w.heap.size w w' := by
  by_cases h : len0 ≤ 1048576
  · have hl : (len0 : Int) ≤ 1048576 := by omega
    have HD := Lib.hid (drawTreePut_c a0 len0 cap0 z0 w w0)
    clear h w0
    go_enter Try.func6, Try.ntmps6
    go_wp2_with fail
    refine HD.out.mono ?_
    rintro e W1 ⟨sl, ns, s, k, v, rfl, hs, hd⟩
    unfold con
    obtain ⟨a, cap, rfl, hn⟩ := nodes_of_own hd.1
    have HN := Lib.hid hn
    have hlen := hd.2.1
    have HL := Lib.hid hlen
    have hsh := hd.2.2.1.mono (show 64 ≤ 66 by omega)
    have HSH := Lib.hid hsh
    have HS := Lib.hid hs
    have HBL := Lib.hid hd.2.2.2
    obtain ⟨r, hr⟩ : ∃ r, treePut ns s k v = r := ⟨_, rfl⟩
    have HT := Lib.hid (fun W' (hb : Below W1.heap.size W1 W') => show Calls Try.prog 23 #[.slice a ns.length cap, .string s, .agg #[.int .i64 k, .int .i64 v]] W' (TPost r W'.heap.size W') by
      rw [← hr]; exact implTreePut_c a ns.length cap ns s k v (by omega) (hsh.mono (by omega)) (by omega) W' (hn.keep hb))
    have HT2 := Lib.hid (fun W' (hb : Below W1.heap.size W1 W') => show Calls Try.prog 24 #[.slice a ns.length cap, .string s, .agg #[.int .i64 k, .int .i64 v]] W' (TPost r W'.heap.size W') by
      rw [← hr]; exact specTreePut_c a ns.length cap ns s k v (by omega) (hsh.mono (by omega)) (by omega) W' (hn.keep hb))
    have HR := Lib.hid hr
    clear hn hd hr hsh
    go_wp2_with fail
    refine (HT.out _ (below_box _ _)).mono ?_
    rintro e W2 ⟨o1, out1, b1, rfl, hc1, ho1, hb2⟩
    have q0 := box_cell hb2 0
    have q1 := box_cell hb2 1
    simp at q0 q1
    have HB2 := Lib.hid (below_next (below_box _ _) hb2)
    have HBX := Lib.hid hb2
    go_wp2_with fail
    refine (HT2.out _ HB2.out).mono ?_
    rintro e W3 ⟨o2, out2, b2, rfl, hc2, ho2, hb3⟩
    have r0 := cell_kept hb3 q0
    have r1 := cell_kept hb3 q1
    have HB3 := Lib.hid (below_next HB2.out hb3)
    have hw1 : W1.heap.size < W3.heap.size := by have := cell_lt r0; simpa using this
    have ho1' := own_below ho1 hb3
    obtain ⟨x1, p1, rfl, hn1⟩ := nodes_of_own ho1'
    obtain ⟨x2, p2, rfl, hn2⟩ := nodes_of_own ho2
    have HO1 := Lib.hid ho1'
    clear q0 q1 ho1 ho2 hb2 hb3 ho1'
    cases r with
    | none =>
      obtain ⟨rfl, rfl⟩ : b1 = false ∧ out1 = [] := by
        rcases hc1 with ⟨_, h⟩ | ⟨h1, _, h2⟩
        · cases h
        · exact ⟨h1, h2⟩
      obtain ⟨rfl, rfl⟩ : b2 = false ∧ out2 = [] := by
        rcases hc2 with ⟨_, h⟩ | ⟨h1, _, h2⟩
        · cases h
        · exact ⟨h1, h2⟩
      have HSM := Lib.hid (fun W' (hb : Below W3.heap.size W3 W') => sameNodes_c x1 x2 0 p1 p2 [] (by omega) W' (hn1.keep hb) (hn2.keep hb))
      clear hc1 hc2 hn1 hn2
      go_wp2_with fail
      refine (HSM.out _ (Below.refl _ _)).mono ?_
      rintro e W4 ⟨rfl, hb4⟩
      have H4 := Lib.hid hb4
      clear hb4
      go_wp2_with fail
      refine (HSM.out _ H4.out).mono ?_
      rintro e W5 ⟨rfl, hb5⟩
      go_wp2
      go_ret
      exact ⟨rfl, below_next HBL.out (below_next HB3.out (below_next H4.out hb5))⟩
    | some out =>
      obtain ⟨rfl, rfl⟩ : b1 = true ∧ out1 = out := by
        rcases hc1 with ⟨h1, h⟩ | ⟨_, h, _⟩
        · exact ⟨h1, (Option.some.inj h).symm⟩
        · cases h
      obtain ⟨rfl, rfl⟩ : b2 = true ∧ out2 = out1 := by
        rcases hc2 with ⟨h1, h⟩ | ⟨_, h, _⟩
        · exact ⟨h1, (Option.some.inj h).symm⟩
        · cases h
      obtain ⟨hv1, hv2, hv3, hv4, hv5⟩ := treePut_some HR.out
      have HVN := Lib.hid hv1
      have HVO := Lib.hid hv5
      have hol : out2.length ≤ 10 := ((validT_iff _).1 hv5).2.2
      have HOS := Lib.hid (show Short 66 out2 by rw [hv4]; exact short_put HSH.out HS.out)
      have HSM := Lib.hid (fun W' (hb : Below W3.heap.size W3 W') => sameNodes_c x1 x2 out2.length p1 p2 out2 (by omega) W' (hn1.keep hb) (hn2.keep hb))
      have HN1 := Lib.hid hn1
      clear hc1 hc2 hn1 hn2 hv1 hv2 hv3 hv4 hv5
      go_wp2_with fail
      refine (HSM.out _ (Below.refl _ _)).mono ?_
      rintro e W4 ⟨rfl, hb4⟩
      have H4 := Lib.hid hb4
      obtain ⟨k2, v2, hkv⟩ : ∃ k v, treeGet ns s = (k, v) := ⟨_, _, rfl⟩
      have HG := Lib.hid (fun W' (hb : Below W1.heap.size W1 W') => show Calls Try.prog 17 #[.slice a ns.length cap, .string s] W' (ConRet k2 v2 W') by
        have := implTreeGet_c a ns.length cap ns s (by omega) (HSH.out.mono (by omega)) (by omega) W' (HN.out.keep hb)
        rwa [hkv] at this)
      have hback : treePut out2 s k2 v2 = some ns := by have := put_back HR.out; rwa [hkv] at this
      have HT3 := Lib.hid (fun W' (hb : Below W3.heap.size W3 W') => show Calls Try.prog 23 #[.slice x1 out2.length p1, .string s, .agg #[.int .i64 k2, .int .i64 v2]] W' (TPost (some ns) W'.heap.size W') by
        rw [← hback]; exact implTreePut_c x1 out2.length p1 out2 s k2 v2 (by omega) (HOS.out.mono (by omega)) (by omega) W' (HN1.out.keep hb))
      clear hb4 hkv hback
      go_wp2_with fail
      refine (HG.out _ (below_next HB3.out H4.out)).mono ?_
      rintro e W5 ⟨rfl, hb5⟩
      have H5 := Lib.hid (below_next H4.out hb5)
      clear hb5
      unfold con
      go_wp2_with fail
      refine (HT3.out _ H5.out).mono ?_
      rintro e W6 ⟨o6, out6, b6, rfl, hc6, ho6, hb6⟩
      obtain ⟨rfl, rfl⟩ : b6 = true ∧ out6 = ns := by
        rcases hc6 with ⟨h1, h⟩ | ⟨_, h, _⟩
        · exact ⟨h1, (Option.some.inj h).symm⟩
        · cases h
      obtain ⟨x6, p6, rfl, hn6⟩ := nodes_of_own ho6
      have H6 := Lib.hid (below_next H5.out hb6)
      have HSM2 := Lib.hid (sameNodes_c x6 a out6.length p6 cap out6 (by omega) W6 hn6 (HN.out.keep (below_next HB3.out H6.out)))
      clear hc6 ho6 hn6 hb6
      go_wp2_with fail
      refine HSM2.out.mono ?_
      rintro e W7 ⟨rfl, hb7⟩
      go_wp2
      go_ret
      exact ⟨rfl, below_next HBL.out (below_next HB3.out (below_next H6.out hb7))⟩
  · have hl : (1048576 : Int) < len0 := by omega
    clear h w0
    go_enter Try.func6, Try.ntmps6
    go_wp2
    go_ret
    exact ⟨rfl, Below.refl _ _⟩


set_option maxRecDepth 100000 in
theorem lifted (os : Os) (started : os.Started) (H : Type) (enc : TypeId × Value → H) :
    ReturnsInHanded {} Try.checked os 6 .any (Rows.fnTreePutBackSpec.pre6 enc Try.prog Try.f6 Rows.fnTreePutBackRow.domain false) (Rows.fnTreePutBackSpec.post enc Try.prog Try.f6 false true false false) := by
  refine returnsInHanded_of_change (C := Try.checked) own started (by kernel_rfl) Try.func6
    (ChangeSpec.witness6 (enc := enc) (C := Try.checked) false ⟨#[], #[.slice none 0 0], []⟩ 8 (by kernel_rfl) (by kernel_rfl) (by kernel_rfl) (by kernel_rfl)) ?_
  intro W base args ds gs before hval0 hW hcnd _
  have hval : ∀ (j : Nat) t v, Try.f6.params[j]? = some t → args[j]? = some v → Value.okWide Try.prog W .any base t v := hval0
  have hW' := hW
  obtain ⟨p, q, hA0, hV, rfl, hfz, hnd⟩ := hW
  have hA : DataW.TrodAll enc Try.prog W 0 (fun _ => true) true Try.f6.params.toList args.toList ds p := hA0
  rw [Try.params6] at hA hval
  obtain ⟨v0, vs0, d0, ds0, p0, q0, hargs, rfl, rfl, h0, r0⟩ := trodAll_cons hA
  obtain ⟨rfl, rfl, rfl⟩ := trodAll_nil r0
  obtain rfl : args = #[v0] := by cases args; simp_all
  obtain ⟨rfl, rfl⟩ := trodVars_none hV
  obtain ⟨a0, len0, cap0, rfl⟩ := okWide_slice Try.underlying22 (hval 0 22 v0 rfl rfl)
  have k0 := h0
  have lt0 : ∀ x ∈ p0, x.block < W.heap.size := by obtain ⟨m, hm⟩ := k0; exact DataW.trod_lt m _ _ _ hm
  obtain ⟨z0, w0⟩ : ∃ zs, IsRow .u8 W a0 len0 cap0 zs := by
    obtain ⟨fuel, hf⟩ := h0
    rcases open_ints Try.underlying22 Try.underlying5 (by kernel_rfl) hf with ⟨hcs, _⟩ | ⟨x, l, c, zs, hcs, _, hl, hm, hz, _, hcell, hwz⟩
    · simp [Value.cells] at hcs
      obtain ⟨rfl, rfl, rfl⟩ := hcs
      exact ⟨[], .inl ⟨rfl, rfl, rfl, rfl⟩⟩
    · simp [Value.cells] at hcs
      obtain ⟨rfl, rfl, rfl⟩ := hcs
      exact ⟨zs, .inr ⟨_, rfl, hl, hm, by simpa using hz, hcell, hwz⟩⟩
  clear hA0 hval0
  refine (walk a0 len0 cap0 z0 W w0).mono fun e W' ⟨he, bel⟩ => ?_
  subst he
  exact ⟨_, rfl, _, _, _, [], _, [], hW', trodAll_mk1 (shut_bool Try.underlying4 _), (trodAll_cons_mk (Below.trod laidOut (by kernel_rfl) (of_decide_eq_true (by kernel_rfl)) k0 bel lt0) trodAll_mk0), rfl, bel.frame _, fun h => by cases h⟩

theorem over : Rows.fnTreePutBackRow.holds Try.pinned (OpenSpec.ofChange Rows.fnTreePutBackSpec) :=
  OpenClaim.holds_of_wide 6 Try.f6 rfl rfl rfl rfl rfl rfl rfl ⟨rfl, rfl, rfl, rfl, rfl⟩ rfl rfl rfl rfl rfl (by kernel_rfl) Try.func6 (by kernel_rfl)
    (of_decide_eq_true (by kernel_rfl)) (by unfold Func.isWrapper; first | (rw [if_pos (by decide +kernel)]; kernel_rfl) | (rw [if_neg (by decide +kernel)]; exact ⟨rfl, rfl⟩))
    (fun os started H enc _ => lifted os started H enc)

theorem proved : Rows.FnTreePutBackSaid := over
end Go.Proofs.Ytkoopkaoojhfhaa.fnTreePutBack
