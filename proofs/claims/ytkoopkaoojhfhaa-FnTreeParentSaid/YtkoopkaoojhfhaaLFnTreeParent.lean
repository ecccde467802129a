/-
  laws.FnTreeParent returns true for every input, and leaves its arguments as they were.
  Conditions: none.
-/
import Derived.Test.YtkoopkaoojhfhaaRows
import Derived.Test.YtkoopkaoojhfhaaIq
import Derived.Test.YtkoopkaoojhfhaaLd
import Derived.Test.YtkoopkaoojhfhaaTg
import Derived.WalkKit
import Derived.ProofKit
import Derived.OpenShut
import Derived.ShutString
import Derived.ChangeOld
import Derived.Below
namespace Go.Proofs.Ytkoopkaoojhfhaa.fnTreeParent
open Go.ChangeShapes Go.WideShapes Go.ChangeAt Go.RowKit
open Go.ChangeMaps (open_string shut_string)
set_option linter.unusedVariables false

theorem own : ownKnob Try.prog.godebug = none := by kernel_rfl
theorem laidOut : laidOutB Try.prog = true := by kernel_rfl

set_option maxHeartbeats 2000000 in
set_option maxRecDepth 100000 in
theorem walk (a0 : Option Addr) (len0 cap0 : Nat) (z0 : List Int) (w : World) (w0 : IsRow .u8 w a0 len0 cap0 z0) :
    Calls Try.prog 4 #[.slice a0 len0 cap0] w fun e w' => e = .returned (.bool true) ∧ Below w.heap.size w w' := by
  by_cases h : len0 ≤ 1048576
  · have hl : (len0 : Int) ≤ 1048576 := by omega
    have HD := Lib.hid (drawTreeGet_c a0 len0 cap0 z0 w w0)
    clear h w0
    go_enter Try.func4, Try.ntmps4
    go_wp2_with fail
    refine HD.out.mono ?_
    rintro e W1 ⟨sl, ns, s, rfl, hs, hd⟩
    obtain ⟨a, cap, rfl, hn⟩ := nodes_of_own hd.1
    have HN := Lib.hid hn
    have hlen := hd.2.1
    have HL := Lib.hid hlen
    have hsh := hd.2.2.1.mono (show 64 ≤ 2097152 by omega)
    have HBL := Lib.hid hd.2.2.2
    obtain ⟨k, v, hkv⟩ : ∃ k v, treeGet ns s = (k, v) := ⟨_, _, rfl⟩
    have HG := Lib.hid (fun W' (hb : Below W1.heap.size W1 W') => show Calls Try.prog 17 #[.slice a ns.length cap, .string s] W' (ConRet k v W') by
      have := implTreeGet_c a ns.length cap ns s (by omega) hsh (by omega) W' (hn.keep hb)
      rwa [hkv] at this)
    have HG2 := Lib.hid (fun W' (hb : Below W1.heap.size W1 W') => show Calls Try.prog 18 #[.slice a ns.length cap, .string s] W' (ConRet k v W') by
      have := specTreeGet_c a ns.length cap ns s (by omega) hsh (by omega) W' (hn.keep hb)
      rwa [hkv] at this)
    have HPP := Lib.hid (fun W' => show Calls Try.prog 21 #[.string s] W' (fun e w' => e = .returned (.string (parB s)) ∧ Below W'.heap.size W' w') from pathParent_c s (by omega) W')
    obtain ⟨k2, v2, hkv2⟩ : ∃ k v, treeGet ns (parB s) = (k, v) := ⟨_, _, rfl⟩
    have HG3 := Lib.hid (fun W' (hb : Below W1.heap.size W1 W') => show Calls Try.prog 17 #[.slice a ns.length cap, .string (parB s)] W' (ConRet k2 v2 W') by
      have := implTreeGet_c a ns.length cap ns (parB s) (by omega) hsh (by have := parentB_size s 66 hs (by omega); show (parentB s).size ≤ _; omega) W' (hn.keep hb)
      rwa [hkv2] at this)
    have HKV := Lib.hid hkv
    have HKV2 := Lib.hid hkv2
    generalize parB s = ps at HPP HG3
    clear hn hd hkv hkv2 hsh
    go_wp2_with fail
    refine (HG.out _ (Below.refl _ _)).mono ?_
    rintro e W2 ⟨rfl, hb2⟩
    unfold con
    go_wp2_with fail
    refine (HG2.out _ (below_next hb2 (below_box _ _))).mono ?_
    rintro e W3 ⟨rfl, hb3⟩
    have c0 := box_cell hb3 0
    have c1 := box_cell hb3 1
    have HB3 := Lib.hid (below_next hb2 (below_next (below_box _ _) hb3))
    have h23 : W2.heap.size < W3.heap.size := by have := hb3.size; simp at this; omega
    clear hb2 hb3
    unfold con
    by_cases hk : k = 0
    · have hkb : (k == 0) = true := by rw [hk]; rfl
      clear hk
      go_wp2
      go_ret
      exact ⟨rfl, below_next HBL.out (below_next HB3.out (below_box _ _))⟩
    · have hkb : (k == 0) = false := by simpa using hk
      have HK := Lib.hid hk
      clear hk
      by_cases hr : s = ⟨#[47]⟩
      · have h47 : (s.toList == [47]) = true := by rw [hr, Lib.toList_data]; rfl
        clear hr
        go_wp2
        go_ret
        exact ⟨rfl, below_next HBL.out (below_next HB3.out (below_box _ _))⟩
      · have h47 : (s.toList == [47]) = false := by have := toList_ne hr; rwa [show (⟨#[47]⟩ : ByteArray).toList = [47] by rw [Lib.toList_data]] at this
        have HR := Lib.hid hr
        clear hr
        have HK2 := Lib.hid (show k2 = 1 by
          have := get_parent (ns := ns) (p := s) (by rw [HKV.out]; exact HK.out) HR.out
          rw [HKV2.out] at this; exact this)
        have hfk := fun k v W => field_kind k v W
        go_wp2_with fail
        refine (HPP.out _).mono ?_
        rintro e W4 ⟨rfl, hb4⟩
        have HB4 := Lib.hid (below_next HB3.out (below_next (below_box _ _) hb4))
        go_wp2_with fail
        refine (HG3.out _ HB4.out).mono ?_
        rintro e W5 ⟨rfl, hb5⟩
        have HB5 := Lib.hid (below_next HB4.out hb5)
        rw [HK2.out]
        unfold con
        clear c0 c1 hb4 hb5
        go_wp2
        go_ret
        exact ⟨rfl, below_next HBL.out HB5.out⟩
  · have hl : (1048576 : Int) < len0 := by omega
    clear h w0
    go_enter Try.func4, Try.ntmps4
    go_wp2
    go_ret
    exact ⟨rfl, Below.refl _ _⟩


set_option maxRecDepth 100000 in
theorem lifted (os : Os) (started : os.Started) (H : Type) (enc : TypeId × Value → H) :
    ReturnsInHanded {} Try.checked os 4 .any (Rows.fnTreeParentSpec.pre6 enc Try.prog Try.f4 Rows.fnTreeParentRow.domain false) (Rows.fnTreeParentSpec.post enc Try.prog Try.f4 false true false false) := by
  refine returnsInHanded_of_change (C := Try.checked) own started (by kernel_rfl) Try.func4
    (ChangeSpec.witness6 (enc := enc) (C := Try.checked) false ⟨#[], #[.slice none 0 0], []⟩ 8 (by kernel_rfl) (by kernel_rfl) (by kernel_rfl) (by kernel_rfl)) ?_
  intro W base args ds gs before hval0 hW hcnd _
  have hval : ∀ (j : Nat) t v, Try.f4.params[j]? = some t → args[j]? = some v → Value.okWide Try.prog W .any base t v := hval0
  have hW' := hW
  obtain ⟨p, q, hA0, hV, rfl, hfz, hnd⟩ := hW
  have hA : DataW.TrodAll enc Try.prog W 0 (fun _ => true) true Try.f4.params.toList args.toList ds p := hA0
  rw [Try.params4] at hA hval
  obtain ⟨v0, vs0, d0, ds0, p0, q0, hargs, rfl, rfl, h0, r0⟩ := trodAll_cons hA
  obtain ⟨rfl, rfl, rfl⟩ := trodAll_nil r0
  obtain rfl : args = #[v0] := by cases args; simp_all
  obtain ⟨rfl, rfl⟩ := trodVars_none hV
  obtain ⟨a0, len0, cap0, rfl⟩ := okWide_slice Try.underlying22 (hval 0 22 v0 rfl rfl)
  have k0 := h0
  have lt0 : ∀ x ∈ p0, x.block < W.heap.size := by obtain ⟨m, hm⟩ := k0; exact DataW.trod_lt m _ _ _ hm
  obtain ⟨z0, w0⟩ : ∃ zs, IsRow .u8 W a0 len0 cap0 zs := by
    obtain ⟨fuel, hf⟩ := h0
    rcases open_ints Try.underlying22 Try.underlying5 (by kernel_rfl) hf with ⟨hcs, _⟩ | ⟨x, l, c, zs, hcs, _, hl, hm, hz, _, hcell, hwz⟩
    · simp [Value.cells] at hcs
      obtain ⟨rfl, rfl, rfl⟩ := hcs
      exact ⟨[], .inl ⟨rfl, rfl, rfl, rfl⟩⟩
    · simp [Value.cells] at hcs
      obtain ⟨rfl, rfl, rfl⟩ := hcs
      exact ⟨zs, .inr ⟨_, rfl, hl, hm, by simpa using hz, hcell, hwz⟩⟩
  clear hA0 hval0
  refine (walk a0 len0 cap0 z0 W w0).mono fun e W' ⟨he, bel⟩ => ?_
  subst he
  exact ⟨_, rfl, _, _, _, [], _, [], hW', trodAll_mk1 (shut_bool Try.underlying4 _), (trodAll_cons_mk (Below.trod laidOut (by kernel_rfl) (of_decide_eq_true (by kernel_rfl)) k0 bel lt0) trodAll_mk0), rfl, bel.frame _, fun h => by cases h⟩

theorem over : Rows.fnTreeParentRow.holds Try.pinned (OpenSpec.ofChange Rows.fnTreeParentSpec) :=
  OpenClaim.holds_of_wide 4 Try.f4 rfl rfl rfl rfl rfl rfl rfl ⟨rfl, rfl, rfl, rfl, rfl⟩ rfl rfl rfl rfl rfl (by kernel_rfl) Try.func4 (by kernel_rfl)
    (of_decide_eq_true (by kernel_rfl)) (by unfold Func.isWrapper; first | (rw [if_pos (by decide +kernel)]; kernel_rfl) | (rw [if_neg (by decide +kernel)]; exact ⟨rfl, rfl⟩))
    (fun os started H enc _ => lifted os started H enc)

theorem proved : Rows.FnTreeParentSaid := over
end Go.Proofs.Ytkoopkaoojhfhaa.fnTreeParent
