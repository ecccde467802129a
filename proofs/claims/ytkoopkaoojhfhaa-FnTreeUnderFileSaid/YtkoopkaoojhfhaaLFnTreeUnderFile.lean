/-
  laws.FnTreeUnderFile returns true for every input, and leaves its arguments as they were.
  Conditions: none.
-/
import Derived.Test.YtkoopkaoojhfhaaRows
import Derived.Test.YtkoopkaoojhfhaaIu
import Derived.Test.YtkoopkaoojhfhaaLd
import Derived.Test.YtkoopkaoojhfhaaTg
import Derived.Test.YtkoopkaoojhfhaaSm
import Derived.WalkKit
import Derived.ProofKit
import Derived.OpenShut
import Derived.ShutString
import Derived.ChangeOld
import Derived.Below
namespace Go.Proofs.Ytkoopkaoojhfhaa.fnTreeUnderFile
open Go.ChangeShapes Go.WideShapes Go.ChangeAt Go.RowKit
open Go.ChangeMaps (open_string shut_string)
set_option linter.unusedVariables false

theorem own : ownKnob Try.prog.godebug = none := by kernel_rfl
theorem laidOut : laidOutB Try.prog = true := by kernel_rfl

set_option maxHeartbeats 2000000 in
set_option maxRecDepth 100000 in
theorem walk (a0 : Option Addr) (len0 cap0 : Nat) (z0 : List Int) (w : World) (w0 : IsRow .u8 w a0 len0 cap0 z0) :
    Calls Try.prog 9 #[.slice a0 len0 cap0] w fun e w' => e = .returned (.bool true) ∧ Below w.heap.size w w' := by
  by_cases h : len0 ≤ 1048576
  · have hl : (len0 : Int) ≤ 1048576 := by omega
    have HD := Lib.hid (drawTreeUnder_c a0 len0 cap0 z0 w w0)
    clear h w0
    go_enter Try.func9, Try.ntmps9
    go_wp2_with fail
    refine HD.out.mono ?_
    rintro e W1 ⟨sl, ns, s, rfl, hs, hd⟩
    obtain ⟨a, cap, rfl, hn⟩ := nodes_of_own hd.1
    have HN := Lib.hid hn
    have hlen := hd.2.1
    have HL := Lib.hid hlen
    have hsh := hd.2.2.1.mono (show 64 ≤ 2097152 by omega)
    have HBL := Lib.hid hd.2.2.2
    obtain ⟨xs, hxs⟩ : ∃ xs, treeUnder ns s = xs := ⟨_, rfl⟩
    have hxl : xs.length ≤ 11 := by
      rw [← hxs]; unfold treeUnder
      split
      · rw [List.length_map]; exact Nat.le_trans (List.length_filter_le _ _) hlen
      · simp
    have HU := Lib.hid (fun W' (hb : Below W1.heap.size W1 W') => show Calls Try.prog 29 #[.slice a ns.length cap, .string s] W' (TextsPost xs W') by
      rw [← hxs]; exact implTreeUnder_c a ns.length cap ns s (by omega) hsh (by omega) W' (hn.keep hb))
    have HU2 := Lib.hid (fun W' (hb : Below W1.heap.size W1 W') => show Calls Try.prog 31 #[.slice a ns.length cap, .string s] W' (TextsPost xs W') by
      rw [← hxs]; exact specTreeUnder_c a ns.length cap ns s (by omega) hsh (by omega) W' (hn.keep hb))
    have HXS := Lib.hid hxs
    have HXL := Lib.hid hxl
    obtain ⟨k, v, hkv⟩ : ∃ k v, treeGet ns s = (k, v) := ⟨_, _, rfl⟩
    have HG := Lib.hid (fun W' (hb : Below W1.heap.size W1 W') => show Calls Try.prog 17 #[.slice a ns.length cap, .string s] W' (ConRet k v W') by
      have := implTreeGet_c a ns.length cap ns s (by omega) hsh (by omega) W' (hn.keep hb)
      rwa [hkv] at this)
    have HKV := Lib.hid hkv
    clear hn hd hkv hsh hxs
    go_wp2_with fail
    refine (HU.out _ (Below.refl _ _)).mono ?_
    rintro e W2 ⟨⟨s2, rfl, ho2⟩, hb2⟩
    obtain ⟨a2, cap2, rfl, ht2⟩ := texts_of_own ho2
    have HB2 := Lib.hid hb2
    have HT2 := Lib.hid ht2
    clear ho2 hb2 ht2
    go_wp2_with fail
    refine (HU2.out _ HB2.out).mono ?_
    rintro e W3 ⟨⟨s3, rfl, ho3⟩, hb3⟩
    obtain ⟨a3, cap3, rfl, ht3⟩ := texts_of_own ho3
    have HB3 := Lib.hid (below_next HB2.out hb3)
    have HT3 := Lib.hid ht3
    have HT23 := Lib.hid (HT2.out.keep hb3)
    clear ho3 hb3 ht3
    have HSM := Lib.hid (fun W' (hb : Below W3.heap.size W3 W') => sameTexts_c a2 a3 xs.length cap2 cap3 xs (by have := HXL.out; omega) W' (HT23.out.keep hb) (HT3.out.keep hb))
    go_wp2_with fail
    refine (HSM.out _ (Below.refl _ _)).mono ?_
    rintro e W4 ⟨rfl, hb4⟩
    by_cases h0 : xs.length = 0
    · have hz : ((xs.length : Int) == 0) = true := by rw [h0]; rfl
      have HB4 := Lib.hid (below_next HB3.out hb4)
      have H4 := Lib.hid hb4
      clear h0 hxl hb4
      go_wp2_with fail
      refine (HSM.out _ H4.out).mono ?_
      rintro e W5 ⟨rfl, hb5⟩
      go_wp2
      go_ret
      exact ⟨rfl, below_next HBL.out (below_next HB4.out hb5)⟩
    · have hz : ((xs.length : Int) == 0) = false := beq_eq_false_iff_ne.2 (by omega)
      have HB4 := Lib.hid (below_next HB3.out hb4)
      have HK := Lib.hid (show k = 1 by
        have := under_dir (ns := ns) (p := s) (by rw [HXS.out]; intro e; rw [e] at h0; exact h0 rfl)
        rw [HKV.out] at this; exact this)
      have hfk := fun k v W => field_kind k v W
      clear h0 hxl hb4
      go_wp2_with fail
      refine (HG.out _ HB4.out).mono ?_
      rintro e W5 ⟨rfl, hb5⟩
      rw [HK.out]
      unfold con
      go_wp2
      go_ret
      exact ⟨rfl, below_next HBL.out (below_next HB4.out hb5)⟩
  · have hl : (1048576 : Int) < len0 := by omega
    clear h w0
    go_enter Try.func9, Try.ntmps9
    go_wp2
    go_ret
    exact ⟨rfl, Below.refl _ _⟩


set_option maxRecDepth 100000 in
theorem lifted (os : Os) (started : os.Started) (H : Type) (enc : TypeId × Value → H) :
    ReturnsInHanded {} Try.checked os 9 .any (Rows.fnTreeUnderFileSpec.pre6 enc Try.prog Try.f9 Rows.fnTreeUnderFileRow.domain false) (Rows.fnTreeUnderFileSpec.post enc Try.prog Try.f9 false true false false) := by
  refine returnsInHanded_of_change (C := Try.checked) own started (by kernel_rfl) Try.func9
    (ChangeSpec.witness6 (enc := enc) (C := Try.checked) false ⟨#[], #[.slice none 0 0], []⟩ 8 (by kernel_rfl) (by kernel_rfl) (by kernel_rfl) (by kernel_rfl)) ?_
  intro W base args ds gs before hval0 hW hcnd _
  have hval : ∀ (j : Nat) t v, Try.f9.params[j]? = some t → args[j]? = some v → Value.okWide Try.prog W .any base t v := hval0
  have hW' := hW
  obtain ⟨p, q, hA0, hV, rfl, hfz, hnd⟩ := hW
  have hA : DataW.TrodAll enc Try.prog W 0 (fun _ => true) true Try.f9.params.toList args.toList ds p := hA0
  rw [Try.params9] at hA hval
  obtain ⟨v0, vs0, d0, ds0, p0, q0, hargs, rfl, rfl, h0, r0⟩ := trodAll_cons hA
  obtain ⟨rfl, rfl, rfl⟩ := trodAll_nil r0
  obtain rfl : args = #[v0] := by cases args; simp_all
  obtain ⟨rfl, rfl⟩ := trodVars_none hV
  obtain ⟨a0, len0, cap0, rfl⟩ := okWide_slice Try.underlying22 (hval 0 22 v0 rfl rfl)
  have k0 := h0
  have lt0 : ∀ x ∈ p0, x.block < W.heap.size := by obtain ⟨m, hm⟩ := k0; exact DataW.trod_lt m _ _ _ hm
  obtain ⟨z0, w0⟩ : ∃ zs, IsRow .u8 W a0 len0 cap0 zs := by
    obtain ⟨fuel, hf⟩ := h0
    rcases open_ints Try.underlying22 Try.underlying5 (by kernel_rfl) hf with ⟨hcs, _⟩ | ⟨x, l, c, zs, hcs, _, hl, hm, hz, _, hcell, hwz⟩
    · simp [Value.cells] at hcs
      obtain ⟨rfl, rfl, rfl⟩ := hcs
      exact ⟨[], .inl ⟨rfl, rfl, rfl, rfl⟩⟩
    · simp [Value.cells] at hcs
      obtain ⟨rfl, rfl, rfl⟩ := hcs
      exact ⟨zs, .inr ⟨_, rfl, hl, hm, by simpa using hz, hcell, hwz⟩⟩
  clear hA0 hval0
  refine (walk a0 len0 cap0 z0 W w0).mono fun e W' ⟨he, bel⟩ => ?_
  subst he
  exact ⟨_, rfl, _, _, _, [], _, [], hW', trodAll_mk1 (shut_bool Try.underlying4 _), (trodAll_cons_mk (Below.trod laidOut (by kernel_rfl) (of_decide_eq_true (by kernel_rfl)) k0 bel lt0) trodAll_mk0), rfl, bel.frame _, fun h => by cases h⟩

theorem over : Rows.fnTreeUnderFileRow.holds Try.pinned (OpenSpec.ofChange Rows.fnTreeUnderFileSpec) :=
  OpenClaim.holds_of_wide 9 Try.f9 rfl rfl rfl rfl rfl rfl rfl ⟨rfl, rfl, rfl, rfl, rfl⟩ rfl rfl rfl rfl rfl (by kernel_rfl) Try.func9 (by kernel_rfl)
    (of_decide_eq_true (by kernel_rfl)) (by unfold Func.isWrapper; first | (rw [if_pos (by decide +kernel)]; kernel_rfl) | (rw [if_neg (by decide +kernel)]; exact ⟨rfl, rfl⟩))
    (fun os started H enc _ => lifted os started H enc)

theorem proved : Rows.FnTreeUnderFileSaid := over
end Go.Proofs.Ytkoopkaoojhfhaa.fnTreeUnderFile
