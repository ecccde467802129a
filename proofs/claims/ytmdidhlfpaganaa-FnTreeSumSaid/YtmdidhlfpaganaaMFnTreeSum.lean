/-
  laws.FnTreeSum returns true for every input, and leaves its arguments as they were.
  Conditions: none.
-/
import Derived.Test.YtmdidhlfpaganaaRows
import Derived.WalkKit
import Derived.ProofKit
import Derived.OpenShut
import Derived.ShutString
import Derived.ChangeOld
import Derived.Below
import Derived.Test.YtmdidhlfpaganaaK5
namespace Go.Proofs.Ytmdidhlfpaganaa.fnTreeSum
open Go.ChangeShapes Go.WideShapes Go.ChangeAt Go.RowKit
open Go.ChangeMaps (open_string shut_string)
set_option linter.unusedVariables false

theorem own : ownKnob Try.prog.godebug = none := by kernel_rfl
theorem laidOut : laidOutB Try.prog = true := by kernel_rfl

theorem rem_nat (n m : Nat) (hm : 0 < m) : ((n : Int)).tmod m = ((n % m : Nat) : Int) := by
  rw [Int.tmod_eq_emod_of_nonneg (by omega)]; simp

set_option maxHeartbeats 2000000 in
set_option maxRecDepth 100000 in
theorem walk (a0 : Option Addr) (len0 cap0 : Nat) (z0 : List Int) (a1 : Option Addr) (len1 cap1 : Nat) (z1 : List Int) (w : World) (w0 : IsRow .u8 w a0 len0 cap0 z0) (w1 : IsRow .u8 w a1 len1 cap1 z1) :
    Calls Try.prog 3 #[.slice a0 len0 cap0, .slice a1 len1 cap1] w fun e w' => e = .returned (.bool true) ∧ Below w.heap.size w w' := by
  clear w1
  by_cases h : len0 ≤ 1048576
  · have hl : (len0 : Int) ≤ 1048576 := by omega
    by_cases h1 : len1 ≤ 1048576
    · have hl1 : (len1 : Int) ≤ 1048576 := by omega
      have HD := Lib.hid (drawTreeSum_c a0 len0 cap0 z0 w w0)
      clear h w0 h1
      go_enter Try.func3, Try.ntmps3
      go_wp2_with fail
      refine HD.out.mono ?_
      rintro e W1 ⟨sl, ns, s, rfl, hs, hd⟩
      obtain ⟨a, cap, rfl, hn⟩ := nodes_of_own hd.1
      have HN := Lib.hid hn
      have hlen := hd.2.1
      have HL := Lib.hid hlen
      have HSS := Lib.hid hs
      have HSH := Lib.hid hd.2.2.1
      have HBL := Lib.hid hd.2.2.2
      obtain ⟨r, hr⟩ : ∃ r, treeSum ns s = r := ⟨_, rfl⟩
      have HI := Lib.hid (fun W' (hb : Below W1.heap.size W1 W') => show Calls Try.prog 13 #[.slice a ns.length cap, .string s] W' (NumPost r W') by
        rw [← hr]; exact implTreeSum_c a ns.length cap ns s (by omega) (hd.2.2.1.mono (by omega)) (by omega) W' (hn.keep hb))
      have HS := Lib.hid (fun W' (hb : Below W1.heap.size W1 W') => show Calls Try.prog 14 #[.slice a ns.length cap, .string s] W' (NumPost r W') by
        rw [← hr]; exact specTreeSum_c a ns.length cap ns s (by omega) (hd.2.2.1.mono (by omega)) (by omega) W' (hn.keep hb))
      have HR := Lib.hid hr
      have hrr : (r != r) = false := by simp
      have hre : (r == r) = true := by simp
      clear hn hd hr hs
      go_wp2_with fail
      refine (HI.out _ (Below.refl _ _)).mono ?_
      rintro e W2 ⟨rfl, hb2⟩
      have HB2 := Lib.hid hb2
      clear hb2
      go_wp2_with fail
      refine (HS.out _ HB2.out).mono ?_
      rintro e W3 ⟨rfl, hb3⟩
      have HB3 := Lib.hid (below_next HB2.out hb3)
      clear hb3
      by_cases hneg : r < 0
      · go_wp2
        go_ret
        exact ⟨rfl, below_next HBL.out HB3.out⟩
      · have hpos : 0 ≤ r := by omega
        have HV := Lib.hid (treeSum_pos (ns := ns) (p := s) (by rw [HR.out]; exact hpos))
        have hr9 : r < 9973 := by have := (treeSum_range HV.out.1 HV.out.2).2; rw [HR.out] at this; omega
        have hr9d : decide (r < 9973) = true := decide_eq_true hr9
        have hposd : decide (0 ≤ r) = true := decide_eq_true hpos
        have hrem6 := rem_nat len1 6 (by omega)
        have hrem100 := rem_nat len1 100 (by omega)
        obtain ⟨m, hm⟩ : ∃ m, m = len1 % 6 := ⟨_, rfl⟩
        obtain ⟨q, hq⟩ : ∃ q, q = len1 % 100 := ⟨_, rfl⟩
        rw [← hm] at hrem6
        rw [← hq] at hrem100
        have hrem6' : (len1 : Int).tmod 6 = (m : Int) := hrem6
        have hrem100' : (len1 : Int).tmod 100 = (q : Int) := hrem100
        have hm6 : m < 6 := by rw [hm]; exact Nat.mod_lt _ (by omega)
        have hm6' : (m : Int) < 6 := by omega
        have hm0 : (0 : Int) ≤ m := by omega
        have HM := Lib.hid hm6
        clear hneg hm hq hrem6 hrem100 hm6
        go_upto_region 9 with (fail)
        have hb4 := below_box W3 (.cells #[.string ⟨#[47, 97]⟩, .string ⟨#[47, 98]⟩, .string ⟨#[47, 99, 47, 97]⟩, .string ⟨#[47, 100]⟩, .string ⟨#[47, 97, 47, 98]⟩, .string ⟨#[47, 98, 47, 97]⟩] 9)
        obtain ⟨o, hos, x0⟩ : ∃ o : ByteArray, o.size ≤ 4 ∧ (W3.alloc (.cells #[.string ⟨#[47, 97]⟩, .string ⟨#[47, 98]⟩, .string ⟨#[47, 99, 47, 97]⟩, .string ⟨#[47, 100]⟩, .string ⟨#[47, 97, 47, 98]⟩, .string ⟨#[47, 98, 47, 97]⟩] 9)).cell? ⟨W3.heap.size, m, none⟩ = some (.string o) := by
          have h6 := HM.out
          rw [World.cell?_alloc_new]
          rcases (by omega : m = 0 ∨ m = 1 ∨ m = 2 ∨ m = 3 ∨ m = 4 ∨ m = 5) with rfl | rfl | rfl | rfl | rfl | rfl
          · exact ⟨_, by decide, rfl⟩
          · exact ⟨_, by decide, rfl⟩
          · exact ⟨_, by decide, rfl⟩
          · exact ⟨_, by decide, rfl⟩
          · exact ⟨_, by decide, rfl⟩
          · exact ⟨_, by decide, rfl⟩
        have HB4 := Lib.hid (below_next HB3.out hb4)
        generalize W3.alloc (.cells #[.string ⟨#[47, 97]⟩, .string ⟨#[47, 98]⟩, .string ⟨#[47, 99, 47, 97]⟩, .string ⟨#[47, 100]⟩, .string ⟨#[47, 97, 47, 98]⟩, .string ⟨#[47, 98, 47, 97]⟩] 9) = W4 at x0 HB4 ⊢
        obtain ⟨t, ht⟩ : ∃ t, treePut ns o 2 q = t := ⟨_, rfl⟩
        have HPU := Lib.hid (show Calls Try.prog 15 #[.slice a ns.length cap, .string o, .agg #[.int .i64 2, .int .i64 q]] W4 (TPost t W4.heap.size W4) by
          rw [← ht]; exact implTreePut_c a ns.length cap ns o 2 q (by omega) (HSH.out.mono (by omega)) (by omega) W4 (HN.out.keep HB4.out))
        have HT := Lib.hid ht
        have HOS := Lib.hid hos
        clear hb4 ht hos
        go_wp2_with fail
        refine HPU.out.mono ?_
        rintro e W6 ⟨s6, out6, b6, rfl, hc6, ho6, hb6⟩
        obtain ⟨x6, p6, rfl, hn6⟩ := nodes_of_own ho6
        have HB6 := Lib.hid (below_next HB4.out hb6)
        have HN6 := Lib.hid hn6
        clear ho6 hb6 hn6 x0
        cases t with
        | none =>
          obtain ⟨rfl, rfl⟩ : b6 = false ∧ out6 = [] := by
            rcases hc6 with ⟨_, h⟩ | ⟨h1, _, h2⟩
            · cases h
            · exact ⟨h1, h2⟩
          clear hc6
          go_wp2
          go_ret
          exact ⟨rfl, below_next HBL.out HB6.out⟩
        | some out =>
          obtain ⟨rfl, rfl⟩ : b6 = true ∧ out6 = out := by
            rcases hc6 with ⟨h1, h⟩ | ⟨_, h, _⟩
            · exact ⟨h1, (Option.some.inj h).symm⟩
            · cases h
          clear hc6
          by_cases he : o = s
          · have hoe : (o.toList == s.toList) = true := by rw [he]; simp
            clear he
            go_wp2
            go_ret
            exact ⟨rfl, below_next HBL.out HB6.out⟩
          · have hoe : (o.toList == s.toList) = false := toList_ne he
            have HNE := Lib.hid he
            obtain ⟨u, hu⟩ : ∃ u, undB s o = u := ⟨_, rfl⟩
            have HU := Lib.hid (fun W' => show Calls Try.prog 16 #[.string s, .string o] W' (fun e w' => e = .returned (.bool u) ∧ Below W'.heap.size W' w') by
              rw [← hu]; exact pathUnder_c s o (by have := HSS.out; omega) (by have := HOS.out; omega) W')
            have HUE := Lib.hid hu
            clear he hu
            go_wp2_with fail
            refine (HU.out _).mono ?_
            rintro e W7 ⟨rfl, hb7⟩
            have H7 := Lib.hid hb7
            have HB7 := Lib.hid (below_next HB6.out hb7)
            clear hb7
            cases u with
            | true =>
              go_wp2
              go_ret
              exact ⟨rfl, below_next HBL.out HB7.out⟩
            | false =>
              have hol := ((validT_iff _).1 (treePut_some HT.out).2.2.2.2).2.2
              have hsx : Short 66 out6 := by rw [(treePut_some HT.out).2.2.2.1]; exact short_put (HSH.out.mono (by omega)) (by have := HOS.out; omega)
              have HI7 := Lib.hid (show Calls Try.prog 13 #[.slice x6 out6.length p6, .string s] W7 (NumPost r W7) by
                have := implTreeSum_c x6 out6.length p6 out6 s (by omega) (hsx.mono (by omega)) (by have := HSS.out; omega) W7 (HN6.out.keep H7.out)
                rwa [sum_elsewhere HT.out HV.out.2 HNE.out HUE.out, HR.out] at this)
              clear hol hsx
              go_wp2_with fail
              refine HI7.out.mono ?_
              rintro e W8 ⟨rfl, hb8⟩
              have HB8 := Lib.hid (below_next HBL.out (below_next HB7.out hb8))
              clear hb8
              go_wp2
              go_ret
              exact ⟨rfl, HB8.out⟩
    · have hl1 : (1048576 : Int) < len1 := by omega
      clear h h1 w0
      go_enter Try.func3, Try.ntmps3
      go_wp2
      go_ret
      exact ⟨rfl, Below.refl _ _⟩
  · have hl : (1048576 : Int) < len0 := by omega
    clear h w0
    go_enter Try.func3, Try.ntmps3
    go_wp2
    go_ret
    exact ⟨rfl, Below.refl _ _⟩


set_option maxRecDepth 100000 in
theorem lifted (os : Os) (started : os.Started) (H : Type) (enc : TypeId × Value → H) :
    ReturnsInHanded {} Try.checked os 3 .any (Rows.fnTreeSumSpec.pre6 enc Try.prog Try.f3 Rows.fnTreeSumRow.domain false) (Rows.fnTreeSumSpec.post enc Try.prog Try.f3 false true false false) := by
  refine returnsInHanded_of_change (C := Try.checked) own started (by kernel_rfl) Try.func3
    (ChangeSpec.witness6 (enc := enc) (C := Try.checked) false ⟨#[], #[.slice none 0 0, .slice none 0 0], []⟩ 8 (by kernel_rfl) (by kernel_rfl) (by kernel_rfl) (by kernel_rfl)) ?_
  intro W base args ds gs before hval0 hW hcnd _
  have hval : ∀ (j : Nat) t v, Try.f3.params[j]? = some t → args[j]? = some v → Value.okWide Try.prog W .any base t v := hval0
  have hW' := hW
  obtain ⟨p, q, hA0, hV, rfl, hfz, hnd⟩ := hW
  have hA : DataW.TrodAll enc Try.prog W 0 (fun _ => true) true Try.f3.params.toList args.toList ds p := hA0
  rw [Try.params3] at hA hval
  obtain ⟨v0, vs0, d0, ds0, p0, q0, hargs, rfl, rfl, h0, r0⟩ := trodAll_cons hA
  obtain ⟨v1, vs1, d1, ds1, p1, q1, rfl, rfl, rfl, h1, r1⟩ := trodAll_cons r0
  obtain ⟨rfl, rfl, rfl⟩ := trodAll_nil r1
  obtain rfl : args = #[v0, v1] := by cases args; simp_all
  obtain ⟨rfl, rfl⟩ := trodVars_none hV
  obtain ⟨a0, len0, cap0, rfl⟩ := okWide_slice Try.underlying22 (hval 0 22 v0 rfl rfl)
  have k0 := h0
  have lt0 : ∀ x ∈ p0, x.block < W.heap.size := by obtain ⟨m, hm⟩ := k0; exact DataW.trod_lt m _ _ _ hm
  obtain ⟨z0, w0⟩ : ∃ zs, IsRow .u8 W a0 len0 cap0 zs := by
    obtain ⟨fuel, hf⟩ := h0
    rcases open_ints Try.underlying22 Try.underlying5 (by kernel_rfl) hf with ⟨hcs, _⟩ | ⟨x, l, c, zs, hcs, _, hl, hm, hz, _, hcell, hwz⟩
    · simp [Value.cells] at hcs
      obtain ⟨rfl, rfl, rfl⟩ := hcs
      exact ⟨[], .inl ⟨rfl, rfl, rfl, rfl⟩⟩
    · simp [Value.cells] at hcs
      obtain ⟨rfl, rfl, rfl⟩ := hcs
      exact ⟨zs, .inr ⟨_, rfl, hl, hm, by simpa using hz, hcell, hwz⟩⟩
  obtain ⟨a1, len1, cap1, rfl⟩ := okWide_slice Try.underlying22 (hval 1 22 v1 rfl rfl)
  have k1 := h1
  have lt1 : ∀ x ∈ p1, x.block < W.heap.size := by obtain ⟨m, hm⟩ := k1; exact DataW.trod_lt m _ _ _ hm
  obtain ⟨z1, w1⟩ : ∃ zs, IsRow .u8 W a1 len1 cap1 zs := by
    obtain ⟨fuel, hf⟩ := h1
    rcases open_ints Try.underlying22 Try.underlying5 (by kernel_rfl) hf with ⟨hcs, _⟩ | ⟨x, l, c, zs, hcs, _, hl, hm, hz, _, hcell, hwz⟩
    · simp [Value.cells] at hcs
      obtain ⟨rfl, rfl, rfl⟩ := hcs
      exact ⟨[], .inl ⟨rfl, rfl, rfl, rfl⟩⟩
    · simp [Value.cells] at hcs
      obtain ⟨rfl, rfl, rfl⟩ := hcs
      exact ⟨zs, .inr ⟨_, rfl, hl, hm, by simpa using hz, hcell, hwz⟩⟩
  clear hA0 hval0
  refine (walk a0 len0 cap0 z0 a1 len1 cap1 z1 W w0 w1).mono fun e W' ⟨he, bel⟩ => ?_
  subst he
  exact ⟨_, rfl, _, _, _, [], _, [], hW', trodAll_mk1 (shut_bool Try.underlying4 _), (trodAll_cons_mk (Below.trod laidOut (by kernel_rfl) (of_decide_eq_true (by kernel_rfl)) k0 bel lt0) (trodAll_cons_mk (Below.trod laidOut (by kernel_rfl) (of_decide_eq_true (by kernel_rfl)) k1 bel lt1) trodAll_mk0)), rfl, bel.frame _, fun h => by cases h⟩

theorem over : Rows.fnTreeSumRow.holds Try.pinned (OpenSpec.ofChange Rows.fnTreeSumSpec) :=
  OpenClaim.holds_of_wide 3 Try.f3 rfl rfl rfl rfl rfl rfl rfl ⟨rfl, rfl, rfl, rfl, rfl⟩ rfl rfl rfl rfl rfl (by kernel_rfl) Try.func3 (by kernel_rfl)
    (of_decide_eq_true (by kernel_rfl)) (by unfold Func.isWrapper; first | (rw [if_pos (by decide +kernel)]; kernel_rfl) | (rw [if_neg (by decide +kernel)]; exact ⟨rfl, rfl⟩))
    (fun os started H enc _ => lifted os started H enc)

theorem proved : Rows.FnTreeSumSaid := over
end Go.Proofs.Ytmdidhlfpaganaa.fnTreeSum
