/-
  Texts of this proof, one behind the other: Op, Nh, Qc, Rb.
-/
import Derived.Laws.Cover1
import Derived.Laws.StructEq
import Derived.Deep.RegionHeld3
import Derived.Deep.QuietTactic
import Derived.Test.YtohdpbalajjjiaaGreatQ3
import Derived.Test.YtohdpbalajjjiaaGreatQ4
import Derived.Test.YtohdpbalajjjiaaGreatPv
import Derived.Test.YtohdpbalajjjiaaGreatNgq
import Derived.Test.YtohdpbalajjjiaaGreatQ1
import Derived.Test.YtohdpbalajjjiaaGreatRa
/-
  WALKS: orders of the model: spec.l15Must, MustPrecede, l15Once, l15Fits, OrderFits.
-/
namespace Go.Proofs.YtohdpbalajjjiaaGreat
open Go.RowKit
theorem once_no {cs : List Cmd} {j : Nat} {d : Cmd} (hd : cs[j]? = some d) (h : firstK cs j d.p = false) : onceV cs = false := by
  unfold onceV
  rw [Bool.and_eq_false_iff]
  left
  rw [decide_eq_false_iff_not, nodup_idx]
  intro hh
  rw [hh j d hd] at h
  cases h
theorem once_all {cs : List Cmd} (h : ∀ (j : Nat) (d : Cmd), cs[j]? = some d → firstK cs j d.p = true) : onceV cs = validL cs := by
  unfold onceV
  rw [decide_eq_true (nodup_idx.2 h)]
  rfl

theorem get_atK {cs : List Cmd} {k : Nat} {c : Cmd} (h : cs[k]? = some c) : atK cs k = c := by
  have hk := (List.getElem?_eq_some_iff.1 h).1
  rw [atK_get hk] at h
  exact Option.some.inj h

theorem fits_no {cs : List Cmd} {i k : Nat} {c d : Cmd} (hc : cs[i]? = some c) (hd : cs[k]? = some d) (hk : k < i) (h : mustC c d = true) : fitsB cs = false := by
  rw [Bool.eq_false_iff]
  intro hf
  have hi := (List.getElem?_eq_some_iff.1 hc).1
  have hk' := (List.getElem?_eq_some_iff.1 hd).1
  have := List.pairwise_iff_getElem.1 ((fitsB_iff cs).1 hf) k i hk' hi hk
  rw [List.getElem?_eq_getElem hi] at hc
  rw [List.getElem?_eq_getElem hk'] at hd
  rw [Option.some.inj hc, Option.some.inj hd, h] at this
  cases this

theorem fits_all {cs : List Cmd} (h : ∀ i k, i < cs.length → k < i → mustC (atK cs i) (atK cs k) = false) : fitsB cs = true := by
  rw [fitsB_iff, FitsO, List.pairwise_iff_getElem]
  intro k i hk hi hlt
  have e1 := atK_get (zs := cs) hk
  have e2 := atK_get (zs := cs) hi
  rw [List.getElem?_eq_getElem hk] at e1
  rw [List.getElem?_eq_getElem hi] at e2
  rw [Option.some.inj e1, Option.some.inj e2]
  exact h i k hi hlt

def FitRel (cs : List Cmd) (W : World) (i : Value) (wr : World) : Prop :=
  ∃ n : Nat, i = .int .i64 n ∧ n ≤ cs.length ∧ Hid (∀ i k, i < n → k < i → mustC (atK cs i) (atK cs k) = false) ∧ Hid (Below W.heap.size W wr)
def FitIn (cs : List Cmd) (W : World) (n : Nat) (k : Value) (wr : World) : Prop :=
  ∃ m : Nat, k = .int .i64 m ∧ m ≤ n ∧ Hid (∀ k, k < m → mustC (atK cs n) (atK cs k) = false) ∧ Hid (Below W.heap.size W wr)

end Go.Proofs.YtohdpbalajjjiaaGreat

/-
  WALKS: canonical logs of the model, third part: spec.CanonValid.
-/
namespace Go.Proofs.YtohdpbalajjjiaaGreat
open Go.RowKit
set_option linter.unusedVariables false

set_option maxHeartbeats 4000000 in
set_option maxRecDepth 100000 in
theorem specCanonValid_c (a : Option Addr) (len cap : Nat) (cs : List Cmd) (hl : len ≤ 2000000) (hs : ShortC 2097152 cs) (W : World) (hN : CmdsAt W a len cs) :
    Calls Tryz.prog 47 #[.slice a len cap] W (BoolPost (canonV cs) W) := by
  have HLV := Lib.hid (fun W' (hb : Below W.heap.size W W') => specLogValid_c a len cap cs (by omega) hs W' (hN.keep hb))
  have HF := Lib.hid (fun W' (hb : Below W.heap.size W W') n c (hc : cs[n]? = some c) => specFirst_c a len cap cs n c hc (by omega) W' (hN.keep hb))
  have HBX := Lib.hid (fun c d w => specBefore_c c d w)
  have HN := Lib.hid hN
  have HE := Lib.hid hN.1
  have hl' : (len : Int) ≤ 2000000 := by omega
  clear hN hs
  go_enter Tryz.func47, Tryz.ntmps47
  go_wp2
  go_loopw [3] (fun i wr => ∃ n : Nat, i = .int .i64 ((n : Int) + 1) ∧ n ≤ len ∧ Hid (∀ (j : Nat) (c d : Cmd), j < n → cs[j]? = some c → cs[j + 1]? = some d → befC c d = true ∧ firstK cs (j + 1) d.p = true) ∧ Hid (Below W.heap.size W wr)) (fun i _ => len + 1 - (intOf i).toNat)
  case atStart => exact ⟨0, rfl, Nat.zero_le _, Lib.hid (fun j c d h => absurd h (by omega)), Below.refl _ _⟩
  case round =>
    obtain ⟨n, rfl, hn, HP, HB⟩ := hrel
    by_cases hlt : n + 1 < len
    · have hlt' : (n : Int) + 1 < len := by omega
      have hn0 : (0 : Int) ≤ n := by omega
      have hn1 : (0 : Int) ≤ (n : Int) + 1 := by omega
      have hnl : (n : Int) < len := by omega
      have ht1 : ((n : Int) + 1).toNat = n + 1 := by omega
      have hw0 : IntKind.i64.wrap ((n : Int) + 1 - 1) = (n : Int) := (IntWalk.i64_in _ (by omega)).trans (by omega)
      have hwn : IntKind.i64.wrap (n : Int) = (n : Int) := IntWalk.i64_in _ (by omega)
      have hw1 : IntKind.i64.wrap ((n : Int) + 1 + 1) = (n : Int) + 1 + 1 := IntWalk.i64_in _ (by omega)
      have HLT := Lib.hid hlt
      obtain ⟨b, off, c, rfl, hc, d0, d1, d2, d3, d4⟩ := HN.out.node (i := n) (by omega)
      obtain ⟨b', off', d, hbb, hd, e0, e1, e2, e3, e4⟩ := HN.out.node (i := n + 1) hlt
      cases hbb
      obtain ⟨bb, hbf⟩ : ∃ bb, befC c d = bb := ⟨_, rfl⟩
      obtain ⟨ff, hff⟩ : ∃ ff, firstK cs (n + 1) d.p = ff := ⟨_, rfl⟩
      have HBF := Lib.hid (fun w => show Calls Tryz.prog 65 #[cmdV c, cmdV d] w (BoolPost bb w) by rw [← hbf]; exact HBX.out c d w)
      have HFI := Lib.hid (fun W' (hb : Below W.heap.size W W') => show Calls Tryz.prog 66 #[.slice (some ⟨b, off, none⟩) len cap, .int .i64 ((n : Int) + 1)] W' (BoolPost ff W') by rw [← hff]; exact HF.out W' hb (n + 1) d hd)
      have HCD := Lib.hid (And.intro hc hd)
      have HBB := Lib.hid hbf
      have HFF := Lib.hid hff
      obtain ⟨p, fk, fv, tk, tv⟩ := c
      obtain ⟨q, fk', fv', tk', tv'⟩ := d
      unfold cmdV at HBF
      simp only at d0 d1 d2 d3 d4 e0 e1 e2 e3 e4 HBF
      have HS0 : Hid (Below W.heap.size W wr.drew) := HB.out.drew
      clear hn hlt hc hd hbf hff
      cases bb with
      | false =>
        have HX := Lib.hid (canonV_not HCD.out.1 HCD.out.2 (.inl HBB.out))
        go_upto_region 4 with (fail)
        refine wp_region_held_drew (S := (fun w' => Below W.heap.size W w')) (by kernel_rfl) HS0.out (fun hH => ?_)
        refine wpAnyH_take (i := 0) (oi := _) (v := ?_) rfl (by kernel_rfl) (by kernel_rfl) (by kernel_rfl) (fun _ _ _ h => h) (Or.inl ⟨by rfl, ?_⟩) (by assumption) ?_
        rotate_left
        · (intro w hSw; have s0 := cell_kept hSw d0; have s1 := cell_kept hSw d1; have s2 := cell_kept hSw d2; have s3 := cell_kept hSw d3; have s4 := cell_kept hSw d4; have r0 := cell_kept hSw e0; have r1 := cell_kept hSw e1; have r2 := cell_kept hSw e2; have r3 := cell_kept hSw e3; have r4 := cell_kept hSw e4; go_simp; try with_reducible rfl)
        try simp only [Act.put, List.getElem_toArray, List.getElem_cons_zero, List.setIfInBounds_toArray, List.set_cons_zero, List.set_cons_succ]
        refine wpAnyH_take (i := 1) (oi := _) (v := ?_) rfl (by kernel_rfl) (by kernel_rfl) (by kernel_rfl) (fun _ _ _ h => h) (Or.inl ⟨by rfl, ?_⟩) (by assumption) ?_
        rotate_left
        · (intro w hSw; have s0 := cell_kept hSw d0; have s1 := cell_kept hSw d1; have s2 := cell_kept hSw d2; have s3 := cell_kept hSw d3; have s4 := cell_kept hSw d4; have r0 := cell_kept hSw e0; have r1 := cell_kept hSw e1; have r2 := cell_kept hSw e2; have r3 := cell_kept hSw e3; have r4 := cell_kept hSw e4; go_simp; try with_reducible rfl)
        try simp only [Act.put, List.getElem_toArray, List.getElem_cons_zero, List.getElem_cons_succ, List.setIfInBounds_toArray, List.set_cons_zero, List.set_cons_succ]
        refine wpAnyH_take (i := 2) (oi := _) (v := ?_) rfl (by kernel_rfl) (by kernel_rfl) (by kernel_rfl) (fun _ _ _ h => h) (Or.inl ⟨by rfl, ?_⟩) (by assumption) ?_
        rotate_left
        · (intro w hSw; have s0 := cell_kept hSw d0; have s1 := cell_kept hSw d1; have s2 := cell_kept hSw d2; have s3 := cell_kept hSw d3; have s4 := cell_kept hSw d4; have r0 := cell_kept hSw e0; have r1 := cell_kept hSw e1; have r2 := cell_kept hSw e2; have r3 := cell_kept hSw e3; have r4 := cell_kept hSw e4; go_simp; try with_reducible rfl)
        try simp only [Act.put, List.getElem_toArray, List.getElem_cons_zero, List.getElem_cons_succ, List.setIfInBounds_toArray, List.set_cons_zero, List.set_cons_succ]
        refine wpAnyH_take (i := 3) (oi := _) (v := ?_) rfl (by kernel_rfl) (by kernel_rfl) (by kernel_rfl) (fun _ _ _ h => h) (Or.inl ⟨by rfl, ?_⟩) (by assumption) ?_
        rotate_left
        · (intro w hSw; have s0 := cell_kept hSw d0; have s1 := cell_kept hSw d1; have s2 := cell_kept hSw d2; have s3 := cell_kept hSw d3; have s4 := cell_kept hSw d4; have r0 := cell_kept hSw e0; have r1 := cell_kept hSw e1; have r2 := cell_kept hSw e2; have r3 := cell_kept hSw e3; have r4 := cell_kept hSw e4; go_simp; try with_reducible rfl)
        try simp only [Act.put, List.getElem_toArray, List.getElem_cons_zero, List.getElem_cons_succ, List.setIfInBounds_toArray, List.set_cons_zero, List.set_cons_succ]
        refine wpAnyH_take (i := 4) (oi := _) (v := ?_) rfl (by kernel_rfl) (by kernel_rfl) (by kernel_rfl) (fun _ _ _ h => h) (Or.inl ⟨by rfl, ?_⟩) (by assumption) ?_
        rotate_left
        · (intro w hSw; have s0 := cell_kept hSw d0; have s1 := cell_kept hSw d1; have s2 := cell_kept hSw d2; have s3 := cell_kept hSw d3; have s4 := cell_kept hSw d4; have r0 := cell_kept hSw e0; have r1 := cell_kept hSw e1; have r2 := cell_kept hSw e2; have r3 := cell_kept hSw e3; have r4 := cell_kept hSw e4; go_simp; try with_reducible rfl)
        try simp only [Act.put, List.getElem_toArray, List.getElem_cons_zero, List.getElem_cons_succ, List.setIfInBounds_toArray, List.set_cons_zero, List.set_cons_succ]
        refine wpAnyH_take (i := 5) (oi := _) (v := ?_) rfl (by kernel_rfl) (by kernel_rfl) (by kernel_rfl) (fun _ _ _ h => h) (Or.inl ⟨by rfl, ?_⟩) (by assumption) ?_
        rotate_left
        · (intro w hSw; have s0 := cell_kept hSw d0; have s1 := cell_kept hSw d1; have s2 := cell_kept hSw d2; have s3 := cell_kept hSw d3; have s4 := cell_kept hSw d4; have r0 := cell_kept hSw e0; have r1 := cell_kept hSw e1; have r2 := cell_kept hSw e2; have r3 := cell_kept hSw e3; have r4 := cell_kept hSw e4; go_simp; try with_reducible rfl)
        try simp only [Act.put, List.getElem_toArray, List.getElem_cons_zero, List.getElem_cons_succ, List.setIfInBounds_toArray, List.set_cons_zero, List.set_cons_succ]
        refine wpAnyH_take (i := 6) (oi := _) (v := ?_) rfl (by kernel_rfl) (by kernel_rfl) (by kernel_rfl) (fun _ _ _ h => h) (Or.inl ⟨by rfl, ?_⟩) (by assumption) ?_
        rotate_left
        · (intro w hSw; have s0 := cell_kept hSw d0; have s1 := cell_kept hSw d1; have s2 := cell_kept hSw d2; have s3 := cell_kept hSw d3; have s4 := cell_kept hSw d4; have r0 := cell_kept hSw e0; have r1 := cell_kept hSw e1; have r2 := cell_kept hSw e2; have r3 := cell_kept hSw e3; have r4 := cell_kept hSw e4; go_simp; try with_reducible rfl)
        try simp only [Act.put, List.getElem_toArray, List.getElem_cons_zero, List.getElem_cons_succ, List.setIfInBounds_toArray, List.set_cons_zero, List.set_cons_succ]
        refine wpAnyH_take (i := 7) (oi := _) (v := ?_) rfl (by kernel_rfl) (by kernel_rfl) (by kernel_rfl) (fun _ _ _ h => h) (Or.inl ⟨by rfl, ?_⟩) (by assumption) ?_
        rotate_left
        · (intro w hSw; have s0 := cell_kept hSw d0; have s1 := cell_kept hSw d1; have s2 := cell_kept hSw d2; have s3 := cell_kept hSw d3; have s4 := cell_kept hSw d4; have r0 := cell_kept hSw e0; have r1 := cell_kept hSw e1; have r2 := cell_kept hSw e2; have r3 := cell_kept hSw e3; have r4 := cell_kept hSw e4; go_simp; try with_reducible rfl)
        try simp only [Act.put, List.getElem_toArray, List.getElem_cons_zero, List.getElem_cons_succ, List.setIfInBounds_toArray, List.set_cons_zero, List.set_cons_succ]
        refine wpAnyH_take (i := 8) (oi := _) (v := ?_) rfl (by kernel_rfl) (by kernel_rfl) (by kernel_rfl) (fun _ _ _ h => h) (Or.inl ⟨by rfl, ?_⟩) (by assumption) ?_
        rotate_left
        · (intro w hSw; have s0 := cell_kept hSw d0; have s1 := cell_kept hSw d1; have s2 := cell_kept hSw d2; have s3 := cell_kept hSw d3; have s4 := cell_kept hSw d4; have r0 := cell_kept hSw e0; have r1 := cell_kept hSw e1; have r2 := cell_kept hSw e2; have r3 := cell_kept hSw e3; have r4 := cell_kept hSw e4; go_simp; try with_reducible rfl)
        try simp only [Act.put, List.getElem_toArray, List.getElem_cons_zero, List.getElem_cons_succ, List.setIfInBounds_toArray, List.set_cons_zero, List.set_cons_succ]
        refine wpAnyH_ready (rs := [9]) (by kernel_rfl) (by simp) ?_
        refine AllReadyH.cons rfl (fun K hK => ?_) (AllReadyH.nil)
        go_simp
        go_at_call 65; (with_reducible refine (HBF.out _).mono ?_); rintro e WA ⟨rfl, hbA⟩
        refine hK.out _ _ (below_next HS0.out hbA) (fun hHeld => ?_)
        try simp only [Act.put, List.getElem_toArray, List.getElem_cons_zero, List.getElem_cons_succ, List.setIfInBounds_toArray, List.set_cons_zero, List.set_cons_succ]
        refine wpAnyH_take (i := 10) (oi := _) (v := ?_) rfl (by kernel_rfl) (by kernel_rfl) (by kernel_rfl) (fun _ _ _ h => h) (Or.inl ⟨by rfl, ?_⟩) (by assumption) ?_
        rotate_left
        · (intro w hSw; have s0 := cell_kept hSw d0; have s1 := cell_kept hSw d1; have s2 := cell_kept hSw d2; have s3 := cell_kept hSw d3; have s4 := cell_kept hSw d4; have r0 := cell_kept hSw e0; have r1 := cell_kept hSw e1; have r2 := cell_kept hSw e2; have r3 := cell_kept hSw e3; have r4 := cell_kept hSw e4; go_simp; try with_reducible rfl)
        try simp only [Act.put, List.getElem_toArray, List.getElem_cons_zero, List.getElem_cons_succ, List.setIfInBounds_toArray, List.set_cons_zero, List.set_cons_succ]
        refine wpAnyH_take (i := 11) (oi := _) (v := ?_) rfl (by kernel_rfl) (by kernel_rfl) (by kernel_rfl) (fun _ _ _ h => h) (Or.inl ⟨by rfl, ?_⟩) (by assumption) ?_
        rotate_left
        · (intro w hSw; have s0 := cell_kept hSw d0; have s1 := cell_kept hSw d1; have s2 := cell_kept hSw d2; have s3 := cell_kept hSw d3; have s4 := cell_kept hSw d4; have r0 := cell_kept hSw e0; have r1 := cell_kept hSw e1; have r2 := cell_kept hSw e2; have r3 := cell_kept hSw e3; have r4 := cell_kept hSw e4; go_simp; try with_reducible rfl)
        try simp only [Act.put, List.getElem_toArray, List.getElem_cons_zero, List.getElem_cons_succ, List.setIfInBounds_toArray, List.set_cons_zero, List.set_cons_succ]
        first | refine wpAnyH_take (i := 12) (oi := _) (v := undef) rfl (by kernel_rfl) (by kernel_rfl) (by kernel_rfl) (fun _ _ _ h => h) (Or.inr ⟨by rfl, rfl⟩) (by assumption) ?_ | (refine wpAnyH_ready (rs := [12]) (by kernel_rfl) (by simp) ?_; refine AllReadyH.cons rfl (fun K hK => ?_) (AllReadyH.nil); rw [if_neg (by decide)]; refine hK.out _ _ (by assumption) (fun hHeld => ?_))
        try simp only [Act.put, List.getElem_toArray, List.getElem_cons_zero, List.getElem_cons_succ, List.setIfInBounds_toArray, List.set_cons_zero, List.set_cons_succ]
        first | refine wpAnyH_take (i := 13) (oi := _) (v := undef) rfl (by kernel_rfl) (by kernel_rfl) (by kernel_rfl) (fun _ _ _ h => h) (Or.inr ⟨by rfl, rfl⟩) (by assumption) ?_ | (refine wpAnyH_ready (rs := [13]) (by kernel_rfl) (by simp) ?_; refine AllReadyH.cons rfl (fun K hK => ?_) (AllReadyH.nil); rw [if_neg (by decide)]; refine hK.out _ _ (by assumption) (fun hHeld => ?_))
        try simp only [Act.put, List.getElem_toArray, List.getElem_cons_zero, List.getElem_cons_succ, List.setIfInBounds_toArray, List.set_cons_zero, List.set_cons_succ]
        first | refine wpAnyH_take (i := 14) (oi := _) (v := undef) rfl (by kernel_rfl) (by kernel_rfl) (by kernel_rfl) (fun _ _ _ h => h) (Or.inr ⟨by rfl, rfl⟩) (by assumption) ?_ | (refine wpAnyH_ready (rs := [14]) (by kernel_rfl) (by simp) ?_; refine AllReadyH.cons rfl (fun K hK => ?_) (AllReadyH.nil); rw [if_neg (by decide)]; refine hK.out _ _ (by assumption) (fun hHeld => ?_))
        try simp only [Act.put, List.getElem_toArray, List.getElem_cons_zero, List.getElem_cons_succ, List.setIfInBounds_toArray, List.set_cons_zero, List.set_cons_succ]
        first | refine wpAnyH_take (i := 15) (oi := _) (v := undef) rfl (by kernel_rfl) (by kernel_rfl) (by kernel_rfl) (fun _ _ _ h => h) (Or.inr ⟨by rfl, rfl⟩) (by assumption) ?_ | (refine wpAnyH_ready (rs := [15]) (by kernel_rfl) (by simp) ?_; refine AllReadyH.cons rfl (fun K hK => ?_) (AllReadyH.nil); rw [if_neg (by decide)]; refine hK.out _ _ (by assumption) (fun hHeld => ?_))
        try simp only [Act.put, List.getElem_toArray, List.getElem_cons_zero, List.getElem_cons_succ, List.setIfInBounds_toArray, List.set_cons_zero, List.set_cons_succ]
        refine wpAnyH_take (i := 16) (oi := _) (v := ?_) rfl (by kernel_rfl) (by kernel_rfl) (by kernel_rfl) (fun _ _ _ h => h) (Or.inl ⟨by rfl, ?_⟩) (by assumption) ?_
        rotate_left
        · (intro w hSw; have s0 := cell_kept hSw d0; have s1 := cell_kept hSw d1; have s2 := cell_kept hSw d2; have s3 := cell_kept hSw d3; have s4 := cell_kept hSw d4; have r0 := cell_kept hSw e0; have r1 := cell_kept hSw e1; have r2 := cell_kept hSw e2; have r3 := cell_kept hSw e3; have r4 := cell_kept hSw e4; go_simp; try with_reducible rfl)
        try simp only [Act.put, List.getElem_toArray, List.getElem_cons_zero, List.getElem_cons_succ, List.setIfInBounds_toArray, List.set_cons_zero, List.set_cons_succ]
        refine wpAnyH_done (by kernel_rfl) ?_ _
        go_wp2
        go_ret
        exact ⟨ret_bool HX.out.symm, below_next HS0.out hbA⟩
      | true =>
        go_upto_region 4 with (fail)
        refine wp_region_held_drew (S := (fun w' => Below W.heap.size W w')) (by kernel_rfl) HS0.out (fun hH => ?_)
        refine wpAnyH_take (i := 0) (oi := _) (v := ?_) rfl (by kernel_rfl) (by kernel_rfl) (by kernel_rfl) (fun _ _ _ h => h) (Or.inl ⟨by rfl, ?_⟩) (by assumption) ?_
        rotate_left
        · (intro w hSw; have s0 := cell_kept hSw d0; have s1 := cell_kept hSw d1; have s2 := cell_kept hSw d2; have s3 := cell_kept hSw d3; have s4 := cell_kept hSw d4; have r0 := cell_kept hSw e0; have r1 := cell_kept hSw e1; have r2 := cell_kept hSw e2; have r3 := cell_kept hSw e3; have r4 := cell_kept hSw e4; go_simp; try with_reducible rfl)
        try simp only [Act.put, List.getElem_toArray, List.getElem_cons_zero, List.setIfInBounds_toArray, List.set_cons_zero, List.set_cons_succ]
        refine wpAnyH_take (i := 1) (oi := _) (v := ?_) rfl (by kernel_rfl) (by kernel_rfl) (by kernel_rfl) (fun _ _ _ h => h) (Or.inl ⟨by rfl, ?_⟩) (by assumption) ?_
        rotate_left
        · (intro w hSw; have s0 := cell_kept hSw d0; have s1 := cell_kept hSw d1; have s2 := cell_kept hSw d2; have s3 := cell_kept hSw d3; have s4 := cell_kept hSw d4; have r0 := cell_kept hSw e0; have r1 := cell_kept hSw e1; have r2 := cell_kept hSw e2; have r3 := cell_kept hSw e3; have r4 := cell_kept hSw e4; go_simp; try with_reducible rfl)
        try simp only [Act.put, List.getElem_toArray, List.getElem_cons_zero, List.getElem_cons_succ, List.setIfInBounds_toArray, List.set_cons_zero, List.set_cons_succ]
        refine wpAnyH_take (i := 2) (oi := _) (v := ?_) rfl (by kernel_rfl) (by kernel_rfl) (by kernel_rfl) (fun _ _ _ h => h) (Or.inl ⟨by rfl, ?_⟩) (by assumption) ?_
        rotate_left
        · (intro w hSw; have s0 := cell_kept hSw d0; have s1 := cell_kept hSw d1; have s2 := cell_kept hSw d2; have s3 := cell_kept hSw d3; have s4 := cell_kept hSw d4; have r0 := cell_kept hSw e0; have r1 := cell_kept hSw e1; have r2 := cell_kept hSw e2; have r3 := cell_kept hSw e3; have r4 := cell_kept hSw e4; go_simp; try with_reducible rfl)
        try simp only [Act.put, List.getElem_toArray, List.getElem_cons_zero, List.getElem_cons_succ, List.setIfInBounds_toArray, List.set_cons_zero, List.set_cons_succ]
        refine wpAnyH_take (i := 3) (oi := _) (v := ?_) rfl (by kernel_rfl) (by kernel_rfl) (by kernel_rfl) (fun _ _ _ h => h) (Or.inl ⟨by rfl, ?_⟩) (by assumption) ?_
        rotate_left
        · (intro w hSw; have s0 := cell_kept hSw d0; have s1 := cell_kept hSw d1; have s2 := cell_kept hSw d2; have s3 := cell_kept hSw d3; have s4 := cell_kept hSw d4; have r0 := cell_kept hSw e0; have r1 := cell_kept hSw e1; have r2 := cell_kept hSw e2; have r3 := cell_kept hSw e3; have r4 := cell_kept hSw e4; go_simp; try with_reducible rfl)
        try simp only [Act.put, List.getElem_toArray, List.getElem_cons_zero, List.getElem_cons_succ, List.setIfInBounds_toArray, List.set_cons_zero, List.set_cons_succ]
        refine wpAnyH_take (i := 4) (oi := _) (v := ?_) rfl (by kernel_rfl) (by kernel_rfl) (by kernel_rfl) (fun _ _ _ h => h) (Or.inl ⟨by rfl, ?_⟩) (by assumption) ?_
        rotate_left
        · (intro w hSw; have s0 := cell_kept hSw d0; have s1 := cell_kept hSw d1; have s2 := cell_kept hSw d2; have s3 := cell_kept hSw d3; have s4 := cell_kept hSw d4; have r0 := cell_kept hSw e0; have r1 := cell_kept hSw e1; have r2 := cell_kept hSw e2; have r3 := cell_kept hSw e3; have r4 := cell_kept hSw e4; go_simp; try with_reducible rfl)
        try simp only [Act.put, List.getElem_toArray, List.getElem_cons_zero, List.getElem_cons_succ, List.setIfInBounds_toArray, List.set_cons_zero, List.set_cons_succ]
        refine wpAnyH_take (i := 5) (oi := _) (v := ?_) rfl (by kernel_rfl) (by kernel_rfl) (by kernel_rfl) (fun _ _ _ h => h) (Or.inl ⟨by rfl, ?_⟩) (by assumption) ?_
        rotate_left
        · (intro w hSw; have s0 := cell_kept hSw d0; have s1 := cell_kept hSw d1; have s2 := cell_kept hSw d2; have s3 := cell_kept hSw d3; have s4 := cell_kept hSw d4; have r0 := cell_kept hSw e0; have r1 := cell_kept hSw e1; have r2 := cell_kept hSw e2; have r3 := cell_kept hSw e3; have r4 := cell_kept hSw e4; go_simp; try with_reducible rfl)
        try simp only [Act.put, List.getElem_toArray, List.getElem_cons_zero, List.getElem_cons_succ, List.setIfInBounds_toArray, List.set_cons_zero, List.set_cons_succ]
        refine wpAnyH_take (i := 6) (oi := _) (v := ?_) rfl (by kernel_rfl) (by kernel_rfl) (by kernel_rfl) (fun _ _ _ h => h) (Or.inl ⟨by rfl, ?_⟩) (by assumption) ?_
        rotate_left
        · (intro w hSw; have s0 := cell_kept hSw d0; have s1 := cell_kept hSw d1; have s2 := cell_kept hSw d2; have s3 := cell_kept hSw d3; have s4 := cell_kept hSw d4; have r0 := cell_kept hSw e0; have r1 := cell_kept hSw e1; have r2 := cell_kept hSw e2; have r3 := cell_kept hSw e3; have r4 := cell_kept hSw e4; go_simp; try with_reducible rfl)
        try simp only [Act.put, List.getElem_toArray, List.getElem_cons_zero, List.getElem_cons_succ, List.setIfInBounds_toArray, List.set_cons_zero, List.set_cons_succ]
        refine wpAnyH_take (i := 7) (oi := _) (v := ?_) rfl (by kernel_rfl) (by kernel_rfl) (by kernel_rfl) (fun _ _ _ h => h) (Or.inl ⟨by rfl, ?_⟩) (by assumption) ?_
        rotate_left
        · (intro w hSw; have s0 := cell_kept hSw d0; have s1 := cell_kept hSw d1; have s2 := cell_kept hSw d2; have s3 := cell_kept hSw d3; have s4 := cell_kept hSw d4; have r0 := cell_kept hSw e0; have r1 := cell_kept hSw e1; have r2 := cell_kept hSw e2; have r3 := cell_kept hSw e3; have r4 := cell_kept hSw e4; go_simp; try with_reducible rfl)
        try simp only [Act.put, List.getElem_toArray, List.getElem_cons_zero, List.getElem_cons_succ, List.setIfInBounds_toArray, List.set_cons_zero, List.set_cons_succ]
        refine wpAnyH_take (i := 8) (oi := _) (v := ?_) rfl (by kernel_rfl) (by kernel_rfl) (by kernel_rfl) (fun _ _ _ h => h) (Or.inl ⟨by rfl, ?_⟩) (by assumption) ?_
        rotate_left
        · (intro w hSw; have s0 := cell_kept hSw d0; have s1 := cell_kept hSw d1; have s2 := cell_kept hSw d2; have s3 := cell_kept hSw d3; have s4 := cell_kept hSw d4; have r0 := cell_kept hSw e0; have r1 := cell_kept hSw e1; have r2 := cell_kept hSw e2; have r3 := cell_kept hSw e3; have r4 := cell_kept hSw e4; go_simp; try with_reducible rfl)
        try simp only [Act.put, List.getElem_toArray, List.getElem_cons_zero, List.getElem_cons_succ, List.setIfInBounds_toArray, List.set_cons_zero, List.set_cons_succ]
        refine wpAnyH_ready (rs := [9]) (by kernel_rfl) (by simp) ?_
        refine AllReadyH.cons rfl (fun K hK => ?_) (AllReadyH.nil)
        go_simp
        go_at_call 65; (with_reducible refine (HBF.out _).mono ?_); rintro e WA ⟨rfl, hbA⟩
        refine hK.out _ _ (below_next HS0.out hbA) (fun hHeld => ?_)
        try simp only [Act.put, List.getElem_toArray, List.getElem_cons_zero, List.getElem_cons_succ, List.setIfInBounds_toArray, List.set_cons_zero, List.set_cons_succ]
        have HBA := Lib.hid (below_next HS0.out hbA)
        refine wpAnyH_take (i := 10) (oi := _) (v := ?_) rfl (by kernel_rfl) (by kernel_rfl) (by kernel_rfl) (fun _ _ _ h => h) (Or.inl ⟨by rfl, ?_⟩) (by assumption) ?_
        rotate_left
        · (intro w hSw; have s0 := cell_kept hSw d0; have s1 := cell_kept hSw d1; have s2 := cell_kept hSw d2; have s3 := cell_kept hSw d3; have s4 := cell_kept hSw d4; have r0 := cell_kept hSw e0; have r1 := cell_kept hSw e1; have r2 := cell_kept hSw e2; have r3 := cell_kept hSw e3; have r4 := cell_kept hSw e4; go_simp; try with_reducible rfl)
        try simp only [Act.put, List.getElem_toArray, List.getElem_cons_zero, List.getElem_cons_succ, List.setIfInBounds_toArray, List.set_cons_zero, List.set_cons_succ]
        refine wpAnyH_take (i := 11) (oi := _) (v := ?_) rfl (by kernel_rfl) (by kernel_rfl) (by kernel_rfl) (fun _ _ _ h => h) (Or.inl ⟨by rfl, ?_⟩) (by assumption) ?_
        rotate_left
        · (intro w hSw; have s0 := cell_kept hSw d0; have s1 := cell_kept hSw d1; have s2 := cell_kept hSw d2; have s3 := cell_kept hSw d3; have s4 := cell_kept hSw d4; have r0 := cell_kept hSw e0; have r1 := cell_kept hSw e1; have r2 := cell_kept hSw e2; have r3 := cell_kept hSw e3; have r4 := cell_kept hSw e4; go_simp; try with_reducible rfl)
        try simp only [Act.put, List.getElem_toArray, List.getElem_cons_zero, List.getElem_cons_succ, List.setIfInBounds_toArray, List.set_cons_zero, List.set_cons_succ]
        refine wpAnyH_take (i := 12) (oi := _) (v := ?_) rfl (by kernel_rfl) (by kernel_rfl) (by kernel_rfl) (fun _ _ _ h => h) (Or.inl ⟨by rfl, ?_⟩) (by assumption) ?_
        rotate_left
        · (intro w hSw; have s0 := cell_kept hSw d0; have s1 := cell_kept hSw d1; have s2 := cell_kept hSw d2; have s3 := cell_kept hSw d3; have s4 := cell_kept hSw d4; have r0 := cell_kept hSw e0; have r1 := cell_kept hSw e1; have r2 := cell_kept hSw e2; have r3 := cell_kept hSw e3; have r4 := cell_kept hSw e4; go_simp; try with_reducible rfl)
        try simp only [Act.put, List.getElem_toArray, List.getElem_cons_zero, List.getElem_cons_succ, List.setIfInBounds_toArray, List.set_cons_zero, List.set_cons_succ]
        refine wpAnyH_take (i := 13) (oi := _) (v := ?_) rfl (by kernel_rfl) (by kernel_rfl) (by kernel_rfl) (fun _ _ _ h => h) (Or.inl ⟨by rfl, ?_⟩) (by assumption) ?_
        rotate_left
        · (intro w hSw; have s0 := cell_kept hSw d0; have s1 := cell_kept hSw d1; have s2 := cell_kept hSw d2; have s3 := cell_kept hSw d3; have s4 := cell_kept hSw d4; have r0 := cell_kept hSw e0; have r1 := cell_kept hSw e1; have r2 := cell_kept hSw e2; have r3 := cell_kept hSw e3; have r4 := cell_kept hSw e4; go_simp; try with_reducible rfl)
        try simp only [Act.put, List.getElem_toArray, List.getElem_cons_zero, List.getElem_cons_succ, List.setIfInBounds_toArray, List.set_cons_zero, List.set_cons_succ]
        refine wpAnyH_ready (rs := [14]) (by kernel_rfl) (by simp) ?_
        refine AllReadyH.cons rfl (fun K hK => ?_) (AllReadyH.nil)
        go_simp
        go_at_call 66; (with_reducible refine (HFI.out _ HBA.out).mono ?_); rintro e WB ⟨rfl, hbB⟩
        refine hK.out _ _ (below_next HBA.out hbB) (fun hHeld => ?_)
        try simp only [Act.put, List.getElem_toArray, List.getElem_cons_zero, List.getElem_cons_succ, List.setIfInBounds_toArray, List.set_cons_zero, List.set_cons_succ]
        refine wpAnyH_take (i := 15) (oi := _) (v := ?_) rfl (by kernel_rfl) (by kernel_rfl) (by kernel_rfl) (fun _ _ _ h => h) (Or.inl ⟨by rfl, ?_⟩) (by assumption) ?_
        rotate_left
        · (intro w hSw; have s0 := cell_kept hSw d0; have s1 := cell_kept hSw d1; have s2 := cell_kept hSw d2; have s3 := cell_kept hSw d3; have s4 := cell_kept hSw d4; have r0 := cell_kept hSw e0; have r1 := cell_kept hSw e1; have r2 := cell_kept hSw e2; have r3 := cell_kept hSw e3; have r4 := cell_kept hSw e4; go_simp; try with_reducible rfl)
        try simp only [Act.put, List.getElem_toArray, List.getElem_cons_zero, List.getElem_cons_succ, List.setIfInBounds_toArray, List.set_cons_zero, List.set_cons_succ]
        refine wpAnyH_take (i := 16) (oi := _) (v := ?_) rfl (by kernel_rfl) (by kernel_rfl) (by kernel_rfl) (fun _ _ _ h => h) (Or.inl ⟨by rfl, ?_⟩) (by assumption) ?_
        rotate_left
        · (intro w hSw; have s0 := cell_kept hSw d0; have s1 := cell_kept hSw d1; have s2 := cell_kept hSw d2; have s3 := cell_kept hSw d3; have s4 := cell_kept hSw d4; have r0 := cell_kept hSw e0; have r1 := cell_kept hSw e1; have r2 := cell_kept hSw e2; have r3 := cell_kept hSw e3; have r4 := cell_kept hSw e4; go_simp; try with_reducible rfl)
        try simp only [Act.put, List.getElem_toArray, List.getElem_cons_zero, List.getElem_cons_succ, List.setIfInBounds_toArray, List.set_cons_zero, List.set_cons_succ]
        refine wpAnyH_done (by kernel_rfl) ?_ _
        have HBZ := Lib.hid (below_next HBA.out hbB)
        clear hbA hbB
        cases ff with
        | false =>
          have HX := Lib.hid (canonV_not HCD.out.1 HCD.out.2 (.inr HFF.out))
          go_wp2
          go_ret
          exact ⟨ret_bool HX.out.symm, HBZ.out⟩
        | true =>
          clear d0 d1 d2 d3 d4 e0 e1 e2 e3 e4
          go_wp2
          go_roundw
          case rel => exact ⟨n + 1, by go_num, by have := HLT.out; omega, Lib.hid (fun j c' d' hj hc' hd' => by
            by_cases hjn : j < n
            · exact HP.out j c' d' hjn hc' hd'
            · have : j = n := by omega
              subst this
              rw [HCD.out.1] at hc'
              rw [HCD.out.2] at hd'
              obtain rfl := Option.some.inj hc'
              obtain rfl := Option.some.inj hd'
              exact ⟨HBB.out, HFF.out⟩), HBZ⟩
          case measure => have := HLT.out; simp [intOf]; omega
    · have hge : (len : Int) ≤ (n : Int) + 1 := by omega
      have HX := Lib.hid (canonV_all (cs := cs) (fun j c d hc hd => HP.out j c d (by have := (List.getElem?_eq_some_iff.1 hd).1; have := HE.out; omega) hc hd))
      have HVV := Lib.hid (HLV.out _ HB.out)
      clear hn hlt
      go_wp2_with fail
      refine HVV.out.mono ?_
      rintro e W2 ⟨rfl, hb2⟩
      go_wp2
      go_ret
      exact ⟨ret_bool HX.out.symm, below_next HB.out hb2⟩

end Go.Proofs.YtohdpbalajjjiaaGreat

/-
  A command held against itself.
-/
namespace Go.Proofs.YtohdpbalajjjiaaGreat
open Go.RowKit

theorem cmdEqS (p : ByteArray) (fk fv tk tv : Int) (w : World) : (binOp .eql 33 (.agg #[.string p, .int .i64 fk, .int .i64 fv, .int .i64 tk, .int .i64 tv]) (.agg #[.string p, .int .i64 fk, .int .i64 fv, .int .i64 tk, .int .i64 tv])).run Tryz.prog w = .ok (.bool true) w := by
  simp [binOp, go_sem, Op.equal, Op.maxDepth]

theorem cmdNeS (p : ByteArray) (fk fv tk tv : Int) (w : World) : (binOp .neq 33 (.agg #[.string p, .int .i64 fk, .int .i64 fv, .int .i64 tk, .int .i64 tv]) (.agg #[.string p, .int .i64 fk, .int .i64 fv, .int .i64 tk, .int .i64 tv])).run Tryz.prog w = .ok (.bool false) w := by
  simp [binOp, go_sem, Op.equal, Op.maxDepth]

end Go.Proofs.YtohdpbalajjjiaaGreat

/-
  WALKS: conflicts of the model: spec.l16Over, l16Clash, CommandsClash, l16Ok, l16Some, l16Has.
-/
namespace Go.Proofs.YtohdpbalajjjiaaGreat
open Go.RowKit
set_option linter.unusedVariables false

theorem rb_first : (0 : Nat) ≤ 0 := Nat.le_refl 0

theorem rb_drewN {n : Nat} {W W' : World} (h : Below n W W') (k : Nat) : Below n W (W'.drewN k) := by
  have e := (drewN_cell W' k ⟨0, 0, none⟩).2.2
  exact ⟨h.os, h.tape, h.output, by rw [e]; exact h.size, fun j hj => by rw [e]; exact h.block j hj⟩

set_option maxHeartbeats 2000000 in
set_option maxRecDepth 100000 in
theorem specOver_c (c d : Cmd) (W : World) : Calls Tryz.prog 48 #[cmdV c, cmdV d] W (BoolPost (overC c d) W) := by
  obtain ⟨u, hu⟩ : ∃ u, l1uB c.p d.p = u := ⟨_, rfl⟩
  obtain ⟨x, hx⟩ : ∃ x, (c.tk == 1) = x := ⟨_, rfl⟩
  obtain ⟨y, hy⟩ : ∃ y, (d.tk == 0) = y := ⟨_, rfl⟩
  have HU := Lib.hid (fun w => show Calls Tryz.prog 67 #[.string c.p, .string d.p] w (fun e w' => e = .returned (.bool u) ∧ w = w') by rw [← hu]; exact l1Under_c c.p d.p w)
  have HR := Lib.hid (show overC c d = (u && !x && !y) by unfold overC; rw [hu, hx, hy])
  have HT := Lib.hid (twoC_new W c d)
  have HB := Lib.hid (below_next (below_box W (.cells #[.string c.p, .int .i64 c.fk, .int .i64 c.fv, .int .i64 c.tk, .int .i64 c.tv] 33)) (below_box _ (.cells #[.string d.p, .int .i64 d.fk, .int .i64 d.fv, .int .i64 d.tk, .int .i64 d.tv] 33)))
  clear hu
  obtain ⟨p, fk, fv, tk, tv⟩ := c
  obtain ⟨p', fk', fv', tk', tv'⟩ := d
  unfold cmdV
  simp only at HU HT HB HR hx hy ⊢
  have hxn : (tk != 1) = !x := by rw [bne, hx]
  have hyn : (tk' != 0) = !y := by rw [bne, hy]
  obtain ⟨a0, a1, a2, a3, a4, b0, b1, b2, b3, b4⟩ := HT.out
  simp only at a0 a1 a2 a3 a4 b0 b1 b2 b3 b4
  go_enter Tryz.func48, Tryz.ntmps48
  go_wp2_with fail
  refine (HU.out _).mono ?_
  rintro e W1 ⟨rfl, rfl⟩
  cases u with
  | false =>
    go_wp2
    go_ret
    exact ⟨ret_bool (by rw [HR.out]; rfl), HB.out⟩
  | true =>
    cases x with
    | true =>
      go_wp2
      go_ret
      exact ⟨ret_bool (by rw [HR.out]; rfl), HB.out⟩
    | false =>
      cases y with
      | true =>
        go_wp2
        go_ret
        exact ⟨ret_bool (by rw [HR.out]; rfl), HB.out⟩
      | false =>
        go_wp2
        go_ret
        exact ⟨ret_bool (by rw [HR.out]; rfl), HB.out⟩

set_option maxHeartbeats 4000000 in
set_option maxRecDepth 100000 in
theorem specClash_c (c d : Cmd) (W : World) : Calls Tryz.prog 29 #[cmdV c, cmdV d] W (BoolPost (clashC c d) W) := by
  obtain ⟨u, hu⟩ : ∃ u, overC c d = u := ⟨_, rfl⟩
  obtain ⟨v, hv⟩ : ∃ v, overC d c = v := ⟨_, rfl⟩
  obtain ⟨x, hx⟩ : ∃ x, (c.tk == d.tk && c.tv == d.tv) = x := ⟨_, rfl⟩
  obtain ⟨y, hy⟩ : ∃ y, (c.p.toList == d.p.toList) = y := ⟨_, rfl⟩
  have HU := Lib.hid (fun w => show Calls Tryz.prog 48 #[cmdV c, cmdV d] w (BoolPost u w) by rw [← hu]; exact specOver_c c d w)
  have HV := Lib.hid (fun w => show Calls Tryz.prog 48 #[cmdV d, cmdV c] w (BoolPost v w) by rw [← hv]; exact specOver_c d c w)
  have hyd : decide (c.p = d.p) = y := by
    rw [← hy]
    by_cases h : c.p = d.p
    · rw [h]; simp
    · rw [toList_ne h]; exact decide_eq_false h
  have HR := Lib.hid (show clashC c d = ((y && !x) || u || v) by unfold clashC; rw [hu, hv, hx, hyd])
  have HT := Lib.hid (twoC_new W c d)
  have HB := Lib.hid (below_next (below_box W (.cells #[.string c.p, .int .i64 c.fk, .int .i64 c.fv, .int .i64 c.tk, .int .i64 c.tv] 33)) (below_box _ (.cells #[.string d.p, .int .i64 d.fk, .int .i64 d.fv, .int .i64 d.tk, .int .i64 d.tv] 33)))
  clear hu hv hyd
  obtain ⟨p, fk, fv, tk, tv⟩ := c
  obtain ⟨p', fk', fv', tk', tv'⟩ := d
  unfold cmdV at HU HV ⊢
  simp only at HU HV HT HB HR hx hy ⊢
  have hne := fun w => (conNeQ tk tv tk' tv' w).trans (show _ = Result.ok (Value.bool (!x)) w by rw [hx])
  obtain ⟨a0, a1, a2, a3, a4, b0, b1, b2, b3, b4⟩ := HT.out
  simp only at a0 a1 a2 a3 a4 b0 b1 b2 b3 b4
  have T0 := HT
  have B0 := HB
  clear hx
  go_enter Tryz.func29, Tryz.ntmps29
  cases y with
  | true =>
    cases x with
    | false =>
      go_wp2
      go_ret
      exact ⟨ret_bool (by rw [HR.out]; rfl), HB.out⟩
    | true =>
      go_wp2_with fail
      refine (HU.out _).mono ?_
      rintro e W1 ⟨rfl, hb1⟩
      have T1 := Lib.hid (T0.out.keep hb1)
      have B1 := Lib.hid (below_next B0.out hb1)
      clear a0 a1 a2 a3 a4 b0 b1 b2 b3 b4 hb1
      obtain ⟨a0, a1, a2, a3, a4, b0, b1, b2, b3, b4⟩ := T1.out
      cases u with
      | true =>
        go_wp2
        go_ret
        exact ⟨ret_bool (by rw [HR.out]; simp), B1.out⟩
      | false =>
        go_wp2_with fail
        refine (HV.out _).mono ?_
        rintro e W2 ⟨rfl, hb2⟩
        have B2 := Lib.hid (below_next B1.out hb2)
        clear a0 a1 a2 a3 a4 b0 b1 b2 b3 b4 hb2
        go_wp2
        go_ret
        exact ⟨ret_bool (by rw [HR.out]; simp), B2.out⟩
  | false =>
    go_wp2_with fail
    refine (HU.out _).mono ?_
    rintro e W1 ⟨rfl, hb1⟩
    have T1 := Lib.hid (T0.out.keep hb1)
    have B1 := Lib.hid (below_next B0.out hb1)
    clear a0 a1 a2 a3 a4 b0 b1 b2 b3 b4 hb1
    obtain ⟨a0, a1, a2, a3, a4, b0, b1, b2, b3, b4⟩ := T1.out
    cases u with
    | true =>
      go_wp2
      go_ret
      exact ⟨ret_bool (by rw [HR.out]; simp), B1.out⟩
    | false =>
      go_wp2_with fail
      refine (HV.out _).mono ?_
      rintro e W2 ⟨rfl, hb2⟩
      have B2 := Lib.hid (below_next B1.out hb2)
      clear a0 a1 a2 a3 a4 b0 b1 b2 b3 b4 hb2
      go_wp2
      go_ret
      exact ⟨ret_bool (by rw [HR.out]; simp), B2.out⟩

set_option maxHeartbeats 2000000 in
set_option maxRecDepth 100000 in
theorem specOk_c (a1 : Option Addr) (len1 cap1 : Nat) (cs : List Cmd) (a2 : Option Addr) (len2 cap2 : Nat) (ds : List Cmd) (hl1 : len1 ≤ 2000000) (hl2 : len2 ≤ 2000000) (hs1 : ShortC 2097152 cs) (hs2 : ShortC 2097152 ds) (W : World) (h1 : CmdsAt W a1 len1 cs) (h2 : CmdsAt W a2 len2 ds) :
    Calls Tryz.prog 28 #[.slice a1 len1 cap1, .slice a2 len2 cap2] W (BoolPost (okL cs ds) W) := by
  obtain ⟨u, hu⟩ : ∃ u, canonV cs = u := ⟨_, rfl⟩
  obtain ⟨v, hv⟩ : ∃ v, canonV ds = v := ⟨_, rfl⟩
  have HU := Lib.hid (show Calls Tryz.prog 47 #[.slice a1 len1 cap1] W (BoolPost u W) by rw [← hu]; exact specCanonValid_c a1 len1 cap1 cs hl1 hs1 W h1)
  have HV := Lib.hid (fun W' (hb : Below W.heap.size W W') => show Calls Tryz.prog 47 #[.slice a2 len2 cap2] W' (BoolPost v W') by rw [← hv]; exact specCanonValid_c a2 len2 cap2 ds hl2 hs2 W' (h2.keep hb))
  have HR := Lib.hid (show okL cs ds = (u && v) by unfold okL; rw [hu, hv])
  clear hu hv h1 h2 hs1 hs2
  go_enter Tryz.func28, Tryz.ntmps28
  go_wp2_with fail
  refine HU.out.mono ?_
  rintro e W1 ⟨rfl, hb1⟩
  have B1 := Lib.hid hb1
  clear hb1
  cases u with
  | false =>
    go_wp2
    go_ret
    exact ⟨ret_bool HR.out.symm, B1.out⟩
  | true =>
    go_wp2_with fail
    refine (HV.out _ B1.out).mono ?_
    rintro e W2 ⟨rfl, hb2⟩
    have B2 := Lib.hid (below_next B1.out hb2)
    clear hb2
    go_wp2
    go_ret
    exact ⟨ret_bool (by rw [HR.out]; rfl), B2.out⟩

theorem some_no {cs : List Cmd} {c : Cmd} (h : ∀ (j : Nat) (d : Cmd), cs[j]? = some d → clashC d c = false) : someC cs c = false := by
  rw [Bool.eq_false_iff]
  intro hs
  obtain ⟨d, hd, hc⟩ := some_iff.1 hs
  obtain ⟨j, hj⟩ := List.getElem?_of_mem hd
  rw [h j d hj] at hc
  cases hc

theorem cmdEqR (c d : Cmd) (h : c ≠ d) (w : World) : (binOp .eql 33 (.agg #[.string c.p, .int .i64 c.fk, .int .i64 c.fv, .int .i64 c.tk, .int .i64 c.tv]) (.agg #[.string d.p, .int .i64 d.fk, .int .i64 d.fv, .int .i64 d.tk, .int .i64 d.tv])).run Tryz.prog w = .ok (.bool false) w := by
  obtain ⟨p, fk, fv, tk, tv⟩ := c
  obtain ⟨p', fk', fv', tk', tv'⟩ := d
  simp only
  by_cases hp : p = p'
  · subst hp
    by_cases h1 : fk = fk'
    · subst h1
      by_cases h2 : fv = fv'
      · subst h2
        by_cases h3 : tk = tk'
        · subst h3
          by_cases h4 : tv = tv'
          · subst h4
            exact absurd rfl h
          · simp [binOp, go_sem, Op.equal, Op.maxDepth, h4]
        · have : (tk == tk') = false := beq_eq_false_iff_ne.2 h3
          simp [binOp, go_sem, Op.equal, Op.maxDepth, this]
      · have : (fv == fv') = false := beq_eq_false_iff_ne.2 h2
        simp [binOp, go_sem, Op.equal, Op.maxDepth, this]
    · have : (fk == fk') = false := beq_eq_false_iff_ne.2 h1
      simp [binOp, go_sem, Op.equal, Op.maxDepth, this]
  · have : (p.toList == p'.toList) = false := toList_ne hp
    simp [binOp, go_sem, Op.equal, Op.maxDepth, this]

theorem has_no {cs : List Cmd} {c : Cmd} (h : ∀ j, j < cs.length → cs[j]? ≠ some c) : hasC cs c = false := by
  rw [Bool.eq_false_iff]
  intro hs
  obtain ⟨j, hj⟩ := List.getElem?_of_mem (hasC_iff.1 hs)
  exact h j (List.getElem?_eq_some_iff.1 hj).1 hj

end Go.Proofs.YtohdpbalajjjiaaGreat
