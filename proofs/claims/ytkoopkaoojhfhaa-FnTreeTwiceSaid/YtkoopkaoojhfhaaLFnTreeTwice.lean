/-
  laws.FnTreeTwice returns true for every input, and leaves its arguments as they were.
  Conditions: none.
-/
import Derived.Test.YtkoopkaoojhfhaaRows
import Derived.Test.YtkoopkaoojhfhaaIu
import Derived.Test.YtkoopkaoojhfhaaLd
import Derived.Test.YtkoopkaoojhfhaaTv
import Derived.WalkKit
import Derived.ProofKit
import Derived.OpenShut
import Derived.ShutString
import Derived.ChangeOld
import Derived.Below
namespace Go.Proofs.Ytkoopkaoojhfhaa.fnTreeTwice
open Go.ChangeShapes Go.WideShapes Go.ChangeAt Go.RowKit
open Go.ChangeMaps (open_string shut_string)
set_option linter.unusedVariables false

theorem own : ownKnob Try.prog.godebug = none := by kernel_rfl
theorem laidOut : laidOutB Try.prog = true := by kernel_rfl

theorem flatN_take (ns : List Nd) : ∀ k, flatN (ns.take k) = (flatN ns).take (k * 3) := by
  induction ns with
  | nil => intro k; simp [flatN]
  | cons n r ih =>
    intro k
    cases k with
    | zero => simp [flatN]
    | succ k =>
      have e : flatN (n :: r) = .string n.p :: .int .i64 n.k :: .int .i64 n.v :: flatN r := rfl
      have e2 : flatN ((n :: r).take (k + 1)) = .string n.p :: .int .i64 n.k :: .int .i64 n.v :: flatN (r.take k) := rfl
      rw [e, e2, ih k, show (k + 1) * 3 = k * 3 + 1 + 1 + 1 by omega, List.take_succ_cons, List.take_succ_cons, List.take_succ_cons]

theorem flatN_drop (ns : List Nd) : ∀ k, flatN (ns.drop k) = (flatN ns).drop (k * 3) := by
  induction ns with
  | nil => intro k; simp [flatN]
  | cons n r ih =>
    intro k
    cases k with
    | zero => rfl
    | succ k =>
      have e : flatN (n :: r) = .string n.p :: .int .i64 n.k :: .int .i64 n.v :: flatN r := rfl
      have e2 : flatN ((n :: r).drop (k + 1)) = flatN (r.drop k) := rfl
      rw [e, e2, ih k, show (k + 1) * 3 = k * 3 + 1 + 1 + 1 by omega, List.drop_succ_cons, List.drop_succ_cons, List.drop_succ_cons]

theorem own_cap {W : World} {base g n cap size : Nat} {e : TypeId} {xs : List Value} (h : W.ownsRow base e size (.slice (some ⟨g, 0, none⟩) n cap) n xs) : n ≤ cap ∧ cap ≤ maxLen := by
  rcases h.2 with ⟨h0, _⟩ | ⟨g', cap', cur, hv, _, hh, h4, h5, _⟩
  · cases h0
  · simp at hv
    obtain ⟨rfl, rfl⟩ := hv
    exact ⟨h4, h5⟩

theorem drop_cells {W W' : World} {base : Nat} {e : TypeId} {ns : List Nd} {g cap k : Nat} (h : W.ownsRow base e 3 (.slice (some ⟨g, 0, none⟩) ns.length cap) ns.length (flatN ns)) (hb : Below W.heap.size W W') :
    ∀ j u, (flatN (ns.drop k))[j]? = some u → W'.cell? ((⟨g, k * 3, none⟩ : Addr).add j) = some u := by
  intro j u hj
  rw [flatN_drop, List.getElem?_drop] at hj
  have hl := flatN_length ns
  have hj' := (List.getElem?_eq_some_iff.1 hj).1
  have h2 := h.cellAt (k * 3 + j) (by omega)
  have e2 : ((⟨g, k * 3, none⟩ : Addr).add j) = ⟨g, k * 3 + j, none⟩ := by
    unfold Addr.add
    split
    · rename_i h0; rw [h0]; rfl
    · rfl
  rw [e2]
  exact cell_kept hb (h2.trans hj)

/-- A node that stands twice. -/
theorem twice_bad {ns : List Nd} {k : Nat} {n : Nd} (hn : ns[k]? = some n) : validT (ns.take (k + 1) ++ ns.drop k) = false := by
  have hk := (List.getElem?_eq_some_iff.1 hn).1
  refine invalid_twice (j := k) (m := n) (n := n) ?_ ?_ rfl
  · rw [List.getElem?_append_left (by rw [List.length_take]; omega), List.getElem?_take, if_pos (by omega)]; exact hn
  · rw [List.getElem?_append_right (by rw [List.length_take]; omega), List.length_take, show k + 1 - min (k + 1) ns.length = 0 by omega, List.getElem?_drop]; exact hn

set_option maxHeartbeats 2000000 in
set_option maxRecDepth 100000 in
theorem walk (a0 : Option Addr) (len0 cap0 : Nat) (z0 : List Int) (a1 : Option Addr) (len1 cap1 : Nat) (z1 : List Int) (w : World) (w0 : IsRow .u8 w a0 len0 cap0 z0) (w1 : IsRow .u8 w a1 len1 cap1 z1) :
    Calls Try.prog 11 #[.slice a0 len0 cap0, .slice a1 len1 cap1] w fun e w' => e = .returned (.bool true) ∧ Below w.heap.size w w' := by
  by_cases h : len0 ≤ 1048576
  · have hl : (len0 : Int) ≤ 1048576 := by omega
    by_cases h1 : len1 ≤ 1048576
    · have hl1 : (len1 : Int) ≤ 1048576 := by omega
      have HD := Lib.hid (drawTreeValid_c a0 len0 cap0 z0 w w0)
      clear h h1 w0 w1
      go_enter Try.func11, Try.ntmps11
      go_wp2_with fail
      refine HD.out.mono ?_
      rintro e W1 ⟨sl, ns, rfl, hd⟩
      obtain ⟨i0, hi, hz0, hz1, hz2⟩ := info_parts infoNode
      obtain ⟨a, cap, rfl, hn⟩ := nodes_of_own hd.1
      have HN := Lib.hid hn
      have hlen := hd.2.1
      have HL := Lib.hid hlen
      have hsh := hd.2.2.1
      have HSH := Lib.hid hsh
      have HBL := Lib.hid hd.2.2.2
      have HOW := Lib.hid hd.1
      obtain ⟨vt, hvt⟩ : ∃ vt, validT ns = vt := ⟨_, rfl⟩
      have HV := Lib.hid (fun W' (hb : Below W1.heap.size W1 W') => show Calls Try.prog 26 #[.slice a ns.length cap] W' (BoolPost vt W') by
        rw [← hvt]; exact implTreeValid_c a ns.length cap ns (by omega) (hsh.mono (by omega)) W' (hn.keep hb))
      have HV2 := Lib.hid (fun W' (hb : Below W1.heap.size W1 W') => show Calls Try.prog 19 #[.slice a ns.length cap] W' (BoolPost vt W') by
        rw [← hvt]; exact specTreeValid_c a ns.length cap ns (by omega) (hsh.mono (by omega)) W' (hn.keep hb))
      clear hn hvt hd hsh
      go_wp2_with fail
      refine (HV.out _ (Below.refl _ _)).mono ?_
      rintro e W2 ⟨rfl, hb2⟩
      have HB2 := Lib.hid hb2
      clear hb2
      go_wp2_with fail
      refine (HV2.out _ HB2.out).mono ?_
      rintro e W3 ⟨rfl, hb3⟩
      have HB3 := Lib.hid (below_next HB2.out hb3)
      clear hb3
      cases vt with
      | false =>
        go_wp2
        go_ret
        exact ⟨rfl, below_next HBL.out HB3.out⟩
      | true =>
        by_cases h0 : ns.length = 0
        · have hz : ((ns.length : Int) == 0) = true := by rw [h0]; rfl
          clear h0 hlen
          go_wp2
          go_ret
          exact ⟨rfl, below_next HBL.out HB3.out⟩
        · have hz : ((ns.length : Int) == 0) = false := beq_eq_false_iff_ne.2 (by omega)
          obtain ⟨k, hk⟩ : ∃ k, k = len1 % ns.length := ⟨_, rfl⟩
          have hkl : k < ns.length := by rw [hk]; exact Nat.mod_lt _ (by omega)
          have hrem : (len1 : Int).tmod (ns.length : Int) = k := by rw [hk]; rfl
          obtain ⟨n, hnk⟩ : ∃ n, ns[k]? = some n := ⟨_, List.getElem?_eq_getElem hkl⟩
          rcases own_cases HOW.out with ⟨_, q0⟩ | ⟨g, cap', hsl⟩
          · exact absurd q0 h0
          simp at hsl
          obtain ⟨rfl, rfl⟩ := hsl
          have HKL := Lib.hid hkl
          have HNK := Lib.hid hnk
          have HO3 := Lib.hid (own_below HOW.out HB3.out)
          have hcap := own_cap HOW.out
          unfold maxLen at hcap
          have hl11 : (ns.length : Int) ≤ 11 := by omega
          have hkl' : (k : Int) < ns.length := by omega
          have k1 : (k : Int) + 1 ≤ cap := by omega
          have k2 : (k : Int) ≤ cap := by omega
          have k3 : (ns.length : Int) ≤ cap := by omega
          have k4 : (0 : Int) ≤ (k : Int) + 1 := by omega
          have k5 : (0 : Int) ≤ k := by omega
          have k6 : ¬ cap = 0 := by omega
          have k7 : ¬ cap - k = 0 := by omega
          have k8 : ¬ cap = k := by omega
          have k9 : (k : Int) ≤ ns.length := by omega
          have k10 : IntKind.i64.wrap ((k : Int) + 1) = k + 1 := by rw [IntKind.wrap_i64]; omega
          have k11 : ((k : Int) + 1).toNat = k + 1 := by omega
          clear h0 hlen hk hkl hnk hcap
          go_upto_region 9 with (fail)
          have hcel := own_cells HO3.out
          have hf1 : (flatN (ns.take (k + 1))).length = (k + 1) * 3 := by rw [flatN_length, List.length_take, Nat.min_eq_left (by omega)]
          have hf2 : (flatN (ns.drop k)).length = (ns.length - k) * 3 := by rw [flatN_length, List.length_drop]
          have HC1 := Lib.hid (show ∀ j u, (flatN (ns.take (k + 1)))[j]? = some u → (W3.alloc (.cells #[] 32)).drew.cell? ((⟨g, 0, none⟩ : Addr).add j) = some u from fun j u h => by
            rw [flatN_take, List.getElem?_take] at h
            split at h
            · exact cell_kept (below_box _ _).drew (hcel j u h)
            · cases h)
          have HS0 := Lib.hid (show Below W3.heap.size W3 W3.drew from (Below.refl _ _).drew)
          refine wp_region_held_drew (S := (fun w' => Below W3.heap.size W3 w')) (by kernel_rfl) HS0.out (fun hH => ?_)
          refine wpAnyH_take (i := 1) (oi := _) (v := ?_) rfl (by kernel_rfl) (by kernel_rfl) (by kernel_rfl) (fun _ _ _ h => h) (Or.inl ⟨by rfl, ?_⟩) (by assumption) ?_
          rotate_left
          · (intro w hSw; (try dsimp only at hSw); go_simp; try with_reducible rfl)
          try simp only [Act.put, List.getElem_toArray, List.getElem_cons_zero, List.getElem_cons_succ, List.setIfInBounds_toArray, List.set_cons_zero, List.set_cons_succ]
          refine wpAnyH_take (i := 2) (oi := _) (v := ?_) rfl (by kernel_rfl) (by kernel_rfl) (by kernel_rfl) (fun _ _ _ h => h) (Or.inl ⟨by rfl, ?_⟩) (by assumption) ?_
          rotate_left
          · (intro w hSw; (try dsimp only at hSw); go_simp; try with_reducible rfl)
          try simp only [Act.put, List.getElem_toArray, List.getElem_cons_zero, List.getElem_cons_succ, List.setIfInBounds_toArray, List.set_cons_zero, List.set_cons_succ]
          refine wpAnyH_take (i := 3) (oi := _) (v := ?_) rfl (by kernel_rfl) (by kernel_rfl) (by kernel_rfl) (fun _ _ _ h => h) (Or.inl ⟨by rfl, ?_⟩) (by assumption) ?_
          rotate_left
          · (intro w hSw; (try dsimp only at hSw); go_simp; try with_reducible rfl)
          try simp only [Act.put, List.getElem_toArray, List.getElem_cons_zero, List.getElem_cons_succ, List.setIfInBounds_toArray, List.set_cons_zero, List.set_cons_succ]
          refine wpAnyH_take (i := 4) (oi := _) (v := ?_) rfl (by kernel_rfl) (by kernel_rfl) (by kernel_rfl) (fun _ _ _ h => h) (Or.inl ⟨by rfl, ?_⟩) (by assumption) ?_
          rotate_left
          · (intro w hSw; (try dsimp only at hSw); go_simp; try with_reducible rfl)
          try simp only [Act.put, List.getElem_toArray, List.getElem_cons_zero, List.getElem_cons_succ, List.setIfInBounds_toArray, List.set_cons_zero, List.set_cons_succ]
          refine wpAnyH_take (i := 6) (oi := _) (v := ?_) rfl (by kernel_rfl) (by kernel_rfl) (by kernel_rfl) (fun _ _ _ h => h) (Or.inl ⟨by rfl, ?_⟩) (by assumption) ?_
          rotate_left
          · (intro w hSw; (try dsimp only at hSw); go_simp; try with_reducible rfl)
          try simp only [Act.put, List.getElem_toArray, List.getElem_cons_zero, List.getElem_cons_succ, List.setIfInBounds_toArray, List.set_cons_zero, List.set_cons_succ]
          refine wpAnyH_take (i := 7) (oi := _) (v := ?_) rfl (by kernel_rfl) (by kernel_rfl) (by kernel_rfl) (fun _ _ _ h => h) (Or.inl ⟨by rfl, ?_⟩) (by assumption) ?_
          rotate_left
          · (intro w hSw; (try dsimp only at hSw); go_simp; try with_reducible rfl)
          try simp only [Act.put, List.getElem_toArray, List.getElem_cons_zero, List.getElem_cons_succ, List.setIfInBounds_toArray, List.set_cons_zero, List.set_cons_succ]
          refine wpAnyH_take (i := 8) (oi := _) (v := ?_) rfl (by kernel_rfl) (by kernel_rfl) (by kernel_rfl) (fun _ _ _ h => h) (Or.inl ⟨by rfl, ?_⟩) (by assumption) ?_
          rotate_left
          · (intro w hSw; (try dsimp only at hSw); go_simp; try with_reducible rfl)
          try simp only [Act.put, List.getElem_toArray, List.getElem_cons_zero, List.getElem_cons_succ, List.setIfInBounds_toArray, List.set_cons_zero, List.set_cons_succ]
          refine wpAnyH_ready (rs := [0]) (by kernel_rfl) (by simp) ?_
          refine AllReadyH.cons rfl (fun K hK => ?_) (AllReadyH.nil)
          go_simp
          skip
          refine hK.out _ _ (HS0.out.alloc (Nat.le_refl _) _) (fun hHeld => ?_)
          try simp only [Act.put, List.getElem_toArray, List.getElem_cons_zero, List.getElem_cons_succ, List.setIfInBounds_toArray, List.set_cons_zero, List.set_cons_succ]
          refine wpAnyH_ready (rs := [5]) (by kernel_rfl) (by simp) ?_
          refine AllReadyH.cons rfl (fun K hK => ?_) (AllReadyH.nil)
          rw [if_pos (by rfl)]
          refine wp_append_own _ _ _ 23 rfl W3.heap.size 32 i0 (.agg #[.string ⟨#[]⟩, .int .i64 0, .int .i64 0]) 3 32 Try.underlying23 hi hz0 hz1 hz2 rfl (by decide) _ _ _ rfl (World.ownsRow_lit (e := 32) (size := 3) W3.drew #[] 0 (Nat.le_refl _) (by simp [maxLen]) rfl) ⟨g, 0, none⟩ (k + 1) cap (flatN (ns.take (k + 1))) rfl hf1 HC1.out (flatN_one_cell _) (by unfold maxLen; omega) (by omega) (by simp) ?_
          intro v4 w4 ho4 hg4 hn4
          have hown4 : w4.ownsRow W3.heap.size 32 3 v4 (ns.take (k + 1)).length (flatN (ns.take (k + 1))) := by rw [List.length_take, Nat.min_eq_left (by omega)]; simpa using ho4
          have B4 : Below W3.heap.size W3 w4 := (HS0.out.alloc (Nat.le_refl _) _).grown hg4 (by simp) (fun j e => by cases e; exact Nat.le_refl _)
          refine hK.out _ _ B4 (fun hHeld => ?_)
          try simp only [Act.put, List.getElem_toArray, List.getElem_cons_zero, List.getElem_cons_succ, List.setIfInBounds_toArray, List.set_cons_zero, List.set_cons_succ]
          refine wpAnyH_ready (rs := [9]) (by kernel_rfl) (by simp) ?_
          refine AllReadyH.cons rfl (fun K hK => ?_) (AllReadyH.nil)
          rw [if_pos (by rfl)]
          have HC2 := Lib.hid (show ∀ j u, (flatN (ns.drop k))[j]? = some u → w4.cell? ((⟨g, k * 3, none⟩ : Addr).add j) = some u from fun j u h => drop_cells HO3.out B4 j u h)
          refine wp_append_own _ _ _ 23 rfl W3.heap.size 32 i0 (.agg #[.string ⟨#[]⟩, .int .i64 0, .int .i64 0]) 3 32 Try.underlying23 hi hz0 hz1 hz2 rfl (by decide) v4 _ _ rfl hown4 ⟨g, k * 3, none⟩ (ns.length - k) (cap - k) (flatN (ns.drop k)) rfl hf2 HC2.out (flatN_one_cell _) (by rw [List.length_take]; unfold maxLen; omega) (by rw [List.length_take]; omega) B4.size ?_
          intro v5 w5 ho5 hg5 hn5
          obtain ⟨y, hy⟩ : ∃ y, y = ns.take (k + 1) ++ ns.drop k := ⟨_, rfl⟩
          have hown5 : w5.ownsRow W3.heap.size 32 3 v5 y.length (flatN y) := by rw [hy]; exact own_join (by rw [List.length_drop]; exact ho5)
          have hyv : validT y = false := by rw [hy]; exact twice_bad HNK.out
          have hyl : y.length ≤ 2097152 := by rw [hy, List.length_append, List.length_take, List.length_drop]; omega
          have hys : Short 2097152 y := fun z hz => by have : z.p.size ≤ 64 := HSH.out z (by rw [hy] at hz; rcases List.mem_append.1 hz with h | h; exact List.mem_of_mem_take h; exact List.mem_of_mem_drop h); omega
          clear hy
          have B5 : Below W3.heap.size W3 w5 := B4.grown hg5 B4.size (fun j e => (hown4.lt j e).1)
          refine hK.out _ _ B5 (fun hHeld => ?_)
          try simp only [Act.put, List.getElem_toArray, List.getElem_cons_zero, List.getElem_cons_succ, List.setIfInBounds_toArray, List.set_cons_zero, List.set_cons_succ]
          obtain ⟨a5, cap5, rfl, hn5'⟩ := nodes_of_own hown5
          have HTV := Lib.hid (show Calls Try.prog 26 #[.slice a5 y.length cap5] w5 (BoolPost false w5) by rw [← hyv]; exact implTreeValid_c a5 _ cap5 _ hyl hys w5 hn5')
          clear ho4 ho5 hg4 hg5 hn4 hn5 hown4 hown5 hn5' hyv hyl hys
          refine wpAnyH_ready (rs := [10]) (by kernel_rfl) (by simp) ?_
          refine AllReadyH.cons rfl (fun K hK => ?_) (AllReadyH.nil)
          go_simp
          go_at_call 26; (with_reducible refine (HTV.out).mono ?_); rintro e w6 ⟨rfl, hb6⟩
          refine hK.out _ _ (B5.trans (hb6.mono B5.size)) (fun hHeld => ?_)
          try simp only [Act.put, List.getElem_toArray, List.getElem_cons_zero, List.getElem_cons_succ, List.setIfInBounds_toArray, List.set_cons_zero, List.set_cons_succ]
          have B6 := Lib.hid (B5.trans (hb6.mono B5.size))
          refine wpAnyH_take (i := 11) (oi := _) (v := ?_) rfl (by kernel_rfl) (by kernel_rfl) (by kernel_rfl) (fun _ _ _ h => h) (Or.inl ⟨by rfl, ?_⟩) (by assumption) ?_
          rotate_left
          · (intro w hSw; (try dsimp only at hSw); go_simp; try with_reducible rfl)
          try simp only [Act.put, List.getElem_toArray, List.getElem_cons_zero, List.getElem_cons_succ, List.setIfInBounds_toArray, List.set_cons_zero, List.set_cons_succ]
          refine wpAnyH_take (i := 12) (oi := _) (v := ?_) rfl (by kernel_rfl) (by kernel_rfl) (by kernel_rfl) (fun _ _ _ h => h) (Or.inl ⟨by rfl, ?_⟩) (by assumption) ?_
          rotate_left
          · (intro w hSw; (try dsimp only at hSw); go_simp; try with_reducible rfl)
          try simp only [Act.put, List.getElem_toArray, List.getElem_cons_zero, List.getElem_cons_succ, List.setIfInBounds_toArray, List.set_cons_zero, List.set_cons_succ]
          refine wpAnyH_done (by kernel_rfl) ?_ _
          go_wp2
          go_ret
          exact ⟨rfl, below_next HBL.out (below_next HB3.out B6.out)⟩

    · have hl1 : (1048576 : Int) < len1 := by omega
      clear h h1 w0 w1
      go_enter Try.func11, Try.ntmps11
      go_wp2
      go_ret
      exact ⟨rfl, Below.refl _ _⟩
  · have hl : (1048576 : Int) < len0 := by omega
    clear h w0 w1
    go_enter Try.func11, Try.ntmps11
    go_wp2
    go_ret
    exact ⟨rfl, Below.refl _ _⟩


set_option maxRecDepth 100000 in
theorem lifted (os : Os) (started : os.Started) (H : Type) (enc : TypeId × Value → H) :
    ReturnsInHanded {} Try.checked os 11 .any (Rows.fnTreeTwiceSpec.pre6 enc Try.prog Try.f11 Rows.fnTreeTwiceRow.domain false) (Rows.fnTreeTwiceSpec.post enc Try.prog Try.f11 false true false false) := by
  refine returnsInHanded_of_change (C := Try.checked) own started (by kernel_rfl) Try.func11
    (ChangeSpec.witness6 (enc := enc) (C := Try.checked) false ⟨#[], #[.slice none 0 0, .slice none 0 0], []⟩ 8 (by kernel_rfl) (by kernel_rfl) (by kernel_rfl) (by kernel_rfl)) ?_
  intro W base args ds gs before hval0 hW hcnd _
  have hval : ∀ (j : Nat) t v, Try.f11.params[j]? = some t → args[j]? = some v → Value.okWide Try.prog W .any base t v := hval0
  have hW' := hW
  obtain ⟨p, q, hA0, hV, rfl, hfz, hnd⟩ := hW
  have hA : DataW.TrodAll enc Try.prog W 0 (fun _ => true) true Try.f11.params.toList args.toList ds p := hA0
  rw [Try.params11] at hA hval
  obtain ⟨v0, vs0, d0, ds0, p0, q0, hargs, rfl, rfl, h0, r0⟩ := trodAll_cons hA
  obtain ⟨v1, vs1, d1, ds1, p1, q1, rfl, rfl, rfl, h1, r1⟩ := trodAll_cons r0
  obtain ⟨rfl, rfl, rfl⟩ := trodAll_nil r1
  obtain rfl : args = #[v0, v1] := by cases args; simp_all
  obtain ⟨rfl, rfl⟩ := trodVars_none hV
  obtain ⟨a0, len0, cap0, rfl⟩ := okWide_slice Try.underlying22 (hval 0 22 v0 rfl rfl)
  have k0 := h0
  have lt0 : ∀ x ∈ p0, x.block < W.heap.size := by obtain ⟨m, hm⟩ := k0; exact DataW.trod_lt m _ _ _ hm
  obtain ⟨z0, w0⟩ : ∃ zs, IsRow .u8 W a0 len0 cap0 zs := by
    obtain ⟨fuel, hf⟩ := h0
    rcases open_ints Try.underlying22 Try.underlying5 (by kernel_rfl) hf with ⟨hcs, _⟩ | ⟨x, l, c, zs, hcs, _, hl, hm, hz, _, hcell, hwz⟩
    · simp [Value.cells] at hcs
      obtain ⟨rfl, rfl, rfl⟩ := hcs
      exact ⟨[], .inl ⟨rfl, rfl, rfl, rfl⟩⟩
    · simp [Value.cells] at hcs
      obtain ⟨rfl, rfl, rfl⟩ := hcs
      exact ⟨zs, .inr ⟨_, rfl, hl, hm, by simpa using hz, hcell, hwz⟩⟩
  obtain ⟨a1, len1, cap1, rfl⟩ := okWide_slice Try.underlying22 (hval 1 22 v1 rfl rfl)
  have k1 := h1
  have lt1 : ∀ x ∈ p1, x.block < W.heap.size := by obtain ⟨m, hm⟩ := k1; exact DataW.trod_lt m _ _ _ hm
  obtain ⟨z1, w1⟩ : ∃ zs, IsRow .u8 W a1 len1 cap1 zs := by
    obtain ⟨fuel, hf⟩ := h1
    rcases open_ints Try.underlying22 Try.underlying5 (by kernel_rfl) hf with ⟨hcs, _⟩ | ⟨x, l, c, zs, hcs, _, hl, hm, hz, _, hcell, hwz⟩
    · simp [Value.cells] at hcs
      obtain ⟨rfl, rfl, rfl⟩ := hcs
      exact ⟨[], .inl ⟨rfl, rfl, rfl, rfl⟩⟩
    · simp [Value.cells] at hcs
      obtain ⟨rfl, rfl, rfl⟩ := hcs
      exact ⟨zs, .inr ⟨_, rfl, hl, hm, by simpa using hz, hcell, hwz⟩⟩
  clear hA0 hval0
  refine (walk a0 len0 cap0 z0 a1 len1 cap1 z1 W w0 w1).mono fun e W' ⟨he, bel⟩ => ?_
  subst he
  exact ⟨_, rfl, _, _, _, [], _, [], hW', trodAll_mk1 (shut_bool Try.underlying4 _), (trodAll_cons_mk (Below.trod laidOut (by kernel_rfl) (of_decide_eq_true (by kernel_rfl)) k0 bel lt0) (trodAll_cons_mk (Below.trod laidOut (by kernel_rfl) (of_decide_eq_true (by kernel_rfl)) k1 bel lt1) trodAll_mk0)), rfl, bel.frame _, fun h => by cases h⟩

theorem over : Rows.fnTreeTwiceRow.holds Try.pinned (OpenSpec.ofChange Rows.fnTreeTwiceSpec) :=
  OpenClaim.holds_of_wide 11 Try.f11 rfl rfl rfl rfl rfl rfl rfl ⟨rfl, rfl, rfl, rfl, rfl⟩ rfl rfl rfl rfl rfl (by kernel_rfl) Try.func11 (by kernel_rfl)
    (of_decide_eq_true (by kernel_rfl)) (by unfold Func.isWrapper; first | (rw [if_pos (by decide +kernel)]; kernel_rfl) | (rw [if_neg (by decide +kernel)]; exact ⟨rfl, rfl⟩))
    (fun os started H enc _ => lifted os started H enc)

theorem proved : Rows.FnTreeTwiceSaid := over
end Go.Proofs.Ytkoopkaoojhfhaa.fnTreeTwice
