/-
  laws.FnTreePart returns true for every input, and leaves its arguments as they were.
  Conditions: none.
-/
import Derived.Test.YtkoopkaoojhfhaaRows
import Derived.Test.YtkoopkaoojhfhaaIu
import Derived.Test.YtkoopkaoojhfhaaLd
import Derived.Test.YtkoopkaoojhfhaaTv
import Derived.WalkKit
import Derived.ProofKit
import Derived.OpenShut
import Derived.ShutString
import Derived.ChangeOld
import Derived.Below
namespace Go.Proofs.Ytkoopkaoojhfhaa.fnTreePart
open Go.ChangeShapes Go.WideShapes Go.ChangeAt Go.RowKit
open Go.ChangeMaps (open_string shut_string)
set_option linter.unusedVariables false

theorem own : ownKnob Try.prog.godebug = none := by kernel_rfl
theorem laidOut : laidOutB Try.prog = true := by kernel_rfl

theorem nodes_take {W : World} {a : Option Addr} {len : Nat} {ns : List Nd} (h : NodesAt W a len ns) {m : Nat} (hm : m ≤ len) : NodesAt W a m (ns.take m) := by
  obtain ⟨h1, h2⟩ := h
  refine ⟨by rw [List.length_take]; omega, ?_⟩
  rcases h2 with h0 | ⟨b, off, ha, hc⟩
  · exact .inl (by omega)
  · refine .inr ⟨b, off, ha, fun i n hn => hc i n ?_⟩
    rw [List.getElem?_take] at hn
    split at hn
    · exact hn
    · cases hn

/-- A node that loses its content. -/
theorem nodes_blank {W : World} {g m : Nat} {ns : List Nd} {n : Nd} (h : NodesAt W (some ⟨g, 0, none⟩) (m + 1) ns) (hn : ns[m]? = some n) :
    NodesAt ((W.setCell ⟨g, m * 3 + 1, none⟩ (.int .i64 0)).setCell ⟨g, m * 3 + 2, none⟩ (.int .i64 0)) (some ⟨g, 0, none⟩) (m + 1) (ns.take m ++ [⟨n.p, 0, 0⟩]) := by
  obtain ⟨h1, h0 | ⟨b, off, ha, hc⟩⟩ := h
  · omega
  · simp at ha
    obtain ⟨rfl, rfl⟩ := ha
    refine ⟨by simp; omega, .inr ⟨g, 0, rfl, fun i x hx => ?_⟩⟩
    by_cases him : i = m
    · subst him
      rw [List.getElem?_append_right (by rw [List.length_take]; omega)] at hx
      rw [show i - (ns.take i).length = 0 by rw [List.length_take]; omega] at hx
      simp at hx
      subst hx
      obtain ⟨c0, c1, c2⟩ := hc i n hn
      simp only [Nat.zero_add] at c0 c1 c2 ⊢
      refine ⟨?_, ?_, ?_⟩
      · rw [World.cell?_setCell_other _ _ _ _ (by simp), World.cell?_setCell_other _ _ _ _ (by simp)]; exact c0
      · rw [World.cell?_setCell_other _ _ _ _ (by simp)]; exact World.cell?_setCell_same _ _ _ c1
      · exact World.cell?_setCell_same _ _ _ ((World.cell?_setCell_other _ _ _ _ (by simp)).trans c2)
    · have hlt : i < m := by
        have := (List.getElem?_eq_some_iff.1 hx).1
        simp at this; omega
      rw [List.getElem?_append_left (by rw [List.length_take]; omega), List.getElem?_take, if_pos hlt] at hx
      obtain ⟨c0, c1, c2⟩ := hc i x hx
      simp only [Nat.zero_add] at c0 c1 c2 ⊢
      refine ⟨?_, ?_, ?_⟩
      · rw [World.cell?_setCell_other _ _ _ _ (by simp <;> omega), World.cell?_setCell_other _ _ _ _ (by simp <;> omega)]; exact c0
      · rw [World.cell?_setCell_other _ _ _ _ (by simp <;> omega), World.cell?_setCell_other _ _ _ _ (by simp <;> omega)]; exact c1
      · rw [World.cell?_setCell_other _ _ _ _ (by simp <;> omega), World.cell?_setCell_other _ _ _ _ (by simp <;> omega)]; exact c2

theorem own_cap {W : World} {base g n cap size : Nat} {e : TypeId} {xs : List Value} (h : W.ownsRow base e size (.slice (some ⟨g, 0, none⟩) n cap) n xs) : n ≤ cap ∧ cap ≤ maxLen := by
  rcases h.2 with ⟨h0, _⟩ | ⟨g', cap', cur, hv, _, hh, h4, h5, _⟩
  · cases h0
  · simp at hv
    obtain ⟨rfl, rfl⟩ := hv
    exact ⟨h4, h5⟩

theorem own_frozen {W : World} {base g n cap : Nat} {e : TypeId} {xs : List Value} (h : W.ownsRow base e 3 (.slice (some ⟨g, 0, none⟩) n cap) n xs) (i : Nat) : W.frozen? ⟨g, i, none⟩ = false := by
  rcases h.2 with ⟨h0, _⟩ | ⟨g', cap', cur, hv, _, hh, _⟩
  · cases h0
  · simp at hv
    obtain ⟨rfl, _⟩ := hv
    simp [World.frozen?, hh]

set_option maxHeartbeats 2000000 in
set_option maxRecDepth 100000 in
theorem walk (a0 : Option Addr) (len0 cap0 : Nat) (z0 : List Int) (w : World) (w0 : IsRow .u8 w a0 len0 cap0 z0) :
    Calls Try.prog 10 #[.slice a0 len0 cap0] w fun e w' => e = .returned (.bool true) ∧ Below w.heap.size w w' := by
  by_cases h : len0 ≤ 1048576
  · have hl : (len0 : Int) ≤ 1048576 := by omega
    have HD := Lib.hid (drawTreeValid_c a0 len0 cap0 z0 w w0)
    clear h w0
    go_enter Try.func10, Try.ntmps10
    go_wp2_with fail
    refine HD.out.mono ?_
    rintro e W1 ⟨sl, ns, rfl, hd⟩
    obtain ⟨i0, hi, hz0, hz1, hz2⟩ := info_parts infoNode
    obtain ⟨a, cap, rfl, hn⟩ := nodes_of_own hd.1
    have HN := Lib.hid hn
    have hlen := hd.2.1
    have HL := Lib.hid hlen
    have hsh := hd.2.2.1
    have HSH := Lib.hid hsh
    have HBL := Lib.hid hd.2.2.2
    have HOW := Lib.hid hd.1
    obtain ⟨vt, hvt⟩ : ∃ vt, validT ns = vt := ⟨_, rfl⟩
    have HV := Lib.hid (fun W' (hb : Below W1.heap.size W1 W') => show Calls Try.prog 26 #[.slice a ns.length cap] W' (BoolPost vt W') by
      rw [← hvt]; exact implTreeValid_c a ns.length cap ns (by omega) (hsh.mono (by omega)) W' (hn.keep hb))
    have HV2 := Lib.hid (fun W' (hb : Below W1.heap.size W1 W') => show Calls Try.prog 19 #[.slice a ns.length cap] W' (BoolPost vt W') by
      rw [← hvt]; exact specTreeValid_c a ns.length cap ns (by omega) (hsh.mono (by omega)) W' (hn.keep hb))
    have HVT := Lib.hid hvt
    clear hn hvt hd hsh
    go_wp2_with fail
    refine (HV.out _ (Below.refl _ _)).mono ?_
    rintro e W2 ⟨rfl, hb2⟩
    have HB2 := Lib.hid hb2
    clear hb2
    go_wp2_with fail
    refine (HV2.out _ HB2.out).mono ?_
    rintro e W3 ⟨rfl, hb3⟩
    have HB3 := Lib.hid (below_next HB2.out hb3)
    clear hb3
    cases vt with
    | false =>
      go_wp2
      go_ret
      exact ⟨rfl, below_next HBL.out HB3.out⟩
    | true =>
      by_cases h0 : ns.length = 0
      · have hz : ((ns.length : Int) == 0) = true := by rw [h0]; rfl
        clear h0 hlen
        go_wp2
        go_ret
        exact ⟨rfl, below_next HBL.out HB3.out⟩
      · have hz : ((ns.length : Int) == 0) = false := beq_eq_false_iff_ne.2 (by omega)
        obtain ⟨m, hm⟩ : ∃ m, ns.length = m + 1 := ⟨ns.length - 1, by omega⟩
        obtain ⟨n, hnm⟩ : ∃ n, ns[m]? = some n := ⟨_, List.getElem?_eq_getElem (by omega)⟩
        rcases own_cases HOW.out with ⟨_, q0⟩ | ⟨g, cap', hsl⟩
        · exact absurd q0 h0
        simp at hsl
        obtain ⟨rfl, rfl⟩ := hsl
        have HM := Lib.hid hm
        have HNM := Lib.hid hnm
        have hm11 : (m : Int) ≤ 10 := by omega
        have HO3 := Lib.hid (own_below HOW.out HB3.out)
        have HN3 := Lib.hid (HN.out.keep HB3.out)
        have hfl := flatN_length ns
        rw [hm] at hfl
        have hcel := own_cells HO3.out
        have hone := flatN_one_cell ns
        clear h0 hlen hnm
        rw [hm]
        have HZ := Lib.hid hz
        have hz' : (((m + 1 : Nat) : Int) == 0) = false := beq_eq_false_iff_ne.2 (by omega)
        have hz'' : ((m : Int) + 1 == 0) = false := beq_eq_false_iff_ne.2 (by omega)
        clear hz
        go_upto_region 9 with (at_builtin; refine wpList_append_own _ rfl _ _ 23 rfl W3.heap.size 32 i0 (.agg #[.string ⟨#[]⟩, .int .i64 0, .int .i64 0]) 3 32 Try.underlying23 hi hz0 hz1 hz2 rfl (by decide) _ _ _ rfl (World.ownsRow_lit (e := 32) (size := 3) W3 #[] 0 (Nat.le_refl _) (by simp [maxLen]) rfl) ⟨g, 0, none⟩ (m + 1) cap (flatN ns) rfl hfl (fun j u h => cell_kept (below_box _ _) (hcel j u h)) hone (by unfold maxLen; omega) (by omega) (by simp) ?_; intro v4 w4 ho4 hg4 hn4)
        have hown4 : w4.ownsRow W3.heap.size 32 3 v4 ns.length (flatN ns) := by rw [hm]; simpa using ho4
        rcases own_cases hown4 with ⟨_, q0⟩ | ⟨g4, cap4, rfl⟩
        · omega
        have hg34 : W3.heap.size ≤ g4 := by have := (hown4.lt g4 rfl).1; exact this
        have HB4 := Lib.hid (show Below W3.heap.size W3 w4 from (below_box _ _ : Below W3.heap.size W3 _).grown hg4 (by simp) (fun k e => by cases e; exact Nat.le_refl _))
        obtain ⟨a4, cap4', hs4, hn4'⟩ := nodes_of_own hown4
        simp at hs4
        obtain ⟨rfl, rfl⟩ := hs4
        rw [hm] at hn4'
        obtain ⟨c0, c1, c2⟩ := NodesAt.at hn4' HNM.out
        simp only [Nat.zero_add] at c0 c1 c2
        have f1 := own_frozen hown4 (m * 3 + 1)
        have f2 := own_frozen hown4 (m * 3 + 2)
        have HX := Lib.hid (nodes_blank hn4' HNM.out)
        have HN4 := Lib.hid (HN3.out.keep HB4.out)
        have hgg : g < W3.heap.size := by
          have := (HO3.out.lt g rfl).2; exact this
        rw [hm]
        clear ho4 hg4 hn4 hown4 hn4' hcel hone hfl c0
        go_upto_region 10 with (fail)
        obtain ⟨W5, hW5⟩ : ∃ W5, W5 = (w4.setCell ⟨g4, m * 3 + 1, none⟩ (.int .i64 0)).setCell ⟨g4, m * 3 + 2, none⟩ (.int .i64 0) := ⟨_, rfl⟩
        rw [← hW5]
        have HX5 := Lib.hid (show NodesAt W5 (some ⟨g4, 0, none⟩) (m + 1) (ns.take m ++ [⟨n.p, 0, 0⟩]) by rw [hW5]; exact HX.out)
        have HB5 := Lib.hid (show Below W3.heap.size W3 W5 by rw [hW5]; exact (HB4.out.setCell (p := ⟨g4, m * 3 + 1, none⟩) hg34 _).setCell (p := ⟨g4, m * 3 + 2, none⟩) hg34 _)
        clear hW5 c1 c2 f1 f2
        have hvd : validT (ns.take m) = true := by
          have := valid_dropLast HVT.out
          rwa [List.dropLast_eq_take, HM.out] at this
        have hvx : validT (ns.take m ++ [⟨n.p, 0, 0⟩]) = false := invalid_none (n := ⟨n.p, 0, 0⟩) (by simp) rfl
        have hst : Short 2097152 (ns.take m) := fun y hy => by have := HSH.out y (List.mem_of_mem_take hy); omega
        have hsx : Short 2097152 (ns.take m ++ [⟨n.p, 0, 0⟩]) := fun y hy => by
          rcases List.mem_append.1 hy with hy | hy
          · exact hst y hy
          · rw [List.mem_singleton.1 hy]; have := HSH.out n (List.mem_of_getElem? HNM.out); show n.p.size ≤ _; omega
        have HC1 := Lib.hid (fun W' (hb : Below W3.heap.size W3 W') => show Calls Try.prog 26 #[.slice (some ⟨g, 0, none⟩) m cap] W' (BoolPost true W') by
          rw [← hvd]; exact implTreeValid_c _ m cap (ns.take m) (by omega) hst W' (nodes_take (HN3.out.keep hb) (by omega)))
        have HC2 := Lib.hid (fun W' (hb : Below W5.heap.size W5 W') => show Calls Try.prog 26 #[.slice (some ⟨g4, 0, none⟩) (m + 1) cap4] W' (BoolPost false W') by
          rw [← hvx]; exact implTreeValid_c _ (m + 1) cap4 _ (by omega) hsx W' (HX5.out.keep hb))
        clear hvd hvx hst hsx
        have hcap := own_cap HOW.out
        rw [HM.out] at hcap
        unfold maxLen at hcap
        have k1 : (m : Int) ≤ cap := by omega
        have k2 : (0 : Int) ≤ cap := by omega
        have k3 : ¬ cap = 0 := by omega
        have k4 : cap ≤ 9223372036854775807 := by omega
        clear hcap
        go_wp2_with fail
        refine (HC1.out _ HB5.out).mono ?_
        rintro e W6 ⟨rfl, hb6⟩
        have H6 := Lib.hid hb6
        clear hb6
        go_wp2_with fail
        refine (HC2.out _ H6.out).mono ?_
        rintro e W7 ⟨rfl, hb7⟩
        have H7 := Lib.hid (below_next HBL.out (below_next HB3.out (below_next HB5.out (below_next H6.out hb7))))
        clear hb7
        go_wp2
        go_ret
        exact ⟨rfl, H7.out⟩
  · have hl : (1048576 : Int) < len0 := by omega
    clear h w0
    go_enter Try.func10, Try.ntmps10
    go_wp2
    go_ret
    exact ⟨rfl, Below.refl _ _⟩


set_option maxRecDepth 100000 in
theorem lifted (os : Os) (started : os.Started) (H : Type) (enc : TypeId × Value → H) :
    ReturnsInHanded {} Try.checked os 10 .any (Rows.fnTreePartSpec.pre6 enc Try.prog Try.f10 Rows.fnTreePartRow.domain false) (Rows.fnTreePartSpec.post enc Try.prog Try.f10 false true false false) := by
  refine returnsInHanded_of_change (C := Try.checked) own started (by kernel_rfl) Try.func10
    (ChangeSpec.witness6 (enc := enc) (C := Try.checked) false ⟨#[], #[.slice none 0 0], []⟩ 8 (by kernel_rfl) (by kernel_rfl) (by kernel_rfl) (by kernel_rfl)) ?_
  intro W base args ds gs before hval0 hW hcnd _
  have hval : ∀ (j : Nat) t v, Try.f10.params[j]? = some t → args[j]? = some v → Value.okWide Try.prog W .any base t v := hval0
  have hW' := hW
  obtain ⟨p, q, hA0, hV, rfl, hfz, hnd⟩ := hW
  have hA : DataW.TrodAll enc Try.prog W 0 (fun _ => true) true Try.f10.params.toList args.toList ds p := hA0
  rw [Try.params10] at hA hval
  obtain ⟨v0, vs0, d0, ds0, p0, q0, hargs, rfl, rfl, h0, r0⟩ := trodAll_cons hA
  obtain ⟨rfl, rfl, rfl⟩ := trodAll_nil r0
  obtain rfl : args = #[v0] := by cases args; simp_all
  obtain ⟨rfl, rfl⟩ := trodVars_none hV
  obtain ⟨a0, len0, cap0, rfl⟩ := okWide_slice Try.underlying22 (hval 0 22 v0 rfl rfl)
  have k0 := h0
  have lt0 : ∀ x ∈ p0, x.block < W.heap.size := by obtain ⟨m, hm⟩ := k0; exact DataW.trod_lt m _ _ _ hm
  obtain ⟨z0, w0⟩ : ∃ zs, IsRow .u8 W a0 len0 cap0 zs := by
    obtain ⟨fuel, hf⟩ := h0
    rcases open_ints Try.underlying22 Try.underlying5 (by kernel_rfl) hf with ⟨hcs, _⟩ | ⟨x, l, c, zs, hcs, _, hl, hm, hz, _, hcell, hwz⟩
    · simp [Value.cells] at hcs
      obtain ⟨rfl, rfl, rfl⟩ := hcs
      exact ⟨[], .inl ⟨rfl, rfl, rfl, rfl⟩⟩
    · simp [Value.cells] at hcs
      obtain ⟨rfl, rfl, rfl⟩ := hcs
      exact ⟨zs, .inr ⟨_, rfl, hl, hm, by simpa using hz, hcell, hwz⟩⟩
  clear hA0 hval0
  refine (walk a0 len0 cap0 z0 W w0).mono fun e W' ⟨he, bel⟩ => ?_
  subst he
  exact ⟨_, rfl, _, _, _, [], _, [], hW', trodAll_mk1 (shut_bool Try.underlying4 _), (trodAll_cons_mk (Below.trod laidOut (by kernel_rfl) (of_decide_eq_true (by kernel_rfl)) k0 bel lt0) trodAll_mk0), rfl, bel.frame _, fun h => by cases h⟩

theorem over : Rows.fnTreePartRow.holds Try.pinned (OpenSpec.ofChange Rows.fnTreePartSpec) :=
  OpenClaim.holds_of_wide 10 Try.f10 rfl rfl rfl rfl rfl rfl rfl ⟨rfl, rfl, rfl, rfl, rfl⟩ rfl rfl rfl rfl rfl (by kernel_rfl) Try.func10 (by kernel_rfl)
    (of_decide_eq_true (by kernel_rfl)) (by unfold Func.isWrapper; first | (rw [if_pos (by decide +kernel)]; kernel_rfl) | (rw [if_neg (by decide +kernel)]; exact ⟨rfl, rfl⟩))
    (fun os started H enc _ => lifted os started H enc)

theorem proved : Rows.FnTreePartSaid := over
end Go.Proofs.Ytkoopkaoojhfhaa.fnTreePart
