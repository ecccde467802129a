/-
  laws.FnContentParseBad returns true for every input, and leaves its arguments as they were.
  Conditions: none of ours; the package-level variables that its row lists hold what the program's text lays (the given tie).
-/
import Derived.Test.YtmmnihgnejndjaaDoorRows
import Derived.Test.YtmmnihgnejndjaaDoorCards
import Derived.Test.YtmmnihgnejndjaaDoorTie
import Derived.Test.YtmmnihgnejndjaaDoorDq
import Derived.Test.YtmmnihgnejndjaaDoorPl
import Derived.Test.YtmmnihgnejndjaaDoorEv
import Derived.WalkKit
import Derived.ProofKit
import Derived.OpenShut
import Derived.ShutString
import Derived.ChangeOld
import Derived.Below
import Derived.Deep.DeepHandedRow
import Derived.Deep.DeepWitnessRowRef
import Derived.Lib.LaidTab
import Derived.LaidMore
namespace Go.Proofs.YtmmnihgnejndjaaDoor.fnContentParseBad
open Go.ChangeShapes Go.WideShapes Go.ChangeAt Go.RowKit
open Go.ChangeMaps (open_string shut_string)
set_option linter.unusedVariables false

theorem own : ownKnob Tryd.prog.godebug = none := by kernel_rfl
theorem laidOut : laidOutB Tryd.prog = true := by kernel_rfl

theorem facts (s : ByteArray) (k v : Int) (h : parseR s = (k, v, true)) : 1 ≤ s.size ∧ (k = 2 → (parseR (⟨#[102, 48]⟩ ++ s.extract 1 s.size)).2.2 = false) := by
  obtain ⟨-, -, h⟩ := parseR_inv h
  rcases h with ⟨rfl, -, rfl⟩ | ⟨rfl, -, rfl⟩ | ⟨rfl, n, hn, -, rfl⟩
  · exact ⟨by decide, by decide⟩
  · exact ⟨by decide, by decide⟩
  · refine ⟨(fB_facts n).2.1, fun _ => ?_⟩
    rw [fB_tail]; exact parseR_zero hn

set_option maxHeartbeats 2000000 in
theorem walk (a0 : Option Addr) (len0 cap0 : Nat) (z0 : List Int) (w : World) (w0 : IsRow .u8 w a0 len0 cap0 z0) (hE : ErrVars w) :
    Calls Tryd.prog 5 #[.slice a0 len0 cap0] w fun e w' => e = .returned (.bool true) ∧ Below w.heap.size w w' := by
  have HE := Lib.hid hE
  clear hE
  by_cases h : len0 ≤ 1048576
  · have hl : (len0 : Int) ≤ 1048576 := by omega
    have HD := Lib.hid (drawParse_c a0 len0 cap0 z0 w w0)
    clear h w0
    go_enter Tryd.func5, Tryd.ntmps5
    go_wp2_with fail
    refine HD.out.mono ?_
    rintro e W1 ⟨s, rfl, hs, hb1⟩
    obtain ⟨⟨k, v, b⟩, hr⟩ : ∃ r, parseR s = r := ⟨_, rfl⟩
    have hI := fun w hE => implParse_c s (by omega) w hE
    have hS := fun w => specParse_c s w
    unfold ParsePost at hI hS
    rw [hr] at hI hS
    have HI : Hid (∀ w, ErrVars w → Calls Tryd.prog 10 #[.string s] w (PairPost k v b w)) := hI
    have HS : Hid (∀ w, Calls Tryd.prog 13 #[.string s] w (PairPost k v b w)) := hS
    clear hI hS
    cases b with
    | true =>
      obtain ⟨h1, h2⟩ := facts s k v hr
      have hq := parseR_blank s h1
      have hsx : (s.extract 1 s.size).size ≤ 64 := by rw [ByteArray.size_extract]; omega
      obtain ⟨⟨k1, v1, p⟩, hr1⟩ : ∃ r, parseR (⟨#[102, 48]⟩ ++ s.extract 1 s.size) = r := ⟨_, rfl⟩
      obtain ⟨⟨k2, v2, q⟩, hr2⟩ : ∃ r, parseR (s ++ ⟨#[32]⟩) = r := ⟨_, rfl⟩
      have hI1 := fun w hE => implParse_c (⟨#[102, 48]⟩ ++ s.extract 1 s.size) (by rw [ByteArray.size_append]; show 2 + _ ≤ _; omega) w hE
      have hI2 := fun w hE => implParse_c (s ++ ⟨#[32]⟩) (by rw [ByteArray.size_append]; show _ + 1 ≤ _; omega) w hE
      unfold ParsePost at hI1 hI2
      rw [hr1] at hI1 h2
      rw [hr2] at hI2 hq
      have HI1 : Hid (∀ w, ErrVars w → Calls Tryd.prog 10 #[.string (⟨#[102, 48]⟩ ++ s.extract 1 s.size)] w (PairPost k1 v1 p w)) := hI1
      have HI2 : Hid (∀ w, ErrVars w → Calls Tryd.prog 10 #[.string (s ++ ⟨#[32]⟩)] w (PairPost k2 v2 q w)) := hI2
      obtain rfl : q = false := hq
      have H2 : Hid (k = 2 → p = false) := h2
      have h1' : (1 : Int) ≤ s.size := by omega
      clear hr hr1 hr2 hI1 hI2 h1 h2
      go_wp2_with fail
      refine (HI.out _ (HE.out.keep hb1)).mono ?_; rintro e W2 ⟨rfl, hb2⟩
      unfold con
      go_wp2_with fail
      refine (HS.out _).mono ?_; rintro e W3 ⟨rfl, hb3⟩
      have c0 := box_cell hb3 0
      have c1 := box_cell hb3 1
      have hlt : W2.heap.size < W3.heap.size := by have := hb3.size; simp at this; omega
      have HB3 := Lib.hid (below_next hb1 (below_next hb2 (below_next (below_box _ _) hb3)))
      clear hb1 hb2 hb3
      unfold con
      go_wp2_with fail
      refine (HI1.out _ (HE.out.keep (below_next HB3.out (below_box _ _)))).mono ?_; rintro e W4 ⟨rfl, hb4⟩
      have hlt4 : W3.heap.size < W4.heap.size := by have := hb4.size; simp at this; omega
      have hlt5 : W2.heap.size < W4.heap.size := by omega
      have d0 : W4.cell? ⟨W2.heap.size, 0, none⟩ = some (.int .i64 k) := cell_kept hb4 (by rw [World.cell?_alloc_lt _ _ _ (by simpa using hlt)]; exact c0)
      have d1 : W4.cell? ⟨W2.heap.size, 1, none⟩ = some (.int .i64 v) := cell_kept hb4 (by rw [World.cell?_alloc_lt _ _ _ (by simpa using hlt)]; exact c1)
      have HB4 := Lib.hid (below_next HB3.out (below_next (below_box _ _) hb4))
      clear c0 c1 hb4 hlt hlt4
      unfold con
      go_wp2_with fail
      refine (HI2.out _ (HE.out.keep (below_next HB4.out (below_box _ _)))).mono ?_; rintro e W5 ⟨rfl, hb5⟩
      have e0 : W5.cell? ⟨W2.heap.size, 0, none⟩ = some (.int .i64 k) := cell_kept hb5 (by rw [World.cell?_alloc_lt _ _ _ (by simpa using hlt5)]; exact d0)
      have hlt6 : W2.heap.size < W5.heap.size := by have := hb5.size; simp at this; omega
      have HB5 := Lib.hid (below_next HB4.out (below_next (below_box _ _) hb5))
      clear d0 d1 hb5 hlt5 hsx hs
      unfold con
      by_cases hk : k = 2
      · obtain rfl : p = false := H2.out hk
        subst hk
        go_wp2
        go_ret
        exact ⟨rfl, below_next HB5.out (below_box _ _)⟩
      · have hk' : (k == 2) = false := beq_eq_false_iff_ne.2 hk
        go_wp2
        go_ret
        exact ⟨rfl, below_next HB5.out (below_box _ _)⟩
    | false =>
      clear hr hs
      go_wp2_with fail
      refine (HI.out _ (HE.out.keep hb1)).mono ?_; rintro e W2 ⟨rfl, hb2⟩
      unfold con
      go_wp2_with fail
      refine (HS.out _).mono ?_; rintro e W3 ⟨rfl, hb3⟩
      have c0 := box_cell hb3 0
      have c1 := box_cell hb3 1
      have hlt : W2.heap.size < W3.heap.size := by have := hb3.size; simp at this; omega
      have HB3 := Lib.hid (below_next hb1 (below_next hb2 (below_next (below_box _ _) hb3)))
      clear hb1 hb2 hb3
      unfold con
      go_wp2
      go_ret
      exact ⟨rfl, below_next HB3.out (below_box _ _)⟩
  · have hl : (1048576 : Int) < len0 := by omega
    clear h w0
    go_enter Tryd.func5, Tryd.ntmps5
    go_wp2
    go_ret
    exact ⟨rfl, Below.refl _ _⟩

set_option maxRecDepth 100000 in
/-- What the walk gives, for every argument and every world that holds the listed variables. -/
theorem contract (H : Type) (enc : TypeId × Value → H) (W : World) (base : Nat) (args : Array Value) (ds gs : List (DataW H)) (before : List MemPlace)
    (hval0 : ∀ (j : Nat) t v, Tryd.f5.params[j]? = some t → args[j]? = some v → Value.okWide Tryd.prog W .any base t v)
    (hW : DataW.Whole enc Tryd.prog Tryd.f5.params.toList Rows.fnContentParseBadSpec.vars false W args.toList ds gs before) (hL : laidMetH Tryd.prog Rows.fnContentParseBadRow.laid W) :
    Calls Tryd.prog 5 args W fun e W' => ∃ v, e = .returned v ∧ Rows.fnContentParseBadSpec.post enc Tryd.prog Tryd.f5 false true false false W args v W' := by
  have hval : ∀ (j : Nat) t v, Tryd.f5.params[j]? = some t → args[j]? = some v → Value.okWide Tryd.prog W .any base t v := hval0
  have hW' := hW
  obtain ⟨p, q, hA0, hV, rfl, hfz, hnd⟩ := hW
  have hA : DataW.TrodAll enc Tryd.prog W 0 (fun _ => true) true Tryd.f5.params.toList args.toList ds p := hA0
  rw [Tryd.params5] at hA hval
  obtain ⟨v0, vs0, d0, ds0, p0, q0, hargs, rfl, rfl, h0, r0⟩ := trodAll_cons hA
  obtain ⟨rfl, rfl, rfl⟩ := trodAll_nil r0
  obtain rfl : args = #[v0] := by cases args; simp_all
  obtain ⟨rfl, rfl⟩ := trodVars_none hV
  obtain ⟨a0, len0, cap0, rfl⟩ := okWide_slice Tryd.underlying22 (hval 0 22 v0 rfl rfl)
  have k0 := h0
  have lt0 : ∀ x ∈ p0, x.block < W.heap.size := by obtain ⟨m, hm⟩ := k0; exact DataW.trod_lt m _ _ _ hm
  obtain ⟨z0, w0⟩ : ∃ zs, IsRow .u8 W a0 len0 cap0 zs := by
    obtain ⟨fuel, hf⟩ := h0
    rcases open_ints Tryd.underlying22 Tryd.underlying5 (by kernel_rfl) hf with ⟨hcs, _⟩ | ⟨x, l, c, zs, hcs, _, hl, hm, hz, _, hcell, hwz⟩
    · simp [Value.cells] at hcs
      obtain ⟨rfl, rfl, rfl⟩ := hcs
      exact ⟨[], .inl ⟨rfl, rfl, rfl, rfl⟩⟩
    · simp [Value.cells] at hcs
      obtain ⟨rfl, rfl, rfl⟩ := hcs
      exact ⟨zs, .inr ⟨_, rfl, hl, hm, by simpa using hz, hcell, hwz⟩⟩
  clear hA0 hval0
  refine (walk a0 len0 cap0 z0 W w0 (errVars_of hL (by kernel_rfl) (by kernel_rfl) (by kernel_rfl))).mono fun e W' ⟨he, bel⟩ => ?_
  subst he
  exact ⟨_, rfl, _, _, _, [], _, [], hW', trodAll_mk1 (shut_bool Tryd.underlying4 _), (trodAll_cons_mk (Below.trod laidOut (by kernel_rfl) (of_decide_eq_true (by kernel_rfl)) k0 bel lt0) trodAll_mk0), rfl, bel.frame _, fun h => by cases h⟩

theorem laid_met (os : Os) : laidMet Tryd.prog Rows.fnContentParseBadRow.laid ((World.doorLaid Tryd.prog 400 os).forCall (fun _ _ => 0) ⟨#[], #[.slice none 0 0], []⟩).memory :=
  laidMet_of_run' 8 (by kernel_rfl) (by kernel_rfl)
theorem reads (os : Os) {H : Type} (enc : TypeId × Value → H) : ∃ places, DataW.whole enc Tryd.prog ((World.doorLaid Tryd.prog 400 os).forCall (fun _ _ => 0) ⟨#[], #[.slice none 0 0], []⟩).memory Tryd.f5.params.toList Rows.fnContentParseBadSpec.vars false #[Value.slice none 0 0].toList 8 = some ([.nil], [], places) :=
  ⟨[], by kernel_rfl⟩

set_option maxRecDepth 100000 in
theorem lifted (os : Os) (started : os.Started) (H : Type) (enc : TypeId × Value → H) (F : Stop.Interp) :
    ReturnsInHanded {} Tryd.checked os 5 .any ((OpenSpec.ofChange Rows.fnContentParseBadSpec).preRow enc Tryd.prog Tryd.f5 Rows.fnContentParseBadRow.domain false Rows.fnContentParseBadRow.laid) (((OpenSpec.ofChange Rows.fnContentParseBadSpec).at F).post enc Tryd.prog Tryd.f5 false true false false) := by
  obtain ⟨places, hx⟩ := reads os enc
  refine returnsInHanded_of_row (C := Tryd.checked) (s := OpenSpec.ofChange Rows.fnContentParseBadSpec) own started (by kernel_rfl) Tryd.func5
    (witness_row_atRef (enc := enc) (C := Tryd.checked) false (World.doorLaid Tryd.prog 400 os) #[.slice none 0 0] rfl (by kernel_rfl) (by kernel_rfl) (by kernel_rfl)
      (OpenSpec.preRow_of_cond 8 hx (by kernel_rfl) (fun k hk => by cases hk) (by kernel_rfl) (laid_met os))) ?_
  intro W base args ds gs before hval hW _ _ _ hL _ _
  exact contract H enc W base args ds gs before hval hW hL

theorem said : Rows.FnContentParseBadSaid :=
  OpenClaim.holds_of_cond 5 Tryd.f5 rfl rfl rfl rfl rfl rfl rfl ⟨rfl, rfl, rfl, rfl, rfl⟩ rfl rfl rfl rfl rfl (by kernel_rfl) Tryd.func5 (by kernel_rfl)
    (of_decide_eq_true (by kernel_rfl)) (by unfold Func.isWrapper; first | (rw [if_pos (by decide +kernel)]; kernel_rfl) | (rw [if_neg (by decide +kernel)]; exact ⟨rfl, rfl⟩))
    (fun os started H enc _ F => by rw [OpenClaim.pre_eq_preRow]; exact lifted os started H enc F)

/-- No parameter wants a stand-in; the program's own looks: what the card asks. -/
theorem plain (f : FuncId) (fn : Func) (hf : Tryd.pinned.checked.prog.funcNamed Rows.fnContentParseBadRow.func = some f) (hfn : Tryd.pinned.checked.prog.funcs[f]? = some fn) :
    true = Tryd.pinned.checked.prog.looks [] ∧ ∀ (j : Nat) t, fn.params[j]? = some t → Tryd.pinned.checked.prog.wantsStandIn t = false := by
  obtain rfl : f = 5 := Option.some.inj ((show Tryd.prog.funcNamed Rows.fnContentParseBadRow.func = some 5 by kernel_rfl).symm.trans hf) |>.symm
  obtain rfl : fn = Tryd.f5 := (Option.some.inj (Tryd.func5.symm.trans hfn)).symm
  refine ⟨by kernel_rfl, fun j t ht => ?_⟩
  rw [Tryd.params5] at ht
  have hm := Array.mem_of_getElem? ht
  simp at hm
  rcases hm with rfl
  · exact (show Tryd.prog.wantsStandIn 22 = false by kernel_rfl)

/-- THE CARD. -/
theorem card : Rows.FnContentParseBadCardSaid :=
  Claim7.holds_tied_plain_at .later [] _ _ _ _ said (fun _ h => by cases h) (by kernel_rfl) (fun _ h => by cases h) fnContentParseBad_row_tie rfl ⟨rfl, rfl⟩ (by kernel_rfl) rfl plain (by kernel_rfl)
end Go.Proofs.YtmmnihgnejndjaaDoor.fnContentParseBad
