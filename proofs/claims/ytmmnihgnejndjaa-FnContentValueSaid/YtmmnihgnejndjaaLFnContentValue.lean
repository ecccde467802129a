/-
  laws.FnContentValue returns true for every input, and leaves its arguments as they were.
  Conditions: none.
-/
import Derived.Test.YtmmnihgnejndjaaRows
import Derived.Test.YtmmnihgnejndjaaDv
import Derived.WalkKit
import Derived.Deep.RegionHeld3
import Derived.ProofKit
import Derived.OpenShut
import Derived.ShutString
import Derived.ChangeOld
import Derived.Below
namespace Go.Proofs.Ytmmnihgnejndjaa.fnContentValue
open Go.ChangeShapes Go.WideShapes Go.ChangeAt Go.RowKit
open Go.ChangeMaps (open_string shut_string)
set_option linter.unusedVariables false

theorem own : ownKnob Try.prog.godebug = none := by kernel_rfl
theorem laidOut : laidOutB Try.prog = true := by kernel_rfl

theorem cell_kept {W W' : World} {a : Addr} {v : Value} (hb : Below W.heap.size W W') (h : W.cell? a = some v) : W'.cell? a = some v := (hb.cell (World.block_lt_of_cell? W _ h)).trans h

theorem keep5 {w W W' : World} {a b c d e : Addr} {va vb vc vd ve : Value}
    (h : W.cell? a = some va ∧ W.cell? b = some vb ∧ W.cell? c = some vc ∧ W.cell? d = some vd ∧ W.cell? e = some ve ∧ Below w.heap.size w W) (hb : Below W.heap.size W W') :
    W'.cell? a = some va ∧ W'.cell? b = some vb ∧ W'.cell? c = some vc ∧ W'.cell? d = some vd ∧ W'.cell? e = some ve ∧ Below w.heap.size w W' := by
  obtain ⟨h1, h2, h3, h4, h5, h6⟩ := h
  exact ⟨cell_kept hb h1, cell_kept hb h2, cell_kept hb h3, cell_kept hb h4, cell_kept hb h5, below_next h6 hb⟩

theorem region_facts (W1 W3 W4 : World) (k v m : Int) (hlt : W1.heap.size < W3.heap.size) (c0 : W3.cell? ⟨W1.heap.size, 0, none⟩ = some (.int .i64 k))
    (h : W4 = (W3.alloc (.cells #[.int .i64 k, .int .i64 m] 24)).alloc (.cells #[.int .i64 2, .int .i64 v] 24)) :
    W4.cell? ⟨W1.heap.size, 0, none⟩ = some (.int .i64 k) ∧ W4.cell? ⟨W3.heap.size, 0, none⟩ = some (.int .i64 k) ∧ W4.cell? ⟨W3.heap.size, 1, none⟩ = some (.int .i64 m) ∧
      W4.cell? ⟨W3.heap.size + 1, 0, none⟩ = some (.int .i64 2) ∧ W4.cell? ⟨W3.heap.size + 1, 1, none⟩ = some (.int .i64 v) := by
  subst h
  have hs : (W3.alloc (.cells #[.int .i64 k, .int .i64 m] 24)).heap.size = W3.heap.size + 1 := by simp
  refine ⟨?_, ?_, ?_, ?_, ?_⟩
  · rw [World.cell?_alloc_lt _ _ _ (by simp; omega), World.cell?_alloc_lt _ _ _ (by simpa using hlt)]; exact c0
  · rw [World.cell?_alloc_lt _ _ _ (by simp), World.cell?_alloc_new]; rfl
  · rw [World.cell?_alloc_lt _ _ _ (by simp), World.cell?_alloc_new]; rfl
  · rw [← hs, World.cell?_alloc_new]; rfl
  · rw [← hs, World.cell?_alloc_new]; rfl

theorem valid_file {k v m : Int} (h : validB k v = true) (h1 : 1 ≤ m) (h2 : m ≤ 99) : validB k m = (k == 2) := by
  unfold validB at h ⊢
  rw [Bool.eq_iff_iff]
  simp at h ⊢
  omega

theorem valid_two {k v : Int} (h : validB k v = true) : validB 2 v = true := by
  unfold validB at h ⊢
  simp at h ⊢
  omega

set_option maxHeartbeats 1000000 in
theorem walk (a0 : Option Addr) (len0 cap0 : Nat) (z0 : List Int) (a1 : Option Addr) (len1 cap1 : Nat) (z1 : List Int) (w : World) (w0 : IsRow .u8 w a0 len0 cap0 z0) (w1 : IsRow .u8 w a1 len1 cap1 z1) :
    Calls Try.prog 4 #[.slice a0 len0 cap0, .slice a1 len1 cap1] w fun e w' => e = .returned (.bool true) ∧ Below w.heap.size w w' := by
  clear w1
  by_cases h : len0 ≤ 1048576
  · by_cases h1 : len1 ≤ 1048576
    · have hl : (len0 : Int) ≤ 1048576 := by omega
      have hl1 : (len1 : Int) ≤ 1048576 := by omega
      have HD := Lib.hid (drawValid_c a0 len0 cap0 z0 w w0)
      clear h h1 w0
      go_enter Try.func4, Try.ntmps4
      go_wp2_with fail
      refine HD.out.mono ?_
      rintro e W1 ⟨k, v, rfl, -, -, -, -, hb1⟩
      have HI := Lib.hid (fun w => implValid_c k v w)
      have HS := Lib.hid (fun w => specValid_c k v w)
      by_cases hv : validB k v = true
      · have HK := Lib.hid hv
        rw [hv] at HI HS
        clear hv
        unfold con at HI HS
        go_wp2_with fail
        refine (HI.out _).mono ?_; rintro e W2 ⟨rfl, hb2⟩
        have c0 := box_cell hb2 0
        have c1 := box_cell hb2 1
        go_wp2_with fail
        refine (HS.out _).mono ?_; rintro e W3 ⟨rfl, hb3⟩
        have hb := below_next hb2 hb3
        have c0 := box_cell hb 0
        have c1 := box_cell hb 1
        have HB := Lib.hid (below_next hb1 (below_next (below_box _ _) hb))
        have hlt : W1.heap.size < W3.heap.size := by have := hb.size; simp at this; omega
        clear hb hb1 hb2 hb3
        go_wp2_with fail
        obtain ⟨m, hm⟩ : ∃ m, 1 + (len1 : Int) % 99 = m := ⟨_, rfl⟩
        rw [hm]
        obtain ⟨W4, hW4⟩ : ∃ W4, W4 = (W3.alloc (.cells #[.int .i64 k, .int .i64 m] 24)).alloc (.cells #[.int .i64 2, .int .i64 v] 24) := ⟨_, rfl⟩
        have HF := Lib.hid (region_facts W1 W3 W4 k v m hlt c0 hW4)
        have HB4 := Lib.hid (HB.out.trans (show Below w.heap.size W3 W4 by rw [hW4]; exact ((Below.refl _ _).alloc HB.out.size _).alloc (by simp; have := HB.out.size; omega) _))
        rw [← hW4]
        obtain ⟨q, hq, hq2⟩ : ∃ q : Bool, (k == 2) = q ∧ validB k m = q := ⟨_, rfl, valid_file HK.out (by omega) (by omega)⟩
        have HX : Hid (∀ w, Calls Try.prog 10 #[.agg #[.int .i64 k, .int .i64 m]] w (BoolPost q w)) := by
          intro w; rw [← hq2]; exact implValid_c k m w
        have HY : Hid (∀ w, Calls Try.prog 10 #[.agg #[.int .i64 2, .int .i64 v]] w (BoolPost true w)) := by
          intro w; rw [← valid_two HK.out]; exact implValid_c 2 v w
        clear c0 c1 hlt hm hW4 hq2 HI HS HB
        have HS0 : Hid (W4.drew.cell? ⟨W1.heap.size, 0, none⟩ = some (.int .i64 k) ∧ W4.drew.cell? ⟨W3.heap.size, 0, none⟩ = some (.int .i64 k) ∧ W4.drew.cell? ⟨W3.heap.size, 1, none⟩ = some (.int .i64 m) ∧
            W4.drew.cell? ⟨W3.heap.size + 1, 0, none⟩ = some (.int .i64 2) ∧ W4.drew.cell? ⟨W3.heap.size + 1, 1, none⟩ = some (.int .i64 v) ∧ Below w.heap.size w W4.drew) := by
          obtain ⟨f0, f1, f2, f3, f4⟩ := HF.out
          exact ⟨f0, f1, f2, f3, f4, HB4.out.drew⟩
        go_region_held3 (fun w' => w'.cell? ⟨W1.heap.size, 0, none⟩ = some (.int .i64 k) ∧ w'.cell? ⟨W3.heap.size, 0, none⟩ = some (.int .i64 k) ∧ w'.cell? ⟨W3.heap.size, 1, none⟩ = some (.int .i64 m) ∧
            w'.cell? ⟨W3.heap.size + 1, 0, none⟩ = some (.int .i64 2) ∧ w'.cell? ⟨W3.heap.size + 1, 1, none⟩ = some (.int .i64 v) ∧ Below w.heap.size w w')
          (first | exact HS0.out | exact keep5 HS0.out hb5 | exact keep5 (by assumption) hb6)
          (first | (go_at_call 10; (with_reducible refine (HX.out _).mono ?_); rintro e W5 ⟨rfl, hb5⟩) | (go_at_call 10; (with_reducible refine (HY.out _).mono ?_); rintro e W6 ⟨rfl, hb6⟩))
        rename_i hS
        go_wp2
        go_ret
        exact ⟨rfl, hS.2.2.2.2.2⟩
      · have hv' : validB k v = false := by simpa using hv
        rw [hv'] at HI HS
        clear hv hv'
        unfold con at HI HS
        go_wp2_with fail
        refine (HI.out _).mono ?_; rintro e W2 ⟨rfl, hb2⟩
        have c0 := box_cell hb2 0
        have c1 := box_cell hb2 1
        go_wp2_with fail
        refine (HS.out _).mono ?_; rintro e W3 ⟨rfl, hb3⟩
        have HB := Lib.hid (below_next hb1 (below_next (below_box _ _) (below_next hb2 hb3)))
        clear c0 c1 hb1 hb2 hb3
        go_wp2
        go_ret
        exact ⟨rfl, HB.out⟩
    · have hl : (len0 : Int) ≤ 1048576 := by omega
      have hl1 : (1048576 : Int) < len1 := by omega
      clear h h1 w0
      go_enter Try.func4, Try.ntmps4
      go_wp2
      go_ret
      exact ⟨rfl, Below.refl _ _⟩
  · have hl : (1048576 : Int) < len0 := by omega
    clear h w0
    by_cases h1 : len1 ≤ 1048576
    · have hl1 : (len1 : Int) ≤ 1048576 := by omega
      clear h1
      go_enter Try.func4, Try.ntmps4
      go_wp2
      go_ret
      exact ⟨rfl, Below.refl _ _⟩
    · have hl1 : (1048576 : Int) < len1 := by omega
      clear h1
      go_enter Try.func4, Try.ntmps4
      go_wp2
      go_ret
      exact ⟨rfl, Below.refl _ _⟩

set_option maxRecDepth 100000 in
theorem lifted (os : Os) (started : os.Started) (H : Type) (enc : TypeId × Value → H) :
    ReturnsInHanded {} Try.checked os 4 .any (Rows.fnContentValueSpec.pre6 enc Try.prog Try.f4 Rows.fnContentValueRow.domain false) (Rows.fnContentValueSpec.post enc Try.prog Try.f4 false true false false) := by
  refine returnsInHanded_of_change (C := Try.checked) own started (by kernel_rfl) Try.func4
    (ChangeSpec.witness6 (enc := enc) (C := Try.checked) false ⟨#[], #[.slice none 0 0, .slice none 0 0], []⟩ 8 (by kernel_rfl) (by kernel_rfl) (by kernel_rfl) (by kernel_rfl)) ?_
  intro W base args ds gs before hval0 hW hcnd _
  have hval : ∀ (j : Nat) t v, Try.f4.params[j]? = some t → args[j]? = some v → Value.okWide Try.prog W .any base t v := hval0
  have hW' := hW
  obtain ⟨p, q, hA0, hV, rfl, hfz, hnd⟩ := hW
  have hA : DataW.TrodAll enc Try.prog W 0 (fun _ => true) true Try.f4.params.toList args.toList ds p := hA0
  rw [Try.params4] at hA hval
  obtain ⟨v0, vs0, d0, ds0, p0, q0, hargs, rfl, rfl, h0, r0⟩ := trodAll_cons hA
  obtain ⟨v1, vs1, d1, ds1, p1, q1, rfl, rfl, rfl, h1, r1⟩ := trodAll_cons r0
  obtain ⟨rfl, rfl, rfl⟩ := trodAll_nil r1
  obtain rfl : args = #[v0, v1] := by cases args; simp_all
  obtain ⟨rfl, rfl⟩ := trodVars_none hV
  obtain ⟨a0, len0, cap0, rfl⟩ := okWide_slice Try.underlying22 (hval 0 22 v0 rfl rfl)
  have k0 := h0
  have lt0 : ∀ x ∈ p0, x.block < W.heap.size := by obtain ⟨m, hm⟩ := k0; exact DataW.trod_lt m _ _ _ hm
  obtain ⟨z0, w0⟩ : ∃ zs, IsRow .u8 W a0 len0 cap0 zs := by
    obtain ⟨fuel, hf⟩ := h0
    rcases open_ints Try.underlying22 Try.underlying5 (by kernel_rfl) hf with ⟨hcs, _⟩ | ⟨x, l, c, zs, hcs, _, hl, hm, hz, _, hcell, hwz⟩
    · simp [Value.cells] at hcs
      obtain ⟨rfl, rfl, rfl⟩ := hcs
      exact ⟨[], .inl ⟨rfl, rfl, rfl, rfl⟩⟩
    · simp [Value.cells] at hcs
      obtain ⟨rfl, rfl, rfl⟩ := hcs
      exact ⟨zs, .inr ⟨_, rfl, hl, hm, by simpa using hz, hcell, hwz⟩⟩
  obtain ⟨a1, len1, cap1, rfl⟩ := okWide_slice Try.underlying22 (hval 1 22 v1 rfl rfl)
  have k1 := h1
  have lt1 : ∀ x ∈ p1, x.block < W.heap.size := by obtain ⟨m, hm⟩ := k1; exact DataW.trod_lt m _ _ _ hm
  obtain ⟨z1, w1⟩ : ∃ zs, IsRow .u8 W a1 len1 cap1 zs := by
    obtain ⟨fuel, hf⟩ := h1
    rcases open_ints Try.underlying22 Try.underlying5 (by kernel_rfl) hf with ⟨hcs, _⟩ | ⟨x, l, c, zs, hcs, _, hl, hm, hz, _, hcell, hwz⟩
    · simp [Value.cells] at hcs
      obtain ⟨rfl, rfl, rfl⟩ := hcs
      exact ⟨[], .inl ⟨rfl, rfl, rfl, rfl⟩⟩
    · simp [Value.cells] at hcs
      obtain ⟨rfl, rfl, rfl⟩ := hcs
      exact ⟨zs, .inr ⟨_, rfl, hl, hm, by simpa using hz, hcell, hwz⟩⟩
  clear hA0 hval0
  refine (walk a0 len0 cap0 z0 a1 len1 cap1 z1 W w0 w1).mono fun e W' ⟨he, bel⟩ => ?_
  subst he
  exact ⟨_, rfl, _, _, _, [], _, [], hW', trodAll_mk1 (shut_bool Try.underlying4 _), (trodAll_cons_mk (Below.trod laidOut (by kernel_rfl) (of_decide_eq_true (by kernel_rfl)) k0 bel lt0) (trodAll_cons_mk (Below.trod laidOut (by kernel_rfl) (of_decide_eq_true (by kernel_rfl)) k1 bel lt1) trodAll_mk0)), rfl, bel.frame _, fun h => by cases h⟩

theorem over : Rows.fnContentValueRow.holds Try.pinned (OpenSpec.ofChange Rows.fnContentValueSpec) :=
  OpenClaim.holds_of_wide 4 Try.f4 rfl rfl rfl rfl rfl rfl rfl ⟨rfl, rfl, rfl, rfl, rfl⟩ rfl rfl rfl rfl rfl (by kernel_rfl) Try.func4 (by kernel_rfl)
    (of_decide_eq_true (by kernel_rfl)) (by unfold Func.isWrapper; first | (rw [if_pos (by decide +kernel)]; kernel_rfl) | (rw [if_neg (by decide +kernel)]; exact ⟨rfl, rfl⟩))
    (fun os started H enc _ => lifted os started H enc)

theorem proved : Rows.FnContentValueSaid := over
end Go.Proofs.Ytmmnihgnejndjaa.fnContentValue
