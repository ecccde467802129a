/-
  WALKS: spec.TreeValid.
-/
import Derived.Deep.RegionHeld3
import Derived.Laws.Cover1
import Derived.Conc.WalkWords
import Derived.Test.YtoipbocbgadjbaaTa
import Derived.Test.YtoipbocbgadjbaaSn
import Derived.Test.YtoipbocbgadjbaaPv
namespace Go.Proofs.Ytoipbocbgadjbaa
open Go.RowKit Go.Conc
set_option linter.unusedVariables false

/-- An operation that yields a value comes up next. -/
theorem tkTv {P : Program} {ops : Array Oper} {Q : Exit → Act → World → Prop} {md : Region.Mode} {S : World → Prop} {oi : Oper} {v : Value} {fuel : Nat} {listed : Array Bool} {a : Act} {w : World} (i : Nat) (hy : ∀ w, S w → (execOp a.eval oi).run P w = .ok (.value v) w) (hS : S w)
    (h : wpAnyH P md ops Q S fuel (listed.setIfInBounds i true) (a.put oi.dst v) w) (hi : ops[i]? = some oi := by exact rfl) (hs : Region.noSelect ops = true := by kernel_rfl) (hf : Region.free md ops listed i = true := by kernel_rfl) (hr : (Region.ready md ops listed).contains i = true := by kernel_rfl)
    (hQ : ∀ c a w, Q (.panic c) (a.put oi.dst v) w → Q (.panic c) a w := by exact fun _ _ _ h => h) (hw : Region.wanted oi (yielded ops a.tmps) = true := by rfl) : wpAnyH P md ops Q S (fuel + 1) listed a w :=
  wpAnyH_take hi hs hf hr hQ (Or.inl ⟨hw, hy⟩) hS h

/-- An operation that is passed over comes up next. -/
theorem tuTv {P : Program} {ops : Array Oper} {Q : Exit → Act → World → Prop} {md : Region.Mode} {S : World → Prop} {oi : Oper} {fuel : Nat} {listed : Array Bool} {a : Act} {w : World} (i : Nat) (hS : S w) (h : wpAnyH P md ops Q S fuel (listed.setIfInBounds i true) (a.put oi.dst undef) w) (hi : ops[i]? = some oi := by exact rfl) (hs : Region.noSelect ops = true := by kernel_rfl) (hf : Region.free md ops listed i = true := by kernel_rfl) (hr : (Region.ready md ops listed).contains i = true := by kernel_rfl)
    (hQ : ∀ c a' w, Q (.panic c) (a'.put oi.dst undef) w → Q (.panic c) a' w := by exact fun _ _ _ h => h) (hw : Region.wanted oi (yielded ops a.tmps) = false := by rfl) : wpAnyH P md ops Q S (fuel + 1) listed a w :=
  wpAnyH_take hi hs hf hr hQ (Or.inr ⟨hw, rfl⟩) hS h
/-- .. being the only one that may. -/
theorem trTv {P : Program} {ops : Array Oper} {Q : Exit → Act → World → Prop} {md : Region.Mode} {S : World → Prop} {oi : Oper} {fuel : Nat} {listed : Array Bool} {a : Act} {w : World} (i : Nat) (hS : S w) (h : S w → wpAnyH P md ops Q S fuel (listed.setIfInBounds i true) (a.put oi.dst undef) w) (hi : ops[i]? = some oi := by exact rfl) (hr : Region.ready md ops listed = [i] := by kernel_rfl) (hw : Region.wanted oi (yielded ops a.tmps) = false := by rfl) : wpAnyH P md ops Q S (fuel + 1) listed a w :=
  wpAnyH_ready hr (by simp) (AllReadyH.cons hi (fun K hK => by rw [if_neg (by rw [hw]; decide)]; exact hK.out _ _ hS h) AllReadyH.nil)

/-- All texts of a list of nodes are of modest length. -/
def Short (m : Nat) (ns : List Nd) : Prop := ∀ n ∈ ns, n.p.size ≤ m

/-- The first test on a node at a place (spec.TreeValid's first 'if'). -/
def bad1 (ns : List Nd) (i : Nat) (n : Nd) : Bool :=
  decide (depB n.p < 1) || !validB n.k n.v || (n.k == 0) || (match i with | 0 => false | j + 1 => (match ns[j]? with | some m => !ltB m.p n.p | none => false))

theorem field_kind (k v : Int) (W : World) : (Instr.field 24 (.agg #[.int .i64 k, .int .i64 v]) 0).run Try.prog W = .ok (.int .i64 k) W := by kernel_rfl

theorem bad1_succ {ns : List Nd} {j : Nat} {m n : Nd} (hm : ns[j]? = some m) : bad1 ns (j + 1) n = (decide (depB n.p < 1) || !validB n.k n.v || (n.k == 0) || !ltB m.p n.p) := by
  unfold bad1; simp [hm]

theorem okAt_eq {ns : List Nd} {i : Nat} {n : Nd} (hn : ns[i]? = some n) : okAt ns i = (!bad1 ns i n && ((getT ns (parB n.p)).1 == 1)) := by
  unfold okAt bad1
  rw [hn]
  have e : decide (1 ≤ depB n.p) = !decide (depB n.p < 1) := by
    by_cases h : depB n.p < 1
    · rw [decide_eq_true h, decide_eq_false (by omega)]; rfl
    · rw [decide_eq_false h, decide_eq_true (by omega)]; rfl
  simp only [e]
  cases i with
  | zero => simp
  | succ j =>
    cases h : ns[j]? with
    | none => simp [h]
    | some m => simp [h]

theorem validT_bad {ns : List Nd} {i : Nat} (hi : i < ns.length) (h : okAt ns i = false) : validT ns = false := by
  unfold validT
  rw [Bool.and_eq_false_iff]
  left
  rw [List.all_eq_false]
  exact ⟨i, List.mem_range.2 hi, by rw [h]; simp⟩

theorem validT_all {ns : List Nd} (h : ∀ j, j < ns.length → okAt ns j = true) : validT ns = decide (ns.length ≤ 10) := by
  unfold validT
  rw [List.all_eq_true.2 (fun j hj => h j (List.mem_range.1 hj))]
  simp

theorem dec_le (len : Nat) : decide (len ≤ 10) = decide ((len : Int) ≤ 10) := by
  by_cases h : len ≤ 10
  · rw [decide_eq_true h, decide_eq_true (by omega)]
  · rw [decide_eq_false h, decide_eq_false (by omega)]

theorem keep3 {w W W' : World} {a b c : Addr} {va vb vc : Value} (h : W.cell? a = some va ∧ W.cell? b = some vb ∧ W.cell? c = some vc ∧ Below w.heap.size w W) (hb : Below W.heap.size W W') :
    W'.cell? a = some va ∧ W'.cell? b = some vb ∧ W'.cell? c = some vc ∧ Below w.heap.size w W' :=
  ⟨cell_kept hb h.1, cell_kept hb h.2.1, cell_kept hb h.2.2.1, below_next h.2.2.2 hb⟩

theorem keep4 {w W W' : World} {a b c d : Addr} {va vb vc vd : Value} (h : W.cell? a = some va ∧ W.cell? b = some vb ∧ W.cell? c = some vc ∧ W.cell? d = some vd ∧ Below w.heap.size w W) (hb : Below W.heap.size W W') :
    W'.cell? a = some va ∧ W'.cell? b = some vb ∧ W'.cell? c = some vc ∧ W'.cell? d = some vd ∧ Below w.heap.size w W' :=
  ⟨cell_kept hb h.1, cell_kept hb h.2.1, cell_kept hb h.2.2.1, cell_kept hb h.2.2.2.1, below_next h.2.2.2.2 hb⟩

theorem size_of_depth {p : ByteArray} (h : 1 ≤ depB p) : 2 ≤ p.size := by
  obtain ⟨m, k1, -⟩ := Pm.last_facts p.data.toList h
  rw [Lib.size_eq]; omega

theorem below_succ {ns : List Nd} {i : Nat} (h : ∀ j, j < i → okAt ns j = true) (h1 : okAt ns i = true) : Hid (∀ j, j < i + 1 → okAt ns j = true) := by
  intro j hj
  by_cases e : j < i
  · exact h j e
  · have : j = i := by omega
    subst this; exact h1

def VRel (ns : List Nd) (W : World) (i : Value) (wr : World) : Prop :=
  ∃ n : Nat, i = .int .i64 n ∧ n ≤ ns.length ∧ Hid (∀ j, j < n → okAt ns j = true) ∧ Hid (Below W.heap.size W wr)

set_option maxHeartbeats 2000000 in
set_option maxRecDepth 100000 in
theorem specTreeValid_c (a : Option Addr) (len cap : Nat) (ns : List Nd) (hl : len ≤ 2097152) (hs : Short 2097152 ns) (W : World) (hN : NodesAt W a len ns) :
    Calls Try.prog 72 #[.slice a len cap] W (BoolPost (validT ns) W) := by
  have HN := Lib.hid hN
  have HE := Lib.hid hN.1
  have HS := Lib.hid hs
  have HL := Lib.hid hl
  have HG := Lib.hid (fun p W h => l3Get_c a len cap ns p hl W h)
  clear hN hs
  go_enter Try.func72, Try.ntmps72
  go_wp2
  go_loopw [3, 4] (fun i c wr => VRel ns W i wr) (fun i _ _ => len - (intOf i).toNat)
  case atStart => exact ⟨0, rfl, by omega, Lib.hid (fun j h => absurd h (by omega)), Below.refl _ _⟩
  case round =>
    obtain ⟨i, rfl, hi, HM, HB⟩ := hrel
    by_cases hlt : i < len
    · obtain ⟨b, off, n, rfl, hn, c0, c1, c2⟩ := (HN.out.keep HB.out).node hlt
      have hlt' : (i : Int) < len := by omega
      obtain ⟨p, k, v⟩ := n
      have hps := HS.out _ (List.mem_of_getElem? hn)
      have PSZ : Hid (p.size ≤ 2097152) := hps
      obtain ⟨d, hd⟩ : ∃ d, depB p = d := ⟨_, rfl⟩
      obtain ⟨vb, hvb⟩ : ∃ vb, validB k v = vb := ⟨_, rfl⟩
      have HD : Hid (∀ w, Calls Try.prog 50 #[.string p] w fun e w' => e = .returned (.int .i64 d) ∧ Below w.heap.size w w') := by intro w; rw [← hd]; exact specDepth_c p hps w
      have HV : Hid (∀ w, Calls Try.prog 51 #[.agg #[.int .i64 k, .int .i64 v]] w (BoolPost vb w)) := by intro w; rw [← hvb]; exact specConValid_c k v w
      have HI := Lib.hid hn
      have HLT := Lib.hid hlt
      clear hi hlt hn hps
      go_wp2
      obtain ⟨X, hX⟩ : ∃ X, X = wr.alloc (.cells #[.string p, .int .i64 k, .int .i64 v] 99) := ⟨_, rfl⟩
      have BX : Hid (X.cell? ⟨wr.heap.size, 0, none⟩ = some (.string p) ∧ X.cell? ⟨wr.heap.size, 1, none⟩ = some (.int .i64 k) ∧ X.cell? ⟨wr.heap.size, 2, none⟩ = some (.int .i64 v) ∧ Below W.heap.size W X) := by
        subst hX
        exact ⟨by rw [World.cell?_alloc_new]; rfl, by rw [World.cell?_alloc_new]; rfl, by rw [World.cell?_alloc_new]; rfl, below_next HB.out (below_box _ _)⟩
      have NX := Lib.hid (HN.out.keep BX.out.2.2.2)
      rw [← hX]
      clear hX c0 c1 c2
      by_cases hd1 : d < 1
      · have hdd : decide (d < 1) = true := decide_eq_true hd1
        have HS0 := Lib.hid (show X.drew.cell? ⟨wr.heap.size, 0, none⟩ = some (.string p) ∧ X.drew.cell? ⟨wr.heap.size, 1, none⟩ = some (.int .i64 k) ∧ X.drew.cell? ⟨wr.heap.size, 2, none⟩ = some (.int .i64 v) ∧ Below W.heap.size W X.drew from ⟨BX.out.1, BX.out.2.1, BX.out.2.2.1, BX.out.2.2.2.drew⟩)
        have HO := Lib.hid (show okAt ns i = false by rw [okAt_eq HI.out]; unfold bad1; rw [hd, decide_eq_true hd1]; rfl)
        clear hd hvb
        refine wp_region_held_drew (S := (fun w' => w'.cell? ⟨wr.heap.size, 0, none⟩ = some (.string p) ∧ w'.cell? ⟨wr.heap.size, 1, none⟩ = some (.int .i64 k) ∧ w'.cell? ⟨wr.heap.size, 2, none⟩ = some (.int .i64 v) ∧ Below W.heap.size W w')) (by kernel_rfl) HS0.out (fun hH => ?_)
        refine tkTv (v := ?_) 0 ?_ (by assumption) ?_
        rotate_left
        · (intro w hSw; (try dsimp only at hSw); go_simp; try with_reducible rfl)
        try walk_nrm
        refine tkTv (v := ?_) 1 ?_ (by assumption) ?_
        rotate_left
        · (intro w hSw; (try dsimp only at hSw); go_simp; try with_reducible rfl)
        try walk_nrm
        refine wpAnyH_ready (rs := [2]) (by kernel_rfl) (by simp) ?_
        refine AllReadyH.cons rfl (fun K hK => ?_) (AllReadyH.nil)
        go_simp
        go_at_call 50; (with_reducible refine (HD.out _).mono ?_); rintro e W5 ⟨rfl, hb5⟩
        refine hK.out _ _ (keep3 HS0.out hb5) (fun hHeld => ?_)
        try walk_nrm
        refine tkTv (v := ?_) 3 ?_ (by assumption) ?_
        rotate_left
        · (intro w hSw; (try dsimp only at hSw); go_simp; try with_reducible rfl)
        try walk_nrm
        refine tkTv (v := ?_) 4 ?_ (by assumption) ?_
        rotate_left
        · (intro w hSw; (try dsimp only at hSw); go_simp; try with_reducible rfl)
        try walk_nrm
        first | refine tuTv 5 (by assumption) ?_ | refine trTv 5 (by assumption) (fun hHeld => ?_)
        try walk_nrm
        first | refine tuTv 6 (by assumption) ?_ | refine trTv 6 (by assumption) (fun hHeld => ?_)
        try walk_nrm
        first | refine tuTv 7 (by assumption) ?_ | refine trTv 7 (by assumption) (fun hHeld => ?_)
        try walk_nrm
        first | refine tuTv 8 (by assumption) ?_ | refine trTv 8 (by assumption) (fun hHeld => ?_)
        try walk_nrm
        refine tkTv (v := ?_) 9 ?_ (by assumption) ?_
        rotate_left
        · (intro w hSw; (try dsimp only at hSw); go_simp; try with_reducible rfl)
        try walk_nrm
        refine tkTv (v := ?_) 10 ?_ (by assumption) ?_
        rotate_left
        · (intro w hSw; (try dsimp only at hSw); go_simp; try with_reducible rfl)
        try walk_nrm
        first | refine tuTv 11 (by assumption) ?_ | refine trTv 11 (by assumption) (fun hHeld => ?_)
        try walk_nrm
        first | refine tuTv 12 (by assumption) ?_ | refine trTv 12 (by assumption) (fun hHeld => ?_)
        try walk_nrm
        first | refine tuTv 13 (by assumption) ?_ | refine trTv 13 (by assumption) (fun hHeld => ?_)
        try walk_nrm
        first | refine tuTv 14 (by assumption) ?_ | refine trTv 14 (by assumption) (fun hHeld => ?_)
        try walk_nrm
        refine tkTv (v := ?_) 15 ?_ (by assumption) ?_
        rotate_left
        · (intro w hSw; (try dsimp only at hSw); go_simp; try with_reducible rfl)
        try walk_nrm
        refine tkTv (v := ?_) 16 ?_ (by assumption) ?_
        rotate_left
        · (intro w hSw; (try dsimp only at hSw); go_simp; try with_reducible rfl)
        try walk_nrm
        first | refine tuTv 17 (by assumption) ?_ | refine trTv 17 (by assumption) (fun hHeld => ?_)
        try walk_nrm
        first | refine tuTv 18 (by assumption) ?_ | refine trTv 18 (by assumption) (fun hHeld => ?_)
        try walk_nrm
        first | refine tuTv 19 (by assumption) ?_ | refine trTv 19 (by assumption) (fun hHeld => ?_)
        try walk_nrm
        first | refine tuTv 20 (by assumption) ?_ | refine trTv 20 (by assumption) (fun hHeld => ?_)
        try walk_nrm
        first | refine tuTv 21 (by assumption) ?_ | refine trTv 21 (by assumption) (fun hHeld => ?_)
        try walk_nrm
        first | refine tuTv 22 (by assumption) ?_ | refine trTv 22 (by assumption) (fun hHeld => ?_)
        try walk_nrm
        first | refine tuTv 23 (by assumption) ?_ | refine trTv 23 (by assumption) (fun hHeld => ?_)
        try walk_nrm
        first | refine tuTv 24 (by assumption) ?_ | refine trTv 24 (by assumption) (fun hHeld => ?_)
        try walk_nrm
        first | refine tuTv 25 (by assumption) ?_ | refine trTv 25 (by assumption) (fun hHeld => ?_)
        try walk_nrm
        first | refine tuTv 26 (by assumption) ?_ | refine trTv 26 (by assumption) (fun hHeld => ?_)
        try walk_nrm
        first | refine tuTv 27 (by assumption) ?_ | refine trTv 27 (by assumption) (fun hHeld => ?_)
        try walk_nrm
        first | refine tuTv 28 (by assumption) ?_ | refine trTv 28 (by assumption) (fun hHeld => ?_)
        try walk_nrm
        first | refine tuTv 29 (by assumption) ?_ | refine trTv 29 (by assumption) (fun hHeld => ?_)
        try walk_nrm
        refine tkTv (v := ?_) 30 ?_ (by assumption) ?_
        rotate_left
        · (intro w hSw; (try dsimp only at hSw); go_simp; try with_reducible rfl)
        try walk_nrm
        refine wpAnyH_done (by kernel_rfl) ?_ _
        have HX := Lib.hid (validT_bad (by have := HE.out; have := HLT.out; omega) HO.out)
        go_wp2
        go_ret
        exact ⟨by rw [HX.out]; rfl, hHeld.2.2.2⟩
      · have hd1' : 1 ≤ d := by omega
        have hdd : decide (d < 1) = false := decide_eq_false hd1
        have HD1 := Lib.hid (show 1 ≤ depB p by rw [hd]; exact hd1')
        cases vb with
        | false =>
          have HS0 := Lib.hid (show X.drew.cell? ⟨wr.heap.size, 0, none⟩ = some (.string p) ∧ X.drew.cell? ⟨wr.heap.size, 1, none⟩ = some (.int .i64 k) ∧ X.drew.cell? ⟨wr.heap.size, 2, none⟩ = some (.int .i64 v) ∧ Below W.heap.size W X.drew from ⟨BX.out.1, BX.out.2.1, BX.out.2.2.1, BX.out.2.2.2.drew⟩)
          have HO := Lib.hid (show okAt ns i = false by rw [okAt_eq HI.out]; unfold bad1; rw [hvb]; simp)
          clear hd hvb hd1
          refine wp_region_held_drew (S := (fun w' => w'.cell? ⟨wr.heap.size, 0, none⟩ = some (.string p) ∧ w'.cell? ⟨wr.heap.size, 1, none⟩ = some (.int .i64 k) ∧ w'.cell? ⟨wr.heap.size, 2, none⟩ = some (.int .i64 v) ∧ Below W.heap.size W w')) (by kernel_rfl) HS0.out (fun hH => ?_)
          refine tkTv (v := ?_) 0 ?_ (by assumption) ?_
          rotate_left
          · (intro w hSw; (try dsimp only at hSw); go_simp; try with_reducible rfl)
          try walk_nrm
          refine tkTv (v := ?_) 1 ?_ (by assumption) ?_
          rotate_left
          · (intro w hSw; (try dsimp only at hSw); go_simp; try with_reducible rfl)
          try walk_nrm
          refine wpAnyH_ready (rs := [2]) (by kernel_rfl) (by simp) ?_
          refine AllReadyH.cons rfl (fun K hK => ?_) (AllReadyH.nil)
          go_simp
          go_at_call 50; (with_reducible refine (HD.out _).mono ?_); rintro e W5 ⟨rfl, hb5⟩
          refine hK.out _ _ (keep3 HS0.out hb5) (fun hHeld => ?_)
          try walk_nrm
          refine tkTv (v := ?_) 3 ?_ (by assumption) ?_
          rotate_left
          · (intro w hSw; (try dsimp only at hSw); go_simp; try with_reducible rfl)
          try walk_nrm
          refine tkTv (v := ?_) 4 ?_ (by assumption) ?_
          rotate_left
          · (intro w hSw; (try dsimp only at hSw); go_simp; try with_reducible rfl)
          try walk_nrm
          refine tkTv (v := ?_) 5 ?_ (by assumption) ?_
          rotate_left
          · (intro w hSw; (try dsimp only at hSw); go_simp; try with_reducible rfl)
          try walk_nrm
          refine tkTv (v := ?_) 6 ?_ (by assumption) ?_
          rotate_left
          · (intro w hSw; (try dsimp only at hSw); go_simp; try with_reducible rfl)
          try walk_nrm
          refine wpAnyH_ready (rs := [7]) (by kernel_rfl) (by simp) ?_
          refine AllReadyH.cons rfl (fun K hK => ?_) (AllReadyH.nil)
          go_simp
          go_at_call 51; (with_reducible refine (HV.out _).mono ?_); rintro e W6 ⟨rfl, hb6⟩
          refine hK.out _ _ (keep3 hHeld hb6) (fun hHeld => ?_)
          try walk_nrm
          refine tkTv (v := ?_) 8 ?_ (by assumption) ?_
          rotate_left
          · (intro w hSw; (try dsimp only at hSw); go_simp; try with_reducible rfl)
          try walk_nrm
          refine tkTv (v := ?_) 9 ?_ (by assumption) ?_
          rotate_left
          · (intro w hSw; (try dsimp only at hSw); go_simp; try with_reducible rfl)
          try walk_nrm
          refine tkTv (v := ?_) 10 ?_ (by assumption) ?_
          rotate_left
          · (intro w hSw; (try dsimp only at hSw); go_simp; try with_reducible rfl)
          try walk_nrm
          first | refine tuTv 11 (by assumption) ?_ | refine trTv 11 (by assumption) (fun hHeld => ?_)
          try walk_nrm
          first | refine tuTv 12 (by assumption) ?_ | refine trTv 12 (by assumption) (fun hHeld => ?_)
          try walk_nrm
          first | refine tuTv 13 (by assumption) ?_ | refine trTv 13 (by assumption) (fun hHeld => ?_)
          try walk_nrm
          first | refine tuTv 14 (by assumption) ?_ | refine trTv 14 (by assumption) (fun hHeld => ?_)
          try walk_nrm
          refine tkTv (v := ?_) 15 ?_ (by assumption) ?_
          rotate_left
          · (intro w hSw; (try dsimp only at hSw); go_simp; try with_reducible rfl)
          try walk_nrm
          refine tkTv (v := ?_) 16 ?_ (by assumption) ?_
          rotate_left
          · (intro w hSw; (try dsimp only at hSw); go_simp; try with_reducible rfl)
          try walk_nrm
          first | refine tuTv 17 (by assumption) ?_ | refine trTv 17 (by assumption) (fun hHeld => ?_)
          try walk_nrm
          first | refine tuTv 18 (by assumption) ?_ | refine trTv 18 (by assumption) (fun hHeld => ?_)
          try walk_nrm
          first | refine tuTv 19 (by assumption) ?_ | refine trTv 19 (by assumption) (fun hHeld => ?_)
          try walk_nrm
          first | refine tuTv 20 (by assumption) ?_ | refine trTv 20 (by assumption) (fun hHeld => ?_)
          try walk_nrm
          first | refine tuTv 21 (by assumption) ?_ | refine trTv 21 (by assumption) (fun hHeld => ?_)
          try walk_nrm
          first | refine tuTv 22 (by assumption) ?_ | refine trTv 22 (by assumption) (fun hHeld => ?_)
          try walk_nrm
          first | refine tuTv 23 (by assumption) ?_ | refine trTv 23 (by assumption) (fun hHeld => ?_)
          try walk_nrm
          first | refine tuTv 24 (by assumption) ?_ | refine trTv 24 (by assumption) (fun hHeld => ?_)
          try walk_nrm
          first | refine tuTv 25 (by assumption) ?_ | refine trTv 25 (by assumption) (fun hHeld => ?_)
          try walk_nrm
          first | refine tuTv 26 (by assumption) ?_ | refine trTv 26 (by assumption) (fun hHeld => ?_)
          try walk_nrm
          first | refine tuTv 27 (by assumption) ?_ | refine trTv 27 (by assumption) (fun hHeld => ?_)
          try walk_nrm
          first | refine tuTv 28 (by assumption) ?_ | refine trTv 28 (by assumption) (fun hHeld => ?_)
          try walk_nrm
          first | refine tuTv 29 (by assumption) ?_ | refine trTv 29 (by assumption) (fun hHeld => ?_)
          try walk_nrm
          refine tkTv (v := ?_) 30 ?_ (by assumption) ?_
          rotate_left
          · (intro w hSw; (try dsimp only at hSw); go_simp; try with_reducible rfl)
          try walk_nrm
          refine wpAnyH_done (by kernel_rfl) ?_ _
          have HX := Lib.hid (validT_bad (by have := HE.out; have := HLT.out; omega) HO.out)
          go_wp2
          go_ret
          exact ⟨by rw [HX.out]; rfl, hHeld.2.2.2⟩
        | true =>
          by_cases hk : k = 0
          · subst hk
            have HS0 := Lib.hid (show X.drew.cell? ⟨wr.heap.size, 0, none⟩ = some (.string p) ∧ X.drew.cell? ⟨wr.heap.size, 1, none⟩ = some (.int .i64 0) ∧ X.drew.cell? ⟨wr.heap.size, 2, none⟩ = some (.int .i64 v) ∧ Below W.heap.size W X.drew from ⟨BX.out.1, BX.out.2.1, BX.out.2.2.1, BX.out.2.2.2.drew⟩)
            have HO := Lib.hid (show okAt ns i = false by rw [okAt_eq HI.out]; unfold bad1; simp)
            clear hd hvb hd1
            refine wp_region_held_drew (S := (fun w' => w'.cell? ⟨wr.heap.size, 0, none⟩ = some (.string p) ∧ w'.cell? ⟨wr.heap.size, 1, none⟩ = some (.int .i64 0) ∧ w'.cell? ⟨wr.heap.size, 2, none⟩ = some (.int .i64 v) ∧ Below W.heap.size W w')) (by kernel_rfl) HS0.out (fun hH => ?_)
            refine tkTv (v := ?_) 0 ?_ (by assumption) ?_
            rotate_left
            · (intro w hSw; (try dsimp only at hSw); go_simp; try with_reducible rfl)
            try walk_nrm
            refine tkTv (v := ?_) 1 ?_ (by assumption) ?_
            rotate_left
            · (intro w hSw; (try dsimp only at hSw); go_simp; try with_reducible rfl)
            try walk_nrm
            refine wpAnyH_ready (rs := [2]) (by kernel_rfl) (by simp) ?_
            refine AllReadyH.cons rfl (fun K hK => ?_) (AllReadyH.nil)
            go_simp
            go_at_call 50; (with_reducible refine (HD.out _).mono ?_); rintro e W5 ⟨rfl, hb5⟩
            refine hK.out _ _ (keep3 HS0.out hb5) (fun hHeld => ?_)
            try walk_nrm
            refine tkTv (v := ?_) 3 ?_ (by assumption) ?_
            rotate_left
            · (intro w hSw; (try dsimp only at hSw); go_simp; try with_reducible rfl)
            try walk_nrm
            refine tkTv (v := ?_) 4 ?_ (by assumption) ?_
            rotate_left
            · (intro w hSw; (try dsimp only at hSw); go_simp; try with_reducible rfl)
            try walk_nrm
            refine tkTv (v := ?_) 5 ?_ (by assumption) ?_
            rotate_left
            · (intro w hSw; (try dsimp only at hSw); go_simp; try with_reducible rfl)
            try walk_nrm
            refine tkTv (v := ?_) 6 ?_ (by assumption) ?_
            rotate_left
            · (intro w hSw; (try dsimp only at hSw); go_simp; try with_reducible rfl)
            try walk_nrm
            refine wpAnyH_ready (rs := [7]) (by kernel_rfl) (by simp) ?_
            refine AllReadyH.cons rfl (fun K hK => ?_) (AllReadyH.nil)
            go_simp
            go_at_call 51; (with_reducible refine (HV.out _).mono ?_); rintro e W6 ⟨rfl, hb6⟩
            refine hK.out _ _ (keep3 hHeld hb6) (fun hHeld => ?_)
            try walk_nrm
            refine tkTv (v := ?_) 8 ?_ (by assumption) ?_
            rotate_left
            · (intro w hSw; (try dsimp only at hSw); go_simp; try with_reducible rfl)
            try walk_nrm
            refine tkTv (v := ?_) 9 ?_ (by assumption) ?_
            rotate_left
            · (intro w hSw; (try dsimp only at hSw); go_simp; try with_reducible rfl)
            try walk_nrm
            refine tkTv (v := ?_) 10 ?_ (by assumption) ?_
            rotate_left
            · (intro w hSw; (try dsimp only at hSw); go_simp; try with_reducible rfl)
            try walk_nrm
            refine tkTv (v := ?_) 11 ?_ (by assumption) ?_
            rotate_left
            · (intro w hSw; (try dsimp only at hSw); go_simp; try with_reducible rfl)
            try walk_nrm
            refine tkTv (v := ?_) 12 ?_ (by assumption) ?_
            rotate_left
            · (intro w hSw; (try dsimp only at hSw); go_simp; try with_reducible rfl)
            try walk_nrm
            refine tkTv (v := ?_) 13 ?_ (by assumption) ?_
            rotate_left
            · (intro w hSw; (try dsimp only at hSw); go_simp; try with_reducible rfl)
            try walk_nrm
            refine tkTv (v := ?_) 14 ?_ (by assumption) ?_
            rotate_left
            · (intro w hSw; (try dsimp only at hSw); go_simp; try with_reducible rfl)
            try walk_nrm
            refine tkTv (v := ?_) 15 ?_ (by assumption) ?_
            rotate_left
            · (intro w hSw; (try dsimp only at hSw); go_simp; try with_reducible rfl)
            try walk_nrm
            refine tkTv (v := ?_) 16 ?_ (by assumption) ?_
            rotate_left
            · (intro w hSw; (try dsimp only at hSw); go_simp; try with_reducible rfl)
            try walk_nrm
            first | refine tuTv 17 (by assumption) ?_ | refine trTv 17 (by assumption) (fun hHeld => ?_)
            try walk_nrm
            first | refine tuTv 18 (by assumption) ?_ | refine trTv 18 (by assumption) (fun hHeld => ?_)
            try walk_nrm
            first | refine tuTv 19 (by assumption) ?_ | refine trTv 19 (by assumption) (fun hHeld => ?_)
            try walk_nrm
            first | refine tuTv 20 (by assumption) ?_ | refine trTv 20 (by assumption) (fun hHeld => ?_)
            try walk_nrm
            first | refine tuTv 21 (by assumption) ?_ | refine trTv 21 (by assumption) (fun hHeld => ?_)
            try walk_nrm
            first | refine tuTv 22 (by assumption) ?_ | refine trTv 22 (by assumption) (fun hHeld => ?_)
            try walk_nrm
            first | refine tuTv 23 (by assumption) ?_ | refine trTv 23 (by assumption) (fun hHeld => ?_)
            try walk_nrm
            first | refine tuTv 24 (by assumption) ?_ | refine trTv 24 (by assumption) (fun hHeld => ?_)
            try walk_nrm
            first | refine tuTv 25 (by assumption) ?_ | refine trTv 25 (by assumption) (fun hHeld => ?_)
            try walk_nrm
            first | refine tuTv 26 (by assumption) ?_ | refine trTv 26 (by assumption) (fun hHeld => ?_)
            try walk_nrm
            first | refine tuTv 27 (by assumption) ?_ | refine trTv 27 (by assumption) (fun hHeld => ?_)
            try walk_nrm
            first | refine tuTv 28 (by assumption) ?_ | refine trTv 28 (by assumption) (fun hHeld => ?_)
            try walk_nrm
            first | refine tuTv 29 (by assumption) ?_ | refine trTv 29 (by assumption) (fun hHeld => ?_)
            try walk_nrm
            refine tkTv (v := ?_) 30 ?_ (by assumption) ?_
            rotate_left
            · (intro w hSw; (try dsimp only at hSw); go_simp; try with_reducible rfl)
            try walk_nrm
            refine wpAnyH_done (by kernel_rfl) ?_ _
            have HX := Lib.hid (validT_bad (by have := HE.out; have := HLT.out; omega) HO.out)
            go_wp2
            go_ret
            exact ⟨by rw [HX.out]; rfl, hHeld.2.2.2⟩
          · have hk0 : (k == 0) = false := beq_eq_false_iff_ne.2 hk
            cases i with
            | zero =>
              have HO2 := Lib.hid (show okAt ns 0 = ((getT ns (parB p)).1 == 1) by rw [okAt_eq HI.out]; unfold bad1; rw [hd, decide_eq_false hd1, hvb, hk0]; rfl)
              have HS0 := Lib.hid (show X.drew.cell? ⟨wr.heap.size, 0, none⟩ = some (.string p) ∧ X.drew.cell? ⟨wr.heap.size, 1, none⟩ = some (.int .i64 k) ∧ X.drew.cell? ⟨wr.heap.size, 2, none⟩ = some (.int .i64 v) ∧ Below W.heap.size W X.drew from ⟨BX.out.1, BX.out.2.1, BX.out.2.2.1, BX.out.2.2.2.drew⟩)
              clear hd hvb hd1
              refine wp_region_held_drew (S := (fun w' => w'.cell? ⟨wr.heap.size, 0, none⟩ = some (.string p) ∧ w'.cell? ⟨wr.heap.size, 1, none⟩ = some (.int .i64 k) ∧ w'.cell? ⟨wr.heap.size, 2, none⟩ = some (.int .i64 v) ∧ Below W.heap.size W w')) (by kernel_rfl) HS0.out (fun hH => ?_)
              refine tkTv (v := ?_) 0 ?_ (by assumption) ?_
              rotate_left
              · (intro w hSw; (try dsimp only at hSw); go_simp; try with_reducible rfl)
              try walk_nrm
              refine tkTv (v := ?_) 1 ?_ (by assumption) ?_
              rotate_left
              · (intro w hSw; (try dsimp only at hSw); go_simp; try with_reducible rfl)
              try walk_nrm
              refine wpAnyH_ready (rs := [2]) (by kernel_rfl) (by simp) ?_
              refine AllReadyH.cons rfl (fun K hK => ?_) (AllReadyH.nil)
              go_simp
              go_at_call 50; (with_reducible refine (HD.out _).mono ?_); rintro e W5 ⟨rfl, hb5⟩
              refine hK.out _ _ (keep3 HS0.out hb5) (fun hHeld => ?_)
              try walk_nrm
              refine tkTv (v := ?_) 3 ?_ (by assumption) ?_
              rotate_left
              · (intro w hSw; (try dsimp only at hSw); go_simp; try with_reducible rfl)
              try walk_nrm
              refine tkTv (v := ?_) 4 ?_ (by assumption) ?_
              rotate_left
              · (intro w hSw; (try dsimp only at hSw); go_simp; try with_reducible rfl)
              try walk_nrm
              refine tkTv (v := ?_) 5 ?_ (by assumption) ?_
              rotate_left
              · (intro w hSw; (try dsimp only at hSw); go_simp; try with_reducible rfl)
              try walk_nrm
              refine tkTv (v := ?_) 6 ?_ (by assumption) ?_
              rotate_left
              · (intro w hSw; (try dsimp only at hSw); go_simp; try with_reducible rfl)
              try walk_nrm
              refine wpAnyH_ready (rs := [7]) (by kernel_rfl) (by simp) ?_
              refine AllReadyH.cons rfl (fun K hK => ?_) (AllReadyH.nil)
              go_simp
              go_at_call 51; (with_reducible refine (HV.out _).mono ?_); rintro e W6 ⟨rfl, hb6⟩
              refine hK.out _ _ (keep3 hHeld hb6) (fun hHeld => ?_)
              try walk_nrm
              refine tkTv (v := ?_) 8 ?_ (by assumption) ?_
              rotate_left
              · (intro w hSw; (try dsimp only at hSw); go_simp; try with_reducible rfl)
              try walk_nrm
              refine tkTv (v := ?_) 9 ?_ (by assumption) ?_
              rotate_left
              · (intro w hSw; (try dsimp only at hSw); go_simp; try with_reducible rfl)
              try walk_nrm
              refine tkTv (v := ?_) 10 ?_ (by assumption) ?_
              rotate_left
              · (intro w hSw; (try dsimp only at hSw); go_simp; try with_reducible rfl)
              try walk_nrm
              refine tkTv (v := ?_) 11 ?_ (by assumption) ?_
              rotate_left
              · (intro w hSw; (try dsimp only at hSw); go_simp; try with_reducible rfl)
              try walk_nrm
              refine tkTv (v := ?_) 12 ?_ (by assumption) ?_
              rotate_left
              · (intro w hSw; (try dsimp only at hSw); go_simp; try with_reducible rfl)
              try walk_nrm
              refine tkTv (v := ?_) 13 ?_ (by assumption) ?_
              rotate_left
              · (intro w hSw; (try dsimp only at hSw); go_simp; try with_reducible rfl)
              try walk_nrm
              refine tkTv (v := ?_) 14 ?_ (by assumption) ?_
              rotate_left
              · (intro w hSw; (try dsimp only at hSw); go_simp; try with_reducible rfl)
              try walk_nrm
              refine tkTv (v := ?_) 15 ?_ (by assumption) ?_
              rotate_left
              · (intro w hSw; (try dsimp only at hSw); go_simp; try with_reducible rfl)
              try walk_nrm
              refine tkTv (v := ?_) 16 ?_ (by assumption) ?_
              rotate_left
              · (intro w hSw; (try dsimp only at hSw); go_simp; try with_reducible rfl)
              try walk_nrm
              refine tkTv (v := ?_) 17 ?_ (by assumption) ?_
              rotate_left
              · (intro w hSw; (try dsimp only at hSw); go_simp; try with_reducible rfl)
              try walk_nrm
              refine tkTv (v := ?_) 18 ?_ (by assumption) ?_
              rotate_left
              · (intro w hSw; (try dsimp only at hSw); go_simp; try with_reducible rfl)
              try walk_nrm
              refine tkTv (v := ?_) 19 ?_ (by assumption) ?_
              rotate_left
              · (intro w hSw; (try dsimp only at hSw); go_simp; try with_reducible rfl)
              try walk_nrm
              first | refine tuTv 20 (by assumption) ?_ | refine trTv 20 (by assumption) (fun hHeld => ?_)
              try walk_nrm
              first | refine tuTv 21 (by assumption) ?_ | refine trTv 21 (by assumption) (fun hHeld => ?_)
              try walk_nrm
              first | refine tuTv 22 (by assumption) ?_ | refine trTv 22 (by assumption) (fun hHeld => ?_)
              try walk_nrm
              first | refine tuTv 23 (by assumption) ?_ | refine trTv 23 (by assumption) (fun hHeld => ?_)
              try walk_nrm
              first | refine tuTv 24 (by assumption) ?_ | refine trTv 24 (by assumption) (fun hHeld => ?_)
              try walk_nrm
              first | refine tuTv 25 (by assumption) ?_ | refine trTv 25 (by assumption) (fun hHeld => ?_)
              try walk_nrm
              first | refine tuTv 26 (by assumption) ?_ | refine trTv 26 (by assumption) (fun hHeld => ?_)
              try walk_nrm
              first | refine tuTv 27 (by assumption) ?_ | refine trTv 27 (by assumption) (fun hHeld => ?_)
              try walk_nrm
              first | refine tuTv 28 (by assumption) ?_ | refine trTv 28 (by assumption) (fun hHeld => ?_)
              try walk_nrm
              refine tkTv (v := ?_) 29 ?_ (by assumption) ?_
              rotate_left
              · (intro w hSw; (try dsimp only at hSw); go_simp; try with_reducible rfl)
              try walk_nrm
              refine tkTv (v := ?_) 30 ?_ (by assumption) ?_
              rotate_left
              · (intro w hSw; (try dsimp only at hSw); go_simp; try with_reducible rfl)
              try walk_nrm
              refine wpAnyH_done (by kernel_rfl) ?_ _
              have hNS := HN.out.keep hHeld.2.2.2
              have HW := Lib.hid hHeld.2.2.2
              have hGP := HG.out (l1pB p) _ hNS
              have HP := Lib.hid (fun w => l1Parent_c p PSZ.out (size_of_depth HD1.out) w)
              rw [show l1pB p = parB p from l1pB_parent p HD1.out] at hGP HP
              generalize parB p = pp at hGP HP HO2
              have HGP := Lib.hid hGP
              clear hGP hNS
              go_wp2_with fail
              refine (HP.out _).mono ?_; rintro e W7 ⟨rfl, rfl⟩
              go_wp2_with fail
              refine HGP.out.mono ?_; rintro e W8 ⟨rfl, hb8⟩
              have B8 := Lib.hid (below_next HW.out hb8)
              clear hb8
              unfold con
              have hfk := fun k v W => field_kind k v W
              by_cases h1 : (getT ns pp).1 = 1
              · have HO3 := Lib.hid (show okAt ns 0 = true by rw [HO2.out, h1]; rfl)
                generalize (getT ns pp).2 = kv
                rw [h1]
                clear h1
                go_wp2
                exact ⟨⟨0 + 1, by go_num, by have := HE.out; have := HLT.out; omega, below_succ HM.out HO3.out, B8⟩, by have := HLT.out; simp [intOf]; omega⟩
              · have HO3 := Lib.hid (show okAt ns 0 = false by rw [HO2.out]; simpa using h1)
                have HX := Lib.hid (validT_bad (by have := HE.out; have := HLT.out; omega) HO3.out)
                have h1' : ((getT ns pp).1 == 1) = false := beq_eq_false_iff_ne.2 h1
                go_wp2
                go_ret
                exact ⟨by rw [HX.out]; rfl, B8.out⟩
            | succ j =>
              obtain ⟨b', off', m, hbo, hm, m0, -, -⟩ := NX.out.node (show j < len by have := HLT.out; omega)
              have hbo' : b = b' ∧ off = off' := by simpa using hbo
              obtain ⟨rfl, rfl⟩ := hbo'
              have HS0 := Lib.hid (show X.drew.cell? ⟨wr.heap.size, 0, none⟩ = some (.string p) ∧ X.drew.cell? ⟨wr.heap.size, 1, none⟩ = some (.int .i64 k) ∧ X.drew.cell? ⟨wr.heap.size, 2, none⟩ = some (.int .i64 v) ∧ X.drew.cell? ⟨b, off + j * 3, none⟩ = some (.string m.p) ∧ Below W.heap.size W X.drew from ⟨BX.out.1, BX.out.2.1, BX.out.2.2.1, m0, BX.out.2.2.2.drew⟩)
              have w1 : IntKind.i64.wrap ((j : Int) + 1 - 1) = j := by rw [show (j : Int) + 1 - 1 = j by omega]; exact IntWalk.i64_in _ (by have := HLT.out; have := HL.out; omega)
              have w2 : IntKind.i64.wrap (j : Int) = j := IntWalk.i64_in _ (by have := HLT.out; have := HL.out; omega)
              have hj0 : decide ((0 : Int) < (j : Int) + 1) = true := decide_eq_true (by omega)
              have hjl : (j : Int) < len := by have := HLT.out; omega
              cases hltb : ltB m.p p with
              | false =>
                have hlb : Op.bytesLess m.p.toList p.toList = false := hltb
                have HO := Lib.hid (show okAt ns (j + 1) = false by rw [okAt_eq HI.out]; rw [bad1_succ hm, hltb]; simp)
                clear hd hvb hd1 hm hbo hltb
                refine wp_region_held_drew (S := (fun w' => w'.cell? ⟨wr.heap.size, 0, none⟩ = some (.string p) ∧ w'.cell? ⟨wr.heap.size, 1, none⟩ = some (.int .i64 k) ∧ w'.cell? ⟨wr.heap.size, 2, none⟩ = some (.int .i64 v) ∧ w'.cell? ⟨b, off + j * 3, none⟩ = some (.string m.p) ∧ Below W.heap.size W w')) (by kernel_rfl) HS0.out (fun hH => ?_)
                refine tkTv (v := ?_) 0 ?_ (by assumption) ?_
                rotate_left
                · (intro w hSw; (try dsimp only at hSw); go_simp; try with_reducible rfl)
                try walk_nrm
                refine tkTv (v := ?_) 1 ?_ (by assumption) ?_
                rotate_left
                · (intro w hSw; (try dsimp only at hSw); go_simp; try with_reducible rfl)
                try walk_nrm
                refine wpAnyH_ready (rs := [2]) (by kernel_rfl) (by simp) ?_
                refine AllReadyH.cons rfl (fun K hK => ?_) (AllReadyH.nil)
                go_simp
                go_at_call 50; (with_reducible refine (HD.out _).mono ?_); rintro e W5 ⟨rfl, hb5⟩
                refine hK.out _ _ (keep4 HS0.out hb5) (fun hHeld => ?_)
                try walk_nrm
                refine tkTv (v := ?_) 3 ?_ (by assumption) ?_
                rotate_left
                · (intro w hSw; (try dsimp only at hSw); go_simp; try with_reducible rfl)
                try walk_nrm
                refine tkTv (v := ?_) 4 ?_ (by assumption) ?_
                rotate_left
                · (intro w hSw; (try dsimp only at hSw); go_simp; try with_reducible rfl)
                try walk_nrm
                refine tkTv (v := ?_) 5 ?_ (by assumption) ?_
                rotate_left
                · (intro w hSw; (try dsimp only at hSw); go_simp; try with_reducible rfl)
                try walk_nrm
                refine tkTv (v := ?_) 6 ?_ (by assumption) ?_
                rotate_left
                · (intro w hSw; (try dsimp only at hSw); go_simp; try with_reducible rfl)
                try walk_nrm
                refine wpAnyH_ready (rs := [7]) (by kernel_rfl) (by simp) ?_
                refine AllReadyH.cons rfl (fun K hK => ?_) (AllReadyH.nil)
                go_simp
                go_at_call 51; (with_reducible refine (HV.out _).mono ?_); rintro e W6 ⟨rfl, hb6⟩
                refine hK.out _ _ (keep4 hHeld hb6) (fun hHeld => ?_)
                try walk_nrm
                refine tkTv (v := ?_) 8 ?_ (by assumption) ?_
                rotate_left
                · (intro w hSw; (try dsimp only at hSw); go_simp; try with_reducible rfl)
                try walk_nrm
                refine tkTv (v := ?_) 9 ?_ (by assumption) ?_
                rotate_left
                · (intro w hSw; (try dsimp only at hSw); go_simp; try with_reducible rfl)
                try walk_nrm
                refine tkTv (v := ?_) 10 ?_ (by assumption) ?_
                rotate_left
                · (intro w hSw; (try dsimp only at hSw); go_simp; try with_reducible rfl)
                try walk_nrm
                refine tkTv (v := ?_) 11 ?_ (by assumption) ?_
                rotate_left
                · (intro w hSw; (try dsimp only at hSw); go_simp; try with_reducible rfl)
                try walk_nrm
                refine tkTv (v := ?_) 12 ?_ (by assumption) ?_
                rotate_left
                · (intro w hSw; (try dsimp only at hSw); go_simp; try with_reducible rfl)
                try walk_nrm
                refine tkTv (v := ?_) 13 ?_ (by assumption) ?_
                rotate_left
                · (intro w hSw; (try dsimp only at hSw); go_simp; try with_reducible rfl)
                try walk_nrm
                refine tkTv (v := ?_) 14 ?_ (by assumption) ?_
                rotate_left
                · (intro w hSw; (try dsimp only at hSw); go_simp; try with_reducible rfl)
                try walk_nrm
                refine tkTv (v := ?_) 15 ?_ (by assumption) ?_
                rotate_left
                · (intro w hSw; (try dsimp only at hSw); go_simp; try with_reducible rfl)
                try walk_nrm
                refine tkTv (v := ?_) 16 ?_ (by assumption) ?_
                rotate_left
                · (intro w hSw; (try dsimp only at hSw); go_simp; try with_reducible rfl)
                try walk_nrm
                refine tkTv (v := ?_) 17 ?_ (by assumption) ?_
                rotate_left
                · (intro w hSw; (try dsimp only at hSw); go_simp; try with_reducible rfl)
                try walk_nrm
                refine tkTv (v := ?_) 18 ?_ (by assumption) ?_
                rotate_left
                · (intro w hSw; (try dsimp only at hSw); go_simp; try with_reducible rfl)
                try walk_nrm
                refine tkTv (v := ?_) 19 ?_ (by assumption) ?_
                rotate_left
                · (intro w hSw; (try dsimp only at hSw); go_simp; try with_reducible rfl)
                try walk_nrm
                refine tkTv (v := ?_) 20 ?_ (by assumption) ?_
                rotate_left
                · (intro w hSw; (try dsimp only at hSw); go_simp; try with_reducible rfl)
                try walk_nrm
                refine tkTv (v := ?_) 21 ?_ (by assumption) ?_
                rotate_left
                · (intro w hSw; (try dsimp only at hSw); go_simp; try with_reducible rfl)
                try walk_nrm
                refine tkTv (v := ?_) 22 ?_ (by assumption) ?_
                rotate_left
                · (intro w hSw; (try dsimp only at hSw); go_simp; try with_reducible rfl)
                try walk_nrm
                refine tkTv (v := ?_) 23 ?_ (by assumption) ?_
                rotate_left
                · (intro w hSw; (try dsimp only at hSw); go_simp; try with_reducible rfl)
                try walk_nrm
                refine tkTv (v := ?_) 24 ?_ (by assumption) ?_
                rotate_left
                · (intro w hSw; (try dsimp only at hSw); go_simp; try with_reducible rfl)
                try walk_nrm
                refine tkTv (v := ?_) 25 ?_ (by assumption) ?_
                rotate_left
                · (intro w hSw; (try dsimp only at hSw); go_simp; try with_reducible rfl)
                try walk_nrm
                refine tkTv (v := ?_) 26 ?_ (by assumption) ?_
                rotate_left
                · (intro w hSw; (try dsimp only at hSw); go_simp; try with_reducible rfl)
                try walk_nrm
                refine tkTv (v := ?_) 27 ?_ (by assumption) ?_
                rotate_left
                · (intro w hSw; (try dsimp only at hSw); go_simp; try with_reducible rfl)
                try walk_nrm
                refine tkTv (v := ?_) 28 ?_ (by assumption) ?_
                rotate_left
                · (intro w hSw; (try dsimp only at hSw); go_simp; try with_reducible rfl)
                try walk_nrm
                refine tkTv (v := ?_) 29 ?_ (by assumption) ?_
                rotate_left
                · (intro w hSw; (try dsimp only at hSw); go_simp; try with_reducible rfl)
                try walk_nrm
                refine tkTv (v := ?_) 30 ?_ (by assumption) ?_
                rotate_left
                · (intro w hSw; (try dsimp only at hSw); go_simp; try with_reducible rfl)
                try walk_nrm
                refine wpAnyH_done (by kernel_rfl) ?_ _
                have HX := Lib.hid (validT_bad (by have := HE.out; have := HLT.out; omega) HO.out)
                go_wp2
                go_ret
                exact ⟨by rw [HX.out]; rfl, hHeld.2.2.2.2⟩
              | true =>
                have hlb : Op.bytesLess m.p.toList p.toList = true := hltb
                have HO2 := Lib.hid (show okAt ns (j + 1) = ((getT ns (parB p)).1 == 1) by rw [okAt_eq HI.out]; rw [bad1_succ hm, hd, decide_eq_false hd1, hvb, hk0, hltb]; rfl)
                clear hd hvb hd1 hm hbo hltb
                refine wp_region_held_drew (S := (fun w' => w'.cell? ⟨wr.heap.size, 0, none⟩ = some (.string p) ∧ w'.cell? ⟨wr.heap.size, 1, none⟩ = some (.int .i64 k) ∧ w'.cell? ⟨wr.heap.size, 2, none⟩ = some (.int .i64 v) ∧ w'.cell? ⟨b, off + j * 3, none⟩ = some (.string m.p) ∧ Below W.heap.size W w')) (by kernel_rfl) HS0.out (fun hH => ?_)
                refine tkTv (v := ?_) 0 ?_ (by assumption) ?_
                rotate_left
                · (intro w hSw; (try dsimp only at hSw); go_simp; try with_reducible rfl)
                try walk_nrm
                refine tkTv (v := ?_) 1 ?_ (by assumption) ?_
                rotate_left
                · (intro w hSw; (try dsimp only at hSw); go_simp; try with_reducible rfl)
                try walk_nrm
                refine wpAnyH_ready (rs := [2]) (by kernel_rfl) (by simp) ?_
                refine AllReadyH.cons rfl (fun K hK => ?_) (AllReadyH.nil)
                go_simp
                go_at_call 50; (with_reducible refine (HD.out _).mono ?_); rintro e W5 ⟨rfl, hb5⟩
                refine hK.out _ _ (keep4 HS0.out hb5) (fun hHeld => ?_)
                try walk_nrm
                refine tkTv (v := ?_) 3 ?_ (by assumption) ?_
                rotate_left
                · (intro w hSw; (try dsimp only at hSw); go_simp; try with_reducible rfl)
                try walk_nrm
                refine tkTv (v := ?_) 4 ?_ (by assumption) ?_
                rotate_left
                · (intro w hSw; (try dsimp only at hSw); go_simp; try with_reducible rfl)
                try walk_nrm
                refine tkTv (v := ?_) 5 ?_ (by assumption) ?_
                rotate_left
                · (intro w hSw; (try dsimp only at hSw); go_simp; try with_reducible rfl)
                try walk_nrm
                refine tkTv (v := ?_) 6 ?_ (by assumption) ?_
                rotate_left
                · (intro w hSw; (try dsimp only at hSw); go_simp; try with_reducible rfl)
                try walk_nrm
                refine wpAnyH_ready (rs := [7]) (by kernel_rfl) (by simp) ?_
                refine AllReadyH.cons rfl (fun K hK => ?_) (AllReadyH.nil)
                go_simp
                go_at_call 51; (with_reducible refine (HV.out _).mono ?_); rintro e W6 ⟨rfl, hb6⟩
                refine hK.out _ _ (keep4 hHeld hb6) (fun hHeld => ?_)
                try walk_nrm
                refine tkTv (v := ?_) 8 ?_ (by assumption) ?_
                rotate_left
                · (intro w hSw; (try dsimp only at hSw); go_simp; try with_reducible rfl)
                try walk_nrm
                refine tkTv (v := ?_) 9 ?_ (by assumption) ?_
                rotate_left
                · (intro w hSw; (try dsimp only at hSw); go_simp; try with_reducible rfl)
                try walk_nrm
                refine tkTv (v := ?_) 10 ?_ (by assumption) ?_
                rotate_left
                · (intro w hSw; (try dsimp only at hSw); go_simp; try with_reducible rfl)
                try walk_nrm
                refine tkTv (v := ?_) 11 ?_ (by assumption) ?_
                rotate_left
                · (intro w hSw; (try dsimp only at hSw); go_simp; try with_reducible rfl)
                try walk_nrm
                refine tkTv (v := ?_) 12 ?_ (by assumption) ?_
                rotate_left
                · (intro w hSw; (try dsimp only at hSw); go_simp; try with_reducible rfl)
                try walk_nrm
                refine tkTv (v := ?_) 13 ?_ (by assumption) ?_
                rotate_left
                · (intro w hSw; (try dsimp only at hSw); go_simp; try with_reducible rfl)
                try walk_nrm
                refine tkTv (v := ?_) 14 ?_ (by assumption) ?_
                rotate_left
                · (intro w hSw; (try dsimp only at hSw); go_simp; try with_reducible rfl)
                try walk_nrm
                refine tkTv (v := ?_) 15 ?_ (by assumption) ?_
                rotate_left
                · (intro w hSw; (try dsimp only at hSw); go_simp; try with_reducible rfl)
                try walk_nrm
                refine tkTv (v := ?_) 16 ?_ (by assumption) ?_
                rotate_left
                · (intro w hSw; (try dsimp only at hSw); go_simp; try with_reducible rfl)
                try walk_nrm
                refine tkTv (v := ?_) 17 ?_ (by assumption) ?_
                rotate_left
                · (intro w hSw; (try dsimp only at hSw); go_simp; try with_reducible rfl)
                try walk_nrm
                refine tkTv (v := ?_) 18 ?_ (by assumption) ?_
                rotate_left
                · (intro w hSw; (try dsimp only at hSw); go_simp; try with_reducible rfl)
                try walk_nrm
                refine tkTv (v := ?_) 19 ?_ (by assumption) ?_
                rotate_left
                · (intro w hSw; (try dsimp only at hSw); go_simp; try with_reducible rfl)
                try walk_nrm
                refine tkTv (v := ?_) 20 ?_ (by assumption) ?_
                rotate_left
                · (intro w hSw; (try dsimp only at hSw); go_simp; try with_reducible rfl)
                try walk_nrm
                refine tkTv (v := ?_) 21 ?_ (by assumption) ?_
                rotate_left
                · (intro w hSw; (try dsimp only at hSw); go_simp; try with_reducible rfl)
                try walk_nrm
                refine tkTv (v := ?_) 22 ?_ (by assumption) ?_
                rotate_left
                · (intro w hSw; (try dsimp only at hSw); go_simp; try with_reducible rfl)
                try walk_nrm
                refine tkTv (v := ?_) 23 ?_ (by assumption) ?_
                rotate_left
                · (intro w hSw; (try dsimp only at hSw); go_simp; try with_reducible rfl)
                try walk_nrm
                refine tkTv (v := ?_) 24 ?_ (by assumption) ?_
                rotate_left
                · (intro w hSw; (try dsimp only at hSw); go_simp; try with_reducible rfl)
                try walk_nrm
                refine tkTv (v := ?_) 25 ?_ (by assumption) ?_
                rotate_left
                · (intro w hSw; (try dsimp only at hSw); go_simp; try with_reducible rfl)
                try walk_nrm
                refine tkTv (v := ?_) 26 ?_ (by assumption) ?_
                rotate_left
                · (intro w hSw; (try dsimp only at hSw); go_simp; try with_reducible rfl)
                try walk_nrm
                refine tkTv (v := ?_) 27 ?_ (by assumption) ?_
                rotate_left
                · (intro w hSw; (try dsimp only at hSw); go_simp; try with_reducible rfl)
                try walk_nrm
                refine tkTv (v := ?_) 28 ?_ (by assumption) ?_
                rotate_left
                · (intro w hSw; (try dsimp only at hSw); go_simp; try with_reducible rfl)
                try walk_nrm
                refine tkTv (v := ?_) 29 ?_ (by assumption) ?_
                rotate_left
                · (intro w hSw; (try dsimp only at hSw); go_simp; try with_reducible rfl)
                try walk_nrm
                refine tkTv (v := ?_) 30 ?_ (by assumption) ?_
                rotate_left
                · (intro w hSw; (try dsimp only at hSw); go_simp; try with_reducible rfl)
                try walk_nrm
                refine wpAnyH_done (by kernel_rfl) ?_ _
                have hNS := HN.out.keep hHeld.2.2.2.2
                have HW := Lib.hid hHeld.2.2.2.2
                have hGP := HG.out (l1pB p) _ hNS
                have HP := Lib.hid (fun w => l1Parent_c p PSZ.out (size_of_depth HD1.out) w)
                rw [show l1pB p = parB p from l1pB_parent p HD1.out] at hGP HP
                generalize parB p = pp at hGP HP HO2
                have HGP := Lib.hid hGP
                clear hGP hNS
                go_wp2_with fail
                refine (HP.out _).mono ?_; rintro e W7 ⟨rfl, rfl⟩
                go_wp2_with fail
                refine HGP.out.mono ?_; rintro e W8 ⟨rfl, hb8⟩
                have B8 := Lib.hid (below_next HW.out hb8)
                clear hb8
                unfold con
                have hfk := fun k v W => field_kind k v W
                by_cases h1 : (getT ns pp).1 = 1
                · have HO3 := Lib.hid (show okAt ns (j + 1) = true by rw [HO2.out, h1]; rfl)
                  generalize (getT ns pp).2 = kv
                  rw [h1]
                  clear h1
                  go_wp2
                  exact ⟨⟨j + 1 + 1, by go_num, by have := HE.out; have := HLT.out; omega, below_succ HM.out HO3.out, B8⟩, by have := HLT.out; simp [intOf]; omega⟩
                · have HO3 := Lib.hid (show okAt ns (j + 1) = false by rw [HO2.out]; simpa using h1)
                  have HX := Lib.hid (validT_bad (by have := HE.out; have := HLT.out; omega) HO3.out)
                  have h1' : ((getT ns pp).1 == 1) = false := beq_eq_false_iff_ne.2 h1
                  go_wp2
                  go_ret
                  exact ⟨by rw [HX.out]; rfl, B8.out⟩
    · have hge : (len : Int) ≤ i := by omega
      have HX := Lib.hid (validT_all (ns := ns) (fun j hj => HM.out j (by have := HE.out; omega)))
      have HC := Lib.hid (show decide (ns.length ≤ 10) = decide ((len : Int) ≤ 10) by rw [HE.out]; exact dec_le len)
      clear hi hlt
      go_wp2
      go_ret
      exact ⟨by rw [HX.out, HC.out]; rfl, HB.out⟩

end Go.Proofs.Ytoipbocbgadjbaa
