/-
  WALKS: filters of the model: spec.IgnoresValid, l23In, l23Touches, l23Filter, FilterKeep, FilterHold, FilterTree.
-/
import Derived.Deep.RegionHeld3
import Derived.Laws.StructEq
import Derived.Deep.QuietTactic
import Derived.Test.YtmlnakkfjecibaaZd
import Derived.Test.YtmlnakkfjecibaaQ3
import Derived.Test.YtmlnakkfjecibaaSm
namespace Go.Proofs.Ytmlnakkfjecibaa
open Go.RowKit
set_option linter.unusedVariables false

theorem ze_first : (0 : Nat) ≤ 0 := Nat.le_refl 0

theorem sift_take {α : Type} {f : α → Bool} {cs : List α} {n : Nat} {d : α} (h : cs[n]? = some d) : (cs.take (n + 1)).filter f = (cs.take n).filter f ++ (if f d = true then [d] else []) := by
  rw [List.take_add_one, h, List.filter_append]
  congr 1
  show List.filter f [d] = _
  rw [List.filter_cons]
  rfl
theorem sift_in {α : Type} {f : α → Bool} {cs : List α} {n : Nat} {d : α} (h : cs[n]? = some d) (hf : f d = true) : (cs.take (n + 1)).filter f = (cs.take n).filter f ++ [d] := by
  rw [sift_take h, if_pos hf]
theorem sift_out {α : Type} {f : α → Bool} {cs : List α} {n : Nat} {d : α} (h : cs[n]? = some d) (hf : f d = false) : (cs.take (n + 1)).filter f = (cs.take n).filter f := by
  rw [sift_take h, if_neg (by rw [hf]; exact Bool.false_ne_true), List.append_nil]
theorem siftx_end {α : Type} {f : α → Bool} {cs : List α} {n : Nat} {ok : Bool} (h : n = 0 ∨ ok = true) (k : ok = false ∨ cs.length ≤ n) : (if ok = true then cs.filter f else []) = (cs.take n).filter f := by
  cases ok with
  | true =>
    rcases k with k | k
    · cases k
    · rw [if_pos rfl, List.take_of_length_le k]
  | false =>
    rcases h with h | h
    · rw [h]; rfl
    · cases h
theorem sift_len {α : Type} (f : α → Bool) (cs : List α) (n : Nat) : ((cs.take n).filter f).length ≤ n := by
  have h1 := List.length_filter_le f (cs.take n)
  have h2 := List.length_take_le n cs
  omega

/-- A loop that picks commands. -/
def SiftRel (ok : Bool) (f : Cmd → Bool) (cs : List Cmd) (W : World) (o k : Value) (wr : World) : Prop :=
  ∃ n : Nat, k = .int .i64 n ∧ n ≤ cs.length ∧ Hid (n = 0 ∨ ok = true) ∧ wr.ownsRow W.heap.size 32 5 o ((cs.take n).filter f).length (flatC ((cs.take n).filter f)) ∧ Hid (Below W.heap.size W wr)

/-- A loop that picks nodes. -/
def SiftRelN (ok : Bool) (f : Nd → Bool) (cs : List Nd) (W : World) (o k : Value) (wr : World) : Prop :=
  ∃ n : Nat, k = .int .i64 n ∧ n ≤ cs.length ∧ Hid (n = 0 ∨ ok = true) ∧ wr.ownsRow W.heap.size 46 3 o ((cs.take n).filter f).length (flatN ((cs.take n).filter f)) ∧ Hid (Below W.heap.size W wr)

theorem nodes_lit (W : World) (n : Nd) : NodesAt (W.alloc (.cells #[.string n.p, .int .i64 n.k, .int .i64 n.v] 46)) (some ⟨W.heap.size, 0, none⟩) 1 [n] := by
  refine ⟨rfl, .inr ⟨W.heap.size, 0, rfl, fun i d hd => ?_⟩⟩
  match i, hd with
  | 0, hd =>
    simp at hd
    subst hd
    refine ⟨?_, ?_, ?_⟩ <;> rw [World.cell?_alloc_new] <;> rfl

/-- All texts of a list are of modest length. -/
def ShortX (m : Nat) (xs : List ByteArray) : Prop := ∀ q ∈ xs, q.size ≤ m
theorem ShortX.at {m : Nat} {xs : List ByteArray} (h : ShortX m xs) {i : Nat} {q : ByteArray} (hq : xs[i]? = some q) : q.size ≤ m := h q (List.mem_of_getElem? hq)
theorem ShortX.mono {m n : Nat} {xs : List ByteArray} (h : ShortX m xs) (hmn : m ≤ n) : ShortX n xs := fun q hq => Nat.le_trans (h q hq) hmn

theorem textAny_at {f : ByteArray → Bool} {cs : List ByteArray} {n : Nat} {d : ByteArray} (h : cs[n]? = some d) (hf : f d = true) : cs.any f = true :=
  List.any_eq_true.2 ⟨d, List.mem_of_getElem? h, hf⟩
theorem textAny_none {f : ByteArray → Bool} {cs : List ByteArray} (h : ∀ (j : Nat) (d : ByteArray), cs[j]? = some d → f d = false) : cs.any f = false := by
  rw [Bool.eq_false_iff]
  intro hs
  obtain ⟨d, hd, hf⟩ := List.any_eq_true.1 hs
  obtain ⟨j, hj⟩ := List.getElem?_of_mem hd
  rw [h j d hj] at hf
  cases hf
theorem textAny_next {f : ByteArray → Bool} {cs : List ByteArray} {n : Nat} {d : ByteArray} (h : ∀ (j : Nat) (d : ByteArray), j < n → cs[j]? = some d → f d = false) (hd : cs[n]? = some d) (hf : f d = false) : Hid (∀ (j : Nat) (d : ByteArray), j < n + 1 → cs[j]? = some d → f d = false) := by
  intro j x hj hx
  by_cases e : j < n
  · exact h j x e hx
  · obtain rfl : j = n := by omega
    rw [hd] at hx
    obtain rfl := Option.some.inj hx
    exact hf

theorem igV_short {igs : List ByteArray} (h : ∀ (j : Nat) (q : ByteArray), igs[j]? = some q → decide (depB q < 1) = false) : igV igs = decide (igs.length ≤ 4) := by
  unfold igV
  rw [List.all_eq_true.2 (fun q hq => by
    obtain ⟨j, hj⟩ := List.getElem?_of_mem hq
    have := of_decide_eq_false (h j q hj)
    exact decide_eq_true (by omega))]
  rfl
theorem igV_one {igs : List ByteArray} {j : Nat} {q : ByteArray} (hq : igs[j]? = some q) (h : decide (depB q < 1) = true) : igV igs = false := by
  rw [Bool.eq_false_iff]
  intro k
  have h1 := (igV_iff.1 k).1 q (List.mem_of_getElem? hq)
  have := of_decide_eq_true h
  omega
theorem dec_le4 (len : Nat) : decide (len ≤ 4) = decide ((len : Int) ≤ 4) := by
  by_cases h : len ≤ 4
  · rw [decide_eq_true h, decide_eq_true (by omega)]
  · rw [decide_eq_false h, decide_eq_false (by omega)]

set_option maxHeartbeats 2000000 in
set_option maxRecDepth 100000 in
theorem specIgnores_c (a : Option Addr) (len cap : Nat) (igs : List ByteArray) (hl : len ≤ 2097152) (hs : ShortX 2097152 igs) (W : World) (hN : TextsAt W a len igs) :
    Calls Try.prog 18 #[.slice a len cap] W (BoolPost (igV igs) W) := by
  have HN := Lib.hid hN
  have HE := Lib.hid hN.1
  have HS := Lib.hid hs
  have hl' : (len : Int) ≤ 2097152 := by omega
  clear hN hs
  go_enter Try.func18, Try.ntmps18
  go_wp2
  go_loopw [3] (fun i wr => ∃ n : Nat, i = .int .i64 n ∧ n ≤ len ∧ Hid (∀ (j : Nat) (q : ByteArray), j < n → igs[j]? = some q → decide (depB q < 1) = false) ∧ Hid (Below W.heap.size W wr)) (fun i _ => len - (intOf i).toNat)
  case atStart => exact ⟨0, rfl, Nat.zero_le _, Lib.hid (fun j d h => absurd h (Nat.not_lt_zero _)), Lib.hid (Below.refl _ _)⟩
  case round =>
    obtain ⟨n, rfl, hn, HNO, HB⟩ := hrel
    by_cases hlt : n < len
    · have hlt' : (n : Int) < len := by omega
      have hw1 : IntKind.i64.wrap ((n : Int) + 1) = (n : Int) + 1 := IntWalk.i64_in _ (by omega)
      have HLT := Lib.hid hlt
      obtain ⟨b, off, q, rfl, hq, x0⟩ := (HN.out.keep HB.out).node hlt
      obtain ⟨dp, hdp⟩ : ∃ dp, depB q = dp := ⟨_, rfl⟩
      have HD := Lib.hid (fun w => show Calls Try.prog 54 #[.string q] w (fun e w' => e = .returned (.int .i64 dp) ∧ Below w.heap.size w w') by rw [← hdp]; exact specDepth_c q (HS.out.at hq) w)
      have HQ := Lib.hid (And.intro hq hdp)
      clear hn hlt hq hdp
      go_wp2_with fail
      refine (HD.out _).mono ?_
      rintro e W1 ⟨rfl, hb1⟩
      have B1 := Lib.hid (below_next HB.out hb1)
      clear hb1 x0
      by_cases h1 : dp < 1
      · have HX := Lib.hid (igV_one HQ.out.1 (by rw [HQ.out.2]; exact decide_eq_true h1))
        go_wp2
        go_ret
        exact ⟨ret_bool HX.out.symm, B1.out⟩
      · have HX := Lib.hid (textAny_next (f := fun q => decide (depB q < 1)) HNO.out HQ.out.1 (by show decide (depB q < 1) = false; rw [HQ.out.2]; exact decide_eq_false h1))
        go_wp2
        go_roundw
        case rel => exact ⟨n + 1, by go_num, HLT.out, HX.out, B1⟩
        case measure => have := HLT.out; simp [intOf]; omega
    · have hge : (len : Int) ≤ n := by omega
      have HX := Lib.hid ((igV_short (igs := igs) (fun j q hq => HNO.out j q (by have := (List.getElem?_eq_some_iff.1 hq).1; have := HE.out; omega) hq)).trans (show _ = decide ((len : Int) ≤ 4) by rw [HE.out, dec_le4]))
      clear hn hlt
      go_wp2
      go_ret
      exact ⟨ret_bool HX.out.symm, HB.out⟩

theorem inB_step (q p : ByteArray) : decide (q = p) = (q.toList == p.toList) := by
  by_cases h : q = p
  · rw [h]; simp
  · rw [toList_ne h]; exact decide_eq_false h

set_option maxHeartbeats 2000000 in
set_option maxRecDepth 100000 in
theorem specIn_c (a : Option Addr) (len cap : Nat) (igs : List ByteArray) (p : ByteArray) (hl : len ≤ 2097152) (W : World) (hN : TextsAt W a len igs) :
    Calls Try.prog 58 #[.slice a len cap, .string p] W (BoolPost (inB igs p) W) := by
  obtain ⟨f, hf⟩ : ∃ f : ByteArray → Bool, f = (fun q => decide (q = p) || l1uB q p) := ⟨_, rfl⟩
  have HR := Lib.hid (show inB igs p = igs.any f by unfold inB; rw [hf])
  have HF := Lib.hid (fun q => congrFun hf q)
  have HN := Lib.hid hN
  have HE := Lib.hid hN.1
  have hl' : (len : Int) ≤ 2097152 := by omega
  clear hN hf
  go_enter Try.func58, Try.ntmps58
  go_wp2
  go_loopw [5] (fun i wr => ∃ n : Nat, i = .int .i64 n ∧ n ≤ len ∧ Hid (∀ (j : Nat) (q : ByteArray), j < n → igs[j]? = some q → f q = false) ∧ Hid (Below W.heap.size W wr)) (fun i _ => len - (intOf i).toNat)
  case atStart => exact ⟨0, rfl, Nat.zero_le _, Lib.hid (fun j d h => absurd h (Nat.not_lt_zero _)), Lib.hid (Below.refl _ _)⟩
  case round =>
    obtain ⟨n, rfl, hn, HNO, HB⟩ := hrel
    by_cases hlt : n < len
    · have hlt' : (n : Int) < len := by omega
      have hw1 : IntKind.i64.wrap ((n : Int) + 1) = (n : Int) + 1 := IntWalk.i64_in _ (by omega)
      have HLT := Lib.hid hlt
      obtain ⟨b, off, q, rfl, hq, x0⟩ := (HN.out.keep HB.out).node hlt
      obtain ⟨y, hy⟩ : ∃ y, (q.toList == p.toList) = y := ⟨_, rfl⟩
      obtain ⟨u, hu⟩ : ∃ u, l1uB q p = u := ⟨_, rfl⟩
      have HU := Lib.hid (fun w => show Calls Try.prog 90 #[.string q, .string p] w (fun e w' => e = .returned (.bool u) ∧ w = w') by rw [← hu]; exact l1Under_c q p w)
      have HQ := Lib.hid hq
      have HX := Lib.hid (show f q = (y || u) by rw [HF.out, inB_step, hy, hu])
      clear hn hlt hq hu
      cases y with
      | true =>
        have HX := Lib.hid (textAny_at HQ.out (HX.out.trans rfl))
        go_wp2
        go_ret
        exact ⟨ret_bool (by rw [HR.out, HX.out]), HB.out⟩
      | false =>
        go_wp2_with fail
        refine (HU.out _).mono ?_
        rintro e W1 ⟨rfl, rfl⟩
        cases u with
        | true =>
          have HX := Lib.hid (textAny_at HQ.out (HX.out.trans rfl))
          go_wp2
          go_ret
          exact ⟨ret_bool (by rw [HR.out, HX.out]), HB.out⟩
        | false =>
          have HX := Lib.hid (textAny_next HNO.out HQ.out (HX.out.trans rfl))
          go_wp2
          go_roundw
          case rel => exact ⟨n + 1, by go_num, HLT.out, HX.out, HB⟩
          case measure => have := HLT.out; simp [intOf]; omega
    · have hge : (len : Int) ≤ n := by omega
      have HX := Lib.hid (textAny_none (f := f) (cs := igs) (fun j d hd => HNO.out j d (by have := (List.getElem?_eq_some_iff.1 hd).1; have := HE.out; omega) hd))
      clear hn hlt
      go_wp2
      go_ret
      exact ⟨ret_bool (by rw [HR.out, HX.out]), HB.out⟩

set_option maxHeartbeats 2000000 in
set_option maxRecDepth 100000 in
theorem specTouches_c (a : Option Addr) (len cap : Nat) (igs : List ByteArray) (c : Cmd) (hl : len ≤ 2097152) (W : World) (hN : TextsAt W a len igs) :
    Calls Try.prog 83 #[.slice a len cap, cmdV c] W (BoolPost (touchL igs c) W) := by
  obtain ⟨f, hf⟩ : ∃ f : ByteArray → Bool, f = overI c := ⟨_, rfl⟩
  obtain ⟨x, hx⟩ : ∃ x, (c.tk == 1) = x := ⟨_, rfl⟩
  obtain ⟨v, hv⟩ : ∃ x, inB igs c.p = x := ⟨_, rfl⟩
  have HI := Lib.hid (fun w (hb : Below W.heap.size W w) => show Calls Try.prog 58 #[.slice a len cap, .string c.p] w (BoolPost v w) by rw [← hv]; exact specIn_c a len cap igs c.p hl w (hN.keep hb))
  have HR := Lib.hid (show touchL igs c = (igs.any f || v) by unfold touchL; rw [hf, hv])
  have HF := Lib.hid (fun q => show f q = (l1uB c.p q && !x) by rw [hf, ← hx]; rfl)
  have HN := Lib.hid hN
  have HE := Lib.hid hN.1
  have hl' : (len : Int) ≤ 2097152 := by omega
  have HBX := Lib.hid (below_box W (.cells #[.string c.p, .int .i64 c.fk, .int .i64 c.fv, .int .i64 c.tk, .int .i64 c.tv] 32))
  have HC := Lib.hid (cmds_lit W c)
  have HU := Lib.hid (fun q w => l1Under_c c.p q w)
  clear hN hf hv
  obtain ⟨p, fk, fv, tk, tv⟩ := c
  unfold cmdV
  simp only at HI HBX HC HU HF hx ⊢
  have hxn : (tk != 1) = !x := by rw [bne, hx]
  go_enter Try.func83, Try.ntmps83
  go_wp2
  generalize W.alloc (.cells #[.string p, .int .i64 fk, .int .i64 fv, .int .i64 tk, .int .i64 tv] 32) = W0 at HC HBX ⊢
  go_loopw [5] (fun i wr => ∃ n : Nat, i = .int .i64 n ∧ n ≤ len ∧ Hid (∀ (j : Nat) (q : ByteArray), j < n → igs[j]? = some q → f q = false) ∧ Hid (Below W0.heap.size W0 wr)) (fun i _ => len - (intOf i).toNat)
  case atStart => exact ⟨0, rfl, Nat.zero_le _, Lib.hid (fun j d h => absurd h (Nat.not_lt_zero _)), Lib.hid (Below.refl _ _)⟩
  case round =>
    obtain ⟨n, rfl, hn, HNO, HB⟩ := hrel
    obtain ⟨b1, off1, c', e1, e2, c0, c1, c2, c3, c4⟩ := (HC.out.keep HB.out).node (i := 0) (by omega)
    cases e1
    obtain rfl : _ = c' := by simpa using e2
    simp only [Nat.zero_mul, Nat.zero_add, Nat.add_zero] at c0 c1 c2 c3 c4
    clear e2
    by_cases hlt : n < len
    · have hlt' : (n : Int) < len := by omega
      have hw1 : IntKind.i64.wrap ((n : Int) + 1) = (n : Int) + 1 := IntWalk.i64_in _ (by omega)
      have HLT := Lib.hid hlt
      obtain ⟨b, off, q, rfl, hq, x0⟩ := (HN.out.keep (below_next HBX.out HB.out)).node hlt
      obtain ⟨u, hu⟩ : ∃ u, l1uB p q = u := ⟨_, rfl⟩
      have HUq := Lib.hid (fun w => show Calls Try.prog 90 #[.string p, .string q] w (fun e w' => e = .returned (.bool u) ∧ w = w') by rw [← hu]; exact HU.out q w)
      have HQ := Lib.hid hq
      have HX := Lib.hid (show f q = (u && !x) by rw [HF.out, hu])
      clear hn hlt hq hu
      have HS0 := Lib.hid (show wr.drew.cell? ⟨W.heap.size, 0, none⟩ = some (.string p) ∧ wr.drew.cell? ⟨W.heap.size, 3, none⟩ = some (.int .i64 tk) ∧ wr.drew.cell? ⟨b, off + n, none⟩ = some (.string q) ∧ Below W0.heap.size W0 wr.drew from ⟨c0, c3, x0, HB.out.drew⟩)
      have HBY := Lib.hid HB.out.drew
      have HBZ := Lib.hid (below_next HBX.out HBY.out)
      clear c0 c1 c2 c3 c4 x0
      cases u with
      | false =>
        go_upto_region 4 with (fail)
        refine wp_region_held_drew (S := fun w' => w'.cell? ⟨W.heap.size, 0, none⟩ = some (.string p) ∧ w'.cell? ⟨W.heap.size, 3, none⟩ = some (.int .i64 tk) ∧ w'.cell? ⟨b, off + n, none⟩ = some (.string q) ∧ Below W0.heap.size W0 w') (by kernel_rfl) HS0.out (fun hH => ?_)
        refine wpAnyH_take (i := 0) (oi := _) (v := ?_) rfl (by kernel_rfl) (by kernel_rfl) (by kernel_rfl) (fun _ _ _ h => h) (Or.inl ⟨by rfl, ?_⟩) (by assumption) ?_
        rotate_left
        · (intro w hSw; (try dsimp only at hSw); go_simp; try with_reducible rfl)
        try simp only [Act.put, List.getElem_toArray, List.getElem_cons_zero, List.setIfInBounds_toArray, List.set_cons_zero, List.set_cons_succ]
        refine wpAnyH_take (i := 1) (oi := _) (v := ?_) rfl (by kernel_rfl) (by kernel_rfl) (by kernel_rfl) (fun _ _ _ h => h) (Or.inl ⟨by rfl, ?_⟩) (by assumption) ?_
        rotate_left
        · (intro w hSw; (try dsimp only at hSw); go_simp; try with_reducible rfl)
        try simp only [Act.put, List.getElem_toArray, List.getElem_cons_zero, List.getElem_cons_succ, List.setIfInBounds_toArray, List.set_cons_zero, List.set_cons_succ]
        refine wpAnyH_take (i := 2) (oi := _) (v := ?_) rfl (by kernel_rfl) (by kernel_rfl) (by kernel_rfl) (fun _ _ _ h => h) (Or.inl ⟨by rfl, ?_⟩) (by assumption) ?_
        rotate_left
        · (intro w hSw; (try dsimp only at hSw); go_simp; try with_reducible rfl)
        try simp only [Act.put, List.getElem_toArray, List.getElem_cons_zero, List.getElem_cons_succ, List.setIfInBounds_toArray, List.set_cons_zero, List.set_cons_succ]
        refine wpAnyH_take (i := 3) (oi := _) (v := ?_) rfl (by kernel_rfl) (by kernel_rfl) (by kernel_rfl) (fun _ _ _ h => h) (Or.inl ⟨by rfl, ?_⟩) (by assumption) ?_
        rotate_left
        · (intro w hSw; (try dsimp only at hSw); go_simp; try with_reducible rfl)
        try simp only [Act.put, List.getElem_toArray, List.getElem_cons_zero, List.getElem_cons_succ, List.setIfInBounds_toArray, List.set_cons_zero, List.set_cons_succ]
        refine wpAnyH_take (i := 4) (oi := _) (v := ?_) rfl (by kernel_rfl) (by kernel_rfl) (by kernel_rfl) (fun _ _ _ h => h) (Or.inl ⟨by rfl, ?_⟩) (by assumption) ?_
        rotate_left
        · (intro w hSw; (try dsimp only at hSw); go_simp; try with_reducible rfl)
        try simp only [Act.put, List.getElem_toArray, List.getElem_cons_zero, List.getElem_cons_succ, List.setIfInBounds_toArray, List.set_cons_zero, List.set_cons_succ]
        refine wpAnyH_take (i := 5) (oi := _) (v := ?_) rfl (by kernel_rfl) (by kernel_rfl) (by kernel_rfl) (fun _ _ _ h => h) (Or.inl ⟨by rfl, ?_⟩) (by assumption) ?_
        rotate_left
        · (intro w hSw; (try dsimp only at hSw); go_simp; try with_reducible rfl)
        try simp only [Act.put, List.getElem_toArray, List.getElem_cons_zero, List.getElem_cons_succ, List.setIfInBounds_toArray, List.set_cons_zero, List.set_cons_succ]
        refine wpAnyH_ready (rs := [6]) (by kernel_rfl) (by simp) ?_
        refine AllReadyH.cons rfl (fun K hK => ?_) (AllReadyH.nil)
        go_simp
        go_at_call 90; (with_reducible refine (HUq.out _).mono ?_); rintro e W8 ⟨rfl, rfl⟩
        refine hK.out _ _ HS0.out (fun hHeld => ?_)
        try simp only [Act.put, List.getElem_toArray, List.getElem_cons_zero, List.getElem_cons_succ, List.setIfInBounds_toArray, List.set_cons_zero, List.set_cons_succ]
        refine wpAnyH_take (i := 7) (oi := _) (v := ?_) rfl (by kernel_rfl) (by kernel_rfl) (by kernel_rfl) (fun _ _ _ h => h) (Or.inl ⟨by rfl, ?_⟩) (by assumption) ?_
        rotate_left
        · (intro w hSw; (try dsimp only at hSw); go_simp; try with_reducible rfl)
        try simp only [Act.put, List.getElem_toArray, List.getElem_cons_zero, List.getElem_cons_succ, List.setIfInBounds_toArray, List.set_cons_zero, List.set_cons_succ]
        first | refine wpAnyH_take (i := 8) (oi := _) (v := undef) rfl (by kernel_rfl) (by kernel_rfl) (by kernel_rfl) (fun _ _ _ h => h) (Or.inr ⟨by rfl, rfl⟩) (by assumption) ?_ | (refine wpAnyH_ready (rs := [8]) (by kernel_rfl) (by simp) ?_; refine AllReadyH.cons rfl (fun K hK => ?_) (AllReadyH.nil); rw [if_neg (by decide)]; refine hK.out _ _ (by assumption) (fun hHeld => ?_))
        try simp only [Act.put, List.getElem_toArray, List.getElem_cons_zero, List.getElem_cons_succ, List.setIfInBounds_toArray, List.set_cons_zero, List.set_cons_succ]
        first | refine wpAnyH_take (i := 9) (oi := _) (v := undef) rfl (by kernel_rfl) (by kernel_rfl) (by kernel_rfl) (fun _ _ _ h => h) (Or.inr ⟨by rfl, rfl⟩) (by assumption) ?_ | (refine wpAnyH_ready (rs := [9]) (by kernel_rfl) (by simp) ?_; refine AllReadyH.cons rfl (fun K hK => ?_) (AllReadyH.nil); rw [if_neg (by decide)]; refine hK.out _ _ (by assumption) (fun hHeld => ?_))
        try simp only [Act.put, List.getElem_toArray, List.getElem_cons_zero, List.getElem_cons_succ, List.setIfInBounds_toArray, List.set_cons_zero, List.set_cons_succ]
        first | refine wpAnyH_take (i := 10) (oi := _) (v := undef) rfl (by kernel_rfl) (by kernel_rfl) (by kernel_rfl) (fun _ _ _ h => h) (Or.inr ⟨by rfl, rfl⟩) (by assumption) ?_ | (refine wpAnyH_ready (rs := [10]) (by kernel_rfl) (by simp) ?_; refine AllReadyH.cons rfl (fun K hK => ?_) (AllReadyH.nil); rw [if_neg (by decide)]; refine hK.out _ _ (by assumption) (fun hHeld => ?_))
        try simp only [Act.put, List.getElem_toArray, List.getElem_cons_zero, List.getElem_cons_succ, List.setIfInBounds_toArray, List.set_cons_zero, List.set_cons_succ]
        first | refine wpAnyH_take (i := 11) (oi := _) (v := undef) rfl (by kernel_rfl) (by kernel_rfl) (by kernel_rfl) (fun _ _ _ h => h) (Or.inr ⟨by rfl, rfl⟩) (by assumption) ?_ | (refine wpAnyH_ready (rs := [11]) (by kernel_rfl) (by simp) ?_; refine AllReadyH.cons rfl (fun K hK => ?_) (AllReadyH.nil); rw [if_neg (by decide)]; refine hK.out _ _ (by assumption) (fun hHeld => ?_))
        try simp only [Act.put, List.getElem_toArray, List.getElem_cons_zero, List.getElem_cons_succ, List.setIfInBounds_toArray, List.set_cons_zero, List.set_cons_succ]
        refine wpAnyH_take (i := 12) (oi := _) (v := ?_) rfl (by kernel_rfl) (by kernel_rfl) (by kernel_rfl) (fun _ _ _ h => h) (Or.inl ⟨by rfl, ?_⟩) (by assumption) ?_
        rotate_left
        · (intro w hSw; (try dsimp only at hSw); go_simp; try with_reducible rfl)
        try simp only [Act.put, List.getElem_toArray, List.getElem_cons_zero, List.getElem_cons_succ, List.setIfInBounds_toArray, List.set_cons_zero, List.set_cons_succ]
        refine wpAnyH_done (by kernel_rfl) ?_ _
        have HX := Lib.hid (textAny_next HNO.out HQ.out (HX.out.trans rfl))
        go_wp2
        go_roundw
        case rel => exact ⟨n + 1, by go_num, HLT.out, HX.out, HBY⟩
        case measure => have := HLT.out; simp [intOf]; omega
      | true =>
        cases x with
        | true =>
          go_upto_region 4 with (fail)
          refine wp_region_held_drew (S := fun w' => w'.cell? ⟨W.heap.size, 0, none⟩ = some (.string p) ∧ w'.cell? ⟨W.heap.size, 3, none⟩ = some (.int .i64 tk) ∧ w'.cell? ⟨b, off + n, none⟩ = some (.string q) ∧ Below W0.heap.size W0 w') (by kernel_rfl) HS0.out (fun hH => ?_)
          refine wpAnyH_take (i := 0) (oi := _) (v := ?_) rfl (by kernel_rfl) (by kernel_rfl) (by kernel_rfl) (fun _ _ _ h => h) (Or.inl ⟨by rfl, ?_⟩) (by assumption) ?_
          rotate_left
          · (intro w hSw; (try dsimp only at hSw); go_simp; try with_reducible rfl)
          try simp only [Act.put, List.getElem_toArray, List.getElem_cons_zero, List.setIfInBounds_toArray, List.set_cons_zero, List.set_cons_succ]
          refine wpAnyH_take (i := 1) (oi := _) (v := ?_) rfl (by kernel_rfl) (by kernel_rfl) (by kernel_rfl) (fun _ _ _ h => h) (Or.inl ⟨by rfl, ?_⟩) (by assumption) ?_
          rotate_left
          · (intro w hSw; (try dsimp only at hSw); go_simp; try with_reducible rfl)
          try simp only [Act.put, List.getElem_toArray, List.getElem_cons_zero, List.getElem_cons_succ, List.setIfInBounds_toArray, List.set_cons_zero, List.set_cons_succ]
          refine wpAnyH_take (i := 2) (oi := _) (v := ?_) rfl (by kernel_rfl) (by kernel_rfl) (by kernel_rfl) (fun _ _ _ h => h) (Or.inl ⟨by rfl, ?_⟩) (by assumption) ?_
          rotate_left
          · (intro w hSw; (try dsimp only at hSw); go_simp; try with_reducible rfl)
          try simp only [Act.put, List.getElem_toArray, List.getElem_cons_zero, List.getElem_cons_succ, List.setIfInBounds_toArray, List.set_cons_zero, List.set_cons_succ]
          refine wpAnyH_take (i := 3) (oi := _) (v := ?_) rfl (by kernel_rfl) (by kernel_rfl) (by kernel_rfl) (fun _ _ _ h => h) (Or.inl ⟨by rfl, ?_⟩) (by assumption) ?_
          rotate_left
          · (intro w hSw; (try dsimp only at hSw); go_simp; try with_reducible rfl)
          try simp only [Act.put, List.getElem_toArray, List.getElem_cons_zero, List.getElem_cons_succ, List.setIfInBounds_toArray, List.set_cons_zero, List.set_cons_succ]
          refine wpAnyH_take (i := 4) (oi := _) (v := ?_) rfl (by kernel_rfl) (by kernel_rfl) (by kernel_rfl) (fun _ _ _ h => h) (Or.inl ⟨by rfl, ?_⟩) (by assumption) ?_
          rotate_left
          · (intro w hSw; (try dsimp only at hSw); go_simp; try with_reducible rfl)
          try simp only [Act.put, List.getElem_toArray, List.getElem_cons_zero, List.getElem_cons_succ, List.setIfInBounds_toArray, List.set_cons_zero, List.set_cons_succ]
          refine wpAnyH_take (i := 5) (oi := _) (v := ?_) rfl (by kernel_rfl) (by kernel_rfl) (by kernel_rfl) (fun _ _ _ h => h) (Or.inl ⟨by rfl, ?_⟩) (by assumption) ?_
          rotate_left
          · (intro w hSw; (try dsimp only at hSw); go_simp; try with_reducible rfl)
          try simp only [Act.put, List.getElem_toArray, List.getElem_cons_zero, List.getElem_cons_succ, List.setIfInBounds_toArray, List.set_cons_zero, List.set_cons_succ]
          refine wpAnyH_ready (rs := [6]) (by kernel_rfl) (by simp) ?_
          refine AllReadyH.cons rfl (fun K hK => ?_) (AllReadyH.nil)
          go_simp
          go_at_call 90; (with_reducible refine (HUq.out _).mono ?_); rintro e W8 ⟨rfl, rfl⟩
          refine hK.out _ _ HS0.out (fun hHeld => ?_)
          try simp only [Act.put, List.getElem_toArray, List.getElem_cons_zero, List.getElem_cons_succ, List.setIfInBounds_toArray, List.set_cons_zero, List.set_cons_succ]
          refine wpAnyH_take (i := 7) (oi := _) (v := ?_) rfl (by kernel_rfl) (by kernel_rfl) (by kernel_rfl) (fun _ _ _ h => h) (Or.inl ⟨by rfl, ?_⟩) (by assumption) ?_
          rotate_left
          · (intro w hSw; (try dsimp only at hSw); go_simp; try with_reducible rfl)
          try simp only [Act.put, List.getElem_toArray, List.getElem_cons_zero, List.getElem_cons_succ, List.setIfInBounds_toArray, List.set_cons_zero, List.set_cons_succ]
          refine wpAnyH_take (i := 8) (oi := _) (v := ?_) rfl (by kernel_rfl) (by kernel_rfl) (by kernel_rfl) (fun _ _ _ h => h) (Or.inl ⟨by rfl, ?_⟩) (by assumption) ?_
          rotate_left
          · (intro w hSw; (try dsimp only at hSw); go_simp; try with_reducible rfl)
          try simp only [Act.put, List.getElem_toArray, List.getElem_cons_zero, List.getElem_cons_succ, List.setIfInBounds_toArray, List.set_cons_zero, List.set_cons_succ]
          refine wpAnyH_take (i := 9) (oi := _) (v := ?_) rfl (by kernel_rfl) (by kernel_rfl) (by kernel_rfl) (fun _ _ _ h => h) (Or.inl ⟨by rfl, ?_⟩) (by assumption) ?_
          rotate_left
          · (intro w hSw; (try dsimp only at hSw); go_simp; try with_reducible rfl)
          try simp only [Act.put, List.getElem_toArray, List.getElem_cons_zero, List.getElem_cons_succ, List.setIfInBounds_toArray, List.set_cons_zero, List.set_cons_succ]
          refine wpAnyH_take (i := 10) (oi := _) (v := ?_) rfl (by kernel_rfl) (by kernel_rfl) (by kernel_rfl) (fun _ _ _ h => h) (Or.inl ⟨by rfl, ?_⟩) (by assumption) ?_
          rotate_left
          · (intro w hSw; (try dsimp only at hSw); go_simp; try with_reducible rfl)
          try simp only [Act.put, List.getElem_toArray, List.getElem_cons_zero, List.getElem_cons_succ, List.setIfInBounds_toArray, List.set_cons_zero, List.set_cons_succ]
          refine wpAnyH_take (i := 11) (oi := _) (v := ?_) rfl (by kernel_rfl) (by kernel_rfl) (by kernel_rfl) (fun _ _ _ h => h) (Or.inl ⟨by rfl, ?_⟩) (by assumption) ?_
          rotate_left
          · (intro w hSw; (try dsimp only at hSw); go_simp; try with_reducible rfl)
          try simp only [Act.put, List.getElem_toArray, List.getElem_cons_zero, List.getElem_cons_succ, List.setIfInBounds_toArray, List.set_cons_zero, List.set_cons_succ]
          refine wpAnyH_take (i := 12) (oi := _) (v := ?_) rfl (by kernel_rfl) (by kernel_rfl) (by kernel_rfl) (fun _ _ _ h => h) (Or.inl ⟨by rfl, ?_⟩) (by assumption) ?_
          rotate_left
          · (intro w hSw; (try dsimp only at hSw); go_simp; try with_reducible rfl)
          try simp only [Act.put, List.getElem_toArray, List.getElem_cons_zero, List.getElem_cons_succ, List.setIfInBounds_toArray, List.set_cons_zero, List.set_cons_succ]
          refine wpAnyH_done (by kernel_rfl) ?_ _
          have HX := Lib.hid (textAny_next HNO.out HQ.out (HX.out.trans rfl))
          go_wp2
          go_roundw
          case rel => exact ⟨n + 1, by go_num, HLT.out, HX.out, HBY⟩
          case measure => have := HLT.out; simp [intOf]; omega
        | false =>
          go_upto_region 4 with (fail)
          refine wp_region_held_drew (S := fun w' => w'.cell? ⟨W.heap.size, 0, none⟩ = some (.string p) ∧ w'.cell? ⟨W.heap.size, 3, none⟩ = some (.int .i64 tk) ∧ w'.cell? ⟨b, off + n, none⟩ = some (.string q) ∧ Below W0.heap.size W0 w') (by kernel_rfl) HS0.out (fun hH => ?_)
          refine wpAnyH_take (i := 0) (oi := _) (v := ?_) rfl (by kernel_rfl) (by kernel_rfl) (by kernel_rfl) (fun _ _ _ h => h) (Or.inl ⟨by rfl, ?_⟩) (by assumption) ?_
          rotate_left
          · (intro w hSw; (try dsimp only at hSw); go_simp; try with_reducible rfl)
          try simp only [Act.put, List.getElem_toArray, List.getElem_cons_zero, List.setIfInBounds_toArray, List.set_cons_zero, List.set_cons_succ]
          refine wpAnyH_take (i := 1) (oi := _) (v := ?_) rfl (by kernel_rfl) (by kernel_rfl) (by kernel_rfl) (fun _ _ _ h => h) (Or.inl ⟨by rfl, ?_⟩) (by assumption) ?_
          rotate_left
          · (intro w hSw; (try dsimp only at hSw); go_simp; try with_reducible rfl)
          try simp only [Act.put, List.getElem_toArray, List.getElem_cons_zero, List.getElem_cons_succ, List.setIfInBounds_toArray, List.set_cons_zero, List.set_cons_succ]
          refine wpAnyH_take (i := 2) (oi := _) (v := ?_) rfl (by kernel_rfl) (by kernel_rfl) (by kernel_rfl) (fun _ _ _ h => h) (Or.inl ⟨by rfl, ?_⟩) (by assumption) ?_
          rotate_left
          · (intro w hSw; (try dsimp only at hSw); go_simp; try with_reducible rfl)
          try simp only [Act.put, List.getElem_toArray, List.getElem_cons_zero, List.getElem_cons_succ, List.setIfInBounds_toArray, List.set_cons_zero, List.set_cons_succ]
          refine wpAnyH_take (i := 3) (oi := _) (v := ?_) rfl (by kernel_rfl) (by kernel_rfl) (by kernel_rfl) (fun _ _ _ h => h) (Or.inl ⟨by rfl, ?_⟩) (by assumption) ?_
          rotate_left
          · (intro w hSw; (try dsimp only at hSw); go_simp; try with_reducible rfl)
          try simp only [Act.put, List.getElem_toArray, List.getElem_cons_zero, List.getElem_cons_succ, List.setIfInBounds_toArray, List.set_cons_zero, List.set_cons_succ]
          refine wpAnyH_take (i := 4) (oi := _) (v := ?_) rfl (by kernel_rfl) (by kernel_rfl) (by kernel_rfl) (fun _ _ _ h => h) (Or.inl ⟨by rfl, ?_⟩) (by assumption) ?_
          rotate_left
          · (intro w hSw; (try dsimp only at hSw); go_simp; try with_reducible rfl)
          try simp only [Act.put, List.getElem_toArray, List.getElem_cons_zero, List.getElem_cons_succ, List.setIfInBounds_toArray, List.set_cons_zero, List.set_cons_succ]
          refine wpAnyH_take (i := 5) (oi := _) (v := ?_) rfl (by kernel_rfl) (by kernel_rfl) (by kernel_rfl) (fun _ _ _ h => h) (Or.inl ⟨by rfl, ?_⟩) (by assumption) ?_
          rotate_left
          · (intro w hSw; (try dsimp only at hSw); go_simp; try with_reducible rfl)
          try simp only [Act.put, List.getElem_toArray, List.getElem_cons_zero, List.getElem_cons_succ, List.setIfInBounds_toArray, List.set_cons_zero, List.set_cons_succ]
          refine wpAnyH_ready (rs := [6]) (by kernel_rfl) (by simp) ?_
          refine AllReadyH.cons rfl (fun K hK => ?_) (AllReadyH.nil)
          go_simp
          go_at_call 90; (with_reducible refine (HUq.out _).mono ?_); rintro e W8 ⟨rfl, rfl⟩
          refine hK.out _ _ HS0.out (fun hHeld => ?_)
          try simp only [Act.put, List.getElem_toArray, List.getElem_cons_zero, List.getElem_cons_succ, List.setIfInBounds_toArray, List.set_cons_zero, List.set_cons_succ]
          refine wpAnyH_take (i := 7) (oi := _) (v := ?_) rfl (by kernel_rfl) (by kernel_rfl) (by kernel_rfl) (fun _ _ _ h => h) (Or.inl ⟨by rfl, ?_⟩) (by assumption) ?_
          rotate_left
          · (intro w hSw; (try dsimp only at hSw); go_simp; try with_reducible rfl)
          try simp only [Act.put, List.getElem_toArray, List.getElem_cons_zero, List.getElem_cons_succ, List.setIfInBounds_toArray, List.set_cons_zero, List.set_cons_succ]
          refine wpAnyH_take (i := 8) (oi := _) (v := ?_) rfl (by kernel_rfl) (by kernel_rfl) (by kernel_rfl) (fun _ _ _ h => h) (Or.inl ⟨by rfl, ?_⟩) (by assumption) ?_
          rotate_left
          · (intro w hSw; (try dsimp only at hSw); go_simp; try with_reducible rfl)
          try simp only [Act.put, List.getElem_toArray, List.getElem_cons_zero, List.getElem_cons_succ, List.setIfInBounds_toArray, List.set_cons_zero, List.set_cons_succ]
          refine wpAnyH_take (i := 9) (oi := _) (v := ?_) rfl (by kernel_rfl) (by kernel_rfl) (by kernel_rfl) (fun _ _ _ h => h) (Or.inl ⟨by rfl, ?_⟩) (by assumption) ?_
          rotate_left
          · (intro w hSw; (try dsimp only at hSw); go_simp; try with_reducible rfl)
          try simp only [Act.put, List.getElem_toArray, List.getElem_cons_zero, List.getElem_cons_succ, List.setIfInBounds_toArray, List.set_cons_zero, List.set_cons_succ]
          refine wpAnyH_take (i := 10) (oi := _) (v := ?_) rfl (by kernel_rfl) (by kernel_rfl) (by kernel_rfl) (fun _ _ _ h => h) (Or.inl ⟨by rfl, ?_⟩) (by assumption) ?_
          rotate_left
          · (intro w hSw; (try dsimp only at hSw); go_simp; try with_reducible rfl)
          try simp only [Act.put, List.getElem_toArray, List.getElem_cons_zero, List.getElem_cons_succ, List.setIfInBounds_toArray, List.set_cons_zero, List.set_cons_succ]
          refine wpAnyH_take (i := 11) (oi := _) (v := ?_) rfl (by kernel_rfl) (by kernel_rfl) (by kernel_rfl) (fun _ _ _ h => h) (Or.inl ⟨by rfl, ?_⟩) (by assumption) ?_
          rotate_left
          · (intro w hSw; (try dsimp only at hSw); go_simp; try with_reducible rfl)
          try simp only [Act.put, List.getElem_toArray, List.getElem_cons_zero, List.getElem_cons_succ, List.setIfInBounds_toArray, List.set_cons_zero, List.set_cons_succ]
          refine wpAnyH_take (i := 12) (oi := _) (v := ?_) rfl (by kernel_rfl) (by kernel_rfl) (by kernel_rfl) (fun _ _ _ h => h) (Or.inl ⟨by rfl, ?_⟩) (by assumption) ?_
          rotate_left
          · (intro w hSw; (try dsimp only at hSw); go_simp; try with_reducible rfl)
          try simp only [Act.put, List.getElem_toArray, List.getElem_cons_zero, List.getElem_cons_succ, List.setIfInBounds_toArray, List.set_cons_zero, List.set_cons_succ]
          refine wpAnyH_done (by kernel_rfl) ?_ _
          have HX := Lib.hid (textAny_at HQ.out (HX.out.trans rfl))
          go_wp2
          go_ret
          exact ⟨ret_bool (by rw [HR.out, HX.out]; rfl), HBZ.out⟩
    · have hge : (len : Int) ≤ n := by omega
      have HX := Lib.hid (textAny_none (f := f) (cs := igs) (fun j d hd => HNO.out j d (by have := (List.getElem?_eq_some_iff.1 hd).1; have := HE.out; omega) hd))
      clear hn hlt
      go_wp2_with fail
      refine (HI.out _ (below_next HBX.out HB.out)).mono ?_
      rintro e W1 ⟨rfl, hb1⟩
      have B1 := Lib.hid (below_next (below_next HBX.out HB.out) hb1)
      clear hb1 c0 c1 c2 c3 c4
      go_wp2
      go_ret
      exact ⟨ret_bool (by rw [HR.out, HX.out]; rfl), B1.out⟩

set_option maxHeartbeats 4000000 in
set_option maxRecDepth 100000 in
theorem specFilter_c (a1 : Option Addr) (len1 cap1 : Nat) (cs : List Cmd) (a2 : Option Addr) (len2 cap2 : Nat) (igs : List ByteArray) (touch : Bool) (hl1 : len1 ≤ 2000000) (hl2 : len2 ≤ 2000000) (hs1 : ShortC 2097152 cs) (hs2 : ShortX 2097152 igs) (W : World) (h1 : CmdsAt W a1 len1 cs) (h2 : TextsAt W a2 len2 igs) :
    Calls Try.prog 50 #[.slice a1 len1 cap1, .slice a2 len2 cap2, .bool touch] W (CmdsPost (if (validL cs && igV igs) = true then cs.filter (fun c => touchL igs c == touch) else []) W) := by
  obtain ⟨f, hf⟩ : ∃ f : Cmd → Bool, f = (fun c => touchL igs c == touch) := ⟨_, rfl⟩
  obtain ⟨v1, hv1⟩ : ∃ x, validL cs = x := ⟨_, rfl⟩
  obtain ⟨v2, hv2⟩ : ∃ x, igV igs = x := ⟨_, rfl⟩
  have HV1 := Lib.hid (fun w (hb : Below W.heap.size W w) => show Calls Try.prog 17 #[.slice a1 len1 cap1] w (BoolPost v1 w) by rw [← hv1]; exact specLogValid_c a1 len1 cap1 cs (by omega) hs1 w (h1.keep hb))
  have HV2 := Lib.hid (fun w (hb : Below W.heap.size W w) => show Calls Try.prog 18 #[.slice a2 len2 cap2] w (BoolPost v2 w) by rw [← hv2]; exact specIgnores_c a2 len2 cap2 igs (by omega) hs2 w (h2.keep hb))
  have HT := Lib.hid (fun (d : Cmd) w (hb : Below W.heap.size W w) => specTouches_c a2 len2 cap2 igs d (by omega) w (h2.keep hb))
  have HN := Lib.hid h1
  have HE := Lib.hid h1.1
  have HF := Lib.hid (fun d => congrFun hf d)
  rw [hv1, hv2, ← hf]
  obtain ⟨res, hres⟩ : ∃ res, (if (v1 && v2) = true then cs.filter f else []) = res := ⟨_, rfl⟩
  have HR := Lib.hid hres
  rw [hres]
  have hl' : (len1 : Int) ≤ 2000000 := by omega
  clear hf h1 h2 hs1 hs2 hv1 hv2 hres
  go_enter Try.func50, Try.ntmps50
  go_wp2
  go_loopw [7, 8] (fun o k wr => SiftRel (v1 && v2) f cs W o k wr) (fun _ k _ => len1 - (intOf k).toNat)
  case atStart => exact ⟨0, rfl, Nat.zero_le _, .inl rfl, World.ownsRow_lit (e := 32) (size := 5) W #[] 0 (Nat.le_refl _) (by simp [maxLen]) rfl, below_box _ _⟩
  case round =>
    obtain ⟨n, rfl, hn, HZ, hown, HB⟩ := hrel
    have HO := Lib.hid hown
    clear hown
    by_cases hlt : n < len1
    · have hlt' : (n : Int) < len1 := by omega
      have hw1 : IntKind.i64.wrap ((n : Int) + 1) = (n : Int) + 1 := IntWalk.i64_in _ (by omega)
      have HLT := Lib.hid hlt
      obtain ⟨b, off, d, rfl, hd, -⟩ := HN.out.node hlt
      have HD := Lib.hid hd
      clear hn hlt hd
      go_wp2_with fail
      refine (HV1.out _ HB.out).mono ?_
      rintro e W1 ⟨rfl, hb1⟩
      have HO1 := Lib.hid (own_below HO.out hb1)
      have HB1 := Lib.hid (below_next HB.out hb1)
      clear hb1
      cases v1 with
      | false =>
        have HX := Lib.hid (HR.out.symm.trans (siftx_end (f := f) (cs := cs) HZ.out (.inl rfl)))
        go_wp2
        go_ret
        rw [HX.out]
        exact ⟨⟨_, rfl, HO1.out⟩, HB1.out⟩
      | true =>
        go_wp2_with fail
        refine (HV2.out _ HB1.out).mono ?_
        rintro e W2 ⟨rfl, hb2⟩
        have HO2 := Lib.hid (own_below HO1.out hb2)
        have HB2 := Lib.hid (below_next HB1.out hb2)
        clear hb2
        cases v2 with
        | false =>
          have HX := Lib.hid (HR.out.symm.trans (siftx_end (f := f) (cs := cs) HZ.out (.inl rfl)))
          go_wp2
          go_ret
          rw [HX.out]
          exact ⟨⟨_, rfl, HO2.out⟩, HB2.out⟩
        | true =>
          obtain ⟨v0, hv0⟩ : ∃ x, touchL igs d = x := ⟨_, rfl⟩
          have HTd := Lib.hid (fun w (hb : Below W.heap.size W w) => show Calls Try.prog 83 #[.slice a2 len2 cap2, cmdV d] w (BoolPost v0 w) by rw [← hv0]; exact HT.out d w hb)
          obtain ⟨z, hz⟩ : ∃ z, (v0 == touch) = z := ⟨_, rfl⟩
          have HX := Lib.hid (show f d = z by rw [HF.out, hv0, hz])
          clear hv0
          obtain ⟨q, gk, gv, uk, uv⟩ := d
          unfold cmdV at HTd
          simp only at HTd
          obtain ⟨b', off', d', hv, hd, d0, d1, d2, d3, d4⟩ := (HN.out.keep HB2.out).node HLT.out
          cases hv
          obtain rfl := Option.some.inj (HD.out.symm.trans hd)
          simp only at d0 d1 d2 d3 d4
          clear hd
          go_wp2_with fail
          refine (HTd.out _ HB2.out).mono ?_
          rintro e W3 ⟨rfl, hb3⟩
          have HO3 := Lib.hid (own_below HO2.out hb3)
          have HB3 := Lib.hid (below_next HB2.out hb3)
          clear hb3 d0 d1 d2 d3 d4
          cases z with
          | false =>
            have ho9 := HO3.out
            rw [← sift_out HD.out HX.out] at ho9
            go_wp2
            go_roundw
            case rel => exact ⟨n + 1, by go_num, by have := HLT.out; have := HE.out; omega, .inr rfl, ho9, HB3⟩
            case measure => have := HLT.out; simp [intOf]; omega
          | true =>
            obtain ⟨b', off', d', hv, hd, d0, d1, d2, d3, d4⟩ := (HN.out.keep HB3.out).node HLT.out
            cases hv
            obtain rfl := Option.some.inj (HD.out.symm.trans hd)
            simp only at d0 d1 d2 d3 d4
            clear hd
            go_wp2_with (at_builtin; refine wpList_append_cmds rfl _ _ rfl W.heap.size _ ((cs.take n).filter f) rfl (HO3.out.alloc _) _ _ _ [(⟨q, gk, gv, uk, uv⟩ : Cmd)] rfl (cmds_lit _ (⟨q, gk, gv, uk, uv⟩ : Cmd)) (by have h1 := HLT.out; have h2 := sift_len f cs n; simp only [List.length_singleton]; omega) (by have := HB3.out.size; simp; omega) ?_; intro v4 w4 ho4 hg4; have HB9 := Lib.hid ((HB3.out.alloc HB3.out.size _).grown hg4 (by have := HB3.out.size; simp; omega) (fun k e => (HO3.out.lt k e).1)); clear hg4)
            rw [← sift_in HD.out HX.out] at ho4
            go_roundw
            case rel => exact ⟨n + 1, by go_num, by have := HLT.out; have := HE.out; omega, .inr rfl, ho4, HB9⟩
            case measure => have := HLT.out; simp [intOf]; omega
    · have hge : (len1 : Int) ≤ n := by omega
      have HX := Lib.hid (HR.out.symm.trans (siftx_end (f := f) HZ.out (.inr (by have := HE.out; omega))))
      clear hn hlt
      go_wp2
      go_ret
      rw [HX.out]
      exact ⟨⟨_, rfl, HO.out⟩, HB.out⟩

theorem beq_false_not (b : Bool) : (b == false) = !b := by cases b <;> rfl
theorem beq_true_self (b : Bool) : (b == true) = b := by cases b <;> rfl

set_option maxHeartbeats 1000000 in
set_option maxRecDepth 100000 in
theorem specKeep_c (a1 : Option Addr) (len1 cap1 : Nat) (cs : List Cmd) (a2 : Option Addr) (len2 cap2 : Nat) (igs : List ByteArray) (hl1 : len1 ≤ 2000000) (hl2 : len2 ≤ 2000000) (hs1 : ShortC 2097152 cs) (hs2 : ShortX 2097152 igs) (W : World) (h1 : CmdsAt W a1 len1 cs) (h2 : TextsAt W a2 len2 igs) :
    Calls Try.prog 14 #[.slice a1 len1 cap1, .slice a2 len2 cap2] W (CmdsPost (keepL cs igs) W) := by
  have HM := specFilter_c a1 len1 cap1 cs a2 len2 cap2 igs false hl1 hl2 hs1 hs2 W h1 h2
  simp only [beq_false_not] at HM
  have HM := Lib.hid (show Calls _ _ _ _ (CmdsPost (keepL cs igs) W) from HM)
  clear hl1 hl2 hs1 hs2 h1 h2
  obtain ⟨out, ho⟩ : ∃ out, keepL cs igs = out := ⟨_, rfl⟩
  rw [ho] at HM ⊢
  clear ho
  go_enter Try.func14, Try.ntmps14
  go_wp2_with fail
  refine HM.out.mono ?_
  rintro e W1 ⟨⟨sl, rfl, ho⟩, hb⟩
  have HO := Lib.hid ho
  have HB := Lib.hid hb
  clear ho hb
  go_wp2
  go_ret
  exact ⟨⟨_, rfl, HO.out⟩, HB.out⟩

set_option maxHeartbeats 1000000 in
set_option maxRecDepth 100000 in
theorem specHold_c (a1 : Option Addr) (len1 cap1 : Nat) (cs : List Cmd) (a2 : Option Addr) (len2 cap2 : Nat) (igs : List ByteArray) (hl1 : len1 ≤ 2000000) (hl2 : len2 ≤ 2000000) (hs1 : ShortC 2097152 cs) (hs2 : ShortX 2097152 igs) (W : World) (h1 : CmdsAt W a1 len1 cs) (h2 : TextsAt W a2 len2 igs) :
    Calls Try.prog 39 #[.slice a1 len1 cap1, .slice a2 len2 cap2] W (CmdsPost (holdL cs igs) W) := by
  have HM := specFilter_c a1 len1 cap1 cs a2 len2 cap2 igs true hl1 hl2 hs1 hs2 W h1 h2
  simp only [beq_true_self] at HM
  have HM := Lib.hid (show Calls _ _ _ _ (CmdsPost (holdL cs igs) W) from HM)
  clear hl1 hl2 hs1 hs2 h1 h2
  obtain ⟨out, ho⟩ : ∃ out, holdL cs igs = out := ⟨_, rfl⟩
  rw [ho] at HM ⊢
  clear ho
  go_enter Try.func39, Try.ntmps39
  go_wp2_with fail
  refine HM.out.mono ?_
  rintro e W1 ⟨⟨sl, rfl, ho⟩, hb⟩
  have HO := Lib.hid ho
  have HB := Lib.hid hb
  clear ho hb
  go_wp2
  go_ret
  exact ⟨⟨_, rfl, HO.out⟩, HB.out⟩

/-- Nodes of the call's own. -/
def FiltPost (ns : List Nd) (W : World) (e : Ending) (w' : World) : Prop := OwnsNodes W.heap.size ns e w' ∧ Below W.heap.size W w'

set_option maxHeartbeats 4000000 in
set_option maxRecDepth 100000 in
theorem specFilterTree_c (a1 : Option Addr) (len1 cap1 : Nat) (ns : List Nd) (a2 : Option Addr) (len2 cap2 : Nat) (igs : List ByteArray) (hl1 : len1 ≤ 2000000) (hl2 : len2 ≤ 2000000) (hs1 : Short 2097152 ns) (hs2 : ShortX 2097152 igs) (W : World) (h1 : NodesAt W a1 len1 ns) (h2 : TextsAt W a2 len2 igs) :
    Calls Try.prog 23 #[.slice a1 len1 cap1, .slice a2 len2 cap2] W (FiltPost (filtT ns igs) W) := by
  obtain ⟨f, hf⟩ : ∃ f : Nd → Bool, f = (fun n => !inB igs n.p) := ⟨_, rfl⟩
  obtain ⟨v1, hv1⟩ : ∃ x, validT ns = x := ⟨_, rfl⟩
  obtain ⟨v2, hv2⟩ : ∃ x, igV igs = x := ⟨_, rfl⟩
  have HV1 := Lib.hid (fun w (hb : Below W.heap.size W w) => show Calls Try.prog 25 #[.slice a1 len1 cap1] w (BoolPost v1 w) by rw [← hv1]; exact specTreeValid_c a1 len1 cap1 ns (by omega) hs1 w (h1.keep hb))
  have HV2 := Lib.hid (fun w (hb : Below W.heap.size W w) => show Calls Try.prog 18 #[.slice a2 len2 cap2] w (BoolPost v2 w) by rw [← hv2]; exact specIgnores_c a2 len2 cap2 igs (by omega) hs2 w (h2.keep hb))
  have HT := Lib.hid (fun (p : ByteArray) w (hb : Below W.heap.size W w) => specIn_c a2 len2 cap2 igs p (by omega) w (h2.keep hb))
  have HN := Lib.hid h1
  have HE := Lib.hid h1.1
  have HF := Lib.hid (fun d => congrFun hf d)
  unfold filtT
  rw [hv1, hv2, ← hf]
  obtain ⟨res, hres⟩ : ∃ res, (if (v1 && v2) = true then ns.filter f else []) = res := ⟨_, rfl⟩
  have HR := Lib.hid hres
  rw [hres]
  have hl' : (len1 : Int) ≤ 2000000 := by omega
  clear hf h1 h2 hs1 hs2 hv1 hv2 hres
  go_enter Try.func23, Try.ntmps23
  go_wp2
  go_loopw [5, 6] (fun o k wr => SiftRelN (v1 && v2) f ns W o k wr) (fun _ k _ => len1 - (intOf k).toNat)
  case atStart => exact ⟨0, rfl, Nat.zero_le _, .inl rfl, World.ownsRow_lit (e := 46) (size := 3) W #[] 0 (Nat.le_refl _) (by simp [maxLen]) rfl, below_box _ _⟩
  case round =>
    obtain ⟨n, rfl, hn, HZ, hown, HB⟩ := hrel
    have HO := Lib.hid hown
    clear hown
    by_cases hlt : n < len1
    · have hlt' : (n : Int) < len1 := by omega
      have hw1 : IntKind.i64.wrap ((n : Int) + 1) = (n : Int) + 1 := IntWalk.i64_in _ (by omega)
      have HLT := Lib.hid hlt
      obtain ⟨b, off, d, rfl, hd, -⟩ := HN.out.node hlt
      have HD := Lib.hid hd
      clear hn hlt hd
      go_wp2_with fail
      refine (HV1.out _ HB.out).mono ?_
      rintro e W1 ⟨rfl, hb1⟩
      have HO1 := Lib.hid (own_below HO.out hb1)
      have HB1 := Lib.hid (below_next HB.out hb1)
      clear hb1
      cases v1 with
      | false =>
        have HX := Lib.hid (HR.out.symm.trans (siftx_end (f := f) (cs := ns) HZ.out (.inl rfl)))
        go_wp2
        go_ret
        rw [HX.out]
        exact ⟨⟨_, rfl, HO1.out⟩, HB1.out⟩
      | true =>
        go_wp2_with fail
        refine (HV2.out _ HB1.out).mono ?_
        rintro e W2 ⟨rfl, hb2⟩
        have HO2 := Lib.hid (own_below HO1.out hb2)
        have HB2 := Lib.hid (below_next HB1.out hb2)
        clear hb2
        cases v2 with
        | false =>
          have HX := Lib.hid (HR.out.symm.trans (siftx_end (f := f) (cs := ns) HZ.out (.inl rfl)))
          go_wp2
          go_ret
          rw [HX.out]
          exact ⟨⟨_, rfl, HO2.out⟩, HB2.out⟩
        | true =>
          obtain ⟨v0, hv0⟩ : ∃ x, inB igs d.p = x := ⟨_, rfl⟩
          have HTd := Lib.hid (fun w (hb : Below W.heap.size W w) => show Calls Try.prog 58 #[.slice a2 len2 cap2, .string d.p] w (BoolPost v0 w) by rw [← hv0]; exact HT.out d.p w hb)
          have HX := Lib.hid (show f d = !v0 by rw [HF.out, hv0])
          clear hv0
          obtain ⟨q, gk, gv⟩ := d
          simp only at HTd
          obtain ⟨b', off', d', hv, hd, d0, d1, d2⟩ := (HN.out.keep HB2.out).node HLT.out
          cases hv
          obtain rfl := Option.some.inj (HD.out.symm.trans hd)
          simp only at d0 d1 d2
          clear hd
          go_wp2_with fail
          refine (HTd.out _ HB2.out).mono ?_
          rintro e W3 ⟨rfl, hb3⟩
          have HO3 := Lib.hid (own_below HO2.out hb3)
          have HB3 := Lib.hid (below_next HB2.out hb3)
          clear hb3 d0 d1 d2
          cases v0 with
          | true =>
            have ho9 := HO3.out
            rw [← sift_out HD.out (HX.out.trans rfl)] at ho9
            go_wp2
            go_roundw
            case rel => exact ⟨n + 1, by go_num, by have := HLT.out; have := HE.out; omega, .inr rfl, ho9, HB3⟩
            case measure => have := HLT.out; simp [intOf]; omega
          | false =>
            obtain ⟨b', off', d', hv, hd, d0, d1, d2⟩ := (HN.out.keep HB3.out).node HLT.out
            cases hv
            obtain rfl := Option.some.inj (HD.out.symm.trans hd)
            simp only at d0 d1 d2
            clear hd
            go_wp2_with (at_builtin; refine wpList_append_nodes rfl _ _ rfl W.heap.size _ ((ns.take n).filter f) rfl (HO3.out.alloc _) _ _ _ [(⟨q, gk, gv⟩ : Nd)] rfl (nodes_lit _ (⟨q, gk, gv⟩ : Nd)) (by have h1 := HLT.out; have h2 := sift_len f ns n; simp only [List.length_singleton]; omega) (by have := HB3.out.size; simp; omega) ?_; intro v4 w4 ho4 hg4; have HB9 := Lib.hid ((HB3.out.alloc HB3.out.size _).grown hg4 (by have := HB3.out.size; simp; omega) (fun k e => (HO3.out.lt k e).1)); clear hg4)
            rw [← sift_in HD.out (HX.out.trans rfl)] at ho4
            go_roundw
            case rel => exact ⟨n + 1, by go_num, by have := HLT.out; have := HE.out; omega, .inr rfl, ho4, HB9⟩
            case measure => have := HLT.out; simp [intOf]; omega
    · have hge : (len1 : Int) ≤ n := by omega
      have HX := Lib.hid (HR.out.symm.trans (siftx_end (f := f) HZ.out (.inr (by have := HE.out; omega))))
      clear hn hlt
      go_wp2
      go_ret
      rw [HX.out]
      exact ⟨⟨_, rfl, HO.out⟩, HB.out⟩

end Go.Proofs.Ytmlnakkfjecibaa
