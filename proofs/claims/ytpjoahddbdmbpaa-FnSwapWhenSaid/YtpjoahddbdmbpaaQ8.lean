/-
  Texts of this proof, one behind the other: Ot, Ou.
-/
import Derived.Laws.Shifts
import Derived.Laws.BitsAllLaws
import Derived.Laws.Cover1
import Derived.StillTailTactics
import Derived.WalkSmall
import Derived.OwnWalk
import Derived.Laws.OwnMore
import Derived.Maps.Own
import Derived.Maps.OwnSet
import Derived.Lib.SliceRun
import Derived.WideLaws
import Derived.Deep.RegionHeld3
import Derived.Deep.RegionLaw
import Derived.Test.YtpjoahddbdmbpaaOr
import Derived.Test.YtpjoahddbdmbpaaQ3
import Derived.Test.YtpjoahddbdmbpaaPi
import Derived.Test.YtpjoahddbdmbpaaQ4
import Derived.Test.YtpjoahddbdmbpaaQ5
import Derived.Test.YtpjoahddbdmbpaaQ10
/-
  WALKS: orders of the program: sets of commands as bits; MustPrecede; what must precede each command; each path once; OrderFits, OrderSwap.
-/
namespace Go.Proofs.Ytpjoahddbdmbpaa
open Go.RowKit
open Go.Maps (IsMap has)
set_option linter.unusedVariables false

theorem ot_first : (0 : Nat) ≤ 0 := Nat.le_refl 0

/-! ### sets of commands -/
theorem u32_pow {k : Nat} (h : k ≤ 20) : (2 : Int) ^ k % 4294967296 = ((2 ^ k : Nat) : Int) := by
  have := pow_lt32 h
  rw [show ((2 : Int) ^ k) = ((2 ^ k : Nat) : Int) by simp]
  generalize 2 ^ k = x at this ⊢
  omega

set_option maxHeartbeats 1000000 in
theorem with_c (s k : Nat) (hs : s < 4294967296) (hk : k ≤ 20) (W : World) :
    Calls Try.prog 54 #[.int .u32 s, .int .i64 k] W fun e W' => e = .returned (.int .u32 ((s ||| 2 ^ k : Nat) : Int)) ∧ W' = W := by
  have hk0 : (0 : Int) ≤ k := by omega
  have hk1 : (k : Int) ≤ 32 := by omega
  have hp := pow_lt32 hk
  obtain ⟨r, hr⟩ : ∃ r, s ||| 2 ^ k = r := ⟨_, rfl⟩
  have h2 : bits .or .u32 (s : Int) ((2 : Int) ^ k % 4294967296) = (r : Int) := by
    rw [u32_pow hk, ← hr]
    exact u32_or_nat s (2 ^ k) hs (by omega)
  rw [hr]
  clear hr hp hk hs
  go_enter Try.func54, Try.ntmps54
  go_wp2
  go_ret
  exact ⟨rfl, rfl⟩

theorem u32_has (s k : Nat) (hs : s < 4294967296) : bits .and .u32 ((s : Int) / 2 ^ k) 1 = if s.testBit k = true then 1 else 0 := by
  rw [show ((s : Int) / 2 ^ k) = ((s / 2 ^ k : Nat) : Int) by simp, show (1 : Int) = ((1 : Nat) : Int) from rfl, u32_and_nat _ 1 (Nat.lt_of_le_of_lt (Nat.div_le_self _ _) hs) (by omega), has_iff]
  split <;> rfl

set_option maxHeartbeats 1000000 in
theorem has_c (s k : Nat) (hs : s < 4294967296) (hk : k ≤ 20) (W : World) :
    Calls Try.prog 56 #[.int .u32 s, .int .i64 k] W fun e W' => e = .returned (.bool (s.testBit k)) ∧ W' = W := by
  have hk0 : (0 : Int) ≤ k := by omega
  have hk1 : (k : Int) ≤ 32 := by omega
  have HX := Lib.hid (u32_has s k hs)
  clear hk hs
  cases hb : s.testBit k with
  | true =>
    have h2 := HX.out
    rw [hb, if_pos rfl] at h2
    clear HX hb
    go_enter Try.func56, Try.ntmps56
    go_wp2
    go_ret
    exact ⟨by simp, rfl⟩
  | false =>
    have h2 := HX.out
    rw [hb, if_neg (by decide)] at h2
    clear HX hb
    go_enter Try.func56, Try.ntmps56
    go_wp2
    go_ret
    exact ⟨by simp, rfl⟩

set_option maxHeartbeats 1000000 in
theorem hasAll_c (s x : Nat) (hs : s < 4294967296) (hx : x < 4294967296) (b : Bool) (hb : b = true ↔ ∀ i, x.testBit i = true → s.testBit i = true) (W : World) :
    Calls Try.prog 53 #[.int .u32 s, .int .u32 x] W fun e W' => e = .returned (.bool b) ∧ W' = W := by
  have h2 : bits .andNot .u32 (x : Int) (s : Int) = ((x &&& (4294967295 - s) : Nat) : Int) := u32_andNot_nat x s hx hs
  have h3 := hasAll_iff hs hx
  rw [← hb] at h3
  obtain ⟨y, hy⟩ : ∃ y, x &&& (4294967295 - s) = y := ⟨_, rfl⟩
  rw [hy] at h2 h3
  cases b with
  | true =>
    obtain rfl : y = 0 := h3.2 rfl
    clear hb h3 hy hs hx
    have h4 : bits .andNot .u32 (x : Int) (s : Int) = 0 := h2
    clear h2
    go_enter Try.func53, Try.ntmps53
    go_wp2
    go_ret
    exact ⟨rfl, rfl⟩
  | false =>
    have h5 : ((y : Int) == 0) = false := beq_eq_false_iff_ne.2 (fun e => by have := h3.1 (by omega); cases this)
    clear hb h3 hy hs hx
    go_enter Try.func53, Try.ntmps53
    go_wp2
    go_ret
    exact ⟨rfl, rfl⟩

/-! ### MustPrecede -/
theorem must_prog {c d : Cmd} (hc : validC c = true) (hd : validC d = true) : mustP c d = ((underB d.p c.p && d.fk == 1) || (underB c.p d.p && c.tk == 1)) := by
  unfold mustP mustC
  rw [hc, hd, underB_eq d.p c.p, underB_eq c.p d.p, show Pm.valid c.p.data.toList = true from validC_vp hc, show Pm.valid d.p.data.toList = true from validC_vp hd]
  rfl

set_option maxHeartbeats 4000000 in
set_option maxRecDepth 100000 in
theorem implMustPrecede_c (c d : Cmd) (hc : c.p.size ≤ 2097152) (hd : d.p.size ≤ 2097152) (W : World) : Calls Try.prog 15 #[cmdV c, cmdV d] W (BoolPost (mustP c d) W) := by
  obtain ⟨u, hu⟩ : ∃ u, validC c = u := ⟨_, rfl⟩
  obtain ⟨v, hv⟩ : ∃ v, validC d = v := ⟨_, rfl⟩
  have HC := Lib.hid (fun w => show Calls Try.prog 42 #[cmdV c] w (BoolPost u w) by rw [← hu]; exact implCmdValid_c c hc w)
  have HD := Lib.hid (fun w => show Calls Try.prog 42 #[cmdV d] w (BoolPost v w) by rw [← hv]; exact implCmdValid_c d hd w)
  obtain ⟨r, hr⟩ : ∃ r, underB d.p c.p = r := ⟨_, rfl⟩
  obtain ⟨s, hs⟩ : ∃ s, underB c.p d.p = s := ⟨_, rfl⟩
  obtain ⟨x, hx⟩ : ∃ x, (d.fk == 1) = x := ⟨_, rfl⟩
  obtain ⟨y, hy⟩ : ∃ y, (c.tk == 1) = y := ⟨_, rfl⟩
  have HU := Lib.hid (fun w => show Calls Try.prog 17 #[.string d.p, .string c.p] w (fun e w' => e = .returned (.bool r) ∧ Below w.heap.size w w') by rw [← hr]; exact pathUnder_c d.p c.p hd hc w)
  have HV := Lib.hid (fun w => show Calls Try.prog 17 #[.string c.p, .string d.p] w (fun e w' => e = .returned (.bool s) ∧ Below w.heap.size w w') by rw [← hs]; exact pathUnder_c c.p d.p hc hd w)
  have HR := Lib.hid (show u = true → v = true → mustP c d = ((r && x) || (s && y)) by
    intro h1 h2
    rw [must_prog (hu.trans h1) (hv.trans h2), hr, hs, hx, hy])
  have HRN := Lib.hid (show u = false ∨ v = false → mustP c d = false by
    intro h
    unfold mustP
    rw [hu, hv]
    rcases h with h | h <;> rw [h] <;> simp)
  have HT := Lib.hid (twoC_new W c d)
  have HB := Lib.hid (below_next (below_box W (.cells #[.string c.p, .int .i64 c.fk, .int .i64 c.fv, .int .i64 c.tk, .int .i64 c.tv] 26)) (below_box _ (.cells #[.string d.p, .int .i64 d.fk, .int .i64 d.fv, .int .i64 d.tk, .int .i64 d.tv] 26)))
  clear hu hv hc hd hr hs
  obtain ⟨p, fk, fv, tk, tv⟩ := c
  obtain ⟨p', fk', fv', tk', tv'⟩ := d
  unfold cmdV at HC HD ⊢
  simp only at HC HD HU HV HT HB HR HRN hx hy ⊢
  obtain ⟨a0, a1, a2, a3, a4, b0, b1, b2, b3, b4⟩ := HT.out
  simp only at a0 a1 a2 a3 a4 b0 b1 b2 b3 b4
  have T0 := HT
  have B0 := HB
  go_enter Try.func15, Try.ntmps15
  go_wp2_with fail
  refine (HC.out _).mono ?_
  rintro e W1 ⟨rfl, hb1⟩
  have T1 := Lib.hid (T0.out.keep hb1)
  have B1 := Lib.hid (below_next B0.out hb1)
  clear a0 a1 a2 a3 a4 b0 b1 b2 b3 b4 hb1
  obtain ⟨a0, a1, a2, a3, a4, b0, b1, b2, b3, b4⟩ := T1.out
  cases u with
  | false =>
    have HX := Lib.hid (HRN.out (.inl rfl))
    clear HRN HR
    go_wp2
    go_ret
    exact ⟨ret_bool HX.out.symm, B1.out⟩
  | true =>
    have HRY := Lib.hid (HR.out rfl)
    replace HRN := Lib.hid (fun h => HRN.out (.inr h))
    clear HR
    go_wp2_with fail
    refine (HD.out _).mono ?_
    rintro e W2 ⟨rfl, hb2⟩
    have T2 := Lib.hid (T1.out.keep hb2)
    have B2 := Lib.hid (below_next B1.out hb2)
    clear a0 a1 a2 a3 a4 b0 b1 b2 b3 b4 hb2
    obtain ⟨a0, a1, a2, a3, a4, b0, b1, b2, b3, b4⟩ := T2.out
    cases v with
    | false =>
      have HX := Lib.hid (HRN.out rfl)
      clear HRY HRN
      go_wp2
      go_ret
      exact ⟨ret_bool HX.out.symm, B2.out⟩
    | true =>
      replace HRY := Lib.hid (HRY.out rfl)
      clear HRN
      go_wp2_with fail
      refine (HU.out _).mono ?_
      rintro e W3 ⟨rfl, hb3⟩
      have T3 := Lib.hid (T2.out.keep hb3)
      have B3 := Lib.hid (below_next B2.out hb3)
      clear a0 a1 a2 a3 a4 b0 b1 b2 b3 b4 hb3
      obtain ⟨a0, a1, a2, a3, a4, b0, b1, b2, b3, b4⟩ := T3.out
      cases r with
      | true =>
        cases x with
        | true =>
          go_wp2
          go_ret
          exact ⟨ret_bool (by rw [HRY.out]; rfl), B3.out⟩
        | false =>
          go_wp2_with fail
          refine (HV.out _).mono ?_
          rintro e W4 ⟨rfl, hb4⟩
          have T4 := Lib.hid (T3.out.keep hb4)
          have B4 := Lib.hid (below_next B3.out hb4)
          clear a0 a1 a2 a3 a4 b0 b1 b2 b3 b4 hb4
          obtain ⟨a0, a1, a2, a3, a4, b0, b1, b2, b3, b4⟩ := T4.out
          cases s with
          | true =>
            go_wp2
            go_ret
            exact ⟨ret_bool (by rw [HRY.out, ← hy]; rfl), B4.out⟩
          | false =>
            go_wp2
            go_ret
            exact ⟨ret_bool (by rw [HRY.out]; rfl), B4.out⟩
      | false =>
        go_wp2_with fail
        refine (HV.out _).mono ?_
        rintro e W4 ⟨rfl, hb4⟩
        have T4 := Lib.hid (T3.out.keep hb4)
        have B4 := Lib.hid (below_next B3.out hb4)
        clear a0 a1 a2 a3 a4 b0 b1 b2 b3 b4 hb4
        obtain ⟨a0, a1, a2, a3, a4, b0, b1, b2, b3, b4⟩ := T4.out
        cases s with
        | true =>
          go_wp2
          go_ret
          exact ⟨ret_bool (by rw [HRY.out, ← hy]; rfl), B4.out⟩
        | false =>
          go_wp2
          go_ret
          exact ⟨ret_bool (by rw [HRY.out]; rfl), B4.out⟩

/-! ### each path once -/
theorem keyLawO : Maps.Keyed Try.prog 9 := Maps.string_keyed Try.underlying9
theorem keyOf_pathO {p : ByteArray} (h : p.size ≤ maxLen) : keyOf Try.prog 9 (.string p) = some (keyL p) := WideMaps.keyOf_string_mk Try.underlying9 h
def setP (cs : List Cmd) (n : Nat) : DataW Unit := Maps.setOf (.lit (.bool true)) (pathKeys cs n)
theorem setP_next {cs : List Cmd} {n : Nat} {c : Cmd} (h : cs[n]? = some c) : setP cs (n + 1) = (setP cs n).put (keyL c.p) (.lit (.bool true)) := by
  unfold setP
  rw [pathKeys_next h, Maps.setOf_snoc]

/-- 'paths[path] = true'. -/
theorem wpList_store_path (w : World) {ops : Array Oper} {rest : List Oper} {o : Oper} {a : Act} {Q : Exit → Act → World → Prop} (hg : o.guard = none) (m x v : Operand) (hop : o.op = Op.mapUpdate 94 m x v) (b n : Nat) (D : DataW Unit)
    (hm : a.eval m = .map (some b)) (hown : w.ownsMap Try.prog 9 (plainElem (H := Unit) Try.prog 4) b n D) (hn : n < maxLen) (p : ByteArray) (hx : a.eval x = .string p) (hp : p.size ≤ maxLen) (hv : a.eval v = .bool true)
    (hK : ∀ w', w'.ownsMap Try.prog 9 (plainElem (H := Unit) Try.prog 4) b (n + 1) (D.put (keyL p) (.lit (.bool true))) → w.grownBy w' (some b) → wpList Try.prog ops Q rest (a.put o.dst undef) w') :
    wpList Try.prog ops Q (o :: rest) a w :=
  wpList_mapUpdate_own w hg m x v _ hop _ _ keyLawO Try.underlying94 (plainElem (H := Unit) Try.prog 4) b n D hm hown hn _ _ _ hx hv (keyOf_pathO hp) _ _ (plainElem_bool Try.underlying4 true) hK

def OnceRel (cs : List Cmd) (W : World) (B : Nat) (i : Value) (wr : World) : Prop :=
  ∃ n : Nat, i = .int .i64 n ∧ n ≤ cs.length ∧ Hid (wr.ownsMap Try.prog 9 (plainElem (H := Unit) Try.prog 4) B n (setP cs n)) ∧ Hid (Below W.heap.size W wr)

theorem once_below {W wr w1 : World} {B : Nat} {o : Obj} (hB : Below W.heap.size W wr) (hlt : W.heap.size ≤ B) (hg : (wr.alloc o).grownBy w1 (some B)) : Below W.heap.size W w1 :=
  (hB.alloc hB.size o).grown hg (by have := hB.size; rw [World.size_alloc]; omega) (fun k e => by cases e; exact hlt)

theorem once_prog (cs : List Cmd) : onceV cs = (validL cs && (decide ((Maps.size (setP cs cs.length) : Int) = cs.length))) := by
  unfold onceV setP
  rw [Bool.and_comm]
  congr 1
  have := paths_size (H := Unit) (.lit (.bool true)) cs
  exact decide_eq_decide.2 (by rw [← this]; omega)

set_option maxHeartbeats 2000000 in
set_option maxRecDepth 100000 in
theorem pathsOnce_c (a : Option Addr) (len cap : Nat) (cs : List Cmd) (hl : len ≤ 2097152) (hs : ShortC 2097152 cs) (W : World) (hN : CmdsAt W a len cs) :
    Calls Try.prog 51 #[.slice a len cap] W (BoolPost (onceV cs) W) := by
  obtain ⟨u, hu⟩ : ∃ u, validL cs = u := ⟨_, rfl⟩
  have HV := Lib.hid (show Calls Try.prog 74 #[.slice a len cap] W (BoolPost u W) by rw [← hu]; exact implLogValid_c a len cap cs hl hs W hN)
  have HN := Lib.hid hN
  have HE := Lib.hid hN.1
  have HS := Lib.hid hs
  have hl' : (len : Int) ≤ 2097152 := by omega
  have HR := Lib.hid (once_prog cs)
  rw [hu] at HR
  have HSZ := Lib.hid (paths_size_le (H := Unit) (.lit (.bool true)) cs cs.length)
  have hmm := @run_makeMap Try.prog
  clear hN hs hu
  go_enter Try.func51, Try.ntmps51
  go_wp2_with fail
  refine HV.out.mono ?_
  rintro e W1 ⟨rfl, hb1⟩
  have B1 := Lib.hid hb1
  clear hb1
  cases u with
  | false =>
    go_wp2
    go_ret
    exact ⟨ret_bool (by rw [HR.out]; rfl), B1.out⟩
  | true =>
    go_wp2
    clear hmm
    go_loopw [12] (fun i wr => OnceRel cs W W1.heap.size i wr) (fun i _ => len - (intOf i).toNat)
    case atStart => exact ⟨0, rfl, Nat.zero_le _, World.ownsMap_made _ _ _ _, below_next B1.out (below_box _ _)⟩
    case round =>
      obtain ⟨n, rfl, hn, HM, HB⟩ := hrel
      by_cases hlt : n < len
      · have hlt' : (n : Int) < len := by omega
        have hw1 : IntKind.i64.wrap ((n : Int) + 1) = (n : Int) + 1 := IntWalk.i64_in _ (by omega)
        obtain ⟨b, off, c, rfl, hc, d0, d1, d2, d3, d4⟩ := (HN.out.keep HB.out).node hlt
        have HX := Lib.hid (setP_next hc)
        have HLT := Lib.hid (show n < len ∧ n + 1 ≤ cs.length by have := HE.out; omega)
        have HPS := Lib.hid (show c.p.size ≤ maxLen from Nat.le_trans (HS.out.at hc) (by unfold maxLen; omega))
        obtain ⟨p, fk, fv, tk, tv⟩ := c
        simp only at d0 d1 d2 d3 d4
        have hn7 : n < maxLen := by unfold maxLen; omega
        clear hc hlt hn
        go_wp2_with (at_mapUpdate; refine wpList_store_path _ rfl _ _ _ rfl _ n _ rfl (HM.out.alloc _) hn7 p rfl HPS.out rfl ?_; intro w1 hown1 hgrow1)
        go_roundw
        case rel => exact ⟨n + 1, by go_num, HLT.out.2, by have := HX.out; simp only at this; rw [this]; exact hown1, once_below HB.out B1.out.size hgrow1⟩
        case measure => have := HLT.out; simp [intOf]; omega
      · have hge : (len : Int) ≤ n := by omega
        have hnl : n = cs.length := by have := HE.out; omega
        subst hnl
        clear hn hlt
        have hlen := fun ty => HM.out.len Try.underlying94 ty
        obtain ⟨sz, hsz⟩ : ∃ sz, Maps.size (setP cs cs.length) = sz := ⟨_, rfl⟩
        rw [hsz] at HR hlen
        have HX := Lib.hid (show onceV cs = ((sz : Int) == len) by rw [HR.out, HE.out, Bool.true_and]; rfl)
        clear HR hsz
        go_wp2
        go_ret
        exact ⟨ret_bool HX.out.symm, HB.out⟩

/-! ### what must precede each command -/
def rowN (n : Nat) (f : Nat → Nat) : List Value := (List.range n).map (fun j => Value.int .u32 (f j))
theorem rowN_length (n : Nat) (f : Nat → Nat) : (rowN n f).length = n := by simp [rowN]
theorem rowN_get {n j : Nat} (f : Nat → Nat) (h : j < n) : (rowN n f)[j]? = some (.int .u32 (f j)) := by
  unfold rowN
  rw [List.getElem?_map, List.getElem?_range h]
  rfl
theorem rowN_set (n : Nat) (f : Nat → Nat) {k v : Nat} (hk : k < n) : (rowN n f).set k (.int .u32 v) = rowN n (fun j => if j = k then v else f j) := by
  refine List.ext_getElem? (fun j => ?_)
  by_cases h : j < n
  · rw [List.getElem?_set, rowN_length, rowN_get _ h]
    by_cases e : k = j
    · subst e; rw [if_pos rfl, if_pos hk, rowN_get _ hk, if_pos rfl]
    · rw [if_neg e, rowN_get _ h, if_neg (fun x => e x.symm)]
  · rw [List.getElem?_eq_none (by rw [List.length_set, rowN_length]; omega), List.getElem?_eq_none (by rw [rowN_length]; omega)]
theorem rowN_zero (n : Nat) : List.replicate n (Value.int .u32 0) = rowN n (fun _ => 0) := by
  refine List.ext_getElem? (fun j => ?_)
  by_cases h : j < n
  · rw [List.getElem?_replicate, if_pos h, rowN_get _ h]; rfl
  · rw [List.getElem?_eq_none (by simp; omega), List.getElem?_eq_none (by rw [rowN_length]; omega)]
theorem rowN_congr {n : Nat} {f g : Nat → Nat} (h : ∀ j, j < n → f j = g j) : rowN n f = rowN n g := by
  unfold rowN
  refine List.map_congr_left (fun j hj => ?_)
  rw [h j (List.mem_range.1 hj)]

theorem infoSet : (Try.prog.info? 69).map (fun i => (i.zero, i.size, i.bytes)) = some (some (.int .u32 0), 1, 4) := by kernel_rfl

/-- The numbers while k commands are done and i others have been held against the next one. -/
def needAt (cs : List Cmd) (k i : Nat) (j : Nat) : Nat := if j < k then needTo cs j cs.length else if j = k then needTo cs k i else 0
theorem need_start (cs : List Cmd) : rowN cs.length (needAt cs 0 0) = List.replicate cs.length (Value.int .u32 0) := by
  rw [rowN_zero]
  refine rowN_congr (fun j _ => ?_)
  unfold needAt
  rw [if_neg (by omega)]
  split <;> rfl
theorem need_end (cs : List Cmd) (k : Nat) (hk : k < cs.length) : rowN cs.length (needAt cs k cs.length) = rowN cs.length (needAt cs (k + 1) 0) := by
  refine rowN_congr (fun j _ => ?_)
  unfold needAt
  by_cases h1 : j < k
  · rw [if_pos h1, if_pos (by omega)]
  · rw [if_neg h1]
    by_cases h2 : j = k
    · subst h2; rw [if_pos rfl, if_pos (by omega)]
    · rw [if_neg h2, if_neg (by omega)]
      split <;> rfl
theorem need_all (cs : List Cmd) : rowN cs.length (needAt cs cs.length 0) = rowN cs.length (fun j => needTo cs j cs.length) := by
  refine rowN_congr (fun j hj => ?_)
  unfold needAt
  rw [if_pos hj]
theorem need_yes (cs : List Cmd) (k i : Nat) (hk : k < cs.length) (h : mustP (atK cs i) (atK cs k) = true) : (rowN cs.length (needAt cs k i)).set k (.int .u32 ((needTo cs k i ||| 2 ^ i : Nat) : Int)) = rowN cs.length (needAt cs k (i + 1)) := by
  rw [rowN_set _ _ hk]
  refine rowN_congr (fun j _ => ?_)
  unfold needAt
  by_cases e : j = k
  · subst e
    rw [if_pos rfl, if_neg (by omega), if_pos rfl, needTo, if_pos h]
  · rw [if_neg e, if_neg e, if_neg e]
theorem need_no (cs : List Cmd) (k i : Nat) (h : mustP (atK cs i) (atK cs k) = false) : rowN cs.length (needAt cs k i) = rowN cs.length (needAt cs k (i + 1)) := by
  refine rowN_congr (fun j _ => ?_)
  unfold needAt
  by_cases e : j = k
  · subst e
    simp [needTo, h]
  · rw [if_neg e, if_neg e]

/-- The numbers of neededBy: a row of the call's own. -/
def NeedPost (cs : List Cmd) (W : World) (e : Ending) (w' : World) : Prop :=
  ∃ g cap, e = .returned (.slice (some ⟨g, 0, none⟩) cs.length cap) ∧ w'.ownsRow W.heap.size 69 1 (.slice (some ⟨g, 0, none⟩) cs.length cap) cs.length (rowN cs.length (fun j => needTo cs j cs.length)) ∧ Below W.heap.size W w'

def NeedRel (cs : List Cmd) (W : World) (len : Nat) (i : Value) (wr : World) : Prop :=
  ∃ k : Nat, i = .int .i64 k ∧ k ≤ cs.length ∧ Hid (wr.ownsRow W.heap.size 69 1 (.slice (some ⟨W.heap.size, 0, none⟩) len len) len (rowN len (needAt cs k 0))) ∧ Hid (Below W.heap.size W wr)
def NeedIn (cs : List Cmd) (W : World) (len k m : Nat) (d : Cmd) (i : Value) (wr : World) : Prop :=
  ∃ j : Nat, i = .int .i64 j ∧ j ≤ cs.length ∧ Hid (wr.ownsRow W.heap.size 69 1 (.slice (some ⟨W.heap.size, 0, none⟩) len len) len (rowN len (needAt cs k j))) ∧ Hid (Below W.heap.size W wr) ∧ Hid (Five wr m (.string d.p) (.int .i64 d.fk) (.int .i64 d.fv) (.int .i64 d.tk) (.int .i64 d.tv))

theorem made_set (z : Value) (n : Nat) : (madeCells #[z] n).toList = List.replicate n z := by
  refine List.ext_getElem? (fun i => ?_)
  by_cases h : i < n
  · rw [List.getElem?_replicate, if_pos h]
    simp [madeCells, h, Nat.mod_one]
  · rw [List.getElem?_eq_none (by simp [madeCells]; omega), List.getElem?_eq_none (by simp; omega)]

theorem below_noneT {W w : World} (h : W.grownBy w none) : Below W.heap.size W w := ⟨h.os, h.tape, h.output, h.size, fun k hk => h.block k hk (by simp)⟩
theorem get_atT {cs : List Cmd} {k : Nat} {c : Cmd} (h : cs[k]? = some c) : atK cs k = c := by
  have hk := (List.getElem?_eq_some_iff.1 h).1
  rw [atK_get hk] at h
  exact Option.some.inj h
theorem need_lt32 (cs : List Cmd) (k : Nat) {i : Nat} (h : i ≤ 20) : needTo cs k i < 4294967296 := by
  have h1 := needTo_lt cs k i
  have h2 := pow_lt32 h
  omega

set_option maxHeartbeats 4000000 in
set_option maxRecDepth 100000 in
theorem neededBy_c (a : Option Addr) (len cap : Nat) (cs : List Cmd) (hl : len ≤ 20) (hs : ShortC 2097152 cs) (W : World) (hN : CmdsAt W a len cs) :
    Calls Try.prog 52 #[.slice a len cap] W (NeedPost cs W) := by
  obtain ⟨i0, hi, hz0, hz1, hz2⟩ := info_parts infoSet
  have HMU := Lib.hid (fun c d (h1 : c.p.size ≤ 2097152) (h2 : d.p.size ≤ 2097152) w => implMustPrecede_c c d h1 h2 w)
  have HN := Lib.hid hN
  have HE := Lib.hid hN.1
  have HS := Lib.hid hs
  have HL := Lib.hid hl
  have hl' : (len : Int) ≤ 20 := by omega
  clear hN hs
  go_enter Try.func52, Try.ntmps52
  go_wp2_with (refine wpList_make_full _ rfl _ _ 70 rfl W.heap.size 69 i0 (.int .u32 0) 1 Try.underlying70 hi hz0 hz1 .i64 .i64 _ _ len rfl rfl rfl rfl (by rw [hz2]; omega) (by unfold maxLen; omega) (Nat.le_refl _) ?_; intro w1 hown1 hg1)
  have HB1 := Lib.hid (below_noneT hg1)
  have HO1 : Hid (w1.ownsRow W.heap.size 69 1 (.slice (some ⟨W.heap.size, 0, none⟩) len len) len (rowN len (needAt cs 0 0))) := by
    rw [Nat.mul_one, show (madeCells (Value.int .u32 0).cells len).toList = rowN len (needAt cs 0 0) from (made_set _ _).trans (by rw [← HE.out]; exact (need_start cs).symm)] at hown1
    exact hown1
  clear hown1 hg1
  go_loopw [13] (fun i wr => NeedRel cs W len i wr) (fun i _ => len - (intOf i).toNat)
  case atStart => exact ⟨0, rfl, Nat.zero_le _, HO1, HB1⟩
  case round =>
    obtain ⟨k, rfl, hk, HO, HB⟩ := hrel
    obtain ⟨wr0, rfl⟩ : ∃ X, X = wr := ⟨_, rfl⟩
    by_cases hlt : k < len
    · have hlt' : (k : Int) < len := by omega
      have hw1 : IntKind.i64.wrap ((k : Int) + 1) = (k : Int) + 1 := IntWalk.i64_in _ (by omega)
      have HLT := Lib.hid (show k < len ∧ k < cs.length by have := HE.out; omega)
      obtain ⟨b, off, d, rfl, hd, d0, d1, d2, d3, d4⟩ := (HN.out.keep HB.out).node (i := k) HLT.out.1
      have HD := Lib.hid (get_atT hd)
      have HDS := Lib.hid (HS.out.at hd)
      obtain ⟨q, gk, gv, uk, uv⟩ := d
      simp only at d0 d1 d2 d3 d4 HDS
      have F5 := Lib.hid (five_new wr0 (.string q) (.int .i64 gk) (.int .i64 gv) (.int .i64 uk) (.int .i64 uv) 26)
      have O5 := Lib.hid (HO.out.alloc (.cells #[.string q, .int .i64 gk, .int .i64 gv, .int .i64 uk, .int .i64 uv] 26))
      have B5 := Lib.hid (below_next HB.out (below_box wr0 (.cells #[.string q, .int .i64 gk, .int .i64 gv, .int .i64 uk, .int .i64 uv] 26)))
      have HNE := Lib.hid (show wr0.heap.size ≠ W.heap.size by have : W.heap.size < wr0.heap.size := (HO.out.lt _ rfl).2; omega)
      clear hk hlt hd
      go_wp2_with fail
      obtain ⟨WB, hWB⟩ : ∃ X, X = wr0.alloc (.cells #[.string q, .int .i64 gk, .int .i64 gv, .int .i64 uk, .int .i64 uv] 26) := ⟨_, rfl⟩
      rw [← hWB] at F5 O5 B5 ⊢
      clear hWB d0 d1 d2 d3 d4
      go_loopw [20] (fun i w2 => NeedIn cs W len k wr0.heap.size ⟨q, gk, gv, uk, uv⟩ i w2) (fun i _ => len - (intOf i).toNat)
      case atStart => exact ⟨0, rfl, Nat.zero_le _, O5, B5, F5⟩
      case round =>
        obtain ⟨j, rfl, hj, HOI, HBI, HFI⟩ := hrel
        by_cases hjt : j < len
        · have hjt' : (j : Int) < len := by omega
          have hj1 : IntKind.i64.wrap ((j : Int) + 1) = (j : Int) + 1 := IntWalk.i64_in _ (by omega)
          have HJT := Lib.hid (show j < len ∧ j < cs.length by have := HE.out; omega)
          obtain ⟨bb, off2, c, hbb, hc, c0, c1, c2, c3, c4⟩ := (HN.out.keep HBI.out).node (i := j) HJT.out.1
          cases hbb
          have HC := Lib.hid (get_atT hc)
          have HCS := HS.out.at hc
          obtain ⟨mm, hmm⟩ : ∃ mm, mustP c ⟨q, gk, gv, uk, uv⟩ = mm := ⟨_, rfl⟩
          have HM := Lib.hid (fun w => show Calls Try.prog 15 #[cmdV c, cmdV ⟨q, gk, gv, uk, uv⟩] w (BoolPost mm w) by rw [← hmm]; exact HMU.out c ⟨q, gk, gv, uk, uv⟩ HCS HDS.out w)
          have HMM := Lib.hid (show mustP (atK cs j) (atK cs k) = mm by rw [HC.out, HD.out]; exact hmm)
          obtain ⟨p, fk, fv, tk, tv⟩ := c
          unfold cmdV at HM
          simp only at HM c0 c1 c2 c3 c4
          obtain ⟨f0, f1, f2, f3, f4, -⟩ := HFI.out
          have e0 := fun o => cell_kept (below_box wr o) f0
          have e1 := fun o => cell_kept (below_box wr o) f1
          have e2 := fun o => cell_kept (below_box wr o) f2
          have e3 := fun o => cell_kept (below_box wr o) f3
          have e4 := fun o => cell_kept (below_box wr o) f4
          clear hj hjt hc hmm HCS
          go_wp2_with fail
          refine (HM.out _).mono ?_
          rintro e W7 ⟨rfl, hb7⟩
          have O7 := Lib.hid (own_below (HOI.out.alloc (.cells #[.string p, .int .i64 fk, .int .i64 fv, .int .i64 tk, .int .i64 tv] 26)) hb7)
          have B7 := Lib.hid (below_next (below_next HBI.out (below_box wr (.cells #[.string p, .int .i64 fk, .int .i64 fv, .int .i64 tk, .int .i64 tv] 26))) hb7)
          have F7 := Lib.hid ((HFI.out.alloc (.cells #[.string p, .int .i64 fk, .int .i64 fv, .int .i64 tk, .int .i64 tv] 26)).below hb7)
          clear hb7 c0 c1 c2 c3 c4 e0 e1 e2 e3 e4 f0 f1 f2 f3 f4
          cases mm with
          | false =>
            have HNX := Lib.hid (need_no cs k j HMM.out)
            rw [HE.out] at HNX
            go_wp2
            go_roundw
            case rel => exact ⟨j + 1, by go_num, HJT.out.2, by have := O7.out; rwa [HNX.out] at this, B7, F7⟩
            case measure => have := HJT.out; simp [intOf]; omega
          | true =>
            have HNX := Lib.hid (need_yes cs k j HLT.out.2 HMM.out)
            rw [HE.out] at HNX
            have HWI := Lib.hid (with_c (needTo cs k j) j (need_lt32 cs k (by have := HL.out; have := HJT.out.1; omega)) (by have := HL.out; have := HJT.out.1; omega) W7)
            have x0 : W7.cell? ⟨W.heap.size, k, none⟩ = some (.int .u32 (needTo cs k j : Nat)) := by
              rw [O7.out.cellAt _ (by have := HLT.out.1; omega), rowN_get _ HLT.out.1]
              simp [needAt]
            have y0 := O7.out.frozenAt k
            have HST := O7.out.stored k (.int .u32 ((needTo cs k j ||| 2 ^ j : Nat) : Int))
            rw [HNX.out] at HST
            have HS8 := Lib.hid HST.1
            clear HST
            go_wp2_with fail
            refine HWI.out.mono ?_
            rintro e W8 ⟨rfl, rfl⟩
            go_wp2
            go_roundw
            case rel => exact ⟨j + 1, by go_num, HJT.out.2, HS8, below_setCell B7.out _ _ (Nat.le_refl _), F7.out.keep (grownBy_setCell_at _ _ _ _) HNE.out⟩
            case measure => have := HJT.out; simp [intOf]; omega
        · have hge : (len : Int) ≤ j := by omega
          have hjl : j = len := by have := HE.out; omega
          subst hjl
          have HNX := Lib.hid (need_end cs k HLT.out.2)
          rw [HE.out] at HNX
          have HO9 := HOI.out
          rw [HNX.out] at HO9
          have HOX := Lib.hid HO9
          clear hj hjt HO9
          go_wp2
          go_roundw
          case rel => exact ⟨k + 1, by go_num, HLT.out.2, HOX, HBI⟩
          case measure => have := HLT.out; simp [intOf]; omega
    · have hge : (len : Int) ≤ k := by omega
      have hkl : k = cs.length := by have := HE.out; omega
      subst hkl
      clear hk hlt
      have HO9 := HO.out
      have h9 := need_all cs
      rw [HE.out] at h9
      rw [HE.out, h9] at HO9
      have HOX := Lib.hid HO9
      clear HO9 h9
      go_wp2
      go_ret
      exact ⟨W.heap.size, len, by rw [HE.out]; rfl, by rw [HE.out]; exact HOX.out, HB.out⟩

/-! ### OrderFits -/
theorem onceV_len {cs : List Cmd} (h : onceV cs = true) : cs.length ≤ 20 := ((validL_iff cs).1 (onceV_iff.1 h).2).2
theorem onceV_valid {cs : List Cmd} (h : onceV cs = true) : ∀ c ∈ cs, validC c = true := ((validL_iff cs).1 (onceV_iff.1 h).2).1

/-- What must precede a command has been done. -/
def doneB (cs : List Cmd) (k : Nat) : Bool := decide (∀ i, i < cs.length → (needTo cs k cs.length).testBit i = true → (2 ^ k - 1).testBit i = true)
theorem doneB_iff (cs : List Cmd) (k : Nat) : doneB cs k = true ↔ ∀ i, (needTo cs k cs.length).testBit i = true → (2 ^ k - 1).testBit i = true := by
  unfold doneB
  rw [decide_eq_true_eq]
  constructor
  · intro h i hi
    refine h i ?_ hi
    rw [needTo_bit, Bool.and_eq_true, decide_eq_true_eq] at hi
    exact hi.1
  · exact fun h i _ => h i
theorem order_not {cs : List Cmd} (h : onceV cs = true) {k : Nat} (hk : k < cs.length) (hd : doneB cs k = false) : orderV cs = false := by
  unfold orderV
  rw [h, Bool.true_and, Bool.eq_false_iff]
  intro hf
  rw [(doneB_iff cs k).2 ((fits_bits (onceV_valid h)).1 hf k hk)] at hd
  cases hd
theorem order_yes {cs : List Cmd} (h : onceV cs = true) (hd : ∀ k, k < cs.length → doneB cs k = true) : orderV cs = true := by
  unfold orderV
  rw [h, Bool.true_and]
  exact (fits_bits (onceV_valid h)).2 (fun k hk => (doneB_iff cs k).1 (hd k hk))

def OrdRel (cs : List Cmd) (W : World) (d i : Value) (wr : World) : Prop :=
  ∃ k : Nat, i = .int .i64 k ∧ d = .int .u32 ((2 ^ k - 1 : Nat) : Int) ∧ k ≤ cs.length ∧ Hid (∀ j, j < k → doneB cs j = true) ∧ wr = W

set_option maxHeartbeats 4000000 in
set_option maxRecDepth 100000 in
theorem implOrderFits_c (a : Option Addr) (len cap : Nat) (cs : List Cmd) (hl : len ≤ 2097152) (hs : ShortC 2097152 cs) (W : World) (hN : CmdsAt W a len cs) :
    Calls Try.prog 23 #[.slice a len cap] W (BoolPost (orderV cs) W) := by
  obtain ⟨u, hu⟩ : ∃ u, onceV cs = u := ⟨_, rfl⟩
  have HO := Lib.hid (show Calls Try.prog 51 #[.slice a len cap] W (BoolPost u W) by rw [← hu]; exact pathsOnce_c a len cap cs hl hs W hN)
  cases u with
  | false =>
    have HR := Lib.hid (show orderV cs = false by unfold orderV; rw [hu]; rfl)
    clear hu hN hs
    go_enter Try.func23, Try.ntmps23
    go_wp2_with fail
    refine HO.out.mono ?_
    rintro e W1 ⟨rfl, hb1⟩
    have B1 := Lib.hid hb1
    clear hb1
    go_wp2
    go_ret
    exact ⟨ret_bool HR.out.symm, B1.out⟩
  | true =>
    have HU := Lib.hid hu
    have HL := Lib.hid (onceV_len hu)
    have HE := Lib.hid hN.1
    have hl20 : (cs.length : Int) ≤ 20 := by have := HL.out; omega
    have HNB := Lib.hid (fun W' (hb : Below W.heap.size W W') => neededBy_c a len cap cs (by have := HL.out; have := HE.out; omega) hs W' (hN.keep hb))
    clear hu hN hs
    go_enter Try.func23, Try.ntmps23
    go_wp2_with fail
    refine HO.out.mono ?_
    rintro e W1 ⟨rfl, hb1⟩
    have B1 := Lib.hid hb1
    clear hb1
    go_wp2_with fail
    refine (HNB.out _ B1.out).mono ?_
    rintro e W2 ⟨g, c2, rfl, ho2, hb2⟩
    have B2 := Lib.hid (below_next B1.out hb2)
    have HO2 := Lib.hid ho2
    clear hb2 ho2
    go_wp2_with fail
    go_loopw [3, 12] (fun d i wr => OrdRel cs W2 d i wr) (fun _ i _ => cs.length - (intOf i).toNat)
    case atStart => exact ⟨0, rfl, rfl, Nat.zero_le _, Lib.hid (fun j h => absurd h (by omega)), rfl⟩
    case round =>
      obtain ⟨k, rfl, rfl, hk, HP, rfl⟩ := hrel
      by_cases hlt : k < cs.length
      · have hlt' : (k : Int) < cs.length := by omega
        have hw1 : IntKind.i64.wrap ((k : Int) + 1) = (k : Int) + 1 := IntWalk.i64_in _ (by omega)
        have HLT := Lib.hid hlt
        obtain ⟨v, hv⟩ : ∃ v, doneB cs k = v := ⟨_, rfl⟩
        have hp20 := pow_lt32 (show k ≤ 20 by have := HL.out; omega)
        have HA := Lib.hid (fun w => hasAll_c (2 ^ k - 1) (needTo cs k cs.length) (by omega) (need_lt32 cs k HL.out) v (by rw [← hv]; exact doneB_iff cs k) w)
        have HW := Lib.hid (fun w => show Calls Try.prog 54 #[.int .u32 ((2 ^ k - 1 : Nat) : Int), .int .i64 k] w (fun e W' => e = .returned (.int .u32 ((2 ^ (k + 1) - 1 : Nat) : Int)) ∧ W' = w) by rw [← or_pow k]; exact with_c (2 ^ k - 1) k (by omega) (by have := HL.out; omega) w)
        have HV := Lib.hid hv
        obtain ⟨nn, hnn⟩ : ∃ nn, needTo cs k cs.length = nn := ⟨_, rfl⟩
        obtain ⟨dd, hdd⟩ : ∃ dd, 2 ^ k - 1 = dd := ⟨_, rfl⟩
        have x0 : wr.cell? ⟨g, k, none⟩ = some (.int .u32 (needTo cs k cs.length : Nat)) := by
          rw [HO2.out.cellAt _ (by omega), rowN_get _ hlt]
        rw [hnn] at HA x0
        rw [hdd] at HA HW ⊢
        clear hk hlt hv hp20 hnn hdd
        go_wp2_with fail
        refine (HA.out _).mono ?_
        rintro e W4 ⟨rfl, rfl⟩
        cases v with
        | false =>
          have HR := Lib.hid (order_not HU.out HLT.out HV.out)
          go_wp2
          go_ret
          exact ⟨ret_bool HR.out.symm, B2.out⟩
        | true =>
          go_wp2_with fail
          refine (HW.out _).mono ?_
          rintro e W5 ⟨rfl, rfl⟩
          go_wp2
          go_roundw
          case rel =>
            refine ⟨k + 1, by go_num, rfl, HLT.out, Lib.hid (fun j hj => ?_), rfl⟩
            by_cases h : j < k
            · exact HP.out j h
            · obtain rfl : j = k := by omega
              exact HV.out
          case measure => have := HLT.out; simp [intOf]; omega
      · have hge : (cs.length : Int) ≤ k := by omega
        have HR := Lib.hid (order_yes HU.out (fun j hj => HP.out j (by omega)))
        clear hk hlt
        go_wp2
        go_ret
        exact ⟨ret_bool HR.out.symm, B2.out⟩

/-! ### OrderSwap -/
set_option maxHeartbeats 2000000 in
set_option maxRecDepth 100000 in
theorem cloneC_c (a : Option Addr) (len cap : Nat) (cs : List Cmd) (hl : len ≤ 2097152) (W : World) (hN : CmdsAt W a len cs) :
    Calls Try.prog 48 #[.slice a len cap] W (CmdsPost cs W) := by
  have HN := Lib.hid hN
  have HE := Lib.hid hN.1
  have q23 : ∀ (w : World) (a : Option Addr) (n c n' c' : Nat), (binOp .eql 33 (.slice a n c) (.slice none n' c')).run Try.prog w = .ok (.bool a.isNone) w := fun w a n c n' c' => Lib.run_eql_slice_nil w _ _ a n c n' c' Try.underlying33
  cases a with
  | none =>
    have hz : cs = [] := by
      rcases hN.2 with h | ⟨_, _, h, _⟩
      · exact List.eq_nil_of_length_eq_zero (hN.1.trans h)
      · cases h
    subst hz
    clear hN
    go_enter Try.func48, Try.ntmps48
    go_wp2
    exact bodyPost_ret (v := .slice none 0 0) (by simp [results, Try.f48, go_sem]) rfl ⟨⟨_, rfl, World.ownsRow_nil _ _ _ _⟩, Below.refl _ _⟩
  | some ad =>
    clear hN
    go_enter Try.func48, Try.ntmps48
    go_wp2_with (at_builtin; refine wpList_append_cmds rfl _ _ rfl W.heap.size _ [] rfl (World.ownsRow_lit (e := 26) (size := 5) W #[] 0 (Nat.le_refl _) (by simp [maxLen]) rfl) _ _ _ _ rfl (HN.out.keep (below_box _ _)) (by have := HE.out; simp; omega) (by simp) ?_; intro v3 w3 ho3 hg3)
    have B3 : Below W.heap.size W w3 := (below_box W _).grown hg3 (by simp) (fun k e => by cases e; exact Nat.le_refl _)
    exact bodyPost_ret (v := v3) (by simp [results, Try.f48, go_sem]) rfl ⟨⟨v3, rfl, by simpa using ho3⟩, B3⟩

theorem order_swap_not {cs : List Cmd} {k : Int} (h : orderV cs = false ∨ ¬ (0 ≤ k ∧ k + 2 ≤ cs.length)) : orderSwap cs k = ([], false) := by
  unfold orderSwap
  rw [if_neg]
  rintro ⟨h1, h2⟩
  rcases h with h | h
  · rw [h] at h1; cases h1
  · exact h h2
theorem order_swap_is {cs : List Cmd} {n : Nat} {v : Bool} (h : orderV cs = true) (hn : n + 1 < cs.length) (hv : orderV (swapK cs n (n + 1)) = v) : orderSwap cs n = if v = true then (swapK cs n (n + 1), true) else ([], false) := by
  unfold orderSwap
  rw [if_pos ⟨h, by omega, by omega⟩, Int.toNat_natCast]
  have hp : cs.Perm (swapK cs n (n + 1)) := (swapK_perm (by omega) hn).symm
  have e : fitsB (swapK cs n (n + 1)) = v := by
    rw [← hv]
    unfold orderV
    obtain ⟨h1, h2, _⟩ := orderV_iff.1 h
    rw [onceV_iff.2 ⟨(hp.map Cmd.p).nodup_iff.1 h1, validL_perm hp h2⟩]
    rfl
  rw [e]
theorem below_fiveT {W w : World} {g o : Nat} (c : Cmd) (h : Below W.heap.size W w) (hg : W.heap.size ≤ g) : Below W.heap.size W (set5 w g o c) := h.grown (grown_set5 w g o c) h.size (fun k e => by cases e; exact hg)
theorem own_someT {W : World} {base : Nat} {e : TypeId} {v : Value} {cs : List Cmd} (h : W.ownsRow base e 5 v cs.length (flatC cs)) (h0 : 0 < cs.length) : ∃ g cap, v = .slice (some ⟨g, 0, none⟩) cs.length cap ∧ base ≤ g ∧ cs.length ≤ cap := by
  rcases h.2 with ⟨_, h1⟩ | ⟨g, cap, cur, rfl, h1, h2, h3, h4, _⟩
  · omega
  · exact ⟨g, cap, rfl, h1, h3⟩
theorem move_nil {r : List Cmd × Bool} {W w : World} (h : r = ([], false)) (hB : Below W.heap.size W w) : MovePost r W (.returned (.tuple #[.slice none 0 0, .bool false])) w := move_end h (World.ownsRow_nil _ _ _ _) hB

set_option maxHeartbeats 4000000 in
set_option maxRecDepth 100000 in
theorem implOrderSwap_c (a : Option Addr) (len cap : Nat) (cs : List Cmd) (k : Int) (hl : len ≤ 2097152) (hs : ShortC 2097152 cs) (W : World) (hN : CmdsAt W a len cs) :
    Calls Try.prog 20 #[.slice a len cap, .int .i64 k] W (MovePost (orderSwap cs k) W) := by
  have HN := Lib.hid hN
  have HE := Lib.hid hN.1
  have hl' : (len : Int) ≤ 2097152 := by omega
  have hw0 : IntKind.i64.wrap ((len : Int) - 1) = (len : Int) - 1 := IntWalk.i64_in _ (by omega)
  by_cases hk : 0 ≤ k ∧ k + 2 ≤ cs.length
  · obtain ⟨u, hu⟩ : ∃ u, orderV cs = u := ⟨_, rfl⟩
    have HO := Lib.hid (show Calls Try.prog 23 #[.slice a len cap] W (BoolPost u W) by rw [← hu]; exact implOrderFits_c a len cap cs hl hs W hN)
    obtain ⟨n, rfl⟩ := Int.eq_ofNat_of_zero_le hk.1
    have HK := Lib.hid (show n + 1 < cs.length ∧ n + 1 < len by have := HE.out; omega)
    have hkl : (n : Int) < len := by have := HK.out.2; omega
    have hkl2 : (n : Int) + 1 < len := by have := HK.out.2; omega
    have hkl3 : (n : Int) < (len : Int) - 1 := by have := HK.out.2; omega
    have hk0 : (0 : Int) ≤ n := by omega
    have hkn : ¬ ((n : Int) < 0) := by omega
    have hk1 : (0 : Int) ≤ (n : Int) + 1 := by omega
    have ht1 : ((n : Int) + 1).toNat = n + 1 := by omega
    have hw1 : IntKind.i64.wrap ((n : Int) + 1) = (n : Int) + 1 := IntWalk.i64_in _ (by omega)
    cases u with
    | false =>
      have HR := Lib.hid (order_swap_not (k := (n : Int)) (.inl hu))
      clear hN hs hk hu
      go_enter Try.func20, Try.ntmps20
      go_wp2_with fail
      refine HO.out.mono ?_
      rintro e W1 ⟨rfl, hb1⟩
      have B1 := Lib.hid hb1
      clear hb1
      go_wp2
      go_ret2
      exact move_nil HR.out B1.out
    | true =>
      have HCL := Lib.hid (fun W' (hb : Below W.heap.size W W') => cloneC_c a len cap cs hl W' (hN.keep hb))
      obtain ⟨v, hv⟩ : ∃ v, orderV (swapK cs n (n + 1)) = v := ⟨_, rfl⟩
      have HR := Lib.hid (order_swap_is hu HK.out.1 hv)
      have HOX := Lib.hid (fun x (q : Nat) W' (hn : CmdsAt W' x cs.length (swapK cs n (n + 1))) => show Calls Try.prog 23 #[.slice x cs.length q] W' (BoolPost v W') by rw [← hv]; exact implOrderFits_c x cs.length q _ (by have := HE.out; omega) (fun c hc => hs c ((swapK_perm (by have := HK.out.1; omega) HK.out.1).mem_iff.1 hc)) W' hn)
      have HXL := Lib.hid (swapK_length cs n (n + 1))
      clear hN hs hk hu hv
      go_enter Try.func20, Try.ntmps20
      go_wp2_with fail
      refine HO.out.mono ?_
      rintro e W1 ⟨rfl, hb1⟩
      have B1 := Lib.hid hb1
      clear hb1
      go_wp2_with fail
      refine (HCL.out _ B1.out).mono ?_
      rintro e W3 ⟨⟨v3, rfl, ho3⟩, hb3⟩
      have B3 := Lib.hid (below_next B1.out hb3)
      have hO3 := own_mono ho3 (show W.heap.size ≤ W1.heap.size from B1.out.size)
      obtain ⟨g, c3, rfl, hgb, hlc⟩ := own_someT hO3 (by have := HK.out; omega)
      have hel : (cs.length : Int) = len := by have := HE.out; omega
      obtain ⟨b, off, cj, rfl, hcj, d0, d1, d2, d3, d4⟩ := (HN.out.keep B3.out).node (i := n + 1) HK.out.2
      obtain ⟨b', off', ci, hbb, hci, e0, e1, e2, e3, e4⟩ := (HN.out.keep B3.out).node (i := n) (by have := HK.out.2; omega)
      cases hbb
      obtain ⟨c0, c1, c2, c3', c4⟩ := hp_cells hO3 (i := n) (by have := HK.out.1; omega) rfl
      obtain ⟨y0, y1, y2, y3, y4⟩ := hp_cells hO3 (i := n + 1) HK.out.1 rfl
      have f0 := fun o => row_frozen hO3 o
      have hr1 := own_set5 hO3 (i := n) (by have := HK.out.1; omega) cj
      obtain ⟨x0, x1, x2, x3, x4⟩ := hp_cells hr1 (i := n + 1) (by rw [List.length_set]; exact HK.out.1) (by rw [List.length_set])
      obtain ⟨cx, hcx⟩ : ∃ c, atK (cs.set n cj) (n + 1) = c := ⟨_, rfl⟩
      rw [hcx] at x0 x1 x2 x3 x4
      have HSW := Lib.hid (own_swap5 hO3 (i := n) (j := n + 1) (by have := HK.out.1; omega) HK.out.1)
      have BSW := Lib.hid (below_fiveT (o := (n + 1) * 5) ci (below_fiveT (o := n * 5) cj B3.out hgb) hgb)
      rw [get_atT hcj, get_atT hci] at HSW
      obtain ⟨WX, hWX⟩ : ∃ X, X = set5 (set5 W3 g (n * 5) cj) g ((n + 1) * 5) ci := ⟨_, rfl⟩
      rw [← hWX] at HSW BSW
      unfold set5 at x0 x1 x2 x3 x4 hWX
      have hgl := World.block_lt_of_cell? W3 _ c0
      have hlc2 : (cs.length : Int) ≤ c3 := by omega
      clear hcj hci hcx hr1 hO3 hgb hlc ho3 hb3
      go_upto_region 4 with (fail)
      go_region
      all_goals
        rw [← hWX]
        clear hWX c0 c1 c2 c3' c4 d0 d1 d2 d3 d4 e0 e1 e2 e3 e4 x0 x1 x2 x3 x4 y0 y1 y2 y3 y4 f0 hgl
        go_wp2_with fail
        refine (HOX.out _ _ _ ?_).mono ?_
        · have h := HSW.out
          rw [show cs.length = (swapK cs n (n + 1)).length from HXL.out.symm] at h
          have h2 := cmds_own h
          rw [HXL.out] at h2
          exact h2.keep (Below.refl _ _).drew
        rintro e W5 ⟨rfl, hb5⟩
        have B5 : Hid (Below W.heap.size W W5) := Lib.hid (below_next BSW.out.drew hb5)
        have HO5 : Hid (W5.ownsRow W.heap.size 26 5 (.slice (some ⟨g, 0, none⟩) cs.length c3) cs.length (flatC (swapK cs n (n + 1)))) := Lib.hid (own_below (row_drew HSW.out) hb5)
        clear hb5
        cases v with
        | false =>
          rw [if_neg (by decide)] at HR
          go_wp2
          go_ret2
          exact move_nil HR.out B5.out
        | true =>
          rw [if_pos rfl] at HR
          go_wp2
          go_ret2
          exact move_end HR.out (by rw [HXL.out]; exact HO5.out) B5.out
  · have HR := Lib.hid (order_swap_not (cs := cs) (k := k) (.inr hk))
    by_cases hk0 : k < 0
    · clear hN hs hk
      go_enter Try.func20, Try.ntmps20
      go_wp2
      go_ret2
      exact move_nil HR.out (Below.refl _ _)
    · have hkn : (len : Int) - 1 ≤ k := by have := HE.out; omega
      have hk1 : (0 : Int) ≤ k := by omega
      clear hN hs hk hk0
      go_enter Try.func20, Try.ntmps20
      go_wp2
      go_ret2
      exact move_nil HR.out (Below.refl _ _)

end Go.Proofs.Ytpjoahddbdmbpaa

/-
  WALKS: orders of the program, counted: impl.OrdersCount.
-/
namespace Go.Proofs.Ytpjoahddbdmbpaa
open Go.RowKit
set_option linter.unusedVariables false

theorem ou_first : (0 : Nat) ≤ 0 := Nat.le_refl 0

def natsV (t : List Nat) : List Value := t.map (fun x => Value.int .i64 ((x : Nat) : Int))
theorem natsV_length (t : List Nat) : (natsV t).length = t.length := by simp [natsV]
theorem natsV_get {t : List Nat} {i : Nat} (h : i < t.length) : (natsV t)[i]? = some (.int .i64 ((t.getD i 0 : Nat) : Int)) := by
  unfold natsV
  rw [List.getElem?_map, List.getD_eq_getElem?_getD, List.getElem?_eq_getElem h]
  rfl
theorem natsV_set (t : List Nat) (i x : Nat) : (natsV t).set i (.int .i64 ((x : Nat) : Int)) = natsV (t.set i x) := by unfold natsV; rw [List.map_set]
theorem natsV_rep (n : Nat) : List.replicate n (Value.int .i64 0) = natsV (List.replicate n 0) := by unfold natsV; rw [List.map_replicate]; rfl

theorem infoIntU : (Try.prog.info? 3).map (fun i => (i.zero, i.size, i.bytes)) = some (some (.int .i64 0), 1, 8) := by kernel_rfl

def CountPostU (n : Int) (W : World) (e : Ending) (w' : World) : Prop := e = .returned (.int .i64 n) ∧ Below W.heap.size W w'

theorem count_no {cs : List Cmd} (h : onceV cs = false ∨ 6 < cs.length) : ordersCount cs = -1 := by
  unfold ordersCount
  rw [if_neg]
  rintro ⟨h1, h2⟩
  rcases h with h | h
  · rw [h] at h1; cases h1
  · omega
theorem count_yes {cs : List Cmd} (h : onceV cs = true) (h6 : cs.length ≤ 6) : ordersCount cs = (((tabT cs (2 ^ cs.length)).getD (2 ^ cs.length - 1) 0 : Nat) : Int) := by
  unfold ordersCount
  rw [if_pos ⟨h, h6⟩, tab_end]

theorem pow_small {n : Nat} (h : n ≤ 6) : 1 ≤ 2 ^ n ∧ 2 ^ n ≤ 64 := ⟨Nat.pow_pos (by omega), Nat.pow_le_pow_right (n := 2) (by omega) h⟩

def TabRel (cs : List Cmd) (W : World) (N g h c2 : Nat) (i : Value) (wr : World) : Prop :=
  ∃ m : Nat, i = .int .i64 m ∧ m ≤ N ∧ Hid (wr.ownsRow W.heap.size 3 1 (.slice (some ⟨g, 0, none⟩) N N) N (natsV (tabT cs m))) ∧ Hid (wr.ownsRow W.heap.size 69 1 (.slice (some ⟨h, 0, none⟩) cs.length c2) cs.length (rowN cs.length (fun j => needTo cs j cs.length))) ∧ Hid (Below W.heap.size W wr)
def TabIn (cs : List Cmd) (W : World) (N g h c2 m : Nat) (i : Value) (wr : World) : Prop :=
  ∃ k : Nat, i = .int .i64 k ∧ k ≤ cs.length ∧ Hid (wr.ownsRow W.heap.size 3 1 (.slice (some ⟨g, 0, none⟩) N N) N (natsV (rowT cs m (tabT cs m) k))) ∧ Hid (wr.ownsRow W.heap.size 69 1 (.slice (some ⟨h, 0, none⟩) cs.length c2) cs.length (rowN cs.length (fun j => needTo cs j cs.length))) ∧ Hid (Below W.heap.size W wr)

theorem row_no {cs : List Cmd} {m k : Nat} (h : freeK cs (usedK cs.length m) k = false) : rowT cs m (tabT cs m) (k + 1) = rowT cs m (tabT cs m) k := by
  show stepT cs m k _ = _
  unfold stepT
  rw [if_neg (by rw [h]; decide)]
theorem row_yes {cs : List Cmd} {m k : Nat} (h : freeK cs (usedK cs.length m) k = true) : rowT cs m (tabT cs m) (k + 1) = (rowT cs m (tabT cs m) k).set (m ||| 2 ^ k) ((rowT cs m (tabT cs m) k).getD (m ||| 2 ^ k) 0 + (rowT cs m (tabT cs m) k).getD m 0) := by
  show stepT cs m k _ = _
  unfold stepT
  rw [if_pos h]

/-- A row stands while a cell of a row of another type is written. -/
theorem apart_set {W : World} {b1 b2 g cap n1 n2 : Nat} {e1 e2 : TypeId} {v1 : Value} {x1 x2 : List Value} (h1 : W.ownsRow b1 e1 1 v1 n1 x1) (h2 : W.ownsRow b2 e2 1 (.slice (some ⟨g, 0, none⟩) n2 cap) n2 x2) (he : e1 ≠ e2) (i : Nat) (u : Value) : (W.setCell ⟨g, i, none⟩ u).ownsRow b1 e1 1 v1 n1 x1 :=
  apart_type h1 h2 he (grownBy_setCell_at W g i u)

set_option maxHeartbeats 4000000 in
set_option maxRecDepth 100000 in
theorem implOrdersCount_c (a : Option Addr) (len cap : Nat) (cs : List Cmd) (hl : len ≤ 2097152) (hs : ShortC 2097152 cs) (W : World) (hN : CmdsAt W a len cs) :
    Calls Try.prog 26 #[.slice a len cap] W (CountPostU (ordersCount cs) W) := by
  obtain ⟨i0, hi, hz0, hz1, hz2⟩ := info_parts infoIntU
  have HE := Lib.hid hN.1
  have hl' : (len : Int) ≤ 2097152 := by omega
  by_cases h6 : len ≤ 6
  · obtain ⟨u, hu⟩ : ∃ u, onceV cs = u := ⟨_, rfl⟩
    have HO := Lib.hid (show Calls Try.prog 51 #[.slice a len cap] W (BoolPost u W) by rw [← hu]; exact pathsOnce_c a len cap cs hl hs W hN)
    have h6' : (len : Int) ≤ 6 := by omega
    have hn6 : ¬ ((6 : Int) < len) := by omega
    cases u with
    | false =>
      have HR := Lib.hid (count_no (.inl hu))
      clear hN hs hu h6
      go_enter Try.func26, Try.ntmps26
      go_wp2_with fail
      refine HO.out.mono ?_
      rintro e W1 ⟨rfl, hb1⟩
      go_wp2
      go_ret
      exact ⟨by rw [HR.out]; rfl, hb1⟩
    | true =>
      have HR := Lib.hid (count_yes hu (by have := HE.out; omega))
      have HVA := Lib.hid (onceV_valid hu)
      have HNB := Lib.hid (fun W' (hb : Below W.heap.size W W') => neededBy_c a len cap cs (by omega) hs W' (hN.keep hb))
      have HL6 := Lib.hid h6
      have HPW := Lib.hid (pow_small (show cs.length ≤ 6 by have := HE.out; omega))
      obtain ⟨N, hN2⟩ : ∃ N, 2 ^ cs.length = N := ⟨_, rfl⟩
      have HNN := Lib.hid hN2
      have hN64 : (N : Int) ≤ 64 := by have := HPW.out.2; omega
      have hN0 : (0 : Int) < N := by have := HPW.out.1; omega
      have hsh : (2 : Int) ^ len = (N : Int) := by
        rw [← hN2, HE.out]; simp
      have hN1 : IntKind.i64.wrap ((N : Int) - 1) = ((N - 1 : Nat) : Int) := (IntWalk.i64_in _ (by omega)).trans (by omega)
      have hNw : IntKind.i64.wrap (N : Int) = (N : Int) := IntWalk.i64_in _ (by omega)
      rw [hN2] at HR HPW
      clear hN hs hu h6 hN2
      go_enter Try.func26, Try.ntmps26
      go_wp2_with fail
      refine HO.out.mono ?_
      rintro e W1 ⟨rfl, hb1⟩
      have B1 := Lib.hid hb1
      clear hb1
      go_wp2_with fail
      refine (HNB.out _ B1.out).mono ?_
      rintro e W2 ⟨h, c2, rfl, ho2, hb2⟩
      have B2 := Lib.hid (below_next B1.out hb2)
      have HO2 := Lib.hid (own_mono ho2 B1.out.size)
      clear hb2 ho2
      go_upto_region 5 with (refine wpList_make_full _ rfl _ _ 74 rfl W2.heap.size 3 i0 (.int .i64 0) 1 Try.underlying74 hi hz0 hz1 .i64 .i64 _ _ N rfl rfl rfl rfl (by rw [hz2]; omega) (by unfold maxLen; omega) (Nat.le_refl _) ?_; intro W3 hown3 hg3)
      rw [Nat.mul_one, show (madeCells (Value.int .i64 0).cells N).toList = natsV (List.replicate N 0) from (made_set _ _).trans (natsV_rep _)] at hown3
      have B3 := Lib.hid (below_next B2.out (below_noneT hg3))
      have HS3 := Lib.hid (own_below HO2.out (below_noneT hg3))
      have hO3 := own_mono hown3 B2.out.size
      obtain ⟨g, hg⟩ : ∃ g, W2.heap.size = g := ⟨_, rfl⟩
      rw [hg] at hO3 ⊢
      have hgb : W.heap.size ≤ g := by rw [← hg]; exact B2.out.size
      have x0 : W3.cell? ⟨g, 0, none⟩ = some (.int .i64 0) := by
        rw [hO3.cellAt _ (by have := HPW.out.1; omega), natsV_get (by rw [List.length_replicate]; exact HPW.out.1)]
        rw [List.getD_eq_getElem?_getD, List.getElem?_replicate]
        split <;> rfl
      have y0 := hO3.frozenAt 0
      have hST := (hO3.stored 0 (.int .i64 ((1 : Nat) : Int))).1
      rw [natsV_set] at hST
      have hT0 : (List.replicate N 0).set 0 1 = tabT cs 0 := by
        show _ = tab0 cs
        unfold tab0
        rw [HNN.out]
      rw [hT0] at hST
      have HO4 := Lib.hid (show (W3.setCell ⟨g, 0, none⟩ (.int .i64 1)).ownsRow W.heap.size 3 1 (.slice (some ⟨g, 0, none⟩) N N) N (natsV (tabT cs 0)) from hST)
      have HS4 := Lib.hid (apart_set HS3.out hO3 (by decide) 0 (.int .i64 1))
      have B4 := Lib.hid (show Below W.heap.size W (W3.setCell ⟨g, 0, none⟩ (.int .i64 1)) from below_setCell B3.out _ _ hgb)
      clear hown3 hg3 hO3 hST hT0 hg hgb
      go_wp2
      clear x0 y0
      go_loopw [26] (fun i wr => TabRel cs W N g h c2 i wr) (fun i _ => N - (intOf i).toNat)
      case atStart => exact ⟨0, rfl, Nat.zero_le _, HO4, HS4, B4⟩
      case round =>
        obtain ⟨m, rfl, hm, HT, HS, HB⟩ := hrel
        obtain ⟨wr0, rfl⟩ : ∃ X, X = wr := ⟨_, rfl⟩
        by_cases hlt : m < N
        · have hlt' : (m : Int) < N := by omega
          have hm64 : (m : Int) < 64 := by omega
          have hm1 : IntKind.i64.wrap ((m : Int) + 1) = (m : Int) + 1 := IntWalk.i64_in _ (by omega)
          have hmc : IntKind.u32.wrap (m : Int) = (m : Int) := by rw [IntKind.wrap_u32']; omega
          have HLT := Lib.hid (show m < N ∧ m < 2 ^ cs.length by rw [HNN.out]; exact ⟨hlt, hlt⟩)
          clear hm hlt
          go_wp2_with fail
          go_loopw [33] (fun i wr => TabIn cs W N g h c2 m i wr) (fun i _ => len - (intOf i).toNat)
          case atStart => exact ⟨0, rfl, Nat.zero_le _, HT, HS, HB⟩
          case round =>
            obtain ⟨k, rfl, hk, HTI, HSI, HBI⟩ := hrel
            by_cases hkt : k < len
            · have hkt' : (k : Int) < len := by omega
              have hk1 : IntKind.i64.wrap ((k : Int) + 1) = (k : Int) + 1 := IntWalk.i64_in _ (by omega)
              have HKT := Lib.hid (show k < len ∧ k < cs.length by have := HE.out; omega)
              have hkc : (k : Int) < cs.length := by have := HKT.out.2; omega
              have HHS := Lib.hid (fun w => has_c m k (by have := HLT.out.1; omega) (by have := HL6.out; have := HKT.out.1; omega) w)
              have HFB := Lib.hid (free_bits HVA.out (S := m) HKT.out.2)
              obtain ⟨t, ht⟩ : ∃ t, m.testBit k = t := ⟨_, rfl⟩
              rw [ht] at HHS HFB
              obtain ⟨ff, hff⟩ : ∃ ff, freeK cs (usedK cs.length m) k = ff := ⟨_, rfl⟩
              have HFF := Lib.hid hff
              have HTT := Lib.hid ht
              rw [hff] at HFB
              clear hk hkt ht hff
              cases t with
              | true =>
                have hf0 : ff = false := by
                  rw [Bool.eq_false_iff]
                  intro hf
                  have := (HFB.out.1 hf).1
                  cases this
                have HNX := Lib.hid (row_no (HFF.out.trans hf0))
                clear hf0
                go_wp2_with fail
                refine (HHS.out _).mono ?_
                rintro e W7 ⟨rfl, rfl⟩
                go_wp2
                go_roundw
                case rel => exact ⟨k + 1, by go_num, HKT.out.2, by rw [HNX.out]; exact HTI, HSI, HBI⟩
                case measure => have := HKT.out; simp [intOf]; omega
              | false =>
                have HHA := Lib.hid (fun w => hasAll_c m (needTo cs k cs.length) (by have := HLT.out.1; omega) (need_lt32 cs k (by have := HL6.out; have := HE.out; omega)) ff (by rw [HFB.out]; simp) w)
                have z0 : wr.cell? ⟨h, k, none⟩ = some (.int .u32 (needTo cs k cs.length : Nat)) := by
                  rw [HSI.out.cellAt _ (by have := HKT.out.2; omega), rowN_get _ HKT.out.2]
                obtain ⟨nn, hnn⟩ : ∃ nn, needTo cs k cs.length = nn := ⟨_, rfl⟩
                rw [hnn] at HHA z0
                clear hnn
                cases ff with
                | false =>
                  have HNX := Lib.hid (row_no HFF.out)
                  go_wp2_with fail
                  refine (HHS.out _).mono ?_
                  rintro e W7 ⟨rfl, rfl⟩
                  go_wp2_with fail
                  refine (HHA.out _).mono ?_
                  rintro e W8 ⟨rfl, rfl⟩
                  go_wp2
                  go_roundw
                  case rel => exact ⟨k + 1, by go_num, HKT.out.2, by rw [HNX.out]; exact HTI, HSI, HBI⟩
                  case measure => have := HKT.out; simp [intOf]; omega
                | true =>
                  have HNX := Lib.hid (row_yes HFF.out)
                  have HWI := Lib.hid (fun w => with_c m k (by have := HLT.out.1; omega) (by have := HL6.out; have := HKT.out.1; omega) w)
                  obtain ⟨hgr, hgx⟩ := set_grows HLT.out.2 HKT.out.2 HTT.out
                  rw [HNN.out] at hgx
                  have hrl := (row_spec (S := m) (t := tabT cs m) HLT.out.2 (tab_length cs m (by have := HLT.out.2; omega)) (fun _ => 0) k (by have := HKT.out.2; omega)).1
                  rw [HNN.out] at hrl
                  have hsm := fun i => row_small cs HLT.out.2 (show k ≤ cs.length by have := HKT.out.2; omega) (tab_small cs m (by have := HLT.out.2; omega)) i
                  have hfl := fac_le (show cs.length ≤ 6 by have := HL6.out; have := HE.out; omega)
                  obtain ⟨x, hx⟩ : ∃ x, m ||| 2 ^ k = x := ⟨_, rfl⟩
                  rw [hx] at HNX HWI hgr hgx
                  obtain ⟨T, hT⟩ : ∃ T, rowT cs m (tabT cs m) k = T := ⟨_, rfl⟩
                  rw [hT] at HNX HTI hrl hsm
                  have xm : wr.cell? ⟨g, m, none⟩ = some (.int .i64 ((T.getD m 0 : Nat) : Int)) := by
                    rw [HTI.out.cellAt _ (by have := HLT.out.1; omega), natsV_get (by have := HLT.out.1; omega)]
                  have xx : wr.cell? ⟨g, x, none⟩ = some (.int .i64 ((T.getD x 0 : Nat) : Int)) := by
                    rw [HTI.out.cellAt _ (by omega), natsV_get (by omega)]
                  have yx := HTI.out.frozenAt x
                  have hxm := hsm m
                  have hxx := hsm x
                  have HST := Lib.hid (show (wr.setCell ⟨g, x, none⟩ (.int .i64 ((T.getD x 0 + T.getD m 0 : Nat) : Int))).ownsRow W.heap.size 3 1 (.slice (some ⟨g, 0, none⟩) N N) N (natsV (T.set x (T.getD x 0 + T.getD m 0))) by rw [← natsV_set]; exact (HTI.out.stored x _).1)
                  have HSS := Lib.hid (apart_set HSI.out HTI.out (by decide) x (.int .i64 ((T.getD x 0 + T.getD m 0 : Nat) : Int)))
                  have HBS := Lib.hid (show Below W.heap.size W (wr.setCell ⟨g, x, none⟩ (.int .i64 ((T.getD x 0 + T.getD m 0 : Nat) : Int))) from below_setCell HBI.out _ _ (HTI.out.lt _ rfl).1)
                  obtain ⟨vm, hvm⟩ : ∃ v, T.getD m 0 = v := ⟨_, rfl⟩
                  obtain ⟨vx, hvx⟩ : ∃ v, T.getD x 0 = v := ⟨_, rfl⟩
                  rw [hvm, hvx] at HST HSS HBS HNX
                  rw [Int.natCast_add] at HST HSS HBS
                  rw [hvm] at xm hxm
                  rw [hvx] at xx hxx
                  have hxN : (x : Int) < N := by omega
                  have hx0 : (0 : Int) ≤ x := by omega
                  have hadd : IntKind.i64.wrap ((vx : Int) + (vm : Int)) = ((vx + vm : Nat) : Int) := (IntWalk.i64_in _ (by omega)).trans (by omega)
                  clear hx hT hrl hsm hfl hgr hgx hvm hvx hxm hxx
                  go_wp2_with fail
                  refine (HHS.out _).mono ?_
                  rintro e W7 ⟨rfl, rfl⟩
                  go_wp2_with fail
                  refine (HHA.out _).mono ?_
                  rintro e W8 ⟨rfl, rfl⟩
                  go_upto_region 14 with (fail)
                  go_region_with (refine (HWI.out _).mono ?_; rintro e W9 ⟨rfl, rfl⟩)
                  all_goals
                    clear xm xx yx z0
                    go_wp2
                    go_roundw
                    case rel => exact ⟨k + 1, by go_num, HKT.out.2, by rw [HNX.out]; exact Lib.hid (row_drew HST.out), Lib.hid (row_drew HSS.out), HBS.out.drew⟩
                    case measure => have := HKT.out; simp [intOf]; omega
            · have hge : (len : Int) ≤ k := by omega
              have hkl : k = cs.length := by have := HE.out; omega
              subst hkl
              clear hk hkt
              go_wp2
              go_roundw
              case rel => exact ⟨m + 1, by go_num, HLT.out.1, HTI, HSI, HBI⟩
              case measure => have := HLT.out; simp [intOf]; omega
        · have hge : (N : Int) ≤ m := by omega
          have hmN : m = N := by omega
          subst hmN
          have z0 : wr0.cell? ⟨g, m - 1, none⟩ = some (.int .i64 (((tabT cs m).getD (m - 1) 0 : Nat) : Int)) := by
            rw [HT.out.cellAt _ (by have := HPW.out.1; omega), natsV_get (by rw [tab_length cs m (by rw [HNN.out]; exact Nat.le_refl _), HNN.out]; have := HPW.out.1; omega)]
          obtain ⟨vv, hvv⟩ : ∃ vv, (tabT cs m).getD (m - 1) 0 = vv := ⟨_, rfl⟩
          rw [hvv] at HR z0
          have hmm1 : ((m - 1 : Nat) : Int) < m := by have := HPW.out.1; omega
          obtain ⟨mp, hmp⟩ : ∃ mp, m - 1 = mp := ⟨_, rfl⟩
          rw [hmp] at z0 hN1 hmm1
          clear hm hlt hvv hmp
          go_wp2
          go_ret
          exact ⟨by rw [HR.out]; rfl, HB.out⟩
  · have HR := Lib.hid (count_no (cs := cs) (.inr (by have := HE.out; omega)))
    have h6' : (6 : Int) < len := by omega
    clear hN hs h6
    go_enter Try.func26, Try.ntmps26
    go_wp2
    go_ret
    exact ⟨by rw [HR.out]; rfl, Below.refl _ _⟩

end Go.Proofs.Ytpjoahddbdmbpaa
