/-
  WALKS: the program's files: isFileName, areBytes, isFile; slices.IndexFunc, ContainsFunc, Concat of numbers; settled.
-/
import Derived.Lib.AppendZerosOnto
import Derived.Lib.Walk
import Derived.Shelf.Abstract
import Derived.Laws.EntriesVeiled
import Derived.Test.YtonbkmmddahlfaaGa
import Derived.Test.YtonbkmmddahlfaaGi
import Derived.Test.YtonbkmmddahlfaaJb
namespace Go.Proofs.Ytonbkmmddahlfaa
open Go.RowKit
set_option linter.unusedVariables false

theorem je_first : (0 : Nat) ≤ 0 := Nat.le_refl 0

set_option maxHeartbeats 400000 in
theorem isFileName_c (n : Int) (w : World) : Calls Try.prog 53 #[.int .i64 n] w fun e w' => e = .returned (.bool (decide (1 ≤ n ∧ n ≤ 3))) ∧ w' = w := by
  by_cases h1 : 1 ≤ n
  · by_cases h2 : n ≤ 3
    · have hr := Lib.hid (show true = decide (1 ≤ n ∧ n ≤ 3) from (decide_eq_true ⟨h1, h2⟩).symm)
      have d1 : decide (1 ≤ n) = true := decide_eq_true h1
      have d2 : decide (n ≤ 3) = true := decide_eq_true h2
      go_enter Try.func53, Try.ntmps53
      go_wp2
      go_ret
      exact ⟨retb hr.out, rfl⟩
    · have hr := Lib.hid (show false = decide (1 ≤ n ∧ n ≤ 3) from (decide_eq_false (fun h => h2 h.2)).symm)
      have d1 : decide (1 ≤ n) = true := decide_eq_true h1
      have d2 : decide (n ≤ 3) = false := decide_eq_false h2
      have h2' : 3 < n := by omega
      clear h2
      go_enter Try.func53, Try.ntmps53
      go_wp2
      go_ret
      exact ⟨retb hr.out, rfl⟩
  · have hr := Lib.hid (show false = decide (1 ≤ n ∧ n ≤ 3) from (decide_eq_false (fun h => h1 h.1)).symm)
    have d1 : decide (1 ≤ n) = false := decide_eq_false h1
    have h1' : n < 1 := by omega
    clear h1
    go_enter Try.func53, Try.ntmps53
    go_wp2
    go_ret
    exact ⟨retb hr.out, rfl⟩

/-- A number that is out of a range. -/
def outB (m z : Int) : Bool := decide (z < 0) || decide (m < z)

set_option maxHeartbeats 400000 in
theorem areBytes1_c (n : Int) (w : World) : Calls Try.prog 63 #[.int .i64 n] w fun e w' => e = .returned (.bool (outB 255 n)) ∧ w' = w := by
  by_cases h1 : n < 0
  · have hr := Lib.hid (show true = outB 255 n by unfold outB; rw [decide_eq_true h1]; rfl)
    have d1 : decide (n < 0) = true := decide_eq_true h1
    go_enter Try.func63, Try.ntmps63
    go_wp2
    go_ret
    exact ⟨retb hr.out, rfl⟩
  · by_cases h2 : 255 < n
    · have hr := Lib.hid (show true = outB 255 n by unfold outB; rw [decide_eq_true h2]; simp)
      have d1 : decide (n < 0) = false := decide_eq_false h1
      have d2 : decide (255 < n) = true := decide_eq_true h2
      have h1' : 0 ≤ n := by omega
      clear h1
      go_enter Try.func63, Try.ntmps63
      go_wp2
      go_ret
      exact ⟨retb hr.out, rfl⟩
    · have hr := Lib.hid (show false = outB 255 n by unfold outB; rw [decide_eq_false h1, decide_eq_false h2]; rfl)
      have d1 : decide (n < 0) = false := decide_eq_false h1
      have d2 : decide (255 < n) = false := decide_eq_false h2
      have h1' : 0 ≤ n := by omega
      have h2' : n ≤ 255 := by omega
      clear h1 h2
      go_enter Try.func63, Try.ntmps63
      go_wp2
      go_ret
      exact ⟨retb hr.out, rfl⟩

set_option maxHeartbeats 400000 in
theorem crash1_c (n : Int) (w : World) : Calls Try.prog 62 #[.int .i64 n] w fun e w' => e = .returned (.bool (outB 400 n)) ∧ w' = w := by
  by_cases h1 : n < 0
  · have hr := Lib.hid (show true = outB 400 n by unfold outB; rw [decide_eq_true h1]; rfl)
    have d1 : decide (n < 0) = true := decide_eq_true h1
    go_enter Try.func62, Try.ntmps62
    go_wp2
    go_ret
    exact ⟨retb hr.out, rfl⟩
  · by_cases h2 : 400 < n
    · have hr := Lib.hid (show true = outB 400 n by unfold outB; rw [decide_eq_true h2]; simp)
      have d1 : decide (n < 0) = false := decide_eq_false h1
      have d2 : decide (400 < n) = true := decide_eq_true h2
      have h1' : 0 ≤ n := by omega
      clear h1
      go_enter Try.func62, Try.ntmps62
      go_wp2
      go_ret
      exact ⟨retb hr.out, rfl⟩
    · have hr := Lib.hid (show false = outB 400 n by unfold outB; rw [decide_eq_false h1, decide_eq_false h2]; rfl)
      have d1 : decide (n < 0) = false := decide_eq_false h1
      have d2 : decide (400 < n) = false := decide_eq_false h2
      have h1' : 0 ≤ n := by omega
      have h2' : n ≤ 400 := by omega
      clear h1 h2
      go_enter Try.func62, Try.ntmps62
      go_wp2
      go_ret
      exact ⟨retb hr.out, rfl⟩

/-- A rule of numbers in memory that leaves the world alone. -/
def RuleI (v : Value) (f : Int → Bool) : Prop :=
  ∃ g : Nat, v = .func (.func g) #[] #[] ∧ (∀ args w', (callFunc g args).run Try.prog w' = .ok (.enter g args) w') ∧ ∀ (z : Int) (W : World), Calls Try.prog g #[.int .i64 z] W fun e w' => e = .returned (.bool (f z)) ∧ w' = W
theorem rule_bytes : RuleI (.func (.func 63) #[] #[]) (outB 255) := ⟨_, rfl, enters_of Try.func63 (by kernel_rfl) rfl, areBytes1_c⟩
theorem rule_keep : RuleI (.func (.func 62) #[] #[]) (outB 400) := ⟨_, rfl, enters_of Try.func62 (by kernel_rfl) rfl, crash1_c⟩

theorem anyI_at {f : Int → Bool} {cs : List Int} {n : Nat} {d : Int} (h : cs[n]? = some d) (hf : f d = true) : cs.any f = true := List.any_eq_true.2 ⟨d, List.mem_of_getElem? h, hf⟩
theorem anyI_none {f : Int → Bool} {cs : List Int} (h : ∀ (j : Nat) (d : Int), cs[j]? = some d → f d = false) : cs.any f = false := by
  rw [Bool.eq_false_iff]
  intro hs
  obtain ⟨d, hd, hf⟩ := List.any_eq_true.1 hs
  obtain ⟨j, hj⟩ := List.getElem?_of_mem hd
  rw [h j d hj] at hf
  cases hf

set_option maxHeartbeats 2000000 in
set_option maxRecDepth 100000 in
theorem indexFuncI_c (a : Option Addr) (len cap : Nat) (cs : List Int) (v : Value) (f : Int → Bool) (hl : len ≤ 2097152) (W : World) (hN : IntsAt W a len cs) (hR : RuleI v f) :
    Calls Try.prog 68 #[.slice a len cap, v] W fun e w' => (∃ i : Int, e = .returned (.int .i64 i) ∧ decide (0 ≤ i) = cs.any f) ∧ w' = W := by
  obtain ⟨g, rfl, eg, hP⟩ := hR
  have HN := Lib.hid hN
  have HE := Lib.hid hN.1
  have HP := Lib.hid hP
  have hl' : (len : Int) ≤ 2097152 := by omega
  clear hN hP
  go_enter Try.func68, Try.ntmps68
  go_wp2
  go_loopw [5, 8] (fun _ k wr => ∃ n : Nat, k = .int .i64 n ∧ n ≤ len ∧ Hid (∀ (j : Nat) (d : Int), j < n → cs[j]? = some d → f d = false) ∧ W = wr) (fun _ k _ => len - (intOf k).toNat)
  case atStart => exact ⟨0, rfl, Nat.zero_le _, Lib.hid (fun j d h => absurd h (Nat.not_lt_zero _)), rfl⟩
  case round =>
    obtain ⟨n, rfl, hn, HNO, rfl⟩ := hrel
    by_cases hlt : n < len
    · have hlt' : (n : Int) < len := by omega
      have hw1 : IntKind.i64.wrap ((n : Int) + 1) = (n : Int) + 1 := IntWalk.i64_in _ (by omega)
      have HLT := Lib.hid hlt
      obtain ⟨b, off, d, rfl, hd, d0⟩ := HN.out.at hlt
      obtain ⟨q, hq⟩ : ∃ q, f d = q := ⟨_, rfl⟩
      have HC := Lib.hid (fun w => show Calls Try.prog g #[.int .i64 d] w (fun e w' => e = .returned (.bool q) ∧ w' = w) by rw [← hq]; exact HP.out d w)
      have HD := Lib.hid (And.intro hd hq)
      clear hn hlt hd hq
      go_wp2_with (go_at_fn g; refine (HC.out _).mono ?_; rintro e W1 ⟨rfl, rfl⟩; clear d0; cases q)
      · go_wp2
        go_roundw
        case rel =>
          refine ⟨n + 1, by go_num, HLT.out, Lib.hid (fun j x hj hx => ?_), trivial⟩
          by_cases h : j < n
          · exact HNO.out j x h hx
          · obtain rfl : j = n := by omega
            rw [HD.out.1] at hx
            obtain rfl := Option.some.inj hx
            exact HD.out.2
        case measure => have := HLT.out; simp [intOf]; omega
      · have hn0 : (0 : Int) ≤ n := by omega
        go_wp2
        go_ret
        exact ⟨⟨n, rfl, by rw [anyI_at HD.out.1 HD.out.2]; exact decide_eq_true hn0⟩, rfl⟩
    · have hge : (len : Int) ≤ n := by omega
      have HX := Lib.hid (anyI_none (f := f) (cs := cs) (fun j d hd => HNO.out j d (by have := (List.getElem?_eq_some_iff.1 hd).1; have := HE.out; omega) hd))
      clear hn hlt
      go_wp2
      go_ret
      exact ⟨⟨-1, rfl, by rw [HX.out]; rfl⟩, rfl⟩

set_option maxHeartbeats 2000000 in
set_option maxRecDepth 100000 in
theorem containsFuncI_c (a : Option Addr) (len cap : Nat) (cs : List Int) (v : Value) (f : Int → Bool) (hl : len ≤ 2097152) (W : World) (hN : IntsAt W a len cs) (hR : RuleI v f) :
    Calls Try.prog 61 #[.slice a len cap, v] W fun e w' => e = .returned (.bool (cs.any f)) ∧ w' = W := by
  have HI := Lib.hid (indexFuncI_c a len cap cs v f hl W hN hR)
  obtain ⟨g, rfl, -⟩ := hR
  clear hN hl
  go_enter Try.func61, Try.ntmps61
  go_wp2_with fail
  refine HI.out.mono ?_
  rintro e W1 ⟨⟨i, rfl, hi⟩, rfl⟩
  have HX := Lib.hid hi
  clear hi
  go_wp2
  go_ret
  exact ⟨retb HX.out, rfl⟩

theorem any_out (zs : List Int) : (!zs.any (outB 255)) = zs.all byteOk := by
  induction zs with
  | nil => rfl
  | cons z r ih =>
    rw [List.any_cons, List.all_cons, Bool.not_or, ih]
    congr 1
    unfold outB byteOk
    by_cases h1 : z < 0
    · rw [decide_eq_true h1, decide_eq_false (show ¬ (0 ≤ z ∧ z ≤ 255) by omega)]; rfl
    · by_cases h2 : 255 < z
      · rw [decide_eq_false h1, decide_eq_true h2, decide_eq_false (show ¬ (0 ≤ z ∧ z ≤ 255) by omega)]; rfl
      · rw [decide_eq_false h1, decide_eq_false h2, decide_eq_true (show 0 ≤ z ∧ z ≤ 255 by omega)]; rfl

set_option maxHeartbeats 1000000 in
theorem areBytes_c (a : Option Addr) (len cap : Nat) (zs : List Int) (hl : len ≤ 2097152) (W : World) (hN : IntsAt W a len zs) :
    Calls Try.prog 54 #[.slice a len cap] W fun e w' => e = .returned (.bool (zs.all byteOk)) ∧ w' = W := by
  obtain ⟨q, hq⟩ : ∃ q, zs.any (outB 255) = q := ⟨_, rfl⟩
  have HC := Lib.hid (show Calls Try.prog 61 #[.slice a len cap, .func (.func 63) #[] #[]] W (fun e w' => e = .returned (.bool q) ∧ w' = W) by rw [← hq]; exact containsFuncI_c a len cap zs _ _ hl W hN rule_bytes)
  have HR := Lib.hid (show zs.all byteOk = !q by rw [← hq, any_out])
  clear hN hl hq
  go_enter Try.func54, Try.ntmps54
  go_wp2_with fail
  refine HC.out.mono ?_
  rintro e W1 ⟨rfl, rfl⟩
  go_wp2
  go_ret
  exact ⟨retb HR.out.symm, rfl⟩

set_option maxHeartbeats 1000000 in
set_option maxRecDepth 100000 in
theorem isFile_c (n : Int) (a1 a2 : Option Addr) (c1 c2 : Nat) (s f : List Int) (hs : s.length ≤ 2097152) (hf : f.length ≤ 2097152) (W : World) (h1 : IntsAt W a1 s.length s) (h2 : IntsAt W a2 f.length f) :
    Calls Try.prog 34 #[.agg #[.int .i64 n, .slice a1 s.length c1, .slice a2 f.length c2]] W (BoolPost (blOk ⟨n, s, f⟩) W) := by
  obtain ⟨p, hp⟩ : ∃ p, decide (1 ≤ n ∧ n ≤ 3) = p := ⟨_, rfl⟩
  obtain ⟨q1, hq1⟩ : ∃ p, s.all byteOk = p := ⟨_, rfl⟩
  obtain ⟨q2, hq2⟩ : ∃ p, f.all byteOk = p := ⟨_, rfl⟩
  have hb := below_box W (.cells #[.int .i64 n, .slice a1 s.length c1, .slice a2 f.length c2] 48)
  have HB := Lib.hid hb
  have HI := Lib.hid (fun w => show Calls Try.prog 53 #[.int .i64 n] w (fun e w' => e = .returned (.bool p) ∧ w' = w) by rw [← hp]; exact isFileName_c n w)
  have H1 := Lib.hid (fun w (hw : Below W.heap.size W w) => show Calls Try.prog 54 #[.slice a1 s.length c1] w (fun e w' => e = .returned (.bool q1) ∧ w' = w) by rw [← hq1]; exact areBytes_c a1 s.length c1 s hs w (h1.keep hw))
  have H2 := Lib.hid (fun w (hw : Below W.heap.size W w) => show Calls Try.prog 54 #[.slice a2 f.length c2] w (fun e w' => e = .returned (.bool q2) ∧ w' = w) by rw [← hq2]; exact areBytes_c a2 f.length c2 f hf w (h2.keep hw))
  obtain ⟨y, hy⟩ : ∃ y, decide ((s.length : Int) + f.length ≤ 400) = y := ⟨_, rfl⟩
  have HR := Lib.hid (show blOk ⟨n, s, f⟩ = (p && (y && (q1 && q2))) by
    unfold blOk
    rw [hp, hq1, hq2, ← hy, show decide (s.length + f.length ≤ 400) = decide ((s.length : Int) + f.length ≤ 400) from decide_eq_decide.2 (by omega)]
    cases p <;> cases q1 <;> cases q2 <;> simp)
  obtain ⟨ls, hls⟩ : ∃ x, s.length = x := ⟨_, rfl⟩
  obtain ⟨lf, hlf⟩ : ∃ x, f.length = x := ⟨_, rfl⟩
  rw [hls] at hs HB H1 hy ⊢
  rw [hlf] at hf HB H2 hy ⊢
  have hs' : (ls : Int) ≤ 2097152 := by omega
  have hf' : (lf : Int) ≤ 2097152 := by omega
  clear h1 h2 hp hq1 hq2 hb hls hlf hs hf
  go_enter Try.func34, Try.ntmps34
  go_wp2_with fail
  refine (HI.out _).mono ?_
  rintro e W1 ⟨rfl, rfl⟩
  cases p with
  | false =>
    go_wp2
    go_ret
    exact ⟨retb HR.out.symm, HB.out⟩
  | true =>
    cases y with
    | false =>
      have hy' : (400 : Int) < (ls : Int) + lf := by have := of_decide_eq_false hy; omega
      go_wp2
      go_ret
      exact ⟨retb HR.out.symm, HB.out⟩
    | true =>
      have hy' : (ls : Int) + lf ≤ 400 := of_decide_eq_true hy
      go_wp2_with fail
      refine (H1.out _ HB.out).mono ?_
      rintro e W1 ⟨rfl, rfl⟩
      cases q1 with
      | false =>
        go_wp2
        go_ret
        exact ⟨retb HR.out.symm, HB.out⟩
      | true =>
        go_wp2_with fail
        refine (H2.out _ HB.out).mono ?_
        rintro e W1 ⟨rfl, rfl⟩
        go_wp2
        go_ret
        exact ⟨retb HR.out.symm, HB.out⟩

/-! ## slices.Grow, slices.Concat of two lists -/

set_option maxHeartbeats 1000000 in
set_option maxRecDepth 100000 in
/-- slices.Grow of nothing: room for n numbers. -/
theorem growI_c (n : Nat) (hn : n ≤ 2097152) (W : World) :
    Calls Try.prog 66 #[.slice none 0 0, .int .i64 n] W fun e W' => OwnsInts W.heap.size [] e W' ∧ Below W.heap.size W W' := by
  by_cases h0 : n = 0
  · subst h0
    go_enter Try.func66, Try.ntmps66
    go_wp2
    refine bodyPost_ret (v := .slice none 0 0) (by simp [results, Try.f66, go_sem]) rfl ⟨⟨_, rfl, World.ownsRow_nil _ _ _ _⟩, Below.refl _ _⟩
  have h1 : 1 ≤ n := by omega
  clear h0
  obtain ⟨i0, hi, hz0, hz1, hz2⟩ := info_parts infoInt
  have hold : (Builtin.firstCells i0.size 0 (.slice none 0 0)).run Try.prog W.drew = .ok (([] : List Value)).toArray W.drew := run_firstCells_none W.drew i0.size 0 0 0
  have hrz : ∀ ty, (Builtin.append_ #[29, 3] ty #[.slice none 0 0, .int .i64 n]).run Try.prog W =
      .ok (.slice (some ⟨W.heap.size, 0, none⟩) (0 + n) (grownCap W (0 + n) 0 3)) (W.drew.alloc (.cells (([] : List Value).toArray ++ Builtin.zeroCells (Value.int .i64 0).cells n ++ Builtin.zeroCells (Value.int .i64 0).cells (grownCap W (0 + n) 0 3 - (0 + n))) 3)) := fun ty =>
    Lib.run_append_grow_zeros W 29 3 ty 3 i0 (.int .i64 0) .i64 .i64 Try.underlying29 Try.underlying3 hi hz0 none 0 0 [] hold n (by omega) (by omega) (by omega) (by omega) (by rw [hz2]; omega) (growslice_fits (by omega) (by rw [hz2]; omega))
  have hGn : 0 + n ≤ grownCap W (0 + n) 0 3 := grownCap_ge W _ _ _
  have hGm : grownCap W (0 + n) 0 3 ≤ maxLen := grownCap_le_maxLen W (0 + n) 0 3 (by unfold maxLen; omega)
  rw [Nat.zero_add] at hrz hGn hGm
  obtain ⟨G, hG⟩ : ∃ G, G = grownCap W n 0 3 := ⟨_, rfl⟩
  rw [← hG] at hrz hGn hGm
  have HGN := Lib.hid hGn
  have HGM := Lib.hid hGm
  have n0 : 0 < (n : Int) := by omega
  have hn' : (n : Int) ≤ 2097152 := by omega
  have hG63 : G ≤ 9223372036854775807 := by unfold maxLen at hGm; omega
  clear hold hG hGn hGm
  go_enter Try.func66, Try.ntmps66
  go_wp2_with (at_builtin; refine Lib.wpList_append_run _ rfl _ _ _ _ rfl _ _ rfl rfl _ _ (hrz _) ?_)
  refine bodyPost_ret (v := .slice (some ⟨W.heap.size, 0, none⟩) 0 G) (by simp [results, Try.f66, go_sem]) rfl ⟨⟨_, rfl, ?_⟩, ((Below.refl _ W).alloc (Nat.le_refl _) _).drew⟩
  exact World.ownsRow_made (e := 3) (size := 1) W _ G (Nat.le_refl _) HGM.out (by
    rw [Array.size_append, size_zeroCells, size_zeroCells]
    have := HGN.out
    simp
    omega)

/-- Two lists in a block of their own. -/
def TwoAtJ (W : World) (g : Nat) (u v : Value) : Prop := W.cell? ⟨g, 0, none⟩ = some u ∧ W.cell? ⟨g, 1, none⟩ = some v
theorem TwoAtJ.keep {W W' : World} {g : Nat} {u v : Value} (h : TwoAtJ W g u v) (hb : Below W.heap.size W W') : TwoAtJ W' g u v := ⟨cell_kept hb h.1, cell_kept hb h.2⟩
theorem two_newJ (W : World) (u v : Value) (t : TypeId) : TwoAtJ (W.alloc (.cells #[u, v] t)) W.heap.size u v := ⟨by rw [World.cell?_alloc_new]; rfl, by rw [World.cell?_alloc_new]; rfl⟩
theorem TwoAtJ.at {W : World} {g : Nat} {s f : List Int} {u v : Value} (h : TwoAtJ W g u v) (h1 : LsAt W u s) (h2 : LsAt W v f) {i : Nat} (hi : i < 2) :
    ∃ a c z, [s, f][i]? = some z ∧ W.cell? ⟨g, i, none⟩ = some (.slice a z.length c) ∧ IntsAt W a z.length z ∧ (a = none → c = 0) := by
  match i, hi with
  | 0, _ =>
    obtain ⟨a, c, rfl, h3, -, -, h4⟩ := h1.out
    exact ⟨a, c, s, rfl, h.1, h3, h4⟩
  | 1, _ =>
    obtain ⟨a, c, rfl, h3, -, -, h4⟩ := h2.out
    exact ⟨a, c, f, rfl, h.2, h3, h4⟩
theorem flatI_next {bs : List (List Int)} {i : Nat} {z : List Int} (h : bs[i]? = some z) : (bs.take (i + 1)).flatten = (bs.take i).flatten ++ z := by
  rw [takeT_next h, List.flatten_append]; simp
theorem flatI_le (bs : List (List Int)) (i : Nat) : (bs.take i).flatten.length ≤ bs.flatten.length := by
  conv => rhs; rw [← List.take_append_drop i bs, List.flatten_append, List.length_append]
  omega

set_option maxHeartbeats 2000000 in
set_option maxRecDepth 100000 in
/-- slices.Concat of two lists of numbers. -/
theorem concat2_c (g cap : Nat) (u v : Value) (s f : List Int) (ht : s.length + f.length ≤ 2097152) (W : World) (h : TwoAtJ W g u v) (h1 : LsAt W u s) (h2 : LsAt W v f) :
    Calls Try.prog 58 #[.slice (some ⟨g, 0, none⟩) 2 cap] W fun e W' => OwnsInts W.heap.size (s ++ f) e W' ∧ Below W.heap.size W W' := by
  obtain ⟨bs, hbs⟩ : ∃ bs, bs = [s, f] := ⟨_, rfl⟩
  have hfl : bs.flatten = s ++ f := by rw [hbs]; simp
  have hbl : bs.length = 2 := by rw [hbs]; rfl
  have HA := Lib.hid (fun W' (hb : Below W.heap.size W W') (i : Nat) (hi : i < 2) => show ∃ a c z, bs[i]? = some z ∧ W'.cell? ⟨g, i, none⟩ = some (.slice a z.length c) ∧ IntsAt W' a z.length z ∧ (a = none → c = 0) by rw [hbs]; exact (h.keep hb).at (h1.keep hb) (h2.keep hb) hi)
  have HE := Lib.hid hbl
  have HT := Lib.hid (show bs.flatten.length ≤ 2097152 by rw [hfl, List.length_append]; exact ht)
  have HFL := Lib.hid hfl
  obtain ⟨tot, htot⟩ : ∃ tot, tot = bs.flatten.length := ⟨_, rfl⟩
  have HG := Lib.hid (fun W' => show Calls Try.prog 66 #[.slice none 0 0, .int .i64 tot] W' (fun e W'' => OwnsInts W'.heap.size [] e W'' ∧ Below W'.heap.size W' W'') from growI_c tot (by rw [htot]; exact HT.out) W')
  have HTO := Lib.hid htot
  clear h h1 h2 ht htot hbs hfl hbl
  go_enter Try.func58, Try.ntmps58
  go_wp2_with fail
  go_loopw [3, 11] (fun s i wr => ∃ n : Nat, i = .int .i64 n ∧ n ≤ 2 ∧ s = .int .i64 ((bs.take n).flatten.length : Nat) ∧ W = wr) (fun _ i _ => 2 - (intOf i).toNat)
  case atStart => exact ⟨0, rfl, by omega, rfl, rfl⟩
  case round =>
    obtain ⟨i, rfl, hi1, rfl, rfl⟩ := hrel
    by_cases hlt : i < 2
    · obtain ⟨ai, ci, z, hz, c0, hzi, -⟩ := HA.out _ (Below.refl _ _) i hlt
      have hlt' : (i : Int) < 2 := by omega
      have HLT := Lib.hid hlt
      have HFN := Lib.hid (flatI_next hz)
      have hf1 := flatI_le bs (i + 1)
      rw [HFN.out, List.length_append] at hf1
      have hf2 := HT.out
      obtain ⟨s, hs⟩ : ∃ s, s = (bs.take i).flatten.length := ⟨_, rfl⟩
      rw [← hs] at hf1 ⊢
      have HS := Lib.hid hs
      have hsz : (s : Int) + z.length ≤ 2097152 := by omega
      have hsz0 : (0 : Int) ≤ (s : Int) + z.length := by omega
      obtain ⟨zl, hzl⟩ : ∃ x, z.length = x := ⟨_, rfl⟩
      have HZL := Lib.hid hzl
      rw [hzl] at hsz hsz0 c0
      clear hlt hi1 hz hzi hf1 hf2 hs hzl
      go_wp2_with fail
      go_roundw
      case rel => exact ⟨i + 1, by push_cast; rfl, by have := HLT.out; omega, by rw [HFN.out, List.length_append, ← HS.out, HZL.out]; push_cast; rfl, trivial⟩
      case measure => have := HLT.out; simp [intOf]; omega
    · have hge : (2 : Int) ≤ i := by omega
      have htk : bs.take i = bs := List.take_of_length_le (by have := HE.out; omega)
      rw [htk, ← HTO.out]
      clear hi1 hlt htk
      go_wp2_with fail
      refine (HG.out _).mono ?_
      rintro e W2 ⟨⟨s2, rfl, ho2⟩, hb2⟩
      have HO2 := Lib.hid ho2
      have HB2 := Lib.hid hb2
      clear ho2 hb2 hge
      go_wp2_with fail
      go_loopw [6, 27] (fun o i w3 => ∃ n : Nat, i = .int .i64 n ∧ n ≤ 2 ∧ w3.ownsRow W.heap.size 3 1 o (bs.take n).flatten.length (intsV (bs.take n).flatten) ∧ Hid (Below W.heap.size W w3)) (fun _ i _ => 2 - (intOf i).toNat)
      case atStart => exact ⟨0, rfl, by omega, HO2.out, HB2.out⟩
      case round =>
        obtain ⟨j, rfl, hi1, hown, HB⟩ := hrel
        by_cases hlt : j < 2
        · obtain ⟨ai, ci, z, hz, c0, hzi, hci⟩ := HA.out _ HB.out j hlt
          have hlt' : (j : Int) < 2 := by omega
          have HLT := Lib.hid hlt
          have HFN := Lib.hid (flatI_next hz)
          have hf1 := flatI_le bs (j + 1)
          rw [HFN.out, List.length_append] at hf1
          have HF1 := Lib.hid hf1
          have HZI := Lib.hid hzi
          have HCI := Lib.hid hci
          have HO := Lib.hid hown
          have hlt0 := HO.out.lt
          clear hlt hi1 hz hzi hf1 hown hci
          go_wp2_with (at_builtin; refine wpList_append_ints rfl _ _ rfl W.heap.size _ ((bs.take j).flatten) rfl HO.out ai z.length ci z rfl HZI.out HCI.out (by have := HF1.out; have := HT.out; omega) HB.out.size ?_; intro v5 w5 ho5 hg5)
          have B5 : Below W.heap.size W w5 := HB.out.grown hg5 HB.out.size (fun g e => (hlt0 g e).1)
          go_roundw
          case rel => exact ⟨j + 1, by push_cast; rfl, by have := HLT.out; omega, by rw [HFN.out]; exact ho5, B5⟩
          case measure => have := HLT.out; simp [intOf]; omega
        · have hge : (2 : Int) ≤ j := by omega
          have htk : bs.take j = bs := List.take_of_length_le (by have := HE.out; omega)
          rw [htk, HFL.out] at hown
          have HO := Lib.hid hown
          clear hi1 hlt htk hown
          go_wp2
          refine bodyPost_ret (v := u6) (by simp [results, Try.f58, go_sem]) rfl ⟨⟨_, rfl, HO.out⟩, HB.out⟩

end Go.Proofs.Ytonbkmmddahlfaa
