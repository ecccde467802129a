/-
  Texts of this proof, one behind the other: Hd, He, Hf, Hg, Eu, Tc, Eq, Cb, Lu, Il, Hh, Kc, Hj, Rp, Sm, To, Le.
-/
import Derived.Maps.Own
import Derived.Maps.OwnSet
import Derived.Laws.Cover1
import Derived.StillTailTactics
import Derived.WalkSmall
import Derived.Maps.RangeWalk
import Derived.Sort.OwnSorted
import Derived.Sort.KeysCollected
import Derived.Lib.AppendZerosOnto
import Derived.Lib.Walk
import Derived.Laws.StructEq
import Derived.Deep.QuietTactic
import Derived.Deep.RegionHeld3
import Derived.Test.YtdkpabnpobpdhaaGreatQ6
import Derived.Test.YtdkpabnpobpdhaaGreatHb
import Derived.Test.YtdkpabnpobpdhaaGreatQ1
import Derived.Test.YtdkpabnpobpdhaaGreatQ5
import Derived.Test.YtdkpabnpobpdhaaGreatQ2
import Derived.Test.YtdkpabnpobpdhaaGreatCv
import Derived.Test.YtdkpabnpobpdhaaGreatCkq
import Derived.Test.YtdkpabnpobpdhaaGreatQ4
import Derived.Test.YtdkpabnpobpdhaaGreatQ9
import Derived.Test.YtdkpabnpobpdhaaGreatTl
/-
  WALKS: container/heap over the program's heap of commands: up, down, Push, Pop; takeAll.
-/
namespace Go.Proofs.YtdkpabnpobpdhaaGreat
open Go.RowKit
set_option linter.unusedVariables false

theorem wrapNil_some (a : Array TypeId) (t : TypeId) (x : Addr) (s m : String) : Builtin.ssaWrapNilChk_ a t #[.pointer (some x), strVal s, strVal m] = pure (.pointer (some x)) := rfl

/-- A method of a type, by its name, that takes the value behind the pointer. -/
theorem method_behind {P : Program} {T t : TypeId} {k : Nat} (hk : k ≠ 0) {name : String} {f : FuncId} (B : Nat) (v : Value) (W : World) (hi : (P.info? T).map (fun i => (i.methods.find? (·.name == name)).map (fun m => (m.path, m.func))) = some (some (#[], some (f, false))))
    (hu : P.underlying T = some (.pointer t)) (ha : ∀ w, (isAgg t).run P w = .ok false w) (hc : W.cell? ⟨B, 0, none⟩ = some v) : (method k T (.pointer (some ⟨B, 0, none⟩)) name).run P W = .ok (f, v) W := by
  obtain ⟨n, rfl⟩ := Nat.exists_eq_succ_of_ne_zero hk
  cases hI : P.info? T with
  | none => rw [hI] at hi; cases hi
  | some i =>
    rw [hI] at hi
    cases hm : i.methods.find? (·.name == name) with
    | none => simp only [Option.map_some, hm] at hi; cases hi
    | some m =>
      simp only [Option.map_some, hm, Option.some.injEq, Prod.mk.injEq] at hi
      obtain ⟨hp, hf⟩ := hi
      unfold method
      simp [typeInfo, hI, hm, hp, hf, follow, receiverAt, run_underlying hu, Place.get, wrapNil_some, loadVar, ha, hc, go_sem, asAddr, Result.andThen]

theorem method_Push (B : Nat) (W : World) : (method 255 65 (.pointer (some ⟨B, 0, none⟩)) "Push").run Tryz.prog W = .ok (136, .pointer (some ⟨B, 0, none⟩)) W := by kernel_rfl
theorem method_Pop (B : Nat) (W : World) : (method 255 65 (.pointer (some ⟨B, 0, none⟩)) "Pop").run Tryz.prog W = .ok (135, .pointer (some ⟨B, 0, none⟩)) W := by kernel_rfl

theorem heap_plain (w : World) : (isAgg 63).run Tryz.prog w = .ok false w := by kernel_rfl

theorem method_Len (B : Nat) (W : World) (v : Value) (h : W.cell? ⟨B, 0, none⟩ = some v) : (method 255 65 (.pointer (some ⟨B, 0, none⟩)) "Len").run Tryz.prog W = .ok (79, v) W :=
  method_behind (by decide) B v W (by kernel_rfl) Tryz.underlying65 heap_plain h
theorem method_Less (B : Nat) (W : World) (v : Value) (h : W.cell? ⟨B, 0, none⟩ = some v) : (method 255 65 (.pointer (some ⟨B, 0, none⟩)) "Less").run Tryz.prog W = .ok (132, v) W :=
  method_behind (by decide) B v W (by kernel_rfl) Tryz.underlying65 heap_plain h
theorem method_Swap (B : Nat) (W : World) (v : Value) (h : W.cell? ⟨B, 0, none⟩ = some v) : (method 255 65 (.pointer (some ⟨B, 0, none⟩)) "Swap").run Tryz.prog W = .ok (133, v) W :=
  method_behind (by decide) B v W (by kernel_rfl) Tryz.underlying65 heap_plain h

theorem no_results {P : Program} (fn : Func) (hf : fn.results = #[]) (tmps : Array Value) (w : World) : (results fn tmps).run P w = .ok (.tuple #[]) w := by simp [results, hf, go_sem]

/-- What going up or down leaves: the same commands, a heap; nothing but the row's block is turned. -/
def HeapPost (B base g n m cap : Nat) (zs : List Cmd) (fix : List Cmd → Prop) (W : World) (w' : World) : Prop :=
  ∃ ys, ys.Perm zs ∧ HeapK ys m ∧ fix ys ∧ HpAt w' B base (.slice (some ⟨g, 0, none⟩) n cap) ys ∧ W.grownBy w' (some g)

def UpRel (B base g n cap : Nat) (zs : List Cmd) (W : World) (vj : Value) (wr : World) : Prop :=
  ∃ (j : Nat) (ys : List Cmd), vj = .int .i64 j ∧ j < n ∧ Hid (ys.Perm zs) ∧ Hid (UpK ys n j) ∧ Hid (HpAt wr B base (.slice (some ⟨g, 0, none⟩) n cap) ys) ∧ Hid (W.grownBy wr (some g))

theorem HpAt.swapped {W w' : World} {B base g n cap : Nat} {zs : List Cmd} {i j : Nat} {e : Ending} (h : HpAt W B base (.slice (some ⟨g, 0, none⟩) n cap) zs) (hn : n = zs.length) (hs : SwapPost base g n cap zs i j W e w') :
    HpAt w' B base (.slice (some ⟨g, 0, none⟩) n cap) (swapK zs i j) :=
  ⟨h.box.kept hs.2.2 (by have := h.far; simpa [Value.ownBlock] using this), by rw [swapK_length, ← hn]; exact hs.2.1, h.lt⟩

set_option maxHeartbeats 1000000 in
set_option maxRecDepth 100000 in
theorem heapUp_c (B base g n cap : Nat) (zs : List Cmd) (j : Nat) (hn : n = zs.length) (hj : j < n) (hl : n ≤ 2000000) (W : World) (h : HpAt W B base (.slice (some ⟨g, 0, none⟩) n cap) zs) (hu : UpK zs n j) :
    Calls Tryz.prog 78 #[.iface 65 (.pointer (some ⟨B, 0, none⟩)), .int .i64 j] W (fun e w' => e = .returned (.tuple #[]) ∧ HeapPost B base g n n cap zs (fun _ => True) W w') := by
  have HH := Lib.hid h
  have HU := Lib.hid hu
  have HN := Lib.hid hn
  clear h hu hn
  go_enter Tryz.func78, Tryz.ntmps78
  go_wp2
  go_loopw [1] (fun vj wr => UpRel B base g n cap zs W vj wr) (fun vj _ => (intOf vj).toNat)
  case atStart => exact ⟨j, zs, rfl, hj, List.Perm.refl _, HU, HH, ⟨rfl, rfl, rfl, Nat.le_refl _, fun _ _ _ => rfl⟩⟩
  case round =>
    clear hj
    obtain ⟨j, ys, rfl, hj, HP, HU, HA, HG⟩ := hrel
    have HNY := Lib.hid (show n = ys.length by rw [HN.out]; exact HP.out.length_eq.symm)
    cases j with
    | zero =>
      clear hj
      go_wp2
      exact bodyPost_end (v := .tuple #[]) (no_results _ rfl _ _) rfl ⟨rfl, ys, HP.out, up_end0 HU.out, trivial, HA.out, HG.out⟩
    | succ m =>
      obtain ⟨i, hi⟩ : ∃ i, m / 2 = i := ⟨_, rfl⟩
      have HI := Lib.hid (show (m + 1 - 1) / 2 = i from hi)
      have HIM := Lib.hid (show i < m + 1 ∧ i < n ∧ m + 1 < n from ⟨by omega, by omega, hj⟩)
      have hq : (m : Int).tdiv 2 = (i : Int) := by rw [Int.tdiv_eq_ediv_of_nonneg (by omega)]; omega
      have hne : ((i : Int) == (m : Int) + 1) = false := beq_eq_false_iff_ne.2 (by omega)
      have hm0 : (0 : Int) ≤ m := by omega
      have hml : (m : Int) < 2000000 := by omega
      have him : (i : Int) < 2000000 := by omega
      obtain ⟨bv, hbv⟩ : ∃ bv, befC (atK ys (m + 1)) (atK ys i) = bv := ⟨_, rfl⟩
      have HL := Lib.hid (show Calls Tryz.prog 132 #[.slice (some ⟨g, 0, none⟩) n cap, .int .i64 ((m : Int) + 1), .int .i64 i] wr (BoolPost bv wr) by
        have := heapLess_c (some ⟨g, 0, none⟩) n cap ys (m + 1) i hj (by omega) (by omega) wr (by have := HA.out.row; rw [← HNY.out] at this; have := cmds_own (by rw [← HNY.out]; exact this); rw [← HNY.out] at this; exact this)
        rw [hbv] at this
        exact this)
      have HBV := Lib.hid hbv
      have mL := method_Less B wr _ HA.out.box.cell
      clear hi hbv hj
      go_wp2_with fail
      refine HL.out.mono ?_
      rintro e W2 ⟨rfl, hb2⟩
      have HA2 := Lib.hid (HA.out.keep hb2)
      have HG2 := Lib.hid (grown_then HG.out (below_grown hb2) (by simp))
      clear mL hb2
      cases bv with
      | false =>
        go_wp2
        exact bodyPost_end (v := .tuple #[]) (no_results _ rfl _ _) rfl ⟨rfl, ys, HP.out, up_end HU.out (by rw [HI.out]; exact HBV.out), trivial, HA2.out, HG2.out⟩
      | true =>
        have mS := method_Swap B W2 _ HA2.out.box.cell
        have HSW := Lib.hid (show Calls Tryz.prog 133 #[.slice (some ⟨g, 0, none⟩) n cap, .int .i64 i, .int .i64 ((m : Int) + 1)] W2 (SwapPost base g n cap ys i (m + 1) W2) from
          heapSwap_c base g n cap ys i (m + 1) HNY.out HIM.out.2.1 HIM.out.2.2 (by omega) W2 (by have := HA2.out.row; rw [← HNY.out] at this; exact this))
        go_wp2_with fail
        refine HSW.out.mono ?_
        rintro e W3 hs3
        obtain rfl := hs3.1
        have HA3 := Lib.hid (HA2.out.swapped HNY.out hs3)
        have HG3 := Lib.hid (grown_then HG2.out hs3.2.2 (fun k e => .inr e))
        have HP3 := Lib.hid ((swapK_perm (by have := HIM.out.2.1; have := HNY.out; omega) (by have := HIM.out.2.2; have := HNY.out; omega)).trans HP.out : (swapK ys i (m + 1)).Perm zs)
        have HU3 : Hid (UpK (swapK ys i (m + 1)) n i) := by
          have h1 := HU.out
          rw [HNY.out] at h1
          have h2 := up_go (by omega) (by rw [← HNY.out]; exact HIM.out.2.2) h1 (by rw [HI.out]; exact HBV.out)
          rw [HI.out, ← HNY.out] at h2
          exact h2
        clear mS hs3
        go_wp2
        go_roundw
        case rel => exact ⟨i, swapK ys i (m + 1), rfl, HIM.out.2.1, HP3, HU3, HA3, HG3⟩
        case measure => have := HIM.out.1; simp [intOf]; omega

theorem HpAt.at {W : World} {B base g n cap : Nat} {zs : List Cmd} (h : HpAt W B base (.slice (some ⟨g, 0, none⟩) n cap) zs) (hn : n = zs.length) : CmdsAt W (some ⟨g, 0, none⟩) n zs := by
  have h1 := h.row
  rw [hn] at h1 ⊢
  exact cmds_own h1

def DownRel (B base g m n cap : Nat) (zs : List Cmd) (W : World) (vi : Value) (wr : World) : Prop :=
  ∃ (i : Nat) (ys : List Cmd), vi = .int .i64 i ∧ i ≤ n ∧ Hid (ys.Perm zs) ∧ Hid (DownK ys n i) ∧ Hid (∀ k, n ≤ k → atK ys k = atK zs k) ∧ Hid (HpAt wr B base (.slice (some ⟨g, 0, none⟩) m cap) ys) ∧ Hid (W.grownBy wr (some g))

set_option maxHeartbeats 1000000 in
set_option maxRecDepth 100000 in
theorem heapDown_c (B base g m n cap : Nat) (zs : List Cmd) (hm : m = zs.length) (hn : n ≤ m) (hl : m ≤ 2000000) (W : World) (h : HpAt W B base (.slice (some ⟨g, 0, none⟩) m cap) zs) (hd : DownK zs n 0) :
    Calls Tryz.prog 96 #[.iface 65 (.pointer (some ⟨B, 0, none⟩)), .int .i64 0, .int .i64 n] W (fun e w' => (∃ b, e = .returned (.bool b)) ∧ HeapPost B base g m n cap zs (fun ys => ∀ k, n ≤ k → atK ys k = atK zs k) W w') := by
  have HH := Lib.hid h
  have HD := Lib.hid hd
  have HN := Lib.hid hm
  clear h hd hm
  go_enter Tryz.func96, Tryz.ntmps96
  go_wp2
  go_loopw [7] (fun vi wr => DownRel B base g m n cap zs W vi wr) (fun vi _ => n - (intOf vi).toNat)
  case atStart => exact ⟨0, zs, rfl, Nat.zero_le _, List.Perm.refl _, HD, fun _ _ => rfl, HH, ⟨rfl, rfl, rfl, Nat.le_refl _, fun _ _ _ => rfl⟩⟩
  case round =>
    obtain ⟨i, ys, rfl, hin, HP, HD, HF, HA, HG⟩ := hrel
    have HNY := Lib.hid (show m = ys.length by rw [HN.out]; exact HP.out.length_eq.symm)
    have hi0 : (0 : Int) ≤ i := by omega
    have hil : (i : Int) ≤ 2000000 := by omega
    by_cases h0 : n ≤ 2 * i + 1
    · have h0z : (n : Int) ≤ 2 * (i : Int) + 1 := by omega
      go_wp2
      go_ret
      exact ⟨⟨_, rfl⟩, ys, HP.out, down_end HD.out (fun k k0 kn kp => absurd kn (by omega)), HF.out, HA.out, HG.out⟩
    · have h0z : ¬ ((n : Int) ≤ 2 * (i : Int) + 1) := by omega
      have h00 : ¬ (2 * (i : Int) + 1 < 0) := by omega
      by_cases h1 : 2 * i + 2 < n
      · have h1z : 2 * (i : Int) + 1 + 1 < (n : Int) := by omega
        obtain ⟨b1, hb1v⟩ : ∃ b, befC (atK ys (2 * i + 2)) (atK ys (2 * i + 1)) = b := ⟨_, rfl⟩
        have HB1 := Lib.hid hb1v
        have HL1 := Lib.hid (show Calls Tryz.prog 132 #[.slice (some ⟨g, 0, none⟩) m cap, .int .i64 (2 * (i : Int) + 1 + 1), .int .i64 (2 * (i : Int) + 1)] wr (BoolPost b1 wr) by
          have := heapLess_c (some ⟨g, 0, none⟩) m cap ys (2 * i + 2) (2 * i + 1) (by omega) (by omega) (by omega) wr (HA.out.at HNY.out)
          rw [hb1v, show ((2 * i + 2 : Nat) : Int) = 2 * (i : Int) + 1 + 1 by omega, show ((2 * i + 1 : Nat) : Int) = 2 * (i : Int) + 1 by omega] at this
          exact this)
        clear hb1v
        have mL1 := method_Less B wr _ HA.out.box.cell
        go_wp2_with fail
        refine HL1.out.mono ?_
        rintro e W3 ⟨rfl, hb3⟩
        have HA3 := Lib.hid (HA.out.keep hb3)
        have HG3 := Lib.hid (grown_then HG.out (below_grown hb3) (by simp))
        clear mL1 hb3
        cases b1 with
        | true =>
          obtain ⟨b2, hb2v⟩ : ∃ b, befC (atK ys (2 * i + 2)) (atK ys i) = b := ⟨_, rfl⟩
          have HB2 := Lib.hid hb2v
          have HMIN : Hid (∀ k, 0 < k → k < n → (k - 1) / 2 = i → befC (atK ys k) (atK ys (2 * i + 2)) = false) := by
            intro k k0 kn kp
            rcases (show k = 2 * i + 1 ∨ k = 2 * i + 2 by omega) with rfl | rfl
            · exact nbef_of_bef HB1.out
            · exact bef_irrefl _
          have HL2 := Lib.hid (show Calls Tryz.prog 132 #[.slice (some ⟨g, 0, none⟩) m cap, .int .i64 (2 * (i : Int) + 1 + 1), .int .i64 i] W3 (BoolPost b2 W3) by
            have := heapLess_c (some ⟨g, 0, none⟩) m cap ys (2 * i + 2) i (by omega) (by omega) (by omega) W3 (HA3.out.at HNY.out)
            rw [hb2v, show (((2 * i + 2 : Nat)) : Int) = 2 * (i : Int) + 1 + 1 by omega] at this
            exact this)
          clear hb2v
          have mL2 := method_Less B W3 _ HA3.out.box.cell
          go_wp2_with fail
          refine HL2.out.mono ?_
          rintro e W4 ⟨rfl, hb4⟩
          have HA4 := Lib.hid (HA3.out.keep hb4)
          have HG4 := Lib.hid (grown_then HG3.out (below_grown hb4) (by simp))
          clear mL2 hb4
          cases b2 with
          | false =>
            go_wp2
            go_ret
            exact ⟨⟨_, rfl⟩, ys, HP.out, down_end HD.out (fun k k0 kn kp => by
              have h1 := HMIN.out k k0 kn kp
              exact nbef_trans HB2.out h1), HF.out, HA4.out, HG4.out⟩
          | true =>
            have mS := method_Swap B W4 _ HA4.out.box.cell
            have HSW := Lib.hid (show Calls Tryz.prog 133 #[.slice (some ⟨g, 0, none⟩) m cap, .int .i64 i, .int .i64 (2 * (i : Int) + 1 + 1)] W4 (SwapPost base g m cap ys i (2 * i + 2) W4) by
              have := heapSwap_c base g m cap ys i (2 * i + 2) HNY.out (by omega) (by omega) (by omega) W4 (by have := HA4.out.row; rw [← HNY.out] at this; exact this)
              rw [show (((2 * i + 2 : Nat)) : Int) = 2 * (i : Int) + 1 + 1 by omega] at this
              exact this)
            go_wp2_with fail
            refine HSW.out.mono ?_
            rintro e W5 hs5
            obtain rfl := hs5.1
            have HA5 := Lib.hid (HA4.out.swapped HNY.out hs5)
            have HG5 := Lib.hid (grown_then HG4.out hs5.2.2 (fun k e => .inr e))
            have HP5 := Lib.hid ((swapK_perm (by have := HNY.out; omega) (by have := HNY.out; omega)).trans HP.out : (swapK ys i (2 * i + 2)).Perm zs)
            have HD5 : Hid (DownK (swapK ys i (2 * i + 2)) n (2 * i + 2)) := down_go (by have := HNY.out; omega) (by omega) (by omega) (by omega) HD.out HB2.out HMIN.out
            have HF5 : Hid (∀ k, n ≤ k → atK (swapK ys i (2 * i + 2)) k = atK zs k) := fun k hk => by
              rw [atK_swap (by have := HNY.out; omega) (by have := HNY.out; omega), if_neg (by omega), if_neg (by omega)]
              exact HF.out k hk
            have HZ := Lib.hid (show (((2 * i + 2 : Nat)) : Int) = 2 * (i : Int) + 1 + 1 by omega)
            have HJ := Lib.hid (show 2 * i + 2 < n ∧ i < 2 * i + 2 from ⟨by omega, by omega⟩)
            clear mS hs5
            go_wp2
            go_roundw
            case rel => exact ⟨2 * i + 2, swapK ys i (2 * i + 2), by rw [HZ.out], Nat.le_of_lt HJ.out.1, HP5, HD5, HF5, HA5, HG5⟩
            case measure => have h1 := HJ.out; have h2 := HZ.out; simp [intOf]; omega
        | false =>
          obtain ⟨b2, hb2v⟩ : ∃ b, befC (atK ys (2 * i + 1)) (atK ys i) = b := ⟨_, rfl⟩
          have HB2 := Lib.hid hb2v
          have HMIN : Hid (∀ k, 0 < k → k < n → (k - 1) / 2 = i → befC (atK ys k) (atK ys (2 * i + 1)) = false) := by
            intro k k0 kn kp
            rcases (show k = 2 * i + 1 ∨ k = 2 * i + 2 by omega) with rfl | rfl
            · exact bef_irrefl _
            · exact HB1.out
          have HL2 := Lib.hid (show Calls Tryz.prog 132 #[.slice (some ⟨g, 0, none⟩) m cap, .int .i64 (2 * (i : Int) + 1), .int .i64 i] W3 (BoolPost b2 W3) by
            have := heapLess_c (some ⟨g, 0, none⟩) m cap ys (2 * i + 1) i (by omega) (by omega) (by omega) W3 (HA3.out.at HNY.out)
            rw [hb2v, show (((2 * i + 1 : Nat)) : Int) = 2 * (i : Int) + 1 by omega] at this
            exact this)
          clear hb2v
          have mL2 := method_Less B W3 _ HA3.out.box.cell
          go_wp2_with fail
          refine HL2.out.mono ?_
          rintro e W4 ⟨rfl, hb4⟩
          have HA4 := Lib.hid (HA3.out.keep hb4)
          have HG4 := Lib.hid (grown_then HG3.out (below_grown hb4) (by simp))
          clear mL2 hb4
          cases b2 with
          | false =>
            go_wp2
            go_ret
            exact ⟨⟨_, rfl⟩, ys, HP.out, down_end HD.out (fun k k0 kn kp => by
              have h1 := HMIN.out k k0 kn kp
              exact nbef_trans HB2.out h1), HF.out, HA4.out, HG4.out⟩
          | true =>
            have mS := method_Swap B W4 _ HA4.out.box.cell
            have HSW := Lib.hid (show Calls Tryz.prog 133 #[.slice (some ⟨g, 0, none⟩) m cap, .int .i64 i, .int .i64 (2 * (i : Int) + 1)] W4 (SwapPost base g m cap ys i (2 * i + 1) W4) by
              have := heapSwap_c base g m cap ys i (2 * i + 1) HNY.out (by omega) (by omega) (by omega) W4 (by have := HA4.out.row; rw [← HNY.out] at this; exact this)
              rw [show (((2 * i + 1 : Nat)) : Int) = 2 * (i : Int) + 1 by omega] at this
              exact this)
            go_wp2_with fail
            refine HSW.out.mono ?_
            rintro e W5 hs5
            obtain rfl := hs5.1
            have HA5 := Lib.hid (HA4.out.swapped HNY.out hs5)
            have HG5 := Lib.hid (grown_then HG4.out hs5.2.2 (fun k e => .inr e))
            have HP5 := Lib.hid ((swapK_perm (by have := HNY.out; omega) (by have := HNY.out; omega)).trans HP.out : (swapK ys i (2 * i + 1)).Perm zs)
            have HD5 : Hid (DownK (swapK ys i (2 * i + 1)) n (2 * i + 1)) := down_go (by have := HNY.out; omega) (by omega) (by omega) (by omega) HD.out HB2.out HMIN.out
            have HF5 : Hid (∀ k, n ≤ k → atK (swapK ys i (2 * i + 1)) k = atK zs k) := fun k hk => by
              rw [atK_swap (by have := HNY.out; omega) (by have := HNY.out; omega), if_neg (by omega), if_neg (by omega)]
              exact HF.out k hk
            have HZ := Lib.hid (show (((2 * i + 1 : Nat)) : Int) = 2 * (i : Int) + 1 by omega)
            have HJ := Lib.hid (show 2 * i + 1 < n ∧ i < 2 * i + 1 from ⟨by omega, by omega⟩)
            clear mS hs5
            go_wp2
            go_roundw
            case rel => exact ⟨2 * i + 1, swapK ys i (2 * i + 1), by rw [HZ.out], Nat.le_of_lt HJ.out.1, HP5, HD5, HF5, HA5, HG5⟩
            case measure => have h1 := HJ.out; have h2 := HZ.out; simp [intOf]; omega
      · have h1z : ¬ (2 * (i : Int) + 1 + 1 < (n : Int)) := by omega
        obtain ⟨b2, hb2v⟩ : ∃ b, befC (atK ys (2 * i + 1)) (atK ys i) = b := ⟨_, rfl⟩
        have HB2 := Lib.hid hb2v
        have HMIN : Hid (∀ k, 0 < k → k < n → (k - 1) / 2 = i → befC (atK ys k) (atK ys (2 * i + 1)) = false) := by
          intro k k0 kn kp
          rcases (show k = 2 * i + 1 by omega) with rfl
          exact bef_irrefl _
        have HL2 := Lib.hid (show Calls Tryz.prog 132 #[.slice (some ⟨g, 0, none⟩) m cap, .int .i64 (2 * (i : Int) + 1), .int .i64 i] wr (BoolPost b2 wr) by
          have := heapLess_c (some ⟨g, 0, none⟩) m cap ys (2 * i + 1) i (by omega) (by omega) (by omega) wr (HA.out.at HNY.out)
          rw [hb2v, show (((2 * i + 1 : Nat)) : Int) = 2 * (i : Int) + 1 by omega] at this
          exact this)
        clear hb2v
        have mL2 := method_Less B wr _ HA.out.box.cell
        go_wp2_with fail
        refine HL2.out.mono ?_
        rintro e W4 ⟨rfl, hb4⟩
        have HA4 := Lib.hid (HA.out.keep hb4)
        have HG4 := Lib.hid (grown_then HG.out (below_grown hb4) (by simp))
        clear mL2 hb4
        cases b2 with
        | false =>
          go_wp2
          go_ret
          exact ⟨⟨_, rfl⟩, ys, HP.out, down_end HD.out (fun k k0 kn kp => by
            have h1 := HMIN.out k k0 kn kp
            exact nbef_trans HB2.out h1), HF.out, HA4.out, HG4.out⟩
        | true =>
          have mS := method_Swap B W4 _ HA4.out.box.cell
          have HSW := Lib.hid (show Calls Tryz.prog 133 #[.slice (some ⟨g, 0, none⟩) m cap, .int .i64 i, .int .i64 (2 * (i : Int) + 1)] W4 (SwapPost base g m cap ys i (2 * i + 1) W4) by
            have := heapSwap_c base g m cap ys i (2 * i + 1) HNY.out (by omega) (by omega) (by omega) W4 (by have := HA4.out.row; rw [← HNY.out] at this; exact this)
            rw [show (((2 * i + 1 : Nat)) : Int) = 2 * (i : Int) + 1 by omega] at this
            exact this)
          go_wp2_with fail
          refine HSW.out.mono ?_
          rintro e W5 hs5
          obtain rfl := hs5.1
          have HA5 := Lib.hid (HA4.out.swapped HNY.out hs5)
          have HG5 := Lib.hid (grown_then HG4.out hs5.2.2 (fun k e => .inr e))
          have HP5 := Lib.hid ((swapK_perm (by have := HNY.out; omega) (by have := HNY.out; omega)).trans HP.out : (swapK ys i (2 * i + 1)).Perm zs)
          have HD5 : Hid (DownK (swapK ys i (2 * i + 1)) n (2 * i + 1)) := down_go (by have := HNY.out; omega) (by omega) (by omega) (by omega) HD.out HB2.out HMIN.out
          have HF5 : Hid (∀ k, n ≤ k → atK (swapK ys i (2 * i + 1)) k = atK zs k) := fun k hk => by
            rw [atK_swap (by have := HNY.out; omega) (by have := HNY.out; omega), if_neg (by omega), if_neg (by omega)]
            exact HF.out k hk
          have HZ := Lib.hid (show (((2 * i + 1 : Nat)) : Int) = 2 * (i : Int) + 1 by omega)
          have HJ := Lib.hid (show 2 * i + 1 < n ∧ i < 2 * i + 1 from ⟨by omega, by omega⟩)
          clear mS hs5
          go_wp2
          go_roundw
          case rel => exact ⟨2 * i + 1, swapK ys i (2 * i + 1), by rw [HZ.out], Nat.le_of_lt HJ.out.1, HP5, HD5, HF5, HA5, HG5⟩
          case measure => have h1 := HJ.out; have h2 := HZ.out; simp [intOf]; omega

end Go.Proofs.YtdkpabnpobpdhaaGreat

/-
  WALKS: container/heap.Push and Pop over the program's heap of commands; takeAll.
-/
namespace Go.Proofs.YtdkpabnpobpdhaaGreat
open Go.RowKit
set_option linter.unusedVariables false

/-- What heap.Push leaves. -/
def PushPost (B base : Nat) (zs : List Cmd) (c : Cmd) (W : World) (e : Ending) (w' : World) : Prop :=
  e = .returned (.tuple #[]) ∧ ∃ v' ys, HpAt w' B base v' ys ∧ ys.Perm (zs ++ [c]) ∧ HeapK ys ys.length ∧ Below B W w' ∧ KeptM W w'

set_option maxHeartbeats 1000000 in
set_option maxRecDepth 100000 in
theorem heapPush_c (B base : Nat) (v : Value) (zs : List Cmd) (c : Cmd) (hl : zs.length ≤ 1000000) (W : World) (hle : base ≤ W.heap.size) (h : HpAt W B base v zs) (hk : HeapK zs zs.length) :
    Calls Tryz.prog 59 #[.iface 65 (.pointer (some ⟨B, 0, none⟩)), .iface 33 (cmdV c)] W (PushPost B base zs c W) := by
  have HP := Lib.hid (heapPushM_c B base v zs c (by omega) W hle h)
  have HK := Lib.hid hk
  have mP := method_Push B W
  clear h hk hle
  go_enter Tryz.func59, Tryz.ntmps59
  go_wp2_with fail
  refine HP.out.mono ?_
  rintro e W1 ⟨rfl, v1, hA, hB, hM⟩
  have hnl : (zs ++ [c]).length = zs.length + 1 := by simp
  obtain ⟨g, cap, rfl, h1, h2, h3, h4⟩ := hA.top hnl
  have HA := Lib.hid hA
  have HB := Lib.hid hB
  have HM := Lib.hid hM
  have mL := method_Len B W1 _ hA.box.cell
  have HL := Lib.hid (heapLen_c (some ⟨g, 0, none⟩) (zs.length + 1) cap W1)
  have HU := Lib.hid (show Calls Tryz.prog 78 #[.iface 65 (.pointer (some ⟨B, 0, none⟩)), .int .i64 zs.length] W1 (fun e w' => e = .returned (.tuple #[]) ∧ HeapPost B base g (zs.length + 1) (zs.length + 1) cap (zs ++ [c]) (fun _ => True) W1 w') from
    heapUp_c B base g (zs.length + 1) cap (zs ++ [c]) zs.length hnl.symm (by omega) (by omega) W1 hA (by have := up_start c HK.out; rw [hnl] at this; exact this))
  clear hA hB hM mP h1 h2 h4
  go_wp2_with fail
  refine HL.out.mono ?_
  rintro e W2 ⟨rfl, rfl⟩
  clear mL
  go_wp2_with fail
  refine HU.out.mono ?_
  rintro e W3 ⟨rfl, ys, hp, hh, -, hA3, hG⟩
  go_wp2
  have HL3 : ys.length = zs.length + 1 := by rw [hp.length_eq, hnl]
  refine bodyPost_end (v := .tuple #[]) (no_results _ rfl _ _) rfl ⟨rfl, _, ys, hA3, hp, by rw [HL3]; exact hh, ?_, ?_⟩
  · have := HA.out.lt
    exact HB.out.grown hG (by have := HB.out.size; have := HA.out.box.lt; omega) (fun k e => by cases e; omega)
  · exact HM.out.trans (KeptM.grown hG (fun r o e ho => row_cells HA.out.row r o e ho))

/-- Nothing but two blocks is turned. -/
structure Turn2 (W W' : World) (B g : Nat) : Prop where
  os : W'.os = W.os
  tape : W'.tape = W.tape
  output : W'.output = W.output
  size : W.heap.size ≤ W'.heap.size
  block : ∀ i, i < W.heap.size → i ≠ B → i ≠ g → W'.heap[i]? = W.heap[i]?

theorem Turn2.of {W W' : World} {row : Option Nat} (h : W.grownBy W' row) {B g : Nat} (hr : ∀ r, row = some r → r = B ∨ r = g) : Turn2 W W' B g :=
  ⟨h.os, h.tape, h.output, h.size, fun i hi hB hg => h.block i hi (fun e => (hr i e.symm).elim hB hg)⟩

theorem Turn2.trans {X Y Z : World} {B g : Nat} (h : Turn2 X Y B g) (k : Turn2 Y Z B g) : Turn2 X Z B g :=
  ⟨k.os.trans h.os, k.tape.trans h.tape, k.output.trans h.output, Nat.le_trans h.size k.size, fun i hi hB hg => (k.block i (Nat.lt_of_lt_of_le hi h.size) hB hg).trans (h.block i hi hB hg)⟩

/-- What heap.Pop leaves. -/
def PopPost (B base g n cap : Nat) (zs : List Cmd) (W : World) (e : Ending) (w' : World) : Prop :=
  e = .returned (.iface 33 (cmdV (atK zs 0))) ∧ ∃ ys, HpAt w' B base (.slice (some ⟨g, 0, none⟩) n cap) ys ∧ HeapK ys ys.length ∧ (ys ++ [atK zs 0]).Perm zs ∧ (∀ y ∈ zs, befC y (atK zs 0) = false) ∧ Turn2 W w' B g

set_option maxHeartbeats 1000000 in
set_option maxRecDepth 100000 in
theorem heapPop_c (B base g n cap : Nat) (zs : List Cmd) (hn : zs.length = n + 1) (hl : n ≤ 1000000) (hc : n + 1 ≤ cap) (hcm : cap ≤ maxLen) (W : World) (h : HpAt W B base (.slice (some ⟨g, 0, none⟩) (n + 1) cap) zs) (hk : HeapK zs zs.length) :
    Calls Tryz.prog 80 #[.iface 65 (.pointer (some ⟨B, 0, none⟩))] W (PopPost B base g n cap zs W) := by
  have HH := Lib.hid h
  have HK := Lib.hid hk
  have HN := Lib.hid hn
  have HC := Lib.hid (And.intro hc hcm)
  have mL := method_Len B W _ h.box.cell
  have HL := Lib.hid (heapLen_c (some ⟨g, 0, none⟩) (n + 1) cap W)
  clear h hk hn hc hcm
  go_enter Tryz.func80, Tryz.ntmps80
  go_wp2_with fail
  refine HL.out.mono ?_
  rintro e W1 ⟨rfl, rfl⟩
  clear mL HL
  have mS := method_Swap B W1 _ HH.out.box.cell
  have HS := Lib.hid (show Calls Tryz.prog 133 #[.slice (some ⟨g, 0, none⟩) (n + 1) cap, .int .i64 0, .int .i64 n] W1 (SwapPost base g (n + 1) cap zs 0 n W1) from
    heapSwap_c base g (n + 1) cap zs 0 n HN.out.symm (by omega) (by omega) (by omega) W1 (by have := HH.out.row; rw [HN.out] at this; exact this))
  go_wp2_with fail
  refine HS.out.mono ?_
  rintro e W2 hs2
  obtain rfl := hs2.1
  have HA2 := Lib.hid (HH.out.swapped HN.out.symm hs2)
  have HT2 := Lib.hid (Turn2.of hs2.2.2 (B := B) (g := g) (fun r e => .inr (by cases e; rfl)))
  clear mS hs2
  have HD := Lib.hid (heapDown_c B base g (n + 1) n cap (swapK zs 0 n) (by rw [swapK_length]; exact HN.out.symm) (by omega) (by omega) W2 HA2.out (pop_start HN.out HK.out))
  go_wp2_with fail
  refine HD.out.mono ?_
  rintro e W3 ⟨⟨bb, rfl⟩, ys, hp, hh, hf, hA3, hG3⟩
  have HT3 := Lib.hid (HT2.out.trans (Turn2.of hG3 (B := B) (g := g) (fun r e => .inr (by cases e; rfl))))
  have HF := Lib.hid (hf n (Nat.le_refl _))
  have HP := Lib.hid hp
  have HHK := Lib.hid hh
  have HA3 := Lib.hid hA3
  have HYL := Lib.hid (show ys.length = n + 1 by rw [hp.length_eq, swapK_length]; exact HN.out)
  have mP := method_Pop B W3
  have HPM := Lib.hid (heapPopM_c B base g n cap ys HYL.out (by omega) HC.out.1 HC.out.2 W3 hA3)
  clear hp hh hf hA3 hG3
  go_wp2_with fail
  refine HPM.out.mono ?_
  rintro e W4 ⟨rfl, hA4, hG4⟩
  have HLAST := Lib.hid (show atK ys n = atK zs 0 by rw [HF.out, atK_swap (by have := HN.out; omega) (by have := HN.out; omega), if_pos rfl])
  have HA4 := Lib.hid hA4
  have HG4 := Lib.hid hG4
  clear mP hA4 hG4
  rw [HLAST.out]
  go_wp2
  go_ret
  have hpop := heap_pop HN.out HK.out HP.out HLAST.out
  have htl : (ys.take n).length = n := by rw [List.length_take, HYL.out]; omega
  exact ⟨rfl, ys.take n, HA4.out, by rw [htl]; exact heap_take HHK.out, hpop.1, hpop.2, HT3.out.trans (Turn2.of HG4.out (fun r e => .inl (by cases e; rfl)))⟩

end Go.Proofs.YtdkpabnpobpdhaaGreat

/-
  WALKS: canonHeap.takeAll.
-/
namespace Go.Proofs.YtdkpabnpobpdhaaGreat
open Go.RowKit
set_option linter.unusedVariables false

theorem own_turn2 {W W' : World} {B g base : Nat} {e : TypeId} {size n : Nat} {v : Value} {xs : List Value} (h : W.ownsRow base e size v n xs) (ht : Turn2 W W' B g) (hv : ∀ k, v.ownBlock = some k → k ≠ B ∧ k ≠ g) : W'.ownsRow base e size v n xs := by
  obtain ⟨h1, h2⟩ := h
  refine ⟨h1, ?_⟩
  rcases h2 with h3 | ⟨x, cap, cur, rfl, h4, h5, h6⟩
  · exact .inl h3
  · right
    have h7 := hv x rfl
    exact ⟨x, cap, cur, rfl, h4, (ht.block x (Array.getElem?_eq_some_iff.1 h5).1 h7.1 h7.2).trans h5, h6⟩

theorem HpAt.grown {W W' : World} {B base : Nat} {v : Value} {zs : List Cmd} {row : Option Nat} (h : HpAt W B base v zs) (hg : W.grownBy W' row) (hB : row ≠ some B) (hv : ∀ k, v.ownBlock = some k → row ≠ some k) : HpAt W' B base v zs := by
  refine ⟨h.box.kept hg (fun e => hB e.symm), h.row.kept hg ?_, h.lt⟩
  rcases h.row.2 with ⟨h1, _⟩ | ⟨x, cap, cur, h1, _⟩
  · exact .inl (by rw [h1]; rfl)
  · exact .inr (fun e => by subst h1; exact hv x rfl e.symm)

/-- What takeAll leaves. -/
def TakePost (B : Nat) (zs : List Cmd) (W : World) (e : Ending) (w' : World) : Prop :=
  ∃ sl acc, e = .returned sl ∧ w'.ownsRow W.heap.size 33 5 sl acc.length (flatC acc) ∧ TakeK zs acc [] ∧ Below B W w'

def heapLenAt (W : World) (B : Nat) : Nat := match W.cell? ⟨B, 0, none⟩ with
  | some (.slice _ n _) => n
  | _ => 0

def TakeRel (B base : Nat) (zs : List Cmd) (W : World) (sl : Value) (wr : World) : Prop :=
  ∃ (acc ys : List Cmd) (a : Option Addr) (cap : Nat), wr.ownsRow W.heap.size 33 5 sl acc.length (flatC acc) ∧ Hid (HpAt wr B base (.slice a ys.length cap) ys) ∧ Hid (HeapK ys ys.length) ∧ Hid (TakeK zs acc ys) ∧ Hid (∀ k, (Value.slice a ys.length cap).ownBlock = some k → k < W.heap.size) ∧ Hid (Below B W wr)

theorem heapLenAt_of {W : World} {B base : Nat} {a : Option Addr} {n cap : Nat} {zs : List Cmd} (h : HpAt W B base (.slice a n cap) zs) : heapLenAt W B = n := by
  unfold heapLenAt
  rw [h.box.cell]

theorem take_round {B base g n cap : Nat} {zs acc ys zs' : List Cmd} {W W2 W3 w4 : World} {sl v4 : Value} {o : Obj} (hA : HpAt W2 B base (.slice (some ⟨g, 0, none⟩) (n + 1) cap) ys) (hgl : g < W.heap.size) (hB0 : B < W.heap.size)
    (ho3 : W3.ownsRow W.heap.size 33 5 sl acc.length (flatC acc)) (hA3 : HpAt W3 B base (.slice (some ⟨g, 0, none⟩) n cap) zs') (hz : zs'.length = n) (hk3 : HeapK zs' zs'.length) (hb3 : Below B W W3) (hs3 : W.heap.size ≤ W3.heap.size) {x : Cmd} (ht3 : TakeK zs (acc ++ [x]) zs')
    (hg4 : (W3.alloc o).grownBy w4 sl.ownBlock) (ho4 : w4.ownsRow W.heap.size 33 5 v4 (acc ++ [x]).length (flatC (acc ++ [x]))) : TakeRel B base zs W v4 w4 ∧ heapLenAt w4 B < heapLenAt W2 B := by
  have hlow : ∀ k, sl.ownBlock = some k → W.heap.size ≤ k := fun k e => (ho3.lt k e).1
  have hA4 : HpAt w4 B base (.slice (some ⟨g, 0, none⟩) n cap) zs' := (hA3.keep (below_box W3 o)).grown hg4 (fun e => by have := hlow B e; omega) (fun k e => fun e2 => by
    simp [Value.ownBlock] at e
    subst e
    have := hlow g e2
    omega)
  refine ⟨⟨acc ++ [x], zs', some ⟨g, 0, none⟩, cap, ho4, by rw [hz]; exact hA4, hk3, ht3, fun k e => ?_, ?_⟩, ?_⟩
  · simp [Value.ownBlock] at e
    subst e
    exact hgl
  · exact (hb3.alloc (by omega) o).grown hg4 (by rw [World.size_alloc]; omega) (fun k e => by have := hlow k e; omega)
  · rw [heapLenAt_of hA4, heapLenAt_of hA]
    omega

set_option maxHeartbeats 1000000 in
set_option maxRecDepth 100000 in
theorem takeAll_c (B base : Nat) (v : Value) (zs : List Cmd) (hl : zs.length ≤ 1000) (W : World) (hle : base ≤ W.heap.size) (h : HpAt W B base v zs) (hk : HeapK zs zs.length) :
    Calls Tryz.prog 60 #[.pointer (some ⟨B, 0, none⟩)] W (TakePost B zs W) := by
  obtain ⟨a0, cap0, rfl, -⟩ := cmds_of_own h.row
  obtain ⟨i0, hi, hz0, hz1, hz2⟩ := info_parts infoCmd
  have HH := Lib.hid h
  have HK := Lib.hid hk
  have HLE := Lib.hid (And.intro hle hl)
  have HB0 := Lib.hid (And.intro h.box.lt h.lt)
  clear h hk hle
  go_enter Tryz.func60, Tryz.ntmps60
  go_wp2
  go_loopw [3] (fun sl wr => TakeRel B base zs W sl wr) (fun _ wr => heapLenAt wr B)
  case atStart => exact ⟨[], zs, a0, cap0, World.ownsRow_nil _ _ _ _, HH, HK, take_start zs, fun k e => (HH.out.row.lt k e).2, Below.refl _ _⟩
  case round =>
    obtain ⟨acc, ys, a, cap, hown, HA, HK, HT, HLOW, HB⟩ := hrel
    have HO := Lib.hid hown
    have b0 := HA.out.box.cell
    have HLY := Lib.hid (show acc.length + ys.length = zs.length by have := HT.out.1.length_eq; rwa [List.length_append] at this)
    clear hown
    rcases List.eq_nil_or_concat ys with rfl | ⟨ys', y, hyy⟩
    · have HL := Lib.hid (heapLen_c a 0 cap wr)
      simp only [List.length_nil] at b0
      go_wp2_with fail
      refine HL.out.mono ?_
      rintro e W2 ⟨rfl, rfl⟩
      go_wp2
      go_ret
      exact ⟨_, acc, rfl, HO.out, HT.out, HB.out⟩
    · have hyl : ys.length = ys'.length + 1 := by rw [hyy]; simp
      obtain ⟨n, hn⟩ : ∃ n, ys'.length = n := ⟨_, rfl⟩
      rw [hn] at hyl
      have HN := Lib.hid hyl
      obtain ⟨g, cap', hv, h1, h2, h3, h4⟩ := HA.out.top hyl
      rw [hyl] at b0 hv HA HLOW
      injection hv with e1 e2 e3
      subst e1; subst e3
      have HGL := Lib.hid (HLOW.out g rfl)
      have HL := Lib.hid (heapLen_c (some ⟨g, 0, none⟩) (n + 1) cap wr)
      have HPOP := Lib.hid (heapPop_c B base g n cap ys hyl (by have := HLY.out; omega) h1 h2 wr HA.out HK.out)
      have hn1 : n ≤ 1000 := by have := HLY.out; omega
      clear hyy hn e2 hyl h1 h2 h3 h4
      go_wp2_with fail
      refine HL.out.mono ?_
      rintro e W2 ⟨rfl, rfl⟩
      go_wp2_with fail
      refine HPOP.out.mono ?_
      rintro e W3 ⟨rfl, zs', hA3, hK3, hp3, hm3, hT3⟩
      have HZL := Lib.hid (show zs'.length = n by have := hp3.length_eq; have h9 := HN.out; simp at this; omega)
      have HO3 := Lib.hid (own_turn2 HO.out hT3 (fun k e => by have h1 := (HO.out.lt k e).1; have h2 := HB0.out; have h3 := HGL.out; exact ⟨by omega, by omega⟩))
      have HA3 := Lib.hid hA3
      have HK3 := Lib.hid hK3
      have HT3 := Lib.hid (take_step HT.out hp3 hm3)
      have HB3 : Hid (Below B W W3) := ⟨hT3.os.trans HB.out.os, hT3.tape.trans HB.out.tape, hT3.output.trans HB.out.output, Nat.le_trans HB.out.size hT3.size, fun k hk => by
        have h1 := HB0.out
        have h2 := HB.out.size
        have h3 := HA.out.row.lt g rfl
        exact (hT3.block k (by omega) (by omega) (by omega)).trans (HB.out.block k hk)⟩
      have HS3 := Lib.hid (Nat.le_trans HB.out.size hT3.size)
      clear hA3 hK3 hp3 hm3 hT3 b0
      obtain ⟨x, hx⟩ : ∃ x, atK ys 0 = x := ⟨_, rfl⟩
      rw [hx] at HT3 ⊢
      clear hx
      obtain ⟨p, fk, fv, tk, tv⟩ := x
      have ta := fun W => ta_cmd p fk fv tk tv W
      unfold cmdV
      simp only
      go_wp2_with (at_builtin; refine wpList_append_cmds rfl _ _ rfl W.heap.size _ acc rfl (HO3.out.alloc _) _ _ _ [⟨p, fk, fv, tk, tv⟩] rfl (cmds_lit W3 ⟨p, fk, fv, tk, tv⟩) (by have := HLY.out; have := HLE.out.2; simp; omega) (by have := HS3.out; simp; omega) ?_; intro v4 w4 ho4 hg4)
      exact take_round HA.out HGL.out HB0.out.1 HO3.out HA3.out HZL.out HK3.out HB3.out HS3.out HT3.out hg4 ho4

end Go.Proofs.YtdkpabnpobpdhaaGreat

/-
  WALKS: impl.wholesOf: a map of commands by their paths.
-/
namespace Go.Proofs.YtdkpabnpobpdhaaGreat
open Go.RowKit
open Go.Maps (IsMap has)
set_option linter.unusedVariables false

theorem keyLaw : Maps.Keyed Tryz.prog 9 := Maps.string_keyed Tryz.underlying9
theorem zeroCmd (w : World) : (zeroValue 33).run Tryz.prog w = .ok (.agg #[.string ⟨#[]⟩, .int .i64 0, .int .i64 0, .int .i64 0, .int .i64 0]) w := by kernel_rfl

theorem keyOf_path {p : ByteArray} (h : p.size ≤ maxLen) : keyOf Tryz.prog 9 (.string p) = some (keyL p) := WideMaps.keyOf_string_mk Tryz.underlying9 h

/-- 'whole, more := wholes[path]'. -/
theorem wpList_lookup_cmd (w : World) {ops : Array Oper} {rest : List Oper} {o : Oper} {a : Act} {Q : Exit → Act → World → Prop} (hg : o.guard = none) (m x : Operand) (hop : o.op = Op.lookup 60 m x true) (b n : Nat) (D : DataW Unit)
    (hm : a.eval m = .map (some b)) (hown : w.ownsMap Tryz.prog 9 cmdElem b n D) (p : ByteArray) (hx : a.eval x = .string p) (hp : p.size ≤ maxLen)
    (hK : ∀ (q : ByteArray) (fk fv tk tv : Int), D.atKey (keyL p) (encD dC) = encD ⟨q, fk, fv, tk, tv⟩ → wpList Tryz.prog ops Q rest (a.put o.dst (.tuple #[.agg #[.string q, .int .i64 fk, .int .i64 fv, .int .i64 tk, .int .i64 tv], .bool (has D (keyL p))])) w) :
    wpList Tryz.prog ops Q (o :: rest) a w :=
  wpList_lookup_own_ok w hg m x _ hop _ _ keyLaw Tryz.underlying60 cmdElem (zeroCmd w) (encD dC) [] (cmdElem_mk dC) b n D hm hown _ _ hx (keyOf_path hp) (fun v ps hv => by
    obtain ⟨c, rfl, hc⟩ := cmdElem_inv hv
    obtain ⟨q, fk, fv, tk, tv⟩ := c
    injection hc with hc _
    exact hK q fk fv tk tv hc)

/-- 'wholes[path] = c'. -/
theorem wpList_store_cmd (w : World) {ops : Array Oper} {rest : List Oper} {o : Oper} {a : Act} {Q : Exit → Act → World → Prop} (hg : o.guard = none) (m x v : Operand) (hop : o.op = Op.mapUpdate 60 m x v) (b n : Nat) (D : DataW Unit)
    (hm : a.eval m = .map (some b)) (hown : w.ownsMap Tryz.prog 9 cmdElem b n D) (hn : n < maxLen) (p : ByteArray) (hx : a.eval x = .string p) (hp : p.size ≤ maxLen) (c : Cmd) (hv : a.eval v = .agg #[.string c.p, .int .i64 c.fk, .int .i64 c.fv, .int .i64 c.tk, .int .i64 c.tv])
    (hK : ∀ w', w'.ownsMap Tryz.prog 9 cmdElem b (n + 1) (D.put (keyL p) (encD c)) → w.grownBy w' (some b) → wpList Tryz.prog ops Q rest (a.put o.dst undef) w') :
    wpList Tryz.prog ops Q (o :: rest) a w :=
  wpList_mapUpdate_own w hg m x v _ hop _ _ keyLaw Tryz.underlying60 cmdElem b n D hm hown hn _ _ _ hx hv (keyOf_path hp) _ _ (cmdElem_mk c) hK

/-- What wholesOf leaves. -/
def WholePost (cs : List Cmd) (W : World) (e : Ending) (w' : World) : Prop :=
  ((∃ D : DataW Unit, e = .returned (.tuple #[.map (some W.heap.size), .bool true]) ∧ w'.ownsMap Tryz.prog 9 cmdElem W.heap.size cs.length D ∧ WholeK cs cs.length D) ∨ (e = .returned (.tuple #[.map none, .bool false]) ∧ ∃ p, foldP p none cs = none)) ∧ Below W.heap.size W w'

def WholeRel (cs : List Cmd) (W : World) (i : Value) (wr : World) : Prop :=
  ∃ (n : Nat) (D : DataW Unit), i = .int .i64 n ∧ n ≤ cs.length ∧ Hid (wr.ownsMap Tryz.prog 9 cmdElem W.heap.size n D) ∧ Hid (WholeK cs n D) ∧ Hid (Below W.heap.size W wr)

theorem whole_below {W wr w1 : World} {o1 o2 : Obj} (hB : Below W.heap.size W wr) (hg : ((wr.alloc o1).alloc o2).grownBy w1 (some W.heap.size)) : Below W.heap.size W w1 :=
  ((hB.alloc hB.size o1).alloc (by have := hB.size; rw [World.size_alloc]; omega) o2).grown hg (by have := hB.size; rw [World.size_alloc, World.size_alloc]; omega) (fun k e => by cases e; exact Nat.le_refl _)

set_option maxHeartbeats 1000000 in
set_option maxRecDepth 100000 in
theorem wholesOf_c (a : Option Addr) (len cap : Nat) (cs : List Cmd) (hl : len ≤ 2097152) (hs : ShortC 2097152 cs) (W : World) (hN : CmdsAt W a len cs) :
    Calls Tryz.prog 58 #[.slice a len cap] W (WholePost cs W) := by
  have HN := Lib.hid hN
  have HE := Lib.hid hN.1
  have HS := Lib.hid hs
  have hl' : (len : Int) ≤ 2097152 := by omega
  have hmm := @run_makeMap Tryz.prog
  clear hN hs
  go_enter Tryz.func58, Tryz.ntmps58
  go_wp2
  clear hmm
  go_loopw [12] (fun i wr => WholeRel cs W i wr) (fun i _ => len - (intOf i).toNat)
  case atStart => exact ⟨0, .map [], rfl, Nat.zero_le _, World.ownsMap_made _ _ _ _, whole_start cs, below_box _ _⟩
  case round =>
    obtain ⟨n, D, rfl, hn, HM, HW, HB⟩ := hrel
    by_cases hlt : n < len
    · have hlt' : (n : Int) < len := by omega
      obtain ⟨b, off, c, rfl, hc, d0, d1, d2, d3, d4⟩ := HN.out.node hlt
      have c0 := cell_kept HB.out d0
      have c1 := cell_kept HB.out d1
      have c2 := cell_kept HB.out d2
      have c3 := cell_kept HB.out d3
      have c4 := cell_kept HB.out d4
      have HX := Lib.hid hc
      have HLT := Lib.hid (And.intro hlt hn)
      have HPS := Lib.hid (show c.p.size ≤ maxLen from Nat.le_trans (HS.out.at hc) (by unfold maxLen; omega))
      obtain ⟨p, fk, fv, tk, tv⟩ := c
      simp only at c0 c1 c2 c3 c4
      clear hc hlt hn d0 d1 d2 d3 d4
      have hn7 : n < maxLen := by unfold maxLen; omega
      cases hb : has D (keyL p) with
      | false =>
        have HBV := Lib.hid hb
        go_wp2_with (first | (at_lookup; refine wpList_lookup_cmd _ rfl _ _ rfl _ n D rfl (HM.out.alloc _) p rfl HPS.out ?_; intro q gk gv uk uv hat; have HAT := Lib.hid hat; clear hat) | (at_mapUpdate; refine wpList_store_cmd _ rfl _ _ _ rfl _ n D rfl ((HM.out.alloc _).alloc _) hn7 p rfl HPS.out ⟨p, fk, fv, tk, tv⟩ rfl ?_; intro w1 hown1 hgrow1))
        go_roundw
        case rel => exact ⟨n + 1, D.put (keyL p) (encD ⟨p, fk, fv, tk, tv⟩), by go_num, by have := HLT.out; have := HE.out; omega, hown1, whole_new HW.out HX.out HBV.out, whole_below HB.out hgrow1⟩
        case measure => have := HLT.out; simp [intOf]; omega
      | true =>
        have HBV := Lib.hid hb
        go_wp2_with (first | (at_lookup; refine wpList_lookup_cmd _ rfl _ _ rfl _ n D rfl (HM.out.alloc _) p rfl HPS.out ?_; intro q gk gv uk uv hat; have HAT := Lib.hid hat; clear hat) | (at_mapUpdate; refine wpList_store_cmd _ rfl _ _ _ rfl _ n D rfl ((HM.out.alloc _).alloc _) hn7 p rfl HPS.out ⟨p, gk, gv, tk, tv⟩ rfl ?_; intro w1 hown1 hgrow1))
        · rename_i e1 e2
          go_roundw
          case rel => exact ⟨n + 1, D.put (keyL p) (encD ⟨p, gk, gv, tk, tv⟩), by go_num, by have := HLT.out; have := HE.out; omega, hown1, whole_on (x := ⟨q, gk, gv, uk, uv⟩) HW.out HX.out HBV.out HAT.out (by rw [e1, e2]), whole_below HB.out hgrow1⟩
          case measure => have := HLT.out; simp [intOf]; omega
        · rename_i e1 e2
          go_ret2
          exact ⟨.inr ⟨rfl, p, whole_bad (x := ⟨q, gk, gv, uk, uv⟩) HW.out HX.out HBV.out HAT.out (fun e => e2 (congrArg Prod.snd e))⟩, (HB.out.alloc HB.out.size _).alloc (by have := HB.out.size; rw [World.size_alloc]; omega) _⟩
        · rename_i e1
          go_ret2
          exact ⟨.inr ⟨rfl, p, whole_bad (x := ⟨q, gk, gv, uk, uv⟩) HW.out HX.out HBV.out HAT.out (fun e => e1 (congrArg Prod.fst e))⟩, (HB.out.alloc HB.out.size _).alloc (by have := HB.out.size; rw [World.size_alloc]; omega) _⟩
    · have hnl : n = len := by have := HE.out; omega
      subst hnl
      go_wp2
      go_ret2
      exact ⟨.inl ⟨D, rfl, by rw [HE.out]; exact HM.out, by rw [HE.out]; exact HW.out⟩, HB.out⟩

end Go.Proofs.YtdkpabnpobpdhaaGreat

/-
  WALKS: impl.entry's undone and commands.
-/
namespace Go.Proofs.YtdkpabnpobpdhaaGreat
open Go.RowKit
set_option linter.unusedVariables false

def UndoneRel (B : Nat) (cs : List Cmd) (W : World) (e f : Value) (wr : World) : Prop :=
  ∃ (n : Nat) (x y : Option Addr), e = .pointer x ∧ f = .pointer y ∧ n ≤ cs.length ∧ Hid (EntAt B wr x (cs.drop n)) ∧ Hid (EntAt W.heap.size wr y ((cs.take n).reverse.map undoC)) ∧ Hid (Below W.heap.size W wr)

theorem undone_step {cs : List Cmd} {n : Nat} {c : Cmd} (hc : cs[n]? = some c) : (cs.take (n + 1)).reverse.map undoC = undoC c :: (cs.take n).reverse.map undoC := by
  rw [List.take_add_one, hc]
  simp

def CommandsRel (B : Nat) (cs : List Cmd) (W : World) (e l : Value) (wr : World) : Prop :=
  ∃ (n : Nat) (x : Option Addr), e = .pointer x ∧ n ≤ cs.length ∧ Hid (EntAt B W x (cs.drop n)) ∧ wr.ownsRow W.heap.size 33 5 l (cs.take n).length (flatC (cs.take n)) ∧ Hid (Below W.heap.size W wr)

end Go.Proofs.YtdkpabnpobpdhaaGreat

/-
  WALKS: laws.toContent.
-/
namespace Go.Proofs.YtdkpabnpobpdhaaGreat
open Go.RowKit

end Go.Proofs.YtdkpabnpobpdhaaGreat

/-
  WALKS: laws.eqContent at equal contents.
-/
namespace Go.Proofs.YtdkpabnpobpdhaaGreat
open Go.RowKit

end Go.Proofs.YtdkpabnpobpdhaaGreat

/-
  WALKS: commands in the exact laws: laws.toCommand, szCommand, eqCommand; spec.CommandUndo.
-/
namespace Go.Proofs.YtdkpabnpobpdhaaGreat
open Go.RowKit
set_option linter.unusedVariables false

/-- What is left; if anything is, the text is of modest length. -/
def SzCmd (c : Cmd) (w : World) (e : Ending) (w' : World) : Prop := ∃ z : Int, e = .returned (.int .i64 z) ∧ -1 ≤ z ∧ z ≤ 1048576 ∧ (0 ≤ z → c.p.size ≤ 1048576) ∧ Below w.heap.size w w'

theorem five_at {W : World} {n : Nat} (hn : n = W.heap.size) (a b c d e : Value) (t : TypeId) : Five (W.alloc (.cells #[a, b, c, d, e] t)) n a b c d e := by subst hn; exact five_new W a b c d e t

theorem undo_yes {c : Cmd} {vc : Bool} (h : validC c = vc) : undoC c = if vc = true then ⟨c.p, c.tk, c.tv, c.fk, c.fv⟩ else zeroC := by subst h; rfl

end Go.Proofs.YtdkpabnpobpdhaaGreat

/-
  WALK: spec.LogUndo.
-/
namespace Go.Proofs.YtdkpabnpobpdhaaGreat
open Go.RowKit
set_option linter.unusedVariables false

def UndoRelL (cs : List Cmd) (vl : Bool) (len : Nat) (W : World) (o i : Value) (wr : World) : Prop :=
  ∃ (n : Nat) (z : Int) (acc : List Cmd), i = .int .i64 z ∧ z = (n : Int) - 1 ∧ n ≤ len ∧ wr.ownsRow W.heap.size 33 5 o acc.length (flatC acc) ∧ Hid (acc = (cs.drop n).reverse.map undoC) ∧ Hid (vl = false → n = len) ∧ Hid (Below W.heap.size W wr)

theorem undo_out {cs acc : List Cmd} {vl : Bool} {n len : Nat} (hl : cs.length = len) (hv : validL cs = vl) (ha : acc = (cs.drop n).reverse.map undoC) (hn : vl = false → n = len) (h : vl = false ∨ n = 0) : undoL cs = acc := by
  subst ha
  cases vl with
  | false =>
    rw [undoL_bad hv, hn rfl, ← hl, List.drop_length]
    rfl
  | true =>
    rcases h with h | rfl
    · cases h
    · rw [undoL_ok hv, List.drop_zero]

end Go.Proofs.YtdkpabnpobpdhaaGreat

/-
  WALKS: impl.LogValid, LogUndo, LogApply, LogFits.
-/
namespace Go.Proofs.YtdkpabnpobpdhaaGreat
open Go.RowKit
set_option linter.unusedVariables false

/-- Between two rounds of LogApply. -/
def DoneRel (ns : List Nd) (cs : List Cmd) (W : World) (l k o i : Value) (wr : World) : Prop :=
  ∃ (n : Nat) (acc : List Nd) (x : Option Addr), l = .pointer x ∧ k = .bool true ∧ i = .int .i64 n ∧ n ≤ cs.length ∧ wr.ownsRow W.heap.size 127 3 o acc.length (flatN acc) ∧ Hid (EntAt W.heap.size wr x (cs.drop n)) ∧ Hid (acc.length ≤ 10) ∧ Hid (Short 2097152 acc) ∧ Hid (runL ns (cs.take n) = (acc, n)) ∧ Hid (Below W.heap.size W wr)

set_option maxHeartbeats 1000000 in
set_option maxRecDepth 100000 in
theorem implLogValid_c (a : Option Addr) (len cap : Nat) (cs : List Cmd) (hl : len ≤ 2097152) (hs : ShortC 2097152 cs) (W : World) (hN : CmdsAt W a len cs) :
    Calls Tryz.prog 57 #[.slice a len cap] W (BoolPost (validL cs) W) := by
  have HEn := Lib.hid (entriesOf_c a len cap cs hs W hN)
  clear hN hs hl
  go_enter Tryz.func57, Tryz.ntmps57
  go_wp2_with fail
  refine HEn.out.mono ?_
  rintro e W1 ⟨hb, ⟨hv, rfl⟩ | ⟨hv, x, rfl, -⟩⟩
  · have HB := Lib.hid hb
    have HV := Lib.hid hv
    clear hb hv
    go_wp2
    go_ret
    exact ⟨ret_bool HV.out.symm, HB.out⟩
  · have HB := Lib.hid hb
    have HV := Lib.hid hv
    clear hb hv
    go_wp2
    go_ret
    exact ⟨ret_bool HV.out.symm, HB.out⟩

end Go.Proofs.YtdkpabnpobpdhaaGreat

/-
  WALKS: impl.LogCanon.
-/
namespace Go.Proofs.YtdkpabnpobpdhaaGreat
open Go.RowKit
open Go.Maps (IsMap has)
set_option linter.unusedVariables false

theorem own_lower {W : World} {base base' : Nat} {e : TypeId} {size n : Nat} {v : Value} {xs : List Value} (h : W.ownsRow base e size v n xs) (hb : base' ≤ base) : W.ownsRow base' e size v n xs := by
  obtain ⟨h1, h2⟩ := h
  refine ⟨h1, ?_⟩
  rcases h2 with h3 | ⟨x, cap, cur, rfl, h4, h5⟩
  · exact .inl h3
  · exact .inr ⟨x, cap, cur, rfl, Nat.le_trans hb h4, h5⟩

abbrev RangesC (wr : World) (b r n : Nat) (D : DataW Unit) (left : Lit → Bool) (cnt : Nat) : Prop := wr.ranges Tryz.prog 9 cmdElem b r n D left cnt

theorem ranges_keptM {w w' : World} {b r n : Nat} {D : DataW Unit} {left : Lit → Bool} {cnt : Nat} (h : RangesC w b r n D left cnt) (hk : KeptM w w') : RangesC w' b r n D left cnt := by
  obtain ⟨es, clock, since, seen, c0, hb, F, hs, hD, hr, rest⟩ := h
  exact ⟨es, clock, since, seen, c0, hk b _ hb rfl, F, hs, hD, hk r _ hr rfl, rest⟩

/-- The step of 'for _, c := range wholes'. -/
theorem wpList_next_cmd (w : World) {ops : Array Oper} {rest : List Oper} {o : Oper} {a : Act} {Q : Exit → Act → World → Prop} (hg : o.guard = none) (it : Operand) (hop : o.op = Op.next it false) (b r n : Nat) (D : DataW Unit) (left : Lit → Bool) (cnt : Nat)
    (hit : a.eval it = .pointer (some ⟨r, 0, none⟩)) (h : RangesC w b r n D left cnt)
    (hDone : (∀ kl, left kl = false) → wpList Tryz.prog ops Q rest (a.put o.dst (.tuple #[.bool false])) w)
    (hMore : ∀ (p q : ByteArray) (fk fv tk tv : Int) (w' : World) (cnt' : Nat), left (keyL p) = true → (∀ zd, D.atKey (keyL p) zd = encD ⟨q, fk, fv, tk, tv⟩) → RangesC w' b r n D (fun z => left z && !z.sameKey (keyL p)) cnt' → cnt' < cnt →
      w.grownBy w' (some r) → (Instr.entry (.pointer (some ⟨r, 0, none⟩))).run Tryz.prog w' = .ok (.tuple #[.string p, .agg #[.string q, .int .i64 fk, .int .i64 fv, .int .i64 tk, .int .i64 tv]]) w' →
      wpList Tryz.prog ops Q rest (a.put o.dst (.tuple #[.bool true, .string p, .agg #[.string q, .int .i64 fk, .int .i64 fv, .int .i64 tk, .int .i64 tv]])) w') :
    wpList Tryz.prog ops Q (o :: rest) a w :=
  wpList_next_ranges w hg it hop 9 keyLaw cmdElem (fun p : ByteArray => Value.string p) (fun c : Cmd => .agg #[.string c.p, .int .i64 c.fk, .int .i64 c.fv, .int .i64 c.tk, .int .i64 c.tv])
    (fun key kl hk => by obtain ⟨x, hx, _⟩ := Maps.keyOf_str Tryz.underlying9 hk; exact ⟨_, hx⟩)
    (fun v y hv => by obtain ⟨c, hc, _⟩ := cmdElem_inv hv; exact ⟨c, hc⟩) b r n D left cnt hit h (fun _ hl => hDone hl)
    (fun p c kl y w' cnt' hkey hlk hv hat hrg hlt hgr hsz hen => by
      obtain ⟨x, ex, rfl, _⟩ := Maps.keyOf_str Tryz.underlying9 hkey
      have hp : p = ⟨x.toArray⟩ := by
        have : (Value.string p) = encStr x := ex
        unfold encStr at this
        injection this
      have hkl : (Lit.string x) = keyL p := by rw [hp]; unfold keyL; simp
      rw [hkl] at hlk hat hrg
      obtain ⟨c', ec, rfl⟩ := cmdElem_inv hv
      rw [cmdElem_mk] at hv
      injection hv with hv
      injection hv with hv _
      obtain ⟨q, fk, fv, tk, tv⟩ := c
      exact hMore p q fk fv tk tv w' cnt' hlk (fun zd => (hat zd).trans hv.symm) hrg hlt hgr hen)

def CanonRel (cs : List Cmd) (D : DataW Unit) (b r B : Nat) (W : World) (wr : World) : Prop :=
  ∃ (left : Lit → Bool) (cnt : Nat) (v : Value) (zs : List Cmd), RangesC wr b r cs.length D left cnt ∧ Hid (HpAt wr B (B + 1) v zs) ∧ Hid (HeapK zs zs.length) ∧ Hid (PushK cs left zs) ∧ Hid (Below W.heap.size W wr)

theorem push_round {cs zs ys : List Cmd} {D : DataW Unit} {b r B : Nat} {W wr w2 W4 : World} {left : Lit → Bool} {cnt cnt2 : Nat} {v4 : Value} {p : ByteArray} {c : Cmd} {o : Obj} (hw : WholeK cs cs.length D) (hh : has D (keyL p) = true) (hat : ∀ z, D.atKey (keyL p) z = encD c) (hpk : PushK cs left zs) (hl : left (keyL p) = true)
    (hne : (c.fk, c.fv) ≠ (c.tk, c.tv)) (hq : c.p = p) (hr2 : RangesC w2 b r cs.length D (fun z => left z && !z.sameKey (keyL p)) cnt2) (hrg : RangesC wr b r cs.length D left cnt) (hlt : cnt2 < cnt) (hb2 : Below W.heap.size W w2) (hws : W.heap.size ≤ B)
    (hA4 : HpAt W4 B (B + 1) v4 ys) (hp4 : ys.Perm (zs ++ [c])) (hh4 : HeapK ys ys.length) (hb4 : Below B (w2.alloc o) W4) (hk4 : KeptM (w2.alloc o) W4) : CanonRel cs D b r B W W4 ∧ W4.rangeLeft b r < wr.rangeLeft b r := by
  subst hq
  have hr4 : RangesC W4 b r cs.length D (fun z => left z && !z.sameKey (keyL c.p)) cnt2 := ranges_keptM (ranges_keptM hr2 (KeptM.below (below_box w2 o))) hk4
  exact ⟨⟨_, cnt2, v4, ys, hr4, hA4, hh4, push_one hw hh hat hpk hl hne hp4, (hb2.alloc hb2.size o).trans (hb4.mono hws)⟩, by rw [hr4.left_eq, hrg.left_eq]; exact hlt⟩

theorem skip_round {cs zs : List Cmd} {D : DataW Unit} {b r B : Nat} {W wr w2 : World} {left : Lit → Bool} {cnt cnt2 : Nat} {v : Value} {p : ByteArray} {c : Cmd} {o : Obj} (hw : WholeK cs cs.length D) (hh : has D (keyL p) = true) (hat : ∀ z, D.atKey (keyL p) z = encD c) (hpk : PushK cs left zs)
    (he : (c.fk, c.fv) = (c.tk, c.tv)) (hq : c.p = p) (hr2 : RangesC w2 b r cs.length D (fun z => left z && !z.sameKey (keyL p)) cnt2) (hrg : RangesC wr b r cs.length D left cnt) (hlt : cnt2 < cnt) (hb2 : Below W.heap.size W w2)
    (hA2 : HpAt w2 B (B + 1) v zs) (hhk : HeapK zs zs.length) : CanonRel cs D b r B W (w2.alloc o) ∧ (w2.alloc o).rangeLeft b r < wr.rangeLeft b r := by
  subst hq
  have hr4 : RangesC (w2.alloc o) b r cs.length D (fun z => left z && !z.sameKey (keyL c.p)) cnt2 := ranges_keptM hr2 (KeptM.below (below_box w2 o))
  exact ⟨⟨_, cnt2, v, zs, hr4, hA2.keep (below_box w2 o), hhk, push_skip hw hh hat hpk he, hb2.alloc hb2.size o⟩, by rw [hr4.left_eq, hrg.left_eq]; exact hlt⟩

set_option maxHeartbeats 1000000 in
set_option maxRecDepth 100000 in
theorem logCanon_c (a : Option Addr) (len cap : Nat) (cs : List Cmd) (hl : len ≤ 2097152) (hs : ShortC 2097152 cs) (W : World) (hN : CmdsAt W a len cs) :
    Calls Tryz.prog 40 #[.slice a len cap] W (MovePost (logCanon cs) W) := by
  obtain ⟨vl, hvl⟩ : ∃ v, validL cs = v := ⟨_, rfl⟩
  have HV := Lib.hid (show Calls Tryz.prog 57 #[.slice a len cap] W (BoolPost vl W) by rw [← hvl]; exact implLogValid_c a len cap cs hl hs W hN)
  have HVT := Lib.hid hvl
  have HWH := Lib.hid (fun W' (hb : Below W.heap.size W W') => wholesOf_c a len cap cs hl hs W' (hN.keep hb))
  clear hN hs hl hvl
  go_enter Tryz.func40, Tryz.ntmps40
  go_wp2_with fail
  refine HV.out.mono ?_
  rintro e W1 ⟨rfl, hb1⟩
  have B1 := Lib.hid hb1
  clear hb1
  cases vl with
  | false =>
    go_wp2
    go_ret2
    exact move_end (logCanon_bad HVT.out) (World.ownsRow_nil _ _ _ _) B1.out
  | true =>
    go_wp2_with fail
    refine (HWH.out W1 B1.out).mono ?_
    rintro e W2 ⟨hor, hb2⟩
    have B2 := Lib.hid (below_next B1.out hb2)
    have HB2 := Lib.hid hb2.size
    clear hb2
    rcases hor with ⟨D, rfl, hM, hW⟩ | ⟨rfl, p, hp⟩
    · have HM := Lib.hid hM
      have HW := Lib.hid hW
      have HC20 := Lib.hid (show cs.length ≤ 20 from ((validL_iff cs).1 HVT.out).2)
      clear hM hW
      go_wp2_with (at_range; refine wpList_range_own _ rfl _ _ rfl _ _ keyLaw Tryz.underlying60 cmdElem _ _ D rfl (HM.out.alloc _) ?_; intro w0 hrg0 hg0 hs0)
      simp only [World.size_alloc] at hrg0 hs0 ⊢
      go_frame
      have HX0 := Lib.hid ((Boxed.new W2 63 (.slice none 0 0)).kept hg0 (by simp))
      have HBW := Lib.hid (show Below W.heap.size W w0 from (B2.out.alloc B2.out.size _).grown hg0 (by have := B2.out.size; rw [World.size_alloc]; omega) (by simp))
      have HWS := Lib.hid (show W.heap.size ≤ W2.heap.size from B2.out.size)
      clear hg0 hs0
      go_loopw [8] (fun _ wr => CanonRel cs D W1.heap.size (W2.heap.size + 1) W2.heap.size W wr) (fun _ wr => wr.rangeLeft W1.heap.size (W2.heap.size + 1))
      case atStart => exact ⟨has D, Maps.size D, .slice none 0 0, [], hrg0, ⟨HX0.out, World.ownsRow_nil _ _ _ _, by omega⟩, fun k k0 kn => absurd kn (by simp), push_start HW.out, HBW.out⟩
      case round =>
        clear hrg0
        obtain ⟨left, cnt, v, zs, hrg, HA, HHK, HPK, HB⟩ := hrel
        have HRG := Lib.hid hrg
        go_wp2_with (at_next; refine wpList_next_cmd _ rfl _ rfl _ _ _ _ _ _ rfl hrg ?_ ?_)
        · intro hl0
          have HTA := Lib.hid (takeAll_c W2.heap.size (W2.heap.size + 1) v zs (by have := push_len HPK.out; have := HC20.out; omega) wr HA.out.box.lt HA.out HHK.out)
          have HL0 := Lib.hid hl0
          clear hrg hl0
          go_wp2_with fail
          refine HTA.out.mono ?_
          rintro e W5 ⟨sl, acc, rfl, ho, ht, hb⟩
          go_wp2
          go_ret2
          exact move_end (push_end HVT.out HW.out HPK.out HL0.out ht) (own_lower ho HB.out.size) (HB.out.trans (hb.mono HWS.out))
        · intro p q fk fv tk tv w2 cnt2 hlk hat hrg2 hlt hg2 hen
          have HA2 := Lib.hid (HA.out.grown hg2 (fun e => by injection e with e; omega) (fun k hk e => row_ne_iter HA.out.row HRG.out (e.trans hk.symm)))
          have HB2w := Lib.hid (show Below W.heap.size W w2 from HB.out.grown hg2 (by have := HWS.out; have := HA.out.box.lt; omega) (fun k e => by injection e with e; have := HWS.out; omega))
          have HLK := Lib.hid (And.intro hlk hat)
          have HR2 := Lib.hid hrg2
          have HLT := Lib.hid (show cnt2 < cnt from hlt)
          have HH := Lib.hid (Maps.has_true_of_atKey hat)
          have HQP := Lib.hid (whole_at (c := ⟨q, fk, fv, tk, tv⟩) HW.out (Maps.has_true_of_atKey hat) hat).1
          have HPU := Lib.hid (heapPush_c W2.heap.size (W2.heap.size + 1) v zs ⟨q, fk, fv, tk, tv⟩ (by have := push_len HPK.out; have := HC20.out; omega) (w2.alloc (.cells #[.string q, .int .i64 fk, .int .i64 fv, .int .i64 tk, .int .i64 tv] 33)) (by have := HA2.out.box.lt; rw [World.size_alloc]; omega) (HA2.out.keep (below_box _ _)) HHK.out)
          unfold cmdV at HPU
          simp only at HPU
          clear hrg hlk hat hrg2 hlt hg2
          by_cases e1 : fk = tk
          · by_cases e2 : fv = tv
            · subst e1; subst e2
              clear HPU
              go_wp2
              exact skip_round HW.out HH.out HLK.out.2 HPK.out rfl HQP.out HR2.out HRG.out HLT.out HB2w.out HA2.out HHK.out
            · subst e1
              go_wp2_with (go_at_call 59; (with_reducible refine (HPU.out).mono ?_); rintro e W4 ⟨rfl, v4, ys, hA4, hp4, hh4, hb4, hk4⟩)
              exact push_round HW.out HH.out HLK.out.2 HPK.out HLK.out.1 (fun e => e2 (congrArg Prod.snd e)) HQP.out HR2.out HRG.out HLT.out (hb2 := HB2w.out) HWS.out hA4 hp4 hh4 hb4 hk4
          · go_wp2_with (go_at_call 59; (with_reducible refine (HPU.out).mono ?_); rintro e W4 ⟨rfl, v4, ys, hA4, hp4, hh4, hb4, hk4⟩)
            exact push_round HW.out HH.out HLK.out.2 HPK.out HLK.out.1 (fun e => e1 (congrArg Prod.fst e)) HQP.out HR2.out HRG.out HLT.out (hb2 := HB2w.out) HWS.out hA4 hp4 hh4 hb4 hk4
    · go_wp2
      go_ret2
      exact move_end (logCanon_fail hp) (World.ownsRow_nil _ _ _ _) B2.out

end Go.Proofs.YtdkpabnpobpdhaaGreat

/-
  WALKS: slices.Grow and slices.Concat of lists of commands, empty ones and nil too.
-/
namespace Go.Proofs.YtdkpabnpobpdhaaGreat
open Go.RowKit
/-- A list of commands among the arguments of slices.Concat. -/
structure CRow where
  a : Option Addr
  len : Nat
  cap : Nat
  cs : List Cmd

/-- A slice of lists of commands in memory. -/
def RowsCAt (W : World) (g off : Nat) (rows : List CRow) : Prop := ∀ i r, rows[i]? = some r → W.cell? ⟨g, off + i, none⟩ = some (.slice r.a r.len r.cap) ∧ CmdsAt W r.a r.len r.cs

theorem RowsCAt.keep {W W' : World} {g off : Nat} {rows : List CRow} (h : RowsCAt W g off rows) (hb : Below W.heap.size W W') : RowsCAt W' g off rows := fun i r hr =>
  ⟨cell_kept hb (h i r hr).1, (h i r hr).2.keep hb⟩

def allC (rows : List CRow) : List Cmd := rows.flatMap CRow.cs

theorem allC_next {rows : List CRow} {i : Nat} {r : CRow} (h : rows[i]? = some r) : allC (rows.take (i + 1)) = allC (rows.take i) ++ r.cs := by
  unfold allC
  rw [List.take_add_one, h, List.flatMap_append]
  simp

theorem allC_le (rows : List CRow) (i : Nat) : (allC (rows.take i)).length ≤ (allC rows).length := by
  conv => rhs; rw [← List.take_append_drop i rows]
  unfold allC
  rw [List.flatMap_append, List.length_append]
  omega

def SizeC (rows : List CRow) (W : World) (s i : Value) (wr : World) : Prop :=
  ∃ n : Nat, i = .int .i64 n ∧ n ≤ rows.length ∧ s = .int .i64 ((allC (rows.take n)).length : Nat) ∧ W = wr

def JoinC (rows : List CRow) (W : World) (o i : Value) (wr : World) : Prop :=
  ∃ n : Nat, i = .int .i64 n ∧ n ≤ rows.length ∧ wr.ownsRow W.heap.size 33 5 o (allC (rows.take n)).length (flatC (allC (rows.take n))) ∧ Hid (Below W.heap.size W wr)

theorem rowsC_two {a1 a2 : Option Addr} {l1 l2 c1 c2 : Nat} {cs ds : List Cmd} (W : World) (h1 : CmdsAt W a1 l1 cs) (h2 : CmdsAt W a2 l2 ds) (t : TypeId) :
    RowsCAt (W.alloc (.cells #[.slice a1 l1 c1, .slice a2 l2 c2] t)) W.heap.size 0 [⟨a1, l1, c1, cs⟩, ⟨a2, l2, c2, ds⟩] := by
  intro i r hr
  match i, hr with
  | 0, hr =>
    simp at hr; subst hr
    exact ⟨by rw [World.cell?_alloc_new]; rfl, h1.keep (below_box _ _)⟩
  | 1, hr =>
    simp at hr; subst hr
    exact ⟨by rw [World.cell?_alloc_new]; rfl, h2.keep (below_box _ _)⟩
  | i + 2, hr => simp at hr

end Go.Proofs.YtdkpabnpobpdhaaGreat

/-
  WALKS: slices.Equal of commands; impl.CanonValid, CanonJoin.
-/
namespace Go.Proofs.YtdkpabnpobpdhaaGreat
open Go.RowKit
set_option linter.unusedVariables false

theorem cmdNeO (c d : Cmd) (h : c ≠ d) (w : World) : (binOp .neq 33 (.agg #[.string c.p, .int .i64 c.fk, .int .i64 c.fv, .int .i64 c.tk, .int .i64 c.tv]) (.agg #[.string d.p, .int .i64 d.fk, .int .i64 d.fv, .int .i64 d.tk, .int .i64 d.tv])).run Tryz.prog w = .ok (.bool true) w := by
  obtain ⟨p, fk, fv, tk, tv⟩ := c
  obtain ⟨p', fk', fv', tk', tv'⟩ := d
  simp only
  by_cases hp : p = p'
  · subst hp
    by_cases h1 : fk = fk'
    · subst h1
      by_cases h2 : fv = fv'
      · subst h2
        by_cases h3 : tk = tk'
        · subst h3
          by_cases h4 : tv = tv'
          · subst h4
            exact absurd rfl h
          · simp [binOp, go_sem, Op.equal, Op.maxDepth, h4]
        · have : (tk == tk') = false := beq_eq_false_iff_ne.2 h3
          simp [binOp, go_sem, Op.equal, Op.maxDepth, this]
      · have : (fv == fv') = false := beq_eq_false_iff_ne.2 h2
        simp [binOp, go_sem, Op.equal, Op.maxDepth, this]
    · have : (fk == fk') = false := beq_eq_false_iff_ne.2 h1
      simp [binOp, go_sem, Op.equal, Op.maxDepth, this]
  · have : (p.toList == p'.toList) = false := toList_ne hp
    simp [binOp, go_sem, Op.equal, Op.maxDepth, this]

theorem all_two (r s : CRow) : allC [r, s] = r.cs ++ s.cs := by unfold allC; simp

/-- Do two lists have the same commands? -/
def EqPost (cs ds : List Cmd) (W : World) (e : Ending) (w' : World) : Prop := ∃ b, e = .returned (.bool b) ∧ (b = true ↔ cs = ds) ∧ Below W.heap.size W w'

set_option maxHeartbeats 1000000 in
set_option maxRecDepth 100000 in
theorem equalC_c (a1 a2 : Option Addr) (len1 cap1 len2 cap2 : Nat) (cs ds : List Cmd) (hl : len1 ≤ 2097152) (hl2 : len2 ≤ 2097152) (W : World) (h1 : CmdsAt W a1 len1 cs) (h2 : CmdsAt W a2 len2 ds) :
    Calls Tryz.prog 41 #[.slice a1 len1 cap1, .slice a2 len2 cap2] W (EqPost cs ds W) := by
  have H1 := Lib.hid h1
  have H2 := Lib.hid h2
  have hl' : (len1 : Int) ≤ 2097152 := by omega
  clear h1 h2
  by_cases hne : len1 = len2
  · subst hne
    have HE := Lib.hid (And.intro H1.out.1 H2.out.1)
    go_enter Tryz.func41, Tryz.ntmps41
    go_wp2
    go_loopw [13] (fun i wr => ∃ n : Nat, i = .int .i64 n ∧ n ≤ len1 ∧ Hid (cs.take n = ds.take n) ∧ Hid (Below W.heap.size W wr)) (fun i _ => len1 - (intOf i).toNat)
    case atStart => exact ⟨0, rfl, Nat.zero_le _, rfl, Below.refl _ _⟩
    case round =>
      obtain ⟨n, rfl, hn, HT, HB⟩ := hrel
      by_cases hlt : n < len1
      · have hlt' : (n : Int) < len1 := by omega
        obtain ⟨b, off, c, rfl, hc, c0, c1, c2, c3, c4⟩ := (H1.out.keep HB.out).node hlt
        obtain ⟨b', off', d, rfl, hd, d0, d1, d2, d3, d4⟩ := (H2.out.keep HB.out).node hlt
        have HLT := Lib.hid hlt
        have HC := Lib.hid (And.intro hc hd)
        clear hn hlt hc hd
        by_cases hcd : c = d
        · subst hcd
          obtain ⟨p, fk, fv, tk, tv⟩ := c
          simp only at c0 c1 c2 c3 c4 d0 d1 d2 d3 d4
          have ce := fun w => cmdNeS p fk fv tk tv w
          go_upto_region 6 with (fail)
          go_quiet (fail)
          go_wp2
          go_roundw
          case rel => exact ⟨n + 1, by go_num, HLT.out, by rw [take_push HC.out.1, take_push HC.out.2, HT.out]; exact rfl, below_drewN HB.out _⟩
          case measure => have := HLT.out; simp [intOf]; omega
        · have ce := fun w => cmdNeO c d hcd w
          have HCD := Lib.hid hcd
          clear hcd
          obtain ⟨p, fk, fv, tk, tv⟩ := c
          obtain ⟨p', fk', fv', tk', tv'⟩ := d
          simp only at c0 c1 c2 c3 c4 d0 d1 d2 d3 d4 ce
          go_upto_region 6 with (fail)
          go_quiet (fail)
          go_wp2
          go_ret
          refine ⟨false, rfl, ⟨fun h => (by cases h), fun h => ?_⟩, below_drewN HB.out _⟩
          have h3 := HC.out.1
          rw [h, HC.out.2] at h3
          exact absurd (Option.some.inj h3).symm HCD.out
      · have hnl : n = len1 := by omega
        subst hnl
        go_wp2
        go_ret
        refine ⟨true, rfl, ⟨fun _ => ?_, fun _ => rfl⟩, HB.out⟩
        have h3 := HT.out
        rwa [List.take_of_length_le (by rw [HE.out.1]; exact Nat.le_refl _), List.take_of_length_le (by rw [HE.out.2]; exact Nat.le_refl _)] at h3
  · have hn1 : ((len1 : Int) == len2) = false := beq_eq_false_iff_ne.2 (by omega)
    go_enter Tryz.func41, Tryz.ntmps41
    go_wp2
    go_ret
    exact ⟨false, rfl, ⟨fun h => (by cases h), fun h => by subst h; exact absurd (H1.out.1.symm.trans H2.out.1) hne⟩, Below.refl _ _⟩

set_option maxHeartbeats 1000000 in
set_option maxRecDepth 100000 in
theorem implCanonValid_c (a : Option Addr) (len cap : Nat) (cs : List Cmd) (hl : len ≤ 2097152) (hs : ShortC 2097152 cs) (W : World) (hN : CmdsAt W a len cs) :
    Calls Tryz.prog 15 #[.slice a len cap] W (BoolPost (canonV cs) W) := by
  have HL := Lib.hid (logCanon_c a len cap cs hl hs W hN)
  have HN := Lib.hid hN
  have HLN := Lib.hid hl
  clear hN hs hl
  go_enter Tryz.func15, Tryz.ntmps15
  go_wp2_with fail
  refine HL.out.mono ?_
  rintro e W1 ⟨sl, rfl, ho, hb⟩
  have B1 := Lib.hid hb
  have HSELF := Lib.hid (canonV_self cs)
  cases hr : logCanon cs with
  | mk out ok =>
    rw [hr] at ho HSELF
    cases ok with
    | false =>
      have HV : Hid (canonV cs = false) := by
        cases hv : canonV cs with
        | false => exact rfl
        | true => have := HSELF.out.1 hv; cases this
      clear ho hb hr
      go_wp2
      go_ret
      exact ⟨ret_bool HV.out.symm, B1.out⟩
    | true =>
      obtain ⟨a', cap', rfl, hA⟩ := cmds_of_own ho
      have HLO := Lib.hid (canon_some hr)
      have HEQ := Lib.hid (equalC_c a' a out.length cap' len cap out cs (by have h1 := HLO.out; have h2 := ((validL_iff cs).1 h1.1).2; have h3 := h1.2.2.2.2.2; omega) HLN.out W1 hA (HN.out.keep hb))
      clear ho hb hr
      go_wp2_with fail
      refine HEQ.out.mono ?_
      rintro e W2 ⟨b, rfl, hbe, hb2⟩
      have HV : Hid (b = canonV cs) := by
        rw [show b = canonV cs ↔ (b = true ↔ canonV cs = true) from by cases b <;> cases canonV cs <;> simp]
        rw [hbe, HSELF.out]
        exact ⟨fun h => by rw [h], fun h => by injection h⟩
      have B2 := Lib.hid (below_next B1.out hb2)
      clear hbe hb2
      go_wp2
      go_ret
      exact ⟨ret_bool HV.out, B2.out⟩

end Go.Proofs.YtdkpabnpobpdhaaGreat

/-
  WALKS: the program's conflicts: impl.bars, CommandsClash, bothCanonical.
-/
namespace Go.Proofs.YtdkpabnpobpdhaaGreat
open Go.RowKit
set_option linter.unusedVariables false

theorem rp_first : (0 : Nat) ≤ 0 := Nat.le_refl 0

/-- impl.bars. -/
def overU (c d : Cmd) : Bool := undB c.p d.p && !(c.tk == 1) && !(d.tk == 0)
theorem clash_overU {c d : Cmd} (hc : validC c = true) (hd : validC d = true) : clashP c d = ((decide (c.p = d.p) && !(c.tk == d.tk && c.tv == d.tv)) || overU c d || overU d c) := clash_when hc hd

set_option maxHeartbeats 2000000 in
set_option maxRecDepth 100000 in
theorem implBars_c (c d : Cmd) (hc : c.p.size ≤ 2097152) (hd : d.p.size ≤ 2097152) (W : World) : Calls Tryz.prog 39 #[cmdV c, cmdV d] W (BoolPost (overU c d) W) := by
  obtain ⟨u, hu⟩ : ∃ u, undB c.p d.p = u := ⟨_, rfl⟩
  obtain ⟨x, hx⟩ : ∃ x, (c.tk == 1) = x := ⟨_, rfl⟩
  obtain ⟨y, hy⟩ : ∃ y, (d.tk == 0) = y := ⟨_, rfl⟩
  have HU := Lib.hid (fun w => show Calls Tryz.prog 56 #[.string c.p, .string d.p] w (fun e w' => e = .returned (.bool u) ∧ Below w.heap.size w w') by rw [← hu]; exact pathUnder_c c.p d.p (by omega) (by omega) w)
  have HR := Lib.hid (show overU c d = (u && !x && !y) by unfold overU; rw [hu, hx, hy])
  have T0 := Lib.hid (twoC_new W c d)
  have B0 := Lib.hid (below_next (below_box W (.cells #[.string c.p, .int .i64 c.fk, .int .i64 c.fv, .int .i64 c.tk, .int .i64 c.tv] 33)) (below_box _ (.cells #[.string d.p, .int .i64 d.fk, .int .i64 d.fv, .int .i64 d.tk, .int .i64 d.tv] 33)))
  clear hu hc hd
  obtain ⟨p, fk, fv, tk, tv⟩ := c
  obtain ⟨p', fk', fv', tk', tv'⟩ := d
  unfold cmdV
  simp only at HU T0 B0 HR hx hy ⊢
  have hxn : (tk != 1) = !x := by rw [bne, hx]
  have hyn : (tk' != 0) = !y := by rw [bne, hy]
  obtain ⟨a0, a1, a2, a3, a4, b0, b1, b2, b3, b4⟩ := T0.out
  simp only at a0 a1 a2 a3 a4 b0 b1 b2 b3 b4
  go_enter Tryz.func39, Tryz.ntmps39
  go_wp2_with fail
  refine (HU.out _).mono ?_
  rintro e W1 ⟨rfl, hb1⟩
  have T1 := Lib.hid (T0.out.keep hb1)
  have HB := Lib.hid (below_next B0.out hb1)
  clear a0 a1 a2 a3 a4 b0 b1 b2 b3 b4 hb1
  obtain ⟨a0, a1, a2, a3, a4, b0, b1, b2, b3, b4⟩ := T1.out
  cases u with
  | false =>
    go_wp2
    go_ret
    exact ⟨ret_bool (by rw [HR.out]; rfl), HB.out⟩
  | true =>
    cases x with
    | true =>
      go_wp2
      go_ret
      exact ⟨ret_bool (by rw [HR.out]; rfl), HB.out⟩
    | false =>
      cases y with
      | true =>
        go_wp2
        go_ret
        exact ⟨ret_bool (by rw [HR.out]; rfl), HB.out⟩
      | false =>
        go_wp2
        go_ret
        exact ⟨ret_bool (by rw [HR.out]; rfl), HB.out⟩

set_option maxHeartbeats 2000000 in
set_option maxRecDepth 100000 in
theorem implCommandsClash_c (c d : Cmd) (hc : c.p.size ≤ 2097152) (hd : d.p.size ≤ 2097152) (W : World) : Calls Tryz.prog 14 #[cmdV c, cmdV d] W (BoolPost (clashP c d) W) := by
  obtain ⟨u, hu⟩ : ∃ u, validC c = u := ⟨_, rfl⟩
  obtain ⟨v, hv⟩ : ∃ v, validC d = v := ⟨_, rfl⟩
  have HC := Lib.hid (fun w => show Calls Tryz.prog 38 #[cmdV c] w (BoolPost u w) by rw [← hu]; exact implCmdValid_c c hc w)
  have HD := Lib.hid (fun w => show Calls Tryz.prog 38 #[cmdV d] w (BoolPost v w) by rw [← hv]; exact implCmdValid_c d hd w)
  obtain ⟨x, hx⟩ : ∃ x, (c.tk == d.tk && c.tv == d.tv) = x := ⟨_, rfl⟩
  obtain ⟨y, hy⟩ : ∃ y, (c.p.toList == d.p.toList) = y := ⟨_, rfl⟩
  obtain ⟨r, hr⟩ : ∃ r, overU c d = r := ⟨_, rfl⟩
  obtain ⟨s, hs⟩ : ∃ s, overU d c = s := ⟨_, rfl⟩
  have HU := Lib.hid (fun w => show Calls Tryz.prog 39 #[cmdV c, cmdV d] w (BoolPost r w) by rw [← hr]; exact implBars_c c d hc hd w)
  have HV := Lib.hid (fun w => show Calls Tryz.prog 39 #[cmdV d, cmdV c] w (BoolPost s w) by rw [← hs]; exact implBars_c d c hd hc w)
  have hyd : decide (c.p = d.p) = y := by
    rw [← hy]
    by_cases h : c.p = d.p
    · rw [h]; simp
    · rw [toList_ne h]; exact decide_eq_false h
  have HRF := Lib.hid (show (u && v) = false → clashP c d = false by intro h; unfold clashP; rw [hu, hv, h]; rfl)
  have HR := Lib.hid (show u = true → v = true → clashP c d = ((y && !x) || r || s) by intro h1 h2; rw [← hr, ← hs, ← hyd, ← hx]; exact clash_overU (hu.trans h1) (hv.trans h2))
  have HT := Lib.hid (twoC_new W c d)
  have HB := Lib.hid (below_next (below_box W (.cells #[.string c.p, .int .i64 c.fk, .int .i64 c.fv, .int .i64 c.tk, .int .i64 c.tv] 33)) (below_box _ (.cells #[.string d.p, .int .i64 d.fk, .int .i64 d.fv, .int .i64 d.tk, .int .i64 d.tv] 33)))
  clear hu hv hc hd hr hs hyd
  obtain ⟨p, fk, fv, tk, tv⟩ := c
  obtain ⟨p', fk', fv', tk', tv'⟩ := d
  unfold cmdV at HC HD HU HV ⊢
  simp only at HC HD HU HV HT HB HR HRF hx hy ⊢
  have hne := fun w => (conNeQ tk tv tk' tv' w).trans (show _ = Result.ok (Value.bool (!x)) w by rw [hx])
  clear hx
  obtain ⟨a0, a1, a2, a3, a4, b0, b1, b2, b3, b4⟩ := HT.out
  simp only at a0 a1 a2 a3 a4 b0 b1 b2 b3 b4
  have T0 := HT
  have B0 := HB
  go_enter Tryz.func14, Tryz.ntmps14
  go_wp2_with fail
  refine (HC.out _).mono ?_
  rintro e W1 ⟨rfl, hb1⟩
  have T1 := Lib.hid (T0.out.keep hb1)
  have B1 := Lib.hid (below_next B0.out hb1)
  clear a0 a1 a2 a3 a4 b0 b1 b2 b3 b4 hb1
  obtain ⟨a0, a1, a2, a3, a4, b0, b1, b2, b3, b4⟩ := T1.out
  cases u with
  | false =>
    go_wp2
    go_ret
    exact ⟨ret_bool (HRF.out (by first | rfl | trivial)).symm, B1.out⟩
  | true =>
    go_wp2_with fail
    refine (HD.out _).mono ?_
    rintro e W2 ⟨rfl, hb2⟩
    have T2 := Lib.hid (T1.out.keep hb2)
    have B2 := Lib.hid (below_next B1.out hb2)
    clear a0 a1 a2 a3 a4 b0 b1 b2 b3 b4 hb2
    obtain ⟨a0, a1, a2, a3, a4, b0, b1, b2, b3, b4⟩ := T2.out
    cases v with
    | false =>
      go_wp2
      go_ret
      exact ⟨ret_bool (HRF.out (by first | rfl | trivial)).symm, B2.out⟩
    | true =>
      have HRT := Lib.hid (HR.out (by first | rfl | trivial) (by first | rfl | trivial))
      clear HR HRF
      cases y with
      | true =>
        cases x with
        | false =>
          go_wp2
          go_ret
          exact ⟨ret_bool (by rw [HRT.out]; simp), B2.out⟩
        | true =>
          go_wp2_with fail
          refine (HU.out _).mono ?_
          rintro e W3 ⟨rfl, hb3⟩
          have T3 := Lib.hid (T2.out.keep hb3)
          have B3 := Lib.hid (below_next B2.out hb3)
          clear a0 a1 a2 a3 a4 b0 b1 b2 b3 b4 hb3
          obtain ⟨a0, a1, a2, a3, a4, b0, b1, b2, b3, b4⟩ := T3.out
          cases r with
          | true =>
            go_wp2
            go_ret
            exact ⟨ret_bool (by rw [HRT.out]; simp), B3.out⟩
          | false =>
            go_wp2_with fail
            refine (HV.out _).mono ?_
            rintro e W4 ⟨rfl, hb4⟩
            have B4 := Lib.hid (below_next B3.out hb4)
            clear a0 a1 a2 a3 a4 b0 b1 b2 b3 b4 hb4
            go_wp2
            go_ret
            exact ⟨ret_bool (by rw [HRT.out]; simp), B4.out⟩
      | false =>
        go_wp2_with fail
        refine (HU.out _).mono ?_
        rintro e W3 ⟨rfl, hb3⟩
        have T3 := Lib.hid (T2.out.keep hb3)
        have B3 := Lib.hid (below_next B2.out hb3)
        clear a0 a1 a2 a3 a4 b0 b1 b2 b3 b4 hb3
        obtain ⟨a0, a1, a2, a3, a4, b0, b1, b2, b3, b4⟩ := T3.out
        cases r with
        | true =>
          go_wp2
          go_ret
          exact ⟨ret_bool (by rw [HRT.out]; simp), B3.out⟩
        | false =>
          go_wp2_with fail
          refine (HV.out _).mono ?_
          rintro e W4 ⟨rfl, hb4⟩
          have B4 := Lib.hid (below_next B3.out hb4)
          clear a0 a1 a2 a3 a4 b0 b1 b2 b3 b4 hb4
          go_wp2
          go_ret
          exact ⟨ret_bool (by rw [HRT.out]; simp), B4.out⟩

set_option maxHeartbeats 2000000 in
set_option maxRecDepth 100000 in
theorem implOk_c (a1 : Option Addr) (len1 cap1 : Nat) (cs : List Cmd) (a2 : Option Addr) (len2 cap2 : Nat) (ds : List Cmd) (hl1 : len1 ≤ 2000000) (hl2 : len2 ≤ 2000000) (hs1 : ShortC 2097152 cs) (hs2 : ShortC 2097152 ds) (W : World) (h1 : CmdsAt W a1 len1 cs) (h2 : CmdsAt W a2 len2 ds) :
    Calls Tryz.prog 26 #[.slice a1 len1 cap1, .slice a2 len2 cap2] W (BoolPost (okL cs ds) W) := by
  obtain ⟨u, hu⟩ : ∃ u, canonV cs = u := ⟨_, rfl⟩
  obtain ⟨v, hv⟩ : ∃ v, canonV ds = v := ⟨_, rfl⟩
  have HU := Lib.hid (show Calls Tryz.prog 15 #[.slice a1 len1 cap1] W (BoolPost u W) by rw [← hu]; exact implCanonValid_c a1 len1 cap1 cs (by omega) hs1 W h1)
  have HV := Lib.hid (fun W' (hb : Below W.heap.size W W') => show Calls Tryz.prog 15 #[.slice a2 len2 cap2] W' (BoolPost v W') by rw [← hv]; exact implCanonValid_c a2 len2 cap2 ds (by omega) hs2 W' (h2.keep hb))
  have HR := Lib.hid (show okL cs ds = (u && v) by unfold okL; rw [hu, hv])
  clear hu hv h1 h2 hs1 hs2
  go_enter Tryz.func26, Tryz.ntmps26
  go_wp2_with fail
  refine HU.out.mono ?_
  rintro e W1 ⟨rfl, hb1⟩
  have B1 := Lib.hid hb1
  clear hb1
  cases u with
  | false =>
    go_wp2
    go_ret
    exact ⟨ret_bool HR.out.symm, B1.out⟩
  | true =>
    go_wp2_with fail
    refine (HV.out _ B1.out).mono ?_
    rintro e W2 ⟨rfl, hb2⟩
    have B2 := Lib.hid (below_next B1.out hb2)
    clear hb2
    go_wp2
    go_ret
    exact ⟨ret_bool (by rw [HR.out]; rfl), B2.out⟩

end Go.Proofs.YtdkpabnpobpdhaaGreat

/-
  WALKS: laws.sameNodes, laws.sameTexts at equal lists.
-/
namespace Go.Proofs.YtdkpabnpobpdhaaGreat
open Go.RowKit
set_option linter.unusedVariables false

/-- A list of texts in memory. -/
def TextsAt (W : World) (a : Option Addr) (len : Nat) (xs : List ByteArray) : Prop :=
  xs.length = len ∧ (len = 0 ∨ ∃ b off, a = some ⟨b, off, none⟩ ∧ ∀ i x, xs[i]? = some x → W.cell? ⟨b, off + i, none⟩ = some (.string x))

theorem TextsAt.keep {W W' : World} {a : Option Addr} {len : Nat} {xs : List ByteArray} (h : TextsAt W a len xs) (hb : Below W.heap.size W W') : TextsAt W' a len xs := by
  obtain ⟨h1, h0 | ⟨b, off, ha, hc⟩⟩ := h
  · exact ⟨h1, .inl h0⟩
  · exact ⟨h1, .inr ⟨b, off, ha, fun i x hx => cell_kept hb (hc i x hx)⟩⟩

theorem texts_of_own {W : World} {base : Nat} {e : TypeId} {v : Value} {xs : List ByteArray} (h : W.ownsRow base e 1 v xs.length (xs.map Value.string)) :
    ∃ a cap, v = .slice a xs.length cap ∧ TextsAt W a xs.length xs := by
  rcases h.2 with ⟨rfl, h0⟩ | ⟨g, cap, cur, rfl, h1, h2, h3, h4, h5, h6⟩
  · exact ⟨none, 0, by rw [h0], rfl, .inl h0⟩
  · refine ⟨some ⟨g, 0, none⟩, cap, rfl, rfl, .inr ⟨g, 0, rfl, fun i x hx => ?_⟩⟩
    have hi := (List.getElem?_eq_some_iff.1 hx).1
    rw [Nat.zero_add, h.cellAt i (by omega), List.getElem?_map, hx]
    rfl

theorem below_drewN {n : Nat} {W W' : World} (h : Below n W W') (k : Nat) : Below n W (W'.drewN k) := by
  have e := (drewN_cell W' k ⟨0, 0, none⟩).2.2
  exact ⟨h.os, h.tape, h.output, by rw [e]; exact h.size, fun j hj => by rw [e]; exact h.block j hj⟩

theorem TextsAt.node {W : World} {a : Option Addr} {len : Nat} {xs : List ByteArray} (h : TextsAt W a len xs) {i : Nat} (hi : i < len) :
    ∃ b off x, a = some ⟨b, off, none⟩ ∧ xs[i]? = some x ∧ W.cell? ⟨b, off + i, none⟩ = some (.string x) := by
  obtain ⟨h1, h0 | ⟨b, off, ha, hc⟩⟩ := h
  · omega
  · obtain ⟨x, hx⟩ : ∃ x, xs[i]? = some x := ⟨_, List.getElem?_eq_getElem (by omega)⟩
    exact ⟨b, off, x, ha, hx, hc i x hx⟩

end Go.Proofs.YtdkpabnpobpdhaaGreat

/-
  WALKS: laws.toNode, laws.toNodeS, laws.szNodeS: lists of nodes that come from outside.
-/
namespace Go.Proofs.YtdkpabnpobpdhaaGreat
open Go.RowKit
set_option linter.unusedVariables false

/-- A node as a value. -/
abbrev nodeV (n : Nd) : Value := .agg #[.string n.p, .int .i64 n.k, .int .i64 n.v]

def NodeRet (n : Nd) (w : World) (e : Ending) (w' : World) : Prop := e = .returned (nodeV n) ∧ Below w.heap.size w w'

theorem node_results (s : Nat) (fn : Func) (hf : fn.results = #[.cell s 127]) (W : World) (g : Nat) (n : Nd) (tmps : Array Value) (ht : tmps[s]? = some (.pointer (some ⟨g, 0, none⟩)))
    (h : W.cell? ⟨g, 0, none⟩ = some (.string n.p) ∧ W.cell? ⟨g, 1, none⟩ = some (.int .i64 n.k) ∧ W.cell? ⟨g, 2, none⟩ = some (.int .i64 n.v)) : (results fn tmps).run Tryz.prog W = .ok (nodeV n) W := by
  obtain ⟨c0, c1, c2⟩ := h
  simp [results, hf, go_sem, ht, c0, c1, c2]

/-- A block of cells of the call's own. -/
def Blk (W : World) (g : Nat) (cs : Array Value) (t : TypeId) : Prop := W.heap[g]? = some (.cells cs t (0, 0))

theorem blk_new (W : World) (cs : Array Value) (t : TypeId) : Blk (W.alloc (.cells cs t)) W.heap.size cs t := World.alloc_heap_new _ _
theorem Blk.lt {W : World} {g : Nat} {cs : Array Value} {t : TypeId} (h : Blk W g cs t) : g < W.heap.size := by
  unfold Blk at h
  exact (Array.getElem?_eq_some_iff.1 h).1
theorem Blk.below {W W' : World} {g : Nat} {cs : Array Value} {t : TypeId} (h : Blk W g cs t) (hb : Below W.heap.size W W') : Blk W' g cs t := (hb.block g h.lt).trans h
theorem Blk.cell {W : World} {g : Nat} {cs : Array Value} {t : TypeId} (h : Blk W g cs t) (i : Nat) : W.cell? ⟨g, i, none⟩ = cs[i]? := cell_of_row W g i cs t (0, 0) h
theorem Blk.frozen {W : World} {g : Nat} {cs : Array Value} {t : TypeId} (h : Blk W g cs t) (i : Nat) : W.frozen? ⟨g, i, none⟩ = false := frozen_of_row W g i cs t h
theorem Blk.set {W : World} {g : Nat} {cs : Array Value} {t : TypeId} (h : Blk W g cs t) (i : Nat) (u : Value) : Blk (W.setCell ⟨g, i, none⟩ u) g (cs.setIfInBounds i u) t := heap_setCell_same W g i cs t u h
theorem Blk.setOther {W : World} {g : Nat} {cs : Array Value} {t : TypeId} (h : Blk W g cs t) (a : Addr) (u : Value) (ha : g ≠ a.block) : Blk (W.setCell a u) g cs t := (heap_setCell_other W a g u ha).trans h

theorem flatN_take_set : ∀ (ns : List Nd) (i : Nat) (n : Nd) (zs : List Value), ns[i]? = some n → 3 ≤ zs.length →
    (((flatN (ns.take i) ++ zs).set (i * 3) (.string n.p)).set (i * 3 + 1) (.int .i64 n.k)).set (i * 3 + 2) (.int .i64 n.v) = flatN (ns.take (i + 1)) ++ zs.drop 3 := by
  intro ns i n zs hn hz
  have hi := (List.getElem?_eq_some_iff.1 hn).1
  have hl : (flatN (ns.take i)).length = i * 3 := by rw [flatN_length, List.length_take]; omega
  rw [List.take_add_one, hn, flatN_append]
  match zs, hz with
  | a :: b :: c :: r, _ =>
    show _ = (flatN (ns.take i) ++ [.string n.p, .int .i64 n.k, .int .i64 n.v]) ++ r
    rw [List.set_append_right _ _ (by omega), hl, show i * 3 - i * 3 = 0 by omega]
    rw [List.set_append_right _ _ (by omega), hl, show i * 3 + 1 - i * 3 = 1 by omega]
    rw [List.set_append_right _ _ (by omega), hl, show i * 3 + 2 - i * 3 = 2 by omega]
    simp

theorem below_of_none {W w : World} (h : W.grownBy w none) : Below W.heap.size W w := ⟨h.os, h.tape, h.output, h.size, fun k hk => h.block k hk (by simp)⟩

theorem stored3 {W : World} {base : Nat} {e : TypeId} {g cap n : Nat} {xs : List Value} (h : W.ownsRow base e 3 (.slice (some ⟨g, 0, none⟩) n cap) n xs) (j : Nat) (u v x : Value) :
    (((W.setCell ⟨g, j, none⟩ u).setCell ⟨g, j + 1, none⟩ v).setCell ⟨g, j + 2, none⟩ x).ownsRow base e 3 (.slice (some ⟨g, 0, none⟩) n cap) n (((xs.set j u).set (j + 1) v).set (j + 2) x) :=
  ((((h.stored j u).1.stored (j + 1) v).1).stored (j + 2) x).1

def ToRel (ns : List Nd) (len : Nat) (W : World) (i : Value) (wr : World) : Prop :=
  ∃ (n : Nat) (zs : List Value), i = .int .i64 n ∧ n ≤ len ∧ zs.length = (len - n) * 3 ∧ wr.ownsRow W.heap.size 127 3 (.slice (some ⟨W.heap.size, 0, none⟩) len len) len (flatN (ns.take n) ++ zs) ∧ Hid (Below W.heap.size W wr)

end Go.Proofs.YtdkpabnpobpdhaaGreat

/-
  WALKS: lists of commands in the laws: laws.toCommandS, szCommandS, eqCommandS, sameLog.
-/
namespace Go.Proofs.YtdkpabnpobpdhaaGreat
open Go.RowKit
set_option linter.unusedVariables false

theorem flatC_take_set : ∀ (cs : List Cmd) (i : Nat) (c : Cmd) (zs : List Value), cs[i]? = some c → 5 ≤ zs.length →
    (((((flatC (cs.take i) ++ zs).set (i * 5) (.string c.p)).set (i * 5 + 1) (.int .i64 c.fk)).set (i * 5 + 2) (.int .i64 c.fv)).set (i * 5 + 3) (.int .i64 c.tk)).set (i * 5 + 4) (.int .i64 c.tv) = flatC (cs.take (i + 1)) ++ zs.drop 5 := by
  intro cs i c zs hn hz
  have hi := (List.getElem?_eq_some_iff.1 hn).1
  have hl : (flatC (cs.take i)).length = i * 5 := by rw [flatC_length, List.length_take]; omega
  rw [List.take_add_one, hn, flatC_append]
  match zs, hz with
  | a :: b :: c' :: d :: e :: r, _ =>
    show _ = (flatC (cs.take i) ++ [.string c.p, .int .i64 c.fk, .int .i64 c.fv, .int .i64 c.tk, .int .i64 c.tv]) ++ r
    rw [List.set_append_right _ _ (by omega), hl, show i * 5 - i * 5 = 0 by omega]
    rw [List.set_append_right _ _ (by omega), hl, show i * 5 + 1 - i * 5 = 1 by omega]
    rw [List.set_append_right _ _ (by omega), hl, show i * 5 + 2 - i * 5 = 2 by omega]
    rw [List.set_append_right _ _ (by omega), hl, show i * 5 + 3 - i * 5 = 3 by omega]
    rw [List.set_append_right _ _ (by omega), hl, show i * 5 + 4 - i * 5 = 4 by omega]
    simp

theorem stored5 {W : World} {base : Nat} {e : TypeId} {g cap n : Nat} {xs : List Value} (h : W.ownsRow base e 5 (.slice (some ⟨g, 0, none⟩) n cap) n xs) (j : Nat) (u v x y z : Value) :
    (((((W.setCell ⟨g, j, none⟩ u).setCell ⟨g, j + 1, none⟩ v).setCell ⟨g, j + 2, none⟩ x).setCell ⟨g, j + 3, none⟩ y).setCell ⟨g, j + 4, none⟩ z).ownsRow base e 5 (.slice (some ⟨g, 0, none⟩) n cap) n (((((xs.set j u).set (j + 1) v).set (j + 2) x).set (j + 3) y).set (j + 4) z) :=
  ((((((h.stored j u).1.stored (j + 1) v).1).stored (j + 2) x).1.stored (j + 3) y).1.stored (j + 4) z).1

def ToRelC (cs : List Cmd) (len : Nat) (W : World) (i : Value) (wr : World) : Prop :=
  ∃ (n : Nat) (zs : List Value), i = .int .i64 n ∧ n ≤ len ∧ zs.length = (len - n) * 5 ∧ wr.ownsRow W.heap.size 33 5 (.slice (some ⟨W.heap.size, 0, none⟩) len len) len (flatC (cs.take n) ++ zs) ∧ Hid (Below W.heap.size W wr)

/-- What is left; if anything is, the list and its texts are of modest length. -/
def SzCmds (len : Nat) (cs : List Cmd) (w : World) (e : Ending) (w' : World) : Prop := ∃ z : Int, e = .returned (.int .i64 z) ∧ z ≤ 1048576 ∧ (0 ≤ z → len ≤ 1048576 ∧ ShortC 1048576 cs) ∧ Below w.heap.size w w'

def SzRelC (len : Nat) (cs : List Cmd) (w : World) (l i : Value) (wr : World) : Prop :=
  ∃ (n : Nat) (z : Int), i = .int .i64 n ∧ n ≤ len ∧ l = .int .i64 z ∧ Hid (0 ≤ z ∧ z ≤ 1048576) ∧ Hid (∀ j m, j < n → cs[j]? = some m → m.p.size ≤ 1048576) ∧ Hid (Below w.heap.size w wr)

/-- Two lists of commands that read alike. -/
def EqRelC (len : Nat) (W : World) (i : Value) (wr : World) : Prop := ∃ n : Nat, i = .int .i64 n ∧ n ≤ len ∧ Hid (Below W.heap.size W wr)

set_option maxHeartbeats 2000000 in
set_option maxRecDepth 100000 in
theorem sameLog_c (a1 a2 : Option Addr) (len c1 c2 : Nat) (cs : List Cmd) (hl : len ≤ 2097152) (W : World) (h1 : CmdsAt W a1 len cs) (h2 : CmdsAt W a2 len cs) :
    Calls Tryz.prog 11 #[.slice a1 len c1, .slice a2 len c2] W (BoolPost true W) := by
  have H1 := Lib.hid h1
  have H2 := Lib.hid h2
  clear h1 h2
  go_enter Tryz.func11, Tryz.ntmps11
  go_wp2
  go_loopw [5] (fun i wr => ∃ n : Nat, i = .int .i64 n ∧ n ≤ len ∧ Hid (Below W.heap.size W wr)) (fun i _ => len - (intOf i).toNat)
  case atStart => exact ⟨0, rfl, by omega, Below.refl _ _⟩
  case round =>
    obtain ⟨i, rfl, hi, HB⟩ := hrel
    by_cases hlt : i < len
    · obtain ⟨b, off, n, rfl, hn, c0, c1, c2, c3, c4⟩ := (H1.out.keep HB.out).node hlt
      obtain ⟨b', off', n', rfl, hn', d0, d1, d2, d3, d4⟩ := (H2.out.keep HB.out).node hlt
      obtain rfl : n = n' := Option.some.inj (hn.symm.trans hn')
      have hlt' : (i : Int) < len := by omega
      have hi0 : (0 : Int) ≤ i := by omega
      have HLT := Lib.hid hlt
      obtain ⟨p, fk, fv, tk, tv⟩ := n
      simp only at c0 c1 c2 c3 c4 d0 d1 d2 d3 d4
      have hne := fun w => cmdNeS p fk fv tk tv w
      clear hi hlt hn hn'
      go_wp2
      go_quiet (fail)
      have HB2 := Lib.hid (below_drewN HB.out nq)
      clear c0 c1 c2 c3 c4 d0 d1 d2 d3 d4
      go_wp2
      go_roundw
      case rel => exact ⟨i + 1, by go_num, by have := HLT.out; omega, HB2⟩
      case measure => have := HLT.out; simp [intOf]; omega
    · have hge : (len : Int) ≤ i := by omega
      clear hi hlt
      go_wp2
      go_ret
      exact ⟨rfl, HB.out⟩

end Go.Proofs.YtdkpabnpobpdhaaGreat
