/-
  Texts of this proof, one behind the other: Hd, He, Hf.
-/
import Derived.Test.YtpjoahddbdmbpaaGreatDoorQ7
/-
  WALKS: container/heap over the program's heap of commands: up, down, Push, Pop; takeAll.
-/
namespace Go.Proofs.YtpjoahddbdmbpaaGreatDoor
open Go.RowKit
set_option linter.unusedVariables false

theorem wrapNil_some (a : Array TypeId) (t : TypeId) (x : Addr) (s m : String) : Builtin.ssaWrapNilChk_ a t #[.pointer (some x), strVal s, strVal m] = pure (.pointer (some x)) := rfl

/-- A method of a type, by its name, that takes the value behind the pointer. -/
theorem method_behind {P : Program} {T t : TypeId} {k : Nat} (hk : k ≠ 0) {name : String} {f : FuncId} (B : Nat) (v : Value) (W : World) (hi : (P.info? T).map (fun i => (i.methods.find? (·.name == name)).map (fun m => (m.path, m.func))) = some (some (#[], some (f, false))))
    (hu : P.underlying T = some (.pointer t)) (ha : ∀ w, (isAgg t).run P w = .ok false w) (hc : W.cell? ⟨B, 0, none⟩ = some v) : (method k T (.pointer (some ⟨B, 0, none⟩)) name).run P W = .ok (f, v) W := by
  obtain ⟨n, rfl⟩ := Nat.exists_eq_succ_of_ne_zero hk
  cases hI : P.info? T with
  | none => rw [hI] at hi; cases hi
  | some i =>
    rw [hI] at hi
    cases hm : i.methods.find? (·.name == name) with
    | none => simp only [Option.map_some, hm] at hi; cases hi
    | some m =>
      simp only [Option.map_some, hm, Option.some.injEq, Prod.mk.injEq] at hi
      obtain ⟨hp, hf⟩ := hi
      unfold method
      simp [typeInfo, hI, hm, hp, hf, follow, receiverAt, run_underlying hu, Place.get, wrapNil_some, loadVar, ha, hc, go_sem, asAddr, Result.andThen]

theorem method_Push (B : Nat) (W : World) : (method 301 47 (.pointer (some ⟨B, 0, none⟩)) "Push").run Tryz.prog W = .ok (129, .pointer (some ⟨B, 0, none⟩)) W := by kernel_rfl
theorem method_Pop (B : Nat) (W : World) : (method 301 47 (.pointer (some ⟨B, 0, none⟩)) "Pop").run Tryz.prog W = .ok (128, .pointer (some ⟨B, 0, none⟩)) W := by kernel_rfl

theorem heap_plain (w : World) : (isAgg 45).run Tryz.prog w = .ok false w := by kernel_rfl

theorem method_Len (B : Nat) (W : World) (v : Value) (h : W.cell? ⟨B, 0, none⟩ = some v) : (method 301 47 (.pointer (some ⟨B, 0, none⟩)) "Len").run Tryz.prog W = .ok (45, v) W :=
  method_behind (by decide) B v W (by kernel_rfl) Tryz.underlying47 heap_plain h
theorem method_Less (B : Nat) (W : World) (v : Value) (h : W.cell? ⟨B, 0, none⟩ = some v) : (method 301 47 (.pointer (some ⟨B, 0, none⟩)) "Less").run Tryz.prog W = .ok (125, v) W :=
  method_behind (by decide) B v W (by kernel_rfl) Tryz.underlying47 heap_plain h
theorem method_Swap (B : Nat) (W : World) (v : Value) (h : W.cell? ⟨B, 0, none⟩ = some v) : (method 301 47 (.pointer (some ⟨B, 0, none⟩)) "Swap").run Tryz.prog W = .ok (126, v) W :=
  method_behind (by decide) B v W (by kernel_rfl) Tryz.underlying47 heap_plain h

theorem no_results {P : Program} (fn : Func) (hf : fn.results = #[]) (tmps : Array Value) (w : World) : (results fn tmps).run P w = .ok (.tuple #[]) w := by simp [results, hf, go_sem]

/-- What going up or down leaves: the same commands, a heap; nothing but the row's block is turned. -/
def HeapPost (B base g n m cap : Nat) (zs : List Cmd) (fix : List Cmd → Prop) (W : World) (w' : World) : Prop :=
  ∃ ys, ys.Perm zs ∧ HeapK ys m ∧ fix ys ∧ HpAt w' B base (.slice (some ⟨g, 0, none⟩) n cap) ys ∧ W.grownBy w' (some g)

def UpRel (B base g n cap : Nat) (zs : List Cmd) (W : World) (vj : Value) (wr : World) : Prop :=
  ∃ (j : Nat) (ys : List Cmd), vj = .int .i64 j ∧ j < n ∧ Hid (ys.Perm zs) ∧ Hid (UpK ys n j) ∧ Hid (HpAt wr B base (.slice (some ⟨g, 0, none⟩) n cap) ys) ∧ Hid (W.grownBy wr (some g))

theorem HpAt.swapped {W w' : World} {B base g n cap : Nat} {zs : List Cmd} {i j : Nat} {e : Ending} (h : HpAt W B base (.slice (some ⟨g, 0, none⟩) n cap) zs) (hn : n = zs.length) (hs : SwapPost base g n cap zs i j W e w') :
    HpAt w' B base (.slice (some ⟨g, 0, none⟩) n cap) (swapK zs i j) :=
  ⟨h.box.kept hs.2.2 (by have := h.far; simpa [Value.ownBlock] using this), by rw [swapK_length, ← hn]; exact hs.2.1, h.lt⟩

set_option maxHeartbeats 1000000 in
set_option maxRecDepth 100000 in
theorem heapUp_c (B base g n cap : Nat) (zs : List Cmd) (j : Nat) (hn : n = zs.length) (hj : j < n) (hl : n ≤ 2000000) (W : World) (h : HpAt W B base (.slice (some ⟨g, 0, none⟩) n cap) zs) (hu : UpK zs n j) :
    Calls Tryz.prog 44 #[.iface 47 (.pointer (some ⟨B, 0, none⟩)), .int .i64 j] W (fun e w' => e = .returned (.tuple #[]) ∧ HeapPost B base g n n cap zs (fun _ => True) W w') := by
  have HH := Lib.hid h
  have HU := Lib.hid hu
  have HN := Lib.hid hn
  clear h hu hn
  go_enter Tryz.func44, Tryz.ntmps44
  go_wp2
  go_loopw [1] (fun vj wr => UpRel B base g n cap zs W vj wr) (fun vj _ => (intOf vj).toNat)
  case atStart => exact ⟨j, zs, rfl, hj, List.Perm.refl _, HU, HH, ⟨rfl, rfl, rfl, Nat.le_refl _, fun _ _ _ => rfl⟩⟩
  case round =>
    clear hj
    obtain ⟨j, ys, rfl, hj, HP, HU, HA, HG⟩ := hrel
    have HNY := Lib.hid (show n = ys.length by rw [HN.out]; exact HP.out.length_eq.symm)
    cases j with
    | zero =>
      clear hj
      go_wp2
      exact bodyPost_end (v := .tuple #[]) (no_results _ rfl _ _) rfl ⟨rfl, ys, HP.out, up_end0 HU.out, trivial, HA.out, HG.out⟩
    | succ m =>
      obtain ⟨i, hi⟩ : ∃ i, m / 2 = i := ⟨_, rfl⟩
      have HI := Lib.hid (show (m + 1 - 1) / 2 = i from hi)
      have HIM := Lib.hid (show i < m + 1 ∧ i < n ∧ m + 1 < n from ⟨by omega, by omega, hj⟩)
      have hq : (m : Int).tdiv 2 = (i : Int) := by rw [Int.tdiv_eq_ediv_of_nonneg (by omega)]; omega
      have hne : ((i : Int) == (m : Int) + 1) = false := beq_eq_false_iff_ne.2 (by omega)
      have hm0 : (0 : Int) ≤ m := by omega
      have hml : (m : Int) < 2000000 := by omega
      have him : (i : Int) < 2000000 := by omega
      obtain ⟨bv, hbv⟩ : ∃ bv, befC (atK ys (m + 1)) (atK ys i) = bv := ⟨_, rfl⟩
      have HL := Lib.hid (show Calls Tryz.prog 125 #[.slice (some ⟨g, 0, none⟩) n cap, .int .i64 ((m : Int) + 1), .int .i64 i] wr (BoolPost bv wr) by
        have := heapLess_c (some ⟨g, 0, none⟩) n cap ys (m + 1) i hj (by omega) (by omega) wr (by have := HA.out.row; rw [← HNY.out] at this; have := cmds_own (by rw [← HNY.out]; exact this); rw [← HNY.out] at this; exact this)
        rw [hbv] at this
        exact this)
      have HBV := Lib.hid hbv
      have mL := method_Less B wr _ HA.out.box.cell
      clear hi hbv hj
      go_wp2_with fail
      refine HL.out.mono ?_
      rintro e W2 ⟨rfl, hb2⟩
      have HA2 := Lib.hid (HA.out.keep hb2)
      have HG2 := Lib.hid (grown_then HG.out (below_grown hb2) (by simp))
      clear mL hb2
      cases bv with
      | false =>
        go_wp2
        exact bodyPost_end (v := .tuple #[]) (no_results _ rfl _ _) rfl ⟨rfl, ys, HP.out, up_end HU.out (by rw [HI.out]; exact HBV.out), trivial, HA2.out, HG2.out⟩
      | true =>
        have mS := method_Swap B W2 _ HA2.out.box.cell
        have HSW := Lib.hid (show Calls Tryz.prog 126 #[.slice (some ⟨g, 0, none⟩) n cap, .int .i64 i, .int .i64 ((m : Int) + 1)] W2 (SwapPost base g n cap ys i (m + 1) W2) from
          heapSwap_c base g n cap ys i (m + 1) HNY.out HIM.out.2.1 HIM.out.2.2 (by omega) W2 (by have := HA2.out.row; rw [← HNY.out] at this; exact this))
        go_wp2_with fail
        refine HSW.out.mono ?_
        rintro e W3 hs3
        obtain rfl := hs3.1
        have HA3 := Lib.hid (HA2.out.swapped HNY.out hs3)
        have HG3 := Lib.hid (grown_then HG2.out hs3.2.2 (fun k e => .inr e))
        have HP3 := Lib.hid ((swapK_perm (by have := HIM.out.2.1; have := HNY.out; omega) (by have := HIM.out.2.2; have := HNY.out; omega)).trans HP.out : (swapK ys i (m + 1)).Perm zs)
        have HU3 : Hid (UpK (swapK ys i (m + 1)) n i) := by
          have h1 := HU.out
          rw [HNY.out] at h1
          have h2 := up_go (by omega) (by rw [← HNY.out]; exact HIM.out.2.2) h1 (by rw [HI.out]; exact HBV.out)
          rw [HI.out, ← HNY.out] at h2
          exact h2
        clear mS hs3
        go_wp2
        go_roundw
        case rel => exact ⟨i, swapK ys i (m + 1), rfl, HIM.out.2.1, HP3, HU3, HA3, HG3⟩
        case measure => have := HIM.out.1; simp [intOf]; omega

theorem HpAt.at {W : World} {B base g n cap : Nat} {zs : List Cmd} (h : HpAt W B base (.slice (some ⟨g, 0, none⟩) n cap) zs) (hn : n = zs.length) : CmdsAt W (some ⟨g, 0, none⟩) n zs := by
  have h1 := h.row
  rw [hn] at h1 ⊢
  exact cmds_own h1

def DownRel (B base g m n cap : Nat) (zs : List Cmd) (W : World) (vi : Value) (wr : World) : Prop :=
  ∃ (i : Nat) (ys : List Cmd), vi = .int .i64 i ∧ i ≤ n ∧ Hid (ys.Perm zs) ∧ Hid (DownK ys n i) ∧ Hid (∀ k, n ≤ k → atK ys k = atK zs k) ∧ Hid (HpAt wr B base (.slice (some ⟨g, 0, none⟩) m cap) ys) ∧ Hid (W.grownBy wr (some g))

set_option maxHeartbeats 1000000 in
set_option maxRecDepth 100000 in
theorem heapDown_c (B base g m n cap : Nat) (zs : List Cmd) (hm : m = zs.length) (hn : n ≤ m) (hl : m ≤ 2000000) (W : World) (h : HpAt W B base (.slice (some ⟨g, 0, none⟩) m cap) zs) (hd : DownK zs n 0) :
    Calls Tryz.prog 71 #[.iface 47 (.pointer (some ⟨B, 0, none⟩)), .int .i64 0, .int .i64 n] W (fun e w' => (∃ b, e = .returned (.bool b)) ∧ HeapPost B base g m n cap zs (fun ys => ∀ k, n ≤ k → atK ys k = atK zs k) W w') := by
  have HH := Lib.hid h
  have HD := Lib.hid hd
  have HN := Lib.hid hm
  clear h hd hm
  go_enter Tryz.func71, Tryz.ntmps71
  go_wp2
  go_loopw [7] (fun vi wr => DownRel B base g m n cap zs W vi wr) (fun vi _ => n - (intOf vi).toNat)
  case atStart => exact ⟨0, zs, rfl, Nat.zero_le _, List.Perm.refl _, HD, fun _ _ => rfl, HH, ⟨rfl, rfl, rfl, Nat.le_refl _, fun _ _ _ => rfl⟩⟩
  case round =>
    obtain ⟨i, ys, rfl, hin, HP, HD, HF, HA, HG⟩ := hrel
    have HNY := Lib.hid (show m = ys.length by rw [HN.out]; exact HP.out.length_eq.symm)
    have hi0 : (0 : Int) ≤ i := by omega
    have hil : (i : Int) ≤ 2000000 := by omega
    by_cases h0 : n ≤ 2 * i + 1
    · have h0z : (n : Int) ≤ 2 * (i : Int) + 1 := by omega
      go_wp2
      go_ret
      exact ⟨⟨_, rfl⟩, ys, HP.out, down_end HD.out (fun k k0 kn kp => absurd kn (by omega)), HF.out, HA.out, HG.out⟩
    · have h0z : ¬ ((n : Int) ≤ 2 * (i : Int) + 1) := by omega
      have h00 : ¬ (2 * (i : Int) + 1 < 0) := by omega
      by_cases h1 : 2 * i + 2 < n
      · have h1z : 2 * (i : Int) + 1 + 1 < (n : Int) := by omega
        obtain ⟨b1, hb1v⟩ : ∃ b, befC (atK ys (2 * i + 2)) (atK ys (2 * i + 1)) = b := ⟨_, rfl⟩
        have HB1 := Lib.hid hb1v
        have HL1 := Lib.hid (show Calls Tryz.prog 125 #[.slice (some ⟨g, 0, none⟩) m cap, .int .i64 (2 * (i : Int) + 1 + 1), .int .i64 (2 * (i : Int) + 1)] wr (BoolPost b1 wr) by
          have := heapLess_c (some ⟨g, 0, none⟩) m cap ys (2 * i + 2) (2 * i + 1) (by omega) (by omega) (by omega) wr (HA.out.at HNY.out)
          rw [hb1v, show ((2 * i + 2 : Nat) : Int) = 2 * (i : Int) + 1 + 1 by omega, show ((2 * i + 1 : Nat) : Int) = 2 * (i : Int) + 1 by omega] at this
          exact this)
        clear hb1v
        have mL1 := method_Less B wr _ HA.out.box.cell
        go_wp2_with fail
        refine HL1.out.mono ?_
        rintro e W3 ⟨rfl, hb3⟩
        have HA3 := Lib.hid (HA.out.keep hb3)
        have HG3 := Lib.hid (grown_then HG.out (below_grown hb3) (by simp))
        clear mL1 hb3
        cases b1 with
        | true =>
          obtain ⟨b2, hb2v⟩ : ∃ b, befC (atK ys (2 * i + 2)) (atK ys i) = b := ⟨_, rfl⟩
          have HB2 := Lib.hid hb2v
          have HMIN : Hid (∀ k, 0 < k → k < n → (k - 1) / 2 = i → befC (atK ys k) (atK ys (2 * i + 2)) = false) := by
            intro k k0 kn kp
            rcases (show k = 2 * i + 1 ∨ k = 2 * i + 2 by omega) with rfl | rfl
            · exact nbef_of_bef HB1.out
            · exact bef_irrefl _
          have HL2 := Lib.hid (show Calls Tryz.prog 125 #[.slice (some ⟨g, 0, none⟩) m cap, .int .i64 (2 * (i : Int) + 1 + 1), .int .i64 i] W3 (BoolPost b2 W3) by
            have := heapLess_c (some ⟨g, 0, none⟩) m cap ys (2 * i + 2) i (by omega) (by omega) (by omega) W3 (HA3.out.at HNY.out)
            rw [hb2v, show (((2 * i + 2 : Nat)) : Int) = 2 * (i : Int) + 1 + 1 by omega] at this
            exact this)
          clear hb2v
          have mL2 := method_Less B W3 _ HA3.out.box.cell
          go_wp2_with fail
          refine HL2.out.mono ?_
          rintro e W4 ⟨rfl, hb4⟩
          have HA4 := Lib.hid (HA3.out.keep hb4)
          have HG4 := Lib.hid (grown_then HG3.out (below_grown hb4) (by simp))
          clear mL2 hb4
          cases b2 with
          | false =>
            go_wp2
            go_ret
            exact ⟨⟨_, rfl⟩, ys, HP.out, down_end HD.out (fun k k0 kn kp => by
              have h1 := HMIN.out k k0 kn kp
              exact nbef_trans HB2.out h1), HF.out, HA4.out, HG4.out⟩
          | true =>
            have mS := method_Swap B W4 _ HA4.out.box.cell
            have HSW := Lib.hid (show Calls Tryz.prog 126 #[.slice (some ⟨g, 0, none⟩) m cap, .int .i64 i, .int .i64 (2 * (i : Int) + 1 + 1)] W4 (SwapPost base g m cap ys i (2 * i + 2) W4) by
              have := heapSwap_c base g m cap ys i (2 * i + 2) HNY.out (by omega) (by omega) (by omega) W4 (by have := HA4.out.row; rw [← HNY.out] at this; exact this)
              rw [show (((2 * i + 2 : Nat)) : Int) = 2 * (i : Int) + 1 + 1 by omega] at this
              exact this)
            go_wp2_with fail
            refine HSW.out.mono ?_
            rintro e W5 hs5
            obtain rfl := hs5.1
            have HA5 := Lib.hid (HA4.out.swapped HNY.out hs5)
            have HG5 := Lib.hid (grown_then HG4.out hs5.2.2 (fun k e => .inr e))
            have HP5 := Lib.hid ((swapK_perm (by have := HNY.out; omega) (by have := HNY.out; omega)).trans HP.out : (swapK ys i (2 * i + 2)).Perm zs)
            have HD5 : Hid (DownK (swapK ys i (2 * i + 2)) n (2 * i + 2)) := down_go (by have := HNY.out; omega) (by omega) (by omega) (by omega) HD.out HB2.out HMIN.out
            have HF5 : Hid (∀ k, n ≤ k → atK (swapK ys i (2 * i + 2)) k = atK zs k) := fun k hk => by
              rw [atK_swap (by have := HNY.out; omega) (by have := HNY.out; omega), if_neg (by omega), if_neg (by omega)]
              exact HF.out k hk
            have HZ := Lib.hid (show (((2 * i + 2 : Nat)) : Int) = 2 * (i : Int) + 1 + 1 by omega)
            have HJ := Lib.hid (show 2 * i + 2 < n ∧ i < 2 * i + 2 from ⟨by omega, by omega⟩)
            clear mS hs5
            go_wp2
            go_roundw
            case rel => exact ⟨2 * i + 2, swapK ys i (2 * i + 2), by rw [HZ.out], Nat.le_of_lt HJ.out.1, HP5, HD5, HF5, HA5, HG5⟩
            case measure => have h1 := HJ.out; have h2 := HZ.out; simp [intOf]; omega
        | false =>
          obtain ⟨b2, hb2v⟩ : ∃ b, befC (atK ys (2 * i + 1)) (atK ys i) = b := ⟨_, rfl⟩
          have HB2 := Lib.hid hb2v
          have HMIN : Hid (∀ k, 0 < k → k < n → (k - 1) / 2 = i → befC (atK ys k) (atK ys (2 * i + 1)) = false) := by
            intro k k0 kn kp
            rcases (show k = 2 * i + 1 ∨ k = 2 * i + 2 by omega) with rfl | rfl
            · exact bef_irrefl _
            · exact HB1.out
          have HL2 := Lib.hid (show Calls Tryz.prog 125 #[.slice (some ⟨g, 0, none⟩) m cap, .int .i64 (2 * (i : Int) + 1), .int .i64 i] W3 (BoolPost b2 W3) by
            have := heapLess_c (some ⟨g, 0, none⟩) m cap ys (2 * i + 1) i (by omega) (by omega) (by omega) W3 (HA3.out.at HNY.out)
            rw [hb2v, show (((2 * i + 1 : Nat)) : Int) = 2 * (i : Int) + 1 by omega] at this
            exact this)
          clear hb2v
          have mL2 := method_Less B W3 _ HA3.out.box.cell
          go_wp2_with fail
          refine HL2.out.mono ?_
          rintro e W4 ⟨rfl, hb4⟩
          have HA4 := Lib.hid (HA3.out.keep hb4)
          have HG4 := Lib.hid (grown_then HG3.out (below_grown hb4) (by simp))
          clear mL2 hb4
          cases b2 with
          | false =>
            go_wp2
            go_ret
            exact ⟨⟨_, rfl⟩, ys, HP.out, down_end HD.out (fun k k0 kn kp => by
              have h1 := HMIN.out k k0 kn kp
              exact nbef_trans HB2.out h1), HF.out, HA4.out, HG4.out⟩
          | true =>
            have mS := method_Swap B W4 _ HA4.out.box.cell
            have HSW := Lib.hid (show Calls Tryz.prog 126 #[.slice (some ⟨g, 0, none⟩) m cap, .int .i64 i, .int .i64 (2 * (i : Int) + 1)] W4 (SwapPost base g m cap ys i (2 * i + 1) W4) by
              have := heapSwap_c base g m cap ys i (2 * i + 1) HNY.out (by omega) (by omega) (by omega) W4 (by have := HA4.out.row; rw [← HNY.out] at this; exact this)
              rw [show (((2 * i + 1 : Nat)) : Int) = 2 * (i : Int) + 1 by omega] at this
              exact this)
            go_wp2_with fail
            refine HSW.out.mono ?_
            rintro e W5 hs5
            obtain rfl := hs5.1
            have HA5 := Lib.hid (HA4.out.swapped HNY.out hs5)
            have HG5 := Lib.hid (grown_then HG4.out hs5.2.2 (fun k e => .inr e))
            have HP5 := Lib.hid ((swapK_perm (by have := HNY.out; omega) (by have := HNY.out; omega)).trans HP.out : (swapK ys i (2 * i + 1)).Perm zs)
            have HD5 : Hid (DownK (swapK ys i (2 * i + 1)) n (2 * i + 1)) := down_go (by have := HNY.out; omega) (by omega) (by omega) (by omega) HD.out HB2.out HMIN.out
            have HF5 : Hid (∀ k, n ≤ k → atK (swapK ys i (2 * i + 1)) k = atK zs k) := fun k hk => by
              rw [atK_swap (by have := HNY.out; omega) (by have := HNY.out; omega), if_neg (by omega), if_neg (by omega)]
              exact HF.out k hk
            have HZ := Lib.hid (show (((2 * i + 1 : Nat)) : Int) = 2 * (i : Int) + 1 by omega)
            have HJ := Lib.hid (show 2 * i + 1 < n ∧ i < 2 * i + 1 from ⟨by omega, by omega⟩)
            clear mS hs5
            go_wp2
            go_roundw
            case rel => exact ⟨2 * i + 1, swapK ys i (2 * i + 1), by rw [HZ.out], Nat.le_of_lt HJ.out.1, HP5, HD5, HF5, HA5, HG5⟩
            case measure => have h1 := HJ.out; have h2 := HZ.out; simp [intOf]; omega
      · have h1z : ¬ (2 * (i : Int) + 1 + 1 < (n : Int)) := by omega
        obtain ⟨b2, hb2v⟩ : ∃ b, befC (atK ys (2 * i + 1)) (atK ys i) = b := ⟨_, rfl⟩
        have HB2 := Lib.hid hb2v
        have HMIN : Hid (∀ k, 0 < k → k < n → (k - 1) / 2 = i → befC (atK ys k) (atK ys (2 * i + 1)) = false) := by
          intro k k0 kn kp
          rcases (show k = 2 * i + 1 by omega) with rfl
          exact bef_irrefl _
        have HL2 := Lib.hid (show Calls Tryz.prog 125 #[.slice (some ⟨g, 0, none⟩) m cap, .int .i64 (2 * (i : Int) + 1), .int .i64 i] wr (BoolPost b2 wr) by
          have := heapLess_c (some ⟨g, 0, none⟩) m cap ys (2 * i + 1) i (by omega) (by omega) (by omega) wr (HA.out.at HNY.out)
          rw [hb2v, show (((2 * i + 1 : Nat)) : Int) = 2 * (i : Int) + 1 by omega] at this
          exact this)
        clear hb2v
        have mL2 := method_Less B wr _ HA.out.box.cell
        go_wp2_with fail
        refine HL2.out.mono ?_
        rintro e W4 ⟨rfl, hb4⟩
        have HA4 := Lib.hid (HA.out.keep hb4)
        have HG4 := Lib.hid (grown_then HG.out (below_grown hb4) (by simp))
        clear mL2 hb4
        cases b2 with
        | false =>
          go_wp2
          go_ret
          exact ⟨⟨_, rfl⟩, ys, HP.out, down_end HD.out (fun k k0 kn kp => by
            have h1 := HMIN.out k k0 kn kp
            exact nbef_trans HB2.out h1), HF.out, HA4.out, HG4.out⟩
        | true =>
          have mS := method_Swap B W4 _ HA4.out.box.cell
          have HSW := Lib.hid (show Calls Tryz.prog 126 #[.slice (some ⟨g, 0, none⟩) m cap, .int .i64 i, .int .i64 (2 * (i : Int) + 1)] W4 (SwapPost base g m cap ys i (2 * i + 1) W4) by
            have := heapSwap_c base g m cap ys i (2 * i + 1) HNY.out (by omega) (by omega) (by omega) W4 (by have := HA4.out.row; rw [← HNY.out] at this; exact this)
            rw [show (((2 * i + 1 : Nat)) : Int) = 2 * (i : Int) + 1 by omega] at this
            exact this)
          go_wp2_with fail
          refine HSW.out.mono ?_
          rintro e W5 hs5
          obtain rfl := hs5.1
          have HA5 := Lib.hid (HA4.out.swapped HNY.out hs5)
          have HG5 := Lib.hid (grown_then HG4.out hs5.2.2 (fun k e => .inr e))
          have HP5 := Lib.hid ((swapK_perm (by have := HNY.out; omega) (by have := HNY.out; omega)).trans HP.out : (swapK ys i (2 * i + 1)).Perm zs)
          have HD5 : Hid (DownK (swapK ys i (2 * i + 1)) n (2 * i + 1)) := down_go (by have := HNY.out; omega) (by omega) (by omega) (by omega) HD.out HB2.out HMIN.out
          have HF5 : Hid (∀ k, n ≤ k → atK (swapK ys i (2 * i + 1)) k = atK zs k) := fun k hk => by
            rw [atK_swap (by have := HNY.out; omega) (by have := HNY.out; omega), if_neg (by omega), if_neg (by omega)]
            exact HF.out k hk
          have HZ := Lib.hid (show (((2 * i + 1 : Nat)) : Int) = 2 * (i : Int) + 1 by omega)
          have HJ := Lib.hid (show 2 * i + 1 < n ∧ i < 2 * i + 1 from ⟨by omega, by omega⟩)
          clear mS hs5
          go_wp2
          go_roundw
          case rel => exact ⟨2 * i + 1, swapK ys i (2 * i + 1), by rw [HZ.out], Nat.le_of_lt HJ.out.1, HP5, HD5, HF5, HA5, HG5⟩
          case measure => have h1 := HJ.out; have h2 := HZ.out; simp [intOf]; omega

end Go.Proofs.YtpjoahddbdmbpaaGreatDoor

/-
  WALKS: container/heap.Push and Pop over the program's heap of commands; takeAll.
-/
namespace Go.Proofs.YtpjoahddbdmbpaaGreatDoor
open Go.RowKit
set_option linter.unusedVariables false

/-- What heap.Push leaves. -/
def PushPost (B base : Nat) (zs : List Cmd) (c : Cmd) (W : World) (e : Ending) (w' : World) : Prop :=
  e = .returned (.tuple #[]) ∧ ∃ v' ys, HpAt w' B base v' ys ∧ ys.Perm (zs ++ [c]) ∧ HeapK ys ys.length ∧ Below B W w' ∧ KeptM W w'

set_option maxHeartbeats 1000000 in
set_option maxRecDepth 100000 in
theorem heapPush_c (B base : Nat) (v : Value) (zs : List Cmd) (c : Cmd) (hl : zs.length ≤ 1000000) (W : World) (hle : base ≤ W.heap.size) (h : HpAt W B base v zs) (hk : HeapK zs zs.length) :
    Calls Tryz.prog 19 #[.iface 47 (.pointer (some ⟨B, 0, none⟩)), .iface 36 (cmdV c)] W (PushPost B base zs c W) := by
  have HP := Lib.hid (heapPushM_c B base v zs c (by omega) W hle h)
  have HK := Lib.hid hk
  have mP := method_Push B W
  clear h hk hle
  go_enter Tryz.func19, Tryz.ntmps19
  go_wp2_with fail
  refine HP.out.mono ?_
  rintro e W1 ⟨rfl, v1, hA, hB, hM⟩
  have hnl : (zs ++ [c]).length = zs.length + 1 := by simp
  obtain ⟨g, cap, rfl, h1, h2, h3, h4⟩ := hA.top hnl
  have HA := Lib.hid hA
  have HB := Lib.hid hB
  have HM := Lib.hid hM
  have mL := method_Len B W1 _ hA.box.cell
  have HL := Lib.hid (heapLen_c (some ⟨g, 0, none⟩) (zs.length + 1) cap W1)
  have HU := Lib.hid (show Calls Tryz.prog 44 #[.iface 47 (.pointer (some ⟨B, 0, none⟩)), .int .i64 zs.length] W1 (fun e w' => e = .returned (.tuple #[]) ∧ HeapPost B base g (zs.length + 1) (zs.length + 1) cap (zs ++ [c]) (fun _ => True) W1 w') from
    heapUp_c B base g (zs.length + 1) cap (zs ++ [c]) zs.length hnl.symm (by omega) (by omega) W1 hA (by have := up_start c HK.out; rw [hnl] at this; exact this))
  clear hA hB hM mP h1 h2 h4
  go_wp2_with fail
  refine HL.out.mono ?_
  rintro e W2 ⟨rfl, rfl⟩
  clear mL
  go_wp2_with fail
  refine HU.out.mono ?_
  rintro e W3 ⟨rfl, ys, hp, hh, -, hA3, hG⟩
  go_wp2
  have HL3 : ys.length = zs.length + 1 := by rw [hp.length_eq, hnl]
  refine bodyPost_end (v := .tuple #[]) (no_results _ rfl _ _) rfl ⟨rfl, _, ys, hA3, hp, by rw [HL3]; exact hh, ?_, ?_⟩
  · have := HA.out.lt
    exact HB.out.grown hG (by have := HB.out.size; have := HA.out.box.lt; omega) (fun k e => by cases e; omega)
  · exact HM.out.trans (KeptM.grown hG (fun r o e ho => row_cells HA.out.row r o e ho))

/-- Nothing but two blocks is turned. -/
structure Turn2 (W W' : World) (B g : Nat) : Prop where
  os : W'.os = W.os
  tape : W'.tape = W.tape
  output : W'.output = W.output
  size : W.heap.size ≤ W'.heap.size
  block : ∀ i, i < W.heap.size → i ≠ B → i ≠ g → W'.heap[i]? = W.heap[i]?

theorem Turn2.of {W W' : World} {row : Option Nat} (h : W.grownBy W' row) {B g : Nat} (hr : ∀ r, row = some r → r = B ∨ r = g) : Turn2 W W' B g :=
  ⟨h.os, h.tape, h.output, h.size, fun i hi hB hg => h.block i hi (fun e => (hr i e.symm).elim hB hg)⟩

theorem Turn2.trans {X Y Z : World} {B g : Nat} (h : Turn2 X Y B g) (k : Turn2 Y Z B g) : Turn2 X Z B g :=
  ⟨k.os.trans h.os, k.tape.trans h.tape, k.output.trans h.output, Nat.le_trans h.size k.size, fun i hi hB hg => (k.block i (Nat.lt_of_lt_of_le hi h.size) hB hg).trans (h.block i hi hB hg)⟩

/-- What heap.Pop leaves. -/
def PopPost (B base g n cap : Nat) (zs : List Cmd) (W : World) (e : Ending) (w' : World) : Prop :=
  e = .returned (.iface 36 (cmdV (atK zs 0))) ∧ ∃ ys, HpAt w' B base (.slice (some ⟨g, 0, none⟩) n cap) ys ∧ HeapK ys ys.length ∧ (ys ++ [atK zs 0]).Perm zs ∧ (∀ y ∈ zs, befC y (atK zs 0) = false) ∧ Turn2 W w' B g

set_option maxHeartbeats 1000000 in
set_option maxRecDepth 100000 in
theorem heapPop_c (B base g n cap : Nat) (zs : List Cmd) (hn : zs.length = n + 1) (hl : n ≤ 1000000) (hc : n + 1 ≤ cap) (hcm : cap ≤ maxLen) (W : World) (h : HpAt W B base (.slice (some ⟨g, 0, none⟩) (n + 1) cap) zs) (hk : HeapK zs zs.length) :
    Calls Tryz.prog 46 #[.iface 47 (.pointer (some ⟨B, 0, none⟩))] W (PopPost B base g n cap zs W) := by
  have HH := Lib.hid h
  have HK := Lib.hid hk
  have HN := Lib.hid hn
  have HC := Lib.hid (And.intro hc hcm)
  have mL := method_Len B W _ h.box.cell
  have HL := Lib.hid (heapLen_c (some ⟨g, 0, none⟩) (n + 1) cap W)
  clear h hk hn hc hcm
  go_enter Tryz.func46, Tryz.ntmps46
  go_wp2_with fail
  refine HL.out.mono ?_
  rintro e W1 ⟨rfl, rfl⟩
  clear mL HL
  have mS := method_Swap B W1 _ HH.out.box.cell
  have HS := Lib.hid (show Calls Tryz.prog 126 #[.slice (some ⟨g, 0, none⟩) (n + 1) cap, .int .i64 0, .int .i64 n] W1 (SwapPost base g (n + 1) cap zs 0 n W1) from
    heapSwap_c base g (n + 1) cap zs 0 n HN.out.symm (by omega) (by omega) (by omega) W1 (by have := HH.out.row; rw [HN.out] at this; exact this))
  go_wp2_with fail
  refine HS.out.mono ?_
  rintro e W2 hs2
  obtain rfl := hs2.1
  have HA2 := Lib.hid (HH.out.swapped HN.out.symm hs2)
  have HT2 := Lib.hid (Turn2.of hs2.2.2 (B := B) (g := g) (fun r e => .inr (by cases e; rfl)))
  clear mS hs2
  have HD := Lib.hid (heapDown_c B base g (n + 1) n cap (swapK zs 0 n) (by rw [swapK_length]; exact HN.out.symm) (by omega) (by omega) W2 HA2.out (pop_start HN.out HK.out))
  go_wp2_with fail
  refine HD.out.mono ?_
  rintro e W3 ⟨⟨bb, rfl⟩, ys, hp, hh, hf, hA3, hG3⟩
  have HT3 := Lib.hid (HT2.out.trans (Turn2.of hG3 (B := B) (g := g) (fun r e => .inr (by cases e; rfl))))
  have HF := Lib.hid (hf n (Nat.le_refl _))
  have HP := Lib.hid hp
  have HHK := Lib.hid hh
  have HA3 := Lib.hid hA3
  have HYL := Lib.hid (show ys.length = n + 1 by rw [hp.length_eq, swapK_length]; exact HN.out)
  have mP := method_Pop B W3
  have HPM := Lib.hid (heapPopM_c B base g n cap ys HYL.out (by omega) HC.out.1 HC.out.2 W3 hA3)
  clear hp hh hf hA3 hG3
  go_wp2_with fail
  refine HPM.out.mono ?_
  rintro e W4 ⟨rfl, hA4, hG4⟩
  have HLAST := Lib.hid (show atK ys n = atK zs 0 by rw [HF.out, atK_swap (by have := HN.out; omega) (by have := HN.out; omega), if_pos rfl])
  have HA4 := Lib.hid hA4
  have HG4 := Lib.hid hG4
  clear mP hA4 hG4
  rw [HLAST.out]
  go_wp2
  go_ret
  have hpop := heap_pop HN.out HK.out HP.out HLAST.out
  have htl : (ys.take n).length = n := by rw [List.length_take, HYL.out]; omega
  exact ⟨rfl, ys.take n, HA4.out, by rw [htl]; exact heap_take HHK.out, hpop.1, hpop.2, HT3.out.trans (Turn2.of HG4.out (fun r e => .inl (by cases e; rfl)))⟩

end Go.Proofs.YtpjoahddbdmbpaaGreatDoor

/-
  WALKS: canonHeap.takeAll.
-/
namespace Go.Proofs.YtpjoahddbdmbpaaGreatDoor
open Go.RowKit
set_option linter.unusedVariables false

theorem own_turn2 {W W' : World} {B g base : Nat} {e : TypeId} {size n : Nat} {v : Value} {xs : List Value} (h : W.ownsRow base e size v n xs) (ht : Turn2 W W' B g) (hv : ∀ k, v.ownBlock = some k → k ≠ B ∧ k ≠ g) : W'.ownsRow base e size v n xs := by
  obtain ⟨h1, h2⟩ := h
  refine ⟨h1, ?_⟩
  rcases h2 with h3 | ⟨x, cap, cur, rfl, h4, h5, h6⟩
  · exact .inl h3
  · right
    have h7 := hv x rfl
    exact ⟨x, cap, cur, rfl, h4, (ht.block x (Array.getElem?_eq_some_iff.1 h5).1 h7.1 h7.2).trans h5, h6⟩

theorem HpAt.grown {W W' : World} {B base : Nat} {v : Value} {zs : List Cmd} {row : Option Nat} (h : HpAt W B base v zs) (hg : W.grownBy W' row) (hB : row ≠ some B) (hv : ∀ k, v.ownBlock = some k → row ≠ some k) : HpAt W' B base v zs := by
  refine ⟨h.box.kept hg (fun e => hB e.symm), h.row.kept hg ?_, h.lt⟩
  rcases h.row.2 with ⟨h1, _⟩ | ⟨x, cap, cur, h1, _⟩
  · exact .inl (by rw [h1]; rfl)
  · exact .inr (fun e => by subst h1; exact hv x rfl e.symm)

/-- What takeAll leaves. -/
def TakePost (B : Nat) (zs : List Cmd) (W : World) (e : Ending) (w' : World) : Prop :=
  ∃ sl acc, e = .returned sl ∧ w'.ownsRow W.heap.size 36 5 sl acc.length (flatC acc) ∧ TakeK zs acc [] ∧ Below B W w'

def heapLenAt (W : World) (B : Nat) : Nat := match W.cell? ⟨B, 0, none⟩ with
  | some (.slice _ n _) => n
  | _ => 0

def TakeRel (B base : Nat) (zs : List Cmd) (W : World) (sl : Value) (wr : World) : Prop :=
  ∃ (acc ys : List Cmd) (a : Option Addr) (cap : Nat), wr.ownsRow W.heap.size 36 5 sl acc.length (flatC acc) ∧ Hid (HpAt wr B base (.slice a ys.length cap) ys) ∧ Hid (HeapK ys ys.length) ∧ Hid (TakeK zs acc ys) ∧ Hid (∀ k, (Value.slice a ys.length cap).ownBlock = some k → k < W.heap.size) ∧ Hid (Below B W wr)

theorem heapLenAt_of {W : World} {B base : Nat} {a : Option Addr} {n cap : Nat} {zs : List Cmd} (h : HpAt W B base (.slice a n cap) zs) : heapLenAt W B = n := by
  unfold heapLenAt
  rw [h.box.cell]

theorem take_round {B base g n cap : Nat} {zs acc ys zs' : List Cmd} {W W2 W3 w4 : World} {sl v4 : Value} {o : Obj} (hA : HpAt W2 B base (.slice (some ⟨g, 0, none⟩) (n + 1) cap) ys) (hgl : g < W.heap.size) (hB0 : B < W.heap.size)
    (ho3 : W3.ownsRow W.heap.size 36 5 sl acc.length (flatC acc)) (hA3 : HpAt W3 B base (.slice (some ⟨g, 0, none⟩) n cap) zs') (hz : zs'.length = n) (hk3 : HeapK zs' zs'.length) (hb3 : Below B W W3) (hs3 : W.heap.size ≤ W3.heap.size) {x : Cmd} (ht3 : TakeK zs (acc ++ [x]) zs')
    (hg4 : (W3.alloc o).grownBy w4 sl.ownBlock) (ho4 : w4.ownsRow W.heap.size 36 5 v4 (acc ++ [x]).length (flatC (acc ++ [x]))) : TakeRel B base zs W v4 w4 ∧ heapLenAt w4 B < heapLenAt W2 B := by
  have hlow : ∀ k, sl.ownBlock = some k → W.heap.size ≤ k := fun k e => (ho3.lt k e).1
  have hA4 : HpAt w4 B base (.slice (some ⟨g, 0, none⟩) n cap) zs' := (hA3.keep (below_box W3 o)).grown hg4 (fun e => by have := hlow B e; omega) (fun k e => fun e2 => by
    simp [Value.ownBlock] at e
    subst e
    have := hlow g e2
    omega)
  refine ⟨⟨acc ++ [x], zs', some ⟨g, 0, none⟩, cap, ho4, by rw [hz]; exact hA4, hk3, ht3, fun k e => ?_, ?_⟩, ?_⟩
  · simp [Value.ownBlock] at e
    subst e
    exact hgl
  · exact (hb3.alloc (by omega) o).grown hg4 (by rw [World.size_alloc]; omega) (fun k e => by have := hlow k e; omega)
  · rw [heapLenAt_of hA4, heapLenAt_of hA]
    omega

set_option maxHeartbeats 1000000 in
set_option maxRecDepth 100000 in
theorem takeAll_c (B base : Nat) (v : Value) (zs : List Cmd) (hl : zs.length ≤ 1000) (W : World) (hle : base ≤ W.heap.size) (h : HpAt W B base v zs) (hk : HeapK zs zs.length) :
    Calls Tryz.prog 20 #[.pointer (some ⟨B, 0, none⟩)] W (TakePost B zs W) := by
  obtain ⟨a0, cap0, rfl, -⟩ := cmds_of_own h.row
  obtain ⟨i0, hi, hz0, hz1, hz2⟩ := info_parts infoCmd
  have HH := Lib.hid h
  have HK := Lib.hid hk
  have HLE := Lib.hid (And.intro hle hl)
  have HB0 := Lib.hid (And.intro h.box.lt h.lt)
  clear h hk hle
  go_enter Tryz.func20, Tryz.ntmps20
  go_wp2
  go_loopw [3] (fun sl wr => TakeRel B base zs W sl wr) (fun _ wr => heapLenAt wr B)
  case atStart => exact ⟨[], zs, a0, cap0, World.ownsRow_nil _ _ _ _, HH, HK, take_start zs, fun k e => (HH.out.row.lt k e).2, Below.refl _ _⟩
  case round =>
    obtain ⟨acc, ys, a, cap, hown, HA, HK, HT, HLOW, HB⟩ := hrel
    have HO := Lib.hid hown
    have b0 := HA.out.box.cell
    have HLY := Lib.hid (show acc.length + ys.length = zs.length by have := HT.out.1.length_eq; rwa [List.length_append] at this)
    clear hown
    rcases List.eq_nil_or_concat ys with rfl | ⟨ys', y, hyy⟩
    · have HL := Lib.hid (heapLen_c a 0 cap wr)
      simp only [List.length_nil] at b0
      go_wp2_with fail
      refine HL.out.mono ?_
      rintro e W2 ⟨rfl, rfl⟩
      go_wp2
      go_ret
      exact ⟨_, acc, rfl, HO.out, HT.out, HB.out⟩
    · have hyl : ys.length = ys'.length + 1 := by rw [hyy]; simp
      obtain ⟨n, hn⟩ : ∃ n, ys'.length = n := ⟨_, rfl⟩
      rw [hn] at hyl
      have HN := Lib.hid hyl
      obtain ⟨g, cap', hv, h1, h2, h3, h4⟩ := HA.out.top hyl
      rw [hyl] at b0 hv HA HLOW
      injection hv with e1 e2 e3
      subst e1; subst e3
      have HGL := Lib.hid (HLOW.out g rfl)
      have HL := Lib.hid (heapLen_c (some ⟨g, 0, none⟩) (n + 1) cap wr)
      have HPOP := Lib.hid (heapPop_c B base g n cap ys hyl (by have := HLY.out; omega) h1 h2 wr HA.out HK.out)
      have hn1 : n ≤ 1000 := by have := HLY.out; omega
      clear hyy hn e2 hyl h1 h2 h3 h4
      go_wp2_with fail
      refine HL.out.mono ?_
      rintro e W2 ⟨rfl, rfl⟩
      go_wp2_with fail
      refine HPOP.out.mono ?_
      rintro e W3 ⟨rfl, zs', hA3, hK3, hp3, hm3, hT3⟩
      have HZL := Lib.hid (show zs'.length = n by have := hp3.length_eq; have h9 := HN.out; simp at this; omega)
      have HO3 := Lib.hid (own_turn2 HO.out hT3 (fun k e => by have h1 := (HO.out.lt k e).1; have h2 := HB0.out; have h3 := HGL.out; exact ⟨by omega, by omega⟩))
      have HA3 := Lib.hid hA3
      have HK3 := Lib.hid hK3
      have HT3 := Lib.hid (take_step HT.out hp3 hm3)
      have HB3 : Hid (Below B W W3) := ⟨hT3.os.trans HB.out.os, hT3.tape.trans HB.out.tape, hT3.output.trans HB.out.output, Nat.le_trans HB.out.size hT3.size, fun k hk => by
        have h1 := HB0.out
        have h2 := HB.out.size
        have h3 := HA.out.row.lt g rfl
        exact (hT3.block k (by omega) (by omega) (by omega)).trans (HB.out.block k hk)⟩
      have HS3 := Lib.hid (Nat.le_trans HB.out.size hT3.size)
      clear hA3 hK3 hp3 hm3 hT3 b0
      obtain ⟨x, hx⟩ : ∃ x, atK ys 0 = x := ⟨_, rfl⟩
      rw [hx] at HT3 ⊢
      clear hx
      obtain ⟨p, fk, fv, tk, tv⟩ := x
      have ta := fun W => ta_cmd p fk fv tk tv W
      unfold cmdV
      simp only
      go_wp2_with (at_builtin; refine wpList_append_cmds rfl _ _ rfl W.heap.size _ acc rfl (HO3.out.alloc _) _ _ _ [⟨p, fk, fv, tk, tv⟩] rfl (cmds_lit W3 ⟨p, fk, fv, tk, tv⟩) (by have := HLY.out; have := HLE.out.2; simp; omega) (by have := HS3.out; simp; omega) ?_; intro v4 w4 ho4 hg4)
      exact take_round HA.out HGL.out HB0.out.1 HO3.out HA3.out HZL.out HK3.out HB3.out HS3.out HT3.out hg4 ho4

end Go.Proofs.YtpjoahddbdmbpaaGreatDoor
