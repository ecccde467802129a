/-
  laws.FnClashTree returns true for every input, and leaves its arguments as they were.
  Conditions: none.
-/
import Derived.Test.YtdkpabnpobpdhaaRows
import Derived.WalkKit
import Derived.ProofKit
import Derived.OpenShut
import Derived.ShutString
import Derived.ChangeOld
import Derived.Below
import Derived.Test.YtdkpabnpobpdhaaQ10
import Derived.Test.YtdkpabnpobpdhaaQ4
import Derived.Test.YtdkpabnpobpdhaaQ9
import Derived.Test.YtdkpabnpobpdhaaQ6
import Derived.Test.YtdkpabnpobpdhaaQ1
import Derived.Test.YtdkpabnpobpdhaaQ3
namespace Go.Proofs.Ytdkpabnpobpdhaa.fnClashTree
open Go.ChangeShapes Go.WideShapes Go.ChangeAt Go.RowKit
open Go.ChangeMaps (open_string shut_string)
set_option linter.unusedVariables false

theorem own : ownKnob Try.prog.godebug = none := by kernel_rfl
theorem laidOut : laidOutB Try.prog = true := by kernel_rfl

theorem tree_small {ns : List Nd} (hv : validT ns = true) : ns.length ≤ 10 ∧ Short 66 ns := by
  have h := (validT_iff _).1 hv
  refine ⟨h.2.2, fun n hn => ?_⟩
  have h2 := vp_of_depth (h.2.1 n hn).1
  obtain ⟨w, hw, e⟩ := vpB_word h2
  rw [e]
  exact Nat.le_trans (pB_size hw) (by omega)
theorem clash_tree2 {c d : Cmd} {t : List Nd} (h : clashP c d = true) (ht : validT t = true) : ¬ (treeGet t c.p = (c.tk, c.tv) ∧ treeGet t d.p = (d.tk, d.tv)) := by
  have hv : validC c = true ∧ validC d = true := by
    unfold clashP at h
    rw [Bool.and_eq_true, Bool.and_eq_true] at h
    exact h.1
  rw [treeGet_eq ht (validC_vp hv.1), treeGet_eq ht (validC_vp hv.2)]
  exact clash_tree h ht
/-- What a put leaves: a tree, if it says so. -/
def PutT (W : World) (e : Ending) (w' : World) : Prop :=
  ∃ (x : Option Addr) (n q : Nat) (b : Bool), e = .returned (.tuple #[.slice x n q, .bool b]) ∧ (b = true → ∃ ns, validT ns = true ∧ NodesAt w' x n ns) ∧ Below W.heap.size W w'
theorem put_tree {f : Nat} {args : Array Value} {W : World} {ns : List Nd} {p : ByteArray} {k v : Int} (h : Calls Try.prog f args W (TPost (treePut ns p k v) W.heap.size W)) : Calls Try.prog f args W (PutT W) := by
  refine h.mono ?_
  rintro e w' ⟨sl, out, b, rfl, hc, ho, hb⟩
  obtain ⟨x, q, rfl, hn⟩ := nodes_of_own ho
  refine ⟨x, out.length, q, b, rfl, fun hbt => ⟨out, ?_, hn⟩, hb⟩
  rcases hc with ⟨_, h⟩ | ⟨h, _⟩
  · exact (treePut_some h).2.2.2.2
  · rw [hbt] at h; cases h
theorem validT_nil : validT [] = true := by decide

set_option maxHeartbeats 4000000 in
set_option maxRecDepth 100000 in
theorem walk (a0 : Option Addr) (len0 cap0 : Nat) (z0 : List Int) (w : World) (w0 : IsRow .u8 w a0 len0 cap0 z0) :
    Calls Try.prog 5 #[.slice a0 len0 cap0] w fun e w' => e = .returned (.bool true) ∧ Below w.heap.size w w' := by
  by_cases h : len0 ≤ 1048576
  · have hl : (len0 : Int) ≤ 1048576 := by omega
    have HD := Lib.hid (drawCommandsClash_c a0 len0 cap0 z0 w w0)
    clear h w0
    go_enter Try.func5, Try.ntmps5
    go_wp2_with fail
    refine HD.out.mono ?_
    rintro e W1 ⟨c, d, rfl, hp, hq, hB⟩
    have HBL := Lib.hid hB
    have HPQ := Lib.hid (And.intro hp hq)
    obtain ⟨mm, hmm⟩ : ∃ mm, clashP c d = mm := ⟨_, rfl⟩
    have HI := Lib.hid (fun w => show Calls Try.prog 14 #[cmdV c, cmdV d] w (BoolPost mm w) by rw [← hmm]; exact implCommandsClash_c c d (by omega) (by omega) w)
    have HS := Lib.hid (fun w => show Calls Try.prog 15 #[cmdV c, cmdV d] w (BoolPost mm w) by rw [← hmm]; exact specCommandsClash_c c d (by omega) (by omega) w)
    have HMM := Lib.hid hmm
    have T0 := Lib.hid (twoC_new W1 c d)
    have B0 := Lib.hid (below_next (below_box W1 (.cells #[.string c.p, .int .i64 c.fk, .int .i64 c.fv, .int .i64 c.tk, .int .i64 c.tv] 26)) (below_box _ (.cells #[.string d.p, .int .i64 d.fk, .int .i64 d.fv, .int .i64 d.tk, .int .i64 d.tv] 26)))
    have HCT := Lib.hid (show mm = true → ∀ t : List Nd, validT t = true → ¬ (treeGet t c.p = (c.tk, c.tv) ∧ treeGet t d.p = (d.tk, d.tv)) by intro h t ht; rw [h] at hmm; exact clash_tree2 hmm ht)
    have HPC := Lib.hid (fun x n q (ns : List Nd) (hv : validT ns = true) W' (hn : NodesAt W' x n ns) => show Calls Try.prog 18 #[.slice x n q, .string c.p, .agg #[.int .i64 c.tk, .int .i64 c.tv]] W' (PutT W') from put_tree (implTreePut_c x n q ns c.p c.tk c.tv (by have := (tree_small hv).1; have := hn.1; omega) ((tree_small hv).2.mono (by omega)) (by omega) W' hn))
    have HPD := Lib.hid (fun x n q (ns : List Nd) (hv : validT ns = true) W' (hn : NodesAt W' x n ns) => show Calls Try.prog 18 #[.slice x n q, .string d.p, .agg #[.int .i64 d.tk, .int .i64 d.tv]] W' (PutT W') from put_tree (implTreePut_c x n q ns d.p d.tk d.tv (by have := (tree_small hv).1; have := hn.1; omega) ((tree_small hv).2.mono (by omega)) (by omega) W' hn))
    have HPN := Lib.hid (fun x n q (s : ByteArray) (hs : s.size ≤ 66) (ns : List Nd) (hv : validT ns = true) W' (hn : NodesAt W' x n ns) => show Calls Try.prog 18 #[.slice x n q, .string s, .agg #[.int .i64 1, .int .i64 0]] W' (PutT W') from put_tree (implTreePut_c x n q ns s 1 0 (by have := (tree_small hv).1; have := hn.1; omega) ((tree_small hv).2.mono (by omega)) (by omega) W' hn))
    have HGC := Lib.hid (fun x n q (ns : List Nd) (hv : validT ns = true) (k v : Int) (hk : treeGet ns c.p = (k, v)) W' (hn : NodesAt W' x n ns) => show Calls Try.prog 19 #[.slice x n q, .string c.p] W' (ConRet k v W') by
      have := implTreeGet_c x n q ns c.p (by have := (tree_small hv).1; have := hn.1; omega) ((tree_small hv).2.mono (by omega)) (by omega) W' hn
      rwa [hk] at this)
    have HGD := Lib.hid (fun x n q (ns : List Nd) (hv : validT ns = true) (k v : Int) (hk : treeGet ns d.p = (k, v)) W' (hn : NodesAt W' x n ns) => show Calls Try.prog 19 #[.slice x n q, .string d.p] W' (ConRet k v W') by
      have := implTreeGet_c x n q ns d.p (by have := (tree_small hv).1; have := hn.1; omega) ((tree_small hv).2.mono (by omega)) (by omega) W' hn
      rwa [hk] at this)
    clear hB hp hq hmm
    obtain ⟨p, fk, fv, tk, tv⟩ := c
    obtain ⟨p', fk', fv', tk', tv'⟩ := d
    unfold cmdV at HI HS ⊢
    simp only at HI HS T0 B0 HPC HPD HGC HGD HCT
    obtain ⟨a0, a1, a2, a3, a4, b0, b1, b2, b3, b4⟩ := T0.out
    simp only at a0 a1 a2 a3 a4 b0 b1 b2 b3 b4
    go_wp2_with fail
    refine (HI.out _).mono ?_
    rintro e W2 ⟨rfl, hb2⟩
    have T2 := Lib.hid (T0.out.keep hb2)
    have B2 := Lib.hid (below_next B0.out hb2)
    clear a0 a1 a2 a3 a4 b0 b1 b2 b3 b4 hb2
    obtain ⟨a0, a1, a2, a3, a4, b0, b1, b2, b3, b4⟩ := T2.out
    go_wp2_with fail
    refine (HS.out _).mono ?_
    rintro e W3 ⟨rfl, hb3⟩
    have T3 := Lib.hid (T2.out.keep hb3)
    have B3 := Lib.hid (below_next B2.out hb3)
    clear a0 a1 a2 a3 a4 b0 b1 b2 b3 b4 hb3
    obtain ⟨a0, a1, a2, a3, a4, b0, b1, b2, b3, b4⟩ := T3.out
    have hbb : (mm != mm) = false := by simp
    cases mm with
    | false =>
      go_wp2
      go_ret
      exact ⟨rfl, below_next HBL.out B3.out⟩
    | true =>
      clear a0 a1 a2 a3 a4 b0 b1 b2 b3 b4
      go_wp2
      obtain ⟨WE, hWE⟩ : ∃ X, X = W3.alloc (.cells #[] 106) := ⟨_, rfl⟩
      have HE0 := Lib.hid (show Below W3.heap.size W3 WE by rw [hWE]; exact below_box _ _)
      rw [← hWE]
      go_loopw [7, 8, 9, 10, 11] (fun t i _ _ _ wr => ∃ (n : Nat) (a : Option Addr) (n0 cap : Nat) (ns : List Nd), i = .int .i64 n ∧ n ≤ 4 ∧ t = .slice a n0 cap ∧ Hid (validT ns = true) ∧ Hid (NodesAt wr a n0 ns) ∧ Hid (Below W3.heap.size W3 wr)) (fun _ i _ _ _ _ => 4 - (intOf i).toNat)
      case atStart => exact ⟨0, _, _, _, [], rfl, Nat.zero_le _, rfl, Lib.hid validT_nil, Lib.hid ⟨rfl, .inl rfl⟩, HE0⟩
      case round =>
        obtain ⟨n, a, n0, cap, ns, rfl, hn4, rfl, HV, HN, HB⟩ := hrel
        have hcs : n = 0 ∨ n = 1 ∨ n = 2 ∨ n = 3 ∨ n = 4 := by omega
        rcases hcs with rfl | rfl | rfl | rfl | h4
        · clear hn4
          go_wp2_with fail
          refine (HPN.out _ _ _ ⟨#[47, 97]⟩ (by decide) ns HV.out _ (HN.out.keep (below_box _ _))).mono ?_
          rintro e W5 ⟨x1, n1, q1, b1, rfl, hc1, hb1⟩
          have HB5 := Lib.hid (below_next (below_next HB.out (below_box _ _)) hb1)
          have HNO := Lib.hid ((HN.out.keep (below_box _ (.cells #[.string ⟨#[47, 97]⟩, .string ⟨#[47, 97, 47, 97]⟩, .string ⟨#[47, 97, 47, 98]⟩, .string ⟨#[47, 98]⟩] 9))).keep hb1)
          clear hb1
          cases b1 with
          | false =>
            clear hc1
            go_wp2
            go_roundw
            case rel => exact ⟨1, a, n0, cap, ns, rfl, by omega, rfl, HV.out, HNO.out, HB5.out⟩
            case measure => simp [intOf]
          | true =>
            obtain ⟨ns5, hv5, hn5⟩ := hc1 (by first | rfl | trivial)
            have HV5 := Lib.hid hv5
            have HN5 := Lib.hid hn5
            clear hc1 hv5 hn5
            go_wp2
            go_roundw
            case rel => exact ⟨1, x1, n1, q1, ns5, rfl, by omega, rfl, HV5.out, HN5.out, HB5.out⟩
            case measure => simp [intOf]
        · clear hn4
          go_wp2_with fail
          refine (HPN.out _ _ _ ⟨#[47, 97, 47, 97]⟩ (by decide) ns HV.out _ (HN.out.keep (below_box _ _))).mono ?_
          rintro e W5 ⟨x1, n1, q1, b1, rfl, hc1, hb1⟩
          have HB5 := Lib.hid (below_next (below_next HB.out (below_box _ _)) hb1)
          have HNO := Lib.hid ((HN.out.keep (below_box _ (.cells #[.string ⟨#[47, 97]⟩, .string ⟨#[47, 97, 47, 97]⟩, .string ⟨#[47, 97, 47, 98]⟩, .string ⟨#[47, 98]⟩] 9))).keep hb1)
          clear hb1
          cases b1 with
          | false =>
            clear hc1
            go_wp2
            go_roundw
            case rel => exact ⟨2, a, n0, cap, ns, rfl, by omega, rfl, HV.out, HNO.out, HB5.out⟩
            case measure => simp [intOf]
          | true =>
            obtain ⟨ns5, hv5, hn5⟩ := hc1 (by first | rfl | trivial)
            have HV5 := Lib.hid hv5
            have HN5 := Lib.hid hn5
            clear hc1 hv5 hn5
            go_wp2
            go_roundw
            case rel => exact ⟨2, x1, n1, q1, ns5, rfl, by omega, rfl, HV5.out, HN5.out, HB5.out⟩
            case measure => simp [intOf]
        · clear hn4
          go_wp2_with fail
          refine (HPN.out _ _ _ ⟨#[47, 97, 47, 98]⟩ (by decide) ns HV.out _ (HN.out.keep (below_box _ _))).mono ?_
          rintro e W5 ⟨x1, n1, q1, b1, rfl, hc1, hb1⟩
          have HB5 := Lib.hid (below_next (below_next HB.out (below_box _ _)) hb1)
          have HNO := Lib.hid ((HN.out.keep (below_box _ (.cells #[.string ⟨#[47, 97]⟩, .string ⟨#[47, 97, 47, 97]⟩, .string ⟨#[47, 97, 47, 98]⟩, .string ⟨#[47, 98]⟩] 9))).keep hb1)
          clear hb1
          cases b1 with
          | false =>
            clear hc1
            go_wp2
            go_roundw
            case rel => exact ⟨3, a, n0, cap, ns, rfl, by omega, rfl, HV.out, HNO.out, HB5.out⟩
            case measure => simp [intOf]
          | true =>
            obtain ⟨ns5, hv5, hn5⟩ := hc1 (by first | rfl | trivial)
            have HV5 := Lib.hid hv5
            have HN5 := Lib.hid hn5
            clear hc1 hv5 hn5
            go_wp2
            go_roundw
            case rel => exact ⟨3, x1, n1, q1, ns5, rfl, by omega, rfl, HV5.out, HN5.out, HB5.out⟩
            case measure => simp [intOf]
        · clear hn4
          go_wp2_with fail
          refine (HPN.out _ _ _ ⟨#[47, 98]⟩ (by decide) ns HV.out _ (HN.out.keep (below_box _ _))).mono ?_
          rintro e W5 ⟨x1, n1, q1, b1, rfl, hc1, hb1⟩
          have HB5 := Lib.hid (below_next (below_next HB.out (below_box _ _)) hb1)
          have HNO := Lib.hid ((HN.out.keep (below_box _ (.cells #[.string ⟨#[47, 97]⟩, .string ⟨#[47, 97, 47, 97]⟩, .string ⟨#[47, 97, 47, 98]⟩, .string ⟨#[47, 98]⟩] 9))).keep hb1)
          clear hb1
          cases b1 with
          | false =>
            clear hc1
            go_wp2
            go_roundw
            case rel => exact ⟨4, a, n0, cap, ns, rfl, by omega, rfl, HV.out, HNO.out, HB5.out⟩
            case measure => simp [intOf]
          | true =>
            obtain ⟨ns5, hv5, hn5⟩ := hc1 (by first | rfl | trivial)
            have HV5 := Lib.hid hv5
            have HN5 := Lib.hid hn5
            clear hc1 hv5 hn5
            go_wp2
            go_roundw
            case rel => exact ⟨4, x1, n1, q1, ns5, rfl, by omega, rfl, HV5.out, HN5.out, HB5.out⟩
            case measure => simp [intOf]
        · subst h4
          have T5 := Lib.hid (T3.out.keep HB.out)
          have B5 := Lib.hid (below_next B3.out HB.out)
          obtain ⟨a0, a1, a2, a3, a4, b0, b1, b2, b3, b4⟩ := T5.out
          go_wp2_with fail
          refine (HPC.out _ _ _ _ HV.out _ HN.out).mono ?_
          rintro e W6 ⟨x6, n6, q6, b6, rfl, hc6, hb6⟩
          have T6 := Lib.hid (T5.out.keep hb6)
          have B6 := Lib.hid (below_next B5.out hb6)
          have N6o := Lib.hid (HN.out.keep hb6)
          clear a0 a1 a2 a3 a4 b0 b1 b2 b3 b4 hb6
          obtain ⟨a0, a1, a2, a3, a4, b0, b1, b2, b3, b4⟩ := T6.out
          cases b6 with
          | false =>
            clear hc6
            go_wp2_with fail
            refine (HPD.out _ _ _ _ HV.out _ N6o.out).mono ?_
            rintro e W7 ⟨x7, n7, q7, b7, rfl, hc7, hb7⟩
            have T7 := Lib.hid (T6.out.keep hb7)
            have B7 := Lib.hid (below_next B6.out hb7)
            have N7o := Lib.hid (N6o.out.keep hb7)
            clear a0 a1 a2 a3 a4 b0 b1 b2 b3 b4 hb7
            obtain ⟨a0, a1, a2, a3, a4, b0, b1, b2, b3, b4⟩ := T7.out
            cases b7 with
            | false =>
              clear hc7
              obtain ⟨k1, v1, hkv1⟩ : ∃ k v, treeGet ns p = (k, v) := ⟨_, _, rfl⟩
              obtain ⟨k2, v2, hkv2⟩ : ∃ k v, treeGet ns p' = (k, v) := ⟨_, _, rfl⟩
              have HG1 := Lib.hid (fun W' (hb : Below W7.heap.size W7 W') => HGC.out a n0 cap ns HV.out k1 v1 hkv1 W' (N7o.out.keep hb))
              have HG2 := Lib.hid (fun W' (hb : Below W7.heap.size W7 W') => HGD.out a n0 cap ns HV.out k2 v2 hkv2 W' (N7o.out.keep hb))
              have HNB := Lib.hid (HCT.out (by first | rfl | trivial) ns HV.out)
              obtain ⟨e1, he1⟩ : ∃ e, (k1 == tk && v1 == tv) = e := ⟨_, rfl⟩
              obtain ⟨e2, he2⟩ : ∃ e, (k2 == tk' && v2 == tv') = e := ⟨_, rfl⟩
              have HEE := Lib.hid (show e1 = true → e2 = false by
                intro h
                rw [h] at he1
                rw [Bool.and_eq_true, beq_iff_eq, beq_iff_eq] at he1
                cases he : e2 with
                | false => rfl
                | true =>
                  rw [he, Bool.and_eq_true, beq_iff_eq, beq_iff_eq] at he2
                  refine absurd (And.intro ?_ ?_) HNB.out
                  · rw [hkv1, he1.1, he1.2]
                  · rw [hkv2, he2.1, he2.2])
              have hne1 := fun w => (conNeQ k1 v1 tk tv w).trans (show _ = Result.ok (Value.bool (!e1)) w by rw [he1])
              have hne2 := fun w => (conNeQ k2 v2 tk' tv' w).trans (show _ = Result.ok (Value.bool (!e2)) w by rw [he2])
              unfold ConRet con at HG1 HG2
              have HS0 := Lib.hid (show W7.drew.cell? ⟨W1.heap.size, 0, none⟩ = some (.string p) ∧ W7.drew.cell? ⟨W1.heap.size, 1, none⟩ = some (.int .i64 fk) ∧ W7.drew.cell? ⟨W1.heap.size, 2, none⟩ = some (.int .i64 fv) ∧ W7.drew.cell? ⟨W1.heap.size, 3, none⟩ = some (.int .i64 tk) ∧ W7.drew.cell? ⟨W1.heap.size, 4, none⟩ = some (.int .i64 tv) ∧ W7.drew.cell? ⟨(W1.heap.size + 1), 0, none⟩ = some (.string p') ∧ W7.drew.cell? ⟨(W1.heap.size + 1), 1, none⟩ = some (.int .i64 fk') ∧ W7.drew.cell? ⟨(W1.heap.size + 1), 2, none⟩ = some (.int .i64 fv') ∧ W7.drew.cell? ⟨(W1.heap.size + 1), 3, none⟩ = some (.int .i64 tk') ∧ W7.drew.cell? ⟨(W1.heap.size + 1), 4, none⟩ = some (.int .i64 tv') ∧ Below W7.heap.size W7 W7.drew from ⟨a0, a1, a2, a3, a4, b0, b1, b2, b3, b4, (Below.refl _ _).drew⟩)
              have HKP := Lib.hid (fun (u1 u2 : World) (h : u1.cell? ⟨W1.heap.size, 0, none⟩ = some (.string p) ∧ u1.cell? ⟨W1.heap.size, 1, none⟩ = some (.int .i64 fk) ∧ u1.cell? ⟨W1.heap.size, 2, none⟩ = some (.int .i64 fv) ∧ u1.cell? ⟨W1.heap.size, 3, none⟩ = some (.int .i64 tk) ∧ u1.cell? ⟨W1.heap.size, 4, none⟩ = some (.int .i64 tv) ∧ u1.cell? ⟨(W1.heap.size + 1), 0, none⟩ = some (.string p') ∧ u1.cell? ⟨(W1.heap.size + 1), 1, none⟩ = some (.int .i64 fk') ∧ u1.cell? ⟨(W1.heap.size + 1), 2, none⟩ = some (.int .i64 fv') ∧ u1.cell? ⟨(W1.heap.size + 1), 3, none⟩ = some (.int .i64 tk') ∧ u1.cell? ⟨(W1.heap.size + 1), 4, none⟩ = some (.int .i64 tv') ∧ Below W7.heap.size W7 u1) (hb : Below u1.heap.size u1 u2) => show u2.cell? ⟨W1.heap.size, 0, none⟩ = some (.string p) ∧ u2.cell? ⟨W1.heap.size, 1, none⟩ = some (.int .i64 fk) ∧ u2.cell? ⟨W1.heap.size, 2, none⟩ = some (.int .i64 fv) ∧ u2.cell? ⟨W1.heap.size, 3, none⟩ = some (.int .i64 tk) ∧ u2.cell? ⟨W1.heap.size, 4, none⟩ = some (.int .i64 tv) ∧ u2.cell? ⟨(W1.heap.size + 1), 0, none⟩ = some (.string p') ∧ u2.cell? ⟨(W1.heap.size + 1), 1, none⟩ = some (.int .i64 fk') ∧ u2.cell? ⟨(W1.heap.size + 1), 2, none⟩ = some (.int .i64 fv') ∧ u2.cell? ⟨(W1.heap.size + 1), 3, none⟩ = some (.int .i64 tk') ∧ u2.cell? ⟨(W1.heap.size + 1), 4, none⟩ = some (.int .i64 tv') ∧ Below W7.heap.size W7 u2 from ⟨cell_kept hb h.1, cell_kept hb h.2.1, cell_kept hb h.2.2.1, cell_kept hb h.2.2.2.1, cell_kept hb h.2.2.2.2.1, cell_kept hb h.2.2.2.2.2.1, cell_kept hb h.2.2.2.2.2.2.1, cell_kept hb h.2.2.2.2.2.2.2.1, cell_kept hb h.2.2.2.2.2.2.2.2.1, cell_kept hb h.2.2.2.2.2.2.2.2.2.1, below_next h.2.2.2.2.2.2.2.2.2.2 hb⟩)
              clear he1 he2 hkv1 hkv2
              have HX0 := Lib.hid (show Below W7.heap.size W7 W7.drew from (Below.refl _ _).drew)
              clear a0 a1 a2 a3 a4 b0 b1 b2 b3 b4
              cases e1 with
              | false =>
                clear HEE
                go_upto_region 22 with (fail)
                refine wp_region_held_drew (S := fun w' => w'.cell? ⟨W1.heap.size, 0, none⟩ = some (.string p) ∧ w'.cell? ⟨W1.heap.size, 1, none⟩ = some (.int .i64 fk) ∧ w'.cell? ⟨W1.heap.size, 2, none⟩ = some (.int .i64 fv) ∧ w'.cell? ⟨W1.heap.size, 3, none⟩ = some (.int .i64 tk) ∧ w'.cell? ⟨W1.heap.size, 4, none⟩ = some (.int .i64 tv) ∧ w'.cell? ⟨(W1.heap.size + 1), 0, none⟩ = some (.string p') ∧ w'.cell? ⟨(W1.heap.size + 1), 1, none⟩ = some (.int .i64 fk') ∧ w'.cell? ⟨(W1.heap.size + 1), 2, none⟩ = some (.int .i64 fv') ∧ w'.cell? ⟨(W1.heap.size + 1), 3, none⟩ = some (.int .i64 tk') ∧ w'.cell? ⟨(W1.heap.size + 1), 4, none⟩ = some (.int .i64 tv') ∧ Below W7.heap.size W7 w') (by kernel_rfl) HS0.out (fun hH => ?_)
                refine wpAnyH_take (i := 0) (oi := _) (v := ?_) rfl (by kernel_rfl) (by kernel_rfl) (by kernel_rfl) (fun _ _ _ h => h) (Or.inl ⟨by rfl, ?_⟩) (by assumption) ?_
                rotate_left
                · (intro w hSw; (try dsimp only at hSw); go_simp; try with_reducible rfl)
                try simp only [Act.put, List.getElem_toArray, List.getElem_cons_zero, List.setIfInBounds_toArray, List.set_cons_zero, List.set_cons_succ]
                refine wpAnyH_take (i := 1) (oi := _) (v := ?_) rfl (by kernel_rfl) (by kernel_rfl) (by kernel_rfl) (fun _ _ _ h => h) (Or.inl ⟨by rfl, ?_⟩) (by assumption) ?_
                rotate_left
                · (intro w hSw; (try dsimp only at hSw); go_simp; try with_reducible rfl)
                try simp only [Act.put, List.getElem_toArray, List.getElem_cons_zero, List.getElem_cons_succ, List.setIfInBounds_toArray, List.set_cons_zero, List.set_cons_succ]
                refine wpAnyH_take (i := 2) (oi := _) (v := ?_) rfl (by kernel_rfl) (by kernel_rfl) (by kernel_rfl) (fun _ _ _ h => h) (Or.inl ⟨by rfl, ?_⟩) (by assumption) ?_
                rotate_left
                · (intro w hSw; (try dsimp only at hSw); go_simp; try with_reducible rfl)
                try simp only [Act.put, List.getElem_toArray, List.getElem_cons_zero, List.getElem_cons_succ, List.setIfInBounds_toArray, List.set_cons_zero, List.set_cons_succ]
                refine wpAnyH_take (i := 4) (oi := _) (v := ?_) rfl (by kernel_rfl) (by kernel_rfl) (by kernel_rfl) (fun _ _ _ h => h) (Or.inl ⟨by rfl, ?_⟩) (by assumption) ?_
                rotate_left
                · (intro w hSw; (try dsimp only at hSw); go_simp; try with_reducible rfl)
                try simp only [Act.put, List.getElem_toArray, List.getElem_cons_zero, List.getElem_cons_succ, List.setIfInBounds_toArray, List.set_cons_zero, List.set_cons_succ]
                refine wpAnyH_take (i := 5) (oi := _) (v := ?_) rfl (by kernel_rfl) (by kernel_rfl) (by kernel_rfl) (fun _ _ _ h => h) (Or.inl ⟨by rfl, ?_⟩) (by assumption) ?_
                rotate_left
                · (intro w hSw; (try dsimp only at hSw); go_simp; try with_reducible rfl)
                try simp only [Act.put, List.getElem_toArray, List.getElem_cons_zero, List.getElem_cons_succ, List.setIfInBounds_toArray, List.set_cons_zero, List.set_cons_succ]
                refine wpAnyH_ready (rs := [3]) (by kernel_rfl) (by simp) ?_
                refine AllReadyH.cons rfl (fun K hK => ?_) (AllReadyH.nil)
                first | rw [if_pos (by rfl)] | skip
                go_simp
                go_at_call 19; (with_reducible refine (HG1.out _ HX0.out).mono ?_); rintro e W8 ⟨rfl, hb8⟩; have X8 := Lib.hid (below_next HX0.out hb8); have HS8 := Lib.hid (HKP.out _ _ HS0.out hb8); clear hb8
                refine hK.out _ _ HS8.out (fun hHeld => ?_)
                try simp only [Act.put, List.getElem_toArray, List.getElem_cons_zero, List.getElem_cons_succ, List.setIfInBounds_toArray, List.set_cons_zero, List.set_cons_succ]
                refine wpAnyH_take (i := 6) (oi := _) (v := ?_) rfl (by kernel_rfl) (by kernel_rfl) (by kernel_rfl) (fun _ _ _ h => h) (Or.inl ⟨by rfl, ?_⟩) (by assumption) ?_
                rotate_left
                · (intro w hSw; (try dsimp only at hSw); go_simp; try with_reducible rfl)
                try simp only [Act.put, List.getElem_toArray, List.getElem_cons_zero, List.getElem_cons_succ, List.setIfInBounds_toArray, List.set_cons_zero, List.set_cons_succ]
                refine wpAnyH_take (i := 7) (oi := _) (v := ?_) rfl (by kernel_rfl) (by kernel_rfl) (by kernel_rfl) (fun _ _ _ h => h) (Or.inl ⟨by rfl, ?_⟩) (by assumption) ?_
                rotate_left
                · (intro w hSw; (try dsimp only at hSw); go_simp; try with_reducible rfl)
                try simp only [Act.put, List.getElem_toArray, List.getElem_cons_zero, List.getElem_cons_succ, List.setIfInBounds_toArray, List.set_cons_zero, List.set_cons_succ]
                first | refine wpAnyH_take (i := 8) (oi := _) (v := undef) rfl (by kernel_rfl) (by kernel_rfl) (by kernel_rfl) (fun _ _ _ h => h) (Or.inr ⟨by rfl, rfl⟩) (by assumption) ?_ | (refine wpAnyH_ready (rs := [8]) (by kernel_rfl) (by simp) ?_; refine AllReadyH.cons rfl (fun K hK => ?_) (AllReadyH.nil); rw [if_neg (by decide)]; refine hK.out _ _ (by assumption) (fun hHeld => ?_))
                try simp only [Act.put, List.getElem_toArray, List.getElem_cons_zero, List.getElem_cons_succ, List.setIfInBounds_toArray, List.set_cons_zero, List.set_cons_succ]
                first | refine wpAnyH_take (i := 9) (oi := _) (v := undef) rfl (by kernel_rfl) (by kernel_rfl) (by kernel_rfl) (fun _ _ _ h => h) (Or.inr ⟨by rfl, rfl⟩) (by assumption) ?_ | (refine wpAnyH_ready (rs := [9]) (by kernel_rfl) (by simp) ?_; refine AllReadyH.cons rfl (fun K hK => ?_) (AllReadyH.nil); rw [if_neg (by decide)]; refine hK.out _ _ (by assumption) (fun hHeld => ?_))
                try simp only [Act.put, List.getElem_toArray, List.getElem_cons_zero, List.getElem_cons_succ, List.setIfInBounds_toArray, List.set_cons_zero, List.set_cons_succ]
                first | refine wpAnyH_take (i := 10) (oi := _) (v := undef) rfl (by kernel_rfl) (by kernel_rfl) (by kernel_rfl) (fun _ _ _ h => h) (Or.inr ⟨by rfl, rfl⟩) (by assumption) ?_ | (refine wpAnyH_ready (rs := [10]) (by kernel_rfl) (by simp) ?_; refine AllReadyH.cons rfl (fun K hK => ?_) (AllReadyH.nil); rw [if_neg (by decide)]; refine hK.out _ _ (by assumption) (fun hHeld => ?_))
                try simp only [Act.put, List.getElem_toArray, List.getElem_cons_zero, List.getElem_cons_succ, List.setIfInBounds_toArray, List.set_cons_zero, List.set_cons_succ]
                first | refine wpAnyH_take (i := 11) (oi := _) (v := undef) rfl (by kernel_rfl) (by kernel_rfl) (by kernel_rfl) (fun _ _ _ h => h) (Or.inr ⟨by rfl, rfl⟩) (by assumption) ?_ | (refine wpAnyH_ready (rs := [11]) (by kernel_rfl) (by simp) ?_; refine AllReadyH.cons rfl (fun K hK => ?_) (AllReadyH.nil); rw [if_neg (by decide)]; refine hK.out _ _ (by assumption) (fun hHeld => ?_))
                try simp only [Act.put, List.getElem_toArray, List.getElem_cons_zero, List.getElem_cons_succ, List.setIfInBounds_toArray, List.set_cons_zero, List.set_cons_succ]
                first | refine wpAnyH_take (i := 12) (oi := _) (v := undef) rfl (by kernel_rfl) (by kernel_rfl) (by kernel_rfl) (fun _ _ _ h => h) (Or.inr ⟨by rfl, rfl⟩) (by assumption) ?_ | (refine wpAnyH_ready (rs := [12]) (by kernel_rfl) (by simp) ?_; refine AllReadyH.cons rfl (fun K hK => ?_) (AllReadyH.nil); rw [if_neg (by decide)]; refine hK.out _ _ (by assumption) (fun hHeld => ?_))
                try simp only [Act.put, List.getElem_toArray, List.getElem_cons_zero, List.getElem_cons_succ, List.setIfInBounds_toArray, List.set_cons_zero, List.set_cons_succ]
                first | refine wpAnyH_take (i := 13) (oi := _) (v := undef) rfl (by kernel_rfl) (by kernel_rfl) (by kernel_rfl) (fun _ _ _ h => h) (Or.inr ⟨by rfl, rfl⟩) (by assumption) ?_ | (refine wpAnyH_ready (rs := [13]) (by kernel_rfl) (by simp) ?_; refine AllReadyH.cons rfl (fun K hK => ?_) (AllReadyH.nil); rw [if_neg (by decide)]; refine hK.out _ _ (by assumption) (fun hHeld => ?_))
                try simp only [Act.put, List.getElem_toArray, List.getElem_cons_zero, List.getElem_cons_succ, List.setIfInBounds_toArray, List.set_cons_zero, List.set_cons_succ]
                first | refine wpAnyH_take (i := 14) (oi := _) (v := undef) rfl (by kernel_rfl) (by kernel_rfl) (by kernel_rfl) (fun _ _ _ h => h) (Or.inr ⟨by rfl, rfl⟩) (by assumption) ?_ | (refine wpAnyH_ready (rs := [14]) (by kernel_rfl) (by simp) ?_; refine AllReadyH.cons rfl (fun K hK => ?_) (AllReadyH.nil); rw [if_neg (by decide)]; refine hK.out _ _ (by assumption) (fun hHeld => ?_))
                try simp only [Act.put, List.getElem_toArray, List.getElem_cons_zero, List.getElem_cons_succ, List.setIfInBounds_toArray, List.set_cons_zero, List.set_cons_succ]
                refine wpAnyH_take (i := 15) (oi := _) (v := ?_) rfl (by kernel_rfl) (by kernel_rfl) (by kernel_rfl) (fun _ _ _ h => h) (Or.inl ⟨by rfl, ?_⟩) (by assumption) ?_
                rotate_left
                · (intro w hSw; (try dsimp only at hSw); go_simp; try with_reducible rfl)
                try simp only [Act.put, List.getElem_toArray, List.getElem_cons_zero, List.getElem_cons_succ, List.setIfInBounds_toArray, List.set_cons_zero, List.set_cons_succ]
                refine wpAnyH_take (i := 16) (oi := _) (v := ?_) rfl (by kernel_rfl) (by kernel_rfl) (by kernel_rfl) (fun _ _ _ h => h) (Or.inl ⟨by rfl, ?_⟩) (by assumption) ?_
                rotate_left
                · (intro w hSw; (try dsimp only at hSw); go_simp; try with_reducible rfl)
                try simp only [Act.put, List.getElem_toArray, List.getElem_cons_zero, List.getElem_cons_succ, List.setIfInBounds_toArray, List.set_cons_zero, List.set_cons_succ]
                refine wpAnyH_done (by kernel_rfl) ?_ _
                go_wp2
                go_ret
                exact ⟨rfl, below_next HBL.out (below_next B7.out X8.out)⟩
              | true =>
                obtain rfl := HEE.out rfl
                go_upto_region 22 with (fail)
                refine wp_region_held_drew (S := fun w' => w'.cell? ⟨W1.heap.size, 0, none⟩ = some (.string p) ∧ w'.cell? ⟨W1.heap.size, 1, none⟩ = some (.int .i64 fk) ∧ w'.cell? ⟨W1.heap.size, 2, none⟩ = some (.int .i64 fv) ∧ w'.cell? ⟨W1.heap.size, 3, none⟩ = some (.int .i64 tk) ∧ w'.cell? ⟨W1.heap.size, 4, none⟩ = some (.int .i64 tv) ∧ w'.cell? ⟨(W1.heap.size + 1), 0, none⟩ = some (.string p') ∧ w'.cell? ⟨(W1.heap.size + 1), 1, none⟩ = some (.int .i64 fk') ∧ w'.cell? ⟨(W1.heap.size + 1), 2, none⟩ = some (.int .i64 fv') ∧ w'.cell? ⟨(W1.heap.size + 1), 3, none⟩ = some (.int .i64 tk') ∧ w'.cell? ⟨(W1.heap.size + 1), 4, none⟩ = some (.int .i64 tv') ∧ Below W7.heap.size W7 w') (by kernel_rfl) HS0.out (fun hH => ?_)
                refine wpAnyH_take (i := 0) (oi := _) (v := ?_) rfl (by kernel_rfl) (by kernel_rfl) (by kernel_rfl) (fun _ _ _ h => h) (Or.inl ⟨by rfl, ?_⟩) (by assumption) ?_
                rotate_left
                · (intro w hSw; (try dsimp only at hSw); go_simp; try with_reducible rfl)
                try simp only [Act.put, List.getElem_toArray, List.getElem_cons_zero, List.setIfInBounds_toArray, List.set_cons_zero, List.set_cons_succ]
                refine wpAnyH_take (i := 1) (oi := _) (v := ?_) rfl (by kernel_rfl) (by kernel_rfl) (by kernel_rfl) (fun _ _ _ h => h) (Or.inl ⟨by rfl, ?_⟩) (by assumption) ?_
                rotate_left
                · (intro w hSw; (try dsimp only at hSw); go_simp; try with_reducible rfl)
                try simp only [Act.put, List.getElem_toArray, List.getElem_cons_zero, List.getElem_cons_succ, List.setIfInBounds_toArray, List.set_cons_zero, List.set_cons_succ]
                refine wpAnyH_take (i := 2) (oi := _) (v := ?_) rfl (by kernel_rfl) (by kernel_rfl) (by kernel_rfl) (fun _ _ _ h => h) (Or.inl ⟨by rfl, ?_⟩) (by assumption) ?_
                rotate_left
                · (intro w hSw; (try dsimp only at hSw); go_simp; try with_reducible rfl)
                try simp only [Act.put, List.getElem_toArray, List.getElem_cons_zero, List.getElem_cons_succ, List.setIfInBounds_toArray, List.set_cons_zero, List.set_cons_succ]
                refine wpAnyH_take (i := 4) (oi := _) (v := ?_) rfl (by kernel_rfl) (by kernel_rfl) (by kernel_rfl) (fun _ _ _ h => h) (Or.inl ⟨by rfl, ?_⟩) (by assumption) ?_
                rotate_left
                · (intro w hSw; (try dsimp only at hSw); go_simp; try with_reducible rfl)
                try simp only [Act.put, List.getElem_toArray, List.getElem_cons_zero, List.getElem_cons_succ, List.setIfInBounds_toArray, List.set_cons_zero, List.set_cons_succ]
                refine wpAnyH_take (i := 5) (oi := _) (v := ?_) rfl (by kernel_rfl) (by kernel_rfl) (by kernel_rfl) (fun _ _ _ h => h) (Or.inl ⟨by rfl, ?_⟩) (by assumption) ?_
                rotate_left
                · (intro w hSw; (try dsimp only at hSw); go_simp; try with_reducible rfl)
                try simp only [Act.put, List.getElem_toArray, List.getElem_cons_zero, List.getElem_cons_succ, List.setIfInBounds_toArray, List.set_cons_zero, List.set_cons_succ]
                refine wpAnyH_ready (rs := [3]) (by kernel_rfl) (by simp) ?_
                refine AllReadyH.cons rfl (fun K hK => ?_) (AllReadyH.nil)
                first | rw [if_pos (by rfl)] | skip
                go_simp
                go_at_call 19; (with_reducible refine (HG1.out _ HX0.out).mono ?_); rintro e W8 ⟨rfl, hb8⟩; have X8 := Lib.hid (below_next HX0.out hb8); have HS8 := Lib.hid (HKP.out _ _ HS0.out hb8); clear hb8
                refine hK.out _ _ HS8.out (fun hHeld => ?_)
                try simp only [Act.put, List.getElem_toArray, List.getElem_cons_zero, List.getElem_cons_succ, List.setIfInBounds_toArray, List.set_cons_zero, List.set_cons_succ]
                refine wpAnyH_take (i := 6) (oi := _) (v := ?_) rfl (by kernel_rfl) (by kernel_rfl) (by kernel_rfl) (fun _ _ _ h => h) (Or.inl ⟨by rfl, ?_⟩) (by assumption) ?_
                rotate_left
                · (intro w hSw; (try dsimp only at hSw); go_simp; try with_reducible rfl)
                try simp only [Act.put, List.getElem_toArray, List.getElem_cons_zero, List.getElem_cons_succ, List.setIfInBounds_toArray, List.set_cons_zero, List.set_cons_succ]
                refine wpAnyH_take (i := 7) (oi := _) (v := ?_) rfl (by kernel_rfl) (by kernel_rfl) (by kernel_rfl) (fun _ _ _ h => h) (Or.inl ⟨by rfl, ?_⟩) (by assumption) ?_
                rotate_left
                · (intro w hSw; (try dsimp only at hSw); go_simp; try with_reducible rfl)
                try simp only [Act.put, List.getElem_toArray, List.getElem_cons_zero, List.getElem_cons_succ, List.setIfInBounds_toArray, List.set_cons_zero, List.set_cons_succ]
                refine wpAnyH_take (i := 8) (oi := _) (v := ?_) rfl (by kernel_rfl) (by kernel_rfl) (by kernel_rfl) (fun _ _ _ h => h) (Or.inl ⟨by rfl, ?_⟩) (by assumption) ?_
                rotate_left
                · (intro w hSw; (try dsimp only at hSw); go_simp; try with_reducible rfl)
                try simp only [Act.put, List.getElem_toArray, List.getElem_cons_zero, List.getElem_cons_succ, List.setIfInBounds_toArray, List.set_cons_zero, List.set_cons_succ]
                refine wpAnyH_take (i := 9) (oi := _) (v := ?_) rfl (by kernel_rfl) (by kernel_rfl) (by kernel_rfl) (fun _ _ _ h => h) (Or.inl ⟨by rfl, ?_⟩) (by assumption) ?_
                rotate_left
                · (intro w hSw; (try dsimp only at hSw); go_simp; try with_reducible rfl)
                try simp only [Act.put, List.getElem_toArray, List.getElem_cons_zero, List.getElem_cons_succ, List.setIfInBounds_toArray, List.set_cons_zero, List.set_cons_succ]
                refine wpAnyH_take (i := 10) (oi := _) (v := ?_) rfl (by kernel_rfl) (by kernel_rfl) (by kernel_rfl) (fun _ _ _ h => h) (Or.inl ⟨by rfl, ?_⟩) (by assumption) ?_
                rotate_left
                · (intro w hSw; (try dsimp only at hSw); go_simp; try with_reducible rfl)
                try simp only [Act.put, List.getElem_toArray, List.getElem_cons_zero, List.getElem_cons_succ, List.setIfInBounds_toArray, List.set_cons_zero, List.set_cons_succ]
                refine wpAnyH_take (i := 12) (oi := _) (v := ?_) rfl (by kernel_rfl) (by kernel_rfl) (by kernel_rfl) (fun _ _ _ h => h) (Or.inl ⟨by rfl, ?_⟩) (by assumption) ?_
                rotate_left
                · (intro w hSw; (try dsimp only at hSw); go_simp; try with_reducible rfl)
                try simp only [Act.put, List.getElem_toArray, List.getElem_cons_zero, List.getElem_cons_succ, List.setIfInBounds_toArray, List.set_cons_zero, List.set_cons_succ]
                refine wpAnyH_take (i := 13) (oi := _) (v := ?_) rfl (by kernel_rfl) (by kernel_rfl) (by kernel_rfl) (fun _ _ _ h => h) (Or.inl ⟨by rfl, ?_⟩) (by assumption) ?_
                rotate_left
                · (intro w hSw; (try dsimp only at hSw); go_simp; try with_reducible rfl)
                try simp only [Act.put, List.getElem_toArray, List.getElem_cons_zero, List.getElem_cons_succ, List.setIfInBounds_toArray, List.set_cons_zero, List.set_cons_succ]
                refine wpAnyH_ready (rs := [11]) (by kernel_rfl) (by simp) ?_
                refine AllReadyH.cons rfl (fun K hK => ?_) (AllReadyH.nil)
                first | rw [if_pos (by rfl)] | skip
                go_simp
                go_at_call 19; (with_reducible refine (HG2.out _ X8.out).mono ?_); rintro e W9 ⟨rfl, hb9⟩; have X9 := Lib.hid (below_next X8.out hb9); have HS9 := Lib.hid (HKP.out _ _ HS8.out hb9); clear hb9
                refine hK.out _ _ HS9.out (fun hHeld => ?_)
                try simp only [Act.put, List.getElem_toArray, List.getElem_cons_zero, List.getElem_cons_succ, List.setIfInBounds_toArray, List.set_cons_zero, List.set_cons_succ]
                refine wpAnyH_take (i := 14) (oi := _) (v := ?_) rfl (by kernel_rfl) (by kernel_rfl) (by kernel_rfl) (fun _ _ _ h => h) (Or.inl ⟨by rfl, ?_⟩) (by assumption) ?_
                rotate_left
                · (intro w hSw; (try dsimp only at hSw); go_simp; try with_reducible rfl)
                try simp only [Act.put, List.getElem_toArray, List.getElem_cons_zero, List.getElem_cons_succ, List.setIfInBounds_toArray, List.set_cons_zero, List.set_cons_succ]
                refine wpAnyH_take (i := 15) (oi := _) (v := ?_) rfl (by kernel_rfl) (by kernel_rfl) (by kernel_rfl) (fun _ _ _ h => h) (Or.inl ⟨by rfl, ?_⟩) (by assumption) ?_
                rotate_left
                · (intro w hSw; (try dsimp only at hSw); go_simp; try with_reducible rfl)
                try simp only [Act.put, List.getElem_toArray, List.getElem_cons_zero, List.getElem_cons_succ, List.setIfInBounds_toArray, List.set_cons_zero, List.set_cons_succ]
                refine wpAnyH_take (i := 16) (oi := _) (v := ?_) rfl (by kernel_rfl) (by kernel_rfl) (by kernel_rfl) (fun _ _ _ h => h) (Or.inl ⟨by rfl, ?_⟩) (by assumption) ?_
                rotate_left
                · (intro w hSw; (try dsimp only at hSw); go_simp; try with_reducible rfl)
                try simp only [Act.put, List.getElem_toArray, List.getElem_cons_zero, List.getElem_cons_succ, List.setIfInBounds_toArray, List.set_cons_zero, List.set_cons_succ]
                refine wpAnyH_done (by kernel_rfl) ?_ _
                go_wp2
                go_ret
                exact ⟨rfl, below_next HBL.out (below_next B7.out X9.out)⟩
            | true =>
              obtain ⟨ns7, hv7, hn7⟩ := hc7 (by first | rfl | trivial)
              have V7 := Lib.hid hv7
              have N7 := Lib.hid hn7
              clear hc7 hv7 hn7
              obtain ⟨k1, v1, hkv1⟩ : ∃ k v, treeGet ns7 p = (k, v) := ⟨_, _, rfl⟩
              obtain ⟨k2, v2, hkv2⟩ : ∃ k v, treeGet ns7 p' = (k, v) := ⟨_, _, rfl⟩
              have HG1 := Lib.hid (fun W' (hb : Below W7.heap.size W7 W') => HGC.out x7 n7 q7 ns7 V7.out k1 v1 hkv1 W' (N7.out.keep hb))
              have HG2 := Lib.hid (fun W' (hb : Below W7.heap.size W7 W') => HGD.out x7 n7 q7 ns7 V7.out k2 v2 hkv2 W' (N7.out.keep hb))
              have HNB := Lib.hid (HCT.out (by first | rfl | trivial) ns7 V7.out)
              obtain ⟨e1, he1⟩ : ∃ e, (k1 == tk && v1 == tv) = e := ⟨_, rfl⟩
              obtain ⟨e2, he2⟩ : ∃ e, (k2 == tk' && v2 == tv') = e := ⟨_, rfl⟩
              have HEE := Lib.hid (show e1 = true → e2 = false by
                intro h
                rw [h] at he1
                rw [Bool.and_eq_true, beq_iff_eq, beq_iff_eq] at he1
                cases he : e2 with
                | false => rfl
                | true =>
                  rw [he, Bool.and_eq_true, beq_iff_eq, beq_iff_eq] at he2
                  refine absurd (And.intro ?_ ?_) HNB.out
                  · rw [hkv1, he1.1, he1.2]
                  · rw [hkv2, he2.1, he2.2])
              have hne1 := fun w => (conNeQ k1 v1 tk tv w).trans (show _ = Result.ok (Value.bool (!e1)) w by rw [he1])
              have hne2 := fun w => (conNeQ k2 v2 tk' tv' w).trans (show _ = Result.ok (Value.bool (!e2)) w by rw [he2])
              unfold ConRet con at HG1 HG2
              have HS0 := Lib.hid (show W7.drew.cell? ⟨W1.heap.size, 0, none⟩ = some (.string p) ∧ W7.drew.cell? ⟨W1.heap.size, 1, none⟩ = some (.int .i64 fk) ∧ W7.drew.cell? ⟨W1.heap.size, 2, none⟩ = some (.int .i64 fv) ∧ W7.drew.cell? ⟨W1.heap.size, 3, none⟩ = some (.int .i64 tk) ∧ W7.drew.cell? ⟨W1.heap.size, 4, none⟩ = some (.int .i64 tv) ∧ W7.drew.cell? ⟨(W1.heap.size + 1), 0, none⟩ = some (.string p') ∧ W7.drew.cell? ⟨(W1.heap.size + 1), 1, none⟩ = some (.int .i64 fk') ∧ W7.drew.cell? ⟨(W1.heap.size + 1), 2, none⟩ = some (.int .i64 fv') ∧ W7.drew.cell? ⟨(W1.heap.size + 1), 3, none⟩ = some (.int .i64 tk') ∧ W7.drew.cell? ⟨(W1.heap.size + 1), 4, none⟩ = some (.int .i64 tv') ∧ Below W7.heap.size W7 W7.drew from ⟨a0, a1, a2, a3, a4, b0, b1, b2, b3, b4, (Below.refl _ _).drew⟩)
              have HKP := Lib.hid (fun (u1 u2 : World) (h : u1.cell? ⟨W1.heap.size, 0, none⟩ = some (.string p) ∧ u1.cell? ⟨W1.heap.size, 1, none⟩ = some (.int .i64 fk) ∧ u1.cell? ⟨W1.heap.size, 2, none⟩ = some (.int .i64 fv) ∧ u1.cell? ⟨W1.heap.size, 3, none⟩ = some (.int .i64 tk) ∧ u1.cell? ⟨W1.heap.size, 4, none⟩ = some (.int .i64 tv) ∧ u1.cell? ⟨(W1.heap.size + 1), 0, none⟩ = some (.string p') ∧ u1.cell? ⟨(W1.heap.size + 1), 1, none⟩ = some (.int .i64 fk') ∧ u1.cell? ⟨(W1.heap.size + 1), 2, none⟩ = some (.int .i64 fv') ∧ u1.cell? ⟨(W1.heap.size + 1), 3, none⟩ = some (.int .i64 tk') ∧ u1.cell? ⟨(W1.heap.size + 1), 4, none⟩ = some (.int .i64 tv') ∧ Below W7.heap.size W7 u1) (hb : Below u1.heap.size u1 u2) => show u2.cell? ⟨W1.heap.size, 0, none⟩ = some (.string p) ∧ u2.cell? ⟨W1.heap.size, 1, none⟩ = some (.int .i64 fk) ∧ u2.cell? ⟨W1.heap.size, 2, none⟩ = some (.int .i64 fv) ∧ u2.cell? ⟨W1.heap.size, 3, none⟩ = some (.int .i64 tk) ∧ u2.cell? ⟨W1.heap.size, 4, none⟩ = some (.int .i64 tv) ∧ u2.cell? ⟨(W1.heap.size + 1), 0, none⟩ = some (.string p') ∧ u2.cell? ⟨(W1.heap.size + 1), 1, none⟩ = some (.int .i64 fk') ∧ u2.cell? ⟨(W1.heap.size + 1), 2, none⟩ = some (.int .i64 fv') ∧ u2.cell? ⟨(W1.heap.size + 1), 3, none⟩ = some (.int .i64 tk') ∧ u2.cell? ⟨(W1.heap.size + 1), 4, none⟩ = some (.int .i64 tv') ∧ Below W7.heap.size W7 u2 from ⟨cell_kept hb h.1, cell_kept hb h.2.1, cell_kept hb h.2.2.1, cell_kept hb h.2.2.2.1, cell_kept hb h.2.2.2.2.1, cell_kept hb h.2.2.2.2.2.1, cell_kept hb h.2.2.2.2.2.2.1, cell_kept hb h.2.2.2.2.2.2.2.1, cell_kept hb h.2.2.2.2.2.2.2.2.1, cell_kept hb h.2.2.2.2.2.2.2.2.2.1, below_next h.2.2.2.2.2.2.2.2.2.2 hb⟩)
              clear he1 he2 hkv1 hkv2
              have HX0 := Lib.hid (show Below W7.heap.size W7 W7.drew from (Below.refl _ _).drew)
              clear a0 a1 a2 a3 a4 b0 b1 b2 b3 b4
              cases e1 with
              | false =>
                clear HEE
                go_upto_region 22 with (fail)
                refine wp_region_held_drew (S := fun w' => w'.cell? ⟨W1.heap.size, 0, none⟩ = some (.string p) ∧ w'.cell? ⟨W1.heap.size, 1, none⟩ = some (.int .i64 fk) ∧ w'.cell? ⟨W1.heap.size, 2, none⟩ = some (.int .i64 fv) ∧ w'.cell? ⟨W1.heap.size, 3, none⟩ = some (.int .i64 tk) ∧ w'.cell? ⟨W1.heap.size, 4, none⟩ = some (.int .i64 tv) ∧ w'.cell? ⟨(W1.heap.size + 1), 0, none⟩ = some (.string p') ∧ w'.cell? ⟨(W1.heap.size + 1), 1, none⟩ = some (.int .i64 fk') ∧ w'.cell? ⟨(W1.heap.size + 1), 2, none⟩ = some (.int .i64 fv') ∧ w'.cell? ⟨(W1.heap.size + 1), 3, none⟩ = some (.int .i64 tk') ∧ w'.cell? ⟨(W1.heap.size + 1), 4, none⟩ = some (.int .i64 tv') ∧ Below W7.heap.size W7 w') (by kernel_rfl) HS0.out (fun hH => ?_)
                refine wpAnyH_take (i := 0) (oi := _) (v := ?_) rfl (by kernel_rfl) (by kernel_rfl) (by kernel_rfl) (fun _ _ _ h => h) (Or.inl ⟨by rfl, ?_⟩) (by assumption) ?_
                rotate_left
                · (intro w hSw; (try dsimp only at hSw); go_simp; try with_reducible rfl)
                try simp only [Act.put, List.getElem_toArray, List.getElem_cons_zero, List.setIfInBounds_toArray, List.set_cons_zero, List.set_cons_succ]
                refine wpAnyH_take (i := 1) (oi := _) (v := ?_) rfl (by kernel_rfl) (by kernel_rfl) (by kernel_rfl) (fun _ _ _ h => h) (Or.inl ⟨by rfl, ?_⟩) (by assumption) ?_
                rotate_left
                · (intro w hSw; (try dsimp only at hSw); go_simp; try with_reducible rfl)
                try simp only [Act.put, List.getElem_toArray, List.getElem_cons_zero, List.getElem_cons_succ, List.setIfInBounds_toArray, List.set_cons_zero, List.set_cons_succ]
                refine wpAnyH_take (i := 2) (oi := _) (v := ?_) rfl (by kernel_rfl) (by kernel_rfl) (by kernel_rfl) (fun _ _ _ h => h) (Or.inl ⟨by rfl, ?_⟩) (by assumption) ?_
                rotate_left
                · (intro w hSw; (try dsimp only at hSw); go_simp; try with_reducible rfl)
                try simp only [Act.put, List.getElem_toArray, List.getElem_cons_zero, List.getElem_cons_succ, List.setIfInBounds_toArray, List.set_cons_zero, List.set_cons_succ]
                refine wpAnyH_take (i := 4) (oi := _) (v := ?_) rfl (by kernel_rfl) (by kernel_rfl) (by kernel_rfl) (fun _ _ _ h => h) (Or.inl ⟨by rfl, ?_⟩) (by assumption) ?_
                rotate_left
                · (intro w hSw; (try dsimp only at hSw); go_simp; try with_reducible rfl)
                try simp only [Act.put, List.getElem_toArray, List.getElem_cons_zero, List.getElem_cons_succ, List.setIfInBounds_toArray, List.set_cons_zero, List.set_cons_succ]
                refine wpAnyH_take (i := 5) (oi := _) (v := ?_) rfl (by kernel_rfl) (by kernel_rfl) (by kernel_rfl) (fun _ _ _ h => h) (Or.inl ⟨by rfl, ?_⟩) (by assumption) ?_
                rotate_left
                · (intro w hSw; (try dsimp only at hSw); go_simp; try with_reducible rfl)
                try simp only [Act.put, List.getElem_toArray, List.getElem_cons_zero, List.getElem_cons_succ, List.setIfInBounds_toArray, List.set_cons_zero, List.set_cons_succ]
                refine wpAnyH_ready (rs := [3]) (by kernel_rfl) (by simp) ?_
                refine AllReadyH.cons rfl (fun K hK => ?_) (AllReadyH.nil)
                first | rw [if_pos (by rfl)] | skip
                go_simp
                go_at_call 19; (with_reducible refine (HG1.out _ HX0.out).mono ?_); rintro e W8 ⟨rfl, hb8⟩; have X8 := Lib.hid (below_next HX0.out hb8); have HS8 := Lib.hid (HKP.out _ _ HS0.out hb8); clear hb8
                refine hK.out _ _ HS8.out (fun hHeld => ?_)
                try simp only [Act.put, List.getElem_toArray, List.getElem_cons_zero, List.getElem_cons_succ, List.setIfInBounds_toArray, List.set_cons_zero, List.set_cons_succ]
                refine wpAnyH_take (i := 6) (oi := _) (v := ?_) rfl (by kernel_rfl) (by kernel_rfl) (by kernel_rfl) (fun _ _ _ h => h) (Or.inl ⟨by rfl, ?_⟩) (by assumption) ?_
                rotate_left
                · (intro w hSw; (try dsimp only at hSw); go_simp; try with_reducible rfl)
                try simp only [Act.put, List.getElem_toArray, List.getElem_cons_zero, List.getElem_cons_succ, List.setIfInBounds_toArray, List.set_cons_zero, List.set_cons_succ]
                refine wpAnyH_take (i := 7) (oi := _) (v := ?_) rfl (by kernel_rfl) (by kernel_rfl) (by kernel_rfl) (fun _ _ _ h => h) (Or.inl ⟨by rfl, ?_⟩) (by assumption) ?_
                rotate_left
                · (intro w hSw; (try dsimp only at hSw); go_simp; try with_reducible rfl)
                try simp only [Act.put, List.getElem_toArray, List.getElem_cons_zero, List.getElem_cons_succ, List.setIfInBounds_toArray, List.set_cons_zero, List.set_cons_succ]
                first | refine wpAnyH_take (i := 8) (oi := _) (v := undef) rfl (by kernel_rfl) (by kernel_rfl) (by kernel_rfl) (fun _ _ _ h => h) (Or.inr ⟨by rfl, rfl⟩) (by assumption) ?_ | (refine wpAnyH_ready (rs := [8]) (by kernel_rfl) (by simp) ?_; refine AllReadyH.cons rfl (fun K hK => ?_) (AllReadyH.nil); rw [if_neg (by decide)]; refine hK.out _ _ (by assumption) (fun hHeld => ?_))
                try simp only [Act.put, List.getElem_toArray, List.getElem_cons_zero, List.getElem_cons_succ, List.setIfInBounds_toArray, List.set_cons_zero, List.set_cons_succ]
                first | refine wpAnyH_take (i := 9) (oi := _) (v := undef) rfl (by kernel_rfl) (by kernel_rfl) (by kernel_rfl) (fun _ _ _ h => h) (Or.inr ⟨by rfl, rfl⟩) (by assumption) ?_ | (refine wpAnyH_ready (rs := [9]) (by kernel_rfl) (by simp) ?_; refine AllReadyH.cons rfl (fun K hK => ?_) (AllReadyH.nil); rw [if_neg (by decide)]; refine hK.out _ _ (by assumption) (fun hHeld => ?_))
                try simp only [Act.put, List.getElem_toArray, List.getElem_cons_zero, List.getElem_cons_succ, List.setIfInBounds_toArray, List.set_cons_zero, List.set_cons_succ]
                first | refine wpAnyH_take (i := 10) (oi := _) (v := undef) rfl (by kernel_rfl) (by kernel_rfl) (by kernel_rfl) (fun _ _ _ h => h) (Or.inr ⟨by rfl, rfl⟩) (by assumption) ?_ | (refine wpAnyH_ready (rs := [10]) (by kernel_rfl) (by simp) ?_; refine AllReadyH.cons rfl (fun K hK => ?_) (AllReadyH.nil); rw [if_neg (by decide)]; refine hK.out _ _ (by assumption) (fun hHeld => ?_))
                try simp only [Act.put, List.getElem_toArray, List.getElem_cons_zero, List.getElem_cons_succ, List.setIfInBounds_toArray, List.set_cons_zero, List.set_cons_succ]
                first | refine wpAnyH_take (i := 11) (oi := _) (v := undef) rfl (by kernel_rfl) (by kernel_rfl) (by kernel_rfl) (fun _ _ _ h => h) (Or.inr ⟨by rfl, rfl⟩) (by assumption) ?_ | (refine wpAnyH_ready (rs := [11]) (by kernel_rfl) (by simp) ?_; refine AllReadyH.cons rfl (fun K hK => ?_) (AllReadyH.nil); rw [if_neg (by decide)]; refine hK.out _ _ (by assumption) (fun hHeld => ?_))
                try simp only [Act.put, List.getElem_toArray, List.getElem_cons_zero, List.getElem_cons_succ, List.setIfInBounds_toArray, List.set_cons_zero, List.set_cons_succ]
                first | refine wpAnyH_take (i := 12) (oi := _) (v := undef) rfl (by kernel_rfl) (by kernel_rfl) (by kernel_rfl) (fun _ _ _ h => h) (Or.inr ⟨by rfl, rfl⟩) (by assumption) ?_ | (refine wpAnyH_ready (rs := [12]) (by kernel_rfl) (by simp) ?_; refine AllReadyH.cons rfl (fun K hK => ?_) (AllReadyH.nil); rw [if_neg (by decide)]; refine hK.out _ _ (by assumption) (fun hHeld => ?_))
                try simp only [Act.put, List.getElem_toArray, List.getElem_cons_zero, List.getElem_cons_succ, List.setIfInBounds_toArray, List.set_cons_zero, List.set_cons_succ]
                first | refine wpAnyH_take (i := 13) (oi := _) (v := undef) rfl (by kernel_rfl) (by kernel_rfl) (by kernel_rfl) (fun _ _ _ h => h) (Or.inr ⟨by rfl, rfl⟩) (by assumption) ?_ | (refine wpAnyH_ready (rs := [13]) (by kernel_rfl) (by simp) ?_; refine AllReadyH.cons rfl (fun K hK => ?_) (AllReadyH.nil); rw [if_neg (by decide)]; refine hK.out _ _ (by assumption) (fun hHeld => ?_))
                try simp only [Act.put, List.getElem_toArray, List.getElem_cons_zero, List.getElem_cons_succ, List.setIfInBounds_toArray, List.set_cons_zero, List.set_cons_succ]
                first | refine wpAnyH_take (i := 14) (oi := _) (v := undef) rfl (by kernel_rfl) (by kernel_rfl) (by kernel_rfl) (fun _ _ _ h => h) (Or.inr ⟨by rfl, rfl⟩) (by assumption) ?_ | (refine wpAnyH_ready (rs := [14]) (by kernel_rfl) (by simp) ?_; refine AllReadyH.cons rfl (fun K hK => ?_) (AllReadyH.nil); rw [if_neg (by decide)]; refine hK.out _ _ (by assumption) (fun hHeld => ?_))
                try simp only [Act.put, List.getElem_toArray, List.getElem_cons_zero, List.getElem_cons_succ, List.setIfInBounds_toArray, List.set_cons_zero, List.set_cons_succ]
                refine wpAnyH_take (i := 15) (oi := _) (v := ?_) rfl (by kernel_rfl) (by kernel_rfl) (by kernel_rfl) (fun _ _ _ h => h) (Or.inl ⟨by rfl, ?_⟩) (by assumption) ?_
                rotate_left
                · (intro w hSw; (try dsimp only at hSw); go_simp; try with_reducible rfl)
                try simp only [Act.put, List.getElem_toArray, List.getElem_cons_zero, List.getElem_cons_succ, List.setIfInBounds_toArray, List.set_cons_zero, List.set_cons_succ]
                refine wpAnyH_take (i := 16) (oi := _) (v := ?_) rfl (by kernel_rfl) (by kernel_rfl) (by kernel_rfl) (fun _ _ _ h => h) (Or.inl ⟨by rfl, ?_⟩) (by assumption) ?_
                rotate_left
                · (intro w hSw; (try dsimp only at hSw); go_simp; try with_reducible rfl)
                try simp only [Act.put, List.getElem_toArray, List.getElem_cons_zero, List.getElem_cons_succ, List.setIfInBounds_toArray, List.set_cons_zero, List.set_cons_succ]
                refine wpAnyH_done (by kernel_rfl) ?_ _
                go_wp2
                go_ret
                exact ⟨rfl, below_next HBL.out (below_next B7.out X8.out)⟩
              | true =>
                obtain rfl := HEE.out rfl
                go_upto_region 22 with (fail)
                refine wp_region_held_drew (S := fun w' => w'.cell? ⟨W1.heap.size, 0, none⟩ = some (.string p) ∧ w'.cell? ⟨W1.heap.size, 1, none⟩ = some (.int .i64 fk) ∧ w'.cell? ⟨W1.heap.size, 2, none⟩ = some (.int .i64 fv) ∧ w'.cell? ⟨W1.heap.size, 3, none⟩ = some (.int .i64 tk) ∧ w'.cell? ⟨W1.heap.size, 4, none⟩ = some (.int .i64 tv) ∧ w'.cell? ⟨(W1.heap.size + 1), 0, none⟩ = some (.string p') ∧ w'.cell? ⟨(W1.heap.size + 1), 1, none⟩ = some (.int .i64 fk') ∧ w'.cell? ⟨(W1.heap.size + 1), 2, none⟩ = some (.int .i64 fv') ∧ w'.cell? ⟨(W1.heap.size + 1), 3, none⟩ = some (.int .i64 tk') ∧ w'.cell? ⟨(W1.heap.size + 1), 4, none⟩ = some (.int .i64 tv') ∧ Below W7.heap.size W7 w') (by kernel_rfl) HS0.out (fun hH => ?_)
                refine wpAnyH_take (i := 0) (oi := _) (v := ?_) rfl (by kernel_rfl) (by kernel_rfl) (by kernel_rfl) (fun _ _ _ h => h) (Or.inl ⟨by rfl, ?_⟩) (by assumption) ?_
                rotate_left
                · (intro w hSw; (try dsimp only at hSw); go_simp; try with_reducible rfl)
                try simp only [Act.put, List.getElem_toArray, List.getElem_cons_zero, List.setIfInBounds_toArray, List.set_cons_zero, List.set_cons_succ]
                refine wpAnyH_take (i := 1) (oi := _) (v := ?_) rfl (by kernel_rfl) (by kernel_rfl) (by kernel_rfl) (fun _ _ _ h => h) (Or.inl ⟨by rfl, ?_⟩) (by assumption) ?_
                rotate_left
                · (intro w hSw; (try dsimp only at hSw); go_simp; try with_reducible rfl)
                try simp only [Act.put, List.getElem_toArray, List.getElem_cons_zero, List.getElem_cons_succ, List.setIfInBounds_toArray, List.set_cons_zero, List.set_cons_succ]
                refine wpAnyH_take (i := 2) (oi := _) (v := ?_) rfl (by kernel_rfl) (by kernel_rfl) (by kernel_rfl) (fun _ _ _ h => h) (Or.inl ⟨by rfl, ?_⟩) (by assumption) ?_
                rotate_left
                · (intro w hSw; (try dsimp only at hSw); go_simp; try with_reducible rfl)
                try simp only [Act.put, List.getElem_toArray, List.getElem_cons_zero, List.getElem_cons_succ, List.setIfInBounds_toArray, List.set_cons_zero, List.set_cons_succ]
                refine wpAnyH_take (i := 4) (oi := _) (v := ?_) rfl (by kernel_rfl) (by kernel_rfl) (by kernel_rfl) (fun _ _ _ h => h) (Or.inl ⟨by rfl, ?_⟩) (by assumption) ?_
                rotate_left
                · (intro w hSw; (try dsimp only at hSw); go_simp; try with_reducible rfl)
                try simp only [Act.put, List.getElem_toArray, List.getElem_cons_zero, List.getElem_cons_succ, List.setIfInBounds_toArray, List.set_cons_zero, List.set_cons_succ]
                refine wpAnyH_take (i := 5) (oi := _) (v := ?_) rfl (by kernel_rfl) (by kernel_rfl) (by kernel_rfl) (fun _ _ _ h => h) (Or.inl ⟨by rfl, ?_⟩) (by assumption) ?_
                rotate_left
                · (intro w hSw; (try dsimp only at hSw); go_simp; try with_reducible rfl)
                try simp only [Act.put, List.getElem_toArray, List.getElem_cons_zero, List.getElem_cons_succ, List.setIfInBounds_toArray, List.set_cons_zero, List.set_cons_succ]
                refine wpAnyH_ready (rs := [3]) (by kernel_rfl) (by simp) ?_
                refine AllReadyH.cons rfl (fun K hK => ?_) (AllReadyH.nil)
                first | rw [if_pos (by rfl)] | skip
                go_simp
                go_at_call 19; (with_reducible refine (HG1.out _ HX0.out).mono ?_); rintro e W8 ⟨rfl, hb8⟩; have X8 := Lib.hid (below_next HX0.out hb8); have HS8 := Lib.hid (HKP.out _ _ HS0.out hb8); clear hb8
                refine hK.out _ _ HS8.out (fun hHeld => ?_)
                try simp only [Act.put, List.getElem_toArray, List.getElem_cons_zero, List.getElem_cons_succ, List.setIfInBounds_toArray, List.set_cons_zero, List.set_cons_succ]
                refine wpAnyH_take (i := 6) (oi := _) (v := ?_) rfl (by kernel_rfl) (by kernel_rfl) (by kernel_rfl) (fun _ _ _ h => h) (Or.inl ⟨by rfl, ?_⟩) (by assumption) ?_
                rotate_left
                · (intro w hSw; (try dsimp only at hSw); go_simp; try with_reducible rfl)
                try simp only [Act.put, List.getElem_toArray, List.getElem_cons_zero, List.getElem_cons_succ, List.setIfInBounds_toArray, List.set_cons_zero, List.set_cons_succ]
                refine wpAnyH_take (i := 7) (oi := _) (v := ?_) rfl (by kernel_rfl) (by kernel_rfl) (by kernel_rfl) (fun _ _ _ h => h) (Or.inl ⟨by rfl, ?_⟩) (by assumption) ?_
                rotate_left
                · (intro w hSw; (try dsimp only at hSw); go_simp; try with_reducible rfl)
                try simp only [Act.put, List.getElem_toArray, List.getElem_cons_zero, List.getElem_cons_succ, List.setIfInBounds_toArray, List.set_cons_zero, List.set_cons_succ]
                refine wpAnyH_take (i := 8) (oi := _) (v := ?_) rfl (by kernel_rfl) (by kernel_rfl) (by kernel_rfl) (fun _ _ _ h => h) (Or.inl ⟨by rfl, ?_⟩) (by assumption) ?_
                rotate_left
                · (intro w hSw; (try dsimp only at hSw); go_simp; try with_reducible rfl)
                try simp only [Act.put, List.getElem_toArray, List.getElem_cons_zero, List.getElem_cons_succ, List.setIfInBounds_toArray, List.set_cons_zero, List.set_cons_succ]
                refine wpAnyH_take (i := 9) (oi := _) (v := ?_) rfl (by kernel_rfl) (by kernel_rfl) (by kernel_rfl) (fun _ _ _ h => h) (Or.inl ⟨by rfl, ?_⟩) (by assumption) ?_
                rotate_left
                · (intro w hSw; (try dsimp only at hSw); go_simp; try with_reducible rfl)
                try simp only [Act.put, List.getElem_toArray, List.getElem_cons_zero, List.getElem_cons_succ, List.setIfInBounds_toArray, List.set_cons_zero, List.set_cons_succ]
                refine wpAnyH_take (i := 10) (oi := _) (v := ?_) rfl (by kernel_rfl) (by kernel_rfl) (by kernel_rfl) (fun _ _ _ h => h) (Or.inl ⟨by rfl, ?_⟩) (by assumption) ?_
                rotate_left
                · (intro w hSw; (try dsimp only at hSw); go_simp; try with_reducible rfl)
                try simp only [Act.put, List.getElem_toArray, List.getElem_cons_zero, List.getElem_cons_succ, List.setIfInBounds_toArray, List.set_cons_zero, List.set_cons_succ]
                refine wpAnyH_take (i := 12) (oi := _) (v := ?_) rfl (by kernel_rfl) (by kernel_rfl) (by kernel_rfl) (fun _ _ _ h => h) (Or.inl ⟨by rfl, ?_⟩) (by assumption) ?_
                rotate_left
                · (intro w hSw; (try dsimp only at hSw); go_simp; try with_reducible rfl)
                try simp only [Act.put, List.getElem_toArray, List.getElem_cons_zero, List.getElem_cons_succ, List.setIfInBounds_toArray, List.set_cons_zero, List.set_cons_succ]
                refine wpAnyH_take (i := 13) (oi := _) (v := ?_) rfl (by kernel_rfl) (by kernel_rfl) (by kernel_rfl) (fun _ _ _ h => h) (Or.inl ⟨by rfl, ?_⟩) (by assumption) ?_
                rotate_left
                · (intro w hSw; (try dsimp only at hSw); go_simp; try with_reducible rfl)
                try simp only [Act.put, List.getElem_toArray, List.getElem_cons_zero, List.getElem_cons_succ, List.setIfInBounds_toArray, List.set_cons_zero, List.set_cons_succ]
                refine wpAnyH_ready (rs := [11]) (by kernel_rfl) (by simp) ?_
                refine AllReadyH.cons rfl (fun K hK => ?_) (AllReadyH.nil)
                first | rw [if_pos (by rfl)] | skip
                go_simp
                go_at_call 19; (with_reducible refine (HG2.out _ X8.out).mono ?_); rintro e W9 ⟨rfl, hb9⟩; have X9 := Lib.hid (below_next X8.out hb9); have HS9 := Lib.hid (HKP.out _ _ HS8.out hb9); clear hb9
                refine hK.out _ _ HS9.out (fun hHeld => ?_)
                try simp only [Act.put, List.getElem_toArray, List.getElem_cons_zero, List.getElem_cons_succ, List.setIfInBounds_toArray, List.set_cons_zero, List.set_cons_succ]
                refine wpAnyH_take (i := 14) (oi := _) (v := ?_) rfl (by kernel_rfl) (by kernel_rfl) (by kernel_rfl) (fun _ _ _ h => h) (Or.inl ⟨by rfl, ?_⟩) (by assumption) ?_
                rotate_left
                · (intro w hSw; (try dsimp only at hSw); go_simp; try with_reducible rfl)
                try simp only [Act.put, List.getElem_toArray, List.getElem_cons_zero, List.getElem_cons_succ, List.setIfInBounds_toArray, List.set_cons_zero, List.set_cons_succ]
                refine wpAnyH_take (i := 15) (oi := _) (v := ?_) rfl (by kernel_rfl) (by kernel_rfl) (by kernel_rfl) (fun _ _ _ h => h) (Or.inl ⟨by rfl, ?_⟩) (by assumption) ?_
                rotate_left
                · (intro w hSw; (try dsimp only at hSw); go_simp; try with_reducible rfl)
                try simp only [Act.put, List.getElem_toArray, List.getElem_cons_zero, List.getElem_cons_succ, List.setIfInBounds_toArray, List.set_cons_zero, List.set_cons_succ]
                refine wpAnyH_take (i := 16) (oi := _) (v := ?_) rfl (by kernel_rfl) (by kernel_rfl) (by kernel_rfl) (fun _ _ _ h => h) (Or.inl ⟨by rfl, ?_⟩) (by assumption) ?_
                rotate_left
                · (intro w hSw; (try dsimp only at hSw); go_simp; try with_reducible rfl)
                try simp only [Act.put, List.getElem_toArray, List.getElem_cons_zero, List.getElem_cons_succ, List.setIfInBounds_toArray, List.set_cons_zero, List.set_cons_succ]
                refine wpAnyH_done (by kernel_rfl) ?_ _
                go_wp2
                go_ret
                exact ⟨rfl, below_next HBL.out (below_next B7.out X9.out)⟩
          | true =>
            obtain ⟨ns6, hv6, hn6⟩ := hc6 (by first | rfl | trivial)
            have V6 := Lib.hid hv6
            have N6 := Lib.hid hn6
            clear hc6 hv6 hn6
            go_wp2_with fail
            refine (HPD.out _ _ _ _ V6.out _ N6.out).mono ?_
            rintro e W7 ⟨x7, n7, q7, b7, rfl, hc7, hb7⟩
            have T7 := Lib.hid (T6.out.keep hb7)
            have B7 := Lib.hid (below_next B6.out hb7)
            have N7o := Lib.hid (N6.out.keep hb7)
            clear a0 a1 a2 a3 a4 b0 b1 b2 b3 b4 hb7
            obtain ⟨a0, a1, a2, a3, a4, b0, b1, b2, b3, b4⟩ := T7.out
            cases b7 with
            | false =>
              clear hc7
              obtain ⟨k1, v1, hkv1⟩ : ∃ k v, treeGet ns6 p = (k, v) := ⟨_, _, rfl⟩
              obtain ⟨k2, v2, hkv2⟩ : ∃ k v, treeGet ns6 p' = (k, v) := ⟨_, _, rfl⟩
              have HG1 := Lib.hid (fun W' (hb : Below W7.heap.size W7 W') => HGC.out x6 n6 q6 ns6 V6.out k1 v1 hkv1 W' (N7o.out.keep hb))
              have HG2 := Lib.hid (fun W' (hb : Below W7.heap.size W7 W') => HGD.out x6 n6 q6 ns6 V6.out k2 v2 hkv2 W' (N7o.out.keep hb))
              have HNB := Lib.hid (HCT.out (by first | rfl | trivial) ns6 V6.out)
              obtain ⟨e1, he1⟩ : ∃ e, (k1 == tk && v1 == tv) = e := ⟨_, rfl⟩
              obtain ⟨e2, he2⟩ : ∃ e, (k2 == tk' && v2 == tv') = e := ⟨_, rfl⟩
              have HEE := Lib.hid (show e1 = true → e2 = false by
                intro h
                rw [h] at he1
                rw [Bool.and_eq_true, beq_iff_eq, beq_iff_eq] at he1
                cases he : e2 with
                | false => rfl
                | true =>
                  rw [he, Bool.and_eq_true, beq_iff_eq, beq_iff_eq] at he2
                  refine absurd (And.intro ?_ ?_) HNB.out
                  · rw [hkv1, he1.1, he1.2]
                  · rw [hkv2, he2.1, he2.2])
              have hne1 := fun w => (conNeQ k1 v1 tk tv w).trans (show _ = Result.ok (Value.bool (!e1)) w by rw [he1])
              have hne2 := fun w => (conNeQ k2 v2 tk' tv' w).trans (show _ = Result.ok (Value.bool (!e2)) w by rw [he2])
              unfold ConRet con at HG1 HG2
              have HS0 := Lib.hid (show W7.drew.cell? ⟨W1.heap.size, 0, none⟩ = some (.string p) ∧ W7.drew.cell? ⟨W1.heap.size, 1, none⟩ = some (.int .i64 fk) ∧ W7.drew.cell? ⟨W1.heap.size, 2, none⟩ = some (.int .i64 fv) ∧ W7.drew.cell? ⟨W1.heap.size, 3, none⟩ = some (.int .i64 tk) ∧ W7.drew.cell? ⟨W1.heap.size, 4, none⟩ = some (.int .i64 tv) ∧ W7.drew.cell? ⟨(W1.heap.size + 1), 0, none⟩ = some (.string p') ∧ W7.drew.cell? ⟨(W1.heap.size + 1), 1, none⟩ = some (.int .i64 fk') ∧ W7.drew.cell? ⟨(W1.heap.size + 1), 2, none⟩ = some (.int .i64 fv') ∧ W7.drew.cell? ⟨(W1.heap.size + 1), 3, none⟩ = some (.int .i64 tk') ∧ W7.drew.cell? ⟨(W1.heap.size + 1), 4, none⟩ = some (.int .i64 tv') ∧ Below W7.heap.size W7 W7.drew from ⟨a0, a1, a2, a3, a4, b0, b1, b2, b3, b4, (Below.refl _ _).drew⟩)
              have HKP := Lib.hid (fun (u1 u2 : World) (h : u1.cell? ⟨W1.heap.size, 0, none⟩ = some (.string p) ∧ u1.cell? ⟨W1.heap.size, 1, none⟩ = some (.int .i64 fk) ∧ u1.cell? ⟨W1.heap.size, 2, none⟩ = some (.int .i64 fv) ∧ u1.cell? ⟨W1.heap.size, 3, none⟩ = some (.int .i64 tk) ∧ u1.cell? ⟨W1.heap.size, 4, none⟩ = some (.int .i64 tv) ∧ u1.cell? ⟨(W1.heap.size + 1), 0, none⟩ = some (.string p') ∧ u1.cell? ⟨(W1.heap.size + 1), 1, none⟩ = some (.int .i64 fk') ∧ u1.cell? ⟨(W1.heap.size + 1), 2, none⟩ = some (.int .i64 fv') ∧ u1.cell? ⟨(W1.heap.size + 1), 3, none⟩ = some (.int .i64 tk') ∧ u1.cell? ⟨(W1.heap.size + 1), 4, none⟩ = some (.int .i64 tv') ∧ Below W7.heap.size W7 u1) (hb : Below u1.heap.size u1 u2) => show u2.cell? ⟨W1.heap.size, 0, none⟩ = some (.string p) ∧ u2.cell? ⟨W1.heap.size, 1, none⟩ = some (.int .i64 fk) ∧ u2.cell? ⟨W1.heap.size, 2, none⟩ = some (.int .i64 fv) ∧ u2.cell? ⟨W1.heap.size, 3, none⟩ = some (.int .i64 tk) ∧ u2.cell? ⟨W1.heap.size, 4, none⟩ = some (.int .i64 tv) ∧ u2.cell? ⟨(W1.heap.size + 1), 0, none⟩ = some (.string p') ∧ u2.cell? ⟨(W1.heap.size + 1), 1, none⟩ = some (.int .i64 fk') ∧ u2.cell? ⟨(W1.heap.size + 1), 2, none⟩ = some (.int .i64 fv') ∧ u2.cell? ⟨(W1.heap.size + 1), 3, none⟩ = some (.int .i64 tk') ∧ u2.cell? ⟨(W1.heap.size + 1), 4, none⟩ = some (.int .i64 tv') ∧ Below W7.heap.size W7 u2 from ⟨cell_kept hb h.1, cell_kept hb h.2.1, cell_kept hb h.2.2.1, cell_kept hb h.2.2.2.1, cell_kept hb h.2.2.2.2.1, cell_kept hb h.2.2.2.2.2.1, cell_kept hb h.2.2.2.2.2.2.1, cell_kept hb h.2.2.2.2.2.2.2.1, cell_kept hb h.2.2.2.2.2.2.2.2.1, cell_kept hb h.2.2.2.2.2.2.2.2.2.1, below_next h.2.2.2.2.2.2.2.2.2.2 hb⟩)
              clear he1 he2 hkv1 hkv2
              have HX0 := Lib.hid (show Below W7.heap.size W7 W7.drew from (Below.refl _ _).drew)
              clear a0 a1 a2 a3 a4 b0 b1 b2 b3 b4
              cases e1 with
              | false =>
                clear HEE
                go_upto_region 22 with (fail)
                refine wp_region_held_drew (S := fun w' => w'.cell? ⟨W1.heap.size, 0, none⟩ = some (.string p) ∧ w'.cell? ⟨W1.heap.size, 1, none⟩ = some (.int .i64 fk) ∧ w'.cell? ⟨W1.heap.size, 2, none⟩ = some (.int .i64 fv) ∧ w'.cell? ⟨W1.heap.size, 3, none⟩ = some (.int .i64 tk) ∧ w'.cell? ⟨W1.heap.size, 4, none⟩ = some (.int .i64 tv) ∧ w'.cell? ⟨(W1.heap.size + 1), 0, none⟩ = some (.string p') ∧ w'.cell? ⟨(W1.heap.size + 1), 1, none⟩ = some (.int .i64 fk') ∧ w'.cell? ⟨(W1.heap.size + 1), 2, none⟩ = some (.int .i64 fv') ∧ w'.cell? ⟨(W1.heap.size + 1), 3, none⟩ = some (.int .i64 tk') ∧ w'.cell? ⟨(W1.heap.size + 1), 4, none⟩ = some (.int .i64 tv') ∧ Below W7.heap.size W7 w') (by kernel_rfl) HS0.out (fun hH => ?_)
                refine wpAnyH_take (i := 0) (oi := _) (v := ?_) rfl (by kernel_rfl) (by kernel_rfl) (by kernel_rfl) (fun _ _ _ h => h) (Or.inl ⟨by rfl, ?_⟩) (by assumption) ?_
                rotate_left
                · (intro w hSw; (try dsimp only at hSw); go_simp; try with_reducible rfl)
                try simp only [Act.put, List.getElem_toArray, List.getElem_cons_zero, List.setIfInBounds_toArray, List.set_cons_zero, List.set_cons_succ]
                refine wpAnyH_take (i := 1) (oi := _) (v := ?_) rfl (by kernel_rfl) (by kernel_rfl) (by kernel_rfl) (fun _ _ _ h => h) (Or.inl ⟨by rfl, ?_⟩) (by assumption) ?_
                rotate_left
                · (intro w hSw; (try dsimp only at hSw); go_simp; try with_reducible rfl)
                try simp only [Act.put, List.getElem_toArray, List.getElem_cons_zero, List.getElem_cons_succ, List.setIfInBounds_toArray, List.set_cons_zero, List.set_cons_succ]
                refine wpAnyH_take (i := 2) (oi := _) (v := ?_) rfl (by kernel_rfl) (by kernel_rfl) (by kernel_rfl) (fun _ _ _ h => h) (Or.inl ⟨by rfl, ?_⟩) (by assumption) ?_
                rotate_left
                · (intro w hSw; (try dsimp only at hSw); go_simp; try with_reducible rfl)
                try simp only [Act.put, List.getElem_toArray, List.getElem_cons_zero, List.getElem_cons_succ, List.setIfInBounds_toArray, List.set_cons_zero, List.set_cons_succ]
                refine wpAnyH_take (i := 4) (oi := _) (v := ?_) rfl (by kernel_rfl) (by kernel_rfl) (by kernel_rfl) (fun _ _ _ h => h) (Or.inl ⟨by rfl, ?_⟩) (by assumption) ?_
                rotate_left
                · (intro w hSw; (try dsimp only at hSw); go_simp; try with_reducible rfl)
                try simp only [Act.put, List.getElem_toArray, List.getElem_cons_zero, List.getElem_cons_succ, List.setIfInBounds_toArray, List.set_cons_zero, List.set_cons_succ]
                refine wpAnyH_take (i := 5) (oi := _) (v := ?_) rfl (by kernel_rfl) (by kernel_rfl) (by kernel_rfl) (fun _ _ _ h => h) (Or.inl ⟨by rfl, ?_⟩) (by assumption) ?_
                rotate_left
                · (intro w hSw; (try dsimp only at hSw); go_simp; try with_reducible rfl)
                try simp only [Act.put, List.getElem_toArray, List.getElem_cons_zero, List.getElem_cons_succ, List.setIfInBounds_toArray, List.set_cons_zero, List.set_cons_succ]
                refine wpAnyH_ready (rs := [3]) (by kernel_rfl) (by simp) ?_
                refine AllReadyH.cons rfl (fun K hK => ?_) (AllReadyH.nil)
                first | rw [if_pos (by rfl)] | skip
                go_simp
                go_at_call 19; (with_reducible refine (HG1.out _ HX0.out).mono ?_); rintro e W8 ⟨rfl, hb8⟩; have X8 := Lib.hid (below_next HX0.out hb8); have HS8 := Lib.hid (HKP.out _ _ HS0.out hb8); clear hb8
                refine hK.out _ _ HS8.out (fun hHeld => ?_)
                try simp only [Act.put, List.getElem_toArray, List.getElem_cons_zero, List.getElem_cons_succ, List.setIfInBounds_toArray, List.set_cons_zero, List.set_cons_succ]
                refine wpAnyH_take (i := 6) (oi := _) (v := ?_) rfl (by kernel_rfl) (by kernel_rfl) (by kernel_rfl) (fun _ _ _ h => h) (Or.inl ⟨by rfl, ?_⟩) (by assumption) ?_
                rotate_left
                · (intro w hSw; (try dsimp only at hSw); go_simp; try with_reducible rfl)
                try simp only [Act.put, List.getElem_toArray, List.getElem_cons_zero, List.getElem_cons_succ, List.setIfInBounds_toArray, List.set_cons_zero, List.set_cons_succ]
                refine wpAnyH_take (i := 7) (oi := _) (v := ?_) rfl (by kernel_rfl) (by kernel_rfl) (by kernel_rfl) (fun _ _ _ h => h) (Or.inl ⟨by rfl, ?_⟩) (by assumption) ?_
                rotate_left
                · (intro w hSw; (try dsimp only at hSw); go_simp; try with_reducible rfl)
                try simp only [Act.put, List.getElem_toArray, List.getElem_cons_zero, List.getElem_cons_succ, List.setIfInBounds_toArray, List.set_cons_zero, List.set_cons_succ]
                first | refine wpAnyH_take (i := 8) (oi := _) (v := undef) rfl (by kernel_rfl) (by kernel_rfl) (by kernel_rfl) (fun _ _ _ h => h) (Or.inr ⟨by rfl, rfl⟩) (by assumption) ?_ | (refine wpAnyH_ready (rs := [8]) (by kernel_rfl) (by simp) ?_; refine AllReadyH.cons rfl (fun K hK => ?_) (AllReadyH.nil); rw [if_neg (by decide)]; refine hK.out _ _ (by assumption) (fun hHeld => ?_))
                try simp only [Act.put, List.getElem_toArray, List.getElem_cons_zero, List.getElem_cons_succ, List.setIfInBounds_toArray, List.set_cons_zero, List.set_cons_succ]
                first | refine wpAnyH_take (i := 9) (oi := _) (v := undef) rfl (by kernel_rfl) (by kernel_rfl) (by kernel_rfl) (fun _ _ _ h => h) (Or.inr ⟨by rfl, rfl⟩) (by assumption) ?_ | (refine wpAnyH_ready (rs := [9]) (by kernel_rfl) (by simp) ?_; refine AllReadyH.cons rfl (fun K hK => ?_) (AllReadyH.nil); rw [if_neg (by decide)]; refine hK.out _ _ (by assumption) (fun hHeld => ?_))
                try simp only [Act.put, List.getElem_toArray, List.getElem_cons_zero, List.getElem_cons_succ, List.setIfInBounds_toArray, List.set_cons_zero, List.set_cons_succ]
                first | refine wpAnyH_take (i := 10) (oi := _) (v := undef) rfl (by kernel_rfl) (by kernel_rfl) (by kernel_rfl) (fun _ _ _ h => h) (Or.inr ⟨by rfl, rfl⟩) (by assumption) ?_ | (refine wpAnyH_ready (rs := [10]) (by kernel_rfl) (by simp) ?_; refine AllReadyH.cons rfl (fun K hK => ?_) (AllReadyH.nil); rw [if_neg (by decide)]; refine hK.out _ _ (by assumption) (fun hHeld => ?_))
                try simp only [Act.put, List.getElem_toArray, List.getElem_cons_zero, List.getElem_cons_succ, List.setIfInBounds_toArray, List.set_cons_zero, List.set_cons_succ]
                first | refine wpAnyH_take (i := 11) (oi := _) (v := undef) rfl (by kernel_rfl) (by kernel_rfl) (by kernel_rfl) (fun _ _ _ h => h) (Or.inr ⟨by rfl, rfl⟩) (by assumption) ?_ | (refine wpAnyH_ready (rs := [11]) (by kernel_rfl) (by simp) ?_; refine AllReadyH.cons rfl (fun K hK => ?_) (AllReadyH.nil); rw [if_neg (by decide)]; refine hK.out _ _ (by assumption) (fun hHeld => ?_))
                try simp only [Act.put, List.getElem_toArray, List.getElem_cons_zero, List.getElem_cons_succ, List.setIfInBounds_toArray, List.set_cons_zero, List.set_cons_succ]
                first | refine wpAnyH_take (i := 12) (oi := _) (v := undef) rfl (by kernel_rfl) (by kernel_rfl) (by kernel_rfl) (fun _ _ _ h => h) (Or.inr ⟨by rfl, rfl⟩) (by assumption) ?_ | (refine wpAnyH_ready (rs := [12]) (by kernel_rfl) (by simp) ?_; refine AllReadyH.cons rfl (fun K hK => ?_) (AllReadyH.nil); rw [if_neg (by decide)]; refine hK.out _ _ (by assumption) (fun hHeld => ?_))
                try simp only [Act.put, List.getElem_toArray, List.getElem_cons_zero, List.getElem_cons_succ, List.setIfInBounds_toArray, List.set_cons_zero, List.set_cons_succ]
                first | refine wpAnyH_take (i := 13) (oi := _) (v := undef) rfl (by kernel_rfl) (by kernel_rfl) (by kernel_rfl) (fun _ _ _ h => h) (Or.inr ⟨by rfl, rfl⟩) (by assumption) ?_ | (refine wpAnyH_ready (rs := [13]) (by kernel_rfl) (by simp) ?_; refine AllReadyH.cons rfl (fun K hK => ?_) (AllReadyH.nil); rw [if_neg (by decide)]; refine hK.out _ _ (by assumption) (fun hHeld => ?_))
                try simp only [Act.put, List.getElem_toArray, List.getElem_cons_zero, List.getElem_cons_succ, List.setIfInBounds_toArray, List.set_cons_zero, List.set_cons_succ]
                first | refine wpAnyH_take (i := 14) (oi := _) (v := undef) rfl (by kernel_rfl) (by kernel_rfl) (by kernel_rfl) (fun _ _ _ h => h) (Or.inr ⟨by rfl, rfl⟩) (by assumption) ?_ | (refine wpAnyH_ready (rs := [14]) (by kernel_rfl) (by simp) ?_; refine AllReadyH.cons rfl (fun K hK => ?_) (AllReadyH.nil); rw [if_neg (by decide)]; refine hK.out _ _ (by assumption) (fun hHeld => ?_))
                try simp only [Act.put, List.getElem_toArray, List.getElem_cons_zero, List.getElem_cons_succ, List.setIfInBounds_toArray, List.set_cons_zero, List.set_cons_succ]
                refine wpAnyH_take (i := 15) (oi := _) (v := ?_) rfl (by kernel_rfl) (by kernel_rfl) (by kernel_rfl) (fun _ _ _ h => h) (Or.inl ⟨by rfl, ?_⟩) (by assumption) ?_
                rotate_left
                · (intro w hSw; (try dsimp only at hSw); go_simp; try with_reducible rfl)
                try simp only [Act.put, List.getElem_toArray, List.getElem_cons_zero, List.getElem_cons_succ, List.setIfInBounds_toArray, List.set_cons_zero, List.set_cons_succ]
                refine wpAnyH_take (i := 16) (oi := _) (v := ?_) rfl (by kernel_rfl) (by kernel_rfl) (by kernel_rfl) (fun _ _ _ h => h) (Or.inl ⟨by rfl, ?_⟩) (by assumption) ?_
                rotate_left
                · (intro w hSw; (try dsimp only at hSw); go_simp; try with_reducible rfl)
                try simp only [Act.put, List.getElem_toArray, List.getElem_cons_zero, List.getElem_cons_succ, List.setIfInBounds_toArray, List.set_cons_zero, List.set_cons_succ]
                refine wpAnyH_done (by kernel_rfl) ?_ _
                go_wp2
                go_ret
                exact ⟨rfl, below_next HBL.out (below_next B7.out X8.out)⟩
              | true =>
                obtain rfl := HEE.out rfl
                go_upto_region 22 with (fail)
                refine wp_region_held_drew (S := fun w' => w'.cell? ⟨W1.heap.size, 0, none⟩ = some (.string p) ∧ w'.cell? ⟨W1.heap.size, 1, none⟩ = some (.int .i64 fk) ∧ w'.cell? ⟨W1.heap.size, 2, none⟩ = some (.int .i64 fv) ∧ w'.cell? ⟨W1.heap.size, 3, none⟩ = some (.int .i64 tk) ∧ w'.cell? ⟨W1.heap.size, 4, none⟩ = some (.int .i64 tv) ∧ w'.cell? ⟨(W1.heap.size + 1), 0, none⟩ = some (.string p') ∧ w'.cell? ⟨(W1.heap.size + 1), 1, none⟩ = some (.int .i64 fk') ∧ w'.cell? ⟨(W1.heap.size + 1), 2, none⟩ = some (.int .i64 fv') ∧ w'.cell? ⟨(W1.heap.size + 1), 3, none⟩ = some (.int .i64 tk') ∧ w'.cell? ⟨(W1.heap.size + 1), 4, none⟩ = some (.int .i64 tv') ∧ Below W7.heap.size W7 w') (by kernel_rfl) HS0.out (fun hH => ?_)
                refine wpAnyH_take (i := 0) (oi := _) (v := ?_) rfl (by kernel_rfl) (by kernel_rfl) (by kernel_rfl) (fun _ _ _ h => h) (Or.inl ⟨by rfl, ?_⟩) (by assumption) ?_
                rotate_left
                · (intro w hSw; (try dsimp only at hSw); go_simp; try with_reducible rfl)
                try simp only [Act.put, List.getElem_toArray, List.getElem_cons_zero, List.setIfInBounds_toArray, List.set_cons_zero, List.set_cons_succ]
                refine wpAnyH_take (i := 1) (oi := _) (v := ?_) rfl (by kernel_rfl) (by kernel_rfl) (by kernel_rfl) (fun _ _ _ h => h) (Or.inl ⟨by rfl, ?_⟩) (by assumption) ?_
                rotate_left
                · (intro w hSw; (try dsimp only at hSw); go_simp; try with_reducible rfl)
                try simp only [Act.put, List.getElem_toArray, List.getElem_cons_zero, List.getElem_cons_succ, List.setIfInBounds_toArray, List.set_cons_zero, List.set_cons_succ]
                refine wpAnyH_take (i := 2) (oi := _) (v := ?_) rfl (by kernel_rfl) (by kernel_rfl) (by kernel_rfl) (fun _ _ _ h => h) (Or.inl ⟨by rfl, ?_⟩) (by assumption) ?_
                rotate_left
                · (intro w hSw; (try dsimp only at hSw); go_simp; try with_reducible rfl)
                try simp only [Act.put, List.getElem_toArray, List.getElem_cons_zero, List.getElem_cons_succ, List.setIfInBounds_toArray, List.set_cons_zero, List.set_cons_succ]
                refine wpAnyH_take (i := 4) (oi := _) (v := ?_) rfl (by kernel_rfl) (by kernel_rfl) (by kernel_rfl) (fun _ _ _ h => h) (Or.inl ⟨by rfl, ?_⟩) (by assumption) ?_
                rotate_left
                · (intro w hSw; (try dsimp only at hSw); go_simp; try with_reducible rfl)
                try simp only [Act.put, List.getElem_toArray, List.getElem_cons_zero, List.getElem_cons_succ, List.setIfInBounds_toArray, List.set_cons_zero, List.set_cons_succ]
                refine wpAnyH_take (i := 5) (oi := _) (v := ?_) rfl (by kernel_rfl) (by kernel_rfl) (by kernel_rfl) (fun _ _ _ h => h) (Or.inl ⟨by rfl, ?_⟩) (by assumption) ?_
                rotate_left
                · (intro w hSw; (try dsimp only at hSw); go_simp; try with_reducible rfl)
                try simp only [Act.put, List.getElem_toArray, List.getElem_cons_zero, List.getElem_cons_succ, List.setIfInBounds_toArray, List.set_cons_zero, List.set_cons_succ]
                refine wpAnyH_ready (rs := [3]) (by kernel_rfl) (by simp) ?_
                refine AllReadyH.cons rfl (fun K hK => ?_) (AllReadyH.nil)
                first | rw [if_pos (by rfl)] | skip
                go_simp
                go_at_call 19; (with_reducible refine (HG1.out _ HX0.out).mono ?_); rintro e W8 ⟨rfl, hb8⟩; have X8 := Lib.hid (below_next HX0.out hb8); have HS8 := Lib.hid (HKP.out _ _ HS0.out hb8); clear hb8
                refine hK.out _ _ HS8.out (fun hHeld => ?_)
                try simp only [Act.put, List.getElem_toArray, List.getElem_cons_zero, List.getElem_cons_succ, List.setIfInBounds_toArray, List.set_cons_zero, List.set_cons_succ]
                refine wpAnyH_take (i := 6) (oi := _) (v := ?_) rfl (by kernel_rfl) (by kernel_rfl) (by kernel_rfl) (fun _ _ _ h => h) (Or.inl ⟨by rfl, ?_⟩) (by assumption) ?_
                rotate_left
                · (intro w hSw; (try dsimp only at hSw); go_simp; try with_reducible rfl)
                try simp only [Act.put, List.getElem_toArray, List.getElem_cons_zero, List.getElem_cons_succ, List.setIfInBounds_toArray, List.set_cons_zero, List.set_cons_succ]
                refine wpAnyH_take (i := 7) (oi := _) (v := ?_) rfl (by kernel_rfl) (by kernel_rfl) (by kernel_rfl) (fun _ _ _ h => h) (Or.inl ⟨by rfl, ?_⟩) (by assumption) ?_
                rotate_left
                · (intro w hSw; (try dsimp only at hSw); go_simp; try with_reducible rfl)
                try simp only [Act.put, List.getElem_toArray, List.getElem_cons_zero, List.getElem_cons_succ, List.setIfInBounds_toArray, List.set_cons_zero, List.set_cons_succ]
                refine wpAnyH_take (i := 8) (oi := _) (v := ?_) rfl (by kernel_rfl) (by kernel_rfl) (by kernel_rfl) (fun _ _ _ h => h) (Or.inl ⟨by rfl, ?_⟩) (by assumption) ?_
                rotate_left
                · (intro w hSw; (try dsimp only at hSw); go_simp; try with_reducible rfl)
                try simp only [Act.put, List.getElem_toArray, List.getElem_cons_zero, List.getElem_cons_succ, List.setIfInBounds_toArray, List.set_cons_zero, List.set_cons_succ]
                refine wpAnyH_take (i := 9) (oi := _) (v := ?_) rfl (by kernel_rfl) (by kernel_rfl) (by kernel_rfl) (fun _ _ _ h => h) (Or.inl ⟨by rfl, ?_⟩) (by assumption) ?_
                rotate_left
                · (intro w hSw; (try dsimp only at hSw); go_simp; try with_reducible rfl)
                try simp only [Act.put, List.getElem_toArray, List.getElem_cons_zero, List.getElem_cons_succ, List.setIfInBounds_toArray, List.set_cons_zero, List.set_cons_succ]
                refine wpAnyH_take (i := 10) (oi := _) (v := ?_) rfl (by kernel_rfl) (by kernel_rfl) (by kernel_rfl) (fun _ _ _ h => h) (Or.inl ⟨by rfl, ?_⟩) (by assumption) ?_
                rotate_left
                · (intro w hSw; (try dsimp only at hSw); go_simp; try with_reducible rfl)
                try simp only [Act.put, List.getElem_toArray, List.getElem_cons_zero, List.getElem_cons_succ, List.setIfInBounds_toArray, List.set_cons_zero, List.set_cons_succ]
                refine wpAnyH_take (i := 12) (oi := _) (v := ?_) rfl (by kernel_rfl) (by kernel_rfl) (by kernel_rfl) (fun _ _ _ h => h) (Or.inl ⟨by rfl, ?_⟩) (by assumption) ?_
                rotate_left
                · (intro w hSw; (try dsimp only at hSw); go_simp; try with_reducible rfl)
                try simp only [Act.put, List.getElem_toArray, List.getElem_cons_zero, List.getElem_cons_succ, List.setIfInBounds_toArray, List.set_cons_zero, List.set_cons_succ]
                refine wpAnyH_take (i := 13) (oi := _) (v := ?_) rfl (by kernel_rfl) (by kernel_rfl) (by kernel_rfl) (fun _ _ _ h => h) (Or.inl ⟨by rfl, ?_⟩) (by assumption) ?_
                rotate_left
                · (intro w hSw; (try dsimp only at hSw); go_simp; try with_reducible rfl)
                try simp only [Act.put, List.getElem_toArray, List.getElem_cons_zero, List.getElem_cons_succ, List.setIfInBounds_toArray, List.set_cons_zero, List.set_cons_succ]
                refine wpAnyH_ready (rs := [11]) (by kernel_rfl) (by simp) ?_
                refine AllReadyH.cons rfl (fun K hK => ?_) (AllReadyH.nil)
                first | rw [if_pos (by rfl)] | skip
                go_simp
                go_at_call 19; (with_reducible refine (HG2.out _ X8.out).mono ?_); rintro e W9 ⟨rfl, hb9⟩; have X9 := Lib.hid (below_next X8.out hb9); have HS9 := Lib.hid (HKP.out _ _ HS8.out hb9); clear hb9
                refine hK.out _ _ HS9.out (fun hHeld => ?_)
                try simp only [Act.put, List.getElem_toArray, List.getElem_cons_zero, List.getElem_cons_succ, List.setIfInBounds_toArray, List.set_cons_zero, List.set_cons_succ]
                refine wpAnyH_take (i := 14) (oi := _) (v := ?_) rfl (by kernel_rfl) (by kernel_rfl) (by kernel_rfl) (fun _ _ _ h => h) (Or.inl ⟨by rfl, ?_⟩) (by assumption) ?_
                rotate_left
                · (intro w hSw; (try dsimp only at hSw); go_simp; try with_reducible rfl)
                try simp only [Act.put, List.getElem_toArray, List.getElem_cons_zero, List.getElem_cons_succ, List.setIfInBounds_toArray, List.set_cons_zero, List.set_cons_succ]
                refine wpAnyH_take (i := 15) (oi := _) (v := ?_) rfl (by kernel_rfl) (by kernel_rfl) (by kernel_rfl) (fun _ _ _ h => h) (Or.inl ⟨by rfl, ?_⟩) (by assumption) ?_
                rotate_left
                · (intro w hSw; (try dsimp only at hSw); go_simp; try with_reducible rfl)
                try simp only [Act.put, List.getElem_toArray, List.getElem_cons_zero, List.getElem_cons_succ, List.setIfInBounds_toArray, List.set_cons_zero, List.set_cons_succ]
                refine wpAnyH_take (i := 16) (oi := _) (v := ?_) rfl (by kernel_rfl) (by kernel_rfl) (by kernel_rfl) (fun _ _ _ h => h) (Or.inl ⟨by rfl, ?_⟩) (by assumption) ?_
                rotate_left
                · (intro w hSw; (try dsimp only at hSw); go_simp; try with_reducible rfl)
                try simp only [Act.put, List.getElem_toArray, List.getElem_cons_zero, List.getElem_cons_succ, List.setIfInBounds_toArray, List.set_cons_zero, List.set_cons_succ]
                refine wpAnyH_done (by kernel_rfl) ?_ _
                go_wp2
                go_ret
                exact ⟨rfl, below_next HBL.out (below_next B7.out X9.out)⟩
            | true =>
              obtain ⟨ns7, hv7, hn7⟩ := hc7 (by first | rfl | trivial)
              have V7 := Lib.hid hv7
              have N7 := Lib.hid hn7
              clear hc7 hv7 hn7
              obtain ⟨k1, v1, hkv1⟩ : ∃ k v, treeGet ns7 p = (k, v) := ⟨_, _, rfl⟩
              obtain ⟨k2, v2, hkv2⟩ : ∃ k v, treeGet ns7 p' = (k, v) := ⟨_, _, rfl⟩
              have HG1 := Lib.hid (fun W' (hb : Below W7.heap.size W7 W') => HGC.out x7 n7 q7 ns7 V7.out k1 v1 hkv1 W' (N7.out.keep hb))
              have HG2 := Lib.hid (fun W' (hb : Below W7.heap.size W7 W') => HGD.out x7 n7 q7 ns7 V7.out k2 v2 hkv2 W' (N7.out.keep hb))
              have HNB := Lib.hid (HCT.out (by first | rfl | trivial) ns7 V7.out)
              obtain ⟨e1, he1⟩ : ∃ e, (k1 == tk && v1 == tv) = e := ⟨_, rfl⟩
              obtain ⟨e2, he2⟩ : ∃ e, (k2 == tk' && v2 == tv') = e := ⟨_, rfl⟩
              have HEE := Lib.hid (show e1 = true → e2 = false by
                intro h
                rw [h] at he1
                rw [Bool.and_eq_true, beq_iff_eq, beq_iff_eq] at he1
                cases he : e2 with
                | false => rfl
                | true =>
                  rw [he, Bool.and_eq_true, beq_iff_eq, beq_iff_eq] at he2
                  refine absurd (And.intro ?_ ?_) HNB.out
                  · rw [hkv1, he1.1, he1.2]
                  · rw [hkv2, he2.1, he2.2])
              have hne1 := fun w => (conNeQ k1 v1 tk tv w).trans (show _ = Result.ok (Value.bool (!e1)) w by rw [he1])
              have hne2 := fun w => (conNeQ k2 v2 tk' tv' w).trans (show _ = Result.ok (Value.bool (!e2)) w by rw [he2])
              unfold ConRet con at HG1 HG2
              have HS0 := Lib.hid (show W7.drew.cell? ⟨W1.heap.size, 0, none⟩ = some (.string p) ∧ W7.drew.cell? ⟨W1.heap.size, 1, none⟩ = some (.int .i64 fk) ∧ W7.drew.cell? ⟨W1.heap.size, 2, none⟩ = some (.int .i64 fv) ∧ W7.drew.cell? ⟨W1.heap.size, 3, none⟩ = some (.int .i64 tk) ∧ W7.drew.cell? ⟨W1.heap.size, 4, none⟩ = some (.int .i64 tv) ∧ W7.drew.cell? ⟨(W1.heap.size + 1), 0, none⟩ = some (.string p') ∧ W7.drew.cell? ⟨(W1.heap.size + 1), 1, none⟩ = some (.int .i64 fk') ∧ W7.drew.cell? ⟨(W1.heap.size + 1), 2, none⟩ = some (.int .i64 fv') ∧ W7.drew.cell? ⟨(W1.heap.size + 1), 3, none⟩ = some (.int .i64 tk') ∧ W7.drew.cell? ⟨(W1.heap.size + 1), 4, none⟩ = some (.int .i64 tv') ∧ Below W7.heap.size W7 W7.drew from ⟨a0, a1, a2, a3, a4, b0, b1, b2, b3, b4, (Below.refl _ _).drew⟩)
              have HKP := Lib.hid (fun (u1 u2 : World) (h : u1.cell? ⟨W1.heap.size, 0, none⟩ = some (.string p) ∧ u1.cell? ⟨W1.heap.size, 1, none⟩ = some (.int .i64 fk) ∧ u1.cell? ⟨W1.heap.size, 2, none⟩ = some (.int .i64 fv) ∧ u1.cell? ⟨W1.heap.size, 3, none⟩ = some (.int .i64 tk) ∧ u1.cell? ⟨W1.heap.size, 4, none⟩ = some (.int .i64 tv) ∧ u1.cell? ⟨(W1.heap.size + 1), 0, none⟩ = some (.string p') ∧ u1.cell? ⟨(W1.heap.size + 1), 1, none⟩ = some (.int .i64 fk') ∧ u1.cell? ⟨(W1.heap.size + 1), 2, none⟩ = some (.int .i64 fv') ∧ u1.cell? ⟨(W1.heap.size + 1), 3, none⟩ = some (.int .i64 tk') ∧ u1.cell? ⟨(W1.heap.size + 1), 4, none⟩ = some (.int .i64 tv') ∧ Below W7.heap.size W7 u1) (hb : Below u1.heap.size u1 u2) => show u2.cell? ⟨W1.heap.size, 0, none⟩ = some (.string p) ∧ u2.cell? ⟨W1.heap.size, 1, none⟩ = some (.int .i64 fk) ∧ u2.cell? ⟨W1.heap.size, 2, none⟩ = some (.int .i64 fv) ∧ u2.cell? ⟨W1.heap.size, 3, none⟩ = some (.int .i64 tk) ∧ u2.cell? ⟨W1.heap.size, 4, none⟩ = some (.int .i64 tv) ∧ u2.cell? ⟨(W1.heap.size + 1), 0, none⟩ = some (.string p') ∧ u2.cell? ⟨(W1.heap.size + 1), 1, none⟩ = some (.int .i64 fk') ∧ u2.cell? ⟨(W1.heap.size + 1), 2, none⟩ = some (.int .i64 fv') ∧ u2.cell? ⟨(W1.heap.size + 1), 3, none⟩ = some (.int .i64 tk') ∧ u2.cell? ⟨(W1.heap.size + 1), 4, none⟩ = some (.int .i64 tv') ∧ Below W7.heap.size W7 u2 from ⟨cell_kept hb h.1, cell_kept hb h.2.1, cell_kept hb h.2.2.1, cell_kept hb h.2.2.2.1, cell_kept hb h.2.2.2.2.1, cell_kept hb h.2.2.2.2.2.1, cell_kept hb h.2.2.2.2.2.2.1, cell_kept hb h.2.2.2.2.2.2.2.1, cell_kept hb h.2.2.2.2.2.2.2.2.1, cell_kept hb h.2.2.2.2.2.2.2.2.2.1, below_next h.2.2.2.2.2.2.2.2.2.2 hb⟩)
              clear he1 he2 hkv1 hkv2
              have HX0 := Lib.hid (show Below W7.heap.size W7 W7.drew from (Below.refl _ _).drew)
              clear a0 a1 a2 a3 a4 b0 b1 b2 b3 b4
              cases e1 with
              | false =>
                clear HEE
                go_upto_region 22 with (fail)
                refine wp_region_held_drew (S := fun w' => w'.cell? ⟨W1.heap.size, 0, none⟩ = some (.string p) ∧ w'.cell? ⟨W1.heap.size, 1, none⟩ = some (.int .i64 fk) ∧ w'.cell? ⟨W1.heap.size, 2, none⟩ = some (.int .i64 fv) ∧ w'.cell? ⟨W1.heap.size, 3, none⟩ = some (.int .i64 tk) ∧ w'.cell? ⟨W1.heap.size, 4, none⟩ = some (.int .i64 tv) ∧ w'.cell? ⟨(W1.heap.size + 1), 0, none⟩ = some (.string p') ∧ w'.cell? ⟨(W1.heap.size + 1), 1, none⟩ = some (.int .i64 fk') ∧ w'.cell? ⟨(W1.heap.size + 1), 2, none⟩ = some (.int .i64 fv') ∧ w'.cell? ⟨(W1.heap.size + 1), 3, none⟩ = some (.int .i64 tk') ∧ w'.cell? ⟨(W1.heap.size + 1), 4, none⟩ = some (.int .i64 tv') ∧ Below W7.heap.size W7 w') (by kernel_rfl) HS0.out (fun hH => ?_)
                refine wpAnyH_take (i := 0) (oi := _) (v := ?_) rfl (by kernel_rfl) (by kernel_rfl) (by kernel_rfl) (fun _ _ _ h => h) (Or.inl ⟨by rfl, ?_⟩) (by assumption) ?_
                rotate_left
                · (intro w hSw; (try dsimp only at hSw); go_simp; try with_reducible rfl)
                try simp only [Act.put, List.getElem_toArray, List.getElem_cons_zero, List.setIfInBounds_toArray, List.set_cons_zero, List.set_cons_succ]
                refine wpAnyH_take (i := 1) (oi := _) (v := ?_) rfl (by kernel_rfl) (by kernel_rfl) (by kernel_rfl) (fun _ _ _ h => h) (Or.inl ⟨by rfl, ?_⟩) (by assumption) ?_
                rotate_left
                · (intro w hSw; (try dsimp only at hSw); go_simp; try with_reducible rfl)
                try simp only [Act.put, List.getElem_toArray, List.getElem_cons_zero, List.getElem_cons_succ, List.setIfInBounds_toArray, List.set_cons_zero, List.set_cons_succ]
                refine wpAnyH_take (i := 2) (oi := _) (v := ?_) rfl (by kernel_rfl) (by kernel_rfl) (by kernel_rfl) (fun _ _ _ h => h) (Or.inl ⟨by rfl, ?_⟩) (by assumption) ?_
                rotate_left
                · (intro w hSw; (try dsimp only at hSw); go_simp; try with_reducible rfl)
                try simp only [Act.put, List.getElem_toArray, List.getElem_cons_zero, List.getElem_cons_succ, List.setIfInBounds_toArray, List.set_cons_zero, List.set_cons_succ]
                refine wpAnyH_take (i := 4) (oi := _) (v := ?_) rfl (by kernel_rfl) (by kernel_rfl) (by kernel_rfl) (fun _ _ _ h => h) (Or.inl ⟨by rfl, ?_⟩) (by assumption) ?_
                rotate_left
                · (intro w hSw; (try dsimp only at hSw); go_simp; try with_reducible rfl)
                try simp only [Act.put, List.getElem_toArray, List.getElem_cons_zero, List.getElem_cons_succ, List.setIfInBounds_toArray, List.set_cons_zero, List.set_cons_succ]
                refine wpAnyH_take (i := 5) (oi := _) (v := ?_) rfl (by kernel_rfl) (by kernel_rfl) (by kernel_rfl) (fun _ _ _ h => h) (Or.inl ⟨by rfl, ?_⟩) (by assumption) ?_
                rotate_left
                · (intro w hSw; (try dsimp only at hSw); go_simp; try with_reducible rfl)
                try simp only [Act.put, List.getElem_toArray, List.getElem_cons_zero, List.getElem_cons_succ, List.setIfInBounds_toArray, List.set_cons_zero, List.set_cons_succ]
                refine wpAnyH_ready (rs := [3]) (by kernel_rfl) (by simp) ?_
                refine AllReadyH.cons rfl (fun K hK => ?_) (AllReadyH.nil)
                first | rw [if_pos (by rfl)] | skip
                go_simp
                go_at_call 19; (with_reducible refine (HG1.out _ HX0.out).mono ?_); rintro e W8 ⟨rfl, hb8⟩; have X8 := Lib.hid (below_next HX0.out hb8); have HS8 := Lib.hid (HKP.out _ _ HS0.out hb8); clear hb8
                refine hK.out _ _ HS8.out (fun hHeld => ?_)
                try simp only [Act.put, List.getElem_toArray, List.getElem_cons_zero, List.getElem_cons_succ, List.setIfInBounds_toArray, List.set_cons_zero, List.set_cons_succ]
                refine wpAnyH_take (i := 6) (oi := _) (v := ?_) rfl (by kernel_rfl) (by kernel_rfl) (by kernel_rfl) (fun _ _ _ h => h) (Or.inl ⟨by rfl, ?_⟩) (by assumption) ?_
                rotate_left
                · (intro w hSw; (try dsimp only at hSw); go_simp; try with_reducible rfl)
                try simp only [Act.put, List.getElem_toArray, List.getElem_cons_zero, List.getElem_cons_succ, List.setIfInBounds_toArray, List.set_cons_zero, List.set_cons_succ]
                refine wpAnyH_take (i := 7) (oi := _) (v := ?_) rfl (by kernel_rfl) (by kernel_rfl) (by kernel_rfl) (fun _ _ _ h => h) (Or.inl ⟨by rfl, ?_⟩) (by assumption) ?_
                rotate_left
                · (intro w hSw; (try dsimp only at hSw); go_simp; try with_reducible rfl)
                try simp only [Act.put, List.getElem_toArray, List.getElem_cons_zero, List.getElem_cons_succ, List.setIfInBounds_toArray, List.set_cons_zero, List.set_cons_succ]
                first | refine wpAnyH_take (i := 8) (oi := _) (v := undef) rfl (by kernel_rfl) (by kernel_rfl) (by kernel_rfl) (fun _ _ _ h => h) (Or.inr ⟨by rfl, rfl⟩) (by assumption) ?_ | (refine wpAnyH_ready (rs := [8]) (by kernel_rfl) (by simp) ?_; refine AllReadyH.cons rfl (fun K hK => ?_) (AllReadyH.nil); rw [if_neg (by decide)]; refine hK.out _ _ (by assumption) (fun hHeld => ?_))
                try simp only [Act.put, List.getElem_toArray, List.getElem_cons_zero, List.getElem_cons_succ, List.setIfInBounds_toArray, List.set_cons_zero, List.set_cons_succ]
                first | refine wpAnyH_take (i := 9) (oi := _) (v := undef) rfl (by kernel_rfl) (by kernel_rfl) (by kernel_rfl) (fun _ _ _ h => h) (Or.inr ⟨by rfl, rfl⟩) (by assumption) ?_ | (refine wpAnyH_ready (rs := [9]) (by kernel_rfl) (by simp) ?_; refine AllReadyH.cons rfl (fun K hK => ?_) (AllReadyH.nil); rw [if_neg (by decide)]; refine hK.out _ _ (by assumption) (fun hHeld => ?_))
                try simp only [Act.put, List.getElem_toArray, List.getElem_cons_zero, List.getElem_cons_succ, List.setIfInBounds_toArray, List.set_cons_zero, List.set_cons_succ]
                first | refine wpAnyH_take (i := 10) (oi := _) (v := undef) rfl (by kernel_rfl) (by kernel_rfl) (by kernel_rfl) (fun _ _ _ h => h) (Or.inr ⟨by rfl, rfl⟩) (by assumption) ?_ | (refine wpAnyH_ready (rs := [10]) (by kernel_rfl) (by simp) ?_; refine AllReadyH.cons rfl (fun K hK => ?_) (AllReadyH.nil); rw [if_neg (by decide)]; refine hK.out _ _ (by assumption) (fun hHeld => ?_))
                try simp only [Act.put, List.getElem_toArray, List.getElem_cons_zero, List.getElem_cons_succ, List.setIfInBounds_toArray, List.set_cons_zero, List.set_cons_succ]
                first | refine wpAnyH_take (i := 11) (oi := _) (v := undef) rfl (by kernel_rfl) (by kernel_rfl) (by kernel_rfl) (fun _ _ _ h => h) (Or.inr ⟨by rfl, rfl⟩) (by assumption) ?_ | (refine wpAnyH_ready (rs := [11]) (by kernel_rfl) (by simp) ?_; refine AllReadyH.cons rfl (fun K hK => ?_) (AllReadyH.nil); rw [if_neg (by decide)]; refine hK.out _ _ (by assumption) (fun hHeld => ?_))
                try simp only [Act.put, List.getElem_toArray, List.getElem_cons_zero, List.getElem_cons_succ, List.setIfInBounds_toArray, List.set_cons_zero, List.set_cons_succ]
                first | refine wpAnyH_take (i := 12) (oi := _) (v := undef) rfl (by kernel_rfl) (by kernel_rfl) (by kernel_rfl) (fun _ _ _ h => h) (Or.inr ⟨by rfl, rfl⟩) (by assumption) ?_ | (refine wpAnyH_ready (rs := [12]) (by kernel_rfl) (by simp) ?_; refine AllReadyH.cons rfl (fun K hK => ?_) (AllReadyH.nil); rw [if_neg (by decide)]; refine hK.out _ _ (by assumption) (fun hHeld => ?_))
                try simp only [Act.put, List.getElem_toArray, List.getElem_cons_zero, List.getElem_cons_succ, List.setIfInBounds_toArray, List.set_cons_zero, List.set_cons_succ]
                first | refine wpAnyH_take (i := 13) (oi := _) (v := undef) rfl (by kernel_rfl) (by kernel_rfl) (by kernel_rfl) (fun _ _ _ h => h) (Or.inr ⟨by rfl, rfl⟩) (by assumption) ?_ | (refine wpAnyH_ready (rs := [13]) (by kernel_rfl) (by simp) ?_; refine AllReadyH.cons rfl (fun K hK => ?_) (AllReadyH.nil); rw [if_neg (by decide)]; refine hK.out _ _ (by assumption) (fun hHeld => ?_))
                try simp only [Act.put, List.getElem_toArray, List.getElem_cons_zero, List.getElem_cons_succ, List.setIfInBounds_toArray, List.set_cons_zero, List.set_cons_succ]
                first | refine wpAnyH_take (i := 14) (oi := _) (v := undef) rfl (by kernel_rfl) (by kernel_rfl) (by kernel_rfl) (fun _ _ _ h => h) (Or.inr ⟨by rfl, rfl⟩) (by assumption) ?_ | (refine wpAnyH_ready (rs := [14]) (by kernel_rfl) (by simp) ?_; refine AllReadyH.cons rfl (fun K hK => ?_) (AllReadyH.nil); rw [if_neg (by decide)]; refine hK.out _ _ (by assumption) (fun hHeld => ?_))
                try simp only [Act.put, List.getElem_toArray, List.getElem_cons_zero, List.getElem_cons_succ, List.setIfInBounds_toArray, List.set_cons_zero, List.set_cons_succ]
                refine wpAnyH_take (i := 15) (oi := _) (v := ?_) rfl (by kernel_rfl) (by kernel_rfl) (by kernel_rfl) (fun _ _ _ h => h) (Or.inl ⟨by rfl, ?_⟩) (by assumption) ?_
                rotate_left
                · (intro w hSw; (try dsimp only at hSw); go_simp; try with_reducible rfl)
                try simp only [Act.put, List.getElem_toArray, List.getElem_cons_zero, List.getElem_cons_succ, List.setIfInBounds_toArray, List.set_cons_zero, List.set_cons_succ]
                refine wpAnyH_take (i := 16) (oi := _) (v := ?_) rfl (by kernel_rfl) (by kernel_rfl) (by kernel_rfl) (fun _ _ _ h => h) (Or.inl ⟨by rfl, ?_⟩) (by assumption) ?_
                rotate_left
                · (intro w hSw; (try dsimp only at hSw); go_simp; try with_reducible rfl)
                try simp only [Act.put, List.getElem_toArray, List.getElem_cons_zero, List.getElem_cons_succ, List.setIfInBounds_toArray, List.set_cons_zero, List.set_cons_succ]
                refine wpAnyH_done (by kernel_rfl) ?_ _
                go_wp2
                go_ret
                exact ⟨rfl, below_next HBL.out (below_next B7.out X8.out)⟩
              | true =>
                obtain rfl := HEE.out rfl
                go_upto_region 22 with (fail)
                refine wp_region_held_drew (S := fun w' => w'.cell? ⟨W1.heap.size, 0, none⟩ = some (.string p) ∧ w'.cell? ⟨W1.heap.size, 1, none⟩ = some (.int .i64 fk) ∧ w'.cell? ⟨W1.heap.size, 2, none⟩ = some (.int .i64 fv) ∧ w'.cell? ⟨W1.heap.size, 3, none⟩ = some (.int .i64 tk) ∧ w'.cell? ⟨W1.heap.size, 4, none⟩ = some (.int .i64 tv) ∧ w'.cell? ⟨(W1.heap.size + 1), 0, none⟩ = some (.string p') ∧ w'.cell? ⟨(W1.heap.size + 1), 1, none⟩ = some (.int .i64 fk') ∧ w'.cell? ⟨(W1.heap.size + 1), 2, none⟩ = some (.int .i64 fv') ∧ w'.cell? ⟨(W1.heap.size + 1), 3, none⟩ = some (.int .i64 tk') ∧ w'.cell? ⟨(W1.heap.size + 1), 4, none⟩ = some (.int .i64 tv') ∧ Below W7.heap.size W7 w') (by kernel_rfl) HS0.out (fun hH => ?_)
                refine wpAnyH_take (i := 0) (oi := _) (v := ?_) rfl (by kernel_rfl) (by kernel_rfl) (by kernel_rfl) (fun _ _ _ h => h) (Or.inl ⟨by rfl, ?_⟩) (by assumption) ?_
                rotate_left
                · (intro w hSw; (try dsimp only at hSw); go_simp; try with_reducible rfl)
                try simp only [Act.put, List.getElem_toArray, List.getElem_cons_zero, List.setIfInBounds_toArray, List.set_cons_zero, List.set_cons_succ]
                refine wpAnyH_take (i := 1) (oi := _) (v := ?_) rfl (by kernel_rfl) (by kernel_rfl) (by kernel_rfl) (fun _ _ _ h => h) (Or.inl ⟨by rfl, ?_⟩) (by assumption) ?_
                rotate_left
                · (intro w hSw; (try dsimp only at hSw); go_simp; try with_reducible rfl)
                try simp only [Act.put, List.getElem_toArray, List.getElem_cons_zero, List.getElem_cons_succ, List.setIfInBounds_toArray, List.set_cons_zero, List.set_cons_succ]
                refine wpAnyH_take (i := 2) (oi := _) (v := ?_) rfl (by kernel_rfl) (by kernel_rfl) (by kernel_rfl) (fun _ _ _ h => h) (Or.inl ⟨by rfl, ?_⟩) (by assumption) ?_
                rotate_left
                · (intro w hSw; (try dsimp only at hSw); go_simp; try with_reducible rfl)
                try simp only [Act.put, List.getElem_toArray, List.getElem_cons_zero, List.getElem_cons_succ, List.setIfInBounds_toArray, List.set_cons_zero, List.set_cons_succ]
                refine wpAnyH_take (i := 4) (oi := _) (v := ?_) rfl (by kernel_rfl) (by kernel_rfl) (by kernel_rfl) (fun _ _ _ h => h) (Or.inl ⟨by rfl, ?_⟩) (by assumption) ?_
                rotate_left
                · (intro w hSw; (try dsimp only at hSw); go_simp; try with_reducible rfl)
                try simp only [Act.put, List.getElem_toArray, List.getElem_cons_zero, List.getElem_cons_succ, List.setIfInBounds_toArray, List.set_cons_zero, List.set_cons_succ]
                refine wpAnyH_take (i := 5) (oi := _) (v := ?_) rfl (by kernel_rfl) (by kernel_rfl) (by kernel_rfl) (fun _ _ _ h => h) (Or.inl ⟨by rfl, ?_⟩) (by assumption) ?_
                rotate_left
                · (intro w hSw; (try dsimp only at hSw); go_simp; try with_reducible rfl)
                try simp only [Act.put, List.getElem_toArray, List.getElem_cons_zero, List.getElem_cons_succ, List.setIfInBounds_toArray, List.set_cons_zero, List.set_cons_succ]
                refine wpAnyH_ready (rs := [3]) (by kernel_rfl) (by simp) ?_
                refine AllReadyH.cons rfl (fun K hK => ?_) (AllReadyH.nil)
                first | rw [if_pos (by rfl)] | skip
                go_simp
                go_at_call 19; (with_reducible refine (HG1.out _ HX0.out).mono ?_); rintro e W8 ⟨rfl, hb8⟩; have X8 := Lib.hid (below_next HX0.out hb8); have HS8 := Lib.hid (HKP.out _ _ HS0.out hb8); clear hb8
                refine hK.out _ _ HS8.out (fun hHeld => ?_)
                try simp only [Act.put, List.getElem_toArray, List.getElem_cons_zero, List.getElem_cons_succ, List.setIfInBounds_toArray, List.set_cons_zero, List.set_cons_succ]
                refine wpAnyH_take (i := 6) (oi := _) (v := ?_) rfl (by kernel_rfl) (by kernel_rfl) (by kernel_rfl) (fun _ _ _ h => h) (Or.inl ⟨by rfl, ?_⟩) (by assumption) ?_
                rotate_left
                · (intro w hSw; (try dsimp only at hSw); go_simp; try with_reducible rfl)
                try simp only [Act.put, List.getElem_toArray, List.getElem_cons_zero, List.getElem_cons_succ, List.setIfInBounds_toArray, List.set_cons_zero, List.set_cons_succ]
                refine wpAnyH_take (i := 7) (oi := _) (v := ?_) rfl (by kernel_rfl) (by kernel_rfl) (by kernel_rfl) (fun _ _ _ h => h) (Or.inl ⟨by rfl, ?_⟩) (by assumption) ?_
                rotate_left
                · (intro w hSw; (try dsimp only at hSw); go_simp; try with_reducible rfl)
                try simp only [Act.put, List.getElem_toArray, List.getElem_cons_zero, List.getElem_cons_succ, List.setIfInBounds_toArray, List.set_cons_zero, List.set_cons_succ]
                refine wpAnyH_take (i := 8) (oi := _) (v := ?_) rfl (by kernel_rfl) (by kernel_rfl) (by kernel_rfl) (fun _ _ _ h => h) (Or.inl ⟨by rfl, ?_⟩) (by assumption) ?_
                rotate_left
                · (intro w hSw; (try dsimp only at hSw); go_simp; try with_reducible rfl)
                try simp only [Act.put, List.getElem_toArray, List.getElem_cons_zero, List.getElem_cons_succ, List.setIfInBounds_toArray, List.set_cons_zero, List.set_cons_succ]
                refine wpAnyH_take (i := 9) (oi := _) (v := ?_) rfl (by kernel_rfl) (by kernel_rfl) (by kernel_rfl) (fun _ _ _ h => h) (Or.inl ⟨by rfl, ?_⟩) (by assumption) ?_
                rotate_left
                · (intro w hSw; (try dsimp only at hSw); go_simp; try with_reducible rfl)
                try simp only [Act.put, List.getElem_toArray, List.getElem_cons_zero, List.getElem_cons_succ, List.setIfInBounds_toArray, List.set_cons_zero, List.set_cons_succ]
                refine wpAnyH_take (i := 10) (oi := _) (v := ?_) rfl (by kernel_rfl) (by kernel_rfl) (by kernel_rfl) (fun _ _ _ h => h) (Or.inl ⟨by rfl, ?_⟩) (by assumption) ?_
                rotate_left
                · (intro w hSw; (try dsimp only at hSw); go_simp; try with_reducible rfl)
                try simp only [Act.put, List.getElem_toArray, List.getElem_cons_zero, List.getElem_cons_succ, List.setIfInBounds_toArray, List.set_cons_zero, List.set_cons_succ]
                refine wpAnyH_take (i := 12) (oi := _) (v := ?_) rfl (by kernel_rfl) (by kernel_rfl) (by kernel_rfl) (fun _ _ _ h => h) (Or.inl ⟨by rfl, ?_⟩) (by assumption) ?_
                rotate_left
                · (intro w hSw; (try dsimp only at hSw); go_simp; try with_reducible rfl)
                try simp only [Act.put, List.getElem_toArray, List.getElem_cons_zero, List.getElem_cons_succ, List.setIfInBounds_toArray, List.set_cons_zero, List.set_cons_succ]
                refine wpAnyH_take (i := 13) (oi := _) (v := ?_) rfl (by kernel_rfl) (by kernel_rfl) (by kernel_rfl) (fun _ _ _ h => h) (Or.inl ⟨by rfl, ?_⟩) (by assumption) ?_
                rotate_left
                · (intro w hSw; (try dsimp only at hSw); go_simp; try with_reducible rfl)
                try simp only [Act.put, List.getElem_toArray, List.getElem_cons_zero, List.getElem_cons_succ, List.setIfInBounds_toArray, List.set_cons_zero, List.set_cons_succ]
                refine wpAnyH_ready (rs := [11]) (by kernel_rfl) (by simp) ?_
                refine AllReadyH.cons rfl (fun K hK => ?_) (AllReadyH.nil)
                first | rw [if_pos (by rfl)] | skip
                go_simp
                go_at_call 19; (with_reducible refine (HG2.out _ X8.out).mono ?_); rintro e W9 ⟨rfl, hb9⟩; have X9 := Lib.hid (below_next X8.out hb9); have HS9 := Lib.hid (HKP.out _ _ HS8.out hb9); clear hb9
                refine hK.out _ _ HS9.out (fun hHeld => ?_)
                try simp only [Act.put, List.getElem_toArray, List.getElem_cons_zero, List.getElem_cons_succ, List.setIfInBounds_toArray, List.set_cons_zero, List.set_cons_succ]
                refine wpAnyH_take (i := 14) (oi := _) (v := ?_) rfl (by kernel_rfl) (by kernel_rfl) (by kernel_rfl) (fun _ _ _ h => h) (Or.inl ⟨by rfl, ?_⟩) (by assumption) ?_
                rotate_left
                · (intro w hSw; (try dsimp only at hSw); go_simp; try with_reducible rfl)
                try simp only [Act.put, List.getElem_toArray, List.getElem_cons_zero, List.getElem_cons_succ, List.setIfInBounds_toArray, List.set_cons_zero, List.set_cons_succ]
                refine wpAnyH_take (i := 15) (oi := _) (v := ?_) rfl (by kernel_rfl) (by kernel_rfl) (by kernel_rfl) (fun _ _ _ h => h) (Or.inl ⟨by rfl, ?_⟩) (by assumption) ?_
                rotate_left
                · (intro w hSw; (try dsimp only at hSw); go_simp; try with_reducible rfl)
                try simp only [Act.put, List.getElem_toArray, List.getElem_cons_zero, List.getElem_cons_succ, List.setIfInBounds_toArray, List.set_cons_zero, List.set_cons_succ]
                refine wpAnyH_take (i := 16) (oi := _) (v := ?_) rfl (by kernel_rfl) (by kernel_rfl) (by kernel_rfl) (fun _ _ _ h => h) (Or.inl ⟨by rfl, ?_⟩) (by assumption) ?_
                rotate_left
                · (intro w hSw; (try dsimp only at hSw); go_simp; try with_reducible rfl)
                try simp only [Act.put, List.getElem_toArray, List.getElem_cons_zero, List.getElem_cons_succ, List.setIfInBounds_toArray, List.set_cons_zero, List.set_cons_succ]
                refine wpAnyH_done (by kernel_rfl) ?_ _
                go_wp2
                go_ret
                exact ⟨rfl, below_next HBL.out (below_next B7.out X9.out)⟩
  · have hl : (1048576 : Int) < len0 := by omega
    clear h w0
    go_enter Try.func5, Try.ntmps5
    go_wp2
    go_ret
    exact ⟨rfl, Below.refl _ _⟩


set_option maxRecDepth 100000 in
theorem lifted (os : Os) (started : os.Started) (H : Type) (enc : TypeId × Value → H) :
    ReturnsInHanded {} Try.checked os 5 .any (Rows.fnClashTreeSpec.pre6 enc Try.prog Try.f5 Rows.fnClashTreeRow.domain false) (Rows.fnClashTreeSpec.post enc Try.prog Try.f5 false true false false) := by
  refine returnsInHanded_of_change (C := Try.checked) own started (by kernel_rfl) Try.func5
    (ChangeSpec.witness6 (enc := enc) (C := Try.checked) false ⟨#[], #[.slice none 0 0], []⟩ 8 (by kernel_rfl) (by kernel_rfl) (by kernel_rfl) (by kernel_rfl)) ?_
  intro W base args ds gs before hval0 hW hcnd _
  have hval : ∀ (j : Nat) t v, Try.f5.params[j]? = some t → args[j]? = some v → Value.okWide Try.prog W .any base t v := hval0
  have hW' := hW
  obtain ⟨p, q, hA0, hV, rfl, hfz, hnd⟩ := hW
  have hA : DataW.TrodAll enc Try.prog W 0 (fun _ => true) true Try.f5.params.toList args.toList ds p := hA0
  rw [Try.params5] at hA hval
  obtain ⟨v0, vs0, d0, ds0, p0, q0, hargs, rfl, rfl, h0, r0⟩ := trodAll_cons hA
  obtain ⟨rfl, rfl, rfl⟩ := trodAll_nil r0
  obtain rfl : args = #[v0] := by cases args; simp_all
  obtain ⟨rfl, rfl⟩ := trodVars_none hV
  obtain ⟨a0, len0, cap0, rfl⟩ := okWide_slice Try.underlying22 (hval 0 22 v0 rfl rfl)
  have k0 := h0
  have lt0 : ∀ x ∈ p0, x.block < W.heap.size := by obtain ⟨m, hm⟩ := k0; exact DataW.trod_lt m _ _ _ hm
  obtain ⟨z0, w0⟩ : ∃ zs, IsRow .u8 W a0 len0 cap0 zs := by
    obtain ⟨fuel, hf⟩ := h0
    rcases open_ints Try.underlying22 Try.underlying5 (by kernel_rfl) hf with ⟨hcs, _⟩ | ⟨x, l, c, zs, hcs, _, hl, hm, hz, _, hcell, hwz⟩
    · simp [Value.cells] at hcs
      obtain ⟨rfl, rfl, rfl⟩ := hcs
      exact ⟨[], .inl ⟨rfl, rfl, rfl, rfl⟩⟩
    · simp [Value.cells] at hcs
      obtain ⟨rfl, rfl, rfl⟩ := hcs
      exact ⟨zs, .inr ⟨_, rfl, hl, hm, by simpa using hz, hcell, hwz⟩⟩
  clear hA0 hval0
  refine (walk a0 len0 cap0 z0 W w0).mono fun e W' ⟨he, bel⟩ => ?_
  subst he
  exact ⟨_, rfl, _, _, _, [], _, [], hW', trodAll_mk1 (shut_bool Try.underlying4 _), (trodAll_cons_mk (Below.trod laidOut (by kernel_rfl) (of_decide_eq_true (by kernel_rfl)) k0 bel lt0) trodAll_mk0), rfl, bel.frame _, fun h => by cases h⟩

theorem over : Rows.fnClashTreeRow.holds Try.pinned (OpenSpec.ofChange Rows.fnClashTreeSpec) :=
  OpenClaim.holds_of_wide 5 Try.f5 rfl rfl rfl rfl rfl rfl rfl ⟨rfl, rfl, rfl, rfl, rfl⟩ rfl rfl rfl rfl rfl (by kernel_rfl) Try.func5 (by kernel_rfl)
    (of_decide_eq_true (by kernel_rfl)) (by unfold Func.isWrapper; first | (rw [if_pos (by decide +kernel)]; kernel_rfl) | (rw [if_neg (by decide +kernel)]; exact ⟨rfl, rfl⟩))
    (fun os started H enc _ => lifted os started H enc)

theorem proved : Rows.FnClashTreeSaid := over
end Go.Proofs.Ytdkpabnpobpdhaa.fnClashTree
