/-
  laws.FnRemoveCount returns true for every input, and leaves its arguments as they were.
  Conditions: none.
-/
import Derived.Test.YtncceljffcjoiaaRows
import Derived.WalkKit
import Derived.ProofKit
import Derived.OpenShut
import Derived.ShutString
import Derived.ChangeOld
import Derived.Below
import Derived.Test.YtncceljffcjoiaaQ6
import Derived.Test.YtncceljffcjoiaaQ4
import Derived.Test.YtncceljffcjoiaaQ5
import Derived.Test.YtncceljffcjoiaaPi
namespace Go.Proofs.Ytncceljffcjoiaa.fnRemoveCount
open Go.ChangeShapes Go.WideShapes Go.ChangeAt Go.RowKit
open Go.ChangeMaps (open_string shut_string)
set_option linter.unusedVariables false

theorem own : ownKnob Try.prog.godebug = none := by kernel_rfl
theorem laidOut : laidOutB Try.prog = true := by kernel_rfl

/-- What a move tells, its two parts named. -/
def MPost (out : List Cmd) (b : Bool) (W : World) (e : Ending) (w' : World) : Prop :=
  ∃ sl, e = .returned (.tuple #[sl, .bool b]) ∧ w'.ownsRow W.heap.size 33 5 sl out.length (flatC out) ∧ Below W.heap.size W w'

theorem move_named {r : List Cmd × Bool} {out : List Cmd} {b : Bool} {W : World} {f : Nat} {args : Array Value} (hr : r = (out, b)) (h : Calls Try.prog f args W (MovePost r W)) : Calls Try.prog f args W (MPost out b W) := by
  rw [hr] at h
  exact h

theorem own_shape {W : World} {base : Nat} {e : TypeId} {size n : Nat} {v : Value} {xs : List Value} (h : W.ownsRow base e size v n xs) : ∃ a cap, v = .slice a n cap := by
  rcases h.2 with ⟨h0, h1⟩ | ⟨g, cap, cur, h0, _⟩
  · exact ⟨none, 0, by rw [h0, h1]⟩
  · exact ⟨_, cap, h0⟩

theorem move_len {ns : List Nd} {p : ByteArray} {out : List Cmd} {b : Bool} (h : removeAll ns p = (out, b)) : out.length ≤ 20 := by
  cases b with
  | true => obtain ⟨_, _, _, _, _, _, hl, _⟩ := remove_done h; omega
  | false =>
    unfold removeAll at h
    split at h
    · cases h
    · have e := congrArg Prod.fst h
      simp only at e
      rw [← e]; simp

set_option maxHeartbeats 4000000 in
set_option maxRecDepth 100000 in
theorem walk (a0 : Option Addr) (len0 cap0 : Nat) (z0 : List Int) (w : World) (w0 : IsRow .u8 w a0 len0 cap0 z0) :
    Calls Try.prog 3 #[.slice a0 len0 cap0] w fun e w' => e = .returned (.bool true) ∧ Below w.heap.size w w' := by
  by_cases h : len0 ≤ 1048576
  · have hl : (len0 : Int) ≤ 1048576 := by omega
    have HD := Lib.hid (drawRemoveAll_c a0 len0 cap0 z0 w w0)
    clear h w0
    go_enter Try.func3, Try.ntmps3
    go_wp2_with fail
    refine HD.out.mono ?_
    rintro e W1 ⟨sl, ns, s, rfl, hss, hd⟩
    obtain ⟨a, cap, rfl, hn⟩ := nodes_of_own hd.1
    have HN := Lib.hid hn
    have hlen := hd.2.1
    have HL := Lib.hid hlen
    have hsh := hd.2.2.1.mono (show 64 ≤ 66 by omega)
    have HSH := Lib.hid hsh
    have HBL := Lib.hid hd.2.2.2
    have HSS := Lib.hid hss
    obtain ⟨⟨out, b⟩, hr⟩ : ∃ r, removeAll ns s = r := ⟨_, rfl⟩
    have HR := Lib.hid hr
    have HOL := Lib.hid (move_len hr)
    have HI := Lib.hid (fun W' (hb : Below W1.heap.size W1 W') => move_named hr (implRemoveAll_c a ns.length cap ns s (by omega) (hsh.mono (by omega)) (by omega) W' (hn.keep hb)))
    have HS := Lib.hid (fun W' (hb : Below W1.heap.size W1 W') => move_named hr (specRemoveAll_c a ns.length cap ns s (by omega) (hsh.mono (by omega)) (by omega) W' (hn.keep hb)))
    clear hn hd hr hsh hlen hss
    go_wp2_with fail
    refine (HI.out _ (Below.refl _ _)).mono ?_
    rintro e W2 ⟨o1, rfl, ho1, hb2⟩
    have B2 := Lib.hid hb2
    clear hb2
    go_wp2_with fail
    refine (HS.out _ B2.out).mono ?_
    rintro e W3 ⟨o2, rfl, ho2, hb3⟩
    have B3 := Lib.hid (below_next B2.out hb3)
    have ho1' := own_below ho1 hb3
    obtain ⟨x1, p1, rfl, hc1⟩ := cmds_of_own ho1'
    obtain ⟨x2, p2, rfl, hc2⟩ := cmds_of_own ho2
    have HSM := Lib.hid (fun W' (hb : Below W3.heap.size W3 W') => sameLog_c x1 x2 out.length p1 p2 out (by have := HOL.out; omega) W' (hc1.keep hb) (hc2.keep hb))
    have HC1 := Lib.hid hc1
    clear ho1 ho2 hb3 ho1' hc1 hc2
    cases b with
    | false =>
      go_wp2_with fail
      refine (HSM.out _ (Below.refl _ _)).mono ?_
      rintro e W4 ⟨rfl, hb4⟩
      have X4 := Lib.hid hb4
      clear hb4
      go_wp2_with fail
      refine (HSM.out _ X4.out).mono ?_
      rintro e W5 ⟨rfl, hb5⟩
      go_wp2
      go_ret
      exact ⟨rfl, below_next HBL.out (below_next B3.out (below_next X4.out hb5))⟩
    | true =>
      obtain ⟨hcount, hmem⟩ := remove_count HR.out
      have HM := Lib.hid hmem
      have hvx := removeAll_inv HR.out
      have HTU := Lib.hid (fun W' (hb : Below W1.heap.size W1 W') => implTreeUnder_c a ns.length cap ns s (by have := HL.out; omega) (HSH.out.mono (by omega)) (by have := HSS.out; omega) W' (HN.out.keep hb))
      have HCT := Lib.hid hcount
      have HSZ := Lib.hid (show ShortC 66 out by rw [hvx.2.2.2]; intro c hc; obtain ⟨n, hn, rfl⟩ := List.mem_map.1 hc; exact HSH.out n (List.mem_filter.1 (List.mem_reverse.1 hn)).1)
      have HVV := Lib.hid hvx
      have HPU := Lib.hid (fun q (hq : q.size ≤ 66) w => pathUnder_c s q (by have := HSS.out; omega) (by omega) w)
      clear hcount hmem hvx
      go_wp2_with fail
      refine (HSM.out _ (Below.refl _ _)).mono ?_
      rintro e W4 ⟨rfl, hb4⟩
      have X4 := Lib.hid hb4
      clear hb4
      go_wp2_with fail
      go_loopw [9] (fun i wr => ∃ n : Nat, i = .int .i64 n ∧ n ≤ out.length ∧ Hid (Below W3.heap.size W3 wr)) (fun i _ => out.length - (intOf i).toNat)
      case atStart => exact ⟨0, rfl, Nat.zero_le _, X4⟩
      case round =>
        obtain ⟨n, rfl, hn, HB⟩ := hrel
        by_cases hlt : n < out.length
        · have hlt' : (n : Int) < out.length := by omega
          have hw1 : IntKind.i64.wrap ((n : Int) + 1) = (n : Int) + 1 := IntWalk.i64_in _ (by have := HOL.out; omega)
          have HLT := Lib.hid hlt
          obtain ⟨b, off, c, rfl, hc, c0, c1, c2, c3, c4⟩ := (HC1.out.keep HB.out).node hlt
          obtain ⟨htk, hpath⟩ := HM.out c (List.mem_of_getElem? hc)
          have HP := Lib.hid (HPU.out c.p (HSZ.out.at hc))
          obtain ⟨q, fk, fv, tk, tv⟩ := c
          simp only at c0 c1 c2 c3 c4 htk hpath HP
          subst htk
          by_cases hq : q = s
          · have heq : (q.toList == s.toList) = true := by rw [hq]; simp
            clear hn hlt hc hpath hq
            go_wp2
            go_roundw
            case rel => exact ⟨n + 1, by go_num, by have := HLT.out; omega, HB⟩
            case measure => have := HLT.out; simp [intOf]; omega
          · have heq : (q.toList == s.toList) = false := toList_ne hq
            rw [show underB s q = true from hpath.resolve_left hq] at HP
            clear hn hlt hc hpath hq
            go_wp2_with fail
            refine (HP.out _).mono ?_
            rintro e W5 ⟨rfl, hb5⟩
            have HB5 := Lib.hid (below_next HB.out hb5)
            clear c0 c1 c2 c3 c4 hb5
            go_wp2
            go_roundw
            case rel => exact ⟨n + 1, by go_num, by have := HLT.out; omega, HB5⟩
            case measure => have := HLT.out; simp [intOf]; omega
        · have hge : (out.length : Int) ≤ n := by omega
          obtain ⟨L, hL⟩ : ∃ L, L = (treeUnder ns s).length := ⟨_, rfl⟩
          have hwr : IntKind.i64.wrap ((L : Int) + 1) = (out.length : Int) := (IntWalk.i64_in _ (by have := HOL.out; have := HCT.out; omega)).trans (by have := HCT.out; omega)
          have HLL := Lib.hid hL
          clear hn hlt hL
          go_wp2_with fail
          refine (HTU.out _ (below_next B3.out HB.out)).mono ?_
          rintro e W5 ⟨⟨s5, rfl, ho5⟩, hb5⟩
          obtain ⟨x5, p5, rfl⟩ := own_shape ho5
          rw [← HLL.out]
          have HB5 := Lib.hid (below_next (below_next B3.out HB.out) hb5)
          clear ho5 hb5
          go_wp2
          go_ret
          exact ⟨rfl, below_next HBL.out HB5.out⟩
  · have hl : (1048576 : Int) < len0 := by omega
    clear h w0
    go_enter Try.func3, Try.ntmps3
    go_wp2
    go_ret
    exact ⟨rfl, Below.refl _ _⟩


set_option maxRecDepth 100000 in
theorem lifted (os : Os) (started : os.Started) (H : Type) (enc : TypeId × Value → H) :
    ReturnsInHanded {} Try.checked os 3 .any (Rows.fnRemoveCountSpec.pre6 enc Try.prog Try.f3 Rows.fnRemoveCountRow.domain false) (Rows.fnRemoveCountSpec.post enc Try.prog Try.f3 false true false false) := by
  refine returnsInHanded_of_change (C := Try.checked) own started (by kernel_rfl) Try.func3
    (ChangeSpec.witness6 (enc := enc) (C := Try.checked) false ⟨#[], #[.slice none 0 0], []⟩ 8 (by kernel_rfl) (by kernel_rfl) (by kernel_rfl) (by kernel_rfl)) ?_
  intro W base args ds gs before hval0 hW hcnd _
  have hval : ∀ (j : Nat) t v, Try.f3.params[j]? = some t → args[j]? = some v → Value.okWide Try.prog W .any base t v := hval0
  have hW' := hW
  obtain ⟨p, q, hA0, hV, rfl, hfz, hnd⟩ := hW
  have hA : DataW.TrodAll enc Try.prog W 0 (fun _ => true) true Try.f3.params.toList args.toList ds p := hA0
  rw [Try.params3] at hA hval
  obtain ⟨v0, vs0, d0, ds0, p0, q0, hargs, rfl, rfl, h0, r0⟩ := trodAll_cons hA
  obtain ⟨rfl, rfl, rfl⟩ := trodAll_nil r0
  obtain rfl : args = #[v0] := by cases args; simp_all
  obtain ⟨rfl, rfl⟩ := trodVars_none hV
  obtain ⟨a0, len0, cap0, rfl⟩ := okWide_slice Try.underlying22 (hval 0 22 v0 rfl rfl)
  have k0 := h0
  have lt0 : ∀ x ∈ p0, x.block < W.heap.size := by obtain ⟨m, hm⟩ := k0; exact DataW.trod_lt m _ _ _ hm
  obtain ⟨z0, w0⟩ : ∃ zs, IsRow .u8 W a0 len0 cap0 zs := by
    obtain ⟨fuel, hf⟩ := h0
    rcases open_ints Try.underlying22 Try.underlying5 (by kernel_rfl) hf with ⟨hcs, _⟩ | ⟨x, l, c, zs, hcs, _, hl, hm, hz, _, hcell, hwz⟩
    · simp [Value.cells] at hcs
      obtain ⟨rfl, rfl, rfl⟩ := hcs
      exact ⟨[], .inl ⟨rfl, rfl, rfl, rfl⟩⟩
    · simp [Value.cells] at hcs
      obtain ⟨rfl, rfl, rfl⟩ := hcs
      exact ⟨zs, .inr ⟨_, rfl, hl, hm, by simpa using hz, hcell, hwz⟩⟩
  clear hA0 hval0
  refine (walk a0 len0 cap0 z0 W w0).mono fun e W' ⟨he, bel⟩ => ?_
  subst he
  exact ⟨_, rfl, _, _, _, [], _, [], hW', trodAll_mk1 (shut_bool Try.underlying4 _), (trodAll_cons_mk (Below.trod laidOut (by kernel_rfl) (of_decide_eq_true (by kernel_rfl)) k0 bel lt0) trodAll_mk0), rfl, bel.frame _, fun h => by cases h⟩

theorem over : Rows.fnRemoveCountRow.holds Try.pinned (OpenSpec.ofChange Rows.fnRemoveCountSpec) :=
  OpenClaim.holds_of_wide 3 Try.f3 rfl rfl rfl rfl rfl rfl rfl ⟨rfl, rfl, rfl, rfl, rfl⟩ rfl rfl rfl rfl rfl (by kernel_rfl) Try.func3 (by kernel_rfl)
    (of_decide_eq_true (by kernel_rfl)) (by unfold Func.isWrapper; first | (rw [if_pos (by decide +kernel)]; kernel_rfl) | (rw [if_neg (by decide +kernel)]; exact ⟨rfl, rfl⟩))
    (fun os started H enc _ => lifted os started H enc)

theorem proved : Rows.FnRemoveCountSaid := over
end Go.Proofs.Ytncceljffcjoiaa.fnRemoveCount
