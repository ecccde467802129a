/-
  Texts of this proof, one behind the other: Lv, Sm, Ze, Co, Tc, Eq, Cb, Lu.
-/
import Derived.Deep.RegionHeld3
import Derived.Laws.StructEq
import Derived.Deep.QuietTactic
import Derived.Test.YtmlnakkfjecibaaGreatDoorLg
import Derived.Test.YtmlnakkfjecibaaGreatDoorLc
import Derived.Test.YtmlnakkfjecibaaGreatDoorCa
import Derived.Test.YtmlnakkfjecibaaGreatDoorTl
import Derived.Test.YtmlnakkfjecibaaGreatDoorZd
import Derived.Test.YtmlnakkfjecibaaGreatDoorCv
import Derived.Test.YtmlnakkfjecibaaGreatDoorCk
/-
  WALKS: logs of the model: spec.LogValid, LogApply, LogFits, LogUndo.
-/
namespace Go.Proofs.YtmlnakkfjecibaaGreatDoor
open Go.RowKit
set_option linter.unusedVariables false

def ValidRel (cs : List Cmd) (len : Nat) (W : World) (i : Value) (wr : World) : Prop :=
  ∃ n : Nat, i = .int .i64 n ∧ n ≤ len ∧ Hid (∀ (j : Nat) (c : Cmd), j < n → cs[j]? = some c → validC c = true) ∧ Hid (Below W.heap.size W wr)

set_option maxHeartbeats 2000000 in
set_option maxRecDepth 100000 in
theorem specLogValid_c (a : Option Addr) (len cap : Nat) (cs : List Cmd) (hl : len ≤ 2097152) (hs : ShortC 2097152 cs) (W : World) (hN : CmdsAt W a len cs) :
    Calls Tryz.prog 31 #[.slice a len cap] W (BoolPost (validL cs) W) := by
  have HN := Lib.hid hN
  have HE := Lib.hid hN.1
  have HS := Lib.hid hs
  clear hN hs
  go_enter Tryz.func31, Tryz.ntmps31
  go_wp2
  go_loopw [3] (fun i wr => ValidRel cs len W i wr) (fun i _ => len - (intOf i).toNat)
  case atStart => exact ⟨0, rfl, by omega, Lib.hid (fun j c h _ => absurd h (by omega)), Below.refl _ _⟩
  case round =>
    obtain ⟨i, rfl, hi, HP, HB⟩ := hrel
    by_cases hlt : i < len
    · obtain ⟨b, off, c, rfl, hn, c0, c1, c2, c3, c4⟩ := (HN.out.keep HB.out).node hlt
      have hlt' : (i : Int) < len := by omega
      have HLT := Lib.hid hlt
      obtain ⟨vc, hvc⟩ : ∃ vc, validC c = vc := ⟨_, rfl⟩
      have HC := Lib.hid (fun W' => show Calls Tryz.prog 58 #[cmdV c] W' (BoolPost vc W') by rw [← hvc]; exact specCmdValid_c c (HS.out.at hn) W')
      have HV := Lib.hid hvc
      have HNN := Lib.hid hn
      obtain ⟨p, fk, fv, tk, tv⟩ := c
      unfold cmdV at HC
      simp only at c0 c1 c2 c3 c4 HC
      clear hi hlt hn hvc
      go_wp2_with fail
      refine (HC.out _).mono ?_
      rintro e W2 ⟨rfl, hb2⟩
      have HB2 := Lib.hid (below_next HB.out hb2)
      clear c0 c1 c2 c3 c4 hb2
      cases vc with
      | false =>
        go_wp2
        go_ret
        exact ⟨ret_bool (validL_one HNN.out HV.out).symm, HB2.out⟩
      | true =>
        go_wp2
        go_roundw
        case rel =>
          refine ⟨i + 1, by go_num, by have := HLT.out; omega, Lib.hid (fun j c hj hc => ?_), HB2⟩
          by_cases hji : j < i
          · exact HP.out j c hji hc
          · have : j = i := by omega
            subst this
            rw [HNN.out] at hc
            obtain rfl := Option.some.inj hc
            exact HV.out
        case measure => have := HLT.out; simp [intOf]; omega
    · have hge : (len : Int) ≤ i := by omega
      have HR := Lib.hid (validL_short (cs := cs) (fun j c hc => HP.out j c (by have h1 := (List.getElem?_eq_some_iff.1 hc).1; have h2 := HE.out; omega) hc))
      have HQ := Lib.hid (show decide (cs.length ≤ 20) = decide ((len : Int) ≤ 20) by rw [HE.out]; exact decide_eq_decide.2 (by omega))
      clear hi hlt
      go_wp2
      go_ret
      exact ⟨ret_bool (HR.out.trans HQ.out).symm, HB.out⟩

/-- What LogApply tells. -/
def LogPost (r : List Nd × Int) (W : World) (e : Ending) (w' : World) : Prop :=
  ∃ sl, e = .returned (.tuple #[sl, .int .i64 r.2]) ∧ w'.ownsRow W.heap.size 57 3 sl r.1.length (flatN r.1) ∧ Below W.heap.size W w'

theorem log_end {r : List Nd × Int} {W w' : World} {sl : Value} {out : List Nd} {n : Int} (h : r = (out, n)) (ho : w'.ownsRow W.heap.size 57 3 sl out.length (flatN out)) (hB : Below W.heap.size W w') : LogPost r W (.returned (.tuple #[sl, .int .i64 n])) w' := by
  subst h
  exact ⟨sl, rfl, ho, hB⟩

def ApplyRel (ns : List Nd) (cs : List Cmd) (len : Nat) (W : World) (o i : Value) (wr : World) : Prop :=
  ∃ (n : Nat) (acc : List Nd), i = .int .i64 n ∧ n ≤ len ∧ wr.ownsRow W.heap.size 57 3 o acc.length (flatN acc) ∧ Hid (acc.length ≤ 10) ∧ Hid (Short 2097152 acc) ∧ Hid (runL ns (cs.take n) = (acc, n)) ∧ Hid (Below W.heap.size W wr)

theorem apply_short2 {ns out : List Nd} {c : Cmd} {m : Nat} (h : applyC ns c = (out, true)) (hs : Short m ns) (hp : c.p.size ≤ m) : Short m out ∧ out.length ≤ 10 := by
  obtain ⟨_, _, _, h4⟩ := applyC_some h
  obtain ⟨_, _, _, h5, h6⟩ := treePut_some h4
  refine ⟨?_, ((validT_iff out).1 h6).2.2⟩
  rw [h5]
  exact short_put hs hp

set_option maxHeartbeats 4000000 in
set_option maxRecDepth 100000 in
theorem specLogApply_c (a1 : Option Addr) (len1 cap1 : Nat) (ns : List Nd) (a2 : Option Addr) (len2 cap2 : Nat) (cs : List Cmd) (hl1 : len1 ≤ 2097152) (hl2 : len2 ≤ 2097152) (hs1 : Short 2097152 ns) (hs2 : ShortC 2097152 cs) (W : World) (h1 : NodesAt W a1 len1 ns) (h2 : CmdsAt W a2 len2 cs) :
    Calls Tryz.prog 13 #[.slice a1 len1 cap1, .slice a2 len2 cap2] W (LogPost (logApply ns cs) W) := by
  obtain ⟨vt, hvt⟩ : ∃ vt, validT ns = vt := ⟨_, rfl⟩
  obtain ⟨vl, hvl⟩ : ∃ vl, validL cs = vl := ⟨_, rfl⟩
  have HV := Lib.hid (show Calls Tryz.prog 30 #[.slice a1 len1 cap1] W (BoolPost vt W) by rw [← hvt]; exact specTreeValid_c a1 len1 cap1 ns hl1 hs1 W h1)
  have HL := Lib.hid (fun W' (hb : Below W.heap.size W W') => show Calls Tryz.prog 31 #[.slice a2 len2 cap2] W' (BoolPost vl W') by rw [← hvl]; exact specLogValid_c a2 len2 cap2 cs hl2 hs2 W' (h2.keep hb))
  have H1 := Lib.hid h1
  have H2 := Lib.hid h2
  have HS1 := Lib.hid hs1
  have HS2 := Lib.hid hs2
  have HE2 := Lib.hid h2.1
  cases vt with
  | false =>
    have HR := Lib.hid (logApply_bad (cs := cs) (.inl hvt))
    clear h1 h2 hs1 hs2 hvt hvl
    go_enter Tryz.func13, Tryz.ntmps13
    go_wp2_with fail
    refine HV.out.mono ?_
    rintro e W1 ⟨rfl, hb1⟩
    go_wp2
    go_ret2
    exact log_end HR.out (World.ownsRow_lit (e := 57) (size := 3) W1 #[] 0 hb1.size (by simp [maxLen]) rfl) (below_next hb1 (below_box _ _))
  | true =>
    cases vl with
    | false =>
      have HR := Lib.hid (logApply_bad (ns := ns) (.inr hvl))
      clear h1 h2 hs1 hs2 hvt hvl
      go_enter Tryz.func13, Tryz.ntmps13
      go_wp2_with fail
      refine HV.out.mono ?_
      rintro e W1 ⟨rfl, hb1⟩
      have B1 := Lib.hid hb1
      clear hb1
      go_wp2_with fail
      refine (HL.out _ B1.out).mono ?_
      rintro e W2 ⟨rfl, hb2⟩
      have B2 := Lib.hid (below_next B1.out hb2)
      clear hb2
      go_wp2
      go_ret2
      exact log_end HR.out (World.ownsRow_lit (e := 57) (size := 3) W2 #[] 0 B2.out.size (by simp [maxLen]) rfl) (below_next B2.out (below_box _ _))
    | true =>
      have HR := Lib.hid (logApply_ok hvt hvl)
      have HVL := Lib.hid hvl
      have HLN := Lib.hid (show ns.length ≤ 10 from ((validT_iff ns).1 hvt).2.2)
      have HRN := Lib.hid (show runL ns (cs.take 0) = (ns, 0) from rfl)
      clear h1 h2 hs1 hs2 hvt hvl
      go_enter Tryz.func13, Tryz.ntmps13
      go_wp2_with fail
      refine HV.out.mono ?_
      rintro e W1 ⟨rfl, hb1⟩
      have B1 := Lib.hid hb1
      clear hb1
      go_wp2_with fail
      refine (HL.out _ B1.out).mono ?_
      rintro e W2 ⟨rfl, hb2⟩
      have B2 := Lib.hid (below_next B1.out hb2)
      clear hb2
      go_wp2_with (at_builtin; refine wpList_append_nodes rfl _ _ rfl W.heap.size _ [] rfl (World.ownsRow_lit (e := 57) (size := 3) W2 #[] 0 B2.out.size (by simp [maxLen]) rfl) _ _ _ _ rfl (H1.out.keep (below_next B2.out (below_box _ _))) (by have := HLN.out; simp; omega) (by have := B2.out.size; simp; omega) ?_; intro v3 w3 ho3 hg3)
      have B3 := Lib.hid ((B2.out.alloc B2.out.size (.cells #[] 57)).grown hg3 (by have := B2.out.size; simp; omega) (fun k e => by cases e; exact B2.out.size))
      have ho3' : w3.ownsRow W.heap.size 57 3 v3 ns.length (flatN ns) := by simpa using ho3
      clear hg3 ho3
      go_loopw [6, 7] (fun o i wr => ApplyRel ns cs len2 W o i wr) (fun _ i _ => len2 - (intOf i).toNat)
      case atStart => exact ⟨0, ns, rfl, by omega, ho3', HLN, HS1, HRN, B3⟩
      case round =>
        obtain ⟨i, acc, rfl, hi, hown, HAL, HAS, HRUN, HB⟩ := hrel
        by_cases hlt : i < len2
        · obtain ⟨b, off, c, rfl, hn, c0, c1, c2, c3, c4⟩ := (H2.out.keep HB.out).node hlt
          have hlt' : (i : Int) < len2 := by omega
          have HLT := Lib.hid hlt
          have HNN := Lib.hid hn
          obtain ⟨ao, co, rfl, hno⟩ := nodes_of_own hown
          obtain ⟨⟨out, ok⟩, hr⟩ : ∃ r, applyC acc c = r := ⟨_, rfl⟩
          have HA := Lib.hid (show Calls Tryz.prog 32 #[.slice ao acc.length co, cmdV c] wr (fun e w' => ∃ sl, e = .returned (.tuple #[sl, .bool ok]) ∧ w'.ownsRow wr.heap.size 57 3 sl out.length (flatN out) ∧ Below wr.heap.size wr w') by
            have := specCmdApply_c ao acc.length co acc c (by have := HAL.out; omega) HAS.out (HS2.out.at hn) wr hno
            rw [hr] at this; exact this)
          have HRR := Lib.hid hr
          have HPC := Lib.hid (HS2.out.at hn)
          have HO := Lib.hid hown
          obtain ⟨p, fk, fv, tk, tv⟩ := c
          unfold cmdV at HA
          simp only at c0 c1 c2 c3 c4 HA HPC
          clear hi hlt hn hr hown hno ho3'
          go_wp2_with fail
          refine HA.out.mono ?_
          rintro e W4 ⟨sl, rfl, ho4, hb4⟩
          have HB4 := Lib.hid (below_next HB.out hb4)
          have HO4 := Lib.hid (own_mono ho4 HB.out.size)
          have HOO := Lib.hid (own_below HO.out hb4)
          clear c0 c1 c2 c3 c4 ho4 hb4
          cases ok with
          | false =>
            have HR2 := Lib.hid (run_stop HRUN.out HNN.out (by rw [HRR.out]))
            go_wp2
            go_ret2
            exact log_end (by rw [HR.out, HR2.out]) HOO.out HB4.out
          | true =>
            have HR2 := Lib.hid (run_step HRUN.out HNN.out HRR.out)
            have HSS := Lib.hid (apply_short2 HRR.out HAS.out HPC.out)
            go_wp2
            go_roundw
            case rel => exact ⟨i + 1, out, by go_num, by have := HLT.out; omega, HO4.out, HSS.out.2, HSS.out.1, HR2, HB4⟩
            case measure => have := HLT.out; simp [intOf]; omega
        · have hge : (len2 : Int) ≤ i := by omega
          have hie : i = len2 := by omega
          subst hie
          have HR2 := Lib.hid (show logApply ns cs = (acc, (i : Int)) by
            have := HRUN.out
            rw [← HE2.out] at this ⊢
            rw [HR.out, run_whole this])
          have HO := Lib.hid hown
          clear hi hlt hown ho3'
          go_wp2
          go_ret2
          exact log_end HR2.out HO.out HB.out

set_option maxHeartbeats 2000000 in
set_option maxRecDepth 100000 in
theorem specLogFits_c (a1 : Option Addr) (len1 cap1 : Nat) (ns : List Nd) (a2 : Option Addr) (len2 cap2 : Nat) (cs : List Cmd) (hl1 : len1 ≤ 2097152) (hl2 : len2 ≤ 2097152) (hs1 : Short 2097152 ns) (hs2 : ShortC 2097152 cs) (W : World) (h1 : NodesAt W a1 len1 ns) (h2 : CmdsAt W a2 len2 cs) :
    Calls Tryz.prog 6 #[.slice a1 len1 cap1, .slice a2 len2 cap2] W (BoolPost (fitsL ns cs) W) := by
  obtain ⟨⟨out, n⟩, hr⟩ : ∃ r, logApply ns cs = r := ⟨_, rfl⟩
  have HA := Lib.hid (show Calls Tryz.prog 13 #[.slice a1 len1 cap1, .slice a2 len2 cap2] W (fun e w' => ∃ sl, e = .returned (.tuple #[sl, .int .i64 n]) ∧ w'.ownsRow W.heap.size 57 3 sl out.length (flatN out) ∧ Below W.heap.size W w') by
    have := specLogApply_c a1 len1 cap1 ns a2 len2 cap2 cs hl1 hl2 hs1 hs2 W h1 h2
    rw [hr] at this; exact this)
  have HF := Lib.hid (show fitsL ns cs = (n == (len2 : Int)) by
    unfold fitsL
    rw [hr, h2.1]
    by_cases e : n = (len2 : Int)
    · simp [e]
    · rw [decide_eq_false e, beq_eq_false_iff_ne.2 e])
  clear h1 h2 hs1 hs2 hr
  go_enter Tryz.func6, Tryz.ntmps6
  go_wp2_with fail
  refine HA.out.mono ?_
  rintro e W1 ⟨sl, rfl, -, hb1⟩
  go_wp2
  go_ret
  exact ⟨ret_bool HF.out.symm, hb1⟩

end Go.Proofs.YtmlnakkfjecibaaGreatDoor

/-
  WALKS: laws.sameNodes, laws.sameTexts at equal lists.
-/
namespace Go.Proofs.YtmlnakkfjecibaaGreatDoor
open Go.RowKit
set_option linter.unusedVariables false

/-- A list of texts in memory. -/
def TextsAt (W : World) (a : Option Addr) (len : Nat) (xs : List ByteArray) : Prop :=
  xs.length = len ∧ (len = 0 ∨ ∃ b off, a = some ⟨b, off, none⟩ ∧ ∀ i x, xs[i]? = some x → W.cell? ⟨b, off + i, none⟩ = some (.string x))

theorem TextsAt.keep {W W' : World} {a : Option Addr} {len : Nat} {xs : List ByteArray} (h : TextsAt W a len xs) (hb : Below W.heap.size W W') : TextsAt W' a len xs := by
  obtain ⟨h1, h0 | ⟨b, off, ha, hc⟩⟩ := h
  · exact ⟨h1, .inl h0⟩
  · exact ⟨h1, .inr ⟨b, off, ha, fun i x hx => cell_kept hb (hc i x hx)⟩⟩

theorem texts_of_own {W : World} {base : Nat} {e : TypeId} {v : Value} {xs : List ByteArray} (h : W.ownsRow base e 1 v xs.length (xs.map Value.string)) :
    ∃ a cap, v = .slice a xs.length cap ∧ TextsAt W a xs.length xs := by
  rcases h.2 with ⟨rfl, h0⟩ | ⟨g, cap, cur, rfl, h1, h2, h3, h4, h5, h6⟩
  · exact ⟨none, 0, by rw [h0], rfl, .inl h0⟩
  · refine ⟨some ⟨g, 0, none⟩, cap, rfl, rfl, .inr ⟨g, 0, rfl, fun i x hx => ?_⟩⟩
    have hi := (List.getElem?_eq_some_iff.1 hx).1
    rw [Nat.zero_add, h.cellAt i (by omega), List.getElem?_map, hx]
    rfl

theorem below_drewN {n : Nat} {W W' : World} (h : Below n W W') (k : Nat) : Below n W (W'.drewN k) := by
  have e := (drewN_cell W' k ⟨0, 0, none⟩).2.2
  exact ⟨h.os, h.tape, h.output, by rw [e]; exact h.size, fun j hj => by rw [e]; exact h.block j hj⟩

theorem TextsAt.node {W : World} {a : Option Addr} {len : Nat} {xs : List ByteArray} (h : TextsAt W a len xs) {i : Nat} (hi : i < len) :
    ∃ b off x, a = some ⟨b, off, none⟩ ∧ xs[i]? = some x ∧ W.cell? ⟨b, off + i, none⟩ = some (.string x) := by
  obtain ⟨h1, h0 | ⟨b, off, ha, hc⟩⟩ := h
  · omega
  · obtain ⟨x, hx⟩ : ∃ x, xs[i]? = some x := ⟨_, List.getElem?_eq_getElem (by omega)⟩
    exact ⟨b, off, x, ha, hx, hc i x hx⟩

end Go.Proofs.YtmlnakkfjecibaaGreatDoor

/-
  WALKS: filters of the model: spec.IgnoresValid, l23In, l23Touches, l23Filter, FilterKeep, FilterHold, FilterTree.
-/
namespace Go.Proofs.YtmlnakkfjecibaaGreatDoor
open Go.RowKit
set_option linter.unusedVariables false

theorem ze_first : (0 : Nat) ≤ 0 := Nat.le_refl 0

theorem sift_take {α : Type} {f : α → Bool} {cs : List α} {n : Nat} {d : α} (h : cs[n]? = some d) : (cs.take (n + 1)).filter f = (cs.take n).filter f ++ (if f d = true then [d] else []) := by
  rw [List.take_add_one, h, List.filter_append]
  congr 1
  show List.filter f [d] = _
  rw [List.filter_cons]
  rfl
theorem sift_in {α : Type} {f : α → Bool} {cs : List α} {n : Nat} {d : α} (h : cs[n]? = some d) (hf : f d = true) : (cs.take (n + 1)).filter f = (cs.take n).filter f ++ [d] := by
  rw [sift_take h, if_pos hf]
theorem sift_out {α : Type} {f : α → Bool} {cs : List α} {n : Nat} {d : α} (h : cs[n]? = some d) (hf : f d = false) : (cs.take (n + 1)).filter f = (cs.take n).filter f := by
  rw [sift_take h, if_neg (by rw [hf]; exact Bool.false_ne_true), List.append_nil]
theorem siftx_end {α : Type} {f : α → Bool} {cs : List α} {n : Nat} {ok : Bool} (h : n = 0 ∨ ok = true) (k : ok = false ∨ cs.length ≤ n) : (if ok = true then cs.filter f else []) = (cs.take n).filter f := by
  cases ok with
  | true =>
    rcases k with k | k
    · cases k
    · rw [if_pos rfl, List.take_of_length_le k]
  | false =>
    rcases h with h | h
    · rw [h]; rfl
    · cases h
theorem sift_len {α : Type} (f : α → Bool) (cs : List α) (n : Nat) : ((cs.take n).filter f).length ≤ n := by
  have h1 := List.length_filter_le f (cs.take n)
  have h2 := List.length_take_le n cs
  omega

/-- A loop that picks commands. -/
def SiftRel (ok : Bool) (f : Cmd → Bool) (cs : List Cmd) (W : World) (o k : Value) (wr : World) : Prop :=
  ∃ n : Nat, k = .int .i64 n ∧ n ≤ cs.length ∧ Hid (n = 0 ∨ ok = true) ∧ wr.ownsRow W.heap.size 45 5 o ((cs.take n).filter f).length (flatC ((cs.take n).filter f)) ∧ Hid (Below W.heap.size W wr)

/-- A loop that picks nodes. -/
def SiftRelN (ok : Bool) (f : Nd → Bool) (cs : List Nd) (W : World) (o k : Value) (wr : World) : Prop :=
  ∃ n : Nat, k = .int .i64 n ∧ n ≤ cs.length ∧ Hid (n = 0 ∨ ok = true) ∧ wr.ownsRow W.heap.size 57 3 o ((cs.take n).filter f).length (flatN ((cs.take n).filter f)) ∧ Hid (Below W.heap.size W wr)

theorem nodes_lit (W : World) (n : Nd) : NodesAt (W.alloc (.cells #[.string n.p, .int .i64 n.k, .int .i64 n.v] 57)) (some ⟨W.heap.size, 0, none⟩) 1 [n] := by
  refine ⟨rfl, .inr ⟨W.heap.size, 0, rfl, fun i d hd => ?_⟩⟩
  match i, hd with
  | 0, hd =>
    simp at hd
    subst hd
    refine ⟨?_, ?_, ?_⟩ <;> rw [World.cell?_alloc_new] <;> rfl

/-- All texts of a list are of modest length. -/
def ShortX (m : Nat) (xs : List ByteArray) : Prop := ∀ q ∈ xs, q.size ≤ m
theorem ShortX.at {m : Nat} {xs : List ByteArray} (h : ShortX m xs) {i : Nat} {q : ByteArray} (hq : xs[i]? = some q) : q.size ≤ m := h q (List.mem_of_getElem? hq)
theorem ShortX.mono {m n : Nat} {xs : List ByteArray} (h : ShortX m xs) (hmn : m ≤ n) : ShortX n xs := fun q hq => Nat.le_trans (h q hq) hmn

theorem textAny_at {f : ByteArray → Bool} {cs : List ByteArray} {n : Nat} {d : ByteArray} (h : cs[n]? = some d) (hf : f d = true) : cs.any f = true :=
  List.any_eq_true.2 ⟨d, List.mem_of_getElem? h, hf⟩
theorem textAny_none {f : ByteArray → Bool} {cs : List ByteArray} (h : ∀ (j : Nat) (d : ByteArray), cs[j]? = some d → f d = false) : cs.any f = false := by
  rw [Bool.eq_false_iff]
  intro hs
  obtain ⟨d, hd, hf⟩ := List.any_eq_true.1 hs
  obtain ⟨j, hj⟩ := List.getElem?_of_mem hd
  rw [h j d hj] at hf
  cases hf
theorem textAny_next {f : ByteArray → Bool} {cs : List ByteArray} {n : Nat} {d : ByteArray} (h : ∀ (j : Nat) (d : ByteArray), j < n → cs[j]? = some d → f d = false) (hd : cs[n]? = some d) (hf : f d = false) : Hid (∀ (j : Nat) (d : ByteArray), j < n + 1 → cs[j]? = some d → f d = false) := by
  intro j x hj hx
  by_cases e : j < n
  · exact h j x e hx
  · obtain rfl : j = n := by omega
    rw [hd] at hx
    obtain rfl := Option.some.inj hx
    exact hf

theorem igV_short {igs : List ByteArray} (h : ∀ (j : Nat) (q : ByteArray), igs[j]? = some q → decide (depB q < 1) = false) : igV igs = decide (igs.length ≤ 4) := by
  unfold igV
  rw [List.all_eq_true.2 (fun q hq => by
    obtain ⟨j, hj⟩ := List.getElem?_of_mem hq
    have := of_decide_eq_false (h j q hj)
    exact decide_eq_true (by omega))]
  rfl
theorem igV_one {igs : List ByteArray} {j : Nat} {q : ByteArray} (hq : igs[j]? = some q) (h : decide (depB q < 1) = true) : igV igs = false := by
  rw [Bool.eq_false_iff]
  intro k
  have h1 := (igV_iff.1 k).1 q (List.mem_of_getElem? hq)
  have := of_decide_eq_true h
  omega
theorem dec_le4 (len : Nat) : decide (len ≤ 4) = decide ((len : Int) ≤ 4) := by
  by_cases h : len ≤ 4
  · rw [decide_eq_true h, decide_eq_true (by omega)]
  · rw [decide_eq_false h, decide_eq_false (by omega)]

theorem inB_step (q p : ByteArray) : decide (q = p) = (q.toList == p.toList) := by
  by_cases h : q = p
  · rw [h]; simp
  · rw [toList_ne h]; exact decide_eq_false h

theorem beq_false_not (b : Bool) : (b == false) = !b := by cases b <;> rfl
theorem beq_true_self (b : Bool) : (b == true) = b := by cases b <;> rfl

/-- Nodes of the call's own. -/
def FiltPost (ns : List Nd) (W : World) (e : Ending) (w' : World) : Prop := OwnsNodes W.heap.size ns e w' ∧ Below W.heap.size W w'

end Go.Proofs.YtmlnakkfjecibaaGreatDoor

/-
  WALKS: contents: impl.contentOf, impl.ContentValid.
-/
namespace Go.Proofs.YtmlnakkfjecibaaGreatDoor
open Go.RowKit
set_option linter.unusedVariables false

/-- What a content stands for, and whether it is one. -/
def conOf (k v : Int) : Value × Bool :=
  if k = 0 ∧ v = 0 then (.iface 149 (.agg #[]), true)
  else if k = 1 ∧ v = 0 then (.iface 150 (.agg #[]), true)
  else if k = 2 ∧ 0 ≤ v ∧ v ≤ 99 then (.iface 152 (.agg #[.int .i64 v]), true)
  else (.nilIface, false)

theorem conOf_valid (k v : Int) : (conOf k v).2 = validB k v := by
  unfold conOf validB
  split
  · rename_i h; simp [h]
  · split
    · rename_i h; simp [h]
    · split
      · rename_i h; simp [h]
      · rename_i h1 h2 h3
        symm
        apply decide_eq_false
        rintro (⟨h, h4 | h4⟩ | h)
        · exact h1 ⟨h4, h⟩
        · exact h2 ⟨h4, h⟩
        · exact h3 h

def ConPost (k v : Int) (w : World) (e : Ending) (w' : World) : Prop :=
  e = .returned (.tuple #[(conOf k v).1, .bool (conOf k v).2]) ∧ Below w.heap.size w w'

theorem con_post (k v : Int) (w : World) (r : Value × Bool) (h : conOf k v = r) (t : TypeId) : ConPost k v w (.returned (.tuple #[r.1, .bool r.2])) (w.alloc (.cells #[.int .i64 k, .int .i64 v] t)) := by
  subst h; exact ⟨rfl, below_box _ _⟩

set_option maxHeartbeats 400000 in
set_option maxRecDepth 100000 in
theorem contentOf_c (k v : Int) (w : World) : Calls Tryz.prog 70 #[con k v] w (ConPost k v w) := by
  unfold con
  by_cases h0 : k = 0
  · subst h0
    by_cases hv : v = 0
    · subst hv
      go_enter Tryz.func70, Tryz.ntmps70
      go_wp2
      go_ret2
      exact con_post _ _ _ (_, _) rfl _
    · have H := Lib.hid (show conOf 0 v = (.nilIface, false) by unfold conOf; simp [hv])
      go_enter Tryz.func70, Tryz.ntmps70
      go_wp2
      go_ret2
      exact con_post _ _ _ (_, _) H.out _
  · by_cases h1 : k = 1
    · subst h1
      clear h0
      by_cases hv : v = 0
      · subst hv
        go_enter Tryz.func70, Tryz.ntmps70
        go_wp2
        go_ret2
        exact con_post _ _ _ (_, _) rfl _
      · have H := Lib.hid (show conOf 1 v = (.nilIface, false) by unfold conOf; simp [hv])
        go_enter Tryz.func70, Tryz.ntmps70
        go_wp2
        go_ret2
        exact con_post _ _ _ (_, _) H.out _
    · by_cases h2 : k = 2
      · subst h2
        clear h0 h1
        by_cases hv : 0 ≤ v
        · by_cases hw : v ≤ 99
          · have H := Lib.hid (show conOf 2 v = (.iface 152 (.agg #[.int .i64 v]), true) by unfold conOf; simp [hv, hw])
            go_enter Tryz.func70, Tryz.ntmps70
            go_wp2
            go_ret2
            exact con_post _ _ _ (_, _) H.out _
          · have H := Lib.hid (show conOf 2 v = (.nilIface, false) by unfold conOf; simp [hw])
            have hw' : 99 < v := by omega
            clear hw
            go_enter Tryz.func70, Tryz.ntmps70
            go_wp2
            go_ret2
            exact con_post _ _ _ (_, _) H.out _
        · have H := Lib.hid (show conOf 2 v = (.nilIface, false) by unfold conOf; simp [hv])
          have hv' : v < 0 := by omega
          clear hv
          go_enter Tryz.func70, Tryz.ntmps70
          go_wp2
          go_ret2
          exact con_post _ _ _ (_, _) H.out _
      · have H := Lib.hid (show conOf k v = (.nilIface, false) by unfold conOf; simp [h0, h1, h2])
        go_enter Tryz.func70, Tryz.ntmps70
        go_wp2
        go_ret2
        exact con_post _ _ _ (_, _) H.out _

set_option maxHeartbeats 400000 in
set_option maxRecDepth 100000 in
theorem implValid_c (k v : Int) (w : World) : Calls Tryz.prog 43 #[con k v] w (BoolPost (validB k v) w) := by
  have H := Lib.hid (fun w => contentOf_c k v w)
  have HV := Lib.hid (conOf_valid k v)
  unfold con at H ⊢
  go_enter Tryz.func43, Tryz.ntmps43
  go_wp2_with fail
  refine (H.out _).mono ?_
  rintro e W1 ⟨rfl, hb⟩
  rw [HV.out]
  go_wp2
  go_ret
  exact ⟨rfl, below_next (below_box _ _) hb⟩

end Go.Proofs.YtmlnakkfjecibaaGreatDoor

/-
  WALKS: laws.toContent.
-/
namespace Go.Proofs.YtmlnakkfjecibaaGreatDoor
open Go.RowKit

end Go.Proofs.YtmlnakkfjecibaaGreatDoor

/-
  WALKS: laws.eqContent at equal contents.
-/
namespace Go.Proofs.YtmlnakkfjecibaaGreatDoor
open Go.RowKit

end Go.Proofs.YtmlnakkfjecibaaGreatDoor

/-
  WALKS: commands in the exact laws: laws.toCommand, szCommand, eqCommand; spec.CommandUndo.
-/
namespace Go.Proofs.YtmlnakkfjecibaaGreatDoor
open Go.RowKit
set_option linter.unusedVariables false

/-- What is left; if anything is, the text is of modest length. -/
def SzCmd (c : Cmd) (w : World) (e : Ending) (w' : World) : Prop := ∃ z : Int, e = .returned (.int .i64 z) ∧ -1 ≤ z ∧ z ≤ 1048576 ∧ (0 ≤ z → c.p.size ≤ 1048576) ∧ Below w.heap.size w w'

theorem five_at {W : World} {n : Nat} (hn : n = W.heap.size) (a b c d e : Value) (t : TypeId) : Five (W.alloc (.cells #[a, b, c, d, e] t)) n a b c d e := by subst hn; exact five_new W a b c d e t

theorem undo_yes {c : Cmd} {vc : Bool} (h : validC c = vc) : undoC c = if vc = true then ⟨c.p, c.tk, c.tv, c.fk, c.fv⟩ else zeroC := by subst h; rfl

end Go.Proofs.YtmlnakkfjecibaaGreatDoor

/-
  WALK: spec.LogUndo.
-/
namespace Go.Proofs.YtmlnakkfjecibaaGreatDoor
open Go.RowKit
set_option linter.unusedVariables false

def UndoRelL (cs : List Cmd) (vl : Bool) (len : Nat) (W : World) (o i : Value) (wr : World) : Prop :=
  ∃ (n : Nat) (z : Int) (acc : List Cmd), i = .int .i64 z ∧ z = (n : Int) - 1 ∧ n ≤ len ∧ wr.ownsRow W.heap.size 45 5 o acc.length (flatC acc) ∧ Hid (acc = (cs.drop n).reverse.map undoC) ∧ Hid (vl = false → n = len) ∧ Hid (Below W.heap.size W wr)

theorem undo_out {cs acc : List Cmd} {vl : Bool} {n len : Nat} (hl : cs.length = len) (hv : validL cs = vl) (ha : acc = (cs.drop n).reverse.map undoC) (hn : vl = false → n = len) (h : vl = false ∨ n = 0) : undoL cs = acc := by
  subst ha
  cases vl with
  | false =>
    rw [undoL_bad hv, hn rfl, ← hl, List.drop_length]
    rfl
  | true =>
    rcases h with h | rfl
    · cases h
    · rw [undoL_ok hv, List.drop_zero]

end Go.Proofs.YtmlnakkfjecibaaGreatDoor
