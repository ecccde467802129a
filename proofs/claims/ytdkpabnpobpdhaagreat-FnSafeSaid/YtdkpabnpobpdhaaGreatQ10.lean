/-
  Texts of this proof, one behind the other: Rf, Rq, Rc, Rg, Rm, Rj.
-/
import Derived.Deep.RegionHeld3
import Derived.Laws.StructEq
import Derived.Deep.QuietTactic
import Derived.Laws.EntriesVeiled
import Derived.Shelf.Abstract
import Derived.Maps.AppendAt
import Derived.OwnWalk
import Derived.Laws.OwnMore
import Derived.Laws.AppendOwnNone
import Derived.Test.YtdkpabnpobpdhaaGreatQ9
import Derived.Test.YtdkpabnpobpdhaaGreatQ7
import Derived.Test.YtdkpabnpobpdhaaGreatRa
import Derived.Test.YtdkpabnpobpdhaaGreatQ4
/-
  WALKS: conflicts of the model, third part: spec.SafeOf, AgreedOf, LeftOf.
-/
namespace Go.Proofs.YtdkpabnpobpdhaaGreat
open Go.RowKit
set_option linter.unusedVariables false

theorem rf_first : (0 : Nat) ≤ 0 := Nat.le_refl 0

theorem pick_in {f : Cmd → Bool} {cs : List Cmd} {n : Nat} {d : Cmd} (h : cs[n]? = some d) (hf : f d = true) : (cs.take (n + 1)).filter f = (cs.take n).filter f ++ [d] := by
  rw [filter_take h, if_pos hf]
theorem pick_out {f : Cmd → Bool} {cs : List Cmd} {n : Nat} {d : Cmd} (h : cs[n]? = some d) (hf : f d = false) : (cs.take (n + 1)).filter f = (cs.take n).filter f := by
  rw [filter_take h, if_neg (by rw [hf]; exact Bool.false_ne_true), List.append_nil]
theorem pickx_end {f : Cmd → Bool} {cs : List Cmd} {n : Nat} {ok : Bool} (h : n = 0 ∨ ok = true) (k : ok = false ∨ cs.length ≤ n) : (if ok = true then cs.filter f else []) = (cs.take n).filter f := by
  cases ok with
  | true =>
    rcases k with k | k
    · cases k
    · rw [if_pos rfl, List.take_of_length_le k]
  | false =>
    rcases h with h | h
    · rw [h]; rfl
    · cases h
theorem pick_len (f : Cmd → Bool) (cs : List Cmd) (n : Nat) : ((cs.take n).filter f).length ≤ n := by
  have h1 := List.length_filter_le f (cs.take n)
  have h2 := List.length_take_le n cs
  omega

/-- A loop that picks commands. -/
def PickRel (ok : Bool) (f : Cmd → Bool) (cs : List Cmd) (W : World) (o k : Value) (wr : World) : Prop :=
  ∃ n : Nat, k = .int .i64 n ∧ n ≤ cs.length ∧ Hid (n = 0 ∨ ok = true) ∧ wr.ownsRow W.heap.size 33 5 o ((cs.take n).filter f).length (flatC ((cs.take n).filter f)) ∧ Hid (Below W.heap.size W wr)

set_option maxHeartbeats 4000000 in
set_option maxRecDepth 100000 in
theorem specSafe_c (a1 : Option Addr) (len1 cap1 : Nat) (cs : List Cmd) (a2 : Option Addr) (len2 cap2 : Nat) (ds : List Cmd) (hl1 : len1 ≤ 2000000) (hl2 : len2 ≤ 2000000) (hs1 : ShortC 2097152 cs) (hs2 : ShortC 2097152 ds) (W : World) (h1 : CmdsAt W a1 len1 cs) (h2 : CmdsAt W a2 len2 ds) :
    Calls Tryz.prog 10 #[.slice a1 len1 cap1, .slice a2 len2 cap2] W (CmdsPost (safeL cs ds) W) := by
  obtain ⟨ok, hok⟩ : ∃ x, okL cs ds = x := ⟨_, rfl⟩
  obtain ⟨f, hf⟩ : ∃ f : Cmd → Bool, f = (fun d => !someC cs d && !hasC cs d) := ⟨_, rfl⟩
  have HOK := Lib.hid (fun w (hb : Below W.heap.size W w) => show Calls Tryz.prog 32 #[.slice a1 len1 cap1, .slice a2 len2 cap2] w (BoolPost ok w) by rw [← hok]; exact specOk_c a1 len1 cap1 cs a2 len2 cap2 ds hl1 hl2 hs1 hs2 w (h1.keep hb) (h2.keep hb))
  have HSM := Lib.hid (fun (d : Cmd) w (hb : Below W.heap.size W w) => specSome_c a1 len1 cap1 cs d (by omega) w (h1.keep hb))
  have HHS := Lib.hid (fun (d : Cmd) w (hb : Below W.heap.size W w) => specHas_c a1 len1 cap1 cs d (by omega) w (h1.keep hb))
  have HN := Lib.hid h2
  have HE := Lib.hid h2.1
  have HR := Lib.hid (show safeL cs ds = if ok = true then ds.filter f else [] by unfold safeL; rw [hok, hf])
  have HF := Lib.hid (fun d => congrFun hf d)
  have hl' : (len2 : Int) ≤ 2000000 := by omega
  clear hok hf h1 h2 hs1 hs2
  go_enter Tryz.func10, Tryz.ntmps10
  go_wp2
  go_loopw [5, 6] (fun o k wr => PickRel ok f ds W o k wr) (fun _ k _ => len2 - (intOf k).toNat)
  case atStart => exact ⟨0, rfl, Nat.zero_le _, .inl rfl, World.ownsRow_lit (e := 33) (size := 5) W #[] 0 (Nat.le_refl _) (by simp [maxLen]) rfl, below_box _ _⟩
  case round =>
    obtain ⟨n, rfl, hn, HZ, hown, HB⟩ := hrel
    have HO := Lib.hid hown
    clear hown
    by_cases hlt : n < len2
    · have hlt' : (n : Int) < len2 := by omega
      have hw1 : IntKind.i64.wrap ((n : Int) + 1) = (n : Int) + 1 := IntWalk.i64_in _ (by omega)
      have HLT := Lib.hid hlt
      obtain ⟨b, off, d, rfl, hd, -⟩ := HN.out.node hlt
      have HD := Lib.hid hd
      clear hn hlt hd
      go_wp2_with fail
      refine (HOK.out _ HB.out).mono ?_
      rintro e W1 ⟨rfl, hb1⟩
      have HO1 := Lib.hid (own_below HO.out hb1)
      have HB1 := Lib.hid (below_next HB.out hb1)
      clear hb1
      cases ok with
      | false =>
        have HX := Lib.hid (HR.out.trans (pickx_end HZ.out (.inl rfl)))
        go_wp2
        go_ret
        rw [HX.out]
        exact ⟨⟨_, rfl, HO1.out⟩, HB1.out⟩
      | true =>
        obtain ⟨v0, hv0⟩ : ∃ x, someC cs d = x := ⟨_, rfl⟩
        have HV0 := Lib.hid hv0
        have HSMd := Lib.hid (fun w (hb : Below W.heap.size W w) => show Calls Tryz.prog 33 #[.slice a1 len1 cap1, cmdV d] w (BoolPost v0 w) by rw [← hv0]; exact HSM.out d w hb)
        clear hv0
        obtain ⟨v1, hv1⟩ : ∃ x, hasC cs d = x := ⟨_, rfl⟩
        have HV1 := Lib.hid hv1
        have HHSd := Lib.hid (fun w (hb : Below W.heap.size W w) => show Calls Tryz.prog 34 #[.slice a1 len1 cap1, cmdV d] w (BoolPost v1 w) by rw [← hv1]; exact HHS.out d w hb)
        clear hv1
        have HX := Lib.hid (show f d = (!v0 && !v1) by rw [HF.out]; simp only [HV0.out, HV1.out])
        obtain ⟨q, gk, gv, uk, uv⟩ := d
        unfold cmdV at HSMd HHSd
        simp only at HSMd HHSd
        obtain ⟨b', off', d', hv, hd, d0, d1, d2, d3, d4⟩ := (HN.out.keep HB1.out).node HLT.out
        cases hv
        obtain rfl := Option.some.inj (HD.out.symm.trans hd)
        simp only at d0 d1 d2 d3 d4
        clear hd
        go_wp2_with fail
        refine (HSMd.out _ HB1.out).mono ?_
        rintro e W2 ⟨rfl, hb2⟩
        have HO2 := Lib.hid (own_below HO1.out hb2)
        have HB2 := Lib.hid (below_next HB1.out hb2)
        clear hb2 d0 d1 d2 d3 d4
        cases v0 with
        | true =>
          have ho9 := HO2.out
          rw [← pick_out HD.out (HX.out.trans (by simp))] at ho9
          go_wp2
          go_roundw
          case rel => exact ⟨n + 1, by go_num, by have := HLT.out; have := HE.out; omega, .inr rfl, ho9, HB2⟩
          case measure => have := HLT.out; simp [intOf]; omega
        | false =>
          obtain ⟨b', off', d', hv, hd, d0, d1, d2, d3, d4⟩ := (HN.out.keep HB2.out).node HLT.out
          cases hv
          obtain rfl := Option.some.inj (HD.out.symm.trans hd)
          simp only at d0 d1 d2 d3 d4
          clear hd
          go_wp2_with fail
          refine (HHSd.out _ HB2.out).mono ?_
          rintro e W3 ⟨rfl, hb3⟩
          have HO3 := Lib.hid (own_below HO2.out hb3)
          have HB3 := Lib.hid (below_next HB2.out hb3)
          clear hb3 d0 d1 d2 d3 d4
          cases v1 with
          | true =>
            have ho9 := HO3.out
            rw [← pick_out HD.out (HX.out.trans (by simp))] at ho9
            go_wp2
            go_roundw
            case rel => exact ⟨n + 1, by go_num, by have := HLT.out; have := HE.out; omega, .inr rfl, ho9, HB3⟩
            case measure => have := HLT.out; simp [intOf]; omega
          | false =>
            obtain ⟨b', off', d', hv, hd, d0, d1, d2, d3, d4⟩ := (HN.out.keep HB3.out).node HLT.out
            cases hv
            obtain rfl := Option.some.inj (HD.out.symm.trans hd)
            simp only at d0 d1 d2 d3 d4
            clear hd
            go_wp2_with (at_builtin; refine wpList_append_cmds rfl _ _ rfl W.heap.size _ ((ds.take n).filter f) rfl (HO3.out.alloc _) _ _ _ [(⟨q, gk, gv, uk, uv⟩ : Cmd)] rfl (cmds_lit _ (⟨q, gk, gv, uk, uv⟩ : Cmd)) (by have h1 := HLT.out; have h2 := pick_len f ds n; simp only [List.length_singleton]; omega) (by have := HB3.out.size; simp; omega) ?_; intro v4 w4 ho4 hg4; have HB9 := Lib.hid ((HB3.out.alloc HB3.out.size _).grown hg4 (by have := HB3.out.size; simp; omega) (fun k e => (HO3.out.lt k e).1)); clear hg4)
            rw [← pick_in HD.out (HX.out.trans rfl)] at ho4
            go_roundw
            case rel => exact ⟨n + 1, by go_num, by have := HLT.out; have := HE.out; omega, .inr rfl, ho4, HB9⟩
            case measure => have := HLT.out; simp [intOf]; omega
    · have hge : (len2 : Int) ≤ n := by omega
      have HX := Lib.hid (HR.out.trans (pickx_end HZ.out (.inr (by have := HE.out; omega))))
      clear hn hlt
      go_wp2
      go_ret
      rw [HX.out]
      exact ⟨⟨_, rfl, HO.out⟩, HB.out⟩

set_option maxHeartbeats 4000000 in
set_option maxRecDepth 100000 in
theorem specAgreed_c (a1 : Option Addr) (len1 cap1 : Nat) (cs : List Cmd) (a2 : Option Addr) (len2 cap2 : Nat) (ds : List Cmd) (hl1 : len1 ≤ 2000000) (hl2 : len2 ≤ 2000000) (hs1 : ShortC 2097152 cs) (hs2 : ShortC 2097152 ds) (W : World) (h1 : CmdsAt W a1 len1 cs) (h2 : CmdsAt W a2 len2 ds) :
    Calls Tryz.prog 18 #[.slice a1 len1 cap1, .slice a2 len2 cap2] W (CmdsPost (agreedL cs ds) W) := by
  obtain ⟨ok, hok⟩ : ∃ x, okL cs ds = x := ⟨_, rfl⟩
  obtain ⟨f, hf⟩ : ∃ f : Cmd → Bool, f = (fun d => hasC cs d && !someC cs d) := ⟨_, rfl⟩
  have HOK := Lib.hid (fun w (hb : Below W.heap.size W w) => show Calls Tryz.prog 32 #[.slice a1 len1 cap1, .slice a2 len2 cap2] w (BoolPost ok w) by rw [← hok]; exact specOk_c a1 len1 cap1 cs a2 len2 cap2 ds hl1 hl2 hs1 hs2 w (h1.keep hb) (h2.keep hb))
  have HHS := Lib.hid (fun (d : Cmd) w (hb : Below W.heap.size W w) => specHas_c a1 len1 cap1 cs d (by omega) w (h1.keep hb))
  have HSM := Lib.hid (fun (d : Cmd) w (hb : Below W.heap.size W w) => specSome_c a1 len1 cap1 cs d (by omega) w (h1.keep hb))
  have HN := Lib.hid h2
  have HE := Lib.hid h2.1
  have HR := Lib.hid (show agreedL cs ds = if ok = true then ds.filter f else [] by unfold agreedL; rw [hok, hf])
  have HF := Lib.hid (fun d => congrFun hf d)
  have hl' : (len2 : Int) ≤ 2000000 := by omega
  clear hok hf h1 h2 hs1 hs2
  go_enter Tryz.func18, Tryz.ntmps18
  go_wp2
  go_loopw [5, 6] (fun o k wr => PickRel ok f ds W o k wr) (fun _ k _ => len2 - (intOf k).toNat)
  case atStart => exact ⟨0, rfl, Nat.zero_le _, .inl rfl, World.ownsRow_lit (e := 33) (size := 5) W #[] 0 (Nat.le_refl _) (by simp [maxLen]) rfl, below_box _ _⟩
  case round =>
    obtain ⟨n, rfl, hn, HZ, hown, HB⟩ := hrel
    have HO := Lib.hid hown
    clear hown
    by_cases hlt : n < len2
    · have hlt' : (n : Int) < len2 := by omega
      have hw1 : IntKind.i64.wrap ((n : Int) + 1) = (n : Int) + 1 := IntWalk.i64_in _ (by omega)
      have HLT := Lib.hid hlt
      obtain ⟨b, off, d, rfl, hd, -⟩ := HN.out.node hlt
      have HD := Lib.hid hd
      clear hn hlt hd
      go_wp2_with fail
      refine (HOK.out _ HB.out).mono ?_
      rintro e W1 ⟨rfl, hb1⟩
      have HO1 := Lib.hid (own_below HO.out hb1)
      have HB1 := Lib.hid (below_next HB.out hb1)
      clear hb1
      cases ok with
      | false =>
        have HX := Lib.hid (HR.out.trans (pickx_end HZ.out (.inl rfl)))
        go_wp2
        go_ret
        rw [HX.out]
        exact ⟨⟨_, rfl, HO1.out⟩, HB1.out⟩
      | true =>
        obtain ⟨v0, hv0⟩ : ∃ x, hasC cs d = x := ⟨_, rfl⟩
        have HV0 := Lib.hid hv0
        have HHSd := Lib.hid (fun w (hb : Below W.heap.size W w) => show Calls Tryz.prog 34 #[.slice a1 len1 cap1, cmdV d] w (BoolPost v0 w) by rw [← hv0]; exact HHS.out d w hb)
        clear hv0
        obtain ⟨v1, hv1⟩ : ∃ x, someC cs d = x := ⟨_, rfl⟩
        have HV1 := Lib.hid hv1
        have HSMd := Lib.hid (fun w (hb : Below W.heap.size W w) => show Calls Tryz.prog 33 #[.slice a1 len1 cap1, cmdV d] w (BoolPost v1 w) by rw [← hv1]; exact HSM.out d w hb)
        clear hv1
        have HX := Lib.hid (show f d = (v0 && !v1) by rw [HF.out]; simp only [HV0.out, HV1.out])
        obtain ⟨q, gk, gv, uk, uv⟩ := d
        unfold cmdV at HHSd HSMd
        simp only at HHSd HSMd
        obtain ⟨b', off', d', hv, hd, d0, d1, d2, d3, d4⟩ := (HN.out.keep HB1.out).node HLT.out
        cases hv
        obtain rfl := Option.some.inj (HD.out.symm.trans hd)
        simp only at d0 d1 d2 d3 d4
        clear hd
        go_wp2_with fail
        refine (HHSd.out _ HB1.out).mono ?_
        rintro e W2 ⟨rfl, hb2⟩
        have HO2 := Lib.hid (own_below HO1.out hb2)
        have HB2 := Lib.hid (below_next HB1.out hb2)
        clear hb2 d0 d1 d2 d3 d4
        cases v0 with
        | false =>
          have ho9 := HO2.out
          rw [← pick_out HD.out (HX.out.trans (by simp))] at ho9
          go_wp2
          go_roundw
          case rel => exact ⟨n + 1, by go_num, by have := HLT.out; have := HE.out; omega, .inr rfl, ho9, HB2⟩
          case measure => have := HLT.out; simp [intOf]; omega
        | true =>
          obtain ⟨b', off', d', hv, hd, d0, d1, d2, d3, d4⟩ := (HN.out.keep HB2.out).node HLT.out
          cases hv
          obtain rfl := Option.some.inj (HD.out.symm.trans hd)
          simp only at d0 d1 d2 d3 d4
          clear hd
          go_wp2_with fail
          refine (HSMd.out _ HB2.out).mono ?_
          rintro e W3 ⟨rfl, hb3⟩
          have HO3 := Lib.hid (own_below HO2.out hb3)
          have HB3 := Lib.hid (below_next HB2.out hb3)
          clear hb3 d0 d1 d2 d3 d4
          cases v1 with
          | true =>
            have ho9 := HO3.out
            rw [← pick_out HD.out (HX.out.trans (by simp))] at ho9
            go_wp2
            go_roundw
            case rel => exact ⟨n + 1, by go_num, by have := HLT.out; have := HE.out; omega, .inr rfl, ho9, HB3⟩
            case measure => have := HLT.out; simp [intOf]; omega
          | false =>
            obtain ⟨b', off', d', hv, hd, d0, d1, d2, d3, d4⟩ := (HN.out.keep HB3.out).node HLT.out
            cases hv
            obtain rfl := Option.some.inj (HD.out.symm.trans hd)
            simp only at d0 d1 d2 d3 d4
            clear hd
            go_wp2_with (at_builtin; refine wpList_append_cmds rfl _ _ rfl W.heap.size _ ((ds.take n).filter f) rfl (HO3.out.alloc _) _ _ _ [(⟨q, gk, gv, uk, uv⟩ : Cmd)] rfl (cmds_lit _ (⟨q, gk, gv, uk, uv⟩ : Cmd)) (by have h1 := HLT.out; have h2 := pick_len f ds n; simp only [List.length_singleton]; omega) (by have := HB3.out.size; simp; omega) ?_; intro v4 w4 ho4 hg4; have HB9 := Lib.hid ((HB3.out.alloc HB3.out.size _).grown hg4 (by have := HB3.out.size; simp; omega) (fun k e => (HO3.out.lt k e).1)); clear hg4)
            rw [← pick_in HD.out (HX.out.trans rfl)] at ho4
            go_roundw
            case rel => exact ⟨n + 1, by go_num, by have := HLT.out; have := HE.out; omega, .inr rfl, ho4, HB9⟩
            case measure => have := HLT.out; simp [intOf]; omega
    · have hge : (len2 : Int) ≤ n := by omega
      have HX := Lib.hid (HR.out.trans (pickx_end HZ.out (.inr (by have := HE.out; omega))))
      clear hn hlt
      go_wp2
      go_ret
      rw [HX.out]
      exact ⟨⟨_, rfl, HO.out⟩, HB.out⟩

set_option maxHeartbeats 4000000 in
set_option maxRecDepth 100000 in
theorem specLeft_c (a1 : Option Addr) (len1 cap1 : Nat) (cs : List Cmd) (a2 : Option Addr) (len2 cap2 : Nat) (ds : List Cmd) (hl1 : len1 ≤ 2000000) (hl2 : len2 ≤ 2000000) (hs1 : ShortC 2097152 cs) (hs2 : ShortC 2097152 ds) (W : World) (h1 : CmdsAt W a1 len1 cs) (h2 : CmdsAt W a2 len2 ds) :
    Calls Tryz.prog 21 #[.slice a1 len1 cap1, .slice a2 len2 cap2] W (CmdsPost (leftL cs ds) W) := by
  obtain ⟨ok, hok⟩ : ∃ x, okL cs ds = x := ⟨_, rfl⟩
  obtain ⟨f, hf⟩ : ∃ f : Cmd → Bool, f = (fun c => someC ds c) := ⟨_, rfl⟩
  have HOK := Lib.hid (fun w (hb : Below W.heap.size W w) => show Calls Tryz.prog 32 #[.slice a1 len1 cap1, .slice a2 len2 cap2] w (BoolPost ok w) by rw [← hok]; exact specOk_c a1 len1 cap1 cs a2 len2 cap2 ds hl1 hl2 hs1 hs2 w (h1.keep hb) (h2.keep hb))
  have HSM := Lib.hid (fun (d : Cmd) w (hb : Below W.heap.size W w) => specSome_c a2 len2 cap2 ds d (by omega) w (h2.keep hb))
  have HN := Lib.hid h1
  have HE := Lib.hid h1.1
  have HR := Lib.hid (show leftL cs ds = if ok = true then cs.filter f else [] by unfold leftL; rw [hok, hf])
  have HF := Lib.hid (fun d => congrFun hf d)
  have hl' : (len1 : Int) ≤ 2000000 := by omega
  clear hok hf h1 h2 hs1 hs2
  go_enter Tryz.func21, Tryz.ntmps21
  go_wp2
  go_loopw [5, 6] (fun o k wr => PickRel ok f cs W o k wr) (fun _ k _ => len1 - (intOf k).toNat)
  case atStart => exact ⟨0, rfl, Nat.zero_le _, .inl rfl, World.ownsRow_lit (e := 33) (size := 5) W #[] 0 (Nat.le_refl _) (by simp [maxLen]) rfl, below_box _ _⟩
  case round =>
    obtain ⟨n, rfl, hn, HZ, hown, HB⟩ := hrel
    have HO := Lib.hid hown
    clear hown
    by_cases hlt : n < len1
    · have hlt' : (n : Int) < len1 := by omega
      have hw1 : IntKind.i64.wrap ((n : Int) + 1) = (n : Int) + 1 := IntWalk.i64_in _ (by omega)
      have HLT := Lib.hid hlt
      obtain ⟨b, off, d, rfl, hd, -⟩ := HN.out.node hlt
      have HD := Lib.hid hd
      clear hn hlt hd
      go_wp2_with fail
      refine (HOK.out _ HB.out).mono ?_
      rintro e W1 ⟨rfl, hb1⟩
      have HO1 := Lib.hid (own_below HO.out hb1)
      have HB1 := Lib.hid (below_next HB.out hb1)
      clear hb1
      cases ok with
      | false =>
        have HX := Lib.hid (HR.out.trans (pickx_end HZ.out (.inl rfl)))
        go_wp2
        go_ret
        rw [HX.out]
        exact ⟨⟨_, rfl, HO1.out⟩, HB1.out⟩
      | true =>
        obtain ⟨v0, hv0⟩ : ∃ x, someC ds d = x := ⟨_, rfl⟩
        have HV0 := Lib.hid hv0
        have HSMd := Lib.hid (fun w (hb : Below W.heap.size W w) => show Calls Tryz.prog 33 #[.slice a2 len2 cap2, cmdV d] w (BoolPost v0 w) by rw [← hv0]; exact HSM.out d w hb)
        clear hv0
        have HX := Lib.hid (show f d = (v0) by rw [HF.out]; simp only [HV0.out])
        obtain ⟨q, gk, gv, uk, uv⟩ := d
        unfold cmdV at HSMd
        simp only at HSMd
        obtain ⟨b', off', d', hv, hd, d0, d1, d2, d3, d4⟩ := (HN.out.keep HB1.out).node HLT.out
        cases hv
        obtain rfl := Option.some.inj (HD.out.symm.trans hd)
        simp only at d0 d1 d2 d3 d4
        clear hd
        go_wp2_with fail
        refine (HSMd.out _ HB1.out).mono ?_
        rintro e W2 ⟨rfl, hb2⟩
        have HO2 := Lib.hid (own_below HO1.out hb2)
        have HB2 := Lib.hid (below_next HB1.out hb2)
        clear hb2 d0 d1 d2 d3 d4
        cases v0 with
        | false =>
          have ho9 := HO2.out
          rw [← pick_out HD.out (HX.out.trans (by simp))] at ho9
          go_wp2
          go_roundw
          case rel => exact ⟨n + 1, by go_num, by have := HLT.out; have := HE.out; omega, .inr rfl, ho9, HB2⟩
          case measure => have := HLT.out; simp [intOf]; omega
        | true =>
          obtain ⟨b', off', d', hv, hd, d0, d1, d2, d3, d4⟩ := (HN.out.keep HB2.out).node HLT.out
          cases hv
          obtain rfl := Option.some.inj (HD.out.symm.trans hd)
          simp only at d0 d1 d2 d3 d4
          clear hd
          go_wp2_with (at_builtin; refine wpList_append_cmds rfl _ _ rfl W.heap.size _ ((cs.take n).filter f) rfl (HO2.out.alloc _) _ _ _ [(⟨q, gk, gv, uk, uv⟩ : Cmd)] rfl (cmds_lit _ (⟨q, gk, gv, uk, uv⟩ : Cmd)) (by have h1 := HLT.out; have h2 := pick_len f cs n; simp only [List.length_singleton]; omega) (by have := HB2.out.size; simp; omega) ?_; intro v4 w4 ho4 hg4; have HB9 := Lib.hid ((HB2.out.alloc HB2.out.size _).grown hg4 (by have := HB2.out.size; simp; omega) (fun k e => (HO2.out.lt k e).1)); clear hg4)
          rw [← pick_in HD.out (HX.out.trans rfl)] at ho4
          go_roundw
          case rel => exact ⟨n + 1, by go_num, by have := HLT.out; have := HE.out; omega, .inr rfl, ho4, HB9⟩
          case measure => have := HLT.out; simp [intOf]; omega
    · have hge : (len1 : Int) ≤ n := by omega
      have HX := Lib.hid (HR.out.trans (pickx_end HZ.out (.inr (by have := HE.out; omega))))
      clear hn hlt
      go_wp2
      go_ret
      rw [HX.out]
      exact ⟨⟨_, rfl, HO.out⟩, HB.out⟩

end Go.Proofs.YtdkpabnpobpdhaaGreat

/-
  WALKS: rules that are closures: impl.isIn, clashesWith, clashesIn, not, both, rule.of; slices.Contains, slices.ContainsFunc at commands.
-/
namespace Go.Proofs.YtdkpabnpobpdhaaGreat
open Go.RowKit
set_option linter.unusedVariables false

theorem rq_first : (0 : Nat) ≤ 0 := Nat.le_refl 0

/-- A rule in memory: a function value that answers f of each command, in this world and in each that grows from it. -/
def RuleAt (w : World) (v : Value) (f : Cmd → Bool) : Prop :=
  ∃ (g : Nat) (lb : Array Value), v = .func (.func g) #[] lb ∧ (∀ args w', (callFunc g args).run Tryz.prog w' = .ok (.enter g args) w') ∧
    ∀ (c : Cmd) (W : World), c.p.size ≤ 2097152 → Below w.heap.size w W → Calls Tryz.prog g (#[cmdV c] ++ lb) W (BoolPost (f c) W)
theorem RuleAt.keep {w w' : World} {v : Value} {f : Cmd → Bool} (h : RuleAt w v f) (hb : Below w.heap.size w w') : RuleAt w' v f := by
  obtain ⟨g, lb, h1, h2, h3⟩ := h
  exact ⟨g, lb, h1, h2, fun c W hc hW => h3 c W hc (below_next hb hW)⟩
/-- What a function that makes a rule tells. -/
def RulePost (f : Cmd → Bool) (W : World) (e : Ending) (w' : World) : Prop := ∃ v, e = .returned v ∧ RuleAt w' v f ∧ Below W.heap.size W w'

theorem any_at {f : Cmd → Bool} {cs : List Cmd} {n : Nat} {d : Cmd} (h : cs[n]? = some d) (hf : f d = true) : cs.any f = true :=
  List.any_eq_true.2 ⟨d, List.mem_of_getElem? h, hf⟩
theorem any_none {f : Cmd → Bool} {cs : List Cmd} (h : ∀ (j : Nat) (d : Cmd), cs[j]? = some d → f d = false) : cs.any f = false := by
  rw [Bool.eq_false_iff]
  intro hs
  obtain ⟨d, hd, hf⟩ := List.any_eq_true.1 hs
  obtain ⟨j, hj⟩ := List.getElem?_of_mem hd
  rw [h j d hj] at hf
  cases hf

/-- What a search tells: a place that is no place if there is none. -/
def IndexPost (b : Bool) (W : World) (e : Ending) (w' : World) : Prop := ∃ i : Int, e = .returned (.int .i64 i) ∧ decide (0 ≤ i) = b ∧ Below W.heap.size W w'

set_option maxHeartbeats 2000000 in
set_option maxRecDepth 100000 in
theorem indexFunc_c (a : Option Addr) (len cap : Nat) (cs : List Cmd) (v : Value) (f : Cmd → Bool) (hl : len ≤ 2097152) (hs : ShortC 2097152 cs) (W : World) (hN : CmdsAt W a len cs) (hR : RuleAt W v f) :
    Calls Tryz.prog 70 #[.slice a len cap, v] W (IndexPost (cs.any f) W) := by
  obtain ⟨g, lb, rfl, eg, hP⟩ := hR
  have HN := Lib.hid hN
  have HE := Lib.hid hN.1
  have HS := Lib.hid hs
  have HP := Lib.hid hP
  have hl' : (len : Int) ≤ 2097152 := by omega
  clear hN hs hP
  go_enter Tryz.func70, Tryz.ntmps70
  go_wp2
  go_loopw [5, 8] (fun _ k wr => ∃ n : Nat, k = .int .i64 n ∧ n ≤ len ∧ Hid (∀ (j : Nat) (d : Cmd), j < n → cs[j]? = some d → f d = false) ∧ Hid (Below W.heap.size W wr)) (fun _ k _ => len - (intOf k).toNat)
  case atStart => exact ⟨0, rfl, Nat.zero_le _, Lib.hid (fun j d h => absurd h (Nat.not_lt_zero _)), Lib.hid (Below.refl _ _)⟩
  case round =>
    obtain ⟨n, rfl, hn, HNO, HB⟩ := hrel
    by_cases hlt : n < len
    · have hlt' : (n : Int) < len := by omega
      have hw1 : IntKind.i64.wrap ((n : Int) + 1) = (n : Int) + 1 := IntWalk.i64_in _ (by omega)
      have HLT := Lib.hid hlt
      obtain ⟨b, off, d, rfl, hd, d0, d1, d2, d3, d4⟩ := (HN.out.keep HB.out).node hlt
      obtain ⟨q, hq⟩ : ∃ q, f d = q := ⟨_, rfl⟩
      have HC := Lib.hid (fun w (hb : Below W.heap.size W w) => show Calls Tryz.prog g (#[cmdV d] ++ lb) w (BoolPost q w) by rw [← hq]; exact HP.out d w (HS.out.at hd) hb)
      have HD := Lib.hid (And.intro hd hq)
      obtain ⟨p, fk, fv, tk, tv⟩ := d
      unfold cmdV at HC
      simp only at d0 d1 d2 d3 d4 HC
      clear hn hlt hd hq
      go_wp2_with (go_at_fn g; refine (HC.out _ HB.out).mono ?_; rintro e W1 ⟨rfl, hb1⟩; have B1 := Lib.hid (below_next HB.out hb1); clear hb1 d0 d1 d2 d3 d4; cases q)
      · go_wp2
        go_roundw
        case rel =>
          refine ⟨n + 1, by go_num, HLT.out, Lib.hid (fun j x hj hx => ?_), B1⟩
          by_cases h : j < n
          · exact HNO.out j x h hx
          · obtain rfl : j = n := by omega
            rw [HD.out.1] at hx
            obtain rfl := Option.some.inj hx
            exact HD.out.2
        case measure => have := HLT.out; simp [intOf]; omega
      · have hn0 : (0 : Int) ≤ n := by omega
        go_wp2
        go_ret
        exact ⟨n, rfl, by rw [any_at HD.out.1 HD.out.2]; exact decide_eq_true hn0, B1.out⟩
    · have hge : (len : Int) ≤ n := by omega
      have HX := Lib.hid (any_none (f := f) (cs := cs) (fun j d hd => HNO.out j d (by have := (List.getElem?_eq_some_iff.1 hd).1; have := HE.out; omega) hd))
      clear hn hlt
      go_wp2
      go_ret
      exact ⟨-1, rfl, by rw [HX.out]; rfl, HB.out⟩

set_option maxHeartbeats 2000000 in
set_option maxRecDepth 100000 in
theorem containsFunc_c (a : Option Addr) (len cap : Nat) (cs : List Cmd) (v : Value) (f : Cmd → Bool) (hl : len ≤ 2097152) (hs : ShortC 2097152 cs) (W : World) (hN : CmdsAt W a len cs) (hR : RuleAt W v f) :
    Calls Tryz.prog 51 #[.slice a len cap, v] W (BoolPost (cs.any f) W) := by
  have HI := Lib.hid (indexFunc_c a len cap cs v f hl hs W hN hR)
  obtain ⟨g, lb, rfl, -⟩ := hR
  clear hN hs hl
  go_enter Tryz.func51, Tryz.ntmps51
  go_wp2_with fail
  refine HI.out.mono ?_
  rintro e W1 ⟨i, rfl, hi, hb⟩
  have B1 := Lib.hid hb
  have HX := Lib.hid hi
  clear hb hi
  go_wp2
  go_ret
  exact ⟨ret_bool HX.out, B1.out⟩

set_option maxHeartbeats 2000000 in
set_option maxRecDepth 100000 in
theorem indexC_c (a : Option Addr) (len cap : Nat) (cs : List Cmd) (c : Cmd) (hl : len ≤ 2097152) (W : World) (hN : CmdsAt W a len cs) :
    Calls Tryz.prog 69 #[.slice a len cap, cmdV c] W (IndexPost (hasC cs c) W) := by
  have HN := Lib.hid hN
  have HE := Lib.hid hN.1
  have hl' : (len : Int) ≤ 2097152 := by omega
  have HC := Lib.hid (cmds_lit W c)
  have HBX := Lib.hid (below_box W (.cells #[.string c.p, .int .i64 c.fk, .int .i64 c.fv, .int .i64 c.tk, .int .i64 c.tv] 33))
  obtain ⟨cc, hcc⟩ : ∃ x, c = x := ⟨_, rfl⟩
  have HCC := Lib.hid hcc
  rw [show hasC cs c = hasC cs cc by rw [hcc]]
  clear hN hcc
  obtain ⟨p, fk, fv, tk, tv⟩ := c
  unfold cmdV
  simp only at HC HBX ⊢
  go_enter Tryz.func69, Tryz.ntmps69
  go_wp2
  generalize W.alloc (.cells #[.string p, .int .i64 fk, .int .i64 fv, .int .i64 tk, .int .i64 tv] 33) = W0 at HC HBX ⊢
  go_loopw [5, 8] (fun _ i wr => ∃ n : Nat, i = .int .i64 n ∧ n ≤ len ∧ Hid (∀ j, j < n → cs[j]? ≠ some cc) ∧ Hid (Below W0.heap.size W0 wr)) (fun _ i _ => len - (intOf i).toNat)
  case atStart => exact ⟨0, rfl, Nat.zero_le _, fun j hj => absurd hj (Nat.not_lt_zero _), Below.refl _ _⟩
  case round =>
    obtain ⟨n, rfl, hn, HNO, HB⟩ := hrel
    by_cases hlt : n < len
    · have hlt' : (n : Int) < len := by omega
      have hw1 : IntKind.i64.wrap ((n : Int) + 1) = (n : Int) + 1 := IntWalk.i64_in _ (by omega)
      have HLT := Lib.hid hlt
      obtain ⟨b, off, d, rfl, hd, d0, d1, d2, d3, d4⟩ := (HN.out.keep (below_next HBX.out HB.out)).node hlt
      obtain ⟨b1, off1, c', e1, e2, c0, c1, c2, c3, c4⟩ := (HC.out.keep HB.out).node (i := 0) (by omega)
      cases e1
      obtain rfl : _ = c' := by simpa using e2
      simp only [Nat.zero_mul, Nat.zero_add, Nat.add_zero] at c0 c1 c2 c3 c4
      have HD := Lib.hid hd
      clear hn hlt e2 hd
      by_cases hdc : d = cc
      · have hd2 := hdc.trans HCC.out.symm
        have HX := Lib.hid (show hasC cs cc = true from hasC_iff.2 (by rw [← hdc]; exact List.mem_of_getElem? HD.out))
        subst hd2
        have ce := fun w => cmdEqS p fk fv tk tv w
        have hn0 : (0 : Int) ≤ n := by omega
        clear hdc
        simp only at d0 d1 d2 d3 d4
        go_upto_region 4 with (fail)
        go_quiet (fail)
        go_wp2
        go_ret
        exact ⟨n, rfl, by rw [HX.out]; exact decide_eq_true hn0, rb_drewN (below_next HBX.out HB.out) _⟩
      · have ce := fun w => cmdEqR ⟨p, fk, fv, tk, tv⟩ d (by rw [HCC.out]; exact fun h => hdc h.symm) w
        have HDC := Lib.hid hdc
        clear hdc
        obtain ⟨p', fk', fv', tk', tv'⟩ := d
        simp only at d0 d1 d2 d3 d4 ce
        go_upto_region 4 with (fail)
        go_quiet (fail)
        go_wp2
        go_roundw
        case rel => exact ⟨n + 1, by go_num, HLT.out, Lib.hid (fun j hj => by
          by_cases hjn : j < n
          · exact HNO.out j hjn
          · obtain rfl : j = n := by omega
            rw [HD.out]
            intro h
            exact HDC.out (Option.some.inj h)), Lib.hid (rb_drewN HB.out _)⟩
        case measure => have := HLT.out; simp [intOf]; omega
    · have hge : (len : Int) ≤ n := by omega
      have HX := Lib.hid (has_no (cs := cs) (c := cc) (fun j hj => HNO.out j (by have := HE.out; omega)))
      clear hn hlt
      go_wp2
      go_ret
      exact ⟨-1, rfl, by rw [HX.out]; rfl, below_next HBX.out HB.out⟩

set_option maxHeartbeats 2000000 in
set_option maxRecDepth 100000 in
theorem contains_c (a : Option Addr) (len cap : Nat) (cs : List Cmd) (c : Cmd) (hl : len ≤ 2097152) (W : World) (hN : CmdsAt W a len cs) :
    Calls Tryz.prog 49 #[.slice a len cap, cmdV c] W (BoolPost (hasC cs c) W) := by
  have HI := Lib.hid (fun W' (hb : Below W.heap.size W W') => indexC_c a len cap cs c hl W' (hN.keep hb))
  have HBX := Lib.hid (below_box W (.cells #[.string c.p, .int .i64 c.fk, .int .i64 c.fv, .int .i64 c.tk, .int .i64 c.tv] 33))
  clear hN hl
  obtain ⟨b, hb⟩ : ∃ b, hasC cs c = b := ⟨_, rfl⟩
  rw [hb] at HI ⊢
  clear hb
  obtain ⟨p, fk, fv, tk, tv⟩ := c
  unfold cmdV at HI ⊢
  simp only at HI HBX ⊢
  go_enter Tryz.func49, Tryz.ntmps49
  go_wp2_with fail
  refine (HI.out _ HBX.out).mono ?_
  rintro e W1 ⟨i, rfl, hi, hb⟩
  have B1 := Lib.hid (below_next HBX.out hb)
  have HX := Lib.hid hi
  clear hb hi
  go_wp2
  go_ret
  exact ⟨ret_bool HX.out, B1.out⟩

/-- A cell of a block of one cell. -/
theorem one_cell (W : World) (v : Value) (t : TypeId) : (W.alloc (.cells #[v] t)).cell? ⟨W.heap.size, 0, none⟩ = some v := by rw [World.cell?_alloc_new]; rfl

set_option maxHeartbeats 1000000 in
set_option maxRecDepth 100000 in
theorem clashesWith1_call (c d : Cmd) (W : World) (B : Nat) (hc : c.p.size ≤ 2097152) (hd : d.p.size ≤ 2097152) (h0 : W.cell? ⟨B, 0, none⟩ = some (.string d.p)) (h1 : W.cell? ⟨B, 1, none⟩ = some (.int .i64 d.fk)) (h2 : W.cell? ⟨B, 2, none⟩ = some (.int .i64 d.fv)) (h3 : W.cell? ⟨B, 3, none⟩ = some (.int .i64 d.tk)) (h4 : W.cell? ⟨B, 4, none⟩ = some (.int .i64 d.tv)) :
    Calls Tryz.prog 61 #[cmdV c, .pointer (some ⟨B, 0, none⟩)] W (BoolPost (clashP c d) W) := by
  have HM := Lib.hid (fun w => implCommandsClash_c c d hc hd w)
  have HB := Lib.hid (below_box W (.cells #[.string c.p, .int .i64 c.fk, .int .i64 c.fv, .int .i64 c.tk, .int .i64 c.tv] 33))
  have e0 := cell_kept HB.out h0
  have e1 := cell_kept HB.out h1
  have e2 := cell_kept HB.out h2
  have e3 := cell_kept HB.out h3
  have e4 := cell_kept HB.out h4
  clear h0 h1 h2 h3 h4 hc hd
  obtain ⟨mm, hmm⟩ : ∃ mm, clashP c d = mm := ⟨_, rfl⟩
  rw [hmm] at HM ⊢
  clear hmm
  obtain ⟨p, fk, fv, tk, tv⟩ := c
  obtain ⟨p', fk', fv', tk', tv'⟩ := d
  unfold cmdV at HM ⊢
  simp only at HM HB e0 e1 e2 e3 e4 ⊢
  go_enter Tryz.func61, Tryz.ntmps61
  go_wp2_with fail
  refine (HM.out _).mono ?_
  rintro e W1 ⟨rfl, hb1⟩
  have B1 := Lib.hid (below_next HB.out hb1)
  clear hb1 e0 e1 e2 e3 e4
  go_wp2
  go_ret
  exact ⟨rfl, B1.out⟩

theorem clashesWith1_c (W0 : World) (B : Nat) (d : Cmd) (hd : d.p.size ≤ 2097152) (h0 : W0.cell? ⟨B, 0, none⟩ = some (.string d.p)) (h1 : W0.cell? ⟨B, 1, none⟩ = some (.int .i64 d.fk)) (h2 : W0.cell? ⟨B, 2, none⟩ = some (.int .i64 d.fv)) (h3 : W0.cell? ⟨B, 3, none⟩ = some (.int .i64 d.tk)) (h4 : W0.cell? ⟨B, 4, none⟩ = some (.int .i64 d.tv)) :
    RuleAt W0 (.func (.func 61) #[] #[.pointer (some ⟨B, 0, none⟩)]) (fun c => clashP c d) :=
  ⟨_, _, rfl, enters_of Tryz.func61 (by kernel_rfl) rfl, fun c W hc hW => clashesWith1_call c d W B hc hd (cell_kept hW h0) (cell_kept hW h1) (cell_kept hW h2) (cell_kept hW h3) (cell_kept hW h4)⟩

/-- A box of a command, as a row of one. -/
def BoxC (W : World) (B : Nat) (d : Cmd) : Prop := W.ownsRow 0 33 5 (.slice (some ⟨B, 0, none⟩) 1 1) 1 (flatC [d])
theorem boxC_cells {W : World} {B : Nat} {d : Cmd} (h : BoxC W B d) : W.cell? ⟨B, 0, none⟩ = some (.string d.p) ∧ W.cell? ⟨B, 1, none⟩ = some (.int .i64 d.fk) ∧ W.cell? ⟨B, 2, none⟩ = some (.int .i64 d.fv) ∧ W.cell? ⟨B, 3, none⟩ = some (.int .i64 d.tk) ∧ W.cell? ⟨B, 4, none⟩ = some (.int .i64 d.tv) := by
  unfold BoxC at h
  refine ⟨?_, ?_, ?_, ?_, ?_⟩
  · rw [h.cellAt 0 (by omega)]; rfl
  · rw [h.cellAt 1 (by omega)]; rfl
  · rw [h.cellAt 2 (by omega)]; rfl
  · rw [h.cellAt 3 (by omega)]; rfl
  · rw [h.cellAt 4 (by omega)]; rfl
theorem boxC_new (W : World) (d : Cmd) : BoxC (W.alloc (.cells #[.string d.p, .int .i64 d.fk, .int .i64 d.fv, .int .i64 d.tk, .int .i64 d.tv] 33)) W.heap.size d :=
  World.ownsRow_lit (e := 33) (size := 5) W #[.string d.p, .int .i64 d.fk, .int .i64 d.fv, .int .i64 d.tk, .int .i64 d.tv] 1 (Nat.zero_le _) (by simp [maxLen]) rfl
theorem BoxC.keep {W W' : World} {B : Nat} {d : Cmd} (h : BoxC W B d) (hb : Below W.heap.size W W') : BoxC W' B d := own_below h hb
theorem boxC_call (c d : Cmd) (W : World) (B : Nat) (hc : c.p.size ≤ 2097152) (hd : d.p.size ≤ 2097152) (h : BoxC W B d) :
    Calls Tryz.prog 61 #[cmdV c, .pointer (some ⟨B, 0, none⟩)] W (BoolPost (clashP c d) W) := by
  obtain ⟨h0, h1, h2, h3, h4⟩ := boxC_cells h
  exact clashesWith1_call c d W B hc hd h0 h1 h2 h3 h4

/-- What clashesWith tells: its closure, and the box that it has captured. -/
def BoxPost (d : Cmd) (W : World) (e : Ending) (w' : World) : Prop :=
  ∃ B : Nat, e = .returned (.func (.func 61) #[] #[.pointer (some ⟨B, 0, none⟩)]) ∧ BoxC w' B d ∧ Below W.heap.size W w'
set_option maxHeartbeats 1000000 in
set_option maxRecDepth 100000 in
theorem clashesWith_box (d : Cmd) (W : World) : Calls Tryz.prog 42 #[cmdV d] W (BoxPost d W) := by
  have HB := Lib.hid (below_box W (.cells #[.string d.p, .int .i64 d.fk, .int .i64 d.fv, .int .i64 d.tk, .int .i64 d.tv] 33))
  have HR := Lib.hid (boxC_new W d)
  obtain ⟨dd, hdd⟩ : ∃ x, d = x := ⟨_, rfl⟩
  rw [show BoxPost d W = BoxPost dd W by rw [hdd]]
  have HDD := Lib.hid hdd
  clear hdd
  obtain ⟨p', fk', fv', tk', tv'⟩ := d
  unfold cmdV
  simp only at HR HB ⊢
  go_enter Tryz.func42, Tryz.ntmps42
  go_wp2
  go_ret
  exact ⟨_, rfl, by rw [← HDD.out]; exact HR.out, HB.out⟩

set_option maxHeartbeats 1000000 in
set_option maxRecDepth 100000 in
theorem clashesWith_c (d : Cmd) (hd : d.p.size ≤ 2097152) (W : World) : Calls Tryz.prog 42 #[cmdV d] W (RulePost (fun c => clashP c d) W) := by
  have HB := Lib.hid (below_box W (.cells #[.string d.p, .int .i64 d.fk, .int .i64 d.fv, .int .i64 d.tk, .int .i64 d.tv] 33))
  have HR := Lib.hid (by
    obtain ⟨e0, e1, e2, e3, e4, -⟩ := five_new W (.string d.p) (.int .i64 d.fk) (.int .i64 d.fv) (.int .i64 d.tk) (.int .i64 d.tv) 33
    exact clashesWith1_c _ W.heap.size d hd e0 e1 e2 e3 e4)
  clear hd
  obtain ⟨f, hf⟩ : ∃ f : Cmd → Bool, (fun c => clashP c d) = f := ⟨_, rfl⟩
  rw [hf] at HR ⊢
  clear hf
  obtain ⟨p', fk', fv', tk', tv'⟩ := d
  unfold cmdV
  simp only at HR HB ⊢
  go_enter Tryz.func42, Tryz.ntmps42
  go_wp2
  go_ret
  exact ⟨_, rfl, HR.out, HB.out⟩

set_option maxHeartbeats 1000000 in
set_option maxRecDepth 100000 in
theorem isIn1_c (W0 : World) (B : Nat) (a : Option Addr) (len cap : Nat) (cs : List Cmd) (hl : len ≤ 2097152) (hN : CmdsAt W0 a len cs) (h0 : W0.cell? ⟨B, 0, none⟩ = some (.slice a len cap)) :
    RuleAt W0 (.func (.func 48) #[] #[.pointer (some ⟨B, 0, none⟩)]) (fun c => hasC cs c) := by
  refine ⟨_, _, rfl, enters_of Tryz.func48 (by kernel_rfl) rfl, fun c W hc hW => ?_⟩
  show Calls Tryz.prog 48 #[cmdV c, .pointer (some ⟨B, 0, none⟩)] W (BoolPost (hasC cs c) W)
  have HM := Lib.hid (fun W' (hb : Below W.heap.size W W') => contains_c a len cap cs c hl W' ((hN.keep hW).keep hb))
  have HB := Lib.hid (below_box W (.cells #[.string c.p, .int .i64 c.fk, .int .i64 c.fv, .int .i64 c.tk, .int .i64 c.tv] 33))
  have e0 := cell_kept HB.out (cell_kept hW h0)
  clear h0 hc hW hN hl
  obtain ⟨mm, hmm⟩ : ∃ mm, hasC cs c = mm := ⟨_, rfl⟩
  rw [hmm] at HM ⊢
  clear hmm
  obtain ⟨p, fk, fv, tk, tv⟩ := c
  unfold cmdV at HM ⊢
  simp only at HM HB e0 ⊢
  go_enter Tryz.func48, Tryz.ntmps48
  go_wp2_with fail
  refine (HM.out _ HB.out).mono ?_
  rintro e W1 ⟨rfl, hb1⟩
  have B1 := Lib.hid (below_next HB.out hb1)
  clear hb1 e0
  go_wp2
  go_ret
  exact ⟨rfl, B1.out⟩

set_option maxHeartbeats 1000000 in
set_option maxRecDepth 100000 in
theorem isIn_c (a : Option Addr) (len cap : Nat) (cs : List Cmd) (hl : len ≤ 2097152) (W : World) (hN : CmdsAt W a len cs) : Calls Tryz.prog 29 #[.slice a len cap] W (RulePost (fun c => hasC cs c) W) := by
  have HB := Lib.hid (below_box W (.cells #[.slice a len cap] 23))
  have HR := Lib.hid (isIn1_c _ W.heap.size a len cap cs hl (hN.keep HB.out) (one_cell W _ _))
  clear hN hl
  go_enter Tryz.func29, Tryz.ntmps29
  go_wp2
  go_ret
  exact ⟨_, rfl, HR.out, HB.out⟩

set_option maxHeartbeats 2000000 in
set_option maxRecDepth 100000 in
theorem clashesIn1_c (W0 : World) (B : Nat) (a : Option Addr) (len cap : Nat) (cs : List Cmd) (hl : len ≤ 2097152) (hs : ShortC 2097152 cs) (hN : CmdsAt W0 a len cs) (h0 : W0.cell? ⟨B, 0, none⟩ = some (.slice a len cap)) :
    RuleAt W0 (.func (.func 50) #[] #[.pointer (some ⟨B, 0, none⟩)]) (fun c => cs.any (fun d => clashP d c)) := by
  refine ⟨_, _, rfl, enters_of Tryz.func50 (by kernel_rfl) rfl, fun c W hc hW => ?_⟩
  show Calls Tryz.prog 50 #[cmdV c, .pointer (some ⟨B, 0, none⟩)] W (BoolPost (cs.any (fun d => clashP d c)) W)
  obtain ⟨f, hf⟩ : ∃ f : Cmd → Bool, (fun d => clashP d c) = f := ⟨_, rfl⟩
  have HM := Lib.hid (fun w => show Calls Tryz.prog 42 #[cmdV c] w (RulePost f w) by rw [← hf]; exact clashesWith_c c hc w)
  have HF := Lib.hid (fun v W' (hb : Below W.heap.size W W') (hR : RuleAt W' v f) => containsFunc_c a len cap cs v f hl hs W' ((hN.keep hW).keep hb) hR)
  have HB := Lib.hid (below_box W (.cells #[.string c.p, .int .i64 c.fk, .int .i64 c.fv, .int .i64 c.tk, .int .i64 c.tv] 33))
  have e0 := cell_kept HB.out (cell_kept hW h0)
  obtain ⟨c0, c1, c2, c3, c4, -⟩ := five_new W (.string c.p) (.int .i64 c.fk) (.int .i64 c.fv) (.int .i64 c.tk) (.int .i64 c.tv) 33
  obtain ⟨mm, hmm⟩ : ∃ mm, cs.any f = mm := ⟨_, rfl⟩
  rw [hf, hmm]
  rw [hmm] at HF
  clear h0 hc hW hN hl hs hf hmm
  obtain ⟨p, fk, fv, tk, tv⟩ := c
  unfold cmdV at HM ⊢
  simp only at HM HB e0 c0 c1 c2 c3 c4 ⊢
  go_enter Tryz.func50, Tryz.ntmps50
  obtain ⟨W1, hW1⟩ : ∃ X, X = W.alloc (.cells #[.string p, .int .i64 fk, .int .i64 fv, .int .i64 tk, .int .i64 tv] 33) := ⟨_, rfl⟩
  rw [← hW1] at HB e0 c0 c1 c2 c3 c4
  subst hW1
  go_upto_region 1 with (fail)
  obtain ⟨W1, hW1⟩ : ∃ X, X = W.alloc (.cells #[.string p, .int .i64 fk, .int .i64 fv, .int .i64 tk, .int .i64 tv] 33) := ⟨_, rfl⟩
  rw [← hW1] at HB e0 c0 c1 c2 c3 c4
  have HS0 := Lib.hid (show W1.drew.cell? ⟨B, 0, none⟩ = some (.slice a len cap) ∧ W1.drew.cell? ⟨W.heap.size, 0, none⟩ = some (.string p) ∧ W1.drew.cell? ⟨W.heap.size, 1, none⟩ = some (.int .i64 fk) ∧ W1.drew.cell? ⟨W.heap.size, 2, none⟩ = some (.int .i64 fv) ∧ W1.drew.cell? ⟨W.heap.size, 3, none⟩ = some (.int .i64 tk) ∧ W1.drew.cell? ⟨W.heap.size, 4, none⟩ = some (.int .i64 tv) ∧ Below W.heap.size W W1.drew from ⟨e0, c0, c1, c2, c3, c4, HB.out.drew⟩)
  have HKP := Lib.hid (fun (u1 u2 : World) (h : u1.cell? ⟨B, 0, none⟩ = some (.slice a len cap) ∧ u1.cell? ⟨W.heap.size, 0, none⟩ = some (.string p) ∧ u1.cell? ⟨W.heap.size, 1, none⟩ = some (.int .i64 fk) ∧ u1.cell? ⟨W.heap.size, 2, none⟩ = some (.int .i64 fv) ∧ u1.cell? ⟨W.heap.size, 3, none⟩ = some (.int .i64 tk) ∧ u1.cell? ⟨W.heap.size, 4, none⟩ = some (.int .i64 tv) ∧ Below W.heap.size W u1) (hb : Below u1.heap.size u1 u2) => show u2.cell? ⟨B, 0, none⟩ = some (.slice a len cap) ∧ u2.cell? ⟨W.heap.size, 0, none⟩ = some (.string p) ∧ u2.cell? ⟨W.heap.size, 1, none⟩ = some (.int .i64 fk) ∧ u2.cell? ⟨W.heap.size, 2, none⟩ = some (.int .i64 fv) ∧ u2.cell? ⟨W.heap.size, 3, none⟩ = some (.int .i64 tk) ∧ u2.cell? ⟨W.heap.size, 4, none⟩ = some (.int .i64 tv) ∧ Below W.heap.size W u2 from ⟨cell_kept hb h.1, cell_kept hb h.2.1, cell_kept hb h.2.2.1, cell_kept hb h.2.2.2.1, cell_kept hb h.2.2.2.2.1, cell_kept hb h.2.2.2.2.2.1, below_next h.2.2.2.2.2.2 hb⟩)
  subst hW1
  clear e0 c0 c1 c2 c3 c4
  go_region_held3 (fun w' => w'.cell? ⟨B, 0, none⟩ = some (.slice a len cap) ∧ w'.cell? ⟨W.heap.size, 0, none⟩ = some (.string p) ∧ w'.cell? ⟨W.heap.size, 1, none⟩ = some (.int .i64 fk) ∧ w'.cell? ⟨W.heap.size, 2, none⟩ = some (.int .i64 fv) ∧ w'.cell? ⟨W.heap.size, 3, none⟩ = some (.int .i64 tk) ∧ w'.cell? ⟨W.heap.size, 4, none⟩ = some (.int .i64 tv) ∧ Below W.heap.size W w')
    (first | exact HS0.out | exact HS7.out | exact HKP.out _ _ HS7.out hb8)
    (first
      | (go_at_call 42; (with_reducible refine (HM.out _).mono ?_); rintro e W7 ⟨v, rfl, hr7, hb7⟩; have HS7 := Lib.hid (HKP.out _ _ HS0.out hb7); have HR7 := Lib.hid hr7; obtain ⟨g, lb, rfl, -⟩ := hr7; clear hb7)
      | (go_at_call 51; (with_reducible refine (HF.out _ _ HS7.out.2.2.2.2.2.2 HR7.out).mono ?_); rintro e W8 ⟨rfl, hb8⟩))
  all_goals
    rename_i hS
    have HB9 := Lib.hid hS.2.2.2.2.2.2
    clear hS
    go_wp2
    go_ret
    exact ⟨rfl, HB9.out⟩

set_option maxHeartbeats 1000000 in
set_option maxRecDepth 100000 in
theorem clashesIn_c (a : Option Addr) (len cap : Nat) (cs : List Cmd) (hl : len ≤ 2097152) (hs : ShortC 2097152 cs) (W : World) (hN : CmdsAt W a len cs) : Calls Tryz.prog 30 #[.slice a len cap] W (RulePost (fun c => cs.any (fun d => clashP d c)) W) := by
  have HB := Lib.hid (below_box W (.cells #[.slice a len cap] 23))
  have HR := Lib.hid (clashesIn1_c _ W.heap.size a len cap cs hl hs (hN.keep HB.out) (one_cell W _ _))
  obtain ⟨f, hf⟩ : ∃ f : Cmd → Bool, (fun c => cs.any (fun d => clashP d c)) = f := ⟨_, rfl⟩
  rw [hf] at HR ⊢
  clear hN hl hs hf
  go_enter Tryz.func30, Tryz.ntmps30
  go_wp2
  go_ret
  exact ⟨_, rfl, HR.out, HB.out⟩

set_option maxHeartbeats 1000000 in
set_option maxRecDepth 100000 in
theorem not1_c (W0 : World) (B : Nat) (v : Value) (f : Cmd → Bool) (hR : RuleAt W0 v f) (h0 : W0.cell? ⟨B, 0, none⟩ = some v) :
    RuleAt W0 (.func (.func 47) #[] #[.pointer (some ⟨B, 0, none⟩)]) (fun c => !f c) := by
  refine ⟨_, _, rfl, enters_of Tryz.func47 (by kernel_rfl) rfl, fun c W hc hW => ?_⟩
  show Calls Tryz.prog 47 #[cmdV c, .pointer (some ⟨B, 0, none⟩)] W (BoolPost (!f c) W)
  obtain ⟨g, lb, rfl, eg, hP⟩ := hR
  have HB := Lib.hid (below_box W (.cells #[.string c.p, .int .i64 c.fk, .int .i64 c.fv, .int .i64 c.tk, .int .i64 c.tv] 33))
  have HM := Lib.hid (fun W' (hb : Below W.heap.size W W') => hP c W' hc (below_next hW hb))
  have e0 := cell_kept HB.out (cell_kept hW h0)
  clear h0 hc hW hP
  obtain ⟨mm, hmm⟩ : ∃ mm, f c = mm := ⟨_, rfl⟩
  rw [hmm] at HM ⊢
  clear hmm
  obtain ⟨p, fk, fv, tk, tv⟩ := c
  unfold cmdV at HM ⊢
  simp only at HM HB e0 ⊢
  go_enter Tryz.func47, Tryz.ntmps47
  go_wp2_with (go_at_fn g; refine (HM.out _ HB.out).mono ?_; rintro e W1 ⟨rfl, hb1⟩; have B1 := Lib.hid (below_next HB.out hb1); clear hb1 e0)
  go_ret
  exact ⟨rfl, B1.out⟩

set_option maxHeartbeats 1000000 in
set_option maxRecDepth 100000 in
theorem not_c (v : Value) (f : Cmd → Bool) (W : World) (hR : RuleAt W v f) : Calls Tryz.prog 28 #[v] W (RulePost (fun c => !f c) W) := by
  have HB := Lib.hid (below_box W (.cells #[v] 42))
  have HR := Lib.hid (not1_c _ W.heap.size v f (hR.keep HB.out) (one_cell W _ _))
  obtain ⟨g, lb, rfl, -⟩ := hR
  obtain ⟨f2, hf⟩ : ∃ f2 : Cmd → Bool, (fun c => !f c) = f2 := ⟨_, rfl⟩
  rw [hf] at HR ⊢
  clear hf
  go_enter Tryz.func28, Tryz.ntmps28
  go_wp2
  go_ret
  exact ⟨_, rfl, HR.out, HB.out⟩

set_option maxHeartbeats 2000000 in
set_option maxRecDepth 100000 in
theorem both1_c (W0 : World) (B1 B2 : Nat) (v1 v2 : Value) (f1 f2 : Cmd → Bool) (hR1 : RuleAt W0 v1 f1) (hR2 : RuleAt W0 v2 f2) (h1 : W0.cell? ⟨B1, 0, none⟩ = some v1) (h2 : W0.cell? ⟨B2, 0, none⟩ = some v2) :
    RuleAt W0 (.func (.func 46) #[] #[.pointer (some ⟨B1, 0, none⟩), .pointer (some ⟨B2, 0, none⟩)]) (fun c => f1 c && f2 c) := by
  refine ⟨_, _, rfl, enters_of Tryz.func46 (by kernel_rfl) rfl, fun c W hc hW => ?_⟩
  show Calls Tryz.prog 46 #[cmdV c, .pointer (some ⟨B1, 0, none⟩), .pointer (some ⟨B2, 0, none⟩)] W (BoolPost (f1 c && f2 c) W)
  obtain ⟨g1, lb1, rfl, eg1, hP1⟩ := hR1
  obtain ⟨g2, lb2, rfl, eg2, hP2⟩ := hR2
  have HB := Lib.hid (below_box W (.cells #[.string c.p, .int .i64 c.fk, .int .i64 c.fv, .int .i64 c.tk, .int .i64 c.tv] 33))
  have HM1 := Lib.hid (fun W' (hb : Below W.heap.size W W') => hP1 c W' hc (below_next hW hb))
  have HM2 := Lib.hid (fun W' (hb : Below W.heap.size W W') => hP2 c W' hc (below_next hW hb))
  have e1 := cell_kept HB.out (cell_kept hW h1)
  have e2 := cell_kept HB.out (cell_kept hW h2)
  have E2 := Lib.hid e2
  clear h1 h2 hc hW hP1 hP2
  have HC := Lib.hid (five_new W (.string c.p) (.int .i64 c.fk) (.int .i64 c.fv) (.int .i64 c.tk) (.int .i64 c.tv) 33)
  obtain ⟨m1, hm1⟩ : ∃ mm, f1 c = mm := ⟨_, rfl⟩
  obtain ⟨m2, hm2⟩ : ∃ mm, f2 c = mm := ⟨_, rfl⟩
  rw [hm1] at HM1 ⊢
  rw [hm2] at HM2 ⊢
  clear hm1 hm2
  obtain ⟨p, fk, fv, tk, tv⟩ := c
  unfold cmdV at HM1 HM2 ⊢
  simp only at HM1 HM2 HB HC e1 e2 E2 ⊢
  go_enter Tryz.func46, Tryz.ntmps46
  cases m1 with
  | false =>
    go_wp2_with (go_at_fn g1; refine (HM1.out _ HB.out).mono ?_; rintro e W1 ⟨rfl, hb1⟩; have B1' := Lib.hid (below_next HB.out hb1); clear hb1 e1 e2)
    go_ret
    exact ⟨rfl, B1'.out⟩
  | true =>
    go_wp2_with (first
      | (go_at_fn g1; refine (HM1.out _ HB.out).mono ?_; rintro e W1 ⟨rfl, hb1⟩; have B1' := Lib.hid (below_next HB.out hb1); have e3 := cell_kept hb1 E2.out; obtain ⟨c0, c1, c2, c3, c4, -⟩ := HC.out.below hb1; clear hb1 e1 e2)
      | (go_at_fn g2; refine (HM2.out _ B1'.out).mono ?_; rintro e W2 ⟨rfl, hb2⟩; have B2' := Lib.hid (below_next B1'.out hb2); clear hb2 e3 c0 c1 c2 c3 c4))
    go_ret
    exact ⟨rfl, B2'.out⟩

set_option maxHeartbeats 1000000 in
set_option maxRecDepth 100000 in
theorem both_c (v1 v2 : Value) (f1 f2 : Cmd → Bool) (W : World) (hR1 : RuleAt W v1 f1) (hR2 : RuleAt W v2 f2) : Calls Tryz.prog 27 #[v1, v2] W (RulePost (fun c => f1 c && f2 c) W) := by
  have HA := below_box W (.cells #[v1] 42)
  have HA2 := below_box (W.alloc (.cells #[v1] 42)) (.cells #[v2] 42)
  have HB := Lib.hid (below_next HA HA2)
  have HR := Lib.hid (both1_c _ W.heap.size (W.heap.size + 1) v1 v2 f1 f2 (hR1.keep HB.out) (hR2.keep HB.out) (cell_kept HA2 (one_cell W _ _)) (by have := one_cell (W.alloc (.cells #[v1] 42)) v2 42; rwa [World.size_alloc] at this))
  clear HA HA2
  obtain ⟨g1, lb1, rfl, -⟩ := hR1
  obtain ⟨g2, lb2, rfl, -⟩ := hR2
  obtain ⟨f3, hf⟩ : ∃ f3 : Cmd → Bool, (fun c => f1 c && f2 c) = f3 := ⟨_, rfl⟩
  rw [hf] at HR ⊢
  clear hf
  go_enter Tryz.func27, Tryz.ntmps27
  go_wp2
  go_ret
  exact ⟨_, rfl, HR.out, HB.out⟩

set_option maxHeartbeats 4000000 in
set_option maxRecDepth 100000 in
theorem ruleOf_c (v : Value) (f : Cmd → Bool) (a : Option Addr) (len cap : Nat) (cs : List Cmd) (hl : len ≤ 2000000) (hs : ShortC 2097152 cs) (W : World) (hN : CmdsAt W a len cs) (hR : RuleAt W v f) :
    Calls Tryz.prog 31 #[v, .slice a len cap] W (CmdsPost (cs.filter f) W) := by
  obtain ⟨g, lb, rfl, eg, hP⟩ := hR
  have HN := Lib.hid hN
  have HE := Lib.hid hN.1
  have HS := Lib.hid hs
  have HP := Lib.hid hP
  have hl' : (len : Int) ≤ 2000000 := by omega
  clear hN hs hP
  go_enter Tryz.func31, Tryz.ntmps31
  go_wp2
  go_loopw [5, 7, 10] (fun o _ k wr => PickRel true f cs W o k wr) (fun _ _ k _ => len - (intOf k).toNat)
  case atStart => exact ⟨0, rfl, Nat.zero_le _, .inr rfl, World.ownsRow_nil _ _ _ _, Below.refl _ _⟩
  case round =>
    obtain ⟨n, rfl, hn, HZ, hown, HB⟩ := hrel
    have HO := Lib.hid hown
    clear hown
    by_cases hlt : n < len
    · have hlt' : (n : Int) < len := by omega
      have hw1 : IntKind.i64.wrap ((n : Int) + 1) = (n : Int) + 1 := IntWalk.i64_in _ (by omega)
      have HLT := Lib.hid hlt
      obtain ⟨b, off, d, rfl, hd, d0, d1, d2, d3, d4⟩ := (HN.out.keep HB.out).node hlt
      obtain ⟨q, hq⟩ : ∃ q, f d = q := ⟨_, rfl⟩
      have HC := Lib.hid (fun w (hb : Below W.heap.size W w) => show Calls Tryz.prog g (#[cmdV d] ++ lb) w (BoolPost q w) by rw [← hq]; exact HP.out d w (HS.out.at hd) hb)
      have HD := Lib.hid (And.intro hd hq)
      have HF := Lib.hid (five_new wr (.string d.p) (.int .i64 d.fk) (.int .i64 d.fv) (.int .i64 d.tk) (.int .i64 d.tv) 33)
      have HBX := Lib.hid (below_box wr (.cells #[.string d.p, .int .i64 d.fk, .int .i64 d.fv, .int .i64 d.tk, .int .i64 d.tv] 33))
      obtain ⟨p, fk, fv, tk, tv⟩ := d
      unfold cmdV at HC
      simp only at d0 d1 d2 d3 d4 HC HF HBX
      clear hn hlt hd hq
      go_wp2_with fail
      refine (HC.out _ (below_next HB.out HBX.out)).mono ?_
      rintro e W1 ⟨rfl, hb1⟩
      have B1 := Lib.hid (below_next (below_next HB.out HBX.out) hb1)
      have HO1 := Lib.hid (own_below (HO.out.alloc _) hb1)
      obtain ⟨f0, f1, f2, f3, f4, -⟩ := HF.out.below hb1
      clear hb1 d0 d1 d2 d3 d4
      cases q
      · have ho9 := HO1.out
        rw [← pick_out HD.out.1 HD.out.2] at ho9
        go_wp2
        go_roundw
        case rel => exact ⟨n + 1, by go_num, by have := HLT.out; have := HE.out; omega, .inr rfl, ho9, B1⟩
        case measure => have := HLT.out; simp [intOf]; omega
      · go_wp2_with (at_builtin; refine wpList_append_cmds rfl _ _ rfl W.heap.size _ ((cs.take n).filter f) rfl (HO1.out.alloc _) _ _ _ [(⟨p, fk, fv, tk, tv⟩ : Cmd)] rfl (cmds_lit _ (⟨p, fk, fv, tk, tv⟩ : Cmd)) (by have h1 := HLT.out; have h2 := pick_len f cs n; simp only [List.length_singleton]; omega) (by have := B1.out.size; simp; omega) ?_; intro v4 w4 ho4 hg4; have HB9 := Lib.hid ((B1.out.alloc B1.out.size _).grown hg4 (by have := B1.out.size; simp; omega) (fun k e => (HO1.out.lt k e).1)); clear hg4)
        rw [← pick_in HD.out.1 HD.out.2] at ho4
        go_roundw
        case rel => exact ⟨n + 1, by go_num, by have := HLT.out; have := HE.out; omega, .inr rfl, ho4, HB9⟩
        case measure => have := HLT.out; simp [intOf]; omega
    · have hge : (len : Int) ≤ n := by omega
      have HX := Lib.hid (show (cs.take n).filter f = cs.filter f by rw [List.take_of_length_le (by have := HE.out; omega)])
      clear hn hlt
      go_wp2
      go_ret
      rw [HX.out] at HO
      exact ⟨⟨_, rfl, HO.out⟩, HB.out⟩

end Go.Proofs.YtdkpabnpobpdhaaGreat

/-
  LISTS OF CONFLICTS: flat cells, two for each; append; a list that a test compares.
-/
namespace Go.Proofs.YtdkpabnpobpdhaaGreat
open Go.RowKit
set_option linter.unusedVariables false

theorem rc_first : (0 : Nat) ≤ 0 := Nat.le_refl 0

abbrev Pr2 := Nat × Nat
def cells2 (x : Pr2) : List Value := [.int .i64 (x.1 : Nat), .int .i64 (x.2 : Nat)]
def flatX (xs : List Pr2) : List Value := xs.flatMap cells2
theorem flatX_append (a b : List Pr2) : flatX (a ++ b) = flatX a ++ flatX b := by unfold flatX; rw [List.flatMap_append]
theorem flatX_length (xs : List Pr2) : (flatX xs).length = xs.length * 2 := by
  induction xs with
  | nil => rfl
  | cons x r ih =>
    show (cells2 x ++ flatX r).length = _
    rw [List.length_append, ih, List.length_cons]
    show 2 + r.length * 2 = _
    omega
theorem flatX_cell1 (xs : List Pr2) : ∀ u ∈ flatX xs, u.oneCell' = true := by
  intro u hu
  unfold flatX at hu
  obtain ⟨x, _, hx⟩ := List.mem_flatMap.1 hu
  unfold cells2 at hx
  simp at hx
  rcases hx with rfl | rfl <;> rfl
theorem flatX_get : ∀ (xs : List Pr2) (i : Nat) (x : Pr2), xs[i]? = some x → (flatX xs)[i * 2]? = some (.int .i64 (x.1 : Nat)) ∧ (flatX xs)[i * 2 + 1]? = some (.int .i64 (x.2 : Nat))
  | [], i, x, h => by simp at h
  | y :: r, 0, x, h => by
    simp at h
    subst h
    exact ⟨rfl, rfl⟩
  | y :: r, i + 1, x, h => by
    obtain ⟨h1, h2⟩ := flatX_get r i x (by simpa using h)
    have e : flatX (y :: r) = .int .i64 (y.1 : Nat) :: .int .i64 (y.2 : Nat) :: flatX r := rfl
    rw [e, show (i + 1) * 2 = i * 2 + 1 + 1 by omega, show i * 2 + 1 + 1 + 1 = (i * 2 + 1) + 1 + 1 by omega]
    exact ⟨by rw [List.getElem?_cons_succ, List.getElem?_cons_succ]; exact h1, by rw [List.getElem?_cons_succ, List.getElem?_cons_succ]; exact h2⟩

/-- A list of conflicts, wherever it lies. -/
def ClashAt (W : World) (a : Option Addr) (len : Nat) (xs : List Pr2) : Prop :=
  xs.length = len ∧ (len = 0 ∨ ∃ b off, a = some ⟨b, off, none⟩ ∧ ∀ i x, xs[i]? = some x → W.cell? ⟨b, off + i * 2, none⟩ = some (.int .i64 (x.1 : Nat)) ∧ W.cell? ⟨b, off + i * 2 + 1, none⟩ = some (.int .i64 (x.2 : Nat)))
theorem ClashAt.keep {W W' : World} {a : Option Addr} {len : Nat} {xs : List Pr2} (h : ClashAt W a len xs) (hb : Below W.heap.size W W') : ClashAt W' a len xs := by
  obtain ⟨h1, h0 | ⟨b, off, ha, hc⟩⟩ := h
  · exact ⟨h1, .inl h0⟩
  · exact ⟨h1, .inr ⟨b, off, ha, fun i x hx => ⟨cell_kept hb (hc i x hx).1, cell_kept hb (hc i x hx).2⟩⟩⟩
theorem ClashAt.node {W : World} {a : Option Addr} {len : Nat} {xs : List Pr2} (h : ClashAt W a len xs) {i : Nat} (hi : i < len) :
    ∃ b off x, a = some ⟨b, off, none⟩ ∧ xs[i]? = some x ∧ W.cell? ⟨b, off + i * 2, none⟩ = some (.int .i64 (x.1 : Nat)) ∧ W.cell? ⟨b, off + i * 2 + 1, none⟩ = some (.int .i64 (x.2 : Nat)) := by
  obtain ⟨h1, h0 | ⟨b, off, ha, hc⟩⟩ := h
  · omega
  · obtain ⟨x, hx⟩ : ∃ x, xs[i]? = some x := ⟨_, List.getElem?_eq_getElem (by omega)⟩
    exact ⟨b, off, x, ha, hx, hc i x hx⟩
theorem clash_of_own {W : World} {base : Nat} {e : TypeId} {v : Value} {xs : List Pr2} (h : W.ownsRow base e 2 v xs.length (flatX xs)) : ∃ a cap, v = .slice a xs.length cap ∧ ClashAt W a xs.length xs := by
  rcases h.2 with ⟨rfl, h0⟩ | ⟨g, cap, cur, rfl, h1, h2, h3, h4, h5, h6⟩
  · exact ⟨none, 0, by rw [h0], rfl, .inl h0⟩
  · refine ⟨some ⟨g, 0, none⟩, cap, rfl, rfl, .inr ⟨g, 0, rfl, fun i x hx => ?_⟩⟩
    have hi := (List.getElem?_eq_some_iff.1 hx).1
    obtain ⟨f0, f1⟩ := flatX_get xs i x hx
    refine ⟨?_, ?_⟩
    · rw [Nat.zero_add, h.cellAt (i * 2) (by omega)]; exact f0
    · rw [Nat.zero_add, h.cellAt (i * 2 + 1) (by omega)]; exact f1

def ClashPost (xs : List Pr2) (W : World) (e : Ending) (w' : World) : Prop :=
  (∃ sl, e = .returned sl ∧ w'.ownsRow W.heap.size 39 2 sl xs.length (flatX xs)) ∧ Below W.heap.size W w'

theorem infoClash : (Tryz.prog.info? 39).map (fun i => (i.zero, i.size, i.bytes)) = some (some (.agg #[.int .i64 0, .int .i64 0]), 2, 16) := by kernel_rfl

theorem clash_lit (W : World) (x : Pr2) : ∀ j u, (flatX [x])[j]? = some u → (W.alloc (.cells #[.int .i64 (x.1 : Nat), .int .i64 (x.2 : Nat)] 39)).cell? ((⟨W.heap.size, 0, none⟩ : Addr).add j) = some u := by
  intro j u hj
  have e : flatX [x] = [.int .i64 (x.1 : Nat), .int .i64 (x.2 : Nat)] := rfl
  rw [e] at hj
  match j, hj with
  | 0, hj => simp at hj; subst hj; simp [Addr.add]
  | 1, hj => simp at hj; subst hj; simp [Addr.add]

/-- append(out, Clash{A: i, B: k}). -/
theorem wpList_append_clash {w : World} {ops : Array Oper} {rest : List Oper} {o : Oper} {a : Act} {Q : Exit → Act → World → Prop} (hgd : o.guard = none) (s x : Operand)
    (ho : o.op = .call { callee := .builtin .append, args := #[s, x], argTypes := #[36, 36] })
    (base : Nat) (v : Value) (acc : List Pr2) (hs : a.eval s = v) (hown : w.ownsRow base 39 2 v acc.length (flatX acc))
    (ad : Addr) (cap : Nat) (z : Pr2) (hx : a.eval x = .slice (some ad) 1 cap) (hi : ∀ j u, (flatX [z])[j]? = some u → w.cell? (ad.add j) = some u) (hlen : acc.length ≤ 2097152) (hb : base ≤ w.heap.size)
    (h : ∀ v3 w3, w3.ownsRow base 39 2 v3 (acc ++ [z]).length (flatX (acc ++ [z])) → w.grownBy w3 v.ownBlock → wpList Tryz.prog ops Q rest (a.put o.dst v3) w3) : wpList Tryz.prog ops Q (o :: rest) a w := by
  obtain ⟨i0, hi0, hz0, hz1, hz2⟩ := info_parts infoClash
  refine wpList_plain hgd fun K hK => ?_
  exact wp_append_own w s x 36 ho base 39 i0 (.agg #[.int .i64 0, .int .i64 0]) 2 16 Tryz.underlying36 hi0 hz0 hz1 hz2 rfl (by decide) v acc.length (flatX acc) hs hown ad 1 cap (flatX [z]) hx (by rw [flatX_length]; rfl) hi (flatX_cell1 _) (by unfold maxLen; omega) (by omega) hb fun v' w' h1 h2 _ => hK _ _ (h v' w' (by rw [flatX_append, List.length_append]; exact h1) h2)

end Go.Proofs.YtdkpabnpobpdhaaGreat

/-
  WALKS: conflicts of the model, fourth part: spec.ClashesOf.
-/
namespace Go.Proofs.YtdkpabnpobpdhaaGreat
open Go.RowKit
set_option linter.unusedVariables false

theorem rg_first : (0 : Nat) ≤ 0 := Nat.le_refl 0

theorem clash_end {cs ds : List Cmd} {n : Nat} {ok : Bool} (h : n = 0 ∨ ok = true) (k : ok = false ∨ cs.length ≤ n) : (if ok = true then rowsL ds cs 0 else []) = rowsL ds (cs.take n) 0 := by
  cases ok with
  | true =>
    rcases k with k | k
    · cases k
    · rw [if_pos rfl, List.take_of_length_le k]
  | false =>
    rcases h with h | h
    · rw [h]; rfl
    · cases h
theorem clash_bound {cs ds : List Cmd} {c : Cmd} {n m : Nat} (h1 : cs.length ≤ 1000) (h2 : ds.length ≤ 1000) : (rowsL ds (cs.take n) 0 ++ rowL c n (ds.take m) 0).length ≤ 2097151 := by
  rw [List.length_append]
  have k1 := rowsL_le ds (cs.take n) 0
  have k2 := rowL_le c n (ds.take m) 0
  have k3 : (cs.take n).length ≤ 1000 := by rw [List.length_take]; omega
  have k4 : (ds.take m).length ≤ 1000 := by rw [List.length_take]; omega
  have k5 : (cs.take n).length * ds.length ≤ 1000 * 1000 := Nat.mul_le_mul k3 h2
  omega

theorem ok_len {cs ds : List Cmd} (h : okL cs ds = true) : cs.length ≤ 1000 ∧ ds.length ≤ 1000 := by
  unfold okL at h
  rw [Bool.and_eq_true] at h
  have h1 := ((validL_iff cs).1 (canonV_iff.1 h.1).2.2).2
  have h2 := ((validL_iff ds).1 (canonV_iff.1 h.2).2.2).2
  omega

def ClashOut (ok : Bool) (cs ds : List Cmd) (W : World) (o i : Value) (wr : World) : Prop :=
  ∃ n : Nat, i = .int .i64 n ∧ n ≤ cs.length ∧ Hid (n = 0 ∨ ok = true) ∧ wr.ownsRow W.heap.size 39 2 o (rowsL ds (cs.take n) 0).length (flatX (rowsL ds (cs.take n) 0)) ∧ Hid (Below W.heap.size W wr)
def ClashIn (c : Cmd) (n : Nat) (cs ds : List Cmd) (W : World) (o k : Value) (wr : World) : Prop :=
  ∃ m : Nat, k = .int .i64 m ∧ m ≤ ds.length ∧ wr.ownsRow W.heap.size 39 2 o (rowsL ds (cs.take n) 0 ++ rowL c n (ds.take m) 0).length (flatX (rowsL ds (cs.take n) 0 ++ rowL c n (ds.take m) 0)) ∧ Hid (Below W.heap.size W wr)

set_option maxHeartbeats 4000000 in
set_option maxRecDepth 100000 in
theorem specClashes_c (a1 : Option Addr) (len1 cap1 : Nat) (cs : List Cmd) (a2 : Option Addr) (len2 cap2 : Nat) (ds : List Cmd) (hl1 : len1 ≤ 2000000) (hl2 : len2 ≤ 2000000) (hs1 : ShortC 2097152 cs) (hs2 : ShortC 2097152 ds) (W : World) (h1 : CmdsAt W a1 len1 cs) (h2 : CmdsAt W a2 len2 ds) :
    Calls Tryz.prog 24 #[.slice a1 len1 cap1, .slice a2 len2 cap2] W (ClashPost (clashesL cs ds) W) := by
  obtain ⟨ok, hok⟩ : ∃ x, okL cs ds = x := ⟨_, rfl⟩
  have HOK := Lib.hid (fun w (hb : Below W.heap.size W w) => show Calls Tryz.prog 32 #[.slice a1 len1 cap1, .slice a2 len2 cap2] w (BoolPost ok w) by rw [← hok]; exact specOk_c a1 len1 cap1 cs a2 len2 cap2 ds hl1 hl2 hs1 hs2 w (h1.keep hb) (h2.keep hb))
  have HMU := Lib.hid (fun c d w => specClash_c c d w)
  have HN1 := Lib.hid h1
  have HN2 := Lib.hid h2
  have HE := Lib.hid (show cs.length = len1 ∧ ds.length = len2 from ⟨h1.1, h2.1⟩)
  have HEB := Lib.hid (fun (h : ok = true) => ok_len (hok.trans h))
  have HR := Lib.hid (show clashesL cs ds = if ok = true then rowsL ds cs 0 else [] by unfold clashesL; rw [hok])
  have hl1' : (len1 : Int) ≤ 2000000 := by omega
  have hl2' : (len2 : Int) ≤ 2000000 := by omega
  clear hok h1 h2 hs1 hs2
  go_enter Tryz.func24, Tryz.ntmps24
  go_wp2
  go_loopw [5, 6, 7] (fun o i _ wr => ClashOut ok cs ds W o i wr) (fun _ i _ _ => len1 - (intOf i).toNat)
  case atStart => exact ⟨0, rfl, Nat.zero_le _, .inl rfl, World.ownsRow_lit (e := 39) (size := 2) W #[] 0 (Nat.le_refl _) (by simp [maxLen]) rfl, below_box _ _⟩
  case round =>
    obtain ⟨n, rfl, hn, HZ, hown, HB⟩ := hrel
    have HO := Lib.hid hown
    clear hown
    by_cases hlt : n < len1
    · have hlt' : (n : Int) < len1 := by omega
      have hw1 : IntKind.i64.wrap ((n : Int) + 1) = (n : Int) + 1 := IntWalk.i64_in _ (by omega)
      have HW := Lib.hid hw1
      have HLT := Lib.hid hlt
      obtain ⟨c, hc⟩ : ∃ c, cs[n]? = some c := ⟨_, List.getElem?_eq_getElem (by have := HE.out; omega)⟩
      have HC := Lib.hid hc
      clear hn hlt hc
      go_wp2_with fail
      refine (HOK.out _ HB.out).mono ?_
      rintro e W1 ⟨rfl, hb1⟩
      have HO1 := Lib.hid (own_below HO.out hb1)
      have HB1 := Lib.hid (below_next HB.out hb1)
      clear hb1
      cases ok with
      | false =>
        have HX := Lib.hid (HR.out.trans (clash_end HZ.out (.inl rfl)))
        go_wp2
        go_ret
        rw [HX.out]
        exact ⟨⟨_, rfl, HO1.out⟩, HB1.out⟩
      | true =>
        go_wp2_with fail
        go_loopw [5, 7] (fun o k wr => ClashIn c n cs ds W o k wr) (fun _ k _ => len2 - (intOf k).toNat)
        case atStart => exact ⟨0, rfl, Nat.zero_le _, by have := HO1.out; rwa [List.take_zero, show rowL c n [] 0 = [] from rfl, List.append_nil], HB1⟩
        case round =>
          obtain ⟨m, rfl, hm, hown2, HBI⟩ := hrel
          have HO2 := Lib.hid hown2
          clear hown2
          by_cases hmt : m < len2
          · have hmt' : (m : Int) < len2 := by omega
            have hwm : IntKind.i64.wrap ((m : Int) + 1) = (m : Int) + 1 := IntWalk.i64_in _ (by omega)
            have HMT := Lib.hid hmt
            obtain ⟨b, off, c2, rfl, hc2, d0, d1, d2, d3, d4⟩ := (HN1.out.keep HBI.out).node (i := n) HLT.out
            obtain ⟨b', off', d, rfl, hd, e0, e1, e2, e3, e4⟩ := (HN2.out.keep HBI.out).node (i := m) hmt
            obtain rfl := Option.some.inj (HC.out.symm.trans hc2)
            obtain ⟨mm, hmm⟩ : ∃ mm, clashC c d = mm := ⟨_, rfl⟩
            have HMC := Lib.hid (fun w => show Calls Tryz.prog 45 #[cmdV c, cmdV d] w (BoolPost mm w) by rw [← hmm]; exact HMU.out c d w)
            have HD := Lib.hid (And.intro hd hmm)
            have HXS := Lib.hid (clash_bound (cs := cs) (ds := ds) (c := c) (n := n) (m := m) (HEB.out (by first | rfl | trivial)).1 (HEB.out (by first | rfl | trivial)).2)
            have HRS := Lib.hid (show rowsL ds (cs.take n) 0 ++ rowL c n (ds.take (m + 1)) 0 = (rowsL ds (cs.take n) 0 ++ rowL c n (ds.take m) 0) ++ (if mm = true then [(n, m)] else []) by rw [row_take hd, hmm, List.append_assoc])
            obtain ⟨p, fk, fv, tk, tv⟩ := c
            obtain ⟨q, fk', fv', tk', tv'⟩ := d
            unfold cmdV at HMC
            simp only at d0 d1 d2 d3 d4 e0 e1 e2 e3 e4 HMC
            clear hm hmt hc2 hd hmm
            have HS0 := Lib.hid (show wr.drew.cell? ⟨b, off + n * 5, none⟩ = some (.string p) ∧ wr.drew.cell? ⟨b, off + n * 5 + 1, none⟩ = some (.int .i64 fk) ∧ wr.drew.cell? ⟨b, off + n * 5 + 2, none⟩ = some (.int .i64 fv) ∧ wr.drew.cell? ⟨b, off + n * 5 + 3, none⟩ = some (.int .i64 tk) ∧ wr.drew.cell? ⟨b, off + n * 5 + 4, none⟩ = some (.int .i64 tv) ∧ wr.drew.cell? ⟨b', off' + m * 5, none⟩ = some (.string q) ∧ wr.drew.cell? ⟨b', off' + m * 5 + 1, none⟩ = some (.int .i64 fk') ∧ wr.drew.cell? ⟨b', off' + m * 5 + 2, none⟩ = some (.int .i64 fv') ∧ wr.drew.cell? ⟨b', off' + m * 5 + 3, none⟩ = some (.int .i64 tk') ∧ wr.drew.cell? ⟨b', off' + m * 5 + 4, none⟩ = some (.int .i64 tv') ∧ Below wr.heap.size wr wr.drew from ⟨d0, d1, d2, d3, d4, e0, e1, e2, e3, e4, (Below.refl _ _).drew⟩)
            have HKP := Lib.hid (fun (u1 u2 : World) (h : u1.cell? ⟨b, off + n * 5, none⟩ = some (.string p) ∧ u1.cell? ⟨b, off + n * 5 + 1, none⟩ = some (.int .i64 fk) ∧ u1.cell? ⟨b, off + n * 5 + 2, none⟩ = some (.int .i64 fv) ∧ u1.cell? ⟨b, off + n * 5 + 3, none⟩ = some (.int .i64 tk) ∧ u1.cell? ⟨b, off + n * 5 + 4, none⟩ = some (.int .i64 tv) ∧ u1.cell? ⟨b', off' + m * 5, none⟩ = some (.string q) ∧ u1.cell? ⟨b', off' + m * 5 + 1, none⟩ = some (.int .i64 fk') ∧ u1.cell? ⟨b', off' + m * 5 + 2, none⟩ = some (.int .i64 fv') ∧ u1.cell? ⟨b', off' + m * 5 + 3, none⟩ = some (.int .i64 tk') ∧ u1.cell? ⟨b', off' + m * 5 + 4, none⟩ = some (.int .i64 tv') ∧ Below wr.heap.size wr u1) (hb : Below u1.heap.size u1 u2) => show u2.cell? ⟨b, off + n * 5, none⟩ = some (.string p) ∧ u2.cell? ⟨b, off + n * 5 + 1, none⟩ = some (.int .i64 fk) ∧ u2.cell? ⟨b, off + n * 5 + 2, none⟩ = some (.int .i64 fv) ∧ u2.cell? ⟨b, off + n * 5 + 3, none⟩ = some (.int .i64 tk) ∧ u2.cell? ⟨b, off + n * 5 + 4, none⟩ = some (.int .i64 tv) ∧ u2.cell? ⟨b', off' + m * 5, none⟩ = some (.string q) ∧ u2.cell? ⟨b', off' + m * 5 + 1, none⟩ = some (.int .i64 fk') ∧ u2.cell? ⟨b', off' + m * 5 + 2, none⟩ = some (.int .i64 fv') ∧ u2.cell? ⟨b', off' + m * 5 + 3, none⟩ = some (.int .i64 tk') ∧ u2.cell? ⟨b', off' + m * 5 + 4, none⟩ = some (.int .i64 tv') ∧ Below wr.heap.size wr u2 from ⟨cell_kept hb h.1, cell_kept hb h.2.1, cell_kept hb h.2.2.1, cell_kept hb h.2.2.2.1, cell_kept hb h.2.2.2.2.1, cell_kept hb h.2.2.2.2.2.1, cell_kept hb h.2.2.2.2.2.2.1, cell_kept hb h.2.2.2.2.2.2.2.1, cell_kept hb h.2.2.2.2.2.2.2.2.1, cell_kept hb h.2.2.2.2.2.2.2.2.2.1, below_next h.2.2.2.2.2.2.2.2.2.2 hb⟩)
            clear d0 d1 d2 d3 d4 e0 e1 e2 e3 e4
            go_upto_region 7 with (fail)
            go_region_held3 (fun w' => w'.cell? ⟨b, off + n * 5, none⟩ = some (.string p) ∧ w'.cell? ⟨b, off + n * 5 + 1, none⟩ = some (.int .i64 fk) ∧ w'.cell? ⟨b, off + n * 5 + 2, none⟩ = some (.int .i64 fv) ∧ w'.cell? ⟨b, off + n * 5 + 3, none⟩ = some (.int .i64 tk) ∧ w'.cell? ⟨b, off + n * 5 + 4, none⟩ = some (.int .i64 tv) ∧ w'.cell? ⟨b', off' + m * 5, none⟩ = some (.string q) ∧ w'.cell? ⟨b', off' + m * 5 + 1, none⟩ = some (.int .i64 fk') ∧ w'.cell? ⟨b', off' + m * 5 + 2, none⟩ = some (.int .i64 fv') ∧ w'.cell? ⟨b', off' + m * 5 + 3, none⟩ = some (.int .i64 tk') ∧ w'.cell? ⟨b', off' + m * 5 + 4, none⟩ = some (.int .i64 tv') ∧ Below wr.heap.size wr w')
              (first | exact HS0.out | exact HKP.out _ _ HS0.out hb7)
              (first | (go_at_call 45; (with_reducible refine (HMC.out _).mono ?_); rintro e W7 ⟨rfl, hb7⟩))
            rename_i hS
            have HO7 := Lib.hid (own_below HO2.out hS.2.2.2.2.2.2.2.2.2.2)
            have HB7 := Lib.hid (below_next HBI.out hS.2.2.2.2.2.2.2.2.2.2)
            clear hS
            cases mm with
            | true =>
              go_wp2_with (at_builtin; refine wpList_append_clash rfl _ _ rfl W.heap.size _ _ rfl (HO7.out.alloc _) _ _ (n, m) rfl (clash_lit _ (n, m)) (by have := HXS.out; omega) (by have := HB7.out.size; simp; omega) ?_; intro v4 w4 ho4 hg4; have HB9 := Lib.hid ((HB7.out.alloc HB7.out.size _).grown hg4 (by have := HB7.out.size; simp; omega) (fun k e => (HO7.out.lt k e).1)); clear hg4)
              go_roundw
              case rel => exact ⟨m + 1, by go_num, by have := HMT.out; have := HE.out; omega, by rw [HRS.out, if_pos rfl]; exact ho4, HB9⟩
              case measure => have := HMT.out; simp [intOf]; omega
            | false =>
              have HRS2 := Lib.hid (HRS.out.trans (by rw [if_neg Bool.false_ne_true, List.append_nil]))
              go_wp2
              go_roundw
              case rel => exact ⟨m + 1, by go_num, by have := HMT.out; have := HE.out; omega, by rw [HRS2.out]; exact HO7.out, HB7⟩
              case measure => have := HMT.out; simp [intOf]; omega
          · have hge : (len2 : Int) ≤ m := by omega
            have HL := Lib.hid (show rowsL ds (cs.take (n + 1)) 0 = rowsL ds (cs.take n) 0 ++ rowL c n (ds.take m) 0 by rw [rows_take HC.out, show ds.take m = ds from List.take_of_length_le (by have := HE.out; omega)])
            clear hm hmt
            have hw1 := HW.out
            go_wp2
            go_roundw
            case rel => exact ⟨n + 1, by go_num, by have := HLT.out; have := HE.out; omega, .inr rfl, by rw [HL.out]; exact HO2.out, HBI⟩
            case measure => have := HLT.out; simp [intOf]; omega
    · have hge : (len1 : Int) ≤ n := by omega
      have HX := Lib.hid (HR.out.trans (clash_end HZ.out (.inr (by have := HE.out; omega))))
      clear hn hlt
      go_wp2
      go_ret
      rw [HX.out]
      exact ⟨⟨_, rfl, HO.out⟩, HB.out⟩

end Go.Proofs.YtdkpabnpobpdhaaGreat

/-
  WALKS: the program's conflicts, second part: impl.SafeOf, AgreedOf, LeftOf, ClashesOf.
-/
namespace Go.Proofs.YtdkpabnpobpdhaaGreat
open Go.RowKit
set_option linter.unusedVariables false

theorem rm_first : (0 : Nat) ≤ 0 := Nat.le_refl 0

theorem ok_valid {cs ds : List Cmd} (h : okL cs ds = true) : (∀ c ∈ cs, validC c = true) ∧ (∀ d ∈ ds, validC d = true) := by
  unfold okL at h
  rw [Bool.and_eq_true] at h
  exact ⟨((validL_iff cs).1 (canonV_iff.1 h.1).2.2).1, ((validL_iff ds).1 (canonV_iff.1 h.2).2.2).1⟩
theorem clash_p {c d : Cmd} (hc : validC c = true) (hd : validC d = true) : clashP c d = clashC c d := by unfold clashP; rw [hc, hd]; rfl
theorem any_congr {f g : Cmd → Bool} {cs : List Cmd} (h : ∀ c ∈ cs, f c = g c) : cs.any f = cs.any g := by
  rw [Bool.eq_iff_iff, List.any_eq_true, List.any_eq_true]
  exact ⟨fun ⟨c, hc, hf⟩ => ⟨c, hc, (h c hc) ▸ hf⟩, fun ⟨c, hc, hf⟩ => ⟨c, hc, (h c hc).symm ▸ hf⟩⟩
theorem some_p {cs : List Cmd} {d : Cmd} (h : ∀ c ∈ cs, validC c = true) (hd : validC d = true) : cs.any (fun c => clashP c d) = someC cs d :=
  any_congr (fun c hc => clash_p (h c hc) hd)
theorem safe_rule {cs ds : List Cmd} (h : okL cs ds = true) : ds.filter (fun c => !hasC cs c && !cs.any (fun d => clashP d c)) = safeL cs ds := by
  unfold safeL
  rw [if_pos h]
  refine List.filter_congr fun d hd => ?_
  rw [some_p (ok_valid h).1 ((ok_valid h).2 d hd), Bool.and_comm]
theorem agreed_rule {cs ds : List Cmd} (h : okL cs ds = true) : ds.filter (fun c => hasC cs c && !cs.any (fun d => clashP d c)) = agreedL cs ds := by
  unfold agreedL
  rw [if_pos h]
  refine List.filter_congr fun d hd => ?_
  rw [some_p (ok_valid h).1 ((ok_valid h).2 d hd)]
theorem left_rule {cs ds : List Cmd} (h : okL cs ds = true) : cs.filter (fun c => ds.any (fun d => clashP d c)) = leftL cs ds := by
  unfold leftL
  rw [if_pos h]
  exact List.filter_congr fun c hc => some_p (ok_valid h).2 ((ok_valid h).1 c hc)
theorem bad_nil {cs ds : List Cmd} (h : okL cs ds = false) : safeL cs ds = [] ∧ agreedL cs ds = [] ∧ leftL cs ds = [] ∧ clashesL cs ds = [] := by
  unfold safeL agreedL leftL clashesL
  rw [h]
  exact ⟨rfl, rfl, rfl, rfl⟩
/-- The row of a command: where the program's rule says yes. -/
theorem row_rule {f : Cmd → Bool} {c : Cmd} : ∀ (ds : List Cmd), (∀ d ∈ ds, f d = clashC c d) → ∀ (m : Nat) (d : Cmd), ds[m]? = some d → f d = clashC c d := fun ds h m d hd => h d (List.mem_of_getElem? hd)

set_option maxHeartbeats 4000000 in
set_option maxRecDepth 100000 in
theorem implSafe_c (a1 : Option Addr) (len1 cap1 : Nat) (cs : List Cmd) (a2 : Option Addr) (len2 cap2 : Nat) (ds : List Cmd) (hl1 : len1 ≤ 2000000) (hl2 : len2 ≤ 2000000) (hs1 : ShortC 2097152 cs) (hs2 : ShortC 2097152 ds) (W : World) (h1 : CmdsAt W a1 len1 cs) (h2 : CmdsAt W a2 len2 ds) :
    Calls Tryz.prog 9 #[.slice a1 len1 cap1, .slice a2 len2 cap2] W (CmdsPost (safeL cs ds) W) := by
  obtain ⟨ok, hok⟩ : ∃ x, okL cs ds = x := ⟨_, rfl⟩
  have HOK := Lib.hid (show Calls Tryz.prog 26 #[.slice a1 len1 cap1, .slice a2 len2 cap2] W (BoolPost ok W) by rw [← hok]; exact implOk_c a1 len1 cap1 cs a2 len2 cap2 ds hl1 hl2 hs1 hs2 W h1 h2)
  have HBAD := Lib.hid (fun (h : ok = false) => bad_nil (hok.trans h))
  have HRU := Lib.hid (fun (h : ok = true) => safe_rule (hok.trans h))
  have HN1 := Lib.hid h1
  have HN2 := Lib.hid h2
  have HS1 := Lib.hid hs1
  have HS2 := Lib.hid hs2
  have HL := Lib.hid (And.intro hl1 hl2)
  clear hok h1 h2 hs1 hs2 hl1 hl2
  go_enter Tryz.func9, Tryz.ntmps9
  go_wp2_with fail
  refine HOK.out.mono ?_
  rintro e W1 ⟨rfl, hb1⟩
  have B1 := Lib.hid hb1
  clear hb1
  cases ok with
  | false =>
    have HX := Lib.hid (HBAD.out rfl).1
    go_wp2
    go_ret
    exact ⟨⟨_, rfl, by rw [HX.out]; exact World.ownsRow_nil _ _ _ _⟩, B1.out⟩
  | true =>
    have HX := Lib.hid (HRU.out rfl)
    go_wp2_with fail
    refine (isIn_c a1 len1 cap1 _ (by have := HL.out; omega) _ (HN1.out.keep B1.out)).mono ?_
    rintro e W2 ⟨v2, rfl, hr, hb⟩
    have B2 := Lib.hid (below_next B1.out hb)
    have R2 := Lib.hid hr
    clear hr hb
    go_wp2_with fail
    refine (not_c _ _ _ R2.out).mono ?_
    rintro e W3 ⟨v3, rfl, hr, hb⟩
    have B3 := Lib.hid (below_next B2.out hb)
    have R3 := Lib.hid hr
    replace R2 := Lib.hid (R2.out.keep hb)
    clear hr hb
    go_wp2_with fail
    refine (clashesIn_c a1 len1 cap1 _ (by have := HL.out; omega) HS1.out _ (HN1.out.keep B3.out)).mono ?_
    rintro e W4 ⟨v4, rfl, hr, hb⟩
    have B4 := Lib.hid (below_next B3.out hb)
    have R4 := Lib.hid hr
    replace R2 := Lib.hid (R2.out.keep hb)
    replace R3 := Lib.hid (R3.out.keep hb)
    clear hr hb
    go_wp2_with fail
    refine (not_c _ _ _ R4.out).mono ?_
    rintro e W5 ⟨v5, rfl, hr, hb⟩
    have B5 := Lib.hid (below_next B4.out hb)
    have R5 := Lib.hid hr
    replace R2 := Lib.hid (R2.out.keep hb)
    replace R3 := Lib.hid (R3.out.keep hb)
    replace R4 := Lib.hid (R4.out.keep hb)
    clear hr hb
    go_wp2_with fail
    refine (both_c _ _ _ _ _ R3.out R5.out).mono ?_
    rintro e W6 ⟨v6, rfl, hr, hb⟩
    have B6 := Lib.hid (below_next B5.out hb)
    have R6 := Lib.hid hr
    replace R2 := Lib.hid (R2.out.keep hb)
    replace R3 := Lib.hid (R3.out.keep hb)
    replace R4 := Lib.hid (R4.out.keep hb)
    replace R5 := Lib.hid (R5.out.keep hb)
    clear hr hb
    go_wp2_with fail
    refine (ruleOf_c _ _ a2 len2 cap2 _ (by have := HL.out; omega) HS2.out _ (HN2.out.keep B6.out) R6.out).mono ?_
    rintro e W7 ⟨⟨sl, rfl, ho⟩, hb⟩
    have B7 := Lib.hid (below_next B6.out hb)
    have HO := Lib.hid (own_mono ho B6.out.size)
    clear ho hb
    rw [HX.out] at HO
    go_wp2
    go_ret
    exact ⟨⟨sl, rfl, HO.out⟩, B7.out⟩

set_option maxHeartbeats 4000000 in
set_option maxRecDepth 100000 in
theorem implAgreed_c (a1 : Option Addr) (len1 cap1 : Nat) (cs : List Cmd) (a2 : Option Addr) (len2 cap2 : Nat) (ds : List Cmd) (hl1 : len1 ≤ 2000000) (hl2 : len2 ≤ 2000000) (hs1 : ShortC 2097152 cs) (hs2 : ShortC 2097152 ds) (W : World) (h1 : CmdsAt W a1 len1 cs) (h2 : CmdsAt W a2 len2 ds) :
    Calls Tryz.prog 17 #[.slice a1 len1 cap1, .slice a2 len2 cap2] W (CmdsPost (agreedL cs ds) W) := by
  obtain ⟨ok, hok⟩ : ∃ x, okL cs ds = x := ⟨_, rfl⟩
  have HOK := Lib.hid (show Calls Tryz.prog 26 #[.slice a1 len1 cap1, .slice a2 len2 cap2] W (BoolPost ok W) by rw [← hok]; exact implOk_c a1 len1 cap1 cs a2 len2 cap2 ds hl1 hl2 hs1 hs2 W h1 h2)
  have HBAD := Lib.hid (fun (h : ok = false) => bad_nil (hok.trans h))
  have HRU := Lib.hid (fun (h : ok = true) => agreed_rule (hok.trans h))
  have HN1 := Lib.hid h1
  have HN2 := Lib.hid h2
  have HS1 := Lib.hid hs1
  have HS2 := Lib.hid hs2
  have HL := Lib.hid (And.intro hl1 hl2)
  clear hok h1 h2 hs1 hs2 hl1 hl2
  go_enter Tryz.func17, Tryz.ntmps17
  go_wp2_with fail
  refine HOK.out.mono ?_
  rintro e W1 ⟨rfl, hb1⟩
  have B1 := Lib.hid hb1
  clear hb1
  cases ok with
  | false =>
    have HX := Lib.hid (HBAD.out rfl).2.1
    go_wp2
    go_ret
    exact ⟨⟨_, rfl, by rw [HX.out]; exact World.ownsRow_nil _ _ _ _⟩, B1.out⟩
  | true =>
    have HX := Lib.hid (HRU.out rfl)
    go_wp2_with fail
    refine (isIn_c a1 len1 cap1 _ (by have := HL.out; omega) _ (HN1.out.keep B1.out)).mono ?_
    rintro e W2 ⟨v2, rfl, hr, hb⟩
    have B2 := Lib.hid (below_next B1.out hb)
    have R2 := Lib.hid hr
    clear hr hb
    go_wp2_with fail
    refine (clashesIn_c a1 len1 cap1 _ (by have := HL.out; omega) HS1.out _ (HN1.out.keep B2.out)).mono ?_
    rintro e W3 ⟨v3, rfl, hr, hb⟩
    have B3 := Lib.hid (below_next B2.out hb)
    have R3 := Lib.hid hr
    replace R2 := Lib.hid (R2.out.keep hb)
    clear hr hb
    go_wp2_with fail
    refine (not_c _ _ _ R3.out).mono ?_
    rintro e W4 ⟨v4, rfl, hr, hb⟩
    have B4 := Lib.hid (below_next B3.out hb)
    have R4 := Lib.hid hr
    replace R2 := Lib.hid (R2.out.keep hb)
    replace R3 := Lib.hid (R3.out.keep hb)
    clear hr hb
    go_wp2_with fail
    refine (both_c _ _ _ _ _ R2.out R4.out).mono ?_
    rintro e W5 ⟨v5, rfl, hr, hb⟩
    have B5 := Lib.hid (below_next B4.out hb)
    have R5 := Lib.hid hr
    replace R2 := Lib.hid (R2.out.keep hb)
    replace R3 := Lib.hid (R3.out.keep hb)
    replace R4 := Lib.hid (R4.out.keep hb)
    clear hr hb
    go_wp2_with fail
    refine (ruleOf_c _ _ a2 len2 cap2 _ (by have := HL.out; omega) HS2.out _ (HN2.out.keep B5.out) R5.out).mono ?_
    rintro e W6 ⟨⟨sl, rfl, ho⟩, hb⟩
    have B6 := Lib.hid (below_next B5.out hb)
    have HO := Lib.hid (own_mono ho B5.out.size)
    clear ho hb
    rw [HX.out] at HO
    go_wp2
    go_ret
    exact ⟨⟨sl, rfl, HO.out⟩, B6.out⟩

set_option maxHeartbeats 4000000 in
set_option maxRecDepth 100000 in
theorem implLeft_c (a1 : Option Addr) (len1 cap1 : Nat) (cs : List Cmd) (a2 : Option Addr) (len2 cap2 : Nat) (ds : List Cmd) (hl1 : len1 ≤ 2000000) (hl2 : len2 ≤ 2000000) (hs1 : ShortC 2097152 cs) (hs2 : ShortC 2097152 ds) (W : World) (h1 : CmdsAt W a1 len1 cs) (h2 : CmdsAt W a2 len2 ds) :
    Calls Tryz.prog 20 #[.slice a1 len1 cap1, .slice a2 len2 cap2] W (CmdsPost (leftL cs ds) W) := by
  obtain ⟨ok, hok⟩ : ∃ x, okL cs ds = x := ⟨_, rfl⟩
  have HOK := Lib.hid (show Calls Tryz.prog 26 #[.slice a1 len1 cap1, .slice a2 len2 cap2] W (BoolPost ok W) by rw [← hok]; exact implOk_c a1 len1 cap1 cs a2 len2 cap2 ds hl1 hl2 hs1 hs2 W h1 h2)
  have HBAD := Lib.hid (fun (h : ok = false) => bad_nil (hok.trans h))
  have HRU := Lib.hid (fun (h : ok = true) => left_rule (hok.trans h))
  have HN1 := Lib.hid h1
  have HN2 := Lib.hid h2
  have HS1 := Lib.hid hs1
  have HS2 := Lib.hid hs2
  have HL := Lib.hid (And.intro hl1 hl2)
  clear hok h1 h2 hs1 hs2 hl1 hl2
  go_enter Tryz.func20, Tryz.ntmps20
  go_wp2_with fail
  refine HOK.out.mono ?_
  rintro e W1 ⟨rfl, hb1⟩
  have B1 := Lib.hid hb1
  clear hb1
  cases ok with
  | false =>
    have HX := Lib.hid (HBAD.out rfl).2.2.1
    go_wp2
    go_ret
    exact ⟨⟨_, rfl, by rw [HX.out]; exact World.ownsRow_nil _ _ _ _⟩, B1.out⟩
  | true =>
    have HX := Lib.hid (HRU.out rfl)
    go_wp2_with fail
    refine (clashesIn_c a2 len2 cap2 _ (by have := HL.out; omega) HS2.out _ (HN2.out.keep B1.out)).mono ?_
    rintro e W2 ⟨v2, rfl, hr, hb⟩
    have B2 := Lib.hid (below_next B1.out hb)
    have R2 := Lib.hid hr
    clear hr hb
    go_wp2_with fail
    refine (ruleOf_c _ _ a1 len1 cap1 _ (by have := HL.out; omega) HS1.out _ (HN1.out.keep B2.out) R2.out).mono ?_
    rintro e W3 ⟨⟨sl, rfl, ho⟩, hb⟩
    have B3 := Lib.hid (below_next B2.out hb)
    have HO := Lib.hid (own_mono ho B2.out.size)
    clear ho hb
    rw [HX.out] at HO
    go_wp2
    go_ret
    exact ⟨⟨sl, rfl, HO.out⟩, B3.out⟩

set_option maxHeartbeats 4000000 in
set_option maxRecDepth 100000 in
theorem implClashes_c (a1 : Option Addr) (len1 cap1 : Nat) (cs : List Cmd) (a2 : Option Addr) (len2 cap2 : Nat) (ds : List Cmd) (hl1 : len1 ≤ 2000000) (hl2 : len2 ≤ 2000000) (hs1 : ShortC 2097152 cs) (hs2 : ShortC 2097152 ds) (W : World) (h1 : CmdsAt W a1 len1 cs) (h2 : CmdsAt W a2 len2 ds) :
    Calls Tryz.prog 22 #[.slice a1 len1 cap1, .slice a2 len2 cap2] W (ClashPost (clashesL cs ds) W) := by
  obtain ⟨ok, hok⟩ : ∃ x, okL cs ds = x := ⟨_, rfl⟩
  have HOK := Lib.hid (show Calls Tryz.prog 26 #[.slice a1 len1 cap1, .slice a2 len2 cap2] W (BoolPost ok W) by rw [← hok]; exact implOk_c a1 len1 cap1 cs a2 len2 cap2 ds hl1 hl2 hs1 hs2 W h1 h2)
  have HBAD := Lib.hid (fun (h : ok = false) => bad_nil (hok.trans h))
  have HEB := Lib.hid (fun (h : ok = true) => ok_len (hok.trans h))
  have HVD := Lib.hid (fun (h : ok = true) => ok_valid (hok.trans h))
  have HR := Lib.hid (show clashesL cs ds = if ok = true then rowsL ds cs 0 else [] by unfold clashesL; rw [hok])
  have HN1 := Lib.hid h1
  have HN2 := Lib.hid h2
  have HS1 := Lib.hid hs1
  have HS2 := Lib.hid hs2
  have HE := Lib.hid (show cs.length = len1 ∧ ds.length = len2 from ⟨h1.1, h2.1⟩)
  have hl1' : (len1 : Int) ≤ 2000000 := by omega
  have hl2' : (len2 : Int) ≤ 2000000 := by omega
  clear hok h1 h2 hs1 hs2
  go_enter Tryz.func22, Tryz.ntmps22
  go_wp2_with fail
  refine HOK.out.mono ?_
  rintro e W1 ⟨rfl, hb1⟩
  have B1 := Lib.hid hb1
  clear hb1
  cases ok with
  | false =>
    have HX := Lib.hid (HBAD.out rfl).2.2.2
    go_wp2
    go_ret
    exact ⟨⟨_, rfl, by rw [HX.out]; exact World.ownsRow_nil _ _ _ _⟩, B1.out⟩
  | true =>
    replace HEB := Lib.hid (HEB.out rfl)
    replace HVD := Lib.hid (HVD.out rfl)
    have HR2 := Lib.hid (HR.out.trans (if_pos rfl))
    clear HBAD HR
    go_wp2_with fail
    go_loopw [5, 6, 7, 8, 9, 10, 17] (fun o _ _ _ _ _ i wr => ClashOut true cs ds W o i wr) (fun _ _ _ _ _ _ i _ => len1 - (intOf i).toNat)
    case atStart => exact ⟨0, rfl, Nat.zero_le _, .inr rfl, World.ownsRow_nil _ _ _ _, B1⟩
    case round =>
      obtain ⟨n, rfl, hn, HZ, hown, HB⟩ := hrel
      have HO := Lib.hid hown
      clear hown
      by_cases hlt : n < len1
      · have hlt' : (n : Int) < len1 := by omega
        have hw1 : IntKind.i64.wrap ((n : Int) + 1) = (n : Int) + 1 := IntWalk.i64_in _ (by omega)
        have HW := Lib.hid hw1
        have HLT := Lib.hid hlt
        obtain ⟨b, off, c, rfl, hc, d0, d1, d2, d3, d4⟩ := (HN1.out.keep HB.out).node hlt
        have HC := Lib.hid hc
        have HFD := Lib.hid (show ∀ d ∈ ds, clashP d c = clashC c d from fun d hd => by rw [clash_p (HVD.out.2 d hd) (HVD.out.1 c (List.mem_of_getElem? hc)), clash_turn])
        have HCS := Lib.hid (HS1.out.at hc)
        have HFX := Lib.hid (five_new wr (.string c.p) (.int .i64 c.fk) (.int .i64 c.fv) (.int .i64 c.tk) (.int .i64 c.tv) 33)
        have HBX := Lib.hid (below_box wr (.cells #[.string c.p, .int .i64 c.fk, .int .i64 c.fv, .int .i64 c.tk, .int .i64 c.tv] 33))
        obtain ⟨cc, hcc⟩ : ∃ x, c = x := ⟨_, rfl⟩
        have HCC := Lib.hid hcc
        have HCW := Lib.hid (fun w => show Calls Tryz.prog 42 #[cmdV c] w (BoxPost cc w) by rw [← hcc]; exact clashesWith_box c w)
        rw [hcc] at HFD HCS
        obtain ⟨p, fk, fv, tk, tv⟩ := c
        unfold cmdV at HCW
        simp only at d0 d1 d2 d3 d4 HCW HFX HBX
        obtain ⟨f0, f1, f2, f3, f4, -⟩ := HFX.out
        clear hn hlt hc hcc
        go_wp2_with fail
        refine (HCW.out _).mono ?_
        rintro e W2 ⟨BB, rfl, hx2, hb2⟩
        have B2 := Lib.hid (below_next (below_next HB.out HBX.out) hb2)
        have HO2 := Lib.hid (own_below (HO.out.alloc _) hb2)
        have HX2 := Lib.hid hx2
        clear d0 d1 d2 d3 d4 f0 f1 f2 f3 f4 hb2 hx2
        go_wp2_with fail
        go_loopw [5, 9, 10, 26] (fun o _ _ k wr => ClashIn cc n cs ds W o k wr ∧ Hid (BoxC wr BB cc)) (fun _ _ _ k _ => len2 - (intOf k).toNat)
        case atStart => exact ⟨⟨0, rfl, Nat.zero_le _, by have := HO2.out; rwa [List.take_zero, show rowL cc n [] 0 = [] from rfl, List.append_nil], B2⟩, HX2⟩
        case round =>
          obtain ⟨⟨m, rfl, hm, hown2, HBI⟩, HXI⟩ := hrel
          have HO3 := Lib.hid hown2
          clear hown2
          by_cases hmt : m < len2
          · have hmt' : (m : Int) < len2 := by omega
            have hwm : IntKind.i64.wrap ((m : Int) + 1) = (m : Int) + 1 := IntWalk.i64_in _ (by omega)
            have HMT := Lib.hid hmt
            obtain ⟨b', off', d, rfl, hd, e0, e1, e2, e3, e4⟩ := (HN2.out.keep HBI.out).node (i := m) hmt
            obtain ⟨mm, hmm⟩ : ∃ mm, clashP d cc = mm := ⟨_, rfl⟩
            have HCD := Lib.hid (fun w (hb : Below wr.heap.size wr w) => show Calls Tryz.prog 61 #[cmdV d, .pointer (some ⟨BB, 0, none⟩)] w (BoolPost mm w) by rw [← hmm]; exact boxC_call d cc w BB (HS2.out.at hd) HCS.out (HXI.out.keep hb))
            have HXS := Lib.hid (clash_bound (cs := cs) (ds := ds) (c := cc) (n := n) (m := m) HEB.out.1 HEB.out.2)
            have HRS := Lib.hid (show rowsL ds (cs.take n) 0 ++ rowL cc n (ds.take (m + 1)) 0 = (rowsL ds (cs.take n) 0 ++ rowL cc n (ds.take m) 0) ++ (if mm = true then [(n, m)] else []) by rw [row_take hd, ← hmm, HFD.out d (List.mem_of_getElem? hd), List.append_assoc])
            have HF := Lib.hid (five_new wr (.string d.p) (.int .i64 d.fk) (.int .i64 d.fv) (.int .i64 d.tk) (.int .i64 d.tv) 33)
            have HBX := Lib.hid (below_box wr (.cells #[.string d.p, .int .i64 d.fk, .int .i64 d.fv, .int .i64 d.tk, .int .i64 d.tv] 33))
            obtain ⟨q, fk', fv', tk', tv'⟩ := d
            unfold cmdV at HCD
            simp only at e0 e1 e2 e3 e4 HCD HF HBX
            clear hm hmt hd hmm
            obtain ⟨f0, f1, f2, f3, f4, -⟩ := HF.out
            go_wp2_with fail
            refine (HCD.out _ HBX.out).mono ?_
            rintro e W3 ⟨rfl, hb3⟩
            have B3 := Lib.hid (below_next (below_next HBI.out HBX.out) hb3)
            have X3 := Lib.hid (HXI.out.keep (below_next HBX.out hb3))
            have HO4 := Lib.hid (own_below (HO3.out.alloc _) hb3)
            clear hb3 e0 e1 e2 e3 e4 f0 f1 f2 f3 f4
            cases mm
            · have HRS2 := Lib.hid (HRS.out.trans (by rw [if_neg Bool.false_ne_true, List.append_nil]))
              go_wp2
              go_roundw
              case rel => exact ⟨⟨m + 1, by go_num, by have := HMT.out; have := HE.out; omega, by rw [HRS2.out]; exact HO4.out, B3⟩, X3⟩
              case measure => have := HMT.out; simp [intOf]; omega
            · have HRS2 := Lib.hid (HRS.out.trans (by rw [if_pos rfl]))
              go_wp2_with (at_builtin; refine wpList_append_clash rfl _ _ rfl W.heap.size _ _ rfl (HO4.out.alloc _) _ _ (n, m) rfl (clash_lit _ (n, m)) (by have := HXS.out; omega) (by have := B3.out.size; simp; omega) ?_; intro v4 w4 ho4 hg4; have HB9 := Lib.hid ((B3.out.alloc B3.out.size _).grown hg4 (by have := B3.out.size; simp; omega) (fun k e => (HO4.out.lt k e).1)); have HX9 := Lib.hid (show BoxC w4 BB cc from apart_type (X3.out.keep (below_box _ _)) (HO4.out.alloc _) (by decide) hg4); clear hg4)
              go_roundw
              case rel => exact ⟨⟨m + 1, by go_num, by have := HMT.out; have := HE.out; omega, by rw [HRS2.out]; exact ho4, HB9⟩, HX9⟩
              case measure => have := HMT.out; simp [intOf]; omega
          · have hge : (len2 : Int) ≤ m := by omega
            have HL := Lib.hid (show rowsL ds (cs.take (n + 1)) 0 = rowsL ds (cs.take n) 0 ++ rowL cc n (ds.take m) 0 by rw [← HCC.out, rows_take HC.out, show ds.take m = ds from List.take_of_length_le (by have := HE.out; omega)])
            clear hm hmt
            have hw1 := HW.out
            go_wp2
            go_roundw
            case rel => exact ⟨n + 1, by go_num, by have := HLT.out; have := HE.out; omega, .inr rfl, by rw [HL.out]; exact HO3.out, HBI⟩
            case measure => have := HLT.out; simp [intOf]; omega
      · have hge : (len1 : Int) ≤ n := by omega
        have HX := Lib.hid (HR2.out.trans (show rowsL ds cs 0 = rowsL ds (cs.take n) 0 by rw [List.take_of_length_le (by have := HE.out; omega)]))
        clear hn hlt
        go_wp2
        go_ret
        rw [HX.out]
        exact ⟨⟨_, rfl, HO.out⟩, HB.out⟩

end Go.Proofs.YtdkpabnpobpdhaaGreat

/-
  WALKS: laws.sameClashes, at lists that read alike.
-/
namespace Go.Proofs.YtdkpabnpobpdhaaGreat
open Go.RowKit
set_option linter.unusedVariables false

theorem rj_first : (0 : Nat) ≤ 0 := Nat.le_refl 0

theorem clNeS (a b : Nat) (w : World) : (binOp .neq 39 (.agg #[.int .i64 (a : Nat), .int .i64 (b : Nat)]) (.agg #[.int .i64 (a : Nat), .int .i64 (b : Nat)])).run Tryz.prog w = .ok (.bool false) w := by
  simp [binOp, go_sem, Op.equal, Op.maxDepth]

set_option maxHeartbeats 2000000 in
set_option maxRecDepth 100000 in
theorem sameClashes_c (a1 a2 : Option Addr) (len c1 c2 : Nat) (xs : List Pr2) (hl : len ≤ 2097152) (W : World) (h1 : ClashAt W a1 len xs) (h2 : ClashAt W a2 len xs) :
    Calls Tryz.prog 25 #[.slice a1 len c1, .slice a2 len c2] W (BoolPost true W) := by
  have H1 := Lib.hid h1
  have H2 := Lib.hid h2
  clear h1 h2
  go_enter Tryz.func25, Tryz.ntmps25
  go_wp2
  go_loopw [5] (fun i wr => ∃ n : Nat, i = .int .i64 n ∧ n ≤ len ∧ Hid (Below W.heap.size W wr)) (fun i _ => len - (intOf i).toNat)
  case atStart => exact ⟨0, rfl, by omega, Below.refl _ _⟩
  case round =>
    obtain ⟨i, rfl, hi, HB⟩ := hrel
    by_cases hlt : i < len
    · obtain ⟨b, off, n, rfl, hn, d0, d1⟩ := (H1.out.keep HB.out).node hlt
      obtain ⟨b', off', n', rfl, hn', e0, e1⟩ := (H2.out.keep HB.out).node hlt
      obtain rfl : n = n' := Option.some.inj (hn.symm.trans hn')
      have hlt' : (i : Int) < len := by omega
      have hi0 : (0 : Int) ≤ i := by omega
      have HLT := Lib.hid hlt
      obtain ⟨p, q⟩ := n
      simp only at d0 d1 e0 e1
      have hne := fun w => clNeS p q w
      clear hi hlt hn hn'
      go_wp2
      go_quiet (fail)
      have HB2 := Lib.hid (rb_drewN HB.out nq)
      clear d0 d1 e0 e1
      go_wp2
      go_roundw
      case rel => exact ⟨i + 1, by go_num, by have := HLT.out; omega, HB2⟩
      case measure => have := HLT.out; simp [intOf]; omega
    · have hge : (len : Int) ≤ i := by omega
      clear hi hlt
      go_wp2
      go_ret
      exact ⟨rfl, HB.out⟩

end Go.Proofs.YtdkpabnpobpdhaaGreat
