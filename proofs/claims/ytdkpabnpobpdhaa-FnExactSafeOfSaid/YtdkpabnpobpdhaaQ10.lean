/-
  Texts of this proof, one behind the other: Rf, Rq, Rc, Rg, Rm, Tx, No, Iq, Rj, Sm, To, Le, En, Mk, Lm, Rl.
-/
import Derived.Deep.RegionHeld3
import Derived.Laws.StructEq
import Derived.Deep.QuietTactic
import Derived.Laws.EntriesVeiled
import Derived.Shelf.Abstract
import Derived.Maps.AppendAt
import Derived.OwnWalk
import Derived.Laws.OwnMore
import Derived.Laws.AppendOwnNone
import Derived.Laws.Concat
import Derived.Laws.Runes
import Derived.Deep.Cut
import Derived.Laws.BytesString
import Derived.Laws.Cover1
import Derived.Test.YtdkpabnpobpdhaaQ4
import Derived.Test.YtdkpabnpobpdhaaQ8
import Derived.Test.YtdkpabnpobpdhaaRa
import Derived.Test.YtdkpabnpobpdhaaQ11
import Derived.Test.YtdkpabnpobpdhaaSa
import Derived.Test.YtdkpabnpobpdhaaWd
import Derived.Test.YtdkpabnpobpdhaaTl
import Derived.Test.YtdkpabnpobpdhaaQ6
import Derived.Test.YtdkpabnpobpdhaaTt
/-
  WALKS: conflicts of the model, third part: spec.SafeOf, AgreedOf, LeftOf.
-/
namespace Go.Proofs.Ytdkpabnpobpdhaa
open Go.RowKit
set_option linter.unusedVariables false

theorem rf_first : (0 : Nat) ≤ 0 := Nat.le_refl 0

theorem pick_in {f : Cmd → Bool} {cs : List Cmd} {n : Nat} {d : Cmd} (h : cs[n]? = some d) (hf : f d = true) : (cs.take (n + 1)).filter f = (cs.take n).filter f ++ [d] := by
  rw [filter_take h, if_pos hf]
theorem pick_out {f : Cmd → Bool} {cs : List Cmd} {n : Nat} {d : Cmd} (h : cs[n]? = some d) (hf : f d = false) : (cs.take (n + 1)).filter f = (cs.take n).filter f := by
  rw [filter_take h, if_neg (by rw [hf]; exact Bool.false_ne_true), List.append_nil]
theorem pickx_end {f : Cmd → Bool} {cs : List Cmd} {n : Nat} {ok : Bool} (h : n = 0 ∨ ok = true) (k : ok = false ∨ cs.length ≤ n) : (if ok = true then cs.filter f else []) = (cs.take n).filter f := by
  cases ok with
  | true =>
    rcases k with k | k
    · cases k
    · rw [if_pos rfl, List.take_of_length_le k]
  | false =>
    rcases h with h | h
    · rw [h]; rfl
    · cases h
theorem pick_len (f : Cmd → Bool) (cs : List Cmd) (n : Nat) : ((cs.take n).filter f).length ≤ n := by
  have h1 := List.length_filter_le f (cs.take n)
  have h2 := List.length_take_le n cs
  omega

/-- A loop that picks commands. -/
def PickRel (ok : Bool) (f : Cmd → Bool) (cs : List Cmd) (W : World) (o k : Value) (wr : World) : Prop :=
  ∃ n : Nat, k = .int .i64 n ∧ n ≤ cs.length ∧ Hid (n = 0 ∨ ok = true) ∧ wr.ownsRow W.heap.size 26 5 o ((cs.take n).filter f).length (flatC ((cs.take n).filter f)) ∧ Hid (Below W.heap.size W wr)

set_option maxHeartbeats 4000000 in
set_option maxRecDepth 100000 in
theorem specSafe_c (a1 : Option Addr) (len1 cap1 : Nat) (cs : List Cmd) (a2 : Option Addr) (len2 cap2 : Nat) (ds : List Cmd) (hl1 : len1 ≤ 2000000) (hl2 : len2 ≤ 2000000) (hs1 : ShortC 2097152 cs) (hs2 : ShortC 2097152 ds) (W : World) (h1 : CmdsAt W a1 len1 cs) (h2 : CmdsAt W a2 len2 ds) :
    Calls Try.prog 34 #[.slice a1 len1 cap1, .slice a2 len2 cap2] W (CmdsPost (safeL cs ds) W) := by
  obtain ⟨ok, hok⟩ : ∃ x, okL cs ds = x := ⟨_, rfl⟩
  obtain ⟨f, hf⟩ : ∃ f : Cmd → Bool, f = (fun d => !someC cs d && !hasC cs d) := ⟨_, rfl⟩
  have HOK := Lib.hid (fun w (hb : Below W.heap.size W w) => show Calls Try.prog 60 #[.slice a1 len1 cap1, .slice a2 len2 cap2] w (BoolPost ok w) by rw [← hok]; exact specOk_c a1 len1 cap1 cs a2 len2 cap2 ds hl1 hl2 hs1 hs2 w (h1.keep hb) (h2.keep hb))
  have HSM := Lib.hid (fun (d : Cmd) w (hb : Below W.heap.size W w) => specSome_c a1 len1 cap1 cs d (by omega) w (h1.keep hb))
  have HHS := Lib.hid (fun (d : Cmd) w (hb : Below W.heap.size W w) => specHas_c a1 len1 cap1 cs d (by omega) w (h1.keep hb))
  have HN := Lib.hid h2
  have HE := Lib.hid h2.1
  have HR := Lib.hid (show safeL cs ds = if ok = true then ds.filter f else [] by unfold safeL; rw [hok, hf])
  have HF := Lib.hid (fun d => congrFun hf d)
  have hl' : (len2 : Int) ≤ 2000000 := by omega
  clear hok hf h1 h2 hs1 hs2
  go_enter Try.func34, Try.ntmps34
  go_wp2
  go_loopw [5, 6] (fun o k wr => PickRel ok f ds W o k wr) (fun _ k _ => len2 - (intOf k).toNat)
  case atStart => exact ⟨0, rfl, Nat.zero_le _, .inl rfl, World.ownsRow_lit (e := 26) (size := 5) W #[] 0 (Nat.le_refl _) (by simp [maxLen]) rfl, below_box _ _⟩
  case round =>
    obtain ⟨n, rfl, hn, HZ, hown, HB⟩ := hrel
    have HO := Lib.hid hown
    clear hown
    by_cases hlt : n < len2
    · have hlt' : (n : Int) < len2 := by omega
      have hw1 : IntKind.i64.wrap ((n : Int) + 1) = (n : Int) + 1 := IntWalk.i64_in _ (by omega)
      have HLT := Lib.hid hlt
      obtain ⟨b, off, d, rfl, hd, -⟩ := HN.out.node hlt
      have HD := Lib.hid hd
      clear hn hlt hd
      go_wp2_with fail
      refine (HOK.out _ HB.out).mono ?_
      rintro e W1 ⟨rfl, hb1⟩
      have HO1 := Lib.hid (own_below HO.out hb1)
      have HB1 := Lib.hid (below_next HB.out hb1)
      clear hb1
      cases ok with
      | false =>
        have HX := Lib.hid (HR.out.trans (pickx_end HZ.out (.inl rfl)))
        go_wp2
        go_ret
        rw [HX.out]
        exact ⟨⟨_, rfl, HO1.out⟩, HB1.out⟩
      | true =>
        obtain ⟨v0, hv0⟩ : ∃ x, someC cs d = x := ⟨_, rfl⟩
        have HV0 := Lib.hid hv0
        have HSMd := Lib.hid (fun w (hb : Below W.heap.size W w) => show Calls Try.prog 68 #[.slice a1 len1 cap1, cmdV d] w (BoolPost v0 w) by rw [← hv0]; exact HSM.out d w hb)
        clear hv0
        obtain ⟨v1, hv1⟩ : ∃ x, hasC cs d = x := ⟨_, rfl⟩
        have HV1 := Lib.hid hv1
        have HHSd := Lib.hid (fun w (hb : Below W.heap.size W w) => show Calls Try.prog 69 #[.slice a1 len1 cap1, cmdV d] w (BoolPost v1 w) by rw [← hv1]; exact HHS.out d w hb)
        clear hv1
        have HX := Lib.hid (show f d = (!v0 && !v1) by rw [HF.out]; simp only [HV0.out, HV1.out])
        obtain ⟨q, gk, gv, uk, uv⟩ := d
        unfold cmdV at HSMd HHSd
        simp only at HSMd HHSd
        obtain ⟨b', off', d', hv, hd, d0, d1, d2, d3, d4⟩ := (HN.out.keep HB1.out).node HLT.out
        cases hv
        obtain rfl := Option.some.inj (HD.out.symm.trans hd)
        simp only at d0 d1 d2 d3 d4
        clear hd
        go_wp2_with fail
        refine (HSMd.out _ HB1.out).mono ?_
        rintro e W2 ⟨rfl, hb2⟩
        have HO2 := Lib.hid (own_below HO1.out hb2)
        have HB2 := Lib.hid (below_next HB1.out hb2)
        clear hb2 d0 d1 d2 d3 d4
        cases v0 with
        | true =>
          have ho9 := HO2.out
          rw [← pick_out HD.out (HX.out.trans (by simp))] at ho9
          go_wp2
          go_roundw
          case rel => exact ⟨n + 1, by go_num, by have := HLT.out; have := HE.out; omega, .inr rfl, ho9, HB2⟩
          case measure => have := HLT.out; simp [intOf]; omega
        | false =>
          obtain ⟨b', off', d', hv, hd, d0, d1, d2, d3, d4⟩ := (HN.out.keep HB2.out).node HLT.out
          cases hv
          obtain rfl := Option.some.inj (HD.out.symm.trans hd)
          simp only at d0 d1 d2 d3 d4
          clear hd
          go_wp2_with fail
          refine (HHSd.out _ HB2.out).mono ?_
          rintro e W3 ⟨rfl, hb3⟩
          have HO3 := Lib.hid (own_below HO2.out hb3)
          have HB3 := Lib.hid (below_next HB2.out hb3)
          clear hb3 d0 d1 d2 d3 d4
          cases v1 with
          | true =>
            have ho9 := HO3.out
            rw [← pick_out HD.out (HX.out.trans (by simp))] at ho9
            go_wp2
            go_roundw
            case rel => exact ⟨n + 1, by go_num, by have := HLT.out; have := HE.out; omega, .inr rfl, ho9, HB3⟩
            case measure => have := HLT.out; simp [intOf]; omega
          | false =>
            obtain ⟨b', off', d', hv, hd, d0, d1, d2, d3, d4⟩ := (HN.out.keep HB3.out).node HLT.out
            cases hv
            obtain rfl := Option.some.inj (HD.out.symm.trans hd)
            simp only at d0 d1 d2 d3 d4
            clear hd
            go_wp2_with (at_builtin; refine wpList_append_cmds rfl _ _ rfl W.heap.size _ ((ds.take n).filter f) rfl (HO3.out.alloc _) _ _ _ [(⟨q, gk, gv, uk, uv⟩ : Cmd)] rfl (cmds_lit _ (⟨q, gk, gv, uk, uv⟩ : Cmd)) (by have h1 := HLT.out; have h2 := pick_len f ds n; simp only [List.length_singleton]; omega) (by have := HB3.out.size; simp; omega) ?_; intro v4 w4 ho4 hg4; have HB9 := Lib.hid ((HB3.out.alloc HB3.out.size _).grown hg4 (by have := HB3.out.size; simp; omega) (fun k e => (HO3.out.lt k e).1)); clear hg4)
            rw [← pick_in HD.out (HX.out.trans rfl)] at ho4
            go_roundw
            case rel => exact ⟨n + 1, by go_num, by have := HLT.out; have := HE.out; omega, .inr rfl, ho4, HB9⟩
            case measure => have := HLT.out; simp [intOf]; omega
    · have hge : (len2 : Int) ≤ n := by omega
      have HX := Lib.hid (HR.out.trans (pickx_end HZ.out (.inr (by have := HE.out; omega))))
      clear hn hlt
      go_wp2
      go_ret
      rw [HX.out]
      exact ⟨⟨_, rfl, HO.out⟩, HB.out⟩

set_option maxHeartbeats 4000000 in
set_option maxRecDepth 100000 in
theorem specAgreed_c (a1 : Option Addr) (len1 cap1 : Nat) (cs : List Cmd) (a2 : Option Addr) (len2 cap2 : Nat) (ds : List Cmd) (hl1 : len1 ≤ 2000000) (hl2 : len2 ≤ 2000000) (hs1 : ShortC 2097152 cs) (hs2 : ShortC 2097152 ds) (W : World) (h1 : CmdsAt W a1 len1 cs) (h2 : CmdsAt W a2 len2 ds) :
    Calls Try.prog 37 #[.slice a1 len1 cap1, .slice a2 len2 cap2] W (CmdsPost (agreedL cs ds) W) := by
  obtain ⟨ok, hok⟩ : ∃ x, okL cs ds = x := ⟨_, rfl⟩
  obtain ⟨f, hf⟩ : ∃ f : Cmd → Bool, f = (fun d => hasC cs d && !someC cs d) := ⟨_, rfl⟩
  have HOK := Lib.hid (fun w (hb : Below W.heap.size W w) => show Calls Try.prog 60 #[.slice a1 len1 cap1, .slice a2 len2 cap2] w (BoolPost ok w) by rw [← hok]; exact specOk_c a1 len1 cap1 cs a2 len2 cap2 ds hl1 hl2 hs1 hs2 w (h1.keep hb) (h2.keep hb))
  have HHS := Lib.hid (fun (d : Cmd) w (hb : Below W.heap.size W w) => specHas_c a1 len1 cap1 cs d (by omega) w (h1.keep hb))
  have HSM := Lib.hid (fun (d : Cmd) w (hb : Below W.heap.size W w) => specSome_c a1 len1 cap1 cs d (by omega) w (h1.keep hb))
  have HN := Lib.hid h2
  have HE := Lib.hid h2.1
  have HR := Lib.hid (show agreedL cs ds = if ok = true then ds.filter f else [] by unfold agreedL; rw [hok, hf])
  have HF := Lib.hid (fun d => congrFun hf d)
  have hl' : (len2 : Int) ≤ 2000000 := by omega
  clear hok hf h1 h2 hs1 hs2
  go_enter Try.func37, Try.ntmps37
  go_wp2
  go_loopw [5, 6] (fun o k wr => PickRel ok f ds W o k wr) (fun _ k _ => len2 - (intOf k).toNat)
  case atStart => exact ⟨0, rfl, Nat.zero_le _, .inl rfl, World.ownsRow_lit (e := 26) (size := 5) W #[] 0 (Nat.le_refl _) (by simp [maxLen]) rfl, below_box _ _⟩
  case round =>
    obtain ⟨n, rfl, hn, HZ, hown, HB⟩ := hrel
    have HO := Lib.hid hown
    clear hown
    by_cases hlt : n < len2
    · have hlt' : (n : Int) < len2 := by omega
      have hw1 : IntKind.i64.wrap ((n : Int) + 1) = (n : Int) + 1 := IntWalk.i64_in _ (by omega)
      have HLT := Lib.hid hlt
      obtain ⟨b, off, d, rfl, hd, -⟩ := HN.out.node hlt
      have HD := Lib.hid hd
      clear hn hlt hd
      go_wp2_with fail
      refine (HOK.out _ HB.out).mono ?_
      rintro e W1 ⟨rfl, hb1⟩
      have HO1 := Lib.hid (own_below HO.out hb1)
      have HB1 := Lib.hid (below_next HB.out hb1)
      clear hb1
      cases ok with
      | false =>
        have HX := Lib.hid (HR.out.trans (pickx_end HZ.out (.inl rfl)))
        go_wp2
        go_ret
        rw [HX.out]
        exact ⟨⟨_, rfl, HO1.out⟩, HB1.out⟩
      | true =>
        obtain ⟨v0, hv0⟩ : ∃ x, hasC cs d = x := ⟨_, rfl⟩
        have HV0 := Lib.hid hv0
        have HHSd := Lib.hid (fun w (hb : Below W.heap.size W w) => show Calls Try.prog 69 #[.slice a1 len1 cap1, cmdV d] w (BoolPost v0 w) by rw [← hv0]; exact HHS.out d w hb)
        clear hv0
        obtain ⟨v1, hv1⟩ : ∃ x, someC cs d = x := ⟨_, rfl⟩
        have HV1 := Lib.hid hv1
        have HSMd := Lib.hid (fun w (hb : Below W.heap.size W w) => show Calls Try.prog 68 #[.slice a1 len1 cap1, cmdV d] w (BoolPost v1 w) by rw [← hv1]; exact HSM.out d w hb)
        clear hv1
        have HX := Lib.hid (show f d = (v0 && !v1) by rw [HF.out]; simp only [HV0.out, HV1.out])
        obtain ⟨q, gk, gv, uk, uv⟩ := d
        unfold cmdV at HHSd HSMd
        simp only at HHSd HSMd
        obtain ⟨b', off', d', hv, hd, d0, d1, d2, d3, d4⟩ := (HN.out.keep HB1.out).node HLT.out
        cases hv
        obtain rfl := Option.some.inj (HD.out.symm.trans hd)
        simp only at d0 d1 d2 d3 d4
        clear hd
        go_wp2_with fail
        refine (HHSd.out _ HB1.out).mono ?_
        rintro e W2 ⟨rfl, hb2⟩
        have HO2 := Lib.hid (own_below HO1.out hb2)
        have HB2 := Lib.hid (below_next HB1.out hb2)
        clear hb2 d0 d1 d2 d3 d4
        cases v0 with
        | false =>
          have ho9 := HO2.out
          rw [← pick_out HD.out (HX.out.trans (by simp))] at ho9
          go_wp2
          go_roundw
          case rel => exact ⟨n + 1, by go_num, by have := HLT.out; have := HE.out; omega, .inr rfl, ho9, HB2⟩
          case measure => have := HLT.out; simp [intOf]; omega
        | true =>
          obtain ⟨b', off', d', hv, hd, d0, d1, d2, d3, d4⟩ := (HN.out.keep HB2.out).node HLT.out
          cases hv
          obtain rfl := Option.some.inj (HD.out.symm.trans hd)
          simp only at d0 d1 d2 d3 d4
          clear hd
          go_wp2_with fail
          refine (HSMd.out _ HB2.out).mono ?_
          rintro e W3 ⟨rfl, hb3⟩
          have HO3 := Lib.hid (own_below HO2.out hb3)
          have HB3 := Lib.hid (below_next HB2.out hb3)
          clear hb3 d0 d1 d2 d3 d4
          cases v1 with
          | true =>
            have ho9 := HO3.out
            rw [← pick_out HD.out (HX.out.trans (by simp))] at ho9
            go_wp2
            go_roundw
            case rel => exact ⟨n + 1, by go_num, by have := HLT.out; have := HE.out; omega, .inr rfl, ho9, HB3⟩
            case measure => have := HLT.out; simp [intOf]; omega
          | false =>
            obtain ⟨b', off', d', hv, hd, d0, d1, d2, d3, d4⟩ := (HN.out.keep HB3.out).node HLT.out
            cases hv
            obtain rfl := Option.some.inj (HD.out.symm.trans hd)
            simp only at d0 d1 d2 d3 d4
            clear hd
            go_wp2_with (at_builtin; refine wpList_append_cmds rfl _ _ rfl W.heap.size _ ((ds.take n).filter f) rfl (HO3.out.alloc _) _ _ _ [(⟨q, gk, gv, uk, uv⟩ : Cmd)] rfl (cmds_lit _ (⟨q, gk, gv, uk, uv⟩ : Cmd)) (by have h1 := HLT.out; have h2 := pick_len f ds n; simp only [List.length_singleton]; omega) (by have := HB3.out.size; simp; omega) ?_; intro v4 w4 ho4 hg4; have HB9 := Lib.hid ((HB3.out.alloc HB3.out.size _).grown hg4 (by have := HB3.out.size; simp; omega) (fun k e => (HO3.out.lt k e).1)); clear hg4)
            rw [← pick_in HD.out (HX.out.trans rfl)] at ho4
            go_roundw
            case rel => exact ⟨n + 1, by go_num, by have := HLT.out; have := HE.out; omega, .inr rfl, ho4, HB9⟩
            case measure => have := HLT.out; simp [intOf]; omega
    · have hge : (len2 : Int) ≤ n := by omega
      have HX := Lib.hid (HR.out.trans (pickx_end HZ.out (.inr (by have := HE.out; omega))))
      clear hn hlt
      go_wp2
      go_ret
      rw [HX.out]
      exact ⟨⟨_, rfl, HO.out⟩, HB.out⟩

set_option maxHeartbeats 4000000 in
set_option maxRecDepth 100000 in
theorem specLeft_c (a1 : Option Addr) (len1 cap1 : Nat) (cs : List Cmd) (a2 : Option Addr) (len2 cap2 : Nat) (ds : List Cmd) (hl1 : len1 ≤ 2000000) (hl2 : len2 ≤ 2000000) (hs1 : ShortC 2097152 cs) (hs2 : ShortC 2097152 ds) (W : World) (h1 : CmdsAt W a1 len1 cs) (h2 : CmdsAt W a2 len2 ds) :
    Calls Try.prog 39 #[.slice a1 len1 cap1, .slice a2 len2 cap2] W (CmdsPost (leftL cs ds) W) := by
  obtain ⟨ok, hok⟩ : ∃ x, okL cs ds = x := ⟨_, rfl⟩
  obtain ⟨f, hf⟩ : ∃ f : Cmd → Bool, f = (fun c => someC ds c) := ⟨_, rfl⟩
  have HOK := Lib.hid (fun w (hb : Below W.heap.size W w) => show Calls Try.prog 60 #[.slice a1 len1 cap1, .slice a2 len2 cap2] w (BoolPost ok w) by rw [← hok]; exact specOk_c a1 len1 cap1 cs a2 len2 cap2 ds hl1 hl2 hs1 hs2 w (h1.keep hb) (h2.keep hb))
  have HSM := Lib.hid (fun (d : Cmd) w (hb : Below W.heap.size W w) => specSome_c a2 len2 cap2 ds d (by omega) w (h2.keep hb))
  have HN := Lib.hid h1
  have HE := Lib.hid h1.1
  have HR := Lib.hid (show leftL cs ds = if ok = true then cs.filter f else [] by unfold leftL; rw [hok, hf])
  have HF := Lib.hid (fun d => congrFun hf d)
  have hl' : (len1 : Int) ≤ 2000000 := by omega
  clear hok hf h1 h2 hs1 hs2
  go_enter Try.func39, Try.ntmps39
  go_wp2
  go_loopw [5, 6] (fun o k wr => PickRel ok f cs W o k wr) (fun _ k _ => len1 - (intOf k).toNat)
  case atStart => exact ⟨0, rfl, Nat.zero_le _, .inl rfl, World.ownsRow_lit (e := 26) (size := 5) W #[] 0 (Nat.le_refl _) (by simp [maxLen]) rfl, below_box _ _⟩
  case round =>
    obtain ⟨n, rfl, hn, HZ, hown, HB⟩ := hrel
    have HO := Lib.hid hown
    clear hown
    by_cases hlt : n < len1
    · have hlt' : (n : Int) < len1 := by omega
      have hw1 : IntKind.i64.wrap ((n : Int) + 1) = (n : Int) + 1 := IntWalk.i64_in _ (by omega)
      have HLT := Lib.hid hlt
      obtain ⟨b, off, d, rfl, hd, -⟩ := HN.out.node hlt
      have HD := Lib.hid hd
      clear hn hlt hd
      go_wp2_with fail
      refine (HOK.out _ HB.out).mono ?_
      rintro e W1 ⟨rfl, hb1⟩
      have HO1 := Lib.hid (own_below HO.out hb1)
      have HB1 := Lib.hid (below_next HB.out hb1)
      clear hb1
      cases ok with
      | false =>
        have HX := Lib.hid (HR.out.trans (pickx_end HZ.out (.inl rfl)))
        go_wp2
        go_ret
        rw [HX.out]
        exact ⟨⟨_, rfl, HO1.out⟩, HB1.out⟩
      | true =>
        obtain ⟨v0, hv0⟩ : ∃ x, someC ds d = x := ⟨_, rfl⟩
        have HV0 := Lib.hid hv0
        have HSMd := Lib.hid (fun w (hb : Below W.heap.size W w) => show Calls Try.prog 68 #[.slice a2 len2 cap2, cmdV d] w (BoolPost v0 w) by rw [← hv0]; exact HSM.out d w hb)
        clear hv0
        have HX := Lib.hid (show f d = (v0) by rw [HF.out]; simp only [HV0.out])
        obtain ⟨q, gk, gv, uk, uv⟩ := d
        unfold cmdV at HSMd
        simp only at HSMd
        obtain ⟨b', off', d', hv, hd, d0, d1, d2, d3, d4⟩ := (HN.out.keep HB1.out).node HLT.out
        cases hv
        obtain rfl := Option.some.inj (HD.out.symm.trans hd)
        simp only at d0 d1 d2 d3 d4
        clear hd
        go_wp2_with fail
        refine (HSMd.out _ HB1.out).mono ?_
        rintro e W2 ⟨rfl, hb2⟩
        have HO2 := Lib.hid (own_below HO1.out hb2)
        have HB2 := Lib.hid (below_next HB1.out hb2)
        clear hb2 d0 d1 d2 d3 d4
        cases v0 with
        | false =>
          have ho9 := HO2.out
          rw [← pick_out HD.out (HX.out.trans (by simp))] at ho9
          go_wp2
          go_roundw
          case rel => exact ⟨n + 1, by go_num, by have := HLT.out; have := HE.out; omega, .inr rfl, ho9, HB2⟩
          case measure => have := HLT.out; simp [intOf]; omega
        | true =>
          obtain ⟨b', off', d', hv, hd, d0, d1, d2, d3, d4⟩ := (HN.out.keep HB2.out).node HLT.out
          cases hv
          obtain rfl := Option.some.inj (HD.out.symm.trans hd)
          simp only at d0 d1 d2 d3 d4
          clear hd
          go_wp2_with (at_builtin; refine wpList_append_cmds rfl _ _ rfl W.heap.size _ ((cs.take n).filter f) rfl (HO2.out.alloc _) _ _ _ [(⟨q, gk, gv, uk, uv⟩ : Cmd)] rfl (cmds_lit _ (⟨q, gk, gv, uk, uv⟩ : Cmd)) (by have h1 := HLT.out; have h2 := pick_len f cs n; simp only [List.length_singleton]; omega) (by have := HB2.out.size; simp; omega) ?_; intro v4 w4 ho4 hg4; have HB9 := Lib.hid ((HB2.out.alloc HB2.out.size _).grown hg4 (by have := HB2.out.size; simp; omega) (fun k e => (HO2.out.lt k e).1)); clear hg4)
          rw [← pick_in HD.out (HX.out.trans rfl)] at ho4
          go_roundw
          case rel => exact ⟨n + 1, by go_num, by have := HLT.out; have := HE.out; omega, .inr rfl, ho4, HB9⟩
          case measure => have := HLT.out; simp [intOf]; omega
    · have hge : (len1 : Int) ≤ n := by omega
      have HX := Lib.hid (HR.out.trans (pickx_end HZ.out (.inr (by have := HE.out; omega))))
      clear hn hlt
      go_wp2
      go_ret
      rw [HX.out]
      exact ⟨⟨_, rfl, HO.out⟩, HB.out⟩

end Go.Proofs.Ytdkpabnpobpdhaa

/-
  WALKS: rules that are closures: impl.isIn, clashesWith, clashesIn, not, both, rule.of; slices.Contains, slices.ContainsFunc at commands.
-/
namespace Go.Proofs.Ytdkpabnpobpdhaa
open Go.RowKit
set_option linter.unusedVariables false

theorem rq_first : (0 : Nat) ≤ 0 := Nat.le_refl 0

/-- A rule in memory: a function value that answers f of each command, in this world and in each that grows from it. -/
def RuleAt (w : World) (v : Value) (f : Cmd → Bool) : Prop :=
  ∃ (g : Nat) (lb : Array Value), v = .func (.func g) #[] lb ∧ (∀ args w', (callFunc g args).run Try.prog w' = .ok (.enter g args) w') ∧
    ∀ (c : Cmd) (W : World), c.p.size ≤ 2097152 → Below w.heap.size w W → Calls Try.prog g (#[cmdV c] ++ lb) W (BoolPost (f c) W)
theorem RuleAt.keep {w w' : World} {v : Value} {f : Cmd → Bool} (h : RuleAt w v f) (hb : Below w.heap.size w w') : RuleAt w' v f := by
  obtain ⟨g, lb, h1, h2, h3⟩ := h
  exact ⟨g, lb, h1, h2, fun c W hc hW => h3 c W hc (below_next hb hW)⟩
/-- What a function that makes a rule tells. -/
def RulePost (f : Cmd → Bool) (W : World) (e : Ending) (w' : World) : Prop := ∃ v, e = .returned v ∧ RuleAt w' v f ∧ Below W.heap.size W w'

theorem any_at {f : Cmd → Bool} {cs : List Cmd} {n : Nat} {d : Cmd} (h : cs[n]? = some d) (hf : f d = true) : cs.any f = true :=
  List.any_eq_true.2 ⟨d, List.mem_of_getElem? h, hf⟩
theorem any_none {f : Cmd → Bool} {cs : List Cmd} (h : ∀ (j : Nat) (d : Cmd), cs[j]? = some d → f d = false) : cs.any f = false := by
  rw [Bool.eq_false_iff]
  intro hs
  obtain ⟨d, hd, hf⟩ := List.any_eq_true.1 hs
  obtain ⟨j, hj⟩ := List.getElem?_of_mem hd
  rw [h j d hj] at hf
  cases hf

/-- What a search tells: a place that is no place if there is none. -/
def IndexPost (b : Bool) (W : World) (e : Ending) (w' : World) : Prop := ∃ i : Int, e = .returned (.int .i64 i) ∧ decide (0 ≤ i) = b ∧ Below W.heap.size W w'

set_option maxHeartbeats 2000000 in
set_option maxRecDepth 100000 in
theorem indexFunc_c (a : Option Addr) (len cap : Nat) (cs : List Cmd) (v : Value) (f : Cmd → Bool) (hl : len ≤ 2097152) (hs : ShortC 2097152 cs) (W : World) (hN : CmdsAt W a len cs) (hR : RuleAt W v f) :
    Calls Try.prog 119 #[.slice a len cap, v] W (IndexPost (cs.any f) W) := by
  obtain ⟨g, lb, rfl, eg, hP⟩ := hR
  have HN := Lib.hid hN
  have HE := Lib.hid hN.1
  have HS := Lib.hid hs
  have HP := Lib.hid hP
  have hl' : (len : Int) ≤ 2097152 := by omega
  clear hN hs hP
  go_enter Try.func119, Try.ntmps119
  go_wp2
  go_loopw [5, 8] (fun _ k wr => ∃ n : Nat, k = .int .i64 n ∧ n ≤ len ∧ Hid (∀ (j : Nat) (d : Cmd), j < n → cs[j]? = some d → f d = false) ∧ Hid (Below W.heap.size W wr)) (fun _ k _ => len - (intOf k).toNat)
  case atStart => exact ⟨0, rfl, Nat.zero_le _, Lib.hid (fun j d h => absurd h (Nat.not_lt_zero _)), Lib.hid (Below.refl _ _)⟩
  case round =>
    obtain ⟨n, rfl, hn, HNO, HB⟩ := hrel
    by_cases hlt : n < len
    · have hlt' : (n : Int) < len := by omega
      have hw1 : IntKind.i64.wrap ((n : Int) + 1) = (n : Int) + 1 := IntWalk.i64_in _ (by omega)
      have HLT := Lib.hid hlt
      obtain ⟨b, off, d, rfl, hd, d0, d1, d2, d3, d4⟩ := (HN.out.keep HB.out).node hlt
      obtain ⟨q, hq⟩ : ∃ q, f d = q := ⟨_, rfl⟩
      have HC := Lib.hid (fun w (hb : Below W.heap.size W w) => show Calls Try.prog g (#[cmdV d] ++ lb) w (BoolPost q w) by rw [← hq]; exact HP.out d w (HS.out.at hd) hb)
      have HD := Lib.hid (And.intro hd hq)
      obtain ⟨p, fk, fv, tk, tv⟩ := d
      unfold cmdV at HC
      simp only at d0 d1 d2 d3 d4 HC
      clear hn hlt hd hq
      go_wp2_with (go_at_fn g; refine (HC.out _ HB.out).mono ?_; rintro e W1 ⟨rfl, hb1⟩; have B1 := Lib.hid (below_next HB.out hb1); clear hb1 d0 d1 d2 d3 d4; cases q)
      · go_wp2
        go_roundw
        case rel =>
          refine ⟨n + 1, by go_num, HLT.out, Lib.hid (fun j x hj hx => ?_), B1⟩
          by_cases h : j < n
          · exact HNO.out j x h hx
          · obtain rfl : j = n := by omega
            rw [HD.out.1] at hx
            obtain rfl := Option.some.inj hx
            exact HD.out.2
        case measure => have := HLT.out; simp [intOf]; omega
      · have hn0 : (0 : Int) ≤ n := by omega
        go_wp2
        go_ret
        exact ⟨n, rfl, by rw [any_at HD.out.1 HD.out.2]; exact decide_eq_true hn0, B1.out⟩
    · have hge : (len : Int) ≤ n := by omega
      have HX := Lib.hid (any_none (f := f) (cs := cs) (fun j d hd => HNO.out j d (by have := (List.getElem?_eq_some_iff.1 hd).1; have := HE.out; omega) hd))
      clear hn hlt
      go_wp2
      go_ret
      exact ⟨-1, rfl, by rw [HX.out]; rfl, HB.out⟩

set_option maxHeartbeats 2000000 in
set_option maxRecDepth 100000 in
theorem containsFunc_c (a : Option Addr) (len cap : Nat) (cs : List Cmd) (v : Value) (f : Cmd → Bool) (hl : len ≤ 2097152) (hs : ShortC 2097152 cs) (W : World) (hN : CmdsAt W a len cs) (hR : RuleAt W v f) :
    Calls Try.prog 101 #[.slice a len cap, v] W (BoolPost (cs.any f) W) := by
  have HI := Lib.hid (indexFunc_c a len cap cs v f hl hs W hN hR)
  obtain ⟨g, lb, rfl, -⟩ := hR
  clear hN hs hl
  go_enter Try.func101, Try.ntmps101
  go_wp2_with fail
  refine HI.out.mono ?_
  rintro e W1 ⟨i, rfl, hi, hb⟩
  have B1 := Lib.hid hb
  have HX := Lib.hid hi
  clear hb hi
  go_wp2
  go_ret
  exact ⟨ret_bool HX.out, B1.out⟩

set_option maxHeartbeats 2000000 in
set_option maxRecDepth 100000 in
theorem indexC_c (a : Option Addr) (len cap : Nat) (cs : List Cmd) (c : Cmd) (hl : len ≤ 2097152) (W : World) (hN : CmdsAt W a len cs) :
    Calls Try.prog 118 #[.slice a len cap, cmdV c] W (IndexPost (hasC cs c) W) := by
  have HN := Lib.hid hN
  have HE := Lib.hid hN.1
  have hl' : (len : Int) ≤ 2097152 := by omega
  have HC := Lib.hid (cmds_lit W c)
  have HBX := Lib.hid (below_box W (.cells #[.string c.p, .int .i64 c.fk, .int .i64 c.fv, .int .i64 c.tk, .int .i64 c.tv] 26))
  obtain ⟨cc, hcc⟩ : ∃ x, c = x := ⟨_, rfl⟩
  have HCC := Lib.hid hcc
  rw [show hasC cs c = hasC cs cc by rw [hcc]]
  clear hN hcc
  obtain ⟨p, fk, fv, tk, tv⟩ := c
  unfold cmdV
  simp only at HC HBX ⊢
  go_enter Try.func118, Try.ntmps118
  go_wp2
  generalize W.alloc (.cells #[.string p, .int .i64 fk, .int .i64 fv, .int .i64 tk, .int .i64 tv] 26) = W0 at HC HBX ⊢
  go_loopw [5, 8] (fun _ i wr => ∃ n : Nat, i = .int .i64 n ∧ n ≤ len ∧ Hid (∀ j, j < n → cs[j]? ≠ some cc) ∧ Hid (Below W0.heap.size W0 wr)) (fun _ i _ => len - (intOf i).toNat)
  case atStart => exact ⟨0, rfl, Nat.zero_le _, fun j hj => absurd hj (Nat.not_lt_zero _), Below.refl _ _⟩
  case round =>
    obtain ⟨n, rfl, hn, HNO, HB⟩ := hrel
    by_cases hlt : n < len
    · have hlt' : (n : Int) < len := by omega
      have hw1 : IntKind.i64.wrap ((n : Int) + 1) = (n : Int) + 1 := IntWalk.i64_in _ (by omega)
      have HLT := Lib.hid hlt
      obtain ⟨b, off, d, rfl, hd, d0, d1, d2, d3, d4⟩ := (HN.out.keep (below_next HBX.out HB.out)).node hlt
      obtain ⟨b1, off1, c', e1, e2, c0, c1, c2, c3, c4⟩ := (HC.out.keep HB.out).node (i := 0) (by omega)
      cases e1
      obtain rfl : _ = c' := by simpa using e2
      simp only [Nat.zero_mul, Nat.zero_add, Nat.add_zero] at c0 c1 c2 c3 c4
      have HD := Lib.hid hd
      clear hn hlt e2 hd
      by_cases hdc : d = cc
      · have hd2 := hdc.trans HCC.out.symm
        have HX := Lib.hid (show hasC cs cc = true from hasC_iff.2 (by rw [← hdc]; exact List.mem_of_getElem? HD.out))
        subst hd2
        have ce := fun w => cmdEqS p fk fv tk tv w
        have hn0 : (0 : Int) ≤ n := by omega
        clear hdc
        simp only at d0 d1 d2 d3 d4
        go_upto_region 4 with (fail)
        go_quiet (fail)
        go_wp2
        go_ret
        exact ⟨n, rfl, by rw [HX.out]; exact decide_eq_true hn0, rb_drewN (below_next HBX.out HB.out) _⟩
      · have ce := fun w => cmdEqR ⟨p, fk, fv, tk, tv⟩ d (by rw [HCC.out]; exact fun h => hdc h.symm) w
        have HDC := Lib.hid hdc
        clear hdc
        obtain ⟨p', fk', fv', tk', tv'⟩ := d
        simp only at d0 d1 d2 d3 d4 ce
        go_upto_region 4 with (fail)
        go_quiet (fail)
        go_wp2
        go_roundw
        case rel => exact ⟨n + 1, by go_num, HLT.out, Lib.hid (fun j hj => by
          by_cases hjn : j < n
          · exact HNO.out j hjn
          · obtain rfl : j = n := by omega
            rw [HD.out]
            intro h
            exact HDC.out (Option.some.inj h)), Lib.hid (rb_drewN HB.out _)⟩
        case measure => have := HLT.out; simp [intOf]; omega
    · have hge : (len : Int) ≤ n := by omega
      have HX := Lib.hid (has_no (cs := cs) (c := cc) (fun j hj => HNO.out j (by have := HE.out; omega)))
      clear hn hlt
      go_wp2
      go_ret
      exact ⟨-1, rfl, by rw [HX.out]; rfl, below_next HBX.out HB.out⟩

set_option maxHeartbeats 2000000 in
set_option maxRecDepth 100000 in
theorem contains_c (a : Option Addr) (len cap : Nat) (cs : List Cmd) (c : Cmd) (hl : len ≤ 2097152) (W : World) (hN : CmdsAt W a len cs) :
    Calls Try.prog 99 #[.slice a len cap, cmdV c] W (BoolPost (hasC cs c) W) := by
  have HI := Lib.hid (fun W' (hb : Below W.heap.size W W') => indexC_c a len cap cs c hl W' (hN.keep hb))
  have HBX := Lib.hid (below_box W (.cells #[.string c.p, .int .i64 c.fk, .int .i64 c.fv, .int .i64 c.tk, .int .i64 c.tv] 26))
  clear hN hl
  obtain ⟨b, hb⟩ : ∃ b, hasC cs c = b := ⟨_, rfl⟩
  rw [hb] at HI ⊢
  clear hb
  obtain ⟨p, fk, fv, tk, tv⟩ := c
  unfold cmdV at HI ⊢
  simp only at HI HBX ⊢
  go_enter Try.func99, Try.ntmps99
  go_wp2_with fail
  refine (HI.out _ HBX.out).mono ?_
  rintro e W1 ⟨i, rfl, hi, hb⟩
  have B1 := Lib.hid (below_next HBX.out hb)
  have HX := Lib.hid hi
  clear hb hi
  go_wp2
  go_ret
  exact ⟨ret_bool HX.out, B1.out⟩

/-- A cell of a block of one cell. -/
theorem one_cell (W : World) (v : Value) (t : TypeId) : (W.alloc (.cells #[v] t)).cell? ⟨W.heap.size, 0, none⟩ = some v := by rw [World.cell?_alloc_new]; rfl

set_option maxHeartbeats 1000000 in
set_option maxRecDepth 100000 in
theorem clashesWith1_call (c d : Cmd) (W : World) (B : Nat) (hc : c.p.size ≤ 2097152) (hd : d.p.size ≤ 2097152) (h0 : W.cell? ⟨B, 0, none⟩ = some (.string d.p)) (h1 : W.cell? ⟨B, 1, none⟩ = some (.int .i64 d.fk)) (h2 : W.cell? ⟨B, 2, none⟩ = some (.int .i64 d.fv)) (h3 : W.cell? ⟨B, 3, none⟩ = some (.int .i64 d.tk)) (h4 : W.cell? ⟨B, 4, none⟩ = some (.int .i64 d.tv)) :
    Calls Try.prog 93 #[cmdV c, .pointer (some ⟨B, 0, none⟩)] W (BoolPost (clashP c d) W) := by
  have HM := Lib.hid (fun w => implCommandsClash_c c d hc hd w)
  have HB := Lib.hid (below_box W (.cells #[.string c.p, .int .i64 c.fk, .int .i64 c.fv, .int .i64 c.tk, .int .i64 c.tv] 26))
  have e0 := cell_kept HB.out h0
  have e1 := cell_kept HB.out h1
  have e2 := cell_kept HB.out h2
  have e3 := cell_kept HB.out h3
  have e4 := cell_kept HB.out h4
  clear h0 h1 h2 h3 h4 hc hd
  obtain ⟨mm, hmm⟩ : ∃ mm, clashP c d = mm := ⟨_, rfl⟩
  rw [hmm] at HM ⊢
  clear hmm
  obtain ⟨p, fk, fv, tk, tv⟩ := c
  obtain ⟨p', fk', fv', tk', tv'⟩ := d
  unfold cmdV at HM ⊢
  simp only at HM HB e0 e1 e2 e3 e4 ⊢
  go_enter Try.func93, Try.ntmps93
  go_wp2_with fail
  refine (HM.out _).mono ?_
  rintro e W1 ⟨rfl, hb1⟩
  have B1 := Lib.hid (below_next HB.out hb1)
  clear hb1 e0 e1 e2 e3 e4
  go_wp2
  go_ret
  exact ⟨rfl, B1.out⟩

theorem clashesWith1_c (W0 : World) (B : Nat) (d : Cmd) (hd : d.p.size ≤ 2097152) (h0 : W0.cell? ⟨B, 0, none⟩ = some (.string d.p)) (h1 : W0.cell? ⟨B, 1, none⟩ = some (.int .i64 d.fk)) (h2 : W0.cell? ⟨B, 2, none⟩ = some (.int .i64 d.fv)) (h3 : W0.cell? ⟨B, 3, none⟩ = some (.int .i64 d.tk)) (h4 : W0.cell? ⟨B, 4, none⟩ = some (.int .i64 d.tv)) :
    RuleAt W0 (.func (.func 93) #[] #[.pointer (some ⟨B, 0, none⟩)]) (fun c => clashP c d) :=
  ⟨_, _, rfl, enters_of Try.func93 (by kernel_rfl) rfl, fun c W hc hW => clashesWith1_call c d W B hc hd (cell_kept hW h0) (cell_kept hW h1) (cell_kept hW h2) (cell_kept hW h3) (cell_kept hW h4)⟩

/-- A box of a command, as a row of one. -/
def BoxC (W : World) (B : Nat) (d : Cmd) : Prop := W.ownsRow 0 26 5 (.slice (some ⟨B, 0, none⟩) 1 1) 1 (flatC [d])
theorem boxC_cells {W : World} {B : Nat} {d : Cmd} (h : BoxC W B d) : W.cell? ⟨B, 0, none⟩ = some (.string d.p) ∧ W.cell? ⟨B, 1, none⟩ = some (.int .i64 d.fk) ∧ W.cell? ⟨B, 2, none⟩ = some (.int .i64 d.fv) ∧ W.cell? ⟨B, 3, none⟩ = some (.int .i64 d.tk) ∧ W.cell? ⟨B, 4, none⟩ = some (.int .i64 d.tv) := by
  unfold BoxC at h
  refine ⟨?_, ?_, ?_, ?_, ?_⟩
  · rw [h.cellAt 0 (by omega)]; rfl
  · rw [h.cellAt 1 (by omega)]; rfl
  · rw [h.cellAt 2 (by omega)]; rfl
  · rw [h.cellAt 3 (by omega)]; rfl
  · rw [h.cellAt 4 (by omega)]; rfl
theorem boxC_new (W : World) (d : Cmd) : BoxC (W.alloc (.cells #[.string d.p, .int .i64 d.fk, .int .i64 d.fv, .int .i64 d.tk, .int .i64 d.tv] 26)) W.heap.size d :=
  World.ownsRow_lit (e := 26) (size := 5) W #[.string d.p, .int .i64 d.fk, .int .i64 d.fv, .int .i64 d.tk, .int .i64 d.tv] 1 (Nat.zero_le _) (by simp [maxLen]) rfl
theorem BoxC.keep {W W' : World} {B : Nat} {d : Cmd} (h : BoxC W B d) (hb : Below W.heap.size W W') : BoxC W' B d := own_below h hb
theorem boxC_call (c d : Cmd) (W : World) (B : Nat) (hc : c.p.size ≤ 2097152) (hd : d.p.size ≤ 2097152) (h : BoxC W B d) :
    Calls Try.prog 93 #[cmdV c, .pointer (some ⟨B, 0, none⟩)] W (BoolPost (clashP c d) W) := by
  obtain ⟨h0, h1, h2, h3, h4⟩ := boxC_cells h
  exact clashesWith1_call c d W B hc hd h0 h1 h2 h3 h4

/-- What clashesWith tells: its closure, and the box that it has captured. -/
def BoxPost (d : Cmd) (W : World) (e : Ending) (w' : World) : Prop :=
  ∃ B : Nat, e = .returned (.func (.func 93) #[] #[.pointer (some ⟨B, 0, none⟩)]) ∧ BoxC w' B d ∧ Below W.heap.size W w'
set_option maxHeartbeats 1000000 in
set_option maxRecDepth 100000 in
theorem clashesWith_box (d : Cmd) (W : World) : Calls Try.prog 59 #[cmdV d] W (BoxPost d W) := by
  have HB := Lib.hid (below_box W (.cells #[.string d.p, .int .i64 d.fk, .int .i64 d.fv, .int .i64 d.tk, .int .i64 d.tv] 26))
  have HR := Lib.hid (boxC_new W d)
  obtain ⟨dd, hdd⟩ : ∃ x, d = x := ⟨_, rfl⟩
  rw [show BoxPost d W = BoxPost dd W by rw [hdd]]
  have HDD := Lib.hid hdd
  clear hdd
  obtain ⟨p', fk', fv', tk', tv'⟩ := d
  unfold cmdV
  simp only at HR HB ⊢
  go_enter Try.func59, Try.ntmps59
  go_wp2
  go_ret
  exact ⟨_, rfl, by rw [← HDD.out]; exact HR.out, HB.out⟩

set_option maxHeartbeats 1000000 in
set_option maxRecDepth 100000 in
theorem clashesWith_c (d : Cmd) (hd : d.p.size ≤ 2097152) (W : World) : Calls Try.prog 59 #[cmdV d] W (RulePost (fun c => clashP c d) W) := by
  have HB := Lib.hid (below_box W (.cells #[.string d.p, .int .i64 d.fk, .int .i64 d.fv, .int .i64 d.tk, .int .i64 d.tv] 26))
  have HR := Lib.hid (by
    obtain ⟨e0, e1, e2, e3, e4, -⟩ := five_new W (.string d.p) (.int .i64 d.fk) (.int .i64 d.fv) (.int .i64 d.tk) (.int .i64 d.tv) 26
    exact clashesWith1_c _ W.heap.size d hd e0 e1 e2 e3 e4)
  clear hd
  obtain ⟨f, hf⟩ : ∃ f : Cmd → Bool, (fun c => clashP c d) = f := ⟨_, rfl⟩
  rw [hf] at HR ⊢
  clear hf
  obtain ⟨p', fk', fv', tk', tv'⟩ := d
  unfold cmdV
  simp only at HR HB ⊢
  go_enter Try.func59, Try.ntmps59
  go_wp2
  go_ret
  exact ⟨_, rfl, HR.out, HB.out⟩

set_option maxHeartbeats 1000000 in
set_option maxRecDepth 100000 in
theorem isIn1_c (W0 : World) (B : Nat) (a : Option Addr) (len cap : Nat) (cs : List Cmd) (hl : len ≤ 2097152) (hN : CmdsAt W0 a len cs) (h0 : W0.cell? ⟨B, 0, none⟩ = some (.slice a len cap)) :
    RuleAt W0 (.func (.func 98) #[] #[.pointer (some ⟨B, 0, none⟩)]) (fun c => hasC cs c) := by
  refine ⟨_, _, rfl, enters_of Try.func98 (by kernel_rfl) rfl, fun c W hc hW => ?_⟩
  show Calls Try.prog 98 #[cmdV c, .pointer (some ⟨B, 0, none⟩)] W (BoolPost (hasC cs c) W)
  have HM := Lib.hid (fun W' (hb : Below W.heap.size W W') => contains_c a len cap cs c hl W' ((hN.keep hW).keep hb))
  have HB := Lib.hid (below_box W (.cells #[.string c.p, .int .i64 c.fk, .int .i64 c.fv, .int .i64 c.tk, .int .i64 c.tv] 26))
  have e0 := cell_kept HB.out (cell_kept hW h0)
  clear h0 hc hW hN hl
  obtain ⟨mm, hmm⟩ : ∃ mm, hasC cs c = mm := ⟨_, rfl⟩
  rw [hmm] at HM ⊢
  clear hmm
  obtain ⟨p, fk, fv, tk, tv⟩ := c
  unfold cmdV at HM ⊢
  simp only at HM HB e0 ⊢
  go_enter Try.func98, Try.ntmps98
  go_wp2_with fail
  refine (HM.out _ HB.out).mono ?_
  rintro e W1 ⟨rfl, hb1⟩
  have B1 := Lib.hid (below_next HB.out hb1)
  clear hb1 e0
  go_wp2
  go_ret
  exact ⟨rfl, B1.out⟩

set_option maxHeartbeats 1000000 in
set_option maxRecDepth 100000 in
theorem isIn_c (a : Option Addr) (len cap : Nat) (cs : List Cmd) (hl : len ≤ 2097152) (W : World) (hN : CmdsAt W a len cs) : Calls Try.prog 72 #[.slice a len cap] W (RulePost (fun c => hasC cs c) W) := by
  have HB := Lib.hid (below_box W (.cells #[.slice a len cap] 38))
  have HR := Lib.hid (isIn1_c _ W.heap.size a len cap cs hl (hN.keep HB.out) (one_cell W _ _))
  clear hN hl
  go_enter Try.func72, Try.ntmps72
  go_wp2
  go_ret
  exact ⟨_, rfl, HR.out, HB.out⟩

set_option maxHeartbeats 2000000 in
set_option maxRecDepth 100000 in
theorem clashesIn1_c (W0 : World) (B : Nat) (a : Option Addr) (len cap : Nat) (cs : List Cmd) (hl : len ≤ 2097152) (hs : ShortC 2097152 cs) (hN : CmdsAt W0 a len cs) (h0 : W0.cell? ⟨B, 0, none⟩ = some (.slice a len cap)) :
    RuleAt W0 (.func (.func 100) #[] #[.pointer (some ⟨B, 0, none⟩)]) (fun c => cs.any (fun d => clashP d c)) := by
  refine ⟨_, _, rfl, enters_of Try.func100 (by kernel_rfl) rfl, fun c W hc hW => ?_⟩
  show Calls Try.prog 100 #[cmdV c, .pointer (some ⟨B, 0, none⟩)] W (BoolPost (cs.any (fun d => clashP d c)) W)
  obtain ⟨f, hf⟩ : ∃ f : Cmd → Bool, (fun d => clashP d c) = f := ⟨_, rfl⟩
  have HM := Lib.hid (fun w => show Calls Try.prog 59 #[cmdV c] w (RulePost f w) by rw [← hf]; exact clashesWith_c c hc w)
  have HF := Lib.hid (fun v W' (hb : Below W.heap.size W W') (hR : RuleAt W' v f) => containsFunc_c a len cap cs v f hl hs W' ((hN.keep hW).keep hb) hR)
  have HB := Lib.hid (below_box W (.cells #[.string c.p, .int .i64 c.fk, .int .i64 c.fv, .int .i64 c.tk, .int .i64 c.tv] 26))
  have e0 := cell_kept HB.out (cell_kept hW h0)
  obtain ⟨c0, c1, c2, c3, c4, -⟩ := five_new W (.string c.p) (.int .i64 c.fk) (.int .i64 c.fv) (.int .i64 c.tk) (.int .i64 c.tv) 26
  obtain ⟨mm, hmm⟩ : ∃ mm, cs.any f = mm := ⟨_, rfl⟩
  rw [hf, hmm]
  rw [hmm] at HF
  clear h0 hc hW hN hl hs hf hmm
  obtain ⟨p, fk, fv, tk, tv⟩ := c
  unfold cmdV at HM ⊢
  simp only at HM HB e0 c0 c1 c2 c3 c4 ⊢
  go_enter Try.func100, Try.ntmps100
  obtain ⟨W1, hW1⟩ : ∃ X, X = W.alloc (.cells #[.string p, .int .i64 fk, .int .i64 fv, .int .i64 tk, .int .i64 tv] 26) := ⟨_, rfl⟩
  rw [← hW1] at HB e0 c0 c1 c2 c3 c4
  subst hW1
  go_upto_region 1 with (fail)
  obtain ⟨W1, hW1⟩ : ∃ X, X = W.alloc (.cells #[.string p, .int .i64 fk, .int .i64 fv, .int .i64 tk, .int .i64 tv] 26) := ⟨_, rfl⟩
  rw [← hW1] at HB e0 c0 c1 c2 c3 c4
  have HS0 := Lib.hid (show W1.drew.cell? ⟨B, 0, none⟩ = some (.slice a len cap) ∧ W1.drew.cell? ⟨W.heap.size, 0, none⟩ = some (.string p) ∧ W1.drew.cell? ⟨W.heap.size, 1, none⟩ = some (.int .i64 fk) ∧ W1.drew.cell? ⟨W.heap.size, 2, none⟩ = some (.int .i64 fv) ∧ W1.drew.cell? ⟨W.heap.size, 3, none⟩ = some (.int .i64 tk) ∧ W1.drew.cell? ⟨W.heap.size, 4, none⟩ = some (.int .i64 tv) ∧ Below W.heap.size W W1.drew from ⟨e0, c0, c1, c2, c3, c4, HB.out.drew⟩)
  have HKP := Lib.hid (fun (u1 u2 : World) (h : u1.cell? ⟨B, 0, none⟩ = some (.slice a len cap) ∧ u1.cell? ⟨W.heap.size, 0, none⟩ = some (.string p) ∧ u1.cell? ⟨W.heap.size, 1, none⟩ = some (.int .i64 fk) ∧ u1.cell? ⟨W.heap.size, 2, none⟩ = some (.int .i64 fv) ∧ u1.cell? ⟨W.heap.size, 3, none⟩ = some (.int .i64 tk) ∧ u1.cell? ⟨W.heap.size, 4, none⟩ = some (.int .i64 tv) ∧ Below W.heap.size W u1) (hb : Below u1.heap.size u1 u2) => show u2.cell? ⟨B, 0, none⟩ = some (.slice a len cap) ∧ u2.cell? ⟨W.heap.size, 0, none⟩ = some (.string p) ∧ u2.cell? ⟨W.heap.size, 1, none⟩ = some (.int .i64 fk) ∧ u2.cell? ⟨W.heap.size, 2, none⟩ = some (.int .i64 fv) ∧ u2.cell? ⟨W.heap.size, 3, none⟩ = some (.int .i64 tk) ∧ u2.cell? ⟨W.heap.size, 4, none⟩ = some (.int .i64 tv) ∧ Below W.heap.size W u2 from ⟨cell_kept hb h.1, cell_kept hb h.2.1, cell_kept hb h.2.2.1, cell_kept hb h.2.2.2.1, cell_kept hb h.2.2.2.2.1, cell_kept hb h.2.2.2.2.2.1, below_next h.2.2.2.2.2.2 hb⟩)
  subst hW1
  clear e0 c0 c1 c2 c3 c4
  go_region_held3 (fun w' => w'.cell? ⟨B, 0, none⟩ = some (.slice a len cap) ∧ w'.cell? ⟨W.heap.size, 0, none⟩ = some (.string p) ∧ w'.cell? ⟨W.heap.size, 1, none⟩ = some (.int .i64 fk) ∧ w'.cell? ⟨W.heap.size, 2, none⟩ = some (.int .i64 fv) ∧ w'.cell? ⟨W.heap.size, 3, none⟩ = some (.int .i64 tk) ∧ w'.cell? ⟨W.heap.size, 4, none⟩ = some (.int .i64 tv) ∧ Below W.heap.size W w')
    (first | exact HS0.out | exact HS7.out | exact HKP.out _ _ HS7.out hb8)
    (first
      | (go_at_call 59; (with_reducible refine (HM.out _).mono ?_); rintro e W7 ⟨v, rfl, hr7, hb7⟩; have HS7 := Lib.hid (HKP.out _ _ HS0.out hb7); have HR7 := Lib.hid hr7; obtain ⟨g, lb, rfl, -⟩ := hr7; clear hb7)
      | (go_at_call 101; (with_reducible refine (HF.out _ _ HS7.out.2.2.2.2.2.2 HR7.out).mono ?_); rintro e W8 ⟨rfl, hb8⟩))
  all_goals
    rename_i hS
    have HB9 := Lib.hid hS.2.2.2.2.2.2
    clear hS
    go_wp2
    go_ret
    exact ⟨rfl, HB9.out⟩

set_option maxHeartbeats 1000000 in
set_option maxRecDepth 100000 in
theorem clashesIn_c (a : Option Addr) (len cap : Nat) (cs : List Cmd) (hl : len ≤ 2097152) (hs : ShortC 2097152 cs) (W : World) (hN : CmdsAt W a len cs) : Calls Try.prog 73 #[.slice a len cap] W (RulePost (fun c => cs.any (fun d => clashP d c)) W) := by
  have HB := Lib.hid (below_box W (.cells #[.slice a len cap] 38))
  have HR := Lib.hid (clashesIn1_c _ W.heap.size a len cap cs hl hs (hN.keep HB.out) (one_cell W _ _))
  obtain ⟨f, hf⟩ : ∃ f : Cmd → Bool, (fun c => cs.any (fun d => clashP d c)) = f := ⟨_, rfl⟩
  rw [hf] at HR ⊢
  clear hN hl hs hf
  go_enter Try.func73, Try.ntmps73
  go_wp2
  go_ret
  exact ⟨_, rfl, HR.out, HB.out⟩

set_option maxHeartbeats 1000000 in
set_option maxRecDepth 100000 in
theorem not1_c (W0 : World) (B : Nat) (v : Value) (f : Cmd → Bool) (hR : RuleAt W0 v f) (h0 : W0.cell? ⟨B, 0, none⟩ = some v) :
    RuleAt W0 (.func (.func 97) #[] #[.pointer (some ⟨B, 0, none⟩)]) (fun c => !f c) := by
  refine ⟨_, _, rfl, enters_of Try.func97 (by kernel_rfl) rfl, fun c W hc hW => ?_⟩
  show Calls Try.prog 97 #[cmdV c, .pointer (some ⟨B, 0, none⟩)] W (BoolPost (!f c) W)
  obtain ⟨g, lb, rfl, eg, hP⟩ := hR
  have HB := Lib.hid (below_box W (.cells #[.string c.p, .int .i64 c.fk, .int .i64 c.fv, .int .i64 c.tk, .int .i64 c.tv] 26))
  have HM := Lib.hid (fun W' (hb : Below W.heap.size W W') => hP c W' hc (below_next hW hb))
  have e0 := cell_kept HB.out (cell_kept hW h0)
  clear h0 hc hW hP
  obtain ⟨mm, hmm⟩ : ∃ mm, f c = mm := ⟨_, rfl⟩
  rw [hmm] at HM ⊢
  clear hmm
  obtain ⟨p, fk, fv, tk, tv⟩ := c
  unfold cmdV at HM ⊢
  simp only at HM HB e0 ⊢
  go_enter Try.func97, Try.ntmps97
  go_wp2_with (go_at_fn g; refine (HM.out _ HB.out).mono ?_; rintro e W1 ⟨rfl, hb1⟩; have B1 := Lib.hid (below_next HB.out hb1); clear hb1 e0)
  go_ret
  exact ⟨rfl, B1.out⟩

set_option maxHeartbeats 1000000 in
set_option maxRecDepth 100000 in
theorem not_c (v : Value) (f : Cmd → Bool) (W : World) (hR : RuleAt W v f) : Calls Try.prog 71 #[v] W (RulePost (fun c => !f c) W) := by
  have HB := Lib.hid (below_box W (.cells #[v] 79))
  have HR := Lib.hid (not1_c _ W.heap.size v f (hR.keep HB.out) (one_cell W _ _))
  obtain ⟨g, lb, rfl, -⟩ := hR
  obtain ⟨f2, hf⟩ : ∃ f2 : Cmd → Bool, (fun c => !f c) = f2 := ⟨_, rfl⟩
  rw [hf] at HR ⊢
  clear hf
  go_enter Try.func71, Try.ntmps71
  go_wp2
  go_ret
  exact ⟨_, rfl, HR.out, HB.out⟩

set_option maxHeartbeats 2000000 in
set_option maxRecDepth 100000 in
theorem both1_c (W0 : World) (B1 B2 : Nat) (v1 v2 : Value) (f1 f2 : Cmd → Bool) (hR1 : RuleAt W0 v1 f1) (hR2 : RuleAt W0 v2 f2) (h1 : W0.cell? ⟨B1, 0, none⟩ = some v1) (h2 : W0.cell? ⟨B2, 0, none⟩ = some v2) :
    RuleAt W0 (.func (.func 96) #[] #[.pointer (some ⟨B1, 0, none⟩), .pointer (some ⟨B2, 0, none⟩)]) (fun c => f1 c && f2 c) := by
  refine ⟨_, _, rfl, enters_of Try.func96 (by kernel_rfl) rfl, fun c W hc hW => ?_⟩
  show Calls Try.prog 96 #[cmdV c, .pointer (some ⟨B1, 0, none⟩), .pointer (some ⟨B2, 0, none⟩)] W (BoolPost (f1 c && f2 c) W)
  obtain ⟨g1, lb1, rfl, eg1, hP1⟩ := hR1
  obtain ⟨g2, lb2, rfl, eg2, hP2⟩ := hR2
  have HB := Lib.hid (below_box W (.cells #[.string c.p, .int .i64 c.fk, .int .i64 c.fv, .int .i64 c.tk, .int .i64 c.tv] 26))
  have HM1 := Lib.hid (fun W' (hb : Below W.heap.size W W') => hP1 c W' hc (below_next hW hb))
  have HM2 := Lib.hid (fun W' (hb : Below W.heap.size W W') => hP2 c W' hc (below_next hW hb))
  have e1 := cell_kept HB.out (cell_kept hW h1)
  have e2 := cell_kept HB.out (cell_kept hW h2)
  have E2 := Lib.hid e2
  clear h1 h2 hc hW hP1 hP2
  have HC := Lib.hid (five_new W (.string c.p) (.int .i64 c.fk) (.int .i64 c.fv) (.int .i64 c.tk) (.int .i64 c.tv) 26)
  obtain ⟨m1, hm1⟩ : ∃ mm, f1 c = mm := ⟨_, rfl⟩
  obtain ⟨m2, hm2⟩ : ∃ mm, f2 c = mm := ⟨_, rfl⟩
  rw [hm1] at HM1 ⊢
  rw [hm2] at HM2 ⊢
  clear hm1 hm2
  obtain ⟨p, fk, fv, tk, tv⟩ := c
  unfold cmdV at HM1 HM2 ⊢
  simp only at HM1 HM2 HB HC e1 e2 E2 ⊢
  go_enter Try.func96, Try.ntmps96
  cases m1 with
  | false =>
    go_wp2_with (go_at_fn g1; refine (HM1.out _ HB.out).mono ?_; rintro e W1 ⟨rfl, hb1⟩; have B1' := Lib.hid (below_next HB.out hb1); clear hb1 e1 e2)
    go_ret
    exact ⟨rfl, B1'.out⟩
  | true =>
    go_wp2_with (first
      | (go_at_fn g1; refine (HM1.out _ HB.out).mono ?_; rintro e W1 ⟨rfl, hb1⟩; have B1' := Lib.hid (below_next HB.out hb1); have e3 := cell_kept hb1 E2.out; obtain ⟨c0, c1, c2, c3, c4, -⟩ := HC.out.below hb1; clear hb1 e1 e2)
      | (go_at_fn g2; refine (HM2.out _ B1'.out).mono ?_; rintro e W2 ⟨rfl, hb2⟩; have B2' := Lib.hid (below_next B1'.out hb2); clear hb2 e3 c0 c1 c2 c3 c4))
    go_ret
    exact ⟨rfl, B2'.out⟩

set_option maxHeartbeats 1000000 in
set_option maxRecDepth 100000 in
theorem both_c (v1 v2 : Value) (f1 f2 : Cmd → Bool) (W : World) (hR1 : RuleAt W v1 f1) (hR2 : RuleAt W v2 f2) : Calls Try.prog 70 #[v1, v2] W (RulePost (fun c => f1 c && f2 c) W) := by
  have HA := below_box W (.cells #[v1] 79)
  have HA2 := below_box (W.alloc (.cells #[v1] 79)) (.cells #[v2] 79)
  have HB := Lib.hid (below_next HA HA2)
  have HR := Lib.hid (both1_c _ W.heap.size (W.heap.size + 1) v1 v2 f1 f2 (hR1.keep HB.out) (hR2.keep HB.out) (cell_kept HA2 (one_cell W _ _)) (by have := one_cell (W.alloc (.cells #[v1] 79)) v2 79; rwa [World.size_alloc] at this))
  clear HA HA2
  obtain ⟨g1, lb1, rfl, -⟩ := hR1
  obtain ⟨g2, lb2, rfl, -⟩ := hR2
  obtain ⟨f3, hf⟩ : ∃ f3 : Cmd → Bool, (fun c => f1 c && f2 c) = f3 := ⟨_, rfl⟩
  rw [hf] at HR ⊢
  clear hf
  go_enter Try.func70, Try.ntmps70
  go_wp2
  go_ret
  exact ⟨_, rfl, HR.out, HB.out⟩

set_option maxHeartbeats 4000000 in
set_option maxRecDepth 100000 in
theorem ruleOf_c (v : Value) (f : Cmd → Bool) (a : Option Addr) (len cap : Nat) (cs : List Cmd) (hl : len ≤ 2000000) (hs : ShortC 2097152 cs) (W : World) (hN : CmdsAt W a len cs) (hR : RuleAt W v f) :
    Calls Try.prog 74 #[v, .slice a len cap] W (CmdsPost (cs.filter f) W) := by
  obtain ⟨g, lb, rfl, eg, hP⟩ := hR
  have HN := Lib.hid hN
  have HE := Lib.hid hN.1
  have HS := Lib.hid hs
  have HP := Lib.hid hP
  have hl' : (len : Int) ≤ 2000000 := by omega
  clear hN hs hP
  go_enter Try.func74, Try.ntmps74
  go_wp2
  go_loopw [5, 7, 10] (fun o _ k wr => PickRel true f cs W o k wr) (fun _ _ k _ => len - (intOf k).toNat)
  case atStart => exact ⟨0, rfl, Nat.zero_le _, .inr rfl, World.ownsRow_nil _ _ _ _, Below.refl _ _⟩
  case round =>
    obtain ⟨n, rfl, hn, HZ, hown, HB⟩ := hrel
    have HO := Lib.hid hown
    clear hown
    by_cases hlt : n < len
    · have hlt' : (n : Int) < len := by omega
      have hw1 : IntKind.i64.wrap ((n : Int) + 1) = (n : Int) + 1 := IntWalk.i64_in _ (by omega)
      have HLT := Lib.hid hlt
      obtain ⟨b, off, d, rfl, hd, d0, d1, d2, d3, d4⟩ := (HN.out.keep HB.out).node hlt
      obtain ⟨q, hq⟩ : ∃ q, f d = q := ⟨_, rfl⟩
      have HC := Lib.hid (fun w (hb : Below W.heap.size W w) => show Calls Try.prog g (#[cmdV d] ++ lb) w (BoolPost q w) by rw [← hq]; exact HP.out d w (HS.out.at hd) hb)
      have HD := Lib.hid (And.intro hd hq)
      have HF := Lib.hid (five_new wr (.string d.p) (.int .i64 d.fk) (.int .i64 d.fv) (.int .i64 d.tk) (.int .i64 d.tv) 26)
      have HBX := Lib.hid (below_box wr (.cells #[.string d.p, .int .i64 d.fk, .int .i64 d.fv, .int .i64 d.tk, .int .i64 d.tv] 26))
      obtain ⟨p, fk, fv, tk, tv⟩ := d
      unfold cmdV at HC
      simp only at d0 d1 d2 d3 d4 HC HF HBX
      clear hn hlt hd hq
      go_wp2_with fail
      refine (HC.out _ (below_next HB.out HBX.out)).mono ?_
      rintro e W1 ⟨rfl, hb1⟩
      have B1 := Lib.hid (below_next (below_next HB.out HBX.out) hb1)
      have HO1 := Lib.hid (own_below (HO.out.alloc _) hb1)
      obtain ⟨f0, f1, f2, f3, f4, -⟩ := HF.out.below hb1
      clear hb1 d0 d1 d2 d3 d4
      cases q
      · have ho9 := HO1.out
        rw [← pick_out HD.out.1 HD.out.2] at ho9
        go_wp2
        go_roundw
        case rel => exact ⟨n + 1, by go_num, by have := HLT.out; have := HE.out; omega, .inr rfl, ho9, B1⟩
        case measure => have := HLT.out; simp [intOf]; omega
      · go_wp2_with (at_builtin; refine wpList_append_cmds rfl _ _ rfl W.heap.size _ ((cs.take n).filter f) rfl (HO1.out.alloc _) _ _ _ [(⟨p, fk, fv, tk, tv⟩ : Cmd)] rfl (cmds_lit _ (⟨p, fk, fv, tk, tv⟩ : Cmd)) (by have h1 := HLT.out; have h2 := pick_len f cs n; simp only [List.length_singleton]; omega) (by have := B1.out.size; simp; omega) ?_; intro v4 w4 ho4 hg4; have HB9 := Lib.hid ((B1.out.alloc B1.out.size _).grown hg4 (by have := B1.out.size; simp; omega) (fun k e => (HO1.out.lt k e).1)); clear hg4)
        rw [← pick_in HD.out.1 HD.out.2] at ho4
        go_roundw
        case rel => exact ⟨n + 1, by go_num, by have := HLT.out; have := HE.out; omega, .inr rfl, ho4, HB9⟩
        case measure => have := HLT.out; simp [intOf]; omega
    · have hge : (len : Int) ≤ n := by omega
      have HX := Lib.hid (show (cs.take n).filter f = cs.filter f by rw [List.take_of_length_le (by have := HE.out; omega)])
      clear hn hlt
      go_wp2
      go_ret
      rw [HX.out] at HO
      exact ⟨⟨_, rfl, HO.out⟩, HB.out⟩

end Go.Proofs.Ytdkpabnpobpdhaa

/-
  LISTS OF CONFLICTS: flat cells, two for each; append; a list that a test compares.
-/
namespace Go.Proofs.Ytdkpabnpobpdhaa
open Go.RowKit
set_option linter.unusedVariables false

theorem rc_first : (0 : Nat) ≤ 0 := Nat.le_refl 0

abbrev Pr2 := Nat × Nat
def cells2 (x : Pr2) : List Value := [.int .i64 (x.1 : Nat), .int .i64 (x.2 : Nat)]
def flatX (xs : List Pr2) : List Value := xs.flatMap cells2
theorem flatX_append (a b : List Pr2) : flatX (a ++ b) = flatX a ++ flatX b := by unfold flatX; rw [List.flatMap_append]
theorem flatX_length (xs : List Pr2) : (flatX xs).length = xs.length * 2 := by
  induction xs with
  | nil => rfl
  | cons x r ih =>
    show (cells2 x ++ flatX r).length = _
    rw [List.length_append, ih, List.length_cons]
    show 2 + r.length * 2 = _
    omega
theorem flatX_cell1 (xs : List Pr2) : ∀ u ∈ flatX xs, u.oneCell' = true := by
  intro u hu
  unfold flatX at hu
  obtain ⟨x, _, hx⟩ := List.mem_flatMap.1 hu
  unfold cells2 at hx
  simp at hx
  rcases hx with rfl | rfl <;> rfl
theorem flatX_get : ∀ (xs : List Pr2) (i : Nat) (x : Pr2), xs[i]? = some x → (flatX xs)[i * 2]? = some (.int .i64 (x.1 : Nat)) ∧ (flatX xs)[i * 2 + 1]? = some (.int .i64 (x.2 : Nat))
  | [], i, x, h => by simp at h
  | y :: r, 0, x, h => by
    simp at h
    subst h
    exact ⟨rfl, rfl⟩
  | y :: r, i + 1, x, h => by
    obtain ⟨h1, h2⟩ := flatX_get r i x (by simpa using h)
    have e : flatX (y :: r) = .int .i64 (y.1 : Nat) :: .int .i64 (y.2 : Nat) :: flatX r := rfl
    rw [e, show (i + 1) * 2 = i * 2 + 1 + 1 by omega, show i * 2 + 1 + 1 + 1 = (i * 2 + 1) + 1 + 1 by omega]
    exact ⟨by rw [List.getElem?_cons_succ, List.getElem?_cons_succ]; exact h1, by rw [List.getElem?_cons_succ, List.getElem?_cons_succ]; exact h2⟩

/-- A list of conflicts, wherever it lies. -/
def ClashAt (W : World) (a : Option Addr) (len : Nat) (xs : List Pr2) : Prop :=
  xs.length = len ∧ (len = 0 ∨ ∃ b off, a = some ⟨b, off, none⟩ ∧ ∀ i x, xs[i]? = some x → W.cell? ⟨b, off + i * 2, none⟩ = some (.int .i64 (x.1 : Nat)) ∧ W.cell? ⟨b, off + i * 2 + 1, none⟩ = some (.int .i64 (x.2 : Nat)))
theorem ClashAt.keep {W W' : World} {a : Option Addr} {len : Nat} {xs : List Pr2} (h : ClashAt W a len xs) (hb : Below W.heap.size W W') : ClashAt W' a len xs := by
  obtain ⟨h1, h0 | ⟨b, off, ha, hc⟩⟩ := h
  · exact ⟨h1, .inl h0⟩
  · exact ⟨h1, .inr ⟨b, off, ha, fun i x hx => ⟨cell_kept hb (hc i x hx).1, cell_kept hb (hc i x hx).2⟩⟩⟩
theorem ClashAt.node {W : World} {a : Option Addr} {len : Nat} {xs : List Pr2} (h : ClashAt W a len xs) {i : Nat} (hi : i < len) :
    ∃ b off x, a = some ⟨b, off, none⟩ ∧ xs[i]? = some x ∧ W.cell? ⟨b, off + i * 2, none⟩ = some (.int .i64 (x.1 : Nat)) ∧ W.cell? ⟨b, off + i * 2 + 1, none⟩ = some (.int .i64 (x.2 : Nat)) := by
  obtain ⟨h1, h0 | ⟨b, off, ha, hc⟩⟩ := h
  · omega
  · obtain ⟨x, hx⟩ : ∃ x, xs[i]? = some x := ⟨_, List.getElem?_eq_getElem (by omega)⟩
    exact ⟨b, off, x, ha, hx, hc i x hx⟩
theorem clash_of_own {W : World} {base : Nat} {e : TypeId} {v : Value} {xs : List Pr2} (h : W.ownsRow base e 2 v xs.length (flatX xs)) : ∃ a cap, v = .slice a xs.length cap ∧ ClashAt W a xs.length xs := by
  rcases h.2 with ⟨rfl, h0⟩ | ⟨g, cap, cur, rfl, h1, h2, h3, h4, h5, h6⟩
  · exact ⟨none, 0, by rw [h0], rfl, .inl h0⟩
  · refine ⟨some ⟨g, 0, none⟩, cap, rfl, rfl, .inr ⟨g, 0, rfl, fun i x hx => ?_⟩⟩
    have hi := (List.getElem?_eq_some_iff.1 hx).1
    obtain ⟨f0, f1⟩ := flatX_get xs i x hx
    refine ⟨?_, ?_⟩
    · rw [Nat.zero_add, h.cellAt (i * 2) (by omega)]; exact f0
    · rw [Nat.zero_add, h.cellAt (i * 2 + 1) (by omega)]; exact f1

def ClashPost (xs : List Pr2) (W : World) (e : Ending) (w' : World) : Prop :=
  (∃ sl, e = .returned sl ∧ w'.ownsRow W.heap.size 46 2 sl xs.length (flatX xs)) ∧ Below W.heap.size W w'

theorem infoClash : (Try.prog.info? 46).map (fun i => (i.zero, i.size, i.bytes)) = some (some (.agg #[.int .i64 0, .int .i64 0]), 2, 16) := by kernel_rfl

theorem clash_lit (W : World) (x : Pr2) : ∀ j u, (flatX [x])[j]? = some u → (W.alloc (.cells #[.int .i64 (x.1 : Nat), .int .i64 (x.2 : Nat)] 46)).cell? ((⟨W.heap.size, 0, none⟩ : Addr).add j) = some u := by
  intro j u hj
  have e : flatX [x] = [.int .i64 (x.1 : Nat), .int .i64 (x.2 : Nat)] := rfl
  rw [e] at hj
  match j, hj with
  | 0, hj => simp at hj; subst hj; simp [Addr.add]
  | 1, hj => simp at hj; subst hj; simp [Addr.add]

/-- append(out, Clash{A: i, B: k}). -/
theorem wpList_append_clash {w : World} {ops : Array Oper} {rest : List Oper} {o : Oper} {a : Act} {Q : Exit → Act → World → Prop} (hgd : o.guard = none) (s x : Operand)
    (ho : o.op = .call { callee := .builtin .append, args := #[s, x], argTypes := #[41, 41] })
    (base : Nat) (v : Value) (acc : List Pr2) (hs : a.eval s = v) (hown : w.ownsRow base 46 2 v acc.length (flatX acc))
    (ad : Addr) (cap : Nat) (z : Pr2) (hx : a.eval x = .slice (some ad) 1 cap) (hi : ∀ j u, (flatX [z])[j]? = some u → w.cell? (ad.add j) = some u) (hlen : acc.length ≤ 2097152) (hb : base ≤ w.heap.size)
    (h : ∀ v3 w3, w3.ownsRow base 46 2 v3 (acc ++ [z]).length (flatX (acc ++ [z])) → w.grownBy w3 v.ownBlock → wpList Try.prog ops Q rest (a.put o.dst v3) w3) : wpList Try.prog ops Q (o :: rest) a w := by
  obtain ⟨i0, hi0, hz0, hz1, hz2⟩ := info_parts infoClash
  refine wpList_plain hgd fun K hK => ?_
  exact wp_append_own w s x 41 ho base 46 i0 (.agg #[.int .i64 0, .int .i64 0]) 2 16 Try.underlying41 hi0 hz0 hz1 hz2 rfl (by decide) v acc.length (flatX acc) hs hown ad 1 cap (flatX [z]) hx (by rw [flatX_length]; rfl) hi (flatX_cell1 _) (by unfold maxLen; omega) (by omega) hb fun v' w' h1 h2 _ => hK _ _ (h v' w' (by rw [flatX_append, List.length_append]; exact h1) h2)

end Go.Proofs.Ytdkpabnpobpdhaa

/-
  WALKS: conflicts of the model, fourth part: spec.ClashesOf.
-/
namespace Go.Proofs.Ytdkpabnpobpdhaa
open Go.RowKit
set_option linter.unusedVariables false

theorem rg_first : (0 : Nat) ≤ 0 := Nat.le_refl 0

theorem clash_end {cs ds : List Cmd} {n : Nat} {ok : Bool} (h : n = 0 ∨ ok = true) (k : ok = false ∨ cs.length ≤ n) : (if ok = true then rowsL ds cs 0 else []) = rowsL ds (cs.take n) 0 := by
  cases ok with
  | true =>
    rcases k with k | k
    · cases k
    · rw [if_pos rfl, List.take_of_length_le k]
  | false =>
    rcases h with h | h
    · rw [h]; rfl
    · cases h
theorem clash_bound {cs ds : List Cmd} {c : Cmd} {n m : Nat} (h1 : cs.length ≤ 1000) (h2 : ds.length ≤ 1000) : (rowsL ds (cs.take n) 0 ++ rowL c n (ds.take m) 0).length ≤ 2097151 := by
  rw [List.length_append]
  have k1 := rowsL_le ds (cs.take n) 0
  have k2 := rowL_le c n (ds.take m) 0
  have k3 : (cs.take n).length ≤ 1000 := by rw [List.length_take]; omega
  have k4 : (ds.take m).length ≤ 1000 := by rw [List.length_take]; omega
  have k5 : (cs.take n).length * ds.length ≤ 1000 * 1000 := Nat.mul_le_mul k3 h2
  omega

theorem ok_len {cs ds : List Cmd} (h : okL cs ds = true) : cs.length ≤ 1000 ∧ ds.length ≤ 1000 := by
  unfold okL at h
  rw [Bool.and_eq_true] at h
  have h1 := ((validL_iff cs).1 (canonV_iff.1 h.1).2.2).2
  have h2 := ((validL_iff ds).1 (canonV_iff.1 h.2).2.2).2
  omega

def ClashOut (ok : Bool) (cs ds : List Cmd) (W : World) (o i : Value) (wr : World) : Prop :=
  ∃ n : Nat, i = .int .i64 n ∧ n ≤ cs.length ∧ Hid (n = 0 ∨ ok = true) ∧ wr.ownsRow W.heap.size 46 2 o (rowsL ds (cs.take n) 0).length (flatX (rowsL ds (cs.take n) 0)) ∧ Hid (Below W.heap.size W wr)
def ClashIn (c : Cmd) (n : Nat) (cs ds : List Cmd) (W : World) (o k : Value) (wr : World) : Prop :=
  ∃ m : Nat, k = .int .i64 m ∧ m ≤ ds.length ∧ wr.ownsRow W.heap.size 46 2 o (rowsL ds (cs.take n) 0 ++ rowL c n (ds.take m) 0).length (flatX (rowsL ds (cs.take n) 0 ++ rowL c n (ds.take m) 0)) ∧ Hid (Below W.heap.size W wr)

set_option maxHeartbeats 4000000 in
set_option maxRecDepth 100000 in
theorem specClashes_c (a1 : Option Addr) (len1 cap1 : Nat) (cs : List Cmd) (a2 : Option Addr) (len2 cap2 : Nat) (ds : List Cmd) (hl1 : len1 ≤ 2000000) (hl2 : len2 ≤ 2000000) (hs1 : ShortC 2097152 cs) (hs2 : ShortC 2097152 ds) (W : World) (h1 : CmdsAt W a1 len1 cs) (h2 : CmdsAt W a2 len2 ds) :
    Calls Try.prog 22 #[.slice a1 len1 cap1, .slice a2 len2 cap2] W (ClashPost (clashesL cs ds) W) := by
  obtain ⟨ok, hok⟩ : ∃ x, okL cs ds = x := ⟨_, rfl⟩
  have HOK := Lib.hid (fun w (hb : Below W.heap.size W w) => show Calls Try.prog 60 #[.slice a1 len1 cap1, .slice a2 len2 cap2] w (BoolPost ok w) by rw [← hok]; exact specOk_c a1 len1 cap1 cs a2 len2 cap2 ds hl1 hl2 hs1 hs2 w (h1.keep hb) (h2.keep hb))
  have HMU := Lib.hid (fun c d w => specClash_c c d w)
  have HN1 := Lib.hid h1
  have HN2 := Lib.hid h2
  have HE := Lib.hid (show cs.length = len1 ∧ ds.length = len2 from ⟨h1.1, h2.1⟩)
  have HEB := Lib.hid (fun (h : ok = true) => ok_len (hok.trans h))
  have HR := Lib.hid (show clashesL cs ds = if ok = true then rowsL ds cs 0 else [] by unfold clashesL; rw [hok])
  have hl1' : (len1 : Int) ≤ 2000000 := by omega
  have hl2' : (len2 : Int) ≤ 2000000 := by omega
  clear hok h1 h2 hs1 hs2
  go_enter Try.func22, Try.ntmps22
  go_wp2
  go_loopw [5, 6, 7] (fun o i _ wr => ClashOut ok cs ds W o i wr) (fun _ i _ _ => len1 - (intOf i).toNat)
  case atStart => exact ⟨0, rfl, Nat.zero_le _, .inl rfl, World.ownsRow_lit (e := 46) (size := 2) W #[] 0 (Nat.le_refl _) (by simp [maxLen]) rfl, below_box _ _⟩
  case round =>
    obtain ⟨n, rfl, hn, HZ, hown, HB⟩ := hrel
    have HO := Lib.hid hown
    clear hown
    by_cases hlt : n < len1
    · have hlt' : (n : Int) < len1 := by omega
      have hw1 : IntKind.i64.wrap ((n : Int) + 1) = (n : Int) + 1 := IntWalk.i64_in _ (by omega)
      have HW := Lib.hid hw1
      have HLT := Lib.hid hlt
      obtain ⟨c, hc⟩ : ∃ c, cs[n]? = some c := ⟨_, List.getElem?_eq_getElem (by have := HE.out; omega)⟩
      have HC := Lib.hid hc
      clear hn hlt hc
      go_wp2_with fail
      refine (HOK.out _ HB.out).mono ?_
      rintro e W1 ⟨rfl, hb1⟩
      have HO1 := Lib.hid (own_below HO.out hb1)
      have HB1 := Lib.hid (below_next HB.out hb1)
      clear hb1
      cases ok with
      | false =>
        have HX := Lib.hid (HR.out.trans (clash_end HZ.out (.inl rfl)))
        go_wp2
        go_ret
        rw [HX.out]
        exact ⟨⟨_, rfl, HO1.out⟩, HB1.out⟩
      | true =>
        go_wp2_with fail
        go_loopw [5, 7] (fun o k wr => ClashIn c n cs ds W o k wr) (fun _ k _ => len2 - (intOf k).toNat)
        case atStart => exact ⟨0, rfl, Nat.zero_le _, by have := HO1.out; rwa [List.take_zero, show rowL c n [] 0 = [] from rfl, List.append_nil], HB1⟩
        case round =>
          obtain ⟨m, rfl, hm, hown2, HBI⟩ := hrel
          have HO2 := Lib.hid hown2
          clear hown2
          by_cases hmt : m < len2
          · have hmt' : (m : Int) < len2 := by omega
            have hwm : IntKind.i64.wrap ((m : Int) + 1) = (m : Int) + 1 := IntWalk.i64_in _ (by omega)
            have HMT := Lib.hid hmt
            obtain ⟨b, off, c2, rfl, hc2, d0, d1, d2, d3, d4⟩ := (HN1.out.keep HBI.out).node (i := n) HLT.out
            obtain ⟨b', off', d, rfl, hd, e0, e1, e2, e3, e4⟩ := (HN2.out.keep HBI.out).node (i := m) hmt
            obtain rfl := Option.some.inj (HC.out.symm.trans hc2)
            obtain ⟨mm, hmm⟩ : ∃ mm, clashC c d = mm := ⟨_, rfl⟩
            have HMC := Lib.hid (fun w => show Calls Try.prog 44 #[cmdV c, cmdV d] w (BoolPost mm w) by rw [← hmm]; exact HMU.out c d w)
            have HD := Lib.hid (And.intro hd hmm)
            have HXS := Lib.hid (clash_bound (cs := cs) (ds := ds) (c := c) (n := n) (m := m) (HEB.out (by first | rfl | trivial)).1 (HEB.out (by first | rfl | trivial)).2)
            have HRS := Lib.hid (show rowsL ds (cs.take n) 0 ++ rowL c n (ds.take (m + 1)) 0 = (rowsL ds (cs.take n) 0 ++ rowL c n (ds.take m) 0) ++ (if mm = true then [(n, m)] else []) by rw [row_take hd, hmm, List.append_assoc])
            obtain ⟨p, fk, fv, tk, tv⟩ := c
            obtain ⟨q, fk', fv', tk', tv'⟩ := d
            unfold cmdV at HMC
            simp only at d0 d1 d2 d3 d4 e0 e1 e2 e3 e4 HMC
            clear hm hmt hc2 hd hmm
            have HS0 := Lib.hid (show wr.drew.cell? ⟨b, off + n * 5, none⟩ = some (.string p) ∧ wr.drew.cell? ⟨b, off + n * 5 + 1, none⟩ = some (.int .i64 fk) ∧ wr.drew.cell? ⟨b, off + n * 5 + 2, none⟩ = some (.int .i64 fv) ∧ wr.drew.cell? ⟨b, off + n * 5 + 3, none⟩ = some (.int .i64 tk) ∧ wr.drew.cell? ⟨b, off + n * 5 + 4, none⟩ = some (.int .i64 tv) ∧ wr.drew.cell? ⟨b', off' + m * 5, none⟩ = some (.string q) ∧ wr.drew.cell? ⟨b', off' + m * 5 + 1, none⟩ = some (.int .i64 fk') ∧ wr.drew.cell? ⟨b', off' + m * 5 + 2, none⟩ = some (.int .i64 fv') ∧ wr.drew.cell? ⟨b', off' + m * 5 + 3, none⟩ = some (.int .i64 tk') ∧ wr.drew.cell? ⟨b', off' + m * 5 + 4, none⟩ = some (.int .i64 tv') ∧ Below wr.heap.size wr wr.drew from ⟨d0, d1, d2, d3, d4, e0, e1, e2, e3, e4, (Below.refl _ _).drew⟩)
            have HKP := Lib.hid (fun (u1 u2 : World) (h : u1.cell? ⟨b, off + n * 5, none⟩ = some (.string p) ∧ u1.cell? ⟨b, off + n * 5 + 1, none⟩ = some (.int .i64 fk) ∧ u1.cell? ⟨b, off + n * 5 + 2, none⟩ = some (.int .i64 fv) ∧ u1.cell? ⟨b, off + n * 5 + 3, none⟩ = some (.int .i64 tk) ∧ u1.cell? ⟨b, off + n * 5 + 4, none⟩ = some (.int .i64 tv) ∧ u1.cell? ⟨b', off' + m * 5, none⟩ = some (.string q) ∧ u1.cell? ⟨b', off' + m * 5 + 1, none⟩ = some (.int .i64 fk') ∧ u1.cell? ⟨b', off' + m * 5 + 2, none⟩ = some (.int .i64 fv') ∧ u1.cell? ⟨b', off' + m * 5 + 3, none⟩ = some (.int .i64 tk') ∧ u1.cell? ⟨b', off' + m * 5 + 4, none⟩ = some (.int .i64 tv') ∧ Below wr.heap.size wr u1) (hb : Below u1.heap.size u1 u2) => show u2.cell? ⟨b, off + n * 5, none⟩ = some (.string p) ∧ u2.cell? ⟨b, off + n * 5 + 1, none⟩ = some (.int .i64 fk) ∧ u2.cell? ⟨b, off + n * 5 + 2, none⟩ = some (.int .i64 fv) ∧ u2.cell? ⟨b, off + n * 5 + 3, none⟩ = some (.int .i64 tk) ∧ u2.cell? ⟨b, off + n * 5 + 4, none⟩ = some (.int .i64 tv) ∧ u2.cell? ⟨b', off' + m * 5, none⟩ = some (.string q) ∧ u2.cell? ⟨b', off' + m * 5 + 1, none⟩ = some (.int .i64 fk') ∧ u2.cell? ⟨b', off' + m * 5 + 2, none⟩ = some (.int .i64 fv') ∧ u2.cell? ⟨b', off' + m * 5 + 3, none⟩ = some (.int .i64 tk') ∧ u2.cell? ⟨b', off' + m * 5 + 4, none⟩ = some (.int .i64 tv') ∧ Below wr.heap.size wr u2 from ⟨cell_kept hb h.1, cell_kept hb h.2.1, cell_kept hb h.2.2.1, cell_kept hb h.2.2.2.1, cell_kept hb h.2.2.2.2.1, cell_kept hb h.2.2.2.2.2.1, cell_kept hb h.2.2.2.2.2.2.1, cell_kept hb h.2.2.2.2.2.2.2.1, cell_kept hb h.2.2.2.2.2.2.2.2.1, cell_kept hb h.2.2.2.2.2.2.2.2.2.1, below_next h.2.2.2.2.2.2.2.2.2.2 hb⟩)
            clear d0 d1 d2 d3 d4 e0 e1 e2 e3 e4
            go_upto_region 7 with (fail)
            go_region_held3 (fun w' => w'.cell? ⟨b, off + n * 5, none⟩ = some (.string p) ∧ w'.cell? ⟨b, off + n * 5 + 1, none⟩ = some (.int .i64 fk) ∧ w'.cell? ⟨b, off + n * 5 + 2, none⟩ = some (.int .i64 fv) ∧ w'.cell? ⟨b, off + n * 5 + 3, none⟩ = some (.int .i64 tk) ∧ w'.cell? ⟨b, off + n * 5 + 4, none⟩ = some (.int .i64 tv) ∧ w'.cell? ⟨b', off' + m * 5, none⟩ = some (.string q) ∧ w'.cell? ⟨b', off' + m * 5 + 1, none⟩ = some (.int .i64 fk') ∧ w'.cell? ⟨b', off' + m * 5 + 2, none⟩ = some (.int .i64 fv') ∧ w'.cell? ⟨b', off' + m * 5 + 3, none⟩ = some (.int .i64 tk') ∧ w'.cell? ⟨b', off' + m * 5 + 4, none⟩ = some (.int .i64 tv') ∧ Below wr.heap.size wr w')
              (first | exact HS0.out | exact HKP.out _ _ HS0.out hb7)
              (first | (go_at_call 44; (with_reducible refine (HMC.out _).mono ?_); rintro e W7 ⟨rfl, hb7⟩))
            rename_i hS
            have HO7 := Lib.hid (own_below HO2.out hS.2.2.2.2.2.2.2.2.2.2)
            have HB7 := Lib.hid (below_next HBI.out hS.2.2.2.2.2.2.2.2.2.2)
            clear hS
            cases mm with
            | true =>
              go_wp2_with (at_builtin; refine wpList_append_clash rfl _ _ rfl W.heap.size _ _ rfl (HO7.out.alloc _) _ _ (n, m) rfl (clash_lit _ (n, m)) (by have := HXS.out; omega) (by have := HB7.out.size; simp; omega) ?_; intro v4 w4 ho4 hg4; have HB9 := Lib.hid ((HB7.out.alloc HB7.out.size _).grown hg4 (by have := HB7.out.size; simp; omega) (fun k e => (HO7.out.lt k e).1)); clear hg4)
              go_roundw
              case rel => exact ⟨m + 1, by go_num, by have := HMT.out; have := HE.out; omega, by rw [HRS.out, if_pos rfl]; exact ho4, HB9⟩
              case measure => have := HMT.out; simp [intOf]; omega
            | false =>
              have HRS2 := Lib.hid (HRS.out.trans (by rw [if_neg Bool.false_ne_true, List.append_nil]))
              go_wp2
              go_roundw
              case rel => exact ⟨m + 1, by go_num, by have := HMT.out; have := HE.out; omega, by rw [HRS2.out]; exact HO7.out, HB7⟩
              case measure => have := HMT.out; simp [intOf]; omega
          · have hge : (len2 : Int) ≤ m := by omega
            have HL := Lib.hid (show rowsL ds (cs.take (n + 1)) 0 = rowsL ds (cs.take n) 0 ++ rowL c n (ds.take m) 0 by rw [rows_take HC.out, show ds.take m = ds from List.take_of_length_le (by have := HE.out; omega)])
            clear hm hmt
            have hw1 := HW.out
            go_wp2
            go_roundw
            case rel => exact ⟨n + 1, by go_num, by have := HLT.out; have := HE.out; omega, .inr rfl, by rw [HL.out]; exact HO2.out, HBI⟩
            case measure => have := HLT.out; simp [intOf]; omega
    · have hge : (len1 : Int) ≤ n := by omega
      have HX := Lib.hid (HR.out.trans (clash_end HZ.out (.inr (by have := HE.out; omega))))
      clear hn hlt
      go_wp2
      go_ret
      rw [HX.out]
      exact ⟨⟨_, rfl, HO.out⟩, HB.out⟩

end Go.Proofs.Ytdkpabnpobpdhaa

/-
  WALKS: the program's conflicts, second part: impl.SafeOf, AgreedOf, LeftOf, ClashesOf.
-/
namespace Go.Proofs.Ytdkpabnpobpdhaa
open Go.RowKit
set_option linter.unusedVariables false

theorem rm_first : (0 : Nat) ≤ 0 := Nat.le_refl 0

theorem ok_valid {cs ds : List Cmd} (h : okL cs ds = true) : (∀ c ∈ cs, validC c = true) ∧ (∀ d ∈ ds, validC d = true) := by
  unfold okL at h
  rw [Bool.and_eq_true] at h
  exact ⟨((validL_iff cs).1 (canonV_iff.1 h.1).2.2).1, ((validL_iff ds).1 (canonV_iff.1 h.2).2.2).1⟩
theorem clash_p {c d : Cmd} (hc : validC c = true) (hd : validC d = true) : clashP c d = clashC c d := by unfold clashP; rw [hc, hd]; rfl
theorem any_congr {f g : Cmd → Bool} {cs : List Cmd} (h : ∀ c ∈ cs, f c = g c) : cs.any f = cs.any g := by
  rw [Bool.eq_iff_iff, List.any_eq_true, List.any_eq_true]
  exact ⟨fun ⟨c, hc, hf⟩ => ⟨c, hc, (h c hc) ▸ hf⟩, fun ⟨c, hc, hf⟩ => ⟨c, hc, (h c hc).symm ▸ hf⟩⟩
theorem some_p {cs : List Cmd} {d : Cmd} (h : ∀ c ∈ cs, validC c = true) (hd : validC d = true) : cs.any (fun c => clashP c d) = someC cs d :=
  any_congr (fun c hc => clash_p (h c hc) hd)
theorem safe_rule {cs ds : List Cmd} (h : okL cs ds = true) : ds.filter (fun c => !hasC cs c && !cs.any (fun d => clashP d c)) = safeL cs ds := by
  unfold safeL
  rw [if_pos h]
  refine List.filter_congr fun d hd => ?_
  rw [some_p (ok_valid h).1 ((ok_valid h).2 d hd), Bool.and_comm]
theorem agreed_rule {cs ds : List Cmd} (h : okL cs ds = true) : ds.filter (fun c => hasC cs c && !cs.any (fun d => clashP d c)) = agreedL cs ds := by
  unfold agreedL
  rw [if_pos h]
  refine List.filter_congr fun d hd => ?_
  rw [some_p (ok_valid h).1 ((ok_valid h).2 d hd)]
theorem left_rule {cs ds : List Cmd} (h : okL cs ds = true) : cs.filter (fun c => ds.any (fun d => clashP d c)) = leftL cs ds := by
  unfold leftL
  rw [if_pos h]
  exact List.filter_congr fun c hc => some_p (ok_valid h).2 ((ok_valid h).1 c hc)
theorem bad_nil {cs ds : List Cmd} (h : okL cs ds = false) : safeL cs ds = [] ∧ agreedL cs ds = [] ∧ leftL cs ds = [] ∧ clashesL cs ds = [] := by
  unfold safeL agreedL leftL clashesL
  rw [h]
  exact ⟨rfl, rfl, rfl, rfl⟩
/-- The row of a command: where the program's rule says yes. -/
theorem row_rule {f : Cmd → Bool} {c : Cmd} : ∀ (ds : List Cmd), (∀ d ∈ ds, f d = clashC c d) → ∀ (m : Nat) (d : Cmd), ds[m]? = some d → f d = clashC c d := fun ds h m d hd => h d (List.mem_of_getElem? hd)

set_option maxHeartbeats 4000000 in
set_option maxRecDepth 100000 in
theorem implSafe_c (a1 : Option Addr) (len1 cap1 : Nat) (cs : List Cmd) (a2 : Option Addr) (len2 cap2 : Nat) (ds : List Cmd) (hl1 : len1 ≤ 2000000) (hl2 : len2 ≤ 2000000) (hs1 : ShortC 2097152 cs) (hs2 : ShortC 2097152 ds) (W : World) (h1 : CmdsAt W a1 len1 cs) (h2 : CmdsAt W a2 len2 ds) :
    Calls Try.prog 35 #[.slice a1 len1 cap1, .slice a2 len2 cap2] W (CmdsPost (safeL cs ds) W) := by
  obtain ⟨ok, hok⟩ : ∃ x, okL cs ds = x := ⟨_, rfl⟩
  have HOK := Lib.hid (show Calls Try.prog 58 #[.slice a1 len1 cap1, .slice a2 len2 cap2] W (BoolPost ok W) by rw [← hok]; exact implOk_c a1 len1 cap1 cs a2 len2 cap2 ds hl1 hl2 hs1 hs2 W h1 h2)
  have HBAD := Lib.hid (fun (h : ok = false) => bad_nil (hok.trans h))
  have HRU := Lib.hid (fun (h : ok = true) => safe_rule (hok.trans h))
  have HN1 := Lib.hid h1
  have HN2 := Lib.hid h2
  have HS1 := Lib.hid hs1
  have HS2 := Lib.hid hs2
  have HL := Lib.hid (And.intro hl1 hl2)
  clear hok h1 h2 hs1 hs2 hl1 hl2
  go_enter Try.func35, Try.ntmps35
  go_wp2_with fail
  refine HOK.out.mono ?_
  rintro e W1 ⟨rfl, hb1⟩
  have B1 := Lib.hid hb1
  clear hb1
  cases ok with
  | false =>
    have HX := Lib.hid (HBAD.out rfl).1
    go_wp2
    go_ret
    exact ⟨⟨_, rfl, by rw [HX.out]; exact World.ownsRow_nil _ _ _ _⟩, B1.out⟩
  | true =>
    have HX := Lib.hid (HRU.out rfl)
    go_wp2_with fail
    refine (isIn_c a1 len1 cap1 _ (by have := HL.out; omega) _ (HN1.out.keep B1.out)).mono ?_
    rintro e W2 ⟨v2, rfl, hr, hb⟩
    have B2 := Lib.hid (below_next B1.out hb)
    have R2 := Lib.hid hr
    clear hr hb
    go_wp2_with fail
    refine (not_c _ _ _ R2.out).mono ?_
    rintro e W3 ⟨v3, rfl, hr, hb⟩
    have B3 := Lib.hid (below_next B2.out hb)
    have R3 := Lib.hid hr
    replace R2 := Lib.hid (R2.out.keep hb)
    clear hr hb
    go_wp2_with fail
    refine (clashesIn_c a1 len1 cap1 _ (by have := HL.out; omega) HS1.out _ (HN1.out.keep B3.out)).mono ?_
    rintro e W4 ⟨v4, rfl, hr, hb⟩
    have B4 := Lib.hid (below_next B3.out hb)
    have R4 := Lib.hid hr
    replace R2 := Lib.hid (R2.out.keep hb)
    replace R3 := Lib.hid (R3.out.keep hb)
    clear hr hb
    go_wp2_with fail
    refine (not_c _ _ _ R4.out).mono ?_
    rintro e W5 ⟨v5, rfl, hr, hb⟩
    have B5 := Lib.hid (below_next B4.out hb)
    have R5 := Lib.hid hr
    replace R2 := Lib.hid (R2.out.keep hb)
    replace R3 := Lib.hid (R3.out.keep hb)
    replace R4 := Lib.hid (R4.out.keep hb)
    clear hr hb
    go_wp2_with fail
    refine (both_c _ _ _ _ _ R3.out R5.out).mono ?_
    rintro e W6 ⟨v6, rfl, hr, hb⟩
    have B6 := Lib.hid (below_next B5.out hb)
    have R6 := Lib.hid hr
    replace R2 := Lib.hid (R2.out.keep hb)
    replace R3 := Lib.hid (R3.out.keep hb)
    replace R4 := Lib.hid (R4.out.keep hb)
    replace R5 := Lib.hid (R5.out.keep hb)
    clear hr hb
    go_wp2_with fail
    refine (ruleOf_c _ _ a2 len2 cap2 _ (by have := HL.out; omega) HS2.out _ (HN2.out.keep B6.out) R6.out).mono ?_
    rintro e W7 ⟨⟨sl, rfl, ho⟩, hb⟩
    have B7 := Lib.hid (below_next B6.out hb)
    have HO := Lib.hid (own_mono ho B6.out.size)
    clear ho hb
    rw [HX.out] at HO
    go_wp2
    go_ret
    exact ⟨⟨sl, rfl, HO.out⟩, B7.out⟩

set_option maxHeartbeats 4000000 in
set_option maxRecDepth 100000 in
theorem implAgreed_c (a1 : Option Addr) (len1 cap1 : Nat) (cs : List Cmd) (a2 : Option Addr) (len2 cap2 : Nat) (ds : List Cmd) (hl1 : len1 ≤ 2000000) (hl2 : len2 ≤ 2000000) (hs1 : ShortC 2097152 cs) (hs2 : ShortC 2097152 ds) (W : World) (h1 : CmdsAt W a1 len1 cs) (h2 : CmdsAt W a2 len2 ds) :
    Calls Try.prog 38 #[.slice a1 len1 cap1, .slice a2 len2 cap2] W (CmdsPost (agreedL cs ds) W) := by
  obtain ⟨ok, hok⟩ : ∃ x, okL cs ds = x := ⟨_, rfl⟩
  have HOK := Lib.hid (show Calls Try.prog 58 #[.slice a1 len1 cap1, .slice a2 len2 cap2] W (BoolPost ok W) by rw [← hok]; exact implOk_c a1 len1 cap1 cs a2 len2 cap2 ds hl1 hl2 hs1 hs2 W h1 h2)
  have HBAD := Lib.hid (fun (h : ok = false) => bad_nil (hok.trans h))
  have HRU := Lib.hid (fun (h : ok = true) => agreed_rule (hok.trans h))
  have HN1 := Lib.hid h1
  have HN2 := Lib.hid h2
  have HS1 := Lib.hid hs1
  have HS2 := Lib.hid hs2
  have HL := Lib.hid (And.intro hl1 hl2)
  clear hok h1 h2 hs1 hs2 hl1 hl2
  go_enter Try.func38, Try.ntmps38
  go_wp2_with fail
  refine HOK.out.mono ?_
  rintro e W1 ⟨rfl, hb1⟩
  have B1 := Lib.hid hb1
  clear hb1
  cases ok with
  | false =>
    have HX := Lib.hid (HBAD.out rfl).2.1
    go_wp2
    go_ret
    exact ⟨⟨_, rfl, by rw [HX.out]; exact World.ownsRow_nil _ _ _ _⟩, B1.out⟩
  | true =>
    have HX := Lib.hid (HRU.out rfl)
    go_wp2_with fail
    refine (isIn_c a1 len1 cap1 _ (by have := HL.out; omega) _ (HN1.out.keep B1.out)).mono ?_
    rintro e W2 ⟨v2, rfl, hr, hb⟩
    have B2 := Lib.hid (below_next B1.out hb)
    have R2 := Lib.hid hr
    clear hr hb
    go_wp2_with fail
    refine (clashesIn_c a1 len1 cap1 _ (by have := HL.out; omega) HS1.out _ (HN1.out.keep B2.out)).mono ?_
    rintro e W3 ⟨v3, rfl, hr, hb⟩
    have B3 := Lib.hid (below_next B2.out hb)
    have R3 := Lib.hid hr
    replace R2 := Lib.hid (R2.out.keep hb)
    clear hr hb
    go_wp2_with fail
    refine (not_c _ _ _ R3.out).mono ?_
    rintro e W4 ⟨v4, rfl, hr, hb⟩
    have B4 := Lib.hid (below_next B3.out hb)
    have R4 := Lib.hid hr
    replace R2 := Lib.hid (R2.out.keep hb)
    replace R3 := Lib.hid (R3.out.keep hb)
    clear hr hb
    go_wp2_with fail
    refine (both_c _ _ _ _ _ R2.out R4.out).mono ?_
    rintro e W5 ⟨v5, rfl, hr, hb⟩
    have B5 := Lib.hid (below_next B4.out hb)
    have R5 := Lib.hid hr
    replace R2 := Lib.hid (R2.out.keep hb)
    replace R3 := Lib.hid (R3.out.keep hb)
    replace R4 := Lib.hid (R4.out.keep hb)
    clear hr hb
    go_wp2_with fail
    refine (ruleOf_c _ _ a2 len2 cap2 _ (by have := HL.out; omega) HS2.out _ (HN2.out.keep B5.out) R5.out).mono ?_
    rintro e W6 ⟨⟨sl, rfl, ho⟩, hb⟩
    have B6 := Lib.hid (below_next B5.out hb)
    have HO := Lib.hid (own_mono ho B5.out.size)
    clear ho hb
    rw [HX.out] at HO
    go_wp2
    go_ret
    exact ⟨⟨sl, rfl, HO.out⟩, B6.out⟩

set_option maxHeartbeats 4000000 in
set_option maxRecDepth 100000 in
theorem implLeft_c (a1 : Option Addr) (len1 cap1 : Nat) (cs : List Cmd) (a2 : Option Addr) (len2 cap2 : Nat) (ds : List Cmd) (hl1 : len1 ≤ 2000000) (hl2 : len2 ≤ 2000000) (hs1 : ShortC 2097152 cs) (hs2 : ShortC 2097152 ds) (W : World) (h1 : CmdsAt W a1 len1 cs) (h2 : CmdsAt W a2 len2 ds) :
    Calls Try.prog 40 #[.slice a1 len1 cap1, .slice a2 len2 cap2] W (CmdsPost (leftL cs ds) W) := by
  obtain ⟨ok, hok⟩ : ∃ x, okL cs ds = x := ⟨_, rfl⟩
  have HOK := Lib.hid (show Calls Try.prog 58 #[.slice a1 len1 cap1, .slice a2 len2 cap2] W (BoolPost ok W) by rw [← hok]; exact implOk_c a1 len1 cap1 cs a2 len2 cap2 ds hl1 hl2 hs1 hs2 W h1 h2)
  have HBAD := Lib.hid (fun (h : ok = false) => bad_nil (hok.trans h))
  have HRU := Lib.hid (fun (h : ok = true) => left_rule (hok.trans h))
  have HN1 := Lib.hid h1
  have HN2 := Lib.hid h2
  have HS1 := Lib.hid hs1
  have HS2 := Lib.hid hs2
  have HL := Lib.hid (And.intro hl1 hl2)
  clear hok h1 h2 hs1 hs2 hl1 hl2
  go_enter Try.func40, Try.ntmps40
  go_wp2_with fail
  refine HOK.out.mono ?_
  rintro e W1 ⟨rfl, hb1⟩
  have B1 := Lib.hid hb1
  clear hb1
  cases ok with
  | false =>
    have HX := Lib.hid (HBAD.out rfl).2.2.1
    go_wp2
    go_ret
    exact ⟨⟨_, rfl, by rw [HX.out]; exact World.ownsRow_nil _ _ _ _⟩, B1.out⟩
  | true =>
    have HX := Lib.hid (HRU.out rfl)
    go_wp2_with fail
    refine (clashesIn_c a2 len2 cap2 _ (by have := HL.out; omega) HS2.out _ (HN2.out.keep B1.out)).mono ?_
    rintro e W2 ⟨v2, rfl, hr, hb⟩
    have B2 := Lib.hid (below_next B1.out hb)
    have R2 := Lib.hid hr
    clear hr hb
    go_wp2_with fail
    refine (ruleOf_c _ _ a1 len1 cap1 _ (by have := HL.out; omega) HS1.out _ (HN1.out.keep B2.out) R2.out).mono ?_
    rintro e W3 ⟨⟨sl, rfl, ho⟩, hb⟩
    have B3 := Lib.hid (below_next B2.out hb)
    have HO := Lib.hid (own_mono ho B2.out.size)
    clear ho hb
    rw [HX.out] at HO
    go_wp2
    go_ret
    exact ⟨⟨sl, rfl, HO.out⟩, B3.out⟩

set_option maxHeartbeats 4000000 in
set_option maxRecDepth 100000 in
theorem implClashes_c (a1 : Option Addr) (len1 cap1 : Nat) (cs : List Cmd) (a2 : Option Addr) (len2 cap2 : Nat) (ds : List Cmd) (hl1 : len1 ≤ 2000000) (hl2 : len2 ≤ 2000000) (hs1 : ShortC 2097152 cs) (hs2 : ShortC 2097152 ds) (W : World) (h1 : CmdsAt W a1 len1 cs) (h2 : CmdsAt W a2 len2 ds) :
    Calls Try.prog 21 #[.slice a1 len1 cap1, .slice a2 len2 cap2] W (ClashPost (clashesL cs ds) W) := by
  obtain ⟨ok, hok⟩ : ∃ x, okL cs ds = x := ⟨_, rfl⟩
  have HOK := Lib.hid (show Calls Try.prog 58 #[.slice a1 len1 cap1, .slice a2 len2 cap2] W (BoolPost ok W) by rw [← hok]; exact implOk_c a1 len1 cap1 cs a2 len2 cap2 ds hl1 hl2 hs1 hs2 W h1 h2)
  have HBAD := Lib.hid (fun (h : ok = false) => bad_nil (hok.trans h))
  have HEB := Lib.hid (fun (h : ok = true) => ok_len (hok.trans h))
  have HVD := Lib.hid (fun (h : ok = true) => ok_valid (hok.trans h))
  have HR := Lib.hid (show clashesL cs ds = if ok = true then rowsL ds cs 0 else [] by unfold clashesL; rw [hok])
  have HN1 := Lib.hid h1
  have HN2 := Lib.hid h2
  have HS1 := Lib.hid hs1
  have HS2 := Lib.hid hs2
  have HE := Lib.hid (show cs.length = len1 ∧ ds.length = len2 from ⟨h1.1, h2.1⟩)
  have hl1' : (len1 : Int) ≤ 2000000 := by omega
  have hl2' : (len2 : Int) ≤ 2000000 := by omega
  clear hok h1 h2 hs1 hs2
  go_enter Try.func21, Try.ntmps21
  go_wp2_with fail
  refine HOK.out.mono ?_
  rintro e W1 ⟨rfl, hb1⟩
  have B1 := Lib.hid hb1
  clear hb1
  cases ok with
  | false =>
    have HX := Lib.hid (HBAD.out rfl).2.2.2
    go_wp2
    go_ret
    exact ⟨⟨_, rfl, by rw [HX.out]; exact World.ownsRow_nil _ _ _ _⟩, B1.out⟩
  | true =>
    replace HEB := Lib.hid (HEB.out rfl)
    replace HVD := Lib.hid (HVD.out rfl)
    have HR2 := Lib.hid (HR.out.trans (if_pos rfl))
    clear HBAD HR
    go_wp2_with fail
    go_loopw [5, 6, 7, 8, 9, 10, 17] (fun o _ _ _ _ _ i wr => ClashOut true cs ds W o i wr) (fun _ _ _ _ _ _ i _ => len1 - (intOf i).toNat)
    case atStart => exact ⟨0, rfl, Nat.zero_le _, .inr rfl, World.ownsRow_nil _ _ _ _, B1⟩
    case round =>
      obtain ⟨n, rfl, hn, HZ, hown, HB⟩ := hrel
      have HO := Lib.hid hown
      clear hown
      by_cases hlt : n < len1
      · have hlt' : (n : Int) < len1 := by omega
        have hw1 : IntKind.i64.wrap ((n : Int) + 1) = (n : Int) + 1 := IntWalk.i64_in _ (by omega)
        have HW := Lib.hid hw1
        have HLT := Lib.hid hlt
        obtain ⟨b, off, c, rfl, hc, d0, d1, d2, d3, d4⟩ := (HN1.out.keep HB.out).node hlt
        have HC := Lib.hid hc
        have HFD := Lib.hid (show ∀ d ∈ ds, clashP d c = clashC c d from fun d hd => by rw [clash_p (HVD.out.2 d hd) (HVD.out.1 c (List.mem_of_getElem? hc)), clash_turn])
        have HCS := Lib.hid (HS1.out.at hc)
        have HFX := Lib.hid (five_new wr (.string c.p) (.int .i64 c.fk) (.int .i64 c.fv) (.int .i64 c.tk) (.int .i64 c.tv) 26)
        have HBX := Lib.hid (below_box wr (.cells #[.string c.p, .int .i64 c.fk, .int .i64 c.fv, .int .i64 c.tk, .int .i64 c.tv] 26))
        obtain ⟨cc, hcc⟩ : ∃ x, c = x := ⟨_, rfl⟩
        have HCC := Lib.hid hcc
        have HCW := Lib.hid (fun w => show Calls Try.prog 59 #[cmdV c] w (BoxPost cc w) by rw [← hcc]; exact clashesWith_box c w)
        rw [hcc] at HFD HCS
        obtain ⟨p, fk, fv, tk, tv⟩ := c
        unfold cmdV at HCW
        simp only at d0 d1 d2 d3 d4 HCW HFX HBX
        obtain ⟨f0, f1, f2, f3, f4, -⟩ := HFX.out
        clear hn hlt hc hcc
        go_wp2_with fail
        refine (HCW.out _).mono ?_
        rintro e W2 ⟨BB, rfl, hx2, hb2⟩
        have B2 := Lib.hid (below_next (below_next HB.out HBX.out) hb2)
        have HO2 := Lib.hid (own_below (HO.out.alloc _) hb2)
        have HX2 := Lib.hid hx2
        clear d0 d1 d2 d3 d4 f0 f1 f2 f3 f4 hb2 hx2
        go_wp2_with fail
        go_loopw [5, 9, 10, 26] (fun o _ _ k wr => ClashIn cc n cs ds W o k wr ∧ Hid (BoxC wr BB cc)) (fun _ _ _ k _ => len2 - (intOf k).toNat)
        case atStart => exact ⟨⟨0, rfl, Nat.zero_le _, by have := HO2.out; rwa [List.take_zero, show rowL cc n [] 0 = [] from rfl, List.append_nil], B2⟩, HX2⟩
        case round =>
          obtain ⟨⟨m, rfl, hm, hown2, HBI⟩, HXI⟩ := hrel
          have HO3 := Lib.hid hown2
          clear hown2
          by_cases hmt : m < len2
          · have hmt' : (m : Int) < len2 := by omega
            have hwm : IntKind.i64.wrap ((m : Int) + 1) = (m : Int) + 1 := IntWalk.i64_in _ (by omega)
            have HMT := Lib.hid hmt
            obtain ⟨b', off', d, rfl, hd, e0, e1, e2, e3, e4⟩ := (HN2.out.keep HBI.out).node (i := m) hmt
            obtain ⟨mm, hmm⟩ : ∃ mm, clashP d cc = mm := ⟨_, rfl⟩
            have HCD := Lib.hid (fun w (hb : Below wr.heap.size wr w) => show Calls Try.prog 93 #[cmdV d, .pointer (some ⟨BB, 0, none⟩)] w (BoolPost mm w) by rw [← hmm]; exact boxC_call d cc w BB (HS2.out.at hd) HCS.out (HXI.out.keep hb))
            have HXS := Lib.hid (clash_bound (cs := cs) (ds := ds) (c := cc) (n := n) (m := m) HEB.out.1 HEB.out.2)
            have HRS := Lib.hid (show rowsL ds (cs.take n) 0 ++ rowL cc n (ds.take (m + 1)) 0 = (rowsL ds (cs.take n) 0 ++ rowL cc n (ds.take m) 0) ++ (if mm = true then [(n, m)] else []) by rw [row_take hd, ← hmm, HFD.out d (List.mem_of_getElem? hd), List.append_assoc])
            have HF := Lib.hid (five_new wr (.string d.p) (.int .i64 d.fk) (.int .i64 d.fv) (.int .i64 d.tk) (.int .i64 d.tv) 26)
            have HBX := Lib.hid (below_box wr (.cells #[.string d.p, .int .i64 d.fk, .int .i64 d.fv, .int .i64 d.tk, .int .i64 d.tv] 26))
            obtain ⟨q, fk', fv', tk', tv'⟩ := d
            unfold cmdV at HCD
            simp only at e0 e1 e2 e3 e4 HCD HF HBX
            clear hm hmt hd hmm
            obtain ⟨f0, f1, f2, f3, f4, -⟩ := HF.out
            go_wp2_with fail
            refine (HCD.out _ HBX.out).mono ?_
            rintro e W3 ⟨rfl, hb3⟩
            have B3 := Lib.hid (below_next (below_next HBI.out HBX.out) hb3)
            have X3 := Lib.hid (HXI.out.keep (below_next HBX.out hb3))
            have HO4 := Lib.hid (own_below (HO3.out.alloc _) hb3)
            clear hb3 e0 e1 e2 e3 e4 f0 f1 f2 f3 f4
            cases mm
            · have HRS2 := Lib.hid (HRS.out.trans (by rw [if_neg Bool.false_ne_true, List.append_nil]))
              go_wp2
              go_roundw
              case rel => exact ⟨⟨m + 1, by go_num, by have := HMT.out; have := HE.out; omega, by rw [HRS2.out]; exact HO4.out, B3⟩, X3⟩
              case measure => have := HMT.out; simp [intOf]; omega
            · have HRS2 := Lib.hid (HRS.out.trans (by rw [if_pos rfl]))
              go_wp2_with (at_builtin; refine wpList_append_clash rfl _ _ rfl W.heap.size _ _ rfl (HO4.out.alloc _) _ _ (n, m) rfl (clash_lit _ (n, m)) (by have := HXS.out; omega) (by have := B3.out.size; simp; omega) ?_; intro v4 w4 ho4 hg4; have HB9 := Lib.hid ((B3.out.alloc B3.out.size _).grown hg4 (by have := B3.out.size; simp; omega) (fun k e => (HO4.out.lt k e).1)); have HX9 := Lib.hid (show BoxC w4 BB cc from apart_type (X3.out.keep (below_box _ _)) (HO4.out.alloc _) (by decide) hg4); clear hg4)
              go_roundw
              case rel => exact ⟨⟨m + 1, by go_num, by have := HMT.out; have := HE.out; omega, by rw [HRS2.out]; exact ho4, HB9⟩, HX9⟩
              case measure => have := HMT.out; simp [intOf]; omega
          · have hge : (len2 : Int) ≤ m := by omega
            have HL := Lib.hid (show rowsL ds (cs.take (n + 1)) 0 = rowsL ds (cs.take n) 0 ++ rowL cc n (ds.take m) 0 by rw [← HCC.out, rows_take HC.out, show ds.take m = ds from List.take_of_length_le (by have := HE.out; omega)])
            clear hm hmt
            have hw1 := HW.out
            go_wp2
            go_roundw
            case rel => exact ⟨n + 1, by go_num, by have := HLT.out; have := HE.out; omega, .inr rfl, by rw [HL.out]; exact HO3.out, HBI⟩
            case measure => have := HLT.out; simp [intOf]; omega
      · have hge : (len1 : Int) ≤ n := by omega
        have HX := Lib.hid (HR2.out.trans (show rowsL ds cs 0 = rowsL ds (cs.take n) 0 by rw [List.take_of_length_le (by have := HE.out; omega)]))
        clear hn hlt
        go_wp2
        go_ret
        rw [HX.out]
        exact ⟨⟨_, rfl, HO.out⟩, HB.out⟩

end Go.Proofs.Ytdkpabnpobpdhaa

/-
  TEXTS OF PLACES: what stands ahead of a name (strings.TrimSuffix of a slash, and a slash).
-/
namespace Go.Proofs.Ytdkpabnpobpdhaa
open Go.RowKit

def begB (v : List UInt8) : ByteArray := if v = [] then ⟨#[47]⟩ else pB v ++ ⟨#[47]⟩

theorem begB_name (v : List UInt8) (c : UInt8) : begB v ++ ⟨#[c]⟩ = pB (v ++ [c]) := by
  unfold begB
  by_cases h : v = []
  · rw [if_pos h, h]; rfl
  · rw [if_neg h]
    apply ByteArray.ext
    apply Array.ext'
    simp only [ByteArray.data_append, Array.toList_append]
    rw [pB_list, pB_list]
    unfold Pm.pathOf
    rw [if_neg h, if_neg (by simp), Pm.flat_append, List.append_assoc]
    rfl

theorem pB_last {v : List UInt8} (hv : Wrd v) (hn : v ≠ []) : ∃ m c, (pB v).size = m + 1 ∧ ((pB v).extract m (m + 1)).toList = [c] ∧ c ≠ 47 := by
  have e := Pm.flat_last v hn
  have hs : (pB v).data.toList = Pm.flat v.dropLast ++ [47, v.getLast hn] := by
    rw [pB_list]; unfold Pm.pathOf; rw [if_neg hn]; exact e
  have hz : (pB v).size = (Pm.flat v.dropLast ++ [47, v.getLast hn]).length := by rw [← hs]; rfl
  refine ⟨(Pm.flat v.dropLast).length + 1, v.getLast hn, by rw [hz]; simp, ?_, Pm.letter_not_47 (hv.2 _ (List.getLast_mem hn))⟩
  rw [Lib.toList_data, ByteArray.data_extract, Array.toList_extract, hs]
  simp [List.extract_eq_take_drop]

set_option maxHeartbeats 400000 in
set_option maxRecDepth 100000 in
theorem hasSuffix_word {v : List UInt8} (hv : Wrd v) (hn : v ≠ []) (w : World) :
    Calls Try.prog 126 #[.string (pB v), .string ⟨#[47]⟩] w fun e w' => e = .returned (.bool false) ∧ w' = w := by
  obtain ⟨m, c, h1, h2, h3⟩ := pB_last hv hn
  have hmax : m ≤ 7 := by
    have : (pB v).size ≤ 8 := by
      show (Pm.pathOf v).length ≤ 8
      unfold Pm.pathOf; rw [if_neg hn, Pm.flat_length]; have := hv.1; omega
    omega
  obtain ⟨s, hs⟩ : ∃ s, s = pB v := ⟨_, rfl⟩
  rw [← hs] at h1 h2 ⊢
  clear hs
  have e1 : ((m : Int) + 1 - 1).toNat = m := by omega
  have e2 : (c == 47) = false := by simpa using h3
  have e3 : (1 : Int) ≤ m + 1 := by omega
  clear h3
  go_enter Try.func126, Try.ntmps126
  go_wp2
  go_ret
  exact ⟨rfl, rfl⟩

set_option maxHeartbeats 400000 in
set_option maxRecDepth 100000 in
theorem hasSuffix_root (w : World) :
    Calls Try.prog 126 #[.string ⟨#[47]⟩, .string ⟨#[47]⟩] w fun e w' => e = .returned (.bool true) ∧ w' = w := by
  have h : (((⟨#[47]⟩ : ByteArray).extract 0 1).toList == [47]) = true := by rw [Lib.toList_data]; rfl
  go_enter Try.func126, Try.ntmps126
  go_wp2
  go_ret
  exact ⟨rfl, rfl⟩

set_option maxHeartbeats 400000 in
set_option maxRecDepth 100000 in
theorem slTrim_c {v : List UInt8} (hv : Wrd v) (w : World) :
    Calls Try.prog 115 #[.string (pB v), .string ⟨#[47]⟩] w fun e w' => e = .returned (.string (if v = [] then ⟨#[]⟩ else pB v)) ∧ w' = w := by
  by_cases hn : v = []
  · subst hn
    rw [if_pos rfl]
    have hc := fun w => hasSuffix_root w
    show Calls Try.prog 115 #[.string ⟨#[47]⟩, .string ⟨#[47]⟩] w _
    go_enter Try.func115, Try.ntmps115
    go_wp2_with (go_at_call 126; refine (hc _).mono ?_; rintro e w' ⟨rfl, rfl⟩)
    go_ret
    exact ⟨rfl, rfl⟩
  · rw [if_neg hn]
    have hc := fun w => hasSuffix_word hv hn w
    generalize pB v = s at hc ⊢
    go_enter Try.func115, Try.ntmps115
    go_wp2_with (go_at_call 126; refine (hc _).mono ?_; rintro e w' ⟨rfl, rfl⟩)
    go_ret
    exact ⟨rfl, rfl⟩

set_option maxHeartbeats 400000 in
set_option maxRecDepth 100000 in
theorem trim_c {v : List UInt8} (hv : Wrd v) (w : World) :
    Calls Try.prog 91 #[.string (pB v), .string ⟨#[47]⟩] w fun e w' => e = .returned (.string (if v = [] then ⟨#[]⟩ else pB v)) ∧ w' = w := by
  have hc := fun w => slTrim_c hv w
  generalize pB v = s at hc ⊢
  generalize (if v = [] then (⟨#[]⟩ : ByteArray) else s) = t at hc ⊢
  go_enter Try.func91, Try.ntmps91
  go_wp2_with (go_at_call 115; refine (hc _).mono ?_; rintro e w' ⟨rfl, rfl⟩)
  go_ret
  exact ⟨rfl, rfl⟩

theorem beg_eq (v : List UInt8) : (if v = [] then (⟨#[]⟩ : ByteArray) else pB v) ++ ⟨#[47]⟩ = begB v := by
  unfold begB; split <;> rfl

end Go.Proofs.Ytdkpabnpobpdhaa

/-
  WALKS: the nodes behind a place (impl.place.nodes).
-/
namespace Go.Proofs.Ytdkpabnpobpdhaa
open Go.RowKit
set_option linter.unusedVariables false

/-- What is behind one letter. -/
def part (F : List UInt8 → Int × Int) (d : Nat) (w : List UInt8) (c : UInt8) : List Nd := oneAt F (w ++ [c]) ++ lst F d (w ++ [c])
def accN (F : List UInt8 → Int × Int) (d : Nat) (w : List UInt8) (n : Nat) : List Nd := (letters.take n).flatMap (part F d w)

theorem accN_four (F : List UInt8 → Int × Int) (d : Nat) (w : List UInt8) : accN F d w 4 = lst F (d + 1) w := rfl

theorem lst_len (F : List UInt8 → Int × Int) : ∀ (d : Nat) (w : List UInt8), (lst F d w).length + 1 ≤ 8 ^ d
  | 0, _ => by simp [lst]
  | d + 1, w => by
    have ho : ∀ u, (oneAt F u).length ≤ 1 := fun u => by unfold oneAt; split <;> simp
    have h1 := lst_len F d (w ++ [97])
    have h2 := lst_len F d (w ++ [98])
    have h3 := lst_len F d (w ++ [99])
    have h4 := lst_len F d (w ++ [100])
    have o1 := ho (w ++ [97])
    have o2 := ho (w ++ [98])
    have o3 := ho (w ++ [99])
    have o4 := ho (w ++ [100])
    have e : (lst F (d + 1) w).length = ((oneAt F (w ++ [97])).length + (lst F d (w ++ [97])).length) + (((oneAt F (w ++ [98])).length + (lst F d (w ++ [98])).length) + (((oneAt F (w ++ [99])).length + (lst F d (w ++ [99])).length) + ((oneAt F (w ++ [100])).length + (lst F d (w ++ [100])).length))) := by
      rw [show lst F (d + 1) w = letters.flatMap (part F d w) from rfl]
      unfold letters
      simp only [List.flatMap_cons, List.flatMap_nil, List.length_append, List.length_nil, Nat.add_zero]
      unfold part
      simp only [List.length_append]
    rw [e, Nat.pow_succ]
    have : 1 ≤ 8 ^ d := Nat.one_le_pow _ _ (by omega)
    omega

theorem lst_le {F : List UInt8 → Int × Int} {d : Nat} (hd : d ≤ 4) (w : List UInt8) : (lst F d w).length ≤ 4096 := by
  have h := lst_len F d w
  have : 8 ^ d ≤ 8 ^ 4 := Nat.pow_le_pow_right (by omega) hd
  omega

theorem accN_le {F : List UInt8 → Int × Int} {d : Nat} (hd : d < 4) (w : List UInt8) (n : Nat) : (accN F d w n).length ≤ 4096 := by
  have h : (accN F d w n).length ≤ (lst F (d + 1) w).length := by
    unfold accN
    rw [show lst F (d + 1) w = (letters.take n ++ letters.drop n).flatMap (part F d w) by rw [List.take_append_drop]; rfl, List.flatMap_append, List.length_append]
    omega
  have := lst_le (F := F) (show d + 1 ≤ 4 by omega) w
  omega

theorem accN_next (F : List UInt8 → Int × Int) (d : Nat) (w : List UInt8) {n : Nat} (hn : n < 4) : accN F d w (n + 1) = accN F d w n ++ part F d w (UInt8.ofNat (97 + n)) := by
  rcases (by omega : n = 0 ∨ n = 1 ∨ n = 2 ∨ n = 3) with rfl | rfl | rfl | rfl <;> simp [accN, letters] <;> rfl

theorem oneAt_zero {F : List UInt8 → Int × Int} {u : List UInt8} (h : (F u).1 = 0) : oneAt F u = [] := if_pos h
theorem oneAt_some {F : List UInt8 → Int × Int} {u : List UInt8} (h : (F u).1 ≠ 0) : oneAt F u = [ndAt F u] := if_neg h

theorem none_down {W : World} {A : List UInt8 → Option Nat} {F : List UInt8 → Int × Int} (h : Trie W A F) {w : List UInt8} (hn : A w = none) : ∀ u, A (w ++ u) = none := by
  intro u
  generalize hl : u.length = n
  induction n generalizing u with
  | zero => rw [List.length_eq_zero_iff.1 hl, List.append_nil]; exact hn
  | succ n ih =>
    have hu : u ≠ [] := fun e => by rw [e] at hl; cases hl
    have e := List.dropLast_concat_getLast hu
    rw [← e, ← List.append_assoc]
    exact h.up _ _ (ih _ (by rw [List.length_dropLast, hl]; rfl))

theorem part_none {W : World} {A : List UInt8 → Option Nat} {F : List UInt8 → Int × Int} (h : Trie W A F) {w : List UInt8} (hw : Wrd w) {d : Nat} (hd : w.length + (d + 1) ≤ 4) {c : UInt8} (hc : Pm.letter c = true) (hn : A (w ++ [c]) = none) : part F d w c = [] := by
  have hz : ∀ u, Wrd (w ++ [c] ++ u) → F (w ++ [c] ++ u) = (0, 0) := fun u hu => h.nil _ hu (none_down h hn u)
  have hwc : ∀ u, u.length ≤ d → (∀ x ∈ u, Pm.letter x = true) → Wrd (w ++ [c] ++ u) := fun u hu hl => ⟨by simp; omega, fun x hx => by
    rcases List.mem_append.1 hx with hx | hx
    · rcases List.mem_append.1 hx with hx | hx
      · exact hw.2 x hx
      · rw [List.mem_singleton.1 hx]; exact hc
    · exact hl x hx⟩
  unfold part
  rw [oneAt_zero, List.nil_append, List.eq_nil_iff_forall_not_mem]
  · intro x hx
    obtain ⟨c', u, h1, h2, h3, _⟩ := mem_lst.1 hx
    rw [hz (c' :: u) (hwc _ (by rw [List.length_cons]; omega) h2)] at h3
    exact h3 rfl
  · have := hz [] (hwc [] (by simp) (by simp))
    rw [List.append_nil] at this
    rw [this]

theorem letter_nth {n : Nat} (hn : n < 4) : Pm.letter (UInt8.ofNat (97 + n)) = true := by
  rcases (by omega : n = 0 ∨ n = 1 ∨ n = 2 ∨ n = 3) with rfl | rfl | rfl | rfl <;> decide

set_option maxHeartbeats 1000000 in
set_option maxRecDepth 100000 in
theorem index4 (a0 a1 a2 a3 : Option Nat) (W : World) : (Instr.index 72 (.agg #[ptrTo a0, ptrTo a1, ptrTo a2, ptrTo a3]) (.int .i64 0)).run Try.prog W = .ok (ptrTo a0) W ∧ (Instr.index 72 (.agg #[ptrTo a0, ptrTo a1, ptrTo a2, ptrTo a3]) (.int .i64 1)).run Try.prog W = .ok (ptrTo a1) W
    ∧ (Instr.index 72 (.agg #[ptrTo a0, ptrTo a1, ptrTo a2, ptrTo a3]) (.int .i64 2)).run Try.prog W = .ok (ptrTo a2) W ∧ (Instr.index 72 (.agg #[ptrTo a0, ptrTo a1, ptrTo a2, ptrTo a3]) (.int .i64 3)).run Try.prog W = .ok (ptrTo a3) W := by
  have h : Try.prog.underlying 72 = some (.array 4 69) := by kernel_rfl
  refine ⟨?_, ?_, ?_, ?_⟩ <;> simp [Instr.index, asIntOf, run_underlying h, go_sem, ptrTo]

theorem indexKid (A : List UInt8 → Option Nat) (w : List UInt8) {n : Nat} (hn : n < 4) (W : World) :
    (Instr.index 72 (.agg #[ptrTo (A (w ++ [97])), ptrTo (A (w ++ [98])), ptrTo (A (w ++ [99])), ptrTo (A (w ++ [100]))]) (.int .i64 n)).run Try.prog W = .ok (ptrTo (A (w ++ [UInt8.ofNat (97 + n)]))) W := by
  obtain ⟨h0, h1, h2, h3⟩ := index4 (A (w ++ [97])) (A (w ++ [98])) (A (w ++ [99])) (A (w ++ [100])) W
  rcases (by omega : n = 0 ∨ n = 1 ∨ n = 2 ∨ n = 3) with rfl | rfl | rfl | rfl
  · exact h0
  · exact h1
  · exact h2
  · exact h3

theorem indexNone {n : Nat} (hn : n < 4) (W : World) :
    (Instr.index 72 (.agg #[.pointer none, .pointer none, .pointer none, .pointer none]) (.int .i64 n)).run Try.prog W = .ok (.pointer none) W := by
  obtain ⟨h0, h1, h2, h3⟩ := index4 none none none none W
  rcases (by omega : n = 0 ∨ n = 1 ∨ n = 2 ∨ n = 3) with rfl | rfl | rfl | rfl
  · exact h0
  · exact h1
  · exact h2
  · exact h3

theorem encode_nth {n : Nat} (hn : n < 4) : Utf8.encode (97 + (n : Int)) = ⟨#[UInt8.ofNat (97 + n)]⟩ := by
  rcases (by omega : n = 0 ∨ n = 1 ∨ n = 2 ∨ n = 3) with rfl | rfl | rfl | rfl <;> rfl

theorem flatN_one_cell (ns : List Nd) : ∀ u ∈ flatN ns, u.oneCell' = true := by
  intro u hu
  unfold flatN at hu
  obtain ⟨n, _, hn⟩ := List.mem_flatMap.1 hu
  simp at hn
  rcases hn with rfl | rfl | rfl <;> rfl

theorem own_cells {W : World} {base : Nat} {e : TypeId} {ns : List Nd} {g cap : Nat} (h : W.ownsRow base e 3 (.slice (some ⟨g, 0, none⟩) ns.length cap) ns.length (flatN ns)) :
    ∀ j u, (flatN ns)[j]? = some u → W.cell? ((⟨g, 0, none⟩ : Addr).add j) = some u := by
  intro j u hj
  have hl := flatN_length ns
  have hj' := (List.getElem?_eq_some_iff.1 hj).1
  have := h.cellAt j (by omega)
  have e2 : ((⟨g, 0, none⟩ : Addr).add j) = ⟨g, j, none⟩ := by
    unfold Addr.add
    split
    · rename_i h0; rw [h0]
    · simp
  rw [e2]
  exact this.trans hj

theorem own_join {W : World} {b : Nat} {e : TypeId} {v : Value} {acc more : List Nd} (h : W.ownsRow b e 3 v (acc.length + more.length) (flatN acc ++ flatN more)) : W.ownsRow b e 3 v (acc ++ more).length (flatN (acc ++ more)) := by
  rw [flatN_append, List.length_append]; exact h

theorem own_cases {W : World} {base : Nat} {e : TypeId} {size n : Nat} {v : Value} {xs : List Value} (h : W.ownsRow base e size v n xs) : (v = .slice none 0 0 ∧ n = 0) ∨ ∃ g cap, v = .slice (some ⟨g, 0, none⟩) n cap := by
  rcases h.2 with h | ⟨g, cap, _, h, _⟩
  · exact .inl h
  · exact .inr ⟨g, cap, h⟩

/-- What nodes returns. -/
def NodesPost (F : List UInt8 → Int × Int) (d : Nat) (w : List UInt8) (W : World) (e : Ending) (W' : World) : Prop := OwnsNodes W.heap.size (lst F d w) e W' ∧ Below W.heap.size W W'

def NodesRel (F : List UInt8 → Int × Int) (d : Nat) (w : List UInt8) (W : World) (o i : Value) (wr : World) : Prop :=
  ∃ n : Nat, i = .int .i64 n ∧ n ≤ 4 ∧ wr.ownsRow W.heap.size 106 3 o (accN F d w n).length (flatN (accN F d w n)) ∧ Hid (Below W.heap.size W wr)

set_option maxHeartbeats 2000000 in
set_option maxRecDepth 100000 in
theorem nodes_c (A : List UInt8 → Option Nat) (F : List UInt8 → Int × Int) (d : Nat) : ∀ (w : List UInt8) (b : Nat) (W : World), w.length + d = 4 → Trie W A F → A w = some b →
    Calls Try.prog 55 #[.pointer (some ⟨b, 0, none⟩), .string (pB w)] W (NodesPost F d w W) := by
  induction d with
  | zero =>
    intro w b W hwd hT hb
    have hw := hT.wrd w b hb
    have hnone : ∀ c, A (w ++ [c]) = none := fun c => by
      cases h : A (w ++ [c]) with
      | none => rfl
      | some x =>
        have := (hT.wrd _ _ h).1
        rw [List.length_append, List.length_singleton] at this
        omega
    have hc := fun W => trim_c hw W
    have hbeg := beg_eq w
    have hts : (if w = [] then (⟨#[]⟩ : ByteArray) else pB w).size ≤ 8 := by
      split
      · decide
      · show (Pm.pathOf w).length ≤ 8
        unfold Pm.pathOf
        split
        · simp
        · rw [Pm.flat_length]; omega
    generalize (if w = [] then (⟨#[]⟩ : ByteArray) else pB w) = tr at hc hbeg hts
    generalize hp : pB w = p at hc ⊢
    have c0 := hT.cell hb 2
    have c1 := hT.cell hb 3
    have c2 := hT.cell hb 4
    have c3 := hT.cell hb 5
    simp only [plc, hnone, ptrTo] at c0 c1 c2 c3
    simp at c0 c1 c2 c3
    have HT := Lib.hid hT
    clear hp hT hb
    go_enter Try.func55, Try.ntmps55
    go_wp2_with (go_at_call 91; refine (hc _).mono ?_; rintro e w' ⟨rfl, rfl⟩)
    go_loop [5, 17] (fun o i => o = .slice none 0 0 ∧ ∃ n : Nat, i = .int .i64 n ∧ n ≤ 4) (fun _ i => 4 - (intOf i).toNat)
    case atStart => exact ⟨rfl, 0, rfl, by omega⟩
    case round =>
      obtain ⟨rfl, n, rfl, hn⟩ := hrel
      by_cases h4 : n = 4
      · subst h4
        go_wp2
        refine bodyPost_ret (v := .slice none 0 0) (by simp [results, Try.f55, go_sem]) rfl ⟨⟨.slice none 0 0, rfl, World.ownsRow_nil _ _ _ _⟩, Below.refl _ _⟩
      · have hni : (n : Int) < 4 := by omega
        have hni0 : (0 : Int) ≤ n := by omega
        have hidx := fun W => indexNone (show n < 4 by omega) W
        go_wp2
        go_round
        case rel => exact ⟨rfl, n + 1, by push_cast; rfl, by omega⟩
        case measure => simp [intOf]; omega
  | succ d ih =>
  intro w b W hwd hT hb
  obtain ⟨i0, hi, hz0, hz1, hz2⟩ := info_parts infoNode
  have hw := hT.wrd w b hb
  have HT := Lib.hid hT
  have HB := Lib.hid hb
  have HI := Lib.hid ih
  have hc := fun W => trim_c hw W
  have hbeg := beg_eq w
  have hts : (if w = [] then (⟨#[]⟩ : ByteArray) else pB w).size ≤ 8 := by
    split
    · decide
    · show (Pm.pathOf w).length ≤ 8
      unfold Pm.pathOf
      split
      · simp
      · rw [Pm.flat_length]; omega
  have hbs : (begB w).size ≤ 9 := by rw [← hbeg, ByteArray.size_append]; show _ + 1 ≤ 9; omega
  generalize (if w = [] then (⟨#[]⟩ : ByteArray) else pB w) = tr at hc hbeg hts
  generalize hp : pB w = p at hc ⊢
  have c0 := hT.cell hb 2
  have c1 := hT.cell hb 3
  have c2 := hT.cell hb 4
  have c3 := hT.cell hb 5
  simp [plc] at c0 c1 c2 c3
  clear hp hT hb ih
  go_enter Try.func55, Try.ntmps55
  go_wp2_with (go_at_call 91; refine (hc _).mono ?_; rintro e w' ⟨rfl, rfl⟩)

  have HBS := Lib.hid hbs
  clear hbeg hts hbs hc
  go_loopw [5, 17] (fun o i wr => NodesRel F d w w' o i wr) (fun _ i _ => 4 - (intOf i).toNat)
  case atStart => exact ⟨0, rfl, by omega, World.ownsRow_nil _ _ _ _, Below.refl _ _⟩
  case round =>
    obtain ⟨n, rfl, hn, hown, hB⟩ := hrel
    by_cases h4 : n = 4
    · subst h4
      go_wp2
      refine bodyPost_ret (v := u5) (by simp [results, Try.f55, go_sem]) rfl ⟨⟨u5, rfl, ?_⟩, hB⟩
      rw [← accN_four]; exact hown
    · have hn4 : n < 4 := by omega
      have hni : (n : Int) < 4 := by omega
      have hni0 : (0 : Int) ≤ n := by omega
      have hidx := fun W => indexKid A w hn4 W
      cases hk : A (w ++ [UInt8.ofNat (97 + n)]) with
      | none =>
        have hidx2 := fun W => (hidx W).trans (show _ = Result.ok (.pointer none) W by rw [hk]; rfl)
        clear hidx
        go_wp2
        go_roundw
        case rel =>
          refine ⟨n + 1, by push_cast; rfl, by omega, ?_, hB⟩
          rw [accN_next F d w hn4, part_none HT.out hw (by omega) (letter_nth hn4) hk, List.append_nil]; exact hown
        case measure => simp [intOf]; omega
      | some b' =>
        have hidx2 := fun W => (hidx W).trans (show _ = Result.ok (.pointer (some ⟨b', 0, none⟩)) W by rw [hk]; rfl)
        clear hidx
        have HL1 := Lib.hid (accN_le (F := F) (d := d) (by omega) w n)
        have henc := encode_nth hn4
        have hname := begB_name w (UInt8.ofNat (97 + n))
        have hbs := HBS.out
        have hc1 : ((⟨#[UInt8.ofNat (97 + n)]⟩ : ByteArray)).size = 1 := rfl
        have hwr : IntKind.i32.wrap (97 + (n : Int)) = 97 + n := by rw [IntKind.wrap_i32]; omega
        have hlet := letter_nth hn4
        have HACC := Lib.hid (accN_next F d w hn4)
        obtain ⟨c, hc⟩ : ∃ c, c = UInt8.ofNat (97 + n) := ⟨_, rfl⟩
        rw [← hc] at henc hname hc1 hlet HACC hk
        have HC := Lib.hid hc
        clear hc
        go_upto_region 8 with (fail)
        have HK := Lib.hid hk
        have HB2 := Lib.hid (show Wrd (w ++ [c]) from HT.out.wrd _ _ hk)
        have k0 := (HT.out.below hB.out).cell hk 0
        have k1 := (HT.out.below hB.out).cell hk 1
        simp only [plc] at k0 k1
        obtain ⟨k, hkk⟩ : ∃ k, k = (F (w ++ [c])).1 := ⟨_, rfl⟩
        obtain ⟨v, hvv⟩ : ∃ v, v = (F (w ++ [c])).2 := ⟨_, rfl⟩
        rw [← hkk] at k0
        rw [← hvv] at k1
        have k0' : wr.cell? ⟨b', 0, none⟩ = some (.int .i64 k) := k0
        have k1' : wr.cell? ⟨b', 1, none⟩ = some (.int .i64 v) := k1
        have HL2 := Lib.hid (lst_le (F := F) (d := d) (by omega) (w ++ [c]))
        clear k0 k1 hk hc1 hbs henc hidx2 hwr
        clear hname
        have HO := Lib.hid hown
        have HCALL := Lib.hid (fun W1 (hT1 : Trie W1 A F) => HI.out (w ++ [c]) b' W1 (by rw [List.length_append, List.length_singleton]; omega) hT1 HK.out)
        by_cases hk0 : k = 0
        · have hkb : (k == 0) = true := by rw [hk0]; rfl
          have HPART := Lib.hid (show part F d w c = lst F d (w ++ [c]) by unfold part; rw [oneAt_zero (by rw [← hkk]; exact hk0)]; rfl)
          subst hk0
          clear hown hkk hvv

          go_wp2_with fail
          refine (HCALL.out _ (HT.out.below hB.out)).mono ?_
          rintro e W2 ⟨⟨sl, rfl, ho2⟩, hb2⟩
          have hoa := own_below HO.out hb2
          have hB2 : Below w'.heap.size w' W2 := below_next hB.out hb2
          have H2 := Lib.hid ho2
          rcases own_cases ho2 with ⟨rfl, hz⟩ | ⟨g, cap, rfl⟩
          · have hz' : lst F d (w ++ [c]) = [] := List.length_eq_zero_iff.1 hz
            clear ho2 hb2 hz
            go_wp2_with (at_builtin; refine wpList_append_own_none rfl _ _ 33 rfl w'.heap.size 106 i0 3 Try.underlying33 hi _ _ _ rfl hoa rfl ?_)
            go_roundw
            case rel =>
              refine ⟨n + 1, by push_cast; rfl, by omega, ?_, hB2⟩
              rw [HACC.out, HPART.out, hz', List.append_nil]
              exact hoa
            case measure => simp [intOf]; omega
          · clear ho2 hb2
            go_wp2_with (at_builtin; refine wpList_append_own _ rfl _ _ 33 rfl w'.heap.size 106 i0 (.agg #[.string ⟨#[]⟩, .int .i64 0, .int .i64 0]) 3 32 Try.underlying33 hi hz0 hz1 hz2 rfl (by decide) _ _ _ rfl hoa ⟨g, 0, none⟩ _ cap (flatN (lst F d (w ++ [c]))) rfl (flatN_length _) (own_cells H2.out) (flatN_one_cell _) (by unfold maxLen; have := HL1.out; have := HL2.out; simp at this ⊢; omega) (by have := HL1.out; have := HL2.out; simp at this ⊢; omega) hB2.size ?_; intro v4 w4 ho4 hg4 hn4)
            have B4 : Below w'.heap.size w' w4 := hB2.grown hg4 hB2.size (fun g e => (hoa.lt g e).1)
            go_roundw
            case rel =>
              refine ⟨n + 1, by push_cast; rfl, by omega, ?_, B4⟩
              rw [HACC.out, HPART.out]
              exact own_join ho4
            case measure => simp [intOf]; omega

        · have hkb : (k == 0) = false := by simpa using hk0
          have HPART := Lib.hid (show part F d w c = [(⟨pB (w ++ [c]), k, v⟩ : Nd)] ++ lst F d (w ++ [c]) by unfold part; rw [oneAt_some (by rw [← hkk]; exact hk0)]; unfold ndAt; rw [← hkk, ← hvv])
          have hlt0 := hown.lt
          clear hown hkk hvv
          generalize hq : pB (w ++ [c]) = q at HCALL HPART ⊢
          go_wp2_with (at_builtin; refine wpList_append_own _ rfl _ _ 33 rfl w'.heap.size 106 i0 (.agg #[.string ⟨#[]⟩, .int .i64 0, .int .i64 0]) 3 32 Try.underlying33 hi hz0 hz1 hz2 rfl (by decide) _ _ _ rfl (HO.out.alloc _) ⟨wr.heap.size, 0, none⟩ 1 1 [.string q, .int .i64 k, .int .i64 v] rfl rfl (cell_three_new _ _ _ _ _) (fun x hx => by simp at hx; rcases hx with rfl | rfl | rfl <;> rfl) (by unfold maxLen; have := HL1.out; omega) (by have := HL1.out; omega) (by have := hB.out.size; simp; omega) ?_; intro v3 w3 ho3 hg3 hn3)
          have B3 : Below w'.heap.size w' w3 := (hB.out.alloc hB.out.size _).grown hg3 (by have := hB.out.size; simp; omega) (fun g e => (hlt0 g e).1)
          go_wp2_with fail
          refine (HCALL.out _ (HT.out.below B3)).mono ?_
          rintro e W2 ⟨⟨sl, rfl, ho2⟩, hb2⟩
          have hoa := own_below (own_push (⟨q, k, v⟩ : Nd) ho3) hb2
          have hB2 : Below w'.heap.size w' W2 := below_next B3 hb2
          have H2 := Lib.hid ho2
          rcases own_cases ho2 with ⟨rfl, hz⟩ | ⟨g, cap, rfl⟩
          · have hz' : lst F d (w ++ [c]) = [] := List.length_eq_zero_iff.1 hz
            clear ho2 hb2 hz
            go_wp2_with (at_builtin; refine wpList_append_own_none rfl _ _ 33 rfl w'.heap.size 106 i0 3 Try.underlying33 hi _ _ _ rfl hoa rfl ?_)
            go_roundw
            case rel =>
              refine ⟨n + 1, by push_cast; rfl, by omega, ?_, hB2⟩
              rw [HACC.out, HPART.out, hz', List.append_nil]
              exact hoa
            case measure => simp [intOf]; omega
          · clear ho2 hb2
            go_wp2_with (at_builtin; refine wpList_append_own _ rfl _ _ 33 rfl w'.heap.size 106 i0 (.agg #[.string ⟨#[]⟩, .int .i64 0, .int .i64 0]) 3 32 Try.underlying33 hi hz0 hz1 hz2 rfl (by decide) _ _ _ rfl hoa ⟨g, 0, none⟩ _ cap (flatN (lst F d (w ++ [c]))) rfl (flatN_length _) (own_cells H2.out) (flatN_one_cell _) (by unfold maxLen; have h5 := HL1.out; have h6 := HL2.out; simp at h5 h6 ⊢; omega) (by have h5 := HL1.out; have h6 := HL2.out; simp at h5 h6 ⊢; omega) hB2.size ?_; intro v4 w4 ho4 hg4 hn4)
            have B4 : Below w'.heap.size w' w4 := hB2.grown hg4 hB2.size (fun g e => (hoa.lt g e).1)
            go_roundw
            case rel =>
              refine ⟨n + 1, by push_cast; rfl, by omega, ?_, B4⟩
              rw [HACC.out, HPART.out, ← List.append_assoc]
              exact own_join ho4
            case measure => simp [intOf]; omega


end Go.Proofs.Ytdkpabnpobpdhaa

/-
  WALKS: impl.TreePut.
-/
namespace Go.Proofs.Ytdkpabnpobpdhaa
open Go.RowKit
set_option linter.unusedVariables false

theorem treePut_bad {ns : List Nd} {p : ByteArray} {k v : Int} (h : validT ns = false ∨ ¬ 1 ≤ depB p ∨ validB k v = false) : treePut ns p k v = none := by
  unfold treePut
  rcases h with h | h | h <;> simp [h]

theorem tput_nil {r : Option (List Nd)} {base : Nat} {W w : World} (hr : r = none) (hB : Below W.heap.size W w) : TPost r base W (.returned (.tuple #[.slice none 0 0, .bool false])) w :=
  ⟨_, [], false, rfl, .inr ⟨rfl, hr, rfl⟩, World.ownsRow_nil _ _ _ _, hB⟩

theorem lst_short {F : List UInt8 → Int × Int} : Short 8 (lst F 4 []) := by
  intro n hn
  obtain ⟨c, u, h1, h2, h3, rfl⟩ := mem_lst.1 hn
  exact pB_size (v := [] ++ c :: u) ⟨by rw [List.nil_append, List.length_cons]; omega, h2⟩

theorem Short.mono {m m' : Nat} {ns : List Nd} (h : Short m ns) (hm : m ≤ m') : Short m' ns := fun n hn => Nat.le_trans (h n hn) hm

set_option maxHeartbeats 4000000 in
set_option maxRecDepth 100000 in
theorem implTreePut_c (a : Option Addr) (len cap : Nat) (ns : List Nd) (p : ByteArray) (k v : Int) (hl : len ≤ 2097152) (hs : Short 2097152 ns) (hp : p.size ≤ 2097152) (W : World) (hN : NodesAt W a len ns) :
    Calls Try.prog 18 #[.slice a len cap, .string p, con k v] W (TPost (treePut ns p k v) W.heap.size W) := by
  have H := Lib.hid (fun W1 (hb : Below W.heap.size W W1) => treeOf_c a len cap ns hl hs W1 (hN.keep hb))
  obtain ⟨d, hd⟩ : ∃ d, depB p = d := ⟨_, rfl⟩
  have HP := Lib.hid (fun W1 => show Calls Try.prog 50 #[.string p] W1 (fun e w' => e = .returned (.int .i64 d) ∧ Below W1.heap.size W1 w') by rw [← hd]; exact pathDepth_c p (by omega) W1)
  have HD := Lib.hid hd
  have HVC := Lib.hid (fun W1 => implValid_c k v W1)
  obtain ⟨vb, hvb⟩ : ∃ vb, validB k v = vb := ⟨_, rfl⟩
  rw [hvb] at HVC
  have HVB := Lib.hid hvb
  clear hN hs hd hvb
  unfold con
  go_enter Try.func18, Try.ntmps18
  go_wp2_with fail
  refine (H.out _ (below_box _ _)).mono ?_
  rintro e W2 ⟨hB, h⟩
  have HB2 := Lib.hid (below_next (below_box W _) hB)
  have q0 := box_cell hB 0
  have q1 := box_cell hB 1
  simp at q0 q1
  rcases h with ⟨hv, rfl⟩ | ⟨hv, A, b, rfl, hA0, hT, hA⟩
  · have HG := Lib.hid (treePut_bad (p := p) (k := k) (v := v) (.inl hv))
    clear hv hB
    go_wp2
    refine bodyPost_ret (v := .tuple #[.slice none 0 0, .bool false]) (by simp [results, Try.f18, go_sem]) rfl (tput_nil HG.out HB2.out)
  · have HV := Lib.hid hv
    have HT := Lib.hid hT
    have HA := Lib.hid hA
    have HA0 := Lib.hid hA0
    have hlt2 : W.heap.size < W2.heap.size := by have := hB.size; simp at this; omega
    clear hv hB hT hA hA0
    go_wp2_with fail
    refine (HP.out _).mono ?_
    rintro e W3 ⟨rfl, hb3⟩
    have r0 := cell_kept hb3 q0
    have r1 := cell_kept hb3 q1
    have HB3 := Lib.hid (below_next HB2.out hb3)
    have HT3 := Lib.hid (HT.out.below hb3)
    have hlt3 : W.heap.size < W3.heap.size := by have := hb3.size; omega
    clear q0 q1 hb3
    by_cases hd1 : d ≤ 0
    · have HG := Lib.hid (treePut_bad (ns := ns) (p := p) (k := k) (v := v) (.inr (.inl (by rw [HD.out]; omega))))
      go_wp2
      refine bodyPost_ret (v := .tuple #[.slice none 0 0, .bool false]) (by simp [results, Try.f18, go_sem]) rfl (tput_nil HG.out HB3.out)
    · have hd0 : 0 < d := by omega
      have hdd : decide (d ≤ 0) = false := decide_eq_false hd1
      clear hd1
      go_wp2_with fail
      refine (HVC.out _).mono ?_
      rintro e W5 ⟨rfl, hb5⟩
      have u0 := cell_kept hb5 r0
      have u1 := cell_kept hb5 r1
      have HB5 := Lib.hid (below_next HB3.out hb5)
      have HT5 := Lib.hid (HT3.out.below hb5)
      have hN5 : W.heap.size < W5.heap.size := by have := hb5.size; omega
      clear r0 r1 hb5
      cases vb with
      | false =>
        have HG := Lib.hid (treePut_bad (ns := ns) (p := p) (k := k) (v := v) (.inr (.inr HVB.out)))
        go_wp2
        refine bodyPost_ret (v := .tuple #[.slice none 0 0, .bool false]) (by simp [results, Try.f18, go_sem]) rfl (tput_nil HG.out HB5.out)
      | true =>
        obtain ⟨w, hw, hpw⟩ := vpB_word (vp_of_depth (p := p) (by rw [HD.out]; omega))
        have HW := Lib.hid hw
        have HPW := Lib.hid hpw
        have HNE := Lib.hid ((word_depth hw).1 (by rw [← hpw, HD.out]; omega))
        have HAW := Lib.hid (show Away A W.heap.size from fun u e => by have := HA.out u _ e; rw [World.size_alloc] at this; omega)
        have HS0 := Lib.hid (show W5.drew.cell? ⟨W.heap.size, 0, none⟩ = some (.int .i64 k) ∧ W5.drew.cell? ⟨W.heap.size, 1, none⟩ = some (.int .i64 v) from ⟨u0, u1⟩)
        have HAT := Lib.hid (show Calls Try.prog 54 #[.pointer (some ⟨b, 0, none⟩), .string p] W5.drew (AtPost A (Fof ns) w W5.drew) by
          rw [hpw]; exact at_c A _ w hw W5.drew (HT5.out.kept (W' := W5.drew) fun _ _ _ => rfl) _ HA0.out)
        clear hw hpw
        go_upto_region 4 with (fail)
        refine wp_region_held_drew (S := (fun w' => w'.cell? ⟨W.heap.size, 0, none⟩ = some (.int .i64 k) ∧ w'.cell? ⟨W.heap.size, 1, none⟩ = some (.int .i64 v))) (by kernel_rfl) HS0.out (fun hH => ?_)
        refine wpAnyH_take (i := 0) (oi := _) (v := ?_) rfl (by kernel_rfl) (by kernel_rfl) (by kernel_rfl) (fun _ _ _ h => h) (Or.inl ⟨by rfl, ?_⟩) (by assumption) ?_
        rotate_left
        · (intro w hSw; (try dsimp only at hSw); go_simp; try with_reducible rfl)
        try simp only [Act.put, List.getElem_toArray, List.getElem_cons_zero, List.setIfInBounds_toArray, List.set_cons_zero, List.set_cons_succ]
        refine wpAnyH_take (i := 1) (oi := _) (v := ?_) rfl (by kernel_rfl) (by kernel_rfl) (by kernel_rfl) (fun _ _ _ h => h) (Or.inl ⟨by rfl, ?_⟩) (by assumption) ?_
        rotate_left
        · (intro w hSw; (try dsimp only at hSw); go_simp; try with_reducible rfl)
        try simp only [Act.put, List.getElem_toArray, List.getElem_cons_zero, List.getElem_cons_succ, List.setIfInBounds_toArray, List.set_cons_zero, List.set_cons_succ]
        refine wpAnyH_take (i := 3) (oi := _) (v := ?_) rfl (by kernel_rfl) (by kernel_rfl) (by kernel_rfl) (fun _ _ _ h => h) (Or.inl ⟨by rfl, ?_⟩) (by assumption) ?_
        rotate_left
        · (intro w hSw; (try dsimp only at hSw); go_simp; try with_reducible rfl)
        try simp only [Act.put, List.getElem_toArray, List.getElem_cons_zero, List.getElem_cons_succ, List.setIfInBounds_toArray, List.set_cons_zero, List.set_cons_succ]
        refine wpAnyH_ready (rs := [2]) (by kernel_rfl) (by simp) ?_
        refine AllReadyH.cons rfl (fun K hK => ?_) (AllReadyH.nil)
        go_simp
        go_at_call 54; (with_reducible refine (HAT.out).mono ?_); rintro e W6 ⟨A6, b6, rfl, hb6, hT6, hX6, hO6⟩
        refine hK.out _ _ ⟨(off_cell2 hO6 hN5 HAW.out 0).trans u0, (off_cell2 hO6 hN5 HAW.out 1).trans u1⟩ (fun hHeld => ?_)
        try simp only [Act.put, List.getElem_toArray, List.getElem_cons_zero, List.getElem_cons_succ, List.setIfInBounds_toArray, List.set_cons_zero, List.set_cons_succ]
        have f60 := hT6.frozen hb6 0
        have f61 := hT6.frozen hb6 1
        have c60 := hT6.cell hb6 0
        have c61 := hT6.cell hb6 1
        simp only [plc, List.getElem?_toArray, List.getElem?_cons_zero, List.getElem?_cons_succ] at c60 c61
        refine wpAnyH_take (i := 4) (oi := _) (v := ?_) rfl (by kernel_rfl) (by kernel_rfl) (by kernel_rfl) (fun _ _ _ h => h) (Or.inl ⟨by rfl, ?_⟩) (by assumption) ?_
        rotate_left
        · (intro w hSw; (try dsimp only at hSw); go_simp; try with_reducible rfl)
        try simp only [Act.put, List.getElem_toArray, List.getElem_cons_zero, List.getElem_cons_succ, List.setIfInBounds_toArray, List.set_cons_zero, List.set_cons_succ]
        refine wpAnyH_take (i := 5) (oi := _) (v := ?_) rfl (by kernel_rfl) (by kernel_rfl) (by kernel_rfl) (fun _ _ _ h => h) (Or.inl ⟨by rfl, ?_⟩) (by assumption) ?_
        rotate_left
        · (intro w hSw; (try dsimp only at hSw); go_simp; try with_reducible rfl)
        try simp only [Act.put, List.getElem_toArray, List.getElem_cons_zero, List.getElem_cons_succ, List.setIfInBounds_toArray, List.set_cons_zero, List.set_cons_succ]
        refine wpAnyH_ready (rs := [6]) (by kernel_rfl) (by simp) ?_
        refine AllReadyH.cons rfl (fun K hK => ?_) (AllReadyH.nil)
        go_simp
        have hnb : W.heap.size ≠ b6 := fun e => (ext_away hX6 (show W.heap.size < W5.drew.heap.size from hN5) HAW.out) w (by rw [e]; exact hb6)
        have hfrom := ext_from hX6 (show W.heap.size ≤ W5.drew.heap.size from HB5.out.size) (fun u c e => by have := HA.out u c e; rw [World.size_alloc] at this; omega)
        have HT7 := Lib.hid (hT6.write hb6 k v)
        have HB7 := Lib.hid (show Below W.heap.size W ((W6.setCell ⟨b6, 0, none⟩ (.int .i64 k)).setCell ⟨b6, 1, none⟩ (.int .i64 v)) from
          ((HB5.out.trans (show Below W.heap.size W5 W6 from ⟨hO6.os, hO6.tape, hO6.output, hO6.size, fun j hj => hO6.block j (by have := HB5.out.size; show j < W5.heap.size; omega) fun u e => by have := HA.out u j e; rw [World.size_alloc] at this; omega⟩)).setCell (hfrom w b6 hb6) _).setCell (hfrom w b6 hb6) _)
        have HR7 := Lib.hid ((hX6 [] _).1 HA0.out)
        refine hK.out _ _ ⟨(past2 hnb).trans ((off_cell2 hO6 hN5 HAW.out 0).trans u0), (past2 hnb).trans ((off_cell2 hO6 hN5 HAW.out 1).trans u1)⟩ (fun hHeld => ?_)
        try simp only [Act.put, List.getElem_toArray, List.getElem_cons_zero, List.getElem_cons_succ, List.setIfInBounds_toArray, List.set_cons_zero, List.set_cons_succ]
        refine wpAnyH_done (by kernel_rfl) ?_ _
        clear hK hO6 hX6 hT6 hb6 f60 f61 c60 c61 u0 u1 hfrom hHeld hnb
        generalize (W6.setCell ⟨b6, 0, none⟩ (.int .i64 k)).setCell ⟨b6, 1, none⟩ (.int .i64 v) = W7 at HT7 HB7 ⊢
        obtain ⟨out, hout⟩ : ∃ out, out = lst (setF (Fof ns) w (k, v)) 4 [] := ⟨_, rfl⟩
        have HOUT := Lib.hid (show out = putL ns p k v by rw [hout, HPW.out]; exact put_lst HV.out HW.out HNE.out k v)
        have HSH := Lib.hid (show Short 2097152 out by rw [hout]; exact lst_short.mono (by omega))
        have HLN := Lib.hid (show out.length ≤ 4096 by rw [hout]; exact lst_le (by omega) _)
        have HND := Lib.hid (nodes_c A6 _ 4 [] b W7 rfl HT7.out HR7.out)
        have HND2 := Lib.hid (show Calls Try.prog 55 #[.pointer (some ⟨b, 0, none⟩), .string ⟨#[47]⟩] W7 (fun e W' => OwnsNodes W7.heap.size out e W' ∧ Below W7.heap.size W7 W') by rw [hout]; exact HND.out)
        clear hout HND
        go_wp2_with fail
        refine HND2.out.mono ?_
        rintro e W8 ⟨⟨sl, rfl, ho8⟩, hb8⟩
        obtain ⟨a8, cap8, rfl, hn8⟩ := nodes_of_own ho8
        obtain ⟨vt, hvt⟩ : ∃ vt, validT out = vt := ⟨_, rfl⟩
        have HTV := Lib.hid (implTreeValid_c a8 out.length cap8 out (by have := HLN.out; omega) HSH.out W8 hn8)
        rw [hvt] at HTV
        have HVT := Lib.hid hvt
        have HO8 := Lib.hid ho8
        have HB8 := Lib.hid (below_next HB7.out hb8)
        clear ho8 hb8 hn8 hvt
        go_wp2_with fail
        refine HTV.out.mono ?_
        rintro e W9 ⟨rfl, hb9⟩
        have HO9 := Lib.hid (own_below HO8.out hb9)
        have HB9 := Lib.hid (below_next HB8.out hb9)
        clear hb9
        cases vt with
        | false =>
          have HG := Lib.hid (show treePut ns p k v = none by
            unfold treePut
            rw [← HOUT.out, show validT out = false from HVT.out]; simp)
          go_wp2
          refine bodyPost_ret (v := .tuple #[.slice none 0 0, .bool false]) (by simp [results, Try.f18, go_sem]) rfl (tput_nil HG.out HB9.out)
        | true =>
          have HG := Lib.hid (show treePut ns p k v = some out by
            unfold treePut
            rw [← HOUT.out, show validT out = true from HVT.out, show validT ns = true from HV.out, show validB k v = true from HVB.out, show decide (1 ≤ depB p) = true from decide_eq_true (by rw [HD.out]; omega)]; rfl)
          have hsz7 : W.heap.size ≤ W7.heap.size := HB7.out.size
          go_wp2
          refine bodyPost_ret (v := .tuple #[.slice a8 out.length cap8, .bool true]) (by simp [results, Try.f18, go_sem]) rfl ⟨_, out, true, rfl, .inl ⟨rfl, HG.out⟩, own_mono HO9.out hsz7, HB9.out⟩

end Go.Proofs.Ytdkpabnpobpdhaa

/-
  WALKS: laws.sameClashes, at lists that read alike.
-/
namespace Go.Proofs.Ytdkpabnpobpdhaa
open Go.RowKit
set_option linter.unusedVariables false

theorem rj_first : (0 : Nat) ≤ 0 := Nat.le_refl 0

theorem clNeS (a b : Nat) (w : World) : (binOp .neq 46 (.agg #[.int .i64 (a : Nat), .int .i64 (b : Nat)]) (.agg #[.int .i64 (a : Nat), .int .i64 (b : Nat)])).run Try.prog w = .ok (.bool false) w := by
  simp [binOp, go_sem, Op.equal, Op.maxDepth]

set_option maxHeartbeats 2000000 in
set_option maxRecDepth 100000 in
theorem sameClashes_c (a1 a2 : Option Addr) (len c1 c2 : Nat) (xs : List Pr2) (hl : len ≤ 2097152) (W : World) (h1 : ClashAt W a1 len xs) (h2 : ClashAt W a2 len xs) :
    Calls Try.prog 23 #[.slice a1 len c1, .slice a2 len c2] W (BoolPost true W) := by
  have H1 := Lib.hid h1
  have H2 := Lib.hid h2
  clear h1 h2
  go_enter Try.func23, Try.ntmps23
  go_wp2
  go_loopw [5] (fun i wr => ∃ n : Nat, i = .int .i64 n ∧ n ≤ len ∧ Hid (Below W.heap.size W wr)) (fun i _ => len - (intOf i).toNat)
  case atStart => exact ⟨0, rfl, by omega, Below.refl _ _⟩
  case round =>
    obtain ⟨i, rfl, hi, HB⟩ := hrel
    by_cases hlt : i < len
    · obtain ⟨b, off, n, rfl, hn, d0, d1⟩ := (H1.out.keep HB.out).node hlt
      obtain ⟨b', off', n', rfl, hn', e0, e1⟩ := (H2.out.keep HB.out).node hlt
      obtain rfl : n = n' := Option.some.inj (hn.symm.trans hn')
      have hlt' : (i : Int) < len := by omega
      have hi0 : (0 : Int) ≤ i := by omega
      have HLT := Lib.hid hlt
      obtain ⟨p, q⟩ := n
      simp only at d0 d1 e0 e1
      have hne := fun w => clNeS p q w
      clear hi hlt hn hn'
      go_wp2
      go_quiet (fail)
      have HB2 := Lib.hid (rb_drewN HB.out nq)
      clear d0 d1 e0 e1
      go_wp2
      go_roundw
      case rel => exact ⟨i + 1, by go_num, by have := HLT.out; omega, HB2⟩
      case measure => have := HLT.out; simp [intOf]; omega
    · have hge : (len : Int) ≤ i := by omega
      clear hi hlt
      go_wp2
      go_ret
      exact ⟨rfl, HB.out⟩

end Go.Proofs.Ytdkpabnpobpdhaa

/-
  WALKS: laws.sameNodes, laws.sameTexts at equal lists.
-/
namespace Go.Proofs.Ytdkpabnpobpdhaa
open Go.RowKit
set_option linter.unusedVariables false

/-- A list of texts in memory. -/
def TextsAt (W : World) (a : Option Addr) (len : Nat) (xs : List ByteArray) : Prop :=
  xs.length = len ∧ (len = 0 ∨ ∃ b off, a = some ⟨b, off, none⟩ ∧ ∀ i x, xs[i]? = some x → W.cell? ⟨b, off + i, none⟩ = some (.string x))

theorem TextsAt.keep {W W' : World} {a : Option Addr} {len : Nat} {xs : List ByteArray} (h : TextsAt W a len xs) (hb : Below W.heap.size W W') : TextsAt W' a len xs := by
  obtain ⟨h1, h0 | ⟨b, off, ha, hc⟩⟩ := h
  · exact ⟨h1, .inl h0⟩
  · exact ⟨h1, .inr ⟨b, off, ha, fun i x hx => cell_kept hb (hc i x hx)⟩⟩

theorem texts_of_own {W : World} {base : Nat} {e : TypeId} {v : Value} {xs : List ByteArray} (h : W.ownsRow base e 1 v xs.length (xs.map Value.string)) :
    ∃ a cap, v = .slice a xs.length cap ∧ TextsAt W a xs.length xs := by
  rcases h.2 with ⟨rfl, h0⟩ | ⟨g, cap, cur, rfl, h1, h2, h3, h4, h5, h6⟩
  · exact ⟨none, 0, by rw [h0], rfl, .inl h0⟩
  · refine ⟨some ⟨g, 0, none⟩, cap, rfl, rfl, .inr ⟨g, 0, rfl, fun i x hx => ?_⟩⟩
    have hi := (List.getElem?_eq_some_iff.1 hx).1
    rw [Nat.zero_add, h.cellAt i (by omega), List.getElem?_map, hx]
    rfl

theorem below_drewN {n : Nat} {W W' : World} (h : Below n W W') (k : Nat) : Below n W (W'.drewN k) := by
  have e := (drewN_cell W' k ⟨0, 0, none⟩).2.2
  exact ⟨h.os, h.tape, h.output, by rw [e]; exact h.size, fun j hj => by rw [e]; exact h.block j hj⟩

theorem TextsAt.node {W : World} {a : Option Addr} {len : Nat} {xs : List ByteArray} (h : TextsAt W a len xs) {i : Nat} (hi : i < len) :
    ∃ b off x, a = some ⟨b, off, none⟩ ∧ xs[i]? = some x ∧ W.cell? ⟨b, off + i, none⟩ = some (.string x) := by
  obtain ⟨h1, h0 | ⟨b, off, ha, hc⟩⟩ := h
  · omega
  · obtain ⟨x, hx⟩ : ∃ x, xs[i]? = some x := ⟨_, List.getElem?_eq_getElem (by omega)⟩
    exact ⟨b, off, x, ha, hx, hc i x hx⟩

end Go.Proofs.Ytdkpabnpobpdhaa

/-
  WALKS: laws.toNode, laws.toNodeS, laws.szNodeS: lists of nodes that come from outside.
-/
namespace Go.Proofs.Ytdkpabnpobpdhaa
open Go.RowKit
set_option linter.unusedVariables false

/-- A node as a value. -/
abbrev nodeV (n : Nd) : Value := .agg #[.string n.p, .int .i64 n.k, .int .i64 n.v]

def NodeRet (n : Nd) (w : World) (e : Ending) (w' : World) : Prop := e = .returned (nodeV n) ∧ Below w.heap.size w w'

theorem node_results (s : Nat) (fn : Func) (hf : fn.results = #[.cell s 106]) (W : World) (g : Nat) (n : Nd) (tmps : Array Value) (ht : tmps[s]? = some (.pointer (some ⟨g, 0, none⟩)))
    (h : W.cell? ⟨g, 0, none⟩ = some (.string n.p) ∧ W.cell? ⟨g, 1, none⟩ = some (.int .i64 n.k) ∧ W.cell? ⟨g, 2, none⟩ = some (.int .i64 n.v)) : (results fn tmps).run Try.prog W = .ok (nodeV n) W := by
  obtain ⟨c0, c1, c2⟩ := h
  simp [results, hf, go_sem, ht, c0, c1, c2]

/-- A block of cells of the call's own. -/
def Blk (W : World) (g : Nat) (cs : Array Value) (t : TypeId) : Prop := W.heap[g]? = some (.cells cs t (0, 0))

theorem blk_new (W : World) (cs : Array Value) (t : TypeId) : Blk (W.alloc (.cells cs t)) W.heap.size cs t := World.alloc_heap_new _ _
theorem Blk.lt {W : World} {g : Nat} {cs : Array Value} {t : TypeId} (h : Blk W g cs t) : g < W.heap.size := by
  unfold Blk at h
  exact (Array.getElem?_eq_some_iff.1 h).1
theorem Blk.below {W W' : World} {g : Nat} {cs : Array Value} {t : TypeId} (h : Blk W g cs t) (hb : Below W.heap.size W W') : Blk W' g cs t := (hb.block g h.lt).trans h
theorem Blk.cell {W : World} {g : Nat} {cs : Array Value} {t : TypeId} (h : Blk W g cs t) (i : Nat) : W.cell? ⟨g, i, none⟩ = cs[i]? := cell_of_row W g i cs t (0, 0) h
theorem Blk.frozen {W : World} {g : Nat} {cs : Array Value} {t : TypeId} (h : Blk W g cs t) (i : Nat) : W.frozen? ⟨g, i, none⟩ = false := frozen_of_row W g i cs t h
theorem Blk.set {W : World} {g : Nat} {cs : Array Value} {t : TypeId} (h : Blk W g cs t) (i : Nat) (u : Value) : Blk (W.setCell ⟨g, i, none⟩ u) g (cs.setIfInBounds i u) t := heap_setCell_same W g i cs t u h
theorem Blk.setOther {W : World} {g : Nat} {cs : Array Value} {t : TypeId} (h : Blk W g cs t) (a : Addr) (u : Value) (ha : g ≠ a.block) : Blk (W.setCell a u) g cs t := (heap_setCell_other W a g u ha).trans h

theorem flatN_take_set : ∀ (ns : List Nd) (i : Nat) (n : Nd) (zs : List Value), ns[i]? = some n → 3 ≤ zs.length →
    (((flatN (ns.take i) ++ zs).set (i * 3) (.string n.p)).set (i * 3 + 1) (.int .i64 n.k)).set (i * 3 + 2) (.int .i64 n.v) = flatN (ns.take (i + 1)) ++ zs.drop 3 := by
  intro ns i n zs hn hz
  have hi := (List.getElem?_eq_some_iff.1 hn).1
  have hl : (flatN (ns.take i)).length = i * 3 := by rw [flatN_length, List.length_take]; omega
  rw [List.take_add_one, hn, flatN_append]
  match zs, hz with
  | a :: b :: c :: r, _ =>
    show _ = (flatN (ns.take i) ++ [.string n.p, .int .i64 n.k, .int .i64 n.v]) ++ r
    rw [List.set_append_right _ _ (by omega), hl, show i * 3 - i * 3 = 0 by omega]
    rw [List.set_append_right _ _ (by omega), hl, show i * 3 + 1 - i * 3 = 1 by omega]
    rw [List.set_append_right _ _ (by omega), hl, show i * 3 + 2 - i * 3 = 2 by omega]
    simp

theorem below_of_none {W w : World} (h : W.grownBy w none) : Below W.heap.size W w := ⟨h.os, h.tape, h.output, h.size, fun k hk => h.block k hk (by simp)⟩

theorem stored3 {W : World} {base : Nat} {e : TypeId} {g cap n : Nat} {xs : List Value} (h : W.ownsRow base e 3 (.slice (some ⟨g, 0, none⟩) n cap) n xs) (j : Nat) (u v x : Value) :
    (((W.setCell ⟨g, j, none⟩ u).setCell ⟨g, j + 1, none⟩ v).setCell ⟨g, j + 2, none⟩ x).ownsRow base e 3 (.slice (some ⟨g, 0, none⟩) n cap) n (((xs.set j u).set (j + 1) v).set (j + 2) x) :=
  ((((h.stored j u).1.stored (j + 1) v).1).stored (j + 2) x).1

def ToRel (ns : List Nd) (len : Nat) (W : World) (i : Value) (wr : World) : Prop :=
  ∃ (n : Nat) (zs : List Value), i = .int .i64 n ∧ n ≤ len ∧ zs.length = (len - n) * 3 ∧ wr.ownsRow W.heap.size 106 3 (.slice (some ⟨W.heap.size, 0, none⟩) len len) len (flatN (ns.take n) ++ zs) ∧ Hid (Below W.heap.size W wr)

end Go.Proofs.Ytdkpabnpobpdhaa

/-
  WALKS: lists of commands in the laws: laws.toCommandS, szCommandS, eqCommandS, sameLog.
-/
namespace Go.Proofs.Ytdkpabnpobpdhaa
open Go.RowKit
set_option linter.unusedVariables false

theorem flatC_take_set : ∀ (cs : List Cmd) (i : Nat) (c : Cmd) (zs : List Value), cs[i]? = some c → 5 ≤ zs.length →
    (((((flatC (cs.take i) ++ zs).set (i * 5) (.string c.p)).set (i * 5 + 1) (.int .i64 c.fk)).set (i * 5 + 2) (.int .i64 c.fv)).set (i * 5 + 3) (.int .i64 c.tk)).set (i * 5 + 4) (.int .i64 c.tv) = flatC (cs.take (i + 1)) ++ zs.drop 5 := by
  intro cs i c zs hn hz
  have hi := (List.getElem?_eq_some_iff.1 hn).1
  have hl : (flatC (cs.take i)).length = i * 5 := by rw [flatC_length, List.length_take]; omega
  rw [List.take_add_one, hn, flatC_append]
  match zs, hz with
  | a :: b :: c' :: d :: e :: r, _ =>
    show _ = (flatC (cs.take i) ++ [.string c.p, .int .i64 c.fk, .int .i64 c.fv, .int .i64 c.tk, .int .i64 c.tv]) ++ r
    rw [List.set_append_right _ _ (by omega), hl, show i * 5 - i * 5 = 0 by omega]
    rw [List.set_append_right _ _ (by omega), hl, show i * 5 + 1 - i * 5 = 1 by omega]
    rw [List.set_append_right _ _ (by omega), hl, show i * 5 + 2 - i * 5 = 2 by omega]
    rw [List.set_append_right _ _ (by omega), hl, show i * 5 + 3 - i * 5 = 3 by omega]
    rw [List.set_append_right _ _ (by omega), hl, show i * 5 + 4 - i * 5 = 4 by omega]
    simp

theorem stored5 {W : World} {base : Nat} {e : TypeId} {g cap n : Nat} {xs : List Value} (h : W.ownsRow base e 5 (.slice (some ⟨g, 0, none⟩) n cap) n xs) (j : Nat) (u v x y z : Value) :
    (((((W.setCell ⟨g, j, none⟩ u).setCell ⟨g, j + 1, none⟩ v).setCell ⟨g, j + 2, none⟩ x).setCell ⟨g, j + 3, none⟩ y).setCell ⟨g, j + 4, none⟩ z).ownsRow base e 5 (.slice (some ⟨g, 0, none⟩) n cap) n (((((xs.set j u).set (j + 1) v).set (j + 2) x).set (j + 3) y).set (j + 4) z) :=
  ((((((h.stored j u).1.stored (j + 1) v).1).stored (j + 2) x).1.stored (j + 3) y).1.stored (j + 4) z).1

def ToRelC (cs : List Cmd) (len : Nat) (W : World) (i : Value) (wr : World) : Prop :=
  ∃ (n : Nat) (zs : List Value), i = .int .i64 n ∧ n ≤ len ∧ zs.length = (len - n) * 5 ∧ wr.ownsRow W.heap.size 26 5 (.slice (some ⟨W.heap.size, 0, none⟩) len len) len (flatC (cs.take n) ++ zs) ∧ Hid (Below W.heap.size W wr)

set_option maxHeartbeats 2000000 in
set_option maxRecDepth 100000 in
theorem toCommandS_c (a : Option Addr) (len cap : Nat) (cs : List Cmd) (hl : len ≤ 2097152) (W : World) (hN : CmdsAt W a len cs) :
    Calls Try.prog 28 #[.slice a len cap] W (CmdsPost cs W) := by
  obtain ⟨i0, hi, hz0, hz1, hz2⟩ := info_parts infoCmd
  have HN := Lib.hid hN
  have HE := Lib.hid hN.1
  have HT := Lib.hid (fun c w => toCommand_c c w)
  have HL := Lib.hid hl
  clear hN
  go_enter Try.func28, Try.ntmps28
  go_wp2_with (refine wpList_make_full _ rfl _ _ 38 rfl W.heap.size 26 i0 (.agg #[.string ⟨#[]⟩, .int .i64 0, .int .i64 0, .int .i64 0, .int .i64 0]) 5 Try.underlying38 hi hz0 hz1 .i64 .i64 _ _ len rfl rfl rfl rfl (by rw [hz2]; omega) (by unfold maxLen; omega) (Nat.le_refl _) ?_; intro w1 hown1 hg1)
  have hb1 := below_of_none hg1
  clear hg1
  go_loopw [4] (fun i wr => ToRelC cs len W i wr) (fun i _ => len - (intOf i).toNat)
  case atStart =>
    refine ⟨0, _, rfl, by omega, ?_, (by simpa [flatC_nil] using hown1), hb1⟩
    have := hown1.1
    omega
  case round =>
    obtain ⟨i, zs, rfl, hi1, hzl, hown, HB⟩ := hrel
    by_cases hlt : i < len
    · obtain ⟨b, off, n, rfl, hn, c0, c1, c2, c3, c4⟩ := (HN.out.keep HB.out).node hlt
      have hlt' : (i : Int) < len := by omega
      have HLT := Lib.hid hlt
      have HNN := Lib.hid hn
      have hz3 : 5 ≤ zs.length := by omega
      have HZ := Lib.hid (And.intro hzl hz3)
      obtain ⟨p, fk, fv, tk, tv⟩ := n
      have HTN := Lib.hid (fun w => HT.out ⟨p, fk, fv, tk, tv⟩ w)
      unfold CmdPost cmdV at HTN
      simp only at c0 c1 c2 c3 c4 HTN
      clear hi1 hlt hn hzl hz3 hown1
      go_wp2_with fail
      refine (HTN.out _).mono ?_; rintro e W2 ⟨rfl, hb2⟩
      have HO2 := Lib.hid (own_below hown hb2)
      have HB2 := Lib.hid (below_next HB.out hb2)
      clear hown hb2 c0 c1 c2 c3 c4
      have hll : (flatC (cs.take i)).length = i * 5 := by rw [flatC_length, List.length_take]; have := HE.out; have := HLT.out; omega
      have cell : ∀ j, j < 5 → ∃ u, W2.cell? ⟨W.heap.size, i * 5 + j, none⟩ = some u := by
        intro j hj
        have hx := HZ.out.1
        have hy := HLT.out
        rw [HO2.out.cellAt _ (by omega)]
        exact ⟨_, List.getElem?_eq_getElem (by rw [List.length_append, hll]; omega)⟩
      obtain ⟨u0, e0⟩ := cell 0 (by omega)
      replace e0 : W2.cell? ⟨W.heap.size, i * 5, none⟩ = some u0 := e0
      obtain ⟨u1, e1⟩ := cell 1 (by omega)
      obtain ⟨u2, e2⟩ := cell 2 (by omega)
      obtain ⟨u3, e3⟩ := cell 3 (by omega)
      obtain ⟨u4, e4⟩ := cell 4 (by omega)
      have y0 := HO2.out.frozenAt (i * 5)
      have y1 := HO2.out.frozenAt (i * 5 + 1)
      have y2 := HO2.out.frozenAt (i * 5 + 2)
      have y3 := HO2.out.frozenAt (i * 5 + 3)
      have y4 := HO2.out.frozenAt (i * 5 + 4)
      clear cell hll
      go_wp2
      have HS3 := stored5 HO2.out (i * 5) (.string p) (.int .i64 fk) (.int .i64 fv) (.int .i64 tk) (.int .i64 tv)
      rw [flatC_take_set cs i ⟨p, fk, fv, tk, tv⟩ zs HNN.out HZ.out.2] at HS3
      go_roundw
      case rel => exact ⟨i + 1, zs.drop 5, by go_num, by have := HLT.out; omega, by rw [List.length_drop]; have h1 := HZ.out.1; have h2 := HZ.out.2; have h3 := HLT.out; omega, HS3, below_setCell (below_setCell (below_setCell (below_setCell (below_setCell HB2.out _ _ (Nat.le_refl _)) _ _ (Nat.le_refl _)) _ _ (Nat.le_refl _)) _ _ (Nat.le_refl _)) _ _ (Nat.le_refl _)⟩
      case measure => have := HLT.out; simp [intOf]; omega
    · have hge : (len : Int) ≤ i := by omega
      have hz0' : zs = [] := List.eq_nil_of_length_eq_zero (by omega)
      subst hz0'
      rw [List.append_nil, List.take_of_length_le (by have := HE.out; omega)] at hown
      clear hi1 hlt
      go_wp2
      go_ret
      exact ⟨⟨_, rfl, by have h := HE.out; rw [h]; exact hown⟩, HB.out⟩

/-- What is left; if anything is, the list and its texts are of modest length. -/
def SzCmds (len : Nat) (cs : List Cmd) (w : World) (e : Ending) (w' : World) : Prop := ∃ z : Int, e = .returned (.int .i64 z) ∧ z ≤ 1048576 ∧ (0 ≤ z → len ≤ 1048576 ∧ ShortC 1048576 cs) ∧ Below w.heap.size w w'

def SzRelC (len : Nat) (cs : List Cmd) (w : World) (l i : Value) (wr : World) : Prop :=
  ∃ (n : Nat) (z : Int), i = .int .i64 n ∧ n ≤ len ∧ l = .int .i64 z ∧ Hid (0 ≤ z ∧ z ≤ 1048576) ∧ Hid (∀ j m, j < n → cs[j]? = some m → m.p.size ≤ 1048576) ∧ Hid (Below w.heap.size w wr)

set_option maxHeartbeats 1000000 in
theorem szCommandS_c (l0 : Int) (hl0 : 0 ≤ l0) (hl1 : l0 ≤ 1048576) (a : Option Addr) (len cap : Nat) (cs : List Cmd) (hlen : len ≤ maxLen) (hm : ShortC maxLen cs) (w : World) (hN : CmdsAt w a len cs) :
    Calls Try.prog 27 #[.slice a len cap, .int .i64 l0] w (SzCmds len cs w) := by
  have HN := Lib.hid hN
  have HE := Lib.hid hN.1
  have HM := Lib.hid hm
  have hl : len ≤ 9223372036854775807 := Nat.le_trans hlen (by unfold maxLen; omega)
  have hw0 : IntKind.i64.wrap (l0 - (len : Int)) = l0 - len := IntWalk.i64_in _ (by omega)
  clear hN hm hlen
  by_cases h : (len : Int) ≤ l0
  · obtain ⟨z, hz⟩ : ∃ z, l0 - len = z := ⟨_, rfl⟩
    have hzp : 0 ≤ z := by omega
    have HZ := Lib.hid (show 0 ≤ z ∧ z ≤ 1048576 by omega)
    have hw := hw0.trans hz
    have HL := Lib.hid (show len ≤ 1048576 by omega)
    have hl2 : (len : Int) ≤ 1048576 := by omega
    clear hz hl h hw0
    go_enter Try.func27, Try.ntmps27
    go_wp2
    clear hzp hw
    go_loopw [1, 5] (fun l i wr => SzRelC len cs w l i wr) (fun _ i _ => len - (intOf i).toNat)
    case atStart => exact ⟨0, z, rfl, by omega, rfl, HZ, Lib.hid (fun j m h _ => absurd h (by omega)), Below.refl _ _⟩
    case round =>
      obtain ⟨i, l, rfl, hi, rfl, HLL, HP, HB⟩ := hrel
      by_cases hlt : i < len
      · obtain ⟨b, off, n, rfl, hn, c0, c1, c2, c3, c4⟩ := (HN.out.keep HB.out).node hlt
        have hlt' : (i : Int) < len := by omega
        have HO := Lib.hid (fun w => szCommand_c n l HLL.out.1 HLL.out.2 (HM.out n (List.mem_of_getElem? hn)) w)
        have HNN := Lib.hid hn
        have HLT := Lib.hid hlt
        obtain ⟨p, fk, fv, tk, tv⟩ := n
        unfold SzCmd cmdV at HO
        simp only at c0 c1 c2 c3 c4 HO
        clear hi hlt hn
        go_wp2_with fail
        refine (HO.out _).mono ?_; rintro e W2 ⟨z2, rfl, hz0, hz1, hz2, hb2⟩
        have HB2 := Lib.hid (below_next HB.out hb2)
        clear c0 c1 c2 c3 c4 hb2
        by_cases hneg : z2 < 0
        · clear hz0 hz1 hz2
          go_wp2
          go_ret
          exact ⟨-1, rfl, by omega, fun h => absurd h (by omega), HB2.out⟩
        · have hpos : 0 ≤ z2 := by omega
          have HZ2 := Lib.hid (And.intro hpos (And.intro hz1 (hz2 hpos)))
          clear hz0 hz1 hz2 hneg
          go_wp2
          go_roundw
          case rel =>
            refine ⟨i + 1, z2, by go_num, by have := HLT.out; omega, rfl, ⟨HZ2.out.1, HZ2.out.2.1⟩, ?_, HB2⟩
            intro j m hj hm
            by_cases hji : j < i
            · exact HP.out j m hji hm
            · have : j = i := by omega
              subst this
              rw [HNN.out] at hm
              obtain rfl := Option.some.inj hm
              exact HZ2.out.2.2
          case measure => have := HLT.out; simp [intOf]; omega
      · have hge : (len : Int) ≤ i := by omega
        have HQ := Lib.hid (show len ≤ i by omega)
        clear hi hlt
        go_wp2
        go_ret
        exact ⟨l, rfl, HLL.out.2, fun _ => ⟨HL.out, fun n hn => by
          obtain ⟨j, hj⟩ := List.getElem?_of_mem hn
          exact HP.out j n (by have h1 := (List.getElem?_eq_some_iff.1 hj).1; have h2 := HE.out; have h3 := HQ.out; omega) hj⟩, HB.out⟩
  · have hz : l0 - len < 0 := by omega
    obtain ⟨z, hz'⟩ : ∃ z, l0 - len = z := ⟨_, rfl⟩
    have hw := hw0.trans hz'
    rw [hz'] at hz
    clear hz' hl h hw0
    go_enter Try.func27, Try.ntmps27
    go_wp2
    go_ret
    exact ⟨-1, rfl, by omega, fun h => absurd h (by omega), Below.refl _ _⟩

/-- Two lists of commands that read alike. -/
def EqRelC (len : Nat) (W : World) (i : Value) (wr : World) : Prop := ∃ n : Nat, i = .int .i64 n ∧ n ≤ len ∧ Hid (Below W.heap.size W wr)

set_option maxHeartbeats 2000000 in
set_option maxRecDepth 100000 in
theorem eqCommandS_c (a1 a2 : Option Addr) (len c1 c2 : Nat) (cs : List Cmd) (hl : len ≤ 2097152) (W : World) (h1 : CmdsAt W a1 len cs) (h2 : CmdsAt W a2 len cs) :
    Calls Try.prog 30 #[.slice a1 len c1, .slice a2 len c2] W (BoolPost true W) := by
  have H1 := Lib.hid h1
  have H2 := Lib.hid h2
  have HC := Lib.hid (fun c w => eqCommand_c c w)
  unfold cmdV at HC
  have hl' : (len : Int) ≤ 2097152 := by omega
  clear h1 h2
  go_enter Try.func30, Try.ntmps30
  go_wp2
  go_loopw [5] (fun i wr => EqRelC len W i wr) (fun i _ => len - (intOf i).toNat)
  case atStart => exact ⟨0, rfl, by omega, Below.refl _ _⟩
  case round =>
    obtain ⟨i, rfl, hi, HB⟩ := hrel
    by_cases hlt : i < len
    · obtain ⟨b, off, n, HA1, hn1, c0, c1, c2, c3, c4⟩ := (H1.out.keep HB.out).node hlt
      obtain ⟨b', off', n', HA2, hn2, d0, d1, d2, d3, d4⟩ := (H2.out.keep HB.out).node hlt
      obtain rfl : n' = n := by rw [hn1] at hn2; exact (Option.some.inj hn2).symm
      have hlt' : (i : Int) < len := by omega
      have hil : (i : Int) ≤ 2097152 := by omega
      have HLT := Lib.hid hlt
      obtain rfl := HA1
      obtain rfl := HA2
      obtain ⟨p, fk, fv, tk, tv⟩ := n'
      simp only at c0 c1 c2 c3 c4 d0 d1 d2 d3 d4
      have HS0 := Lib.hid (show wr.drew.cell? ⟨b, off + i * 5, none⟩ = some (.string p) ∧ wr.drew.cell? ⟨b, off + i * 5 + 1, none⟩ = some (.int .i64 fk) ∧ wr.drew.cell? ⟨b, off + i * 5 + 2, none⟩ = some (.int .i64 fv) ∧ wr.drew.cell? ⟨b, off + i * 5 + 3, none⟩ = some (.int .i64 tk) ∧ wr.drew.cell? ⟨b, off + i * 5 + 4, none⟩ = some (.int .i64 tv) ∧ wr.drew.cell? ⟨b', off' + i * 5, none⟩ = some (.string p) ∧ wr.drew.cell? ⟨b', off' + i * 5 + 1, none⟩ = some (.int .i64 fk) ∧ wr.drew.cell? ⟨b', off' + i * 5 + 2, none⟩ = some (.int .i64 fv) ∧ wr.drew.cell? ⟨b', off' + i * 5 + 3, none⟩ = some (.int .i64 tk) ∧ wr.drew.cell? ⟨b', off' + i * 5 + 4, none⟩ = some (.int .i64 tv) ∧ Below W.heap.size W wr.drew from ⟨c0, c1, c2, c3, c4, d0, d1, d2, d3, d4, HB.out.drew⟩)
      have HCX := Lib.hid (HC.out ⟨p, fk, fv, tk, tv⟩ wr.drew)
      simp only at HCX
      have HKP := Lib.hid (fun (u1 u2 : World) (h : u1.cell? ⟨b, off + i * 5, none⟩ = some (.string p) ∧ u1.cell? ⟨b, off + i * 5 + 1, none⟩ = some (.int .i64 fk) ∧ u1.cell? ⟨b, off + i * 5 + 2, none⟩ = some (.int .i64 fv) ∧ u1.cell? ⟨b, off + i * 5 + 3, none⟩ = some (.int .i64 tk) ∧ u1.cell? ⟨b, off + i * 5 + 4, none⟩ = some (.int .i64 tv) ∧ u1.cell? ⟨b', off' + i * 5, none⟩ = some (.string p) ∧ u1.cell? ⟨b', off' + i * 5 + 1, none⟩ = some (.int .i64 fk) ∧ u1.cell? ⟨b', off' + i * 5 + 2, none⟩ = some (.int .i64 fv) ∧ u1.cell? ⟨b', off' + i * 5 + 3, none⟩ = some (.int .i64 tk) ∧ u1.cell? ⟨b', off' + i * 5 + 4, none⟩ = some (.int .i64 tv) ∧ Below W.heap.size W u1) (hb : Below u1.heap.size u1 u2) => show u2.cell? ⟨b, off + i * 5, none⟩ = some (.string p) ∧ u2.cell? ⟨b, off + i * 5 + 1, none⟩ = some (.int .i64 fk) ∧ u2.cell? ⟨b, off + i * 5 + 2, none⟩ = some (.int .i64 fv) ∧ u2.cell? ⟨b, off + i * 5 + 3, none⟩ = some (.int .i64 tk) ∧ u2.cell? ⟨b, off + i * 5 + 4, none⟩ = some (.int .i64 tv) ∧ u2.cell? ⟨b', off' + i * 5, none⟩ = some (.string p) ∧ u2.cell? ⟨b', off' + i * 5 + 1, none⟩ = some (.int .i64 fk) ∧ u2.cell? ⟨b', off' + i * 5 + 2, none⟩ = some (.int .i64 fv) ∧ u2.cell? ⟨b', off' + i * 5 + 3, none⟩ = some (.int .i64 tk) ∧ u2.cell? ⟨b', off' + i * 5 + 4, none⟩ = some (.int .i64 tv) ∧ Below W.heap.size W u2 from ⟨cell_kept hb h.1, cell_kept hb h.2.1, cell_kept hb h.2.2.1, cell_kept hb h.2.2.2.1, cell_kept hb h.2.2.2.2.1, cell_kept hb h.2.2.2.2.2.1, cell_kept hb h.2.2.2.2.2.2.1, cell_kept hb h.2.2.2.2.2.2.2.1, cell_kept hb h.2.2.2.2.2.2.2.2.1, cell_kept hb h.2.2.2.2.2.2.2.2.2.1, below_next h.2.2.2.2.2.2.2.2.2.2 hb⟩)
      clear hlt hi hn1 hn2 c0 c1 c2 c3 c4 d0 d1 d2 d3 d4
      go_upto_region 6 with (fail)
      go_region_held3 (fun w' => w'.cell? ⟨b, off + i * 5, none⟩ = some (.string p) ∧ w'.cell? ⟨b, off + i * 5 + 1, none⟩ = some (.int .i64 fk) ∧ w'.cell? ⟨b, off + i * 5 + 2, none⟩ = some (.int .i64 fv) ∧ w'.cell? ⟨b, off + i * 5 + 3, none⟩ = some (.int .i64 tk) ∧ w'.cell? ⟨b, off + i * 5 + 4, none⟩ = some (.int .i64 tv) ∧ w'.cell? ⟨b', off' + i * 5, none⟩ = some (.string p) ∧ w'.cell? ⟨b', off' + i * 5 + 1, none⟩ = some (.int .i64 fk) ∧ w'.cell? ⟨b', off' + i * 5 + 2, none⟩ = some (.int .i64 fv) ∧ w'.cell? ⟨b', off' + i * 5 + 3, none⟩ = some (.int .i64 tk) ∧ w'.cell? ⟨b', off' + i * 5 + 4, none⟩ = some (.int .i64 tv) ∧ Below W.heap.size W w')
        (first | exact HS0.out | exact HKP.out _ _ HS0.out hb7)
        (first | (go_at_call 66; (with_reducible refine (HCX.out).mono ?_); rintro e W7 ⟨rfl, hb7⟩))
      rename_i hS
      have HB7 := Lib.hid hS.2.2.2.2.2.2.2.2.2.2
      clear hS
      go_wp2
      go_roundw
      case rel => exact ⟨i + 1, by go_num, by have := HLT.out; omega, HB7.out⟩
      case measure => have := HLT.out; simp [intOf]; omega
    · have hge : (len : Int) ≤ i := by omega
      clear hi hlt
      go_wp2
      go_ret
      exact ⟨rfl, HB.out⟩

end Go.Proofs.Ytdkpabnpobpdhaa

/-
  WALKS: laws.eqNode, laws.eqNodeS, at equal lists.
-/
namespace Go.Proofs.Ytdkpabnpobpdhaa
open Go.RowKit
def EqRel (len : Nat) (W : World) (i : Value) (wr : World) : Prop := ∃ n : Nat, i = .int .i64 n ∧ n ≤ len ∧ Hid (Below W.heap.size W wr)

end Go.Proofs.Ytdkpabnpobpdhaa

/-
  WALKS: laws.markText, markNodeS, markStringS, heldNodeS, heldStringS, eqStringS: what a test writes into memory of the program's, and finds again.
-/
namespace Go.Proofs.Ytdkpabnpobpdhaa
open Go.RowKit
set_option linter.unusedVariables false

/-- The digits of a number, ahead of a text. -/
def digs : Nat → Nat → ByteArray → ByteArray
  | 0, _, out => out
  | f + 1, k, out => if k = 0 then out else digs f (k / 10) (⟨#[UInt8.ofNat (48 + k % 10)]⟩ ++ out)

/-- The text of a mark. -/
def mtext (k : Nat) : ByteArray := ⟨#[109]⟩ ++ digs k k ⟨#[]⟩

theorem digs_zero (f : Nat) (out : ByteArray) : digs f 0 out = out := by cases f <;> simp [digs]
theorem digs_more : ∀ (f g k : Nat) (out : ByteArray), k ≤ f → k ≤ g → digs f k out = digs g k out
  | 0, g, k, out, h, _ => by rw [show k = 0 by omega, digs_zero, digs_zero]
  | f + 1, 0, k, out, _, h => by rw [show k = 0 by omega, digs_zero, digs_zero]
  | f + 1, g + 1, k, out, h1, h2 => by
    unfold digs
    split
    · rfl
    · exact digs_more f g _ _ (by omega) (by omega)
theorem digs_step {k : Nat} (out : ByteArray) (hk : 0 < k) : digs k k out = digs (k / 10) (k / 10) (⟨#[UInt8.ofNat (48 + k % 10)]⟩ ++ out) := by
  obtain ⟨f, rfl⟩ : ∃ f, k = f + 1 := ⟨k - 1, by omega⟩
  conv => lhs; unfold digs
  rw [if_neg (by omega)]
  exact digs_more _ _ _ _ (by omega) (by omega)

theorem convByte (w : World) (r : Nat) (hr : r ≤ 9) : (convert 22 9 (.slice (some ⟨w.heap.size, 0, none⟩) 1 1)).run Try.prog (w.alloc (.cells #[.int .u8 (48 + (r : Int))] 5)) =
    .ok (.string ⟨#[UInt8.ofNat (48 + r)]⟩) (w.alloc (.cells #[.int .u8 (48 + (r : Int))] 5)) := by
  rw [run_convert_bytes_string _ _ _ _ _ _ _ Try.underlying22 Try.underlying5 Try.underlying9, run_bytesToString _ _ _ _ [48 + (r : Int)] ?_]
  · simp only [List.foldl_cons, List.foldl_nil]
    have : (48 + (r : Int)).toNat = 48 + r := by omega
    rw [this]; rfl
  · simp [loadCells, go_sem, Addr.add]

def MarkRel (k0 : Nat) (W : World) (kv o : Value) (wr : World) : Prop :=
  ∃ (k : Nat) (out : ByteArray), kv = .int .i64 k ∧ o = .string out ∧ out.size + k ≤ k0 ∧ Hid (digs k k out = digs k0 k0 ⟨#[]⟩) ∧ Hid (Below W.heap.size W wr)

set_option maxHeartbeats 2000000 in
set_option maxRecDepth 100000 in
theorem markText_c (k0 : Nat) (h1 : 1 ≤ k0) (h2 : k0 ≤ 1099511627776) (W : World) :
    Calls Try.prog 67 #[.int .i64 k0] W fun e W' => e = .returned (.string (mtext k0)) ∧ Below W.heap.size W W' := by
  have hp : (0 : Int) < k0 := by omega
  go_enter Try.func67, Try.ntmps67
  go_wp2
  go_loopw [0, 3] (fun kv o wr => MarkRel k0 W kv o wr) (fun kv _ _ => (intOf kv).toNat)
  case atStart => exact ⟨k0, ⟨#[]⟩, rfl, rfl, by show 0 + k0 ≤ k0; omega, rfl, Below.refl _ _⟩
  case round =>
    obtain ⟨k, out, rfl, rfl, hsz, HD, HB⟩ := hrel
    by_cases hk : 0 < k
    · have hk' : (0 : Int) < k := by omega
      have hkm : (k : Int) ≤ 1099511627776 := by omega
      obtain ⟨r, hr⟩ : ∃ r, r = k % 10 := ⟨_, rfl⟩
      obtain ⟨q, hq⟩ : ∃ q, q = k / 10 := ⟨_, rfl⟩
      have hr0 : (k : Int).tmod 10 = (r : Int) := by rw [hr]; rfl
      have hq0 : (k : Int).tdiv 10 = (q : Int) := by rw [hq]; rfl
      have hr9 : (r : Int) ≤ 9 := by omega
      have hqk : q < k := by omega
      have hqm : (q : Int) ≤ 1099511627776 := by omega
      have HSZ := Lib.hid hsz
      have HQK := Lib.hid hqk
      have HDS := Lib.hid (show digs k k out = digs q q (⟨#[UInt8.ofNat (48 + r)]⟩ ++ out) by rw [hr, hq]; exact digs_step out hk)
      have hos : out.size ≤ 1099511627776 := by omega
      have hcv := convByte wr r (by omega)
      clear hk hsz hr hq hqk
      go_wp2
      have he : (48 + UInt8.ofNat r) = UInt8.ofNat (48 + r) := by rw [UInt8.ofNat_add]; rfl
      rw [he]
      go_roundw
      case rel =>
        refine ⟨q, ⟨#[UInt8.ofNat (48 + r)]⟩ ++ out, rfl, rfl, ?_, ?_, below_next HB.out (below_box _ _)⟩
        · rw [ByteArray.size_append]
          have h5 := HSZ.out
          have h6 := HQK.out
          show 1 + out.size + q ≤ k0
          omega
        · show _ = _
          rw [← HDS.out]; exact HD.out
      case measure => have := HQK.out; simp [intOf]; omega
    · have hk0 : k = 0 := by omega
      subst hk0
      have hos : out.size ≤ 1099511627776 := by omega
      have HE := Lib.hid (show ⟨#[109]⟩ ++ out = mtext k0 by unfold mtext; rw [← HD.out, digs_zero])
      clear hsz hk
      go_wp2
      refine bodyPost_ret (v := .string (⟨#[109]⟩ ++ out)) (by simp [results, Try.f67, go_sem]) rfl ⟨by rw [HE.out], HB.out⟩

/-! ## Lists of nodes -/

/-- The nodes that a test writes. -/
def markN (n : Nat) : List Nd := (List.range n).map (fun i => ⟨mtext (1 + 3 * i), 1 + 3 * (i : Int) + 1, 1 + 3 * (i : Int) + 1 + 1⟩)
theorem markN_len (n : Nat) : (markN n).length = n := by simp [markN]
theorem markN_get {n i : Nat} (h : i < n) : (markN n)[i]? = some ⟨mtext (1 + 3 * i), 1 + 3 * (i : Int) + 1, 1 + 3 * (i : Int) + 1 + 1⟩ := by
  unfold markN; rw [List.getElem?_map, List.getElem?_range h]; rfl

def MarkedRel (len base : Nat) (v : Value) (W : World) (kv i : Value) (wr : World) : Prop :=
  ∃ (n : Nat) (zs : List Value), i = .int .i64 n ∧ kv = .int .i64 (1 + 3 * (n : Int)) ∧ n ≤ len ∧ zs.length = (len - n) * 3 ∧ wr.ownsRow base 106 3 v len (flatN ((markN len).take n) ++ zs) ∧ Hid (W.grownBy wr v.ownBlock)

theorem _root_.Go.World.grownBy.set {A B : World} {g : Nat} {n cap : Nat} (h : A.grownBy B (Value.slice (some ⟨g, 0, none⟩) n cap).ownBlock) (g' i : Nat) (hg : g' = g) (u : Value) : A.grownBy (B.setCell ⟨g', i, none⟩ u) (Value.slice (some ⟨g, 0, none⟩) n cap).ownBlock := by
  subst hg
  exact ⟨h.os, h.tape, h.output, by (have hz : (B.setCell ⟨g', i, none⟩ u).heap.size = B.heap.size := by simp [World.setCell]); (rw [hz]); exact h.size, fun k hk hr => (Below.heap_setCell _ _ _ _ (fun e => hr (by rw [e]; rfl))).trans (h.block k hk hr)⟩

theorem grown_next {A B C : World} {row : Option Nat} (h : A.grownBy B row) (k : Below B.heap.size B C) : A.grownBy C row :=
  ⟨k.os.trans h.os, k.tape.trans h.tape, k.output.trans h.output, Nat.le_trans h.size k.size, fun i hi hr => (k.block i (by have := h.size; omega)).trans (h.block i hi hr)⟩

def HeldRel (len st : Nat) (W : World) (kv i : Value) (wr : World) : Prop :=
  ∃ n : Nat, i = .int .i64 n ∧ kv = .int .i64 (1 + (st : Int) * (n : Int)) ∧ n ≤ len ∧ Hid (Below W.heap.size W wr)

def markS (n : Nat) : List ByteArray := (List.range n).map (fun i => mtext (1 + i))
theorem markS_len (n : Nat) : (markS n).length = n := by simp [markS]
theorem markS_get {n i : Nat} (h : i < n) : (markS n)[i]? = some (mtext (1 + i)) := by
  unfold markS; rw [List.getElem?_map, List.getElem?_range h]; rfl

def MarkedSRel (len base : Nat) (v : Value) (W : World) (kv i : Value) (wr : World) : Prop :=
  ∃ (n : Nat) (zs : List Value), i = .int .i64 n ∧ kv = .int .i64 (1 + (n : Int)) ∧ n ≤ len ∧ zs.length = len - n ∧ wr.ownsRow base 9 1 v len (((markS len).take n).map Value.string ++ zs) ∧ Hid (W.grownBy wr v.ownBlock)

theorem take_set_one {α : Type} (l : List α) (i : Nat) (x : α) (zs : List α) (h : l.length = i) (hz : 1 ≤ zs.length) : (l ++ zs).set i x = (l ++ [x]) ++ zs.drop 1 := by
  match zs, hz with
  | a :: r, _ =>
    rw [List.set_append_right _ _ (by omega), h, Nat.sub_self]
    simp

def HeldSRel (len : Nat) (W : World) (kv i : Value) (wr : World) : Prop :=
  ∃ n : Nat, i = .int .i64 n ∧ kv = .int .i64 (1 + (n : Int)) ∧ n ≤ len ∧ Hid (Below W.heap.size W wr)

end Go.Proofs.Ytdkpabnpobpdhaa

/-
  WALKS: laws.markCommandS (from any number on), laws.heldCommandS.
-/
namespace Go.Proofs.Ytdkpabnpobpdhaa
open Go.RowKit
set_option linter.unusedVariables false

/-- The commands that a test writes. -/
def markCK (k0 n : Nat) : List Cmd := (List.range n).map (fun i => ⟨mtext (k0 + 5 * i), (k0 : Int) + 5 * (i : Int) + 1, (k0 : Int) + 5 * (i : Int) + 1 + 1, (k0 : Int) + 5 * (i : Int) + 1 + 1 + 1, (k0 : Int) + 5 * (i : Int) + 1 + 1 + 1 + 1⟩)
theorem markCK_len (k0 n : Nat) : (markCK k0 n).length = n := by simp [markCK]
theorem markCK_get {k0 n i : Nat} (h : i < n) : (markCK k0 n)[i]? = some ⟨mtext (k0 + 5 * i), (k0 : Int) + 5 * (i : Int) + 1, (k0 : Int) + 5 * (i : Int) + 1 + 1, (k0 : Int) + 5 * (i : Int) + 1 + 1 + 1, (k0 : Int) + 5 * (i : Int) + 1 + 1 + 1 + 1⟩ := by
  unfold markCK; rw [List.getElem?_map, List.getElem?_range h]; rfl

def MarkedCRel (k0 len base : Nat) (v : Value) (W : World) (kv i : Value) (wr : World) : Prop :=
  ∃ (n : Nat) (zs : List Value), i = .int .i64 n ∧ kv = .int .i64 ((k0 : Int) + 5 * (n : Int)) ∧ n ≤ len ∧ zs.length = (len - n) * 5 ∧ wr.ownsRow base 26 5 v len (flatC ((markCK k0 len).take n) ++ zs) ∧ Hid (W.grownBy wr v.ownBlock)

set_option maxHeartbeats 4000000 in
set_option maxRecDepth 100000 in
theorem markCommandS_c (v : Value) (base len k0 : Nat) (hk1 : 1 ≤ k0) (hk2 : k0 ≤ 1000000000) (xs : List Value) (hl : len ≤ 2097152) (W : World) (h : W.ownsRow base 26 5 v len xs) :
    Calls Try.prog 31 #[v, .int .i64 k0] W fun e W' => e = .returned (.int .i64 ((k0 : Int) + 5 * (len : Int))) ∧ W.grownBy W' v.ownBlock ∧ W'.ownsRow base 26 5 v len (flatC (markCK k0 len)) := by
  have HX := Lib.hid h
  have hxl := h.1
  have HMT := Lib.hid (fun k (h1 : 1 ≤ k) (h2 : k ≤ 1099511627776) w => markText_c k h1 h2 w)
  obtain ⟨a, cap, hv⟩ : ∃ a cap, v = .slice a len cap := by
    rcases own_cases h with ⟨h1, h2⟩ | ⟨g, cap, h1⟩
    · exact ⟨none, 0, by rw [h1, h2]⟩
    · exact ⟨_, cap, h1⟩
  have hl' : (len : Int) ≤ 2097152 := by omega
  have hk2' : (k0 : Int) ≤ 1000000000 := by omega
  have hk1' : (1 : Int) ≤ k0 := by omega
  clear h
  subst hv
  go_enter Try.func31, Try.ntmps31
  go_wp2
  go_loopw [1, 5] (fun kv i wr => MarkedCRel k0 len base (.slice a len cap) W kv i wr) (fun _ i _ => len - (intOf i).toNat)
  case atStart => exact ⟨0, xs, rfl, by simp, by omega, by rw [hxl]; rfl, HX.out, ⟨rfl, rfl, rfl, Nat.le_refl _, fun _ _ _ => rfl⟩⟩
  case round =>
    obtain ⟨i, zs, rfl, rfl, hi, hzl, hown, HG⟩ := hrel
    by_cases hlt : i < len
    · have hlt' : (i : Int) < len := by omega
      have hil : (i : Int) ≤ 2097152 := by omega
      have HLT := Lib.hid hlt
      have HZ := Lib.hid (And.intro hzl (show 5 ≤ zs.length by omega))
      rcases own_cases hown with ⟨_, h2⟩ | ⟨g, cap', h2⟩
      · omega
      simp at h2
      obtain ⟨rfl, rfl⟩ := h2
      have HO := Lib.hid hown
      have HM := Lib.hid (show Calls Try.prog 67 #[.int .i64 ((k0 : Int) + 5 * (i : Int))] wr (fun e W' => e = .returned (.string (mtext (k0 + 5 * i))) ∧ Below wr.heap.size wr W') by have := HMT.out (k0 + 5 * i) (by omega) (by omega) wr; rwa [show ((k0 + 5 * i : Nat) : Int) = (k0 : Int) + 5 * (i : Int) by push_cast; rfl] at this)
      clear hi hlt hzl hown
      go_wp2_with fail
      refine HM.out.mono ?_
      rintro e W2 ⟨rfl, hb2⟩
      have HO2 := Lib.hid (own_below HO.out hb2)
      have HG2 := Lib.hid (grown_next HG.out hb2)
      have hll : (flatC ((markCK k0 len).take i)).length = i * 5 := by rw [flatC_length, List.length_take, markCK_len]; have := HLT.out; omega
      have cell : ∀ j, j < 5 → ∃ u, W2.cell? ⟨g, i * 5 + j, none⟩ = some u := by
        intro j hj
        have hx := HZ.out.1
        have hy := HLT.out
        rw [HO2.out.cellAt _ (by omega)]
        exact ⟨_, List.getElem?_eq_getElem (by rw [List.length_append, hll]; omega)⟩
      obtain ⟨u0, e0⟩ := cell 0 (by omega)
      replace e0 : W2.cell? ⟨g, i * 5, none⟩ = some u0 := e0
      obtain ⟨u1, e1⟩ := cell 1 (by omega)
      obtain ⟨u2, e2⟩ := cell 2 (by omega)
      obtain ⟨u3, e3⟩ := cell 3 (by omega)
      obtain ⟨u4, e4⟩ := cell 4 (by omega)
      have y0 := HO2.out.frozenAt (i * 5)
      have y1 := HO2.out.frozenAt (i * 5 + 1)
      have y2 := HO2.out.frozenAt (i * 5 + 2)
      have y3 := HO2.out.frozenAt (i * 5 + 3)
      have y4 := HO2.out.frozenAt (i * 5 + 4)
      generalize hmt : mtext (k0 + 5 * i) = mt
      have HMTX := Lib.hid hmt
      clear cell hll hb2 hmt
      go_wp2
      have HS3 := stored5 HO2.out (i * 5) (.string mt) (.int .i64 ((k0 : Int) + 5 * (i : Int) + 1)) (.int .i64 ((k0 : Int) + 5 * (i : Int) + 1 + 1)) (.int .i64 ((k0 : Int) + 5 * (i : Int) + 1 + 1 + 1)) (.int .i64 ((k0 : Int) + 5 * (i : Int) + 1 + 1 + 1 + 1))
      rw [← HMTX.out, flatC_take_set (markCK k0 len) i _ zs (markCK_get HLT.out) HZ.out.2] at HS3
      go_roundw
      case rel =>
        refine ⟨i + 1, zs.drop 5, by push_cast; rfl, by rw [show (k0 : Int) + 5 * ((i + 1 : Nat) : Int) = (k0 : Int) + 5 * (i : Int) + 1 + 1 + 1 + 1 + 1 by omega], by have := HLT.out; omega, by rw [List.length_drop]; have h1 := HZ.out.1; have h2 := HZ.out.2; have h3 := HLT.out; omega, ?_, ?_⟩
        · rw [← HMTX.out]; exact HS3
        · exact ((((HG2.out.set _ _ rfl _).set _ _ rfl _).set _ _ rfl _).set _ _ rfl _).set _ _ rfl _
      case measure => have := HLT.out; simp [intOf]; omega
    · have hge : (len : Int) ≤ i := by omega
      have hie : i = len := by omega
      have hz0' : zs = [] := List.eq_nil_of_length_eq_zero (by omega)
      subst hz0'
      subst hie
      rw [List.append_nil, List.take_of_length_le (by rw [markCK_len]; omega)] at hown
      clear hi hlt
      go_wp2
      refine bodyPost_ret (v := .int .i64 ((k0 : Int) + 5 * (i : Int))) (by simp [results, Try.f31, go_sem]) rfl ⟨rfl, HG.out, hown⟩

def HeldCRel (len : Nat) (W : World) (kv i : Value) (wr : World) : Prop :=
  ∃ n : Nat, i = .int .i64 n ∧ kv = .int .i64 (1 + 5 * (n : Int)) ∧ n ≤ len ∧ Hid (Below W.heap.size W wr)

set_option maxHeartbeats 4000000 in
set_option maxRecDepth 100000 in
theorem heldCommandS_c (a : Option Addr) (len cap : Nat) (hl : len ≤ 2097152) (W : World) (hN : CmdsAt W a len (markCK 1 len)) :
    Calls Try.prog 36 #[.slice a len cap, .int .i64 1] W fun e W' => e = .returned (.int .i64 (1 + 5 * (len : Int))) ∧ Below W.heap.size W W' := by
  have HN := Lib.hid hN
  have HMT := Lib.hid (fun k (h1 : 1 ≤ k) (h2 : k ≤ 1099511627776) w => markText_c k h1 h2 w)
  have hl' : (len : Int) ≤ 2097152 := by omega
  clear hN
  go_enter Try.func36, Try.ntmps36
  go_wp2
  go_loopw [1, 5] (fun kv i wr => HeldCRel len W kv i wr) (fun _ i _ => len - (intOf i).toNat)
  case atStart => exact ⟨0, rfl, rfl, by omega, Below.refl _ _⟩
  case round =>
    obtain ⟨i, rfl, rfl, hi, HB⟩ := hrel
    by_cases hlt : i < len
    · obtain ⟨b, off, n, rfl, hn, c0, c1, c2, c3, c4⟩ := (HN.out.keep HB.out).node hlt
      have hlt' : (i : Int) < len := by omega
      have hil : (i : Int) ≤ 2097152 := by omega
      have HLT := Lib.hid hlt
      rw [markCK_get hlt] at hn
      obtain rfl := Option.some.inj hn
      have HM := Lib.hid (show Calls Try.prog 67 #[.int .i64 (1 + 5 * (i : Int))] wr.drew (fun e W' => e = .returned (.string (mtext (1 + 5 * i))) ∧ Below wr.drew.heap.size wr.drew W') by have := HMT.out (1 + 5 * i) (by omega) (by omega) wr.drew; rwa [show ((1 + 5 * i : Nat) : Int) = 1 + 5 * (i : Int) by push_cast; rfl] at this)
      rw [show (((1 : Nat) : Int)) = 1 from rfl] at c1 c2 c3 c4
      simp only at c0 c1 c2 c3 c4
      generalize hmt : mtext (1 + 5 * i) = mt at HM c0
      have HS0 := Lib.hid (show wr.drew.cell? ⟨b, off + i * 5, none⟩ = some (.string mt) ∧ wr.drew.cell? ⟨b, off + i * 5 + 1, none⟩ = some (.int .i64 (1 + 5 * (i : Int) + 1)) ∧ wr.drew.cell? ⟨b, off + i * 5 + 2, none⟩ = some (.int .i64 (1 + 5 * (i : Int) + 1 + 1)) ∧ wr.drew.cell? ⟨b, off + i * 5 + 3, none⟩ = some (.int .i64 (1 + 5 * (i : Int) + 1 + 1 + 1)) ∧ wr.drew.cell? ⟨b, off + i * 5 + 4, none⟩ = some (.int .i64 (1 + 5 * (i : Int) + 1 + 1 + 1 + 1)) ∧ Below W.heap.size W wr.drew from ⟨c0, c1, c2, c3, c4, HB.out.drew⟩)
      have HKP := Lib.hid (fun (u1 u2 : World) (h : u1.cell? ⟨b, off + i * 5, none⟩ = some (.string mt) ∧ u1.cell? ⟨b, off + i * 5 + 1, none⟩ = some (.int .i64 (1 + 5 * (i : Int) + 1)) ∧ u1.cell? ⟨b, off + i * 5 + 2, none⟩ = some (.int .i64 (1 + 5 * (i : Int) + 1 + 1)) ∧ u1.cell? ⟨b, off + i * 5 + 3, none⟩ = some (.int .i64 (1 + 5 * (i : Int) + 1 + 1 + 1)) ∧ u1.cell? ⟨b, off + i * 5 + 4, none⟩ = some (.int .i64 (1 + 5 * (i : Int) + 1 + 1 + 1 + 1)) ∧ Below W.heap.size W u1) (hb : Below u1.heap.size u1 u2) => show u2.cell? ⟨b, off + i * 5, none⟩ = some (.string mt) ∧ u2.cell? ⟨b, off + i * 5 + 1, none⟩ = some (.int .i64 (1 + 5 * (i : Int) + 1)) ∧ u2.cell? ⟨b, off + i * 5 + 2, none⟩ = some (.int .i64 (1 + 5 * (i : Int) + 1 + 1)) ∧ u2.cell? ⟨b, off + i * 5 + 3, none⟩ = some (.int .i64 (1 + 5 * (i : Int) + 1 + 1 + 1)) ∧ u2.cell? ⟨b, off + i * 5 + 4, none⟩ = some (.int .i64 (1 + 5 * (i : Int) + 1 + 1 + 1 + 1)) ∧ Below W.heap.size W u2 from ⟨cell_kept hb h.1, cell_kept hb h.2.1, cell_kept hb h.2.2.1, cell_kept hb h.2.2.2.1, cell_kept hb h.2.2.2.2.1, below_next h.2.2.2.2.2 hb⟩)
      clear hlt hi hn hmt c0 c1 c2 c3 c4
      go_upto_region 4 with (fail)
      go_region_held3 (fun w' => w'.cell? ⟨b, off + i * 5, none⟩ = some (.string mt) ∧ w'.cell? ⟨b, off + i * 5 + 1, none⟩ = some (.int .i64 (1 + 5 * (i : Int) + 1)) ∧ w'.cell? ⟨b, off + i * 5 + 2, none⟩ = some (.int .i64 (1 + 5 * (i : Int) + 1 + 1)) ∧ w'.cell? ⟨b, off + i * 5 + 3, none⟩ = some (.int .i64 (1 + 5 * (i : Int) + 1 + 1 + 1)) ∧ w'.cell? ⟨b, off + i * 5 + 4, none⟩ = some (.int .i64 (1 + 5 * (i : Int) + 1 + 1 + 1 + 1)) ∧ Below W.heap.size W w')
        (first | exact HS0.out | exact HKP.out _ _ HS0.out hb7)
        (first | (go_at_call 67; (with_reducible refine (HM.out).mono ?_); rintro e W7 ⟨rfl, hb7⟩))
      rename_i hS
      obtain ⟨v0, v1, v2, v3, v4, hB7⟩ := hS
      have H7 := Lib.hid hB7
      clear hB7
      go_wp2
      go_roundw
      case rel => exact ⟨i + 1, by push_cast; rfl, by rw [show 1 + 5 * ((i + 1 : Nat) : Int) = 1 + 5 * (i : Int) + 1 + 1 + 1 + 1 + 1 by omega], by have := HLT.out; omega, H7.out⟩
      case measure => have := HLT.out; simp [intOf]; omega
    · have hge : (len : Int) ≤ i := by omega
      have hie : i = len := by omega
      subst hie
      clear hi hlt
      go_wp2
      refine bodyPost_ret (v := .int .i64 (1 + 5 * (i : Int))) (by simp [results, Try.f36, go_sem]) rfl ⟨rfl, HB.out⟩

end Go.Proofs.Ytdkpabnpobpdhaa

/-
  WALKS: laws.eqClashS, markClashS, heldClashS: lists of conflicts, and what a test writes into them.
-/
namespace Go.Proofs.Ytdkpabnpobpdhaa
open Go.RowKit
set_option linter.unusedVariables false

theorem rl_first : (0 : Nat) ≤ 0 := Nat.le_refl 0

theorem clash_own {W : World} {base : Nat} {e : TypeId} {a : Option Addr} {cap : Nat} {xs : List Pr2} (h : W.ownsRow base e 2 (.slice a xs.length cap) xs.length (flatX xs)) : ClashAt W a xs.length xs := by
  obtain ⟨a', cap', e, h⟩ := clash_of_own h
  simp at e
  rw [e.1]
  exact h

set_option maxHeartbeats 400000 in
theorem eqClash_c (x y : Nat) (w : World) : Calls Try.prog 65 #[.agg #[.int .i64 (x : Nat), .int .i64 (y : Nat)], .agg #[.int .i64 (x : Nat), .int .i64 (y : Nat)]] w (BoolPost true w) := by
  go_enter Try.func65, Try.ntmps65
  go_wp2
  go_ret
  exact ⟨rfl, (below_box _ _).alloc (by simp) _⟩

set_option maxHeartbeats 2000000 in
set_option maxRecDepth 100000 in
theorem eqClashS_c (a1 a2 : Option Addr) (len c1 c2 : Nat) (xs : List Pr2) (hl : len ≤ 2097152) (W : World) (h1 : ClashAt W a1 len xs) (h2 : ClashAt W a2 len xs) :
    Calls Try.prog 29 #[.slice a1 len c1, .slice a2 len c2] W (BoolPost true W) := by
  have H1 := Lib.hid h1
  have H2 := Lib.hid h2
  have HC := Lib.hid (fun x y w => eqClash_c x y w)
  have hl' : (len : Int) ≤ 2097152 := by omega
  clear h1 h2
  go_enter Try.func29, Try.ntmps29
  go_wp2
  go_loopw [5] (fun i wr => EqRelC len W i wr) (fun i _ => len - (intOf i).toNat)
  case atStart => exact ⟨0, rfl, by omega, Below.refl _ _⟩
  case round =>
    obtain ⟨i, rfl, hi, HB⟩ := hrel
    by_cases hlt : i < len
    · obtain ⟨b, off, x, HA1, hn1, c0, c1⟩ := (H1.out.keep HB.out).node hlt
      obtain ⟨b', off', x', HA2, hn2, d0, d1⟩ := (H2.out.keep HB.out).node hlt
      obtain rfl : x' = x := by rw [hn1] at hn2; exact (Option.some.inj hn2).symm
      have hlt' : (i : Int) < len := by omega
      have hil : (i : Int) ≤ 2097152 := by omega
      have HLT := Lib.hid hlt
      obtain rfl := HA1
      obtain rfl := HA2
      obtain ⟨p, q⟩ := x'
      simp only at c0 c1 d0 d1
      have HS0 := Lib.hid (show wr.drew.cell? ⟨b, off + i * 2, none⟩ = some (.int .i64 (p : Nat)) ∧ wr.drew.cell? ⟨b, off + i * 2 + 1, none⟩ = some (.int .i64 (q : Nat)) ∧ wr.drew.cell? ⟨b', off' + i * 2, none⟩ = some (.int .i64 (p : Nat)) ∧ wr.drew.cell? ⟨b', off' + i * 2 + 1, none⟩ = some (.int .i64 (q : Nat)) ∧ Below W.heap.size W wr.drew from ⟨c0, c1, d0, d1, HB.out.drew⟩)
      have HCX := Lib.hid (HC.out p q wr.drew)
      have HKP := Lib.hid (fun (u1 u2 : World) (h : u1.cell? ⟨b, off + i * 2, none⟩ = some (.int .i64 (p : Nat)) ∧ u1.cell? ⟨b, off + i * 2 + 1, none⟩ = some (.int .i64 (q : Nat)) ∧ u1.cell? ⟨b', off' + i * 2, none⟩ = some (.int .i64 (p : Nat)) ∧ u1.cell? ⟨b', off' + i * 2 + 1, none⟩ = some (.int .i64 (q : Nat)) ∧ Below W.heap.size W u1) (hb : Below u1.heap.size u1 u2) => show u2.cell? ⟨b, off + i * 2, none⟩ = some (.int .i64 (p : Nat)) ∧ u2.cell? ⟨b, off + i * 2 + 1, none⟩ = some (.int .i64 (q : Nat)) ∧ u2.cell? ⟨b', off' + i * 2, none⟩ = some (.int .i64 (p : Nat)) ∧ u2.cell? ⟨b', off' + i * 2 + 1, none⟩ = some (.int .i64 (q : Nat)) ∧ Below W.heap.size W u2 from ⟨cell_kept hb h.1, cell_kept hb h.2.1, cell_kept hb h.2.2.1, cell_kept hb h.2.2.2.1, below_next h.2.2.2.2 hb⟩)
      clear hlt hi hn1 hn2 c0 c1 d0 d1
      go_upto_region 6 with (fail)
      go_region_held3 (fun w' => w'.cell? ⟨b, off + i * 2, none⟩ = some (.int .i64 (p : Nat)) ∧ w'.cell? ⟨b, off + i * 2 + 1, none⟩ = some (.int .i64 (q : Nat)) ∧ w'.cell? ⟨b', off' + i * 2, none⟩ = some (.int .i64 (p : Nat)) ∧ w'.cell? ⟨b', off' + i * 2 + 1, none⟩ = some (.int .i64 (q : Nat)) ∧ Below W.heap.size W w')
        (first | exact HS0.out | exact HKP.out _ _ HS0.out hb7)
        (first | (go_at_call 65; (with_reducible refine (HCX.out).mono ?_); rintro e W7 ⟨rfl, hb7⟩))
      rename_i hS
      have HB7 := Lib.hid hS.2.2.2.2
      clear hS
      go_wp2
      go_roundw
      case rel => exact ⟨i + 1, by go_num, by have := HLT.out; omega, HB7.out⟩
      case measure => have := HLT.out; simp [intOf]; omega
    · have hge : (len : Int) ≤ i := by omega
      clear hi hlt
      go_wp2
      go_ret
      exact ⟨rfl, HB.out⟩

/-- The conflicts that a test writes. -/
def markXK (k0 n : Nat) : List Pr2 := (List.range n).map (fun i => (k0 + 2 * i, k0 + 2 * i + 1))
theorem markXK_len (k0 n : Nat) : (markXK k0 n).length = n := by simp [markXK]
theorem markXK_get {k0 n i : Nat} (h : i < n) : (markXK k0 n)[i]? = some (k0 + 2 * i, k0 + 2 * i + 1) := by
  unfold markXK; rw [List.getElem?_map, List.getElem?_range h]; rfl

theorem flatX_take_set (xs : List Pr2) (i : Nat) (x : Pr2) (zs : List Value) (hn : xs[i]? = some x) (hz : 2 ≤ zs.length) :
    ((flatX (xs.take i) ++ zs).set (i * 2) (.int .i64 (x.1 : Nat))).set (i * 2 + 1) (.int .i64 (x.2 : Nat)) = flatX (xs.take (i + 1)) ++ zs.drop 2 := by
  have hi := (List.getElem?_eq_some_iff.1 hn).1
  have hl : (flatX (xs.take i)).length = i * 2 := by rw [flatX_length, List.length_take]; omega
  rw [List.take_add_one, hn, flatX_append]
  match zs, hz with
  | a :: b :: r, _ =>
    show _ = (flatX (xs.take i) ++ [.int .i64 (x.1 : Nat), .int .i64 (x.2 : Nat)]) ++ r
    rw [List.set_append_right _ _ (by omega), hl, show i * 2 - i * 2 = 0 by omega]
    rw [List.set_append_right _ _ (by omega), hl, show i * 2 + 1 - i * 2 = 1 by omega]
    simp

theorem stored2X {W : World} {base : Nat} {e : TypeId} {g cap n : Nat} {xs : List Value} (h : W.ownsRow base e 2 (.slice (some ⟨g, 0, none⟩) n cap) n xs) (j : Nat) (u v : Value) :
    ((W.setCell ⟨g, j, none⟩ u).setCell ⟨g, j + 1, none⟩ v).ownsRow base e 2 (.slice (some ⟨g, 0, none⟩) n cap) n ((xs.set j u).set (j + 1) v) :=
  ((h.stored j u).1.stored (j + 1) v).1

def MarkedXRel (k0 len base : Nat) (v : Value) (W : World) (kv i : Value) (wr : World) : Prop :=
  ∃ (n : Nat) (zs : List Value), i = .int .i64 n ∧ kv = .int .i64 ((k0 + 2 * n : Nat) : Int) ∧ n ≤ len ∧ zs.length = (len - n) * 2 ∧ wr.ownsRow base 46 2 v len (flatX ((markXK k0 len).take n) ++ zs) ∧ Hid (W.grownBy wr v.ownBlock)

set_option maxHeartbeats 4000000 in
set_option maxRecDepth 100000 in
theorem markClashS_c (v : Value) (base len k0 : Nat) (hk1 : 1 ≤ k0) (hk2 : k0 ≤ 1000000000) (xs : List Value) (hl : len ≤ 2097152) (W : World) (h : W.ownsRow base 46 2 v len xs) :
    Calls Try.prog 32 #[v, .int .i64 k0] W fun e W' => e = .returned (.int .i64 ((k0 + 2 * len : Nat) : Int)) ∧ W.grownBy W' v.ownBlock ∧ W'.ownsRow base 46 2 v len (flatX (markXK k0 len)) := by
  have HX := Lib.hid h
  have hxl := h.1
  obtain ⟨a, cap, hv⟩ : ∃ a cap, v = .slice a len cap := by
    rcases own_cases h with ⟨h1, h2⟩ | ⟨g, cap, h1⟩
    · exact ⟨none, 0, by rw [h1, h2]⟩
    · exact ⟨_, cap, h1⟩
  have hl' : (len : Int) ≤ 2097152 := by omega
  have hk2' : (k0 : Int) ≤ 1000000000 := by omega
  have hk1' : (1 : Int) ≤ k0 := by omega
  clear h
  subst hv
  go_enter Try.func32, Try.ntmps32
  go_wp2
  go_loopw [1, 5] (fun kv i wr => MarkedXRel k0 len base (.slice a len cap) W kv i wr) (fun _ i _ => len - (intOf i).toNat)
  case atStart => exact ⟨0, xs, rfl, by simp, by omega, by rw [hxl]; rfl, HX.out, ⟨rfl, rfl, rfl, Nat.le_refl _, fun _ _ _ => rfl⟩⟩
  case round =>
    obtain ⟨i, zs, rfl, rfl, hi, hzl, hown, HG⟩ := hrel
    by_cases hlt : i < len
    · have hlt' : (i : Int) < len := by omega
      have hil : (i : Int) ≤ 2097152 := by omega
      have HLT := Lib.hid hlt
      have HZ := Lib.hid (And.intro hzl (show 2 ≤ zs.length by omega))
      rcases own_cases hown with ⟨_, h2⟩ | ⟨g, cap', h2⟩
      · omega
      simp at h2
      obtain ⟨rfl, rfl⟩ := h2
      have HO := Lib.hid hown
      have hll : (flatX ((markXK k0 len).take i)).length = i * 2 := by rw [flatX_length, List.length_take, markXK_len]; have := HLT.out; omega
      have cell : ∀ j, j < 2 → ∃ u, wr.cell? ⟨g, i * 2 + j, none⟩ = some u := by
        intro j hj
        have hx := HZ.out.1
        have hy := HLT.out
        rw [HO.out.cellAt _ (by omega)]
        exact ⟨_, List.getElem?_eq_getElem (by rw [List.length_append, hll]; omega)⟩
      obtain ⟨u0, e0⟩ := cell 0 (by omega)
      replace e0 : wr.cell? ⟨g, i * 2, none⟩ = some u0 := e0
      obtain ⟨u1, e1⟩ := cell 1 (by omega)
      have y0 := HO.out.frozenAt (i * 2)
      have y1 := HO.out.frozenAt (i * 2 + 1)
      obtain ⟨kk, hkk⟩ : ∃ kk : Nat, kk = k0 + 2 * i := ⟨_, rfl⟩
      have HKK := Lib.hid hkk
      have hkb : (kk : Int) ≤ 2199023255552 := by omega
      rw [← hkk]
      have HS3 := Lib.hid (stored2X HO.out (i * 2) (.int .i64 ((kk : Nat) : Int)) (.int .i64 ((kk : Int) + 1)))
      clear cell hll hi hlt hzl hown hkk
      go_wp2
      have HS4 := HS3.out
      rw [show ((kk : Int) + 1) = ((kk + 1 : Nat) : Int) by omega] at HS4
      rw [flatX_take_set (markXK k0 len) i (kk, kk + 1) zs (by rw [markXK_get HLT.out, HKK.out]) HZ.out.2] at HS4
      rw [show ((kk + 1 : Nat) : Int) = (kk : Int) + 1 by omega] at HS4
      go_roundw
      case rel =>
        refine ⟨i + 1, zs.drop 2, by push_cast; rfl, by rw [show k0 + 2 * (i + 1) = kk + 1 + 1 by have := HKK.out; omega]; go_num, by have := HLT.out; omega, by rw [List.length_drop]; have h1 := HZ.out.1; have h2 := HZ.out.2; have h3 := HLT.out; omega, HS4, ?_⟩
        exact (HG.out.set _ _ rfl _).set _ _ rfl _
      case measure => have := HLT.out; simp [intOf]; omega
    · have hge : (len : Int) ≤ i := by omega
      have hie : i = len := by omega
      have hz0' : zs = [] := List.eq_nil_of_length_eq_zero (by omega)
      subst hz0'
      subst hie
      rw [List.append_nil, List.take_of_length_le (by rw [markXK_len]; omega)] at hown
      clear hi hlt
      go_wp2
      refine bodyPost_ret (v := .int .i64 ((k0 + 2 * i : Nat) : Int)) (by simp [results, Try.f32, go_sem]) rfl ⟨rfl, HG.out, hown⟩

def HeldXRel (len : Nat) (W : World) (kv i : Value) (wr : World) : Prop :=
  ∃ n : Nat, i = .int .i64 n ∧ kv = .int .i64 ((1 + 2 * n : Nat) : Int) ∧ n ≤ len ∧ wr = W

set_option maxHeartbeats 4000000 in
set_option maxRecDepth 100000 in
theorem heldClashS_c (a : Option Addr) (len cap : Nat) (hl : len ≤ 2097152) (W : World) (hN : ClashAt W a len (markXK 1 len)) :
    Calls Try.prog 33 #[.slice a len cap, .int .i64 1] W fun e W' => e = .returned (.int .i64 ((1 + 2 * len : Nat) : Int)) ∧ Below W.heap.size W W' := by
  have HN := Lib.hid hN
  have hl' : (len : Int) ≤ 2097152 := by omega
  clear hN
  go_enter Try.func33, Try.ntmps33
  go_wp2
  go_loopw [1, 5] (fun kv i wr => HeldXRel len W kv i wr) (fun _ i _ => len - (intOf i).toNat)
  case atStart => exact ⟨0, rfl, rfl, by omega, rfl⟩
  case round =>
    obtain ⟨i, rfl, rfl, hi, rfl⟩ := hrel
    by_cases hlt : i < len
    · obtain ⟨b, off, n, rfl, hn, c0, c1⟩ := HN.out.node hlt
      have hlt' : (i : Int) < len := by omega
      have hil : (i : Int) ≤ 2097152 := by omega
      have HLT := Lib.hid hlt
      rw [markXK_get hlt] at hn
      obtain rfl := Option.some.inj hn
      obtain ⟨kk, hkk⟩ : ∃ kk : Nat, kk = 1 + 2 * i := ⟨_, rfl⟩
      have HKK := Lib.hid hkk
      have hkb : (kk : Int) ≤ 2199023255552 := by omega
      simp only at c0 c1
      rw [← hkk] at c0 c1 ⊢
      rw [show ((kk + 1 : Nat) : Int) = (kk : Int) + 1 by omega] at c1
      clear hlt hi hn hkk
      go_wp2
      go_roundw
      case rel => exact ⟨i + 1, by go_num, by rw [show 1 + 2 * (i + 1) = kk + 1 + 1 by have := HKK.out; omega]; go_num, by have := HLT.out; omega, rfl⟩
      case measure => have := HLT.out; simp [intOf]; omega
    · have hge : (len : Int) ≤ i := by omega
      have hie : i = len := by omega
      subst hie
      clear hi hlt
      go_wp2
      refine bodyPost_ret (v := .int .i64 ((1 + 2 * i : Nat) : Int)) (by simp [results, Try.f33, go_sem]) rfl ⟨rfl, Below.refl _ _⟩

end Go.Proofs.Ytdkpabnpobpdhaa
