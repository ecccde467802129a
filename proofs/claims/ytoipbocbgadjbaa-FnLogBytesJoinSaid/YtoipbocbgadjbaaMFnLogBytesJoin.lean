/-
  laws.FnLogBytesJoin returns true for every input, and leaves its arguments as they were.
  Conditions: none.
-/
import Derived.Test.YtoipbocbgadjbaaRows
import Derived.WalkKit
import Derived.ProofKit
import Derived.OpenShut
import Derived.ShutString
import Derived.ChangeOld
import Derived.Below
import Derived.Test.YtoipbocbgadjbaaQ7
import Derived.Test.YtoipbocbgadjbaaQ9
namespace Go.Proofs.Ytoipbocbgadjbaa.fnLogBytesJoin
open Go.ChangeShapes Go.WideShapes Go.ChangeAt Go.RowKit
open Go.ChangeMaps (open_string shut_string)
set_option linter.unusedVariables false

theorem own : ownKnob Try.prog.godebug = none := by kernel_rfl
theorem laidOut : laidOutB Try.prog = true := by kernel_rfl

theorem lpost_len {cs : List Cmd} {o : List Int} {b : Bool} (h : (b = true ∧ logBytes cs = some o) ∨ (b = false ∧ logBytes cs = none ∧ o = [])) : o.length ≤ 720 := by
  rcases h with ⟨_, h⟩ | ⟨_, _, rfl⟩
  · cases hv : validL cs with
    | true =>
      rw [logBytes_yes hv] at h
      injection h with h
      have := frames_len hv
      rw [← h]
      omega
    | false => rw [logBytes_no hv] at h; cases h
  · simp
theorem lpost_yes {cs : List Cmd} {o out : List Int} {b : Bool} (hs : logBytes cs = some out) (h : (b = true ∧ logBytes cs = some o) ∨ (b = false ∧ logBytes cs = none ∧ o = [])) : b = true ∧ o = out := by
  rcases h with ⟨h1, h2⟩ | ⟨_, h2, _⟩
  · rw [hs] at h2; injection h2 with h2; exact ⟨h1, h2.symm⟩
  · rw [hs] at h2; cases h2
theorem logBytes_some {cs : List Cmd} {o : List Int} (h : logBytes cs = some o) : validL cs = true ∧ cs.length ≤ 20 ∧ framesL (cs.map cmdBytes) = o := by
  cases hv : validL cs with
  | true =>
    rw [logBytes_yes hv] at h
    injection h with h
    exact ⟨rfl, ((validL_iff cs).1 hv).2, h⟩
  | false => rw [logBytes_no hv] at h; cases h
theorem logBytes_take {cs : List Cmd} {o : List Int} (h : logBytes cs = some o) (k : Nat) : logBytes (cs.take k) = some (framesL ((cs.take k).map cmdBytes)) ∧ logBytes (cs.drop k) = some (framesL ((cs.drop k).map cmdBytes)) ∧ framesL ((cs.take k).map cmdBytes) ++ framesL ((cs.drop k).map cmdBytes) = o := by
  obtain ⟨h1, _, h3⟩ := logBytes_some h
  exact ⟨logBytes_yes (validL_take h1 k), logBytes_yes (validL_drop h1 k), by rw [← h3]; exact (log_join cs k).symm⟩
theorem shortC_takeJ {m : Nat} {cs : List Cmd} (h : ShortC m cs) (k : Nat) : ShortC m (cs.take k) := fun c hc => h c (List.mem_of_mem_take hc)
theorem shortC_dropJ {m : Nat} {cs : List Cmd} (h : ShortC m cs) (k : Nat) : ShortC m (cs.drop k) := fun c hc => h c (List.mem_of_mem_drop hc)
theorem cmds_takeJ {W : World} {a : Option Addr} {len k : Nat} {cs : List Cmd} (h : CmdsAt W a len cs) (hk : k ≤ len) : CmdsAt W a k (cs.take k) := by
  obtain ⟨h1, h0 | ⟨b, off, rfl, hc⟩⟩ := h
  · exact ⟨by rw [List.length_take]; omega, .inl (by omega)⟩
  · have := CmdsAt.part (W := W) (b := b) (off := off) (len := len) (cs := cs) ⟨h1, .inr ⟨b, off, rfl, hc⟩⟩ 0 k (Nat.zero_le _) hk
    simpa using this
theorem cmds_dropJ {W : World} {g len k : Nat} {cs : List Cmd} (h : CmdsAt W (some ⟨g, 0, none⟩) len cs) (hk : k ≤ len) : CmdsAt W (some ⟨g, k * 5, none⟩) (len - k) (cs.drop k) := by
  have := h.part k len hk (Nat.le_refl _)
  rw [Nat.zero_add, List.take_of_length_le (by rw [List.length_drop, h.1]; exact Nat.le_refl _)] at this
  exact this

set_option maxHeartbeats 2000000 in
set_option maxRecDepth 100000 in
theorem walk (a0 : Option Addr) (len0 cap0 : Nat) (z0 : List Int) (a1 : Option Addr) (len1 cap1 : Nat) (z1 : List Int) (w : World) (w0 : IsRow .u8 w a0 len0 cap0 z0) (w1 : IsRow .u8 w a1 len1 cap1 z1) :
    Calls Try.prog 5 #[.slice a0 len0 cap0, .slice a1 len1 cap1] w fun e w' => e = .returned (.bool true) ∧ Below w.heap.size w w' := by
  clear w1
  by_cases h : len0 ≤ 1048576
  · have hl : (len0 : Int) ≤ 1048576 := by omega
    by_cases h1 : len1 ≤ 1048576
    · have hl1 : (len1 : Int) ≤ 1048576 := by omega
      have HD := Lib.hid (drawLogBytes_c a0 len0 cap0 z0 w w0)
      clear h w0 h1
      go_enter Try.func5, Try.ntmps5
      go_wp2_with fail
      refine HD.out.mono ?_
      rintro e W1 hd
      obtain ⟨sl, cs, rfl, hown, hlen, hsh, hb1⟩ := hd
      obtain ⟨a, cap, rfl, hcl, hcm⟩ := own_caps hown
      have ht := cmds_own hown
      have HA := Lib.hid (show cap ≠ 0 → ∃ g, a = some ⟨g, 0, none⟩ by
        intro hne
        rcases hown.2 with ⟨e, _⟩ | ⟨g, cp, cur, e, _⟩
        · injection e with _ _ e3; exact absurd e3 hne
        · injection e with e1 _ _; exact ⟨g, e1⟩)
      have HT := Lib.hid ht
      have HSH := Lib.hid hsh
      have HB1 := Lib.hid hb1
      have HCP := Lib.hid (And.intro hcl hcm)
      have HI := Lib.hid (implLogBytes_c a cs.length cap cs (by omega) (hsh.mono (by omega)) W1 ht)
      have HS := Lib.hid (fun W' (hb : Below W1.heap.size W1 W') => specLogBytes_c a cs.length cap cs (by omega) (hsh.mono (by omega)) W' (ht.keep hb))
      obtain ⟨ln, hln⟩ : ∃ ln, cs.length = ln := ⟨_, rfl⟩
      rw [hln] at HI HS HT HCP hlen ⊢
      have HLN := Lib.hid hln
      clear hown ht hsh hcl hcm hb1 hln
      go_wp2_with fail
      refine HI.out.mono ?_
      rintro e W2 h2
      obtain ⟨a2, c2, out, b, rfl, hr, hi2, hc2, hm2, hb2⟩ := h2.at
      have HR := Lib.hid hr
      have HOL := Lib.hid (lpost_len hr)
      have HI2 := Lib.hid hi2
      have HC2 := Lib.hid (And.intro hc2 hm2)
      have HB2 := Lib.hid hb2
      clear h2 hr hi2 hc2 hm2 hb2
      obtain ⟨fl, hfl⟩ : ∃ fl, out.length = fl := ⟨_, rfl⟩
      rw [hfl] at HI2 HC2 HOL ⊢
      have HFE := Lib.hid hfl
      clear hfl
      go_wp2_with fail
      refine (HS.out _ HB2.out).mono ?_
      rintro e W3 h3
      obtain ⟨a3, c3, out', b', rfl, hr', hi3, -, -, hb3⟩ := h3.at
      obtain ⟨rfl, rfl⟩ := fpost_same HR.out hr'
      have HB3 := Lib.hid (below_next HB2.out hb3)
      have HI3 := Lib.hid hi3
      have HI23 := Lib.hid (HI2.out.keep hb3)
      clear h3 hr' hi3 hb3
      rw [HFE.out] at HI3 ⊢
      have HSI := Lib.hid (fun W' (hb : Below W3.heap.size W3 W') => sameInts_c a2 a3 fl c2 c3 out' (by have := HOL.out; omega) W' (HI23.out.keep hb) (HI3.out.keep hb))
      have hbb : (b' != b') = false := by simp
      have hbe : (b' == b') = true := by simp
      go_wp2_with fail
      refine (HSI.out _ (Below.refl _ _)).mono ?_
      rintro e W4 ⟨rfl, hb4⟩
      have HB4 := Lib.hid hb4
      clear hb4
      cases b' with
      | false =>
        go_wp2_with fail
        refine (HSI.out _ HB4.out).mono ?_
        rintro e W5 ⟨rfl, hb5⟩
        go_wp2
        go_ret
        exact ⟨rfl, below_next HB1.out (below_next HB3.out (below_next HB4.out hb5))⟩
      | true =>
        have hr : logBytes cs = some out' := by
          rcases HR.out with ⟨_, h⟩ | ⟨h, _⟩
          · exact h
          · cases h
        have HFO := Lib.hid hr
        obtain ⟨hok, h40, hof⟩ := logBytes_some hr
        have HOK := Lib.hid hok
        have HOF := Lib.hid hof
        rw [HLN.out] at h40
        clear hr hok hof
        have hrem := rem_nat len1 (ln + 1) (by omega)
        rw [show ((ln + 1 : Nat) : Int) = (ln : Int) + 1 by push_cast; rfl] at hrem
        obtain ⟨k, hk⟩ : ∃ k, k = len1 % (ln + 1) := ⟨_, rfl⟩
        rw [← hk] at hrem
        have hkl : k ≤ ln := by have := Nat.mod_lt len1 (show 0 < ln + 1 by omega); omega
        have hkl' : (k : Int) ≤ ln := by omega
        have hln40 : (ln : Int) ≤ 40 := by omega
        have hcapb : (ln : Int) ≤ cap := by have := HCP.out.1; omega
        have hkc : (k : Int) ≤ cap := by omega
        have hcapb2 : cap ≤ 9223372036854775807 := Nat.le_trans HCP.out.2 (by unfold maxLen; omega)
        obtain ⟨f1, f2, f3⟩ := logBytes_take HFO.out k
        obtain ⟨L1, hL1⟩ : ∃ L, framesL ((cs.take k).map cmdBytes) = L := ⟨_, rfl⟩
        obtain ⟨L2, hL2⟩ : ∃ L, framesL ((cs.drop k).map cmdBytes) = L := ⟨_, rfl⟩
        rw [hL1] at f1 f3
        rw [hL2] at f2 f3
        clear hL1 hL2
        have HF1 := Lib.hid f1
        have HF2 := Lib.hid f2
        have HF3 := Lib.hid f3
        have HKL := Lib.hid hkl
        have HX := Lib.hid (fun W' (hb : Below W1.heap.size W1 W') => implLogBytes_c a k cap (cs.take k) (by omega) ((shortC_takeJ HSH.out k).mono (by omega)) W' (cmds_takeJ (HT.out.keep hb) hkl))
        clear hk hkl f1 f2 f3
        by_cases hck : cap = k
        · have hlk : ln = k := by have := HCP.out.1; have := HKL.out; omega
          subst hck
          subst hlk
          have HY := Lib.hid (fun W' (hb : Below W1.heap.size W1 W') => implLogBytes_c a 0 0 (cs.drop ln) (by omega) ((shortC_dropJ HSH.out ln).mono (by omega)) W' ⟨by rw [List.length_drop, HLN.out]; omega, .inl rfl⟩)
          go_wp2_with fail
          refine (HX.out _ (below_next HB3.out HB4.out)).mono ?_
          rintro e W5 h5
          obtain ⟨a5, c5, o5, b5, rfl, hr5, hi5, hc5, hb5⟩ := h5.at2
          obtain ⟨rfl, rfl⟩ := lpost_yes HF1.out hr5
          have HI5 := Lib.hid hi5
          have HO5 := Lib.hid (HI23.out.keep (below_next HB4.out hb5))
          have HC5 := Lib.hid hc5
          have HB5 := Lib.hid (below_next (below_next HB3.out HB4.out) hb5)
          clear h5 hr5 hi5 hc5 hb5
          go_wp2_with fail
          refine (HY.out _ HB5.out).mono ?_
          rintro e W6 h6
          obtain ⟨a6, c6, o6, b6, rfl, hr6, hi6, hc6, hb6⟩ := h6.at2
          obtain ⟨rfl, rfl⟩ := lpost_yes HF2.out hr6
          have HI6 := Lib.hid hi6
          have HO6 := Lib.hid (HO5.out.keep hb6)
          have HC6 := Lib.hid hc6
          have HI56 := Lib.hid (HI5.out.keep hb6)
          have HB6 := Lib.hid (below_next HB5.out hb6)
          have HLL := Lib.hid (show o5.length + o6.length ≤ 720 by
            have h8 := congrArg List.length HF3.out
            rw [List.length_append, HFE.out] at h8
            have := HOL.out
            omega)
          clear h6 hr6 hi6 hc6 hb6
          go_wp2_with (first
            | (at_builtin; refine wpList_append_ints (by simp [Region.wanted, yielded, go_sem]) _ _ rfl W6.heap.size v7 o5 rfl ho7 a6 _ c6 o6 rfl (HI6.out.keep ((below_box W6 _).grown hg7 (by simp) (fun k e => by cases e; exact Nat.le_refl _))) HC6.out (by have := HLL.out; omega) (Nat.le_trans (by simp) hg7.size) ?_; intro v8 w8 ho8 hg8)
            | (at_builtin; refine wpList_append_ints (by simp [Region.wanted, yielded, go_sem]) _ _ rfl W6.heap.size _ [] rfl (World.ownsRow_lit (e := 3) (size := 1) W6 #[] 0 (Nat.le_refl _) (by simp [maxLen]) rfl) a5 _ c5 o5 rfl (HI56.out.keep (below_box W6 _)) HC5.out (by have := HLL.out; simp; omega) (by simp) ?_; intro v7 w7 ho7 hg7; rw [List.nil_append] at ho7))
          have B7 := (below_box W6 _).grown hg7 (by simp) (fun k e => by cases e; exact Nat.le_refl _)
          have B8 := B7.grown hg8 B7.size (fun g e => (ho7.lt g e).1)
          rw [HF3.out] at ho8
          obtain ⟨a8, c8, rfl, hi8⟩ := ints_of_own ho8
          rw [HFE.out] at hi8 ⊢
          have HSL := Lib.hid (sameInts_c a8 a2 fl c8 c2 out' (by have := HOL.out; omega) w8 hi8 (HO6.out.keep B8))
          have HB8 := Lib.hid (below_next HB6.out B8)
          clear ho7 hg7 ho8 hg8 hi8 B7 B8
          refine HSL.out.mono ?_
          rintro e W9 ⟨rfl, hb9⟩
          have HB9 := Lib.hid (below_next HB1.out (below_next HB8.out hb9))
          clear hb9
          go_wp2
          go_ret
          exact ⟨rfl, HB9.out⟩
        · obtain ⟨g, rfl⟩ := HA.out (by have h1 := HCP.out.1; have h2 := HKL.out; intro h0; apply hck; omega)
          have HY := Lib.hid (fun W' (hb : Below W1.heap.size W1 W') => implLogBytes_c (some ⟨g, k * 5, none⟩) (ln - k) (cap - k) (cs.drop k) (by omega) ((shortC_dropJ HSH.out k).mono (by omega)) W' (cmds_dropJ (HT.out.keep hb) HKL.out))
          go_wp2_with fail
          refine (HX.out _ (below_next HB3.out HB4.out)).mono ?_
          rintro e W5 h5
          obtain ⟨a5, c5, o5, b5, rfl, hr5, hi5, hc5, hb5⟩ := h5.at2
          obtain ⟨rfl, rfl⟩ := lpost_yes HF1.out hr5
          have HI5 := Lib.hid hi5
          have HO5 := Lib.hid (HI23.out.keep (below_next HB4.out hb5))
          have HC5 := Lib.hid hc5
          have HB5 := Lib.hid (below_next (below_next HB3.out HB4.out) hb5)
          clear h5 hr5 hi5 hc5 hb5
          go_wp2_with fail
          refine (HY.out _ HB5.out).mono ?_
          rintro e W6 h6
          obtain ⟨a6, c6, o6, b6, rfl, hr6, hi6, hc6, hb6⟩ := h6.at2
          obtain ⟨rfl, rfl⟩ := lpost_yes HF2.out hr6
          have HI6 := Lib.hid hi6
          have HO6 := Lib.hid (HO5.out.keep hb6)
          have HC6 := Lib.hid hc6
          have HI56 := Lib.hid (HI5.out.keep hb6)
          have HB6 := Lib.hid (below_next HB5.out hb6)
          have HLL := Lib.hid (show o5.length + o6.length ≤ 720 by
            have h8 := congrArg List.length HF3.out
            rw [List.length_append, HFE.out] at h8
            have := HOL.out
            omega)
          clear h6 hr6 hi6 hc6 hb6
          go_wp2_with (first
            | (at_builtin; refine wpList_append_ints (by simp [Region.wanted, yielded, go_sem]) _ _ rfl W6.heap.size v7 o5 rfl ho7 a6 _ c6 o6 rfl (HI6.out.keep ((below_box W6 _).grown hg7 (by simp) (fun k e => by cases e; exact Nat.le_refl _))) HC6.out (by have := HLL.out; omega) (Nat.le_trans (by simp) hg7.size) ?_; intro v8 w8 ho8 hg8)
            | (at_builtin; refine wpList_append_ints (by simp [Region.wanted, yielded, go_sem]) _ _ rfl W6.heap.size _ [] rfl (World.ownsRow_lit (e := 3) (size := 1) W6 #[] 0 (Nat.le_refl _) (by simp [maxLen]) rfl) a5 _ c5 o5 rfl (HI56.out.keep (below_box W6 _)) HC5.out (by have := HLL.out; simp; omega) (by simp) ?_; intro v7 w7 ho7 hg7; rw [List.nil_append] at ho7))
          have B7 := (below_box W6 _).grown hg7 (by simp) (fun k e => by cases e; exact Nat.le_refl _)
          have B8 := B7.grown hg8 B7.size (fun g e => (ho7.lt g e).1)
          rw [HF3.out] at ho8
          obtain ⟨a8, c8, rfl, hi8⟩ := ints_of_own ho8
          rw [HFE.out] at hi8 ⊢
          have HSL := Lib.hid (sameInts_c a8 a2 fl c8 c2 out' (by have := HOL.out; omega) w8 hi8 (HO6.out.keep B8))
          have HB8 := Lib.hid (below_next HB6.out B8)
          clear ho7 hg7 ho8 hg8 hi8 B7 B8
          refine HSL.out.mono ?_
          rintro e W9 ⟨rfl, hb9⟩
          have HB9 := Lib.hid (below_next HB1.out (below_next HB8.out hb9))
          clear hb9
          go_wp2
          go_ret
          exact ⟨rfl, HB9.out⟩
    · have hl1 : (1048576 : Int) < len1 := by omega
      clear h h1 w0
      go_enter Try.func5, Try.ntmps5
      go_wp2
      go_ret
      exact ⟨rfl, Below.refl _ _⟩
  · have hl : (1048576 : Int) < len0 := by omega
    clear h w0
    go_enter Try.func5, Try.ntmps5
    go_wp2
    go_ret
    exact ⟨rfl, Below.refl _ _⟩




set_option maxRecDepth 100000 in
theorem lifted (os : Os) (started : os.Started) (H : Type) (enc : TypeId × Value → H) :
    ReturnsInHanded {} Try.checked os 5 .any (Rows.fnLogBytesJoinSpec.pre6 enc Try.prog Try.f5 Rows.fnLogBytesJoinRow.domain false) (Rows.fnLogBytesJoinSpec.post enc Try.prog Try.f5 false true false false) := by
  refine returnsInHanded_of_change (C := Try.checked) own started (by kernel_rfl) Try.func5
    (ChangeSpec.witness6 (enc := enc) (C := Try.checked) false ⟨#[], #[.slice none 0 0, .slice none 0 0], []⟩ 8 (by kernel_rfl) (by kernel_rfl) (by kernel_rfl) (by kernel_rfl)) ?_
  intro W base args ds gs before hval0 hW hcnd _
  have hval : ∀ (j : Nat) t v, Try.f5.params[j]? = some t → args[j]? = some v → Value.okWide Try.prog W .any base t v := hval0
  have hW' := hW
  obtain ⟨p, q, hA0, hV, rfl, hfz, hnd⟩ := hW
  have hA : DataW.TrodAll enc Try.prog W 0 (fun _ => true) true Try.f5.params.toList args.toList ds p := hA0
  rw [Try.params5] at hA hval
  obtain ⟨v0, vs0, d0, ds0, p0, q0, hargs, rfl, rfl, h0, r0⟩ := trodAll_cons hA
  obtain ⟨v1, vs1, d1, ds1, p1, q1, rfl, rfl, rfl, h1, r1⟩ := trodAll_cons r0
  obtain ⟨rfl, rfl, rfl⟩ := trodAll_nil r1
  obtain rfl : args = #[v0, v1] := by cases args; simp_all
  obtain ⟨rfl, rfl⟩ := trodVars_none hV
  obtain ⟨a0, len0, cap0, rfl⟩ := okWide_slice Try.underlying22 (hval 0 22 v0 rfl rfl)
  have k0 := h0
  have lt0 : ∀ x ∈ p0, x.block < W.heap.size := by obtain ⟨m, hm⟩ := k0; exact DataW.trod_lt m _ _ _ hm
  obtain ⟨z0, w0⟩ : ∃ zs, IsRow .u8 W a0 len0 cap0 zs := by
    obtain ⟨fuel, hf⟩ := h0
    rcases _root_.Go.ChangeShapes.open_ints Try.underlying22 Try.underlying5 (by kernel_rfl) hf with ⟨hcs, _⟩ | ⟨x, l, c, zs, hcs, _, hl, hm, hz, _, hcell, hwz⟩
    · simp [Value.cells] at hcs
      obtain ⟨rfl, rfl, rfl⟩ := hcs
      exact ⟨[], .inl ⟨rfl, rfl, rfl, rfl⟩⟩
    · simp [Value.cells] at hcs
      obtain ⟨rfl, rfl, rfl⟩ := hcs
      exact ⟨zs, .inr ⟨_, rfl, hl, hm, by simpa using hz, hcell, hwz⟩⟩
  obtain ⟨a1, len1, cap1, rfl⟩ := okWide_slice Try.underlying22 (hval 1 22 v1 rfl rfl)
  have k1 := h1
  have lt1 : ∀ x ∈ p1, x.block < W.heap.size := by obtain ⟨m, hm⟩ := k1; exact DataW.trod_lt m _ _ _ hm
  obtain ⟨z1, w1⟩ : ∃ zs, IsRow .u8 W a1 len1 cap1 zs := by
    obtain ⟨fuel, hf⟩ := h1
    rcases _root_.Go.ChangeShapes.open_ints Try.underlying22 Try.underlying5 (by kernel_rfl) hf with ⟨hcs, _⟩ | ⟨x, l, c, zs, hcs, _, hl, hm, hz, _, hcell, hwz⟩
    · simp [Value.cells] at hcs
      obtain ⟨rfl, rfl, rfl⟩ := hcs
      exact ⟨[], .inl ⟨rfl, rfl, rfl, rfl⟩⟩
    · simp [Value.cells] at hcs
      obtain ⟨rfl, rfl, rfl⟩ := hcs
      exact ⟨zs, .inr ⟨_, rfl, hl, hm, by simpa using hz, hcell, hwz⟩⟩
  clear hA0 hval0
  refine (walk a0 len0 cap0 z0 a1 len1 cap1 z1 W w0 w1).mono fun e W' ⟨he, bel⟩ => ?_
  subst he
  exact ⟨_, rfl, _, _, _, [], _, [], hW', trodAll_mk1 (shut_bool Try.underlying4 _), (trodAll_cons_mk (Below.trod laidOut (by kernel_rfl) (of_decide_eq_true (by kernel_rfl)) k0 bel lt0) (trodAll_cons_mk (Below.trod laidOut (by kernel_rfl) (of_decide_eq_true (by kernel_rfl)) k1 bel lt1) trodAll_mk0)), rfl, bel.frame _, fun h => by cases h⟩

theorem over : Rows.fnLogBytesJoinRow.holds Try.pinned (OpenSpec.ofChange Rows.fnLogBytesJoinSpec) :=
  OpenClaim.holds_of_wide 5 Try.f5 rfl rfl rfl rfl rfl rfl rfl ⟨rfl, rfl, rfl, rfl, rfl⟩ rfl rfl rfl rfl rfl (by kernel_rfl) Try.func5 (by kernel_rfl)
    (of_decide_eq_true (by kernel_rfl)) (by unfold Func.isWrapper; first | (rw [if_pos (by decide +kernel)]; kernel_rfl) | (rw [if_neg (by decide +kernel)]; exact ⟨rfl, rfl⟩))
    (fun os started H enc _ => lifted os started H enc)

theorem proved : Rows.FnLogBytesJoinSaid := over
end Go.Proofs.Ytoipbocbgadjbaa.fnLogBytesJoin
