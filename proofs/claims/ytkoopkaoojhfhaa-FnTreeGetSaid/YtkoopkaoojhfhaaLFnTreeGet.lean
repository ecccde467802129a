/-
  laws.FnTreeGet returns true for every input, and leaves its arguments as they were.
  Conditions: none.
-/
import Derived.Test.YtkoopkaoojhfhaaRows
import Derived.Test.YtkoopkaoojhfhaaIq
import Derived.Test.YtkoopkaoojhfhaaLd
import Derived.Test.YtkoopkaoojhfhaaTg
import Derived.WalkKit
import Derived.ProofKit
import Derived.OpenShut
import Derived.ShutString
import Derived.ChangeOld
import Derived.Below
namespace Go.Proofs.Ytkoopkaoojhfhaa.fnTreeGet
open Go.ChangeShapes Go.WideShapes Go.ChangeAt Go.RowKit
open Go.ChangeMaps (open_string shut_string)
set_option linter.unusedVariables false

theorem own : ownKnob Try.prog.godebug = none := by kernel_rfl
theorem laidOut : laidOutB Try.prog = true := by kernel_rfl

theorem take_get {ns : List Nd} (hv : validT ns = true) {i : Nat} {n : Nd} (hn : ns[i]? = some n) (p : ByteArray) : getT (ns.take (i + 1)) p = if n.p = p then (n.k, n.v) else getT (ns.take i) p := by
  rw [take_next hn]
  by_cases h : n.p = p
  · rw [if_pos h]
    have hg := good_path hv (List.mem_of_getElem? hn)
    rw [← h, getT_other hg.1]
    unfold getL
    rw [look_app_self]
    intro m hm
    have ha := ((validT_iff _).1 (valid_pre hv (i + 1))).1
    rw [take_next hn] at ha
    exact ltB_ne ((List.pairwise_append.1 ha).2.2 m hm n (by simp))
  · rw [if_neg h, getT_app_ne h]

theorem cell_lt {W : World} {a : Addr} {v : Value} (h : W.cell? a = some v) : a.block < W.heap.size := World.block_lt_of_cell? W _ h

def LookRel (ns : List Nd) (s : ByteArray) (B : Nat) (W : World) (i : Value) (wr : World) : Prop :=
  ∃ n : Nat, i = .int .i64 n ∧ n ≤ ns.length ∧ Hid (Two wr B (.int .i64 (getT (ns.take n) s).1) (.int .i64 (getT (ns.take n) s).2)) ∧ Hid (Below B W wr)

set_option maxHeartbeats 2000000 in
set_option maxRecDepth 100000 in
theorem walk (a0 : Option Addr) (len0 cap0 : Nat) (z0 : List Int) (w : World) (w0 : IsRow .u8 w a0 len0 cap0 z0) :
    Calls Try.prog 3 #[.slice a0 len0 cap0] w fun e w' => e = .returned (.bool true) ∧ Below w.heap.size w w' := by
  by_cases h : len0 ≤ 1048576
  · have hl : (len0 : Int) ≤ 1048576 := by omega
    have HD := Lib.hid (drawTreeGet_c a0 len0 cap0 z0 w w0)
    clear h w0
    go_enter Try.func3, Try.ntmps3
    go_wp2_with fail
    refine HD.out.mono ?_
    rintro e W1 ⟨sl, ns, s, rfl, hs, hd⟩
    obtain ⟨a, cap, rfl, hn⟩ := nodes_of_own hd.1
    have HN := Lib.hid hn
    have hlen := hd.2.1
    have HL := Lib.hid hlen
    have hsh := hd.2.2.1.mono (show 64 ≤ 2097152 by omega)
    have HBL := Lib.hid hd.2.2.2
    obtain ⟨k, v, hkv⟩ : ∃ k v, treeGet ns s = (k, v) := ⟨_, _, rfl⟩
    have HG := Lib.hid (fun W' (hb : Below W1.heap.size W1 W') => show Calls Try.prog 17 #[.slice a ns.length cap, .string s] W' (ConRet k v W') by
      have := implTreeGet_c a ns.length cap ns s (by omega) hsh (by omega) W' (hn.keep hb)
      rwa [hkv] at this)
    have HG2 := Lib.hid (fun W' (hb : Below W1.heap.size W1 W') => show Calls Try.prog 18 #[.slice a ns.length cap, .string s] W' (ConRet k v W') by
      have := specTreeGet_c a ns.length cap ns s (by omega) hsh (by omega) W' (hn.keep hb)
      rwa [hkv] at this)
    obtain ⟨vt, hvt⟩ : ∃ vt, validT ns = vt := ⟨_, rfl⟩
    have HV := Lib.hid (fun W' (hb : Below W1.heap.size W1 W') => show Calls Try.prog 19 #[.slice a ns.length cap] W' (BoolPost vt W') by
      rw [← hvt]; exact specTreeValid_c a ns.length cap ns (by omega) hsh W' (hn.keep hb))
    have HVT := Lib.hid hvt
    obtain ⟨vp, hvp⟩ : ∃ vp, vpB s = vp := ⟨_, rfl⟩
    have HP := Lib.hid (fun W' => show Calls Try.prog 20 #[.string s] W' (BoolPost vp W') by
      rw [← hvp]; exact specValid_c s (by omega) W')
    have HVP := Lib.hid hvp
    have HKV := Lib.hid hkv
    clear hn hd hvt hvp hkv hsh
    go_wp2_with fail
    refine (HG.out _ (Below.refl _ _)).mono ?_
    rintro e W2 ⟨rfl, hb2⟩
    unfold con
    go_wp2_with fail
    refine (HG2.out _ (below_next hb2 (below_box _ _))).mono ?_
    rintro e W3 ⟨rfl, hb3⟩
    have c0 := box_cell hb3 0
    have c1 := box_cell hb3 1
    have HB3 := Lib.hid (below_next hb2 (below_next (below_box _ _) hb3))
    have h23 : W2.heap.size < W3.heap.size := by have := hb3.size; simp at this; omega
    clear hb2 hb3
    unfold con
    go_wp2_with fail
    refine (HV.out _ (below_next HB3.out (below_box _ _))).mono ?_
    rintro e W4 ⟨rfl, hb4⟩
    have d0 := box_cell hb4 0
    have d1 := box_cell hb4 1
    have e0 := cell_kept (below_next (below_box _ _) hb4) c0
    have e1 := cell_kept (below_next (below_box _ _) hb4) c1
    have HB4 := Lib.hid (below_next HB3.out (below_next (below_box _ _) hb4))
    clear c0 c1 hb4
    cases vt with
    | false =>
      go_wp2
      go_ret
      exact ⟨rfl, below_next HBL.out HB4.out⟩
    | true =>
      go_wp2_with fail
      refine (HP.out _).mono ?_
      rintro e W5 ⟨rfl, hb5⟩
      have p0 := cell_kept hb5 e0
      have p1 := cell_kept hb5 e1
      have q0 := cell_kept hb5 d0
      have q1 := cell_kept hb5 d1
      have h25 : W2.heap.size < W5.heap.size := by have := cell_lt p0; simpa using this
      have h35 : W3.heap.size < W5.heap.size := by have := cell_lt q0; simpa using this
      have HB5 := Lib.hid (below_next HB4.out hb5)
      clear e0 e1 d0 d1 hb5 h23
      cases vp with
      | false =>
        go_wp2
        go_ret
        exact ⟨rfl, below_next HBL.out HB5.out⟩
      | true =>
        have HK := Lib.hid (show getT ns s = (k, v) by rw [← HKV.out, treeGet_eq HVT.out HVP.out])
        have P0 := Lib.hid p0
        have P1 := Lib.hid p1
        clear q0 q1
        by_cases hr : s = ⟨#[47]⟩
        · have h47 : (s.toList == [47]) = true := by rw [hr, Lib.toList_data]; rfl
          have HR := Lib.hid (show getT (ns.take 0) s = (1, 0) by rw [hr]; exact getT_root _)
          clear hr
          go_upto_region 11 with (fail)
          obtain ⟨W6, hW6⟩ : ∃ W6, W6 = W5.alloc (.cells #[.int .i64 1, .int .i64 0] 27) := ⟨_, rfl⟩
          have T6 := Lib.hid (show Two W6 W5.heap.size (.int .i64 (getT (ns.take 0) s).1) (.int .i64 (getT (ns.take 0) s).2) by rw [hW6, HR.out]; exact two_new _ _ _ _)
          have P6 := Lib.hid (show W6.cell? ⟨W2.heap.size, 0, none⟩ = some (.int .i64 k) ∧ W6.cell? ⟨W2.heap.size, 1, none⟩ = some (.int .i64 v) by rw [hW6]; exact ⟨cell_kept (below_box _ _) P0.out, cell_kept (below_box _ _) P1.out⟩)
          have HB6 := Lib.hid (show Below W1.heap.size W1 W6 by rw [hW6]; exact below_next HB5.out (below_box _ _))
          rw [← hW6]
          clear hW6 p0 p1
          go_wp2
          go_loopw [8] (fun i wr => LookRel ns s W5.heap.size W6 i wr) (fun i _ => ns.length - (intOf i).toNat)
          case atStart => exact ⟨0, rfl, by omega, T6.out, Below.refl _ _⟩
          case round =>
            obtain ⟨i, rfl, hi, HT, HB⟩ := hrel
            obtain ⟨g0, g1, f0, f1, gz⟩ := HT.out
            have HNr := Lib.hid (HN.out.keep (HB6.out.trans (HB.out.mono (by have := HB5.out.size; omega))))
            have x0 := (HB.out.cell (p := ⟨W2.heap.size, 0, none⟩) h25).trans P6.out.1
            have x1 := (HB.out.cell (p := ⟨W2.heap.size, 1, none⟩) h25).trans P6.out.2
            have hil : (i : Int) ≤ 11 := by have := HL.out; omega
            by_cases hlt : i < ns.length
            · obtain ⟨b, off, n, rfl, hn, c0, c1, c2⟩ := HNr.out.node hlt
              have hlt' : (i : Int) < ns.length := by omega
              have hst := take_get HVT.out hn s
              have HLT := Lib.hid hlt
              have hbw : b ≠ W5.heap.size := fun e => by
                have h7 := HN.out
                obtain ⟨_, h0 | ⟨b', off', ha', hc'⟩⟩ := h7
                · omega
                · have hx := cell_lt (hc' i n hn).1
                  simp at ha'
                  have := HB5.out.size
                  simp at hx
                  omega
              by_cases hp : n.p = s
              · have hpb : (n.p.toList == s.toList) = true := by rw [hp]; simp
                rw [if_pos hp] at hst
                have HST := Lib.hid hst
                clear hst hp hn hlt x0 x1 g0 g1
                obtain ⟨g0, g1, -, -, -⟩ := HT.out
                go_wp2
                go_roundw
                case rel => exact ⟨i + 1, by go_num, by have := HLT.out; omega, by rw [HST.out]; exact (HT.out.set0).set1, (HB.out.setCell (p := ⟨W5.heap.size, 0, none⟩) (Nat.le_refl _) _).setCell (p := ⟨W5.heap.size, 1, none⟩) (Nat.le_refl _) _⟩
                case measure => have := HLT.out; simp [intOf]; omega
              · have hpb : (n.p.toList == s.toList) = false := toList_ne hp
                rw [if_neg hp] at hst
                have HST := Lib.hid hst
                clear hst hp hn hlt x0 x1 g0 g1
                go_wp2
                go_roundw
                case rel => exact ⟨i + 1, by go_num, by have := HLT.out; omega, by rw [HST.out]; exact HT.out, HB.out⟩
                case measure => have := HLT.out; simp [intOf]; omega
            · have hge : (ns.length : Int) ≤ i := by omega
              have htk : ns.take i = ns := List.take_of_length_le (by omega)
              rw [htk, HK.out] at g0 g1
              have HE := Lib.hid (below_next HBL.out (HB6.out.trans (HB.out.mono (by have := HB5.out.size; omega))))
              clear htk hlt
              go_wp2
              go_ret
              exact ⟨rfl, HE.out⟩
        · have h47 : (s.toList == [47]) = false := by have := toList_ne hr; rwa [show (⟨#[47]⟩ : ByteArray).toList = [47] by rw [Lib.toList_data]] at this
          have HR := Lib.hid (show getT (ns.take 0) s = (0, 0) by unfold getT; rw [if_neg hr]; rfl)
          clear hr
          go_upto_region 11 with (fail)
          obtain ⟨W6, hW6⟩ : ∃ W6, W6 = W5.alloc (.cells #[.int .i64 0, .int .i64 0] 27) := ⟨_, rfl⟩
          have T6 := Lib.hid (show Two W6 W5.heap.size (.int .i64 (getT (ns.take 0) s).1) (.int .i64 (getT (ns.take 0) s).2) by rw [hW6, HR.out]; exact two_new _ _ _ _)
          have P6 := Lib.hid (show W6.cell? ⟨W2.heap.size, 0, none⟩ = some (.int .i64 k) ∧ W6.cell? ⟨W2.heap.size, 1, none⟩ = some (.int .i64 v) by rw [hW6]; exact ⟨cell_kept (below_box _ _) P0.out, cell_kept (below_box _ _) P1.out⟩)
          have HB6 := Lib.hid (show Below W1.heap.size W1 W6 by rw [hW6]; exact below_next HB5.out (below_box _ _))
          rw [← hW6]
          clear hW6 p0 p1
          go_wp2
          go_loopw [8] (fun i wr => LookRel ns s W5.heap.size W6 i wr) (fun i _ => ns.length - (intOf i).toNat)
          case atStart => exact ⟨0, rfl, by omega, T6.out, Below.refl _ _⟩
          case round =>
            obtain ⟨i, rfl, hi, HT, HB⟩ := hrel
            obtain ⟨g0, g1, f0, f1, gz⟩ := HT.out
            have HNr := Lib.hid (HN.out.keep (HB6.out.trans (HB.out.mono (by have := HB5.out.size; omega))))
            have x0 := (HB.out.cell (p := ⟨W2.heap.size, 0, none⟩) h25).trans P6.out.1
            have x1 := (HB.out.cell (p := ⟨W2.heap.size, 1, none⟩) h25).trans P6.out.2
            have hil : (i : Int) ≤ 11 := by have := HL.out; omega
            by_cases hlt : i < ns.length
            · obtain ⟨b, off, n, rfl, hn, c0, c1, c2⟩ := HNr.out.node hlt
              have hlt' : (i : Int) < ns.length := by omega
              have hst := take_get HVT.out hn s
              have HLT := Lib.hid hlt
              have hbw : b ≠ W5.heap.size := fun e => by
                have h7 := HN.out
                obtain ⟨_, h0 | ⟨b', off', ha', hc'⟩⟩ := h7
                · omega
                · have hx := cell_lt (hc' i n hn).1
                  simp at ha'
                  have := HB5.out.size
                  simp at hx
                  omega
              by_cases hp : n.p = s
              · have hpb : (n.p.toList == s.toList) = true := by rw [hp]; simp
                rw [if_pos hp] at hst
                have HST := Lib.hid hst
                clear hst hp hn hlt x0 x1 g0 g1
                obtain ⟨g0, g1, -, -, -⟩ := HT.out
                go_wp2
                go_roundw
                case rel => exact ⟨i + 1, by go_num, by have := HLT.out; omega, by rw [HST.out]; exact (HT.out.set0).set1, (HB.out.setCell (p := ⟨W5.heap.size, 0, none⟩) (Nat.le_refl _) _).setCell (p := ⟨W5.heap.size, 1, none⟩) (Nat.le_refl _) _⟩
                case measure => have := HLT.out; simp [intOf]; omega
              · have hpb : (n.p.toList == s.toList) = false := toList_ne hp
                rw [if_neg hp] at hst
                have HST := Lib.hid hst
                clear hst hp hn hlt x0 x1 g0 g1
                go_wp2
                go_roundw
                case rel => exact ⟨i + 1, by go_num, by have := HLT.out; omega, by rw [HST.out]; exact HT.out, HB.out⟩
                case measure => have := HLT.out; simp [intOf]; omega
            · have hge : (ns.length : Int) ≤ i := by omega
              have htk : ns.take i = ns := List.take_of_length_le (by omega)
              rw [htk, HK.out] at g0 g1
              have HE := Lib.hid (below_next HBL.out (HB6.out.trans (HB.out.mono (by have := HB5.out.size; omega))))
              clear htk hlt
              go_wp2
              go_ret
              exact ⟨rfl, HE.out⟩
  · have hl : (1048576 : Int) < len0 := by omega
    clear h w0
    go_enter Try.func3, Try.ntmps3
    go_wp2
    go_ret
    exact ⟨rfl, Below.refl _ _⟩

set_option maxRecDepth 100000 in
theorem lifted (os : Os) (started : os.Started) (H : Type) (enc : TypeId × Value → H) :
    ReturnsInHanded {} Try.checked os 3 .any (Rows.fnTreeGetSpec.pre6 enc Try.prog Try.f3 Rows.fnTreeGetRow.domain false) (Rows.fnTreeGetSpec.post enc Try.prog Try.f3 false true false false) := by
  refine returnsInHanded_of_change (C := Try.checked) own started (by kernel_rfl) Try.func3
    (ChangeSpec.witness6 (enc := enc) (C := Try.checked) false ⟨#[], #[.slice none 0 0], []⟩ 8 (by kernel_rfl) (by kernel_rfl) (by kernel_rfl) (by kernel_rfl)) ?_
  intro W base args ds gs before hval0 hW hcnd _
  have hval : ∀ (j : Nat) t v, Try.f3.params[j]? = some t → args[j]? = some v → Value.okWide Try.prog W .any base t v := hval0
  have hW' := hW
  obtain ⟨p, q, hA0, hV, rfl, hfz, hnd⟩ := hW
  have hA : DataW.TrodAll enc Try.prog W 0 (fun _ => true) true Try.f3.params.toList args.toList ds p := hA0
  rw [Try.params3] at hA hval
  obtain ⟨v0, vs0, d0, ds0, p0, q0, hargs, rfl, rfl, h0, r0⟩ := trodAll_cons hA
  obtain ⟨rfl, rfl, rfl⟩ := trodAll_nil r0
  obtain rfl : args = #[v0] := by cases args; simp_all
  obtain ⟨rfl, rfl⟩ := trodVars_none hV
  obtain ⟨a0, len0, cap0, rfl⟩ := okWide_slice Try.underlying22 (hval 0 22 v0 rfl rfl)
  have k0 := h0
  have lt0 : ∀ x ∈ p0, x.block < W.heap.size := by obtain ⟨m, hm⟩ := k0; exact DataW.trod_lt m _ _ _ hm
  obtain ⟨z0, w0⟩ : ∃ zs, IsRow .u8 W a0 len0 cap0 zs := by
    obtain ⟨fuel, hf⟩ := h0
    rcases open_ints Try.underlying22 Try.underlying5 (by kernel_rfl) hf with ⟨hcs, _⟩ | ⟨x, l, c, zs, hcs, _, hl, hm, hz, _, hcell, hwz⟩
    · simp [Value.cells] at hcs
      obtain ⟨rfl, rfl, rfl⟩ := hcs
      exact ⟨[], .inl ⟨rfl, rfl, rfl, rfl⟩⟩
    · simp [Value.cells] at hcs
      obtain ⟨rfl, rfl, rfl⟩ := hcs
      exact ⟨zs, .inr ⟨_, rfl, hl, hm, by simpa using hz, hcell, hwz⟩⟩
  clear hA0 hval0
  refine (walk a0 len0 cap0 z0 W w0).mono fun e W' ⟨he, bel⟩ => ?_
  subst he
  exact ⟨_, rfl, _, _, _, [], _, [], hW', trodAll_mk1 (shut_bool Try.underlying4 _), (trodAll_cons_mk (Below.trod laidOut (by kernel_rfl) (of_decide_eq_true (by kernel_rfl)) k0 bel lt0) trodAll_mk0), rfl, bel.frame _, fun h => by cases h⟩

theorem over : Rows.fnTreeGetRow.holds Try.pinned (OpenSpec.ofChange Rows.fnTreeGetSpec) :=
  OpenClaim.holds_of_wide 3 Try.f3 rfl rfl rfl rfl rfl rfl rfl ⟨rfl, rfl, rfl, rfl, rfl⟩ rfl rfl rfl rfl rfl (by kernel_rfl) Try.func3 (by kernel_rfl)
    (of_decide_eq_true (by kernel_rfl)) (by unfold Func.isWrapper; first | (rw [if_pos (by decide +kernel)]; kernel_rfl) | (rw [if_neg (by decide +kernel)]; exact ⟨rfl, rfl⟩))
    (fun os started H enc _ => lifted os started H enc)

theorem proved : Rows.FnTreeGetSaid := over
end Go.Proofs.Ytkoopkaoojhfhaa.fnTreeGet
