/-
  Texts of this proof, one behind the other: Iy, Il, Ro, Lp, Lt, La, Li, Ld, Cg, Lb, Lf, Lk, Sm, Qc, To, Le, En, Mk, Lm, On.
-/
import Derived.Lib.SliceRun
import Derived.WideLaws
import Derived.Laws.Concat
import Derived.Laws.Cover1
import Derived.Laws.StructEq
import Derived.Deep.RegionHeld3
import Derived.Deep.Cut
import Derived.Laws.Runes
import Derived.Laws.BytesString
import Derived.Deep.Slices
import Derived.Deep.Fields
import Derived.ChangeSame
import Derived.ChangeArms
import Derived.Test.YtkaokncaockjkaaDoorK3
/-
  WALKS: impl.treeAfter, impl.CommandApply (over errors.Is and slices.Clone).
-/
namespace Go.Proofs.YtkaokncaockjkaaDoor
open Go.RowKit
set_option linter.unusedVariables false

set_option maxHeartbeats 1000000 in
/-- slices.Clone of nodes that lie somewhere. -/
theorem cloneN_c (a : Option Addr) (len cap : Nat) (ns : List Nd) (hl : len ≤ 2097152) (W : World) (hN : NodesAt W a len ns) :
    Calls Tryd.prog 32 #[.slice a len cap] W fun e W' => OwnsNodes W.heap.size ns e W' ∧ Below W.heap.size W W' := by
  have HN := Lib.hid hN
  have HE := Lib.hid hN.1
  have q23 : ∀ (w : World) (a : Option Addr) (n c n' c' : Nat), (binOp .eql 23 (.slice a n c) (.slice none n' c')).run Tryd.prog w = .ok (.bool a.isNone) w := fun w a n c n' c' => Lib.run_eql_slice_nil w _ _ a n c n' c' Tryd.underlying23
  cases a with
  | none =>
    have hz : ns = [] := by
      rcases hN.2 with h | ⟨_, _, h, _⟩
      · exact List.eq_nil_of_length_eq_zero (hN.1.trans h)
      · cases h
    subst hz
    clear hN
    go_enter Tryd.func32, Tryd.ntmps32
    go_wp2
    exact bodyPost_ret (v := .slice none 0 0) (by simp [results, Tryd.f32, go_sem]) rfl ⟨⟨_, rfl, World.ownsRow_nil _ _ _ _⟩, Below.refl _ _⟩
  | some ad =>
    clear hN
    go_enter Tryd.func32, Tryd.ntmps32
    go_wp2_with (at_builtin; refine wpList_append_nodes rfl _ _ rfl W.heap.size _ [] rfl (World.ownsRow_lit (e := 60) (size := 3) W #[] 0 (Nat.le_refl _) (by simp [maxLen]) rfl) _ _ _ _ rfl (HN.out.keep (below_box _ _)) (by have := HE.out; simp; omega) (by simp) ?_; intro v3 w3 ho3 hg3)
    have B3 : Below W.heap.size W w3 := (below_box W _).grown hg3 (by simp) (fun k e => by cases e; exact Nat.le_refl _)
    exact bodyPost_ret (v := v3) (by simp [results, Tryd.f32, go_sem]) rfl ⟨⟨v3, rfl, by simpa using ho3⟩, B3⟩

/-- What treeAfter tells: a tree, or one of the two reasons why there is none. -/
def AfterPost (ns : List Nd) (c : Cmd) (ea eb : Addr) (W : World) (e : Ending) (w' : World) : Prop :=
  ∃ sl err, e = .returned (.tuple #[sl, err]) ∧ Below W.heap.size W w' ∧
    ((sl = .slice none 0 0 ∧ err = .iface 161 (.pointer (some ea)) ∧ applyC ns c = ([], false)) ∨
     (sl = .slice none 0 0 ∧ err = .iface 161 (.pointer (some eb)) ∧ applyC ns c = (ns, false)) ∨
     (err = .nilIface ∧ ∃ out, applyC ns c = (out, true) ∧ w'.ownsRow W.heap.size 60 3 sl out.length (flatN out)))

theorem after_inv {ns : List Nd} {c : Cmd} {ea eb : Addr} {W w' : World} (h : applyC ns c = ([], false)) (hb : Below W.heap.size W w') : AfterPost ns c ea eb W (.returned (.tuple #[.slice none 0 0, .iface 161 (.pointer (some ea))])) w' :=
  ⟨_, _, rfl, hb, .inl ⟨rfl, rfl, h⟩⟩
theorem after_brk {ns : List Nd} {c : Cmd} {ea eb : Addr} {W w' : World} (h : applyC ns c = (ns, false)) (hb : Below W.heap.size W w') : AfterPost ns c ea eb W (.returned (.tuple #[.slice none 0 0, .iface 161 (.pointer (some eb))])) w' :=
  ⟨_, _, rfl, hb, .inr (.inl ⟨rfl, rfl, h⟩)⟩
theorem after_new {ns out : List Nd} {c : Cmd} {ea eb : Addr} {W w' : World} {sl : Value} (h : applyC ns c = (out, true)) (ho : w'.ownsRow W.heap.size 60 3 sl out.length (flatN out)) (hb : Below W.heap.size W w') : AfterPost ns c ea eb W (.returned (.tuple #[sl, .nilIface])) w' :=
  ⟨_, _, rfl, hb, .inr (.inr ⟨rfl, out, h, ho⟩)⟩

set_option maxHeartbeats 2000000 in
set_option maxRecDepth 100000 in
theorem treeAfter_c (a : Option Addr) (len cap : Nat) (ns : List Nd) (c : Cmd) (hl : len ≤ 2097151) (hs : Short 2097152 ns) (hp : c.p.size ≤ 2097152) (W : World) (hN : NodesAt W a len ns) (ea eb : Addr)
    (hI : W.cell? ⟨1, 0, none⟩ = some (.iface 161 (.pointer (some ea)))) (hK : W.cell? ⟨0, 0, none⟩ = some (.iface 161 (.pointer (some eb)))) :
    Calls Tryd.prog 36 #[.slice a len cap, cmdV c] W (AfterPost ns c ea eb W) := by
  obtain ⟨vt, hvt⟩ : ∃ vt, validT ns = vt := ⟨_, rfl⟩
  obtain ⟨vc, hvc⟩ : ∃ vc, validC c = vc := ⟨_, rfl⟩
  have HI := Lib.hid (fun W' (hb : Below W.heap.size W W') => cell_kept hb hI)
  have HK := Lib.hid (fun W' (hb : Below W.heap.size W W') => cell_kept hb hK)
  clear hI hK
  have HV := Lib.hid (fun W' (hb : Below W.heap.size W W') => show Calls Tryd.prog 31 #[.slice a len cap] W' (BoolPost vt W') by rw [← hvt]; exact implTreeValid_c a len cap ns (by omega) hs W' (hN.keep hb))
  have HC := Lib.hid (fun W' => show Calls Tryd.prog 53 #[cmdV c] W' (BoolPost vc W') by rw [← hvc]; exact implCmdValid_c c hp W')
  have HN := Lib.hid hN
  cases vt with
  | false =>
    have HR := Lib.hid (applyC_bad (c := c) (.inl hvt))
    clear hN hs hvt hvc
    unfold cmdV
    go_enter Tryd.func36, Tryd.ntmps36
    go_wp2_with fail
    refine (HV.out _ (below_box _ _)).mono ?_
    rintro e W1 ⟨rfl, hb1⟩
    have B1 := Lib.hid (below_next (below_box W _) hb1)
    have gi := HI.out _ B1.out
    clear hb1
    go_upto_region 2 with (fail)
    go_region
    all_goals (try go_wp2)
    all_goals go_ret2
    all_goals (first | exact after_inv HR.out B1.out.drew | exact after_inv HR.out B1.out)
  | true =>
    cases vc with
    | false =>
      have HR := Lib.hid (applyC_bad (ns := ns) (.inr hvc))
      clear hN hs hvt hvc
      unfold cmdV at HC ⊢
      obtain ⟨p, fk, fv, tk, tv⟩ := c
      simp only at HC ⊢
      go_enter Tryd.func36, Tryd.ntmps36
      go_wp2_with fail
      refine (HV.out _ (below_box _ _)).mono ?_
      rintro e W1 ⟨rfl, hb1⟩
      have q0 := box_cell hb1 0
      have q1 := box_cell hb1 1
      have q2 := box_cell hb1 2
      have q3 := box_cell hb1 3
      have q4 := box_cell hb1 4
      simp at q0 q1 q2 q3 q4
      have B1 := Lib.hid (below_next (below_box W _) hb1)
      clear hb1
      go_wp2_with fail
      refine (HC.out _).mono ?_
      rintro e W2 ⟨rfl, hb2⟩
      have B2 := Lib.hid (below_next B1.out hb2)
      have gi := HI.out _ B2.out
      clear hb2 q0 q1 q2 q3 q4
      go_upto_region 2 with (fail)
      go_region
      all_goals (try go_wp2)
      all_goals go_ret2
      all_goals (first | exact after_inv HR.out B2.out.drew | exact after_inv HR.out B2.out)
    | true =>
      have HR := Lib.hid (applyC_ok hvt hvc)
      have hdep := ((validC_iff c).1 hvc).1
      have HG := Lib.hid (fun W' (h : NodesAt W' a len ns) => implTreeGet_c a len cap ns c.p (by omega) hs (by omega) W' h)
      have HP := Lib.hid (fun W' (h : NodesAt W' a len ns) => implTreePut_c a len cap ns c.p c.tk c.tv (by omega) hs hp W' h)
      have htg := treeGet_eq hvt (vp_of_depth hdep)
      clear hN hs hvt hvc hdep
      unfold cmdV at HC ⊢
      obtain ⟨p, fk, fv, tk, tv⟩ := c
      simp only at HC HR HP HG hp htg ⊢
      obtain ⟨⟨gk, gv⟩, hg⟩ : ∃ g, getT ns p = g := ⟨_, rfl⟩
      rw [hg] at HR htg
      have HGP := Lib.hid (fun W' (h : NodesAt W' a len ns) => show Calls Tryd.prog 61 #[.slice a len cap, .string p] W' (fun e w' => e = .returned (.agg #[.int .i64 gk, .int .i64 gv]) ∧ Below W'.heap.size W' w') by have := HG.out W' h; rw [htg] at this; exact this)
      obtain ⟨ee, hee⟩ : ∃ ee, (!(gk == fk && gv == fv)) = ee := ⟨_, rfl⟩
      have hne := fun w' => (conNeQ gk gv fk fv w').trans (show _ = Result.ok (Value.bool ee) w' by rw [hee])
      have HEE := Lib.hid hee
      clear hg hee htg HG
      go_enter Tryd.func36, Tryd.ntmps36
      go_wp2_with fail
      refine (HV.out _ (below_box _ _)).mono ?_
      rintro e W1 ⟨rfl, hb1⟩
      have q0 := box_cell hb1 0
      have q1 := box_cell hb1 1
      have q2 := box_cell hb1 2
      have q3 := box_cell hb1 3
      have q4 := box_cell hb1 4
      simp at q0 q1 q2 q3 q4
      have B1 := Lib.hid (below_next (below_box W _) hb1)
      clear hb1
      go_wp2_with fail
      refine (HC.out _).mono ?_
      rintro e W2 ⟨rfl, hb2⟩
      have HS2 := Lib.hid (keepCmd (W0 := W) ⟨q0, q1, q2, q3, q4, B1.out⟩ hb2)
      have HS0 : Hid (W2.drew.cell? ⟨W.heap.size, 0, none⟩ = some (.string p) ∧ W2.drew.cell? ⟨W.heap.size, 1, none⟩ = some (.int .i64 fk) ∧ W2.drew.cell? ⟨W.heap.size, 2, none⟩ = some (.int .i64 fv) ∧ W2.drew.cell? ⟨W.heap.size, 3, none⟩ = some (.int .i64 tk) ∧ W2.drew.cell? ⟨W.heap.size, 4, none⟩ = some (.int .i64 tv) ∧ Below W.heap.size W W2.drew) :=
        ⟨HS2.out.1, HS2.out.2.1, HS2.out.2.2.1, HS2.out.2.2.2.1, HS2.out.2.2.2.2.1, HS2.out.2.2.2.2.2.drew⟩
      have HGD := Lib.hid (HGP.out W2.drew (HN.out.keep HS0.out.2.2.2.2.2))
      clear hb2 q0 q1 q2 q3 q4
      go_upto_region 3 with (fail)
      go_region_held3 (fun w' => w'.cell? ⟨W.heap.size, 0, none⟩ = some (.string p) ∧ w'.cell? ⟨W.heap.size, 1, none⟩ = some (.int .i64 fk) ∧ w'.cell? ⟨W.heap.size, 2, none⟩ = some (.int .i64 fv) ∧ w'.cell? ⟨W.heap.size, 3, none⟩ = some (.int .i64 tk) ∧ w'.cell? ⟨W.heap.size, 4, none⟩ = some (.int .i64 tv) ∧ Below W.heap.size W w')
        (first | exact HS0.out | exact keepCmd HS0.out hb5)
        (first | (go_at_call 61; (with_reducible refine (HGD.out).mono ?_); rintro e W5 ⟨rfl, hb5⟩))
      rename_i hS
      obtain ⟨s0, s1, s2, s3, s4, hB5⟩ := hS
      have HB5 := Lib.hid hB5
      have HN5 := Lib.hid (HN.out.keep hB5)
      clear hne hB5
      cases ee with
      | true =>
        have hR2 := Lib.hid (show applyC ns ⟨p, fk, fv, tk, tv⟩ = (ns, false) by
          rw [HR.out, if_neg]
          intro e
          have := HEE.out
          simp only [Prod.mk.injEq] at e
          rw [e.1, e.2] at this
          simp at this)
        have gk := HK.out _ HB5.out
        clear s0 s1 s2 s3 s4
        go_upto_region 4 with (fail)
        go_region
        all_goals (try go_wp2)
        all_goals go_ret2
        all_goals (first | exact after_brk hR2.out HB5.out.drew | exact after_brk hR2.out HB5.out)
      | false =>
        have hgt : (gk, gv) = (fk, fv) := by
          have := HEE.out
          rw [Bool.not_eq_false', Bool.and_eq_true, beq_iff_eq, beq_iff_eq] at this
          rw [this.1, this.2]
        have HR2 := Lib.hid (HR.out.trans (if_pos hgt))
        have HP5 := Lib.hid (HP.out W5 HN5.out)
        clear hgt
        go_wp2_with fail
        refine HP5.out.mono ?_
        rintro e W6 ⟨sl, out, b, rfl, hc, ho, hb6⟩
        have HB6 := Lib.hid (below_next HB5.out hb6)
        have HO6 := Lib.hid (own_mono ho HB5.out.size)
        have gk := HK.out _ HB6.out
        clear s0 s1 s2 s3 s4 ho hb6
        rcases hc with ⟨rfl, hr⟩ | ⟨rfl, hr, rfl⟩
        · have hR3 := Lib.hid (show applyC ns ⟨p, fk, fv, tk, tv⟩ = (out, true) by rw [HR2.out, hr])
          clear hr
          go_wp2
          go_ret2
          exact after_new hR3.out HO6.out HB6.out
        · have hR3 := Lib.hid (show applyC ns ⟨p, fk, fv, tk, tv⟩ = (ns, false) by rw [HR2.out, hr])
          clear hr
          go_upto_region 7 with (fail)
          go_region
          all_goals (try go_wp2)
          all_goals go_ret2
          all_goals (first | exact after_brk hR3.out HB6.out.drew | exact after_brk hR3.out HB6.out)

theorem errEqNil (v : Value) (t : TypeId) (w : World) : (binOp .eql 65 (.iface t v) .nilIface).run Tryd.prog w = .ok (.bool false) w :=
  run_eql_held_nil w 65 t v (by kernel_rfl)
theorem nilEqNil (w : World) : (binOp .eql 65 .nilIface .nilIface).run Tryd.prog w = .ok (.bool true) w :=
  run_eql_nil_nil w 65 (by kernel_rfl)

set_option maxHeartbeats 2000000 in
set_option maxRecDepth 100000 in
theorem implCmdApply_c (a : Option Addr) (len cap : Nat) (ns : List Nd) (c : Cmd) (hl : len ≤ 2097151) (hs : Short 2097152 ns) (hp : c.p.size ≤ 2097152) (W : World) (hN : NodesAt W a len ns) (hE : CmdVars W) :
    Calls Tryd.prog 13 #[.slice a len cap, cmdV c] W (ApplyPost (applyC ns c) W.heap.size W) := by
  have HE := Lib.hid hE
  obtain ⟨ea, eb, ca, cb, ta, tb, hI, hK, hne, ha, hb⟩ := hE
  have HT := Lib.hid (fun W' (hb : Below W.heap.size W W') => treeAfter_c a len cap ns c hl hs hp W' (hN.keep hb) ea eb (cell_kept hb hI) (cell_kept hb hK))
  have HK := Lib.hid (fun W' (hb : Below W.heap.size W W') => cell_kept hb hK)
  have HO := Lib.hid (fun W' (hx : Below W.heap.size W W') => isErr_other ea eb ca cb ta tb W' hne (heap_kept hx ha) (heap_kept hx hb))
  have HCL := Lib.hid (fun W' (hb : Below W.heap.size W W') => cloneN_c a len cap ns (by omega) W' (hN.keep hb))
  clear hN hs hI hK hne ha hb
  unfold cmdV at HT ⊢
  obtain ⟨p, fk, fv, tk, tv⟩ := c
  simp only at HT ⊢
  go_enter Tryd.func13, Tryd.ntmps13
  go_wp2_with fail
  refine (HT.out _ (below_box _ _)).mono ?_
  rintro e W1 ⟨sl, err, rfl, hb1, hc⟩
  have B1 := Lib.hid (below_next (below_box W _) hb1)
  have gk := HK.out _ B1.out
  clear hb1
  rcases hc with ⟨rfl, rfl, hr⟩ | ⟨rfl, rfl, hr⟩ | ⟨rfl, out, hr, ho⟩
  · have HR := Lib.hid hr
    clear hr
    go_wp2_with fail
    refine (HO.out _ B1.out).mono ?_
    rintro e W2 ⟨rfl, rfl⟩
    have he := errEqNil
    go_upto_region 4 with (fail)
    go_region
    all_goals (try go_wp2)
    all_goals go_ret2
    all_goals (first | exact apply_end HR.out (World.ownsRow_nil _ _ _ _) B1.out.drew | exact apply_end HR.out (World.ownsRow_nil _ _ _ _) B1.out)
  · have HR := Lib.hid hr
    clear hr
    go_wp2_with fail
    refine (isErr_same eb _).mono ?_
    rintro e W2 ⟨rfl, rfl⟩
    go_wp2_with fail
    refine (HCL.out _ B1.out).mono ?_
    rintro e W3 ⟨⟨v3, rfl, ho3⟩, hb3⟩
    go_wp2
    go_ret2
    exact apply_end HR.out (own_mono ho3 B1.out.size) (below_next B1.out hb3)
  · have HR := Lib.hid hr
    have HO1 := Lib.hid (own_mono ho (below_box W _).size)
    clear hr ho
    go_wp2_with fail
    refine (isErr_nil eb _).mono ?_
    rintro e W2 ⟨rfl, rfl⟩
    have he := nilEqNil
    go_upto_region 4 with (fail)
    go_region
    all_goals (try go_wp2)
    all_goals go_ret2
    all_goals (first | exact apply_end HR.out HO1.out B1.out.drew | exact apply_end HR.out HO1.out B1.out)

end Go.Proofs.YtkaokncaockjkaaDoor

/-
  WALKS: impl.LogValid, LogUndo, LogApply, LogFits.
-/
namespace Go.Proofs.YtkaokncaockjkaaDoor
open Go.RowKit
set_option linter.unusedVariables false

/-- Between two rounds of LogApply. -/
def DoneRel (ns : List Nd) (cs : List Cmd) (W : World) (l k o i : Value) (wr : World) : Prop :=
  ∃ (n : Nat) (acc : List Nd) (x : Option Addr), l = .pointer x ∧ k = .bool true ∧ i = .int .i64 n ∧ n ≤ cs.length ∧ wr.ownsRow W.heap.size 60 3 o acc.length (flatN acc) ∧ Hid (EntAt W.heap.size wr x (cs.drop n)) ∧ Hid (acc.length ≤ 10) ∧ Hid (Short 2097152 acc) ∧ Hid (runL ns (cs.take n) = (acc, n)) ∧ Hid (Below W.heap.size W wr)

set_option maxHeartbeats 1000000 in
set_option maxRecDepth 100000 in
theorem implLogUndo_c (a : Option Addr) (len cap : Nat) (cs : List Cmd) (hl : len ≤ 2097152) (hs : ShortC 2097152 cs) (W : World) (hN : CmdsAt W a len cs) :
    Calls Tryd.prog 17 #[.slice a len cap] W (CmdsPost (undoL cs) W) := by
  have HEn := Lib.hid (entriesOf_c a len cap cs hs W hN)
  have HS := Lib.hid hs
  clear hN hs hl
  go_enter Tryd.func17, Tryd.ntmps17
  go_wp2_with fail
  refine HEn.out.mono ?_
  rintro e W1 ⟨hb, ⟨hv, rfl⟩ | ⟨hv, x, rfl, hx⟩⟩
  · have HB := Lib.hid hb
    have HV := Lib.hid hv
    clear hb hv
    go_wp2
    go_ret
    exact ⟨⟨_, rfl, by rw [undoL_bad HV.out]; exact World.ownsRow_nil _ _ _ _⟩, HB.out⟩
  · have HB := Lib.hid hb
    have HU := Lib.hid (undone_c _ x cs HS.out W1 hx)
    have HV := Lib.hid (undoL_ok hv)
    have HL := Lib.hid (show (cs.reverse.map undoC).length ≤ 2000000 by have := ((validL_iff cs).1 hv).2; simp; omega)
    clear hb hv hx
    go_wp2_with fail
    refine HU.out.mono ?_
    rintro e W2 ⟨y, rfl, hy, hb2⟩
    have HB2 := Lib.hid (below_next HB.out hb2)
    have HC := Lib.hid (commands_c _ y _ HL.out W2 hy)
    clear hy hb2
    go_wp2_with fail
    refine HC.out.mono ?_
    rintro e W3 ⟨⟨sl, rfl, ho⟩, hb3⟩
    have HO := Lib.hid (own_mono ho HB2.out.size)
    have HB3 := Lib.hid (below_next HB2.out hb3)
    clear ho hb3
    go_wp2
    go_ret
    exact ⟨⟨sl, rfl, by rw [HV.out]; exact HO.out⟩, HB3.out⟩

set_option maxHeartbeats 4000000 in
set_option maxRecDepth 100000 in
theorem implLogApply_c (a1 : Option Addr) (len1 cap1 : Nat) (ns : List Nd) (a2 : Option Addr) (len2 cap2 : Nat) (cs : List Cmd) (hl1 : len1 ≤ 2097152) (hl2 : len2 ≤ 2097152) (hs1 : Short 2097152 ns) (hs2 : ShortC 2097152 cs) (W : World) (h1 : NodesAt W a1 len1 ns) (h2 : CmdsAt W a2 len2 cs) (hE : CmdVars W) :
    Calls Tryd.prog 10 #[.slice a1 len1 cap1, .slice a2 len2 cap2] W (LogPost (logApply ns cs) W) := by
  obtain ⟨cnt, hcnt⟩ := ent_count W.heap.size
  have HC := Lib.hid hcnt
  obtain ⟨vt, hvt⟩ : ∃ vt, validT ns = vt := ⟨_, rfl⟩
  have HV := Lib.hid (fun W' (hb : Below W.heap.size W W') => show Calls Tryd.prog 31 #[.slice a1 len1 cap1] W' (BoolPost vt W') by rw [← hvt]; exact implTreeValid_c a1 len1 cap1 ns hl1 hs1 W' (h1.keep hb))
  have HEn := Lib.hid (entriesOf_c a2 len2 cap2 cs hs2 W h2)
  have HCL := Lib.hid (fun W' (hb : Below W.heap.size W W') => cloneN_c a1 len1 cap1 ns (by omega) W' (h1.keep hb))
  have HVT := Lib.hid hvt
  have HS1 := Lib.hid hs1
  have HS2 := Lib.hid hs2
  have HE := Lib.hid hE
  clear h1 h2 hs1 hs2 hcnt hE hvt hl1 hl2
  go_enter Tryd.func10, Tryd.ntmps10
  go_wp2_with fail
  refine HEn.out.mono ?_
  rintro e W1 ⟨hb, ⟨hv, rfl⟩ | ⟨hv, x, rfl, hx⟩⟩
  · have HB := Lib.hid hb
    have HR := Lib.hid (logApply_bad (ns := ns) (.inr hv))
    clear hb hv
    go_wp2_with fail
    go_ret2
    exact log_end HR.out (World.ownsRow_nil _ _ _ _) HB.out
  · have B1 := Lib.hid hb
    have HX := Lib.hid hx
    have HVL := Lib.hid hv
    clear hb hv hx
    go_wp2_with fail
    refine (HV.out _ B1.out).mono ?_
    rintro e W2 ⟨rfl, hb2⟩
    have B2 := Lib.hid (below_next B1.out hb2)
    have HX2 := Lib.hid (HX.out.keep hb2)
    clear hb2
    cases vt with
    | false =>
      have HR := Lib.hid (logApply_bad (cs := cs) (.inl HVT.out))
      go_wp2
      go_ret2
      exact log_end HR.out (World.ownsRow_nil _ _ _ _) B2.out
    | true =>
      have HR := Lib.hid (logApply_ok HVT.out HVL.out)
      have HLN := Lib.hid (show ns.length ≤ 10 from ((validT_iff ns).1 HVT.out).2.2)
      have HRN := Lib.hid (show runL ns (cs.take 0) = (ns, 0) from rfl)
      go_wp2_with fail
      refine (HCL.out _ B2.out).mono ?_
      rintro e W3 ⟨⟨v3, rfl, ho3⟩, hb3⟩
      have B3 := Lib.hid (below_next B2.out hb3)
      have HX3 := Lib.hid (HX2.out.keep hb3)
      have ho3' := own_mono ho3 B2.out.size
      clear hb3 ho3
      go_wp2_with fail
      go_loopw [6, 7, 8, 9] (fun l k o i wr => DoneRel ns cs W l k o i wr) (fun l _ _ _ wr => cnt wr l)
      case atStart => exact ⟨0, ns, x, rfl, rfl, rfl, Nat.zero_le _, ho3', HX3, HLN, HS1, HRN, B3⟩
      case round =>
        obtain ⟨n, acc, x, rfl, rfl, rfl, hn, hown, HXX, HAL, HAS, HRUN, HB⟩ := hrel
        by_cases hlt : n < cs.length
        · obtain ⟨c, hc⟩ : ∃ c, cs[n]? = some c := ⟨_, List.getElem?_eq_getElem hlt⟩
          have hd : cs.drop n = c :: cs.drop (n + 1) := by rw [List.drop_eq_getElem_cons hlt, (List.getElem?_eq_some_iff.1 hc).2]
          have hx := HXX.out
          rw [hd] at hx
          have HX0 := Lib.hid hx
          obtain ⟨b, nx, rfl, hBb, hrest, c0, c1, c2, c3, c4, c5⟩ := hx.first
          have HREST := Lib.hid hrest
          have HLT := Lib.hid hlt
          have HNN := Lib.hid hc
          have C5 := Lib.hid c5
          obtain ⟨ao, co, rfl, hno⟩ := nodes_of_own hown
          obtain ⟨⟨out, ok⟩, hr⟩ : ∃ r, applyC acc c = r := ⟨_, rfl⟩
          have HA := Lib.hid (show Calls Tryd.prog 13 #[.slice ao acc.length co, cmdV c] wr (fun e w' => ∃ sl, e = .returned (.tuple #[sl, .bool ok]) ∧ w'.ownsRow wr.heap.size 60 3 sl out.length (flatN out) ∧ Below wr.heap.size wr w') by
            have := implCmdApply_c ao acc.length co acc c (by have := HAL.out; omega) HAS.out (HS2.out.at hc) wr hno (HE.out.keep HB.out)
            rw [hr] at this; exact this)
          have HRR := Lib.hid hr
          have HPC := Lib.hid (HS2.out.at hc)
          have HVA := Lib.hid (And.intro (show validT acc = true by have := runL_valid (cs.take n) ns HVT.out; rwa [HRUN.out] at this) (validL_at HVL.out hc))
          have hnw : IntKind.i64.wrap ((n : Int) + 1) = ((n + 1 : Nat) : Int) := (IntWalk.i64_in _ (by have := ((validL_iff cs).1 HVL.out).2; omega)).trans (by omega)
          obtain ⟨p, fk, fv, tk, tv⟩ := c
          unfold cmdV at HA
          simp only at c0 c1 c2 c3 c4 HA HPC
          clear hn hlt hc hd hx hrest HXX hr hown hno ho3'
          go_wp2_with fail
          refine HA.out.mono ?_
          rintro e W4 ⟨sl, rfl, ho4, hb4⟩
          have c6 := cell_kept hb4 C5.out
          have HB4 := Lib.hid (below_next HB.out hb4)
          have HO4 := Lib.hid (own_mono ho4 HB.out.size)
          have HR4 := Lib.hid (HREST.out.keep hb4)
          clear c0 c1 c2 c3 c4 c5 ho4 hb4
          cases ok with
          | false =>
            have HR2 := Lib.hid (run_stop HRUN.out HNN.out (by rw [HRR.out]))
            obtain rfl : out = acc := (apply_break HRR.out HVA.out.1 HVA.out.2).1
            go_wp2
            go_ret2
            exact log_end (by rw [HR.out, HR2.out]) HO4.out HB4.out
          | true =>
            have HR2 := Lib.hid (run_step HRUN.out HNN.out HRR.out)
            have HSS := Lib.hid (apply_short2 HRR.out HAS.out HPC.out)
            go_wp2
            go_roundw
            case rel => exact ⟨n + 1, out, nx, rfl, rfl, rfl, by have := HLT.out; omega, HO4.out, HR4, HSS.out.2, HSS.out.1, HR2, HB4⟩
            case measure =>
              have m1 := HC.out _ _ _ HR4.out
              have m2 := HC.out _ _ _ HX0.out
              show cnt _ _ < cnt _ _
              rw [m1, m2]
              simp
        · have he : n = cs.length := by omega
          subst he
          have hx := HXX.out
          rw [List.drop_length] at hx
          obtain rfl : x = none := hx
          have HR2 := Lib.hid (show logApply ns cs = (acc, (cs.length : Int)) by rw [HR.out, run_whole HRUN.out])
          have HO := Lib.hid hown
          clear hn hlt hown ho3'
          go_wp2
          go_ret2
          exact log_end HR2.out HO.out HB.out

set_option maxHeartbeats 2000000 in
set_option maxRecDepth 100000 in
theorem implLogFits_c (a1 : Option Addr) (len1 cap1 : Nat) (ns : List Nd) (a2 : Option Addr) (len2 cap2 : Nat) (cs : List Cmd) (hl1 : len1 ≤ 2097152) (hl2 : len2 ≤ 2097152) (hs1 : Short 2097152 ns) (hs2 : ShortC 2097152 cs) (W : World) (h1 : NodesAt W a1 len1 ns) (h2 : CmdsAt W a2 len2 cs) (hE : CmdVars W) :
    Calls Tryd.prog 15 #[.slice a1 len1 cap1, .slice a2 len2 cap2] W (BoolPost (fitsL ns cs) W) := by
  obtain ⟨⟨out, n⟩, hr⟩ : ∃ r, logApply ns cs = r := ⟨_, rfl⟩
  have HA := Lib.hid (show Calls Tryd.prog 10 #[.slice a1 len1 cap1, .slice a2 len2 cap2] W (fun e w' => ∃ sl, e = .returned (.tuple #[sl, .int .i64 n]) ∧ w'.ownsRow W.heap.size 60 3 sl out.length (flatN out) ∧ Below W.heap.size W w') by
    have := implLogApply_c a1 len1 cap1 ns a2 len2 cap2 cs hl1 hl2 hs1 hs2 W h1 h2 hE
    rw [hr] at this; exact this)
  have HF := Lib.hid (show fitsL ns cs = (n == (len2 : Int)) by
    unfold fitsL
    rw [hr, h2.1]
    by_cases e : n = (len2 : Int)
    · simp [e]
    · rw [decide_eq_false e, beq_eq_false_iff_ne.2 e])
  clear h1 h2 hs1 hs2 hr hE
  go_enter Tryd.func15, Tryd.ntmps15
  go_wp2_with fail
  refine HA.out.mono ?_
  rintro e W1 ⟨sl, rfl, -, hb1⟩
  go_wp2
  go_ret
  exact ⟨ret_bool HF.out.symm, hb1⟩

end Go.Proofs.YtkaokncaockjkaaDoor

/-
  WALKS: the reader's 'of' (a text out of a list). For any seat.
-/
namespace Go.Proofs.YtkaokncaockjkaaDoor
open Go.RowKit
set_option linter.unusedVariables false

/-- One of the texts of a list, the reader one place on. -/
def OfPost (N0 B p : Nat) (xs : List ByteArray) (W : World) (e : Ending) (W' : World) : Prop :=
  ∃ x ∈ xs, e = .returned (.string x) ∧ RdAt N0 W' B (p + 1) ∧ W.grownBy W' (some B)

set_option maxHeartbeats 1000000 in
theorem of_c (N0 B p L c : Nat) (xs : List ByteArray) (hx : 1 ≤ xs.length) (hx2 : xs.length ≤ 1000) (hLB : L ≠ B) (W : World) (hp : p < 30000) (hR : RdAt N0 W B p)
    (hc : ∀ j x, xs[j]? = some x → W.cell? ⟨L, j, none⟩ = some (.string x)) :
    Calls Tryd.prog 51 #[.pointer (some ⟨B, 0, none⟩), .slice (some ⟨L, 0, none⟩) xs.length c] W (OfPost N0 B p xs W) := by
  have HP := Lib.hid (fun W hR => pick_c N0 B p xs.length (by omega) (by omega) W hp hR)
  have HC := Lib.hid hc
  clear hc
  go_enter Tryd.func51, Tryd.ntmps51
  go_wp2_with fail
  refine (HP.out W hR).mono ?_
  rintro e W1 ⟨r, rfl, h0, h1, hR1, hg⟩
  obtain ⟨k, rfl⟩ := Int.eq_ofNat_of_zero_le h0
  have hk : k < xs.length := by omega
  obtain ⟨x, hxk⟩ : ∃ x, xs[k]? = some x := ⟨xs[k], List.getElem?_eq_getElem hk⟩
  have hcell : W1.cell? ⟨L, k, none⟩ = some (.string x) := hg.cell (HC.out k x hxk) (by simpa using hLB)
  have HX := Lib.hid hxk
  clear hxk h0 h1 hR
  go_wp2
  go_ret
  exact ⟨x, List.mem_of_getElem? HX.out, rfl, hR1, hg⟩

/-- 'of' at a list that is written out on the spot. -/
theorem of_lit (N0 B p : Nat) (xs : List ByteArray) (n : Nat) (hn : xs.length = n) (hx : 1 ≤ n) (hx2 : n ≤ 1000) (W : World) (hp : p < 30000) (hR : RdAt N0 W B p) (cs : Array Value) (hcs : cs = (xs.map Value.string).toArray) :
    Calls Tryd.prog 51 #[.pointer (some ⟨B, 0, none⟩), .slice (some ⟨W.heap.size, 0, none⟩) n n] (W.alloc (.cells cs 9)) (OfPost N0 B p xs W) := by
  have hg : W.grownBy (W.alloc (.cells cs 9)) none := World.grownBy_alloc W _ none
  subst hn
  refine (of_c N0 B p W.heap.size xs.length xs hx hx2 (by have := hR.lt; omega) _ hp (hR.keep (Below.refl W.heap.size W |>.alloc (Nat.le_refl _) _)) ?_).mono ?_
  · intro j x hj
    subst hcs
    rw [World.cell?_alloc_new]
    simp [hj]
  · rintro e W' ⟨x, hx, he, hR', hg'⟩
    exact ⟨x, hx, he, hR', grownBy_trans (grownBy_none hg _) hg'⟩

/-- A text of modest length; the reader some places on. -/
def StrPost (N0 B p d m : Nat) (W : World) (e : Ending) (W' : World) : Prop :=
  ∃ (s : ByteArray) (q : Nat), e = .returned (.string s) ∧ s.size ≤ m ∧ q ≤ p + d ∧ RdAt N0 W' B q ∧ W.grownBy W' (some B)

end Go.Proofs.YtkaokncaockjkaaDoor

/-
  WALKS: paths that are drawn (spec.l91Path). For any seat.
-/
namespace Go.Proofs.YtkaokncaockjkaaDoor
open Go.RowKit
set_option linter.unusedVariables false

def oddTexts : List ByteArray := [⟨#[]⟩, ⟨#[47]⟩, ⟨#[97]⟩, ⟨#[47, 101]⟩, ⟨#[47, 97, 47]⟩, ⟨#[47, 47, 97]⟩, ⟨#[47, 97, 47, 98, 47, 99, 47, 100, 47, 97]⟩, ⟨#[47, 97, 98]⟩]
def letterTexts : List ByteArray := [⟨#[97]⟩, ⟨#[98]⟩, ⟨#[97]⟩, ⟨#[98]⟩, ⟨#[99]⟩, ⟨#[100]⟩]

def PathRel (N0 B p : Nat) (n : Int) (W : World) (out i : Value) (wr : World) : Prop :=
  ∃ (k : Nat) (s : ByteArray), i = .int .i64 k ∧ k ≤ 4 ∧ (k : Int) ≤ 1 + n ∧ out = .string s ∧ s.size = 2 * k ∧ RdAt N0 wr B (p + 3 + k) ∧ W.grownBy wr (some B)

set_option maxHeartbeats 1000000 in
set_option maxRecDepth 100000 in
theorem l91Path_c (N0 B p : Nat) (W : World) (hp : p < 29000) (hR : RdAt N0 W B p) :
    Calls Tryd.prog 68 #[.pointer (some ⟨B, 0, none⟩)] W (StrPost N0 B p 7 64 W) := by
  have HP1 := Lib.hid (fun W hR => pick_c N0 B p 24 (by omega) (by omega) W (by omega) hR)
  go_enter Tryd.func68, Tryd.ntmps68
  go_wp2_with fail
  refine (HP1.out W hR).mono ?_
  rintro e W1 ⟨r, rfl, h0, h1, hR1, hg1⟩
  by_cases hr : r = 0
  · subst hr
    clear h0 h1 hR
    have HO := Lib.hid (of_lit N0 B (p + 1) oddTexts 8 rfl (by omega) (by omega) W1 (by omega) hR1 _ rfl)
    simp only [oddTexts, List.map_cons, List.map_nil] at HO
    go_wp2_with fail
    refine HO.out.mono ?_
    rintro e W2 ⟨x, hx, rfl, hR2, hg2⟩
    go_wp2
    go_ret
    refine ⟨x, p + 1 + 1, rfl, ?_, by omega, hR2, grownBy_trans hg1 hg2⟩
    simp at hx
    rcases hx with rfl | rfl | rfl | rfl | rfl | rfl | rfl | rfl <;> decide
  · have hr' : (r == 0) = false := by simpa using hr
    have HP2 := Lib.hid (fun W hR => pick_c N0 B (p + 1) 4 (by omega) (by omega) W (by omega) hR)
    have HP3 := Lib.hid (fun W hR => pick_c N0 B (p + 1 + 1) 2 (by omega) (by omega) W (by omega) hR)
    clear h0 h1 hR hr
    go_wp2_with fail
    refine (HP2.out W1 hR1).mono ?_
    rintro e W2 ⟨a, rfl, a0, a1, hR2, hg2⟩
    go_wp2_with fail
    refine (HP3.out W2 hR2).mono ?_
    rintro e W3 ⟨b, rfl, b0, b1, hR3, hg3⟩
    have hg : W.grownBy W3 (some B) := grownBy_trans hg1 (grownBy_trans hg2 hg3)
    have hn : IntKind.i64.wrap (a * b) = a * b := by
      have hb : b = 0 ∨ b = 1 := by omega
      rcases hb with rfl | rfl
      · simp [IntKind.wrap_i64]
      · rw [Int.mul_one]; exact IntWalk.i64_in _ (by omega)
    have hab : 0 ≤ a * b ∧ a * b ≤ 3 := by
      have hb : b = 0 ∨ b = 1 := by omega
      rcases hb with rfl | rfl <;> omega
    obtain ⟨hab0, hab3⟩ := hab
    clear hg1 hg2 hg3 hR1 hR2 a0 a1 b0 b1 hr'
    go_wp2
    go_loopw [4, 5] (fun out i wr => PathRel N0 B p (a * b) W out i wr) (fun _ i _ => (1 + a * b - intOf i).toNat)
    case atStart => exact ⟨0, ⟨#[]⟩, rfl, by omega, by omega, rfl, rfl, hR3, hg⟩
    case round =>
      obtain ⟨k, s, rfl, hk4, hkn, rfl, hs, hRk, hgk⟩ := hrel
      by_cases hlt : (k : Int) < 1 + a * b
      · have hk3 : k ≤ 3 := by omega
        have HO := Lib.hid (of_lit N0 B (p + 3 + k) letterTexts 6 rfl (by omega) (by omega) wr (by omega) hRk _ rfl)
        simp only [letterTexts, List.map_cons, List.map_nil] at HO
        have HS := Lib.hid hs
        have hs8 : s.size ≤ 8 := by omega
        clear hs
        go_wp2_with fail
        refine HO.out.mono ?_
        rintro e W5 ⟨x, hx, rfl, hR5, hg5⟩
        have hx1 : x.size = 1 := by
          simp at hx
          rcases hx with rfl | rfl | rfl | rfl | rfl | rfl <;> rfl
        have HX := Lib.hid hx1
        have hx8 : x.size ≤ 1 := by omega
        clear hx hx1
        go_wp2
        refine ⟨⟨k + 1, s ++ ⟨#[47]⟩ ++ x, by go_num, by omega, by omega, rfl, ?_, hR5, grownBy_trans hgk hg5⟩, ?_⟩
        · rw [ByteArray.size_append, ByteArray.size_append, HS.out, HX.out]
          show 2 * k + 1 + 1 = _
          omega
        · simp [intOf]; omega
      · have hk : (1 : Int) + a * b ≤ k := by omega
        have HS := Lib.hid hs
        clear hs hlt
        go_wp2
        go_ret
        refine ⟨s, p + 3 + k, rfl, by have := HS.out; omega, by omega, hRk, hgk⟩

end Go.Proofs.YtkaokncaockjkaaDoor

/-
  WALKS: trees that are drawn (spec.l91Tree).
-/
namespace Go.Proofs.YtkaokncaockjkaaDoor
open Go.RowKit
set_option linter.unusedVariables false

/-- A drawn list of nodes, of the call's own. -/
def TreeDraw (N0 B p m c d : Nat) (W : World) (ok : List Nd → Prop) (e : Ending) (W' : World) : Prop :=
  ∃ (sl : Value) (out : List Nd) (q : Nat), e = .returned sl ∧ W'.ownsRow W.heap.size 60 3 sl out.length (flatN out) ∧ ok out ∧ out.length ≤ c ∧ Short m out ∧ q ≤ p + d ∧ RdAt N0 W' B q ∧ W.grownBy W' (some B)

def TreeRel (N0 B p : Nat) (n : Int) (W : World) (o i : Value) (wr : World) : Prop :=
  ∃ (acc : List Nd) (j q : Nat), i = .int .i64 j ∧ (j : Int) ≤ n ∧ wr.ownsRow W.heap.size 60 3 o acc.length (flatN acc) ∧ Hid (validT acc = true) ∧ Hid (Short 64 acc) ∧ Hid (q ≤ p + 11 * j) ∧ RdAt N0 wr B q ∧ Hid (W.grownBy wr (some B))

set_option maxHeartbeats 2000000 in
set_option maxRecDepth 100000 in
theorem l91Tree_c (N0 B p : Nat) (n : Int) (hn0 : 0 ≤ n) (hn : n ≤ 60) (W : World) (hp : p < 20000) (hR : RdAt N0 W B p) :
    Calls Tryd.prog 48 #[.pointer (some ⟨B, 0, none⟩), .int .i64 n] W (TreeDraw N0 B p 64 10 660 W (fun out => validT out = true)) := by
  have HLT := Lib.hid hR.lt
  have HP := Lib.hid (fun q W hq hR => l91Path_c N0 B q W hq hR)
  have HC := Lib.hid (fun q W hq hR => l91Content_c N0 B q W hq hR)
  have HPP := Lib.hid hp
  have HN := Lib.hid hn
  go_enter Tryd.func48, Tryd.ntmps48
  go_wp2
  go_loopw [5, 6, 7, 8] (fun o i _ _ wr => TreeRel N0 B p n W o i wr) (fun _ i _ _ _ => (n - intOf i).toNat)
  case atStart => exact ⟨[], 0, p, rfl, hn0, World.ownsRow_lit (e := 60) (size := 3) W #[] 0 (Nat.le_refl _) (by simp [maxLen]) rfl, (by show validT [] = true; rfl), (by intro x hx; cases hx), (by show p ≤ _; omega), hR.alloc _, grownBy_new _ _ _⟩
  case round =>
    obtain ⟨acc, j, q, rfl, hj, hrow, HV, HS, HQ, hRq, HG⟩ := hrel
    by_cases hlt : (j : Int) < n
    · have HJ := Lib.hid hlt
      clear hj hR
      go_wp2_with fail
      refine (HP.out q _ (by have h5 := HQ.out; have h6 := HPP.out; have h7 := HN.out; omega) hRq).mono ?_; rintro e W2 ⟨s, q2, rfl, hs, hq2, hR2, hg2⟩
      have hrow2 := own_reader hrow HLT.out hg2
      have HS2 := Lib.hid (And.intro hs hq2)
      clear hs hq2 hrow hRq
      go_wp2_with fail
      refine (HC.out q2 _ (by have h5 := HQ.out; have h6 := HPP.out; have h7 := HN.out; have h8 := HS2.out.2; omega) hR2).mono ?_; rintro e W3 ⟨k, v, q3, rfl, -, -, -, -, hq3, hR3, hg3⟩
      have hrow3 := own_reader hrow2 HLT.out hg3
      have HQ3 := Lib.hid hq3
      have HG3 := Lib.hid (grownBy_trans HG.out (grownBy_trans hg2 hg3))
      obtain ⟨ao, co, rfl, hNo⟩ := nodes_of_own hrow3
      have hlen := ((validT_iff acc).1 HV.out).2.2
      have HTP := Lib.hid (specTreePut_c ao acc.length co acc s k v (by omega) (fun n hn => by have := HS.out n hn; omega) (by have := HS2.out.1; omega) W3 hNo)
      clear hq3 hrow2 hR2 hg2 hg3 hNo hlen
      go_wp2_with fail
      refine HTP.out.mono ?_; rintro e W4 ⟨sl, out, b, rfl, hb, hown, hb4⟩
      have HR4 := Lib.hid (hR3.keep hb4)
      have HG4 := Lib.hid (grownBy_below HG3.out hb4)
      cases b with
      | true =>
        have hr : treePut acc s k v = some out := by
          rcases hb with ⟨-, h⟩ | ⟨h, -⟩
          · exact h
          · cases h
        obtain ⟨-, -, -, h5, h6⟩ := treePut_some hr
        have HV4 : Hid (validT out = true) := h6
        have HS4 : Hid (Short 64 out) := by show Short 64 out; rw [h5]; exact short_put HS.out HS2.out.1
        have hown4 := own_mono hown HG3.out.size
        clear hb hr h5 h6 hown hb4 hrow3 hR3
        go_wp2
        go_roundw
        case rel => exact ⟨out, j + 1, q3, by go_num, by have := HJ.out; omega, hown4, HV4, HS4, (by show q3 ≤ _; have h5 := HQ.out; have h6 := HQ3.out; have h7 := HS2.out.2; omega), HR4.out, HG4⟩
        case measure => have := HJ.out; simp [intOf]; omega
      | false =>
        have hown4 := own_below hrow3 hb4
        clear hb hown hb4 hrow3 hR3
        go_wp2
        go_roundw
        case rel => exact ⟨acc, j + 1, q3, by go_num, by have := HJ.out; omega, hown4, HV, HS, (by show q3 ≤ _; have h5 := HQ.out; have h6 := HQ3.out; have h7 := HS2.out.2; omega), HR4.out, HG4⟩
        case measure => have := HJ.out; simp [intOf]; omega
    · have hge : n ≤ (j : Int) := by omega
      have HJ := Lib.hid hj
      clear hj hR
      go_wp2
      go_ret
      exact ⟨_, acc, q, rfl, hrow, HV.out, ((validT_iff acc).1 HV.out).2.2, HS.out, by have h5 := HQ.out; have h6 := HJ.out; have h7 := HN.out; omega, hRq, HG.out⟩

end Go.Proofs.YtkaokncaockjkaaDoor

/-
  WALKS: trees that are drawn, seldom invalid ones (spec.l91Any).
-/
namespace Go.Proofs.YtkaokncaockjkaaDoor
open Go.RowKit
set_option linter.unusedVariables false

theorem flatN_set : ∀ (ns : List Nd) (i : Nat) (n : Nd) (k v : Int), ns[i]? = some n → ((flatN ns).set (i * 3 + 1) (.int .i64 k)).set (i * 3 + 2) (.int .i64 v) = flatN (ns.set i ⟨n.p, k, v⟩)
  | [], i, n, k, v, h => by simp at h
  | m :: r, 0, n, k, v, h => by
    simp at h
    subst h
    rfl
  | m :: r, i + 1, n, k, v, h => by
    have ih := flatN_set r i n k v (by simpa using h)
    have e : ∀ (x : Nd) (t : List Nd), flatN (x :: t) = .string x.p :: .int .i64 x.k :: .int .i64 x.v :: flatN t := fun _ _ => rfl
    rw [List.set_cons_succ, e m r, e m (r.set i _), ← ih, show (i + 1) * 3 + 1 = (i * 3 + 1) + 3 by omega, show (i + 1) * 3 + 2 = (i * 3 + 2) + 3 by omega]
    rfl

theorem own_set {W : World} {base : Nat} {e : TypeId} {g cap : Nat} {ns : List Nd} {i : Nat} {n : Nd} (h : W.ownsRow base e 3 (.slice (some ⟨g, 0, none⟩) ns.length cap) ns.length (flatN ns)) (hn : ns[i]? = some n) (k v : Int) :
    ((W.setCell ⟨g, i * 3 + 1, none⟩ (.int .i64 k)).setCell ⟨g, i * 3 + 1 + 1, none⟩ (.int .i64 v)).ownsRow base e 3 (.slice (some ⟨g, 0, none⟩) ns.length cap) (ns.set i ⟨n.p, k, v⟩).length (flatN (ns.set i ⟨n.p, k, v⟩)) := by
  have := ((h.stored (i * 3 + 1) (.int .i64 k)).1.stored (i * 3 + 2) (.int .i64 v)).1
  rw [flatN_set ns i n k v hn] at this
  rw [List.length_set]
  exact this

theorem own_slice {W : World} {base : Nat} {e : TypeId} {v : Value} {ns : List Nd} (h : W.ownsRow base e 3 v ns.length (flatN ns)) (h0 : 0 < ns.length) : ∃ g cap, v = .slice (some ⟨g, 0, none⟩) ns.length cap ∧ base ≤ g ∧ g < W.heap.size := by
  rcases h.2 with ⟨_, h1⟩ | ⟨g, cap, cur, rfl, h1, h2, _⟩
  · omega
  · exact ⟨g, cap, rfl, h1, by rw [Array.getElem?_eq_some_iff] at h2; exact h2.1⟩

theorem short_set {m : Nat} {ns : List Nd} {i : Nat} {n : Nd} {k v : Int} (h : Short m ns) (hn : ns[i]? = some n) : Short m (ns.set i ⟨n.p, k, v⟩) := by
  intro x hx
  rcases List.mem_or_eq_of_mem_set hx with h1 | rfl
  · exact h x h1
  · exact h n (List.mem_of_getElem? hn)

set_option maxHeartbeats 2000000 in
set_option maxRecDepth 100000 in
theorem l91Any_c (N0 B p : Nat) (W : World) (hp : p < 10000) (hR : RdAt N0 W B p) :
    Calls Tryd.prog 28 #[.pointer (some ⟨B, 0, none⟩)] W (TreeDraw N0 B p 64 11 670 W (fun _ => True)) := by
  obtain ⟨i0, hi, hz0, hz1, hz2⟩ := info_parts infoNode
  have HLT := Lib.hid hR.lt
  have HLE := Lib.hid hR.le
  have HP1 := Lib.hid (fun W hR => pick_c N0 B p 16 (by omega) (by omega) W (by omega) hR)
  have HP2 := Lib.hid (fun W hR => pick_c N0 B (p + 1) 8 (by omega) (by omega) W (by omega) hR)
  have HT := Lib.hid (fun n h0 h1 W hR => l91Tree_c N0 B (p + 1 + 1) n h0 h1 W (by omega) hR)
  have HPK := Lib.hid (fun q n h0 h1 W hq hR => pick_c N0 B q n h0 h1 W hq hR)
  have HPP := Lib.hid hp
  clear hp
  go_enter Tryd.func28, Tryd.ntmps28
  go_wp2_with fail
  refine (HP1.out _ hR).mono ?_; rintro e W1 ⟨n, rfl, n0, n1, hR1, hg1⟩
  have HN := Lib.hid (And.intro n0 n1)
  clear n0 n1 hR
  go_wp2_with fail
  refine (HP2.out _ hR1).mono ?_; rintro e W2 ⟨r, rfl, r0, r1, hR2, hg2⟩
  have HG2 := Lib.hid (grownBy_trans hg1 hg2)
  clear hg1 hg2 hR1
  by_cases hr : r = 0
  · subst hr
    clear r0 r1
    go_wp2_with fail
    refine (HT.out 60 (by omega) (by omega) _ hR2).mono ?_; rintro e W3 ⟨sl, out, q, rfl, hown0, -, hlen, hsh, hq, hR3, hg3⟩
    have hown := own_mono hown0 HG2.out.size
    have HG3 := Lib.hid (grownBy_trans HG2.out hg3)
    have HSH := Lib.hid hsh
    have HLN := Lib.hid hlen
    have HQ := Lib.hid hq
    clear hown0 hg3 hsh hlen hq hR2
    by_cases hl0 : out.length = 0
    · obtain ⟨a, cap, rfl, -⟩ := nodes_of_own hown
      have HO := Lib.hid hown
      have hl0' : (out.length : Int) = 0 := by omega
      clear hl0 hown
      go_wp2
      go_ret
      exact ⟨_, out, q, rfl, HO.out, trivial, by have := HLN.out; omega, HSH.out, by have := HQ.out; omega, hR3, HG3.out⟩
    · have hl0 : 0 < out.length := by omega
      have hl1 : (0 : Int) < out.length := by omega
      obtain ⟨g, cap, rfl, hgb, hgw⟩ := own_slice hown hl0
      have HB := Lib.hid (And.intro hgb hgb)
      clear hgb hgw
      go_wp2_with fail
      refine (HPK.out q out.length (by omega) (by have := HLN.out; omega) _ (by have := HQ.out; have := HPP.out; omega) hR3).mono ?_; rintro e W4 ⟨k', rfl, k0, k1, hR4, hg4⟩
      obtain ⟨k, rfl⟩ := Int.eq_ofNat_of_zero_le k0
      have HK := Lib.hid (show k < out.length by omega)
      have hown4 := own_reader hown HLT.out hg4
      clear k0 k1 hown hR3
      go_wp2_with fail
      refine (HPK.out (q + 1) 30 (by omega) (by omega) _ (by have := HQ.out; have := HPP.out; omega) hR4).mono ?_; rintro e W5 ⟨tt, rfl, t0, t1, hR5, hg5⟩
      have HO5 := Lib.hid (own_reader hown4 HLT.out hg5)
      have HG5 := Lib.hid (grownBy_trans HG3.out (grownBy_trans hg4 hg5))
      have HR5 := Lib.hid hR5
      obtain ⟨x, hx⟩ : ∃ x, out[k]? = some x := ⟨_, List.getElem?_eq_getElem HK.out⟩
      have HX := Lib.hid hx
      clear hx hg4 hg5 hR4 hR5 hown4
      by_cases ht : tt = 0
      · subst ht
        clear t0 t1
        have c1 : W5.cell? ⟨g, k * 3 + 1, none⟩ = some (.int .i64 x.k) := by rw [HO5.out.cellAt _ (by have := HK.out; omega)]; exact (flatN_get out k x HX.out).2.1
        have c2 : W5.cell? ⟨g, k * 3 + 2, none⟩ = some (.int .i64 x.v) := by rw [HO5.out.cellAt _ (by have := HK.out; omega)]; exact (flatN_get out k x HX.out).2.2
        have z1 := HO5.out.frozenAt (k * 3 + 1)
        have z2 := HO5.out.frozenAt (k * 3 + 2)
        have hkl : (k : Int) < out.length := by have := HK.out; omega
        clear hl0
        go_wp2
        go_ret
        exact ⟨_, out.set k ⟨x.p, 0, 0⟩, q + 1 + 1, rfl, own_set HO5.out HX.out 0 0, trivial, by rw [List.length_set]; have := HLN.out; omega, short_set HSH.out HX.out, by have := HQ.out; omega,
          (HR5.out.setNew _ _ (by have := HLE.out; have := HB.out.1; show N0 ≤ g; omega)).setNew _ _ (by have := HLE.out; have := HB.out.1; show N0 ≤ g; omega), grownBy_setCell_new (grownBy_setCell_new HG5.out _ _ HB.out.1) _ _ HB.out.1⟩
      · have ht0 : (tt == 0) = false := beq_eq_false_iff_ne.2 ht
        clear ht
        by_cases ht : tt = 1
        · subst ht
          clear t0 t1
          have c0 : W5.cell? ⟨g, k * 3, none⟩ = some (.string x.p) := by rw [HO5.out.cellAt _ (by have := HK.out; omega)]; exact (flatN_get out k x HX.out).1
          have c1 : W5.cell? ⟨g, k * 3 + 1, none⟩ = some (.int .i64 x.k) := by rw [HO5.out.cellAt _ (by have := HK.out; omega)]; exact (flatN_get out k x HX.out).2.1
          have c2 : W5.cell? ⟨g, k * 3 + 2, none⟩ = some (.int .i64 x.v) := by rw [HO5.out.cellAt _ (by have := HK.out; omega)]; exact (flatN_get out k x HX.out).2.2
          have hkl : (k : Int) < out.length := by have := HK.out; omega
          clear hl0
          go_wp2_with (at_builtin; refine wpList_append_own _ rfl _ _ 23 rfl W.heap.size 60 i0 (.agg #[.string ⟨#[]⟩, .int .i64 0, .int .i64 0]) 3 32 Tryd.underlying23 hi hz0 hz1 hz2 rfl (by decide) _ _ _ rfl (HO5.out.alloc _) ⟨W5.heap.size, 0, none⟩ 1 1 [.string x.p, .int .i64 x.k, .int .i64 x.v] rfl rfl (cell_three_new _ _ _ _ _) (fun x hx => by simp at hx; rcases hx with rfl | rfl | rfl <;> rfl) (by unfold maxLen; have := HLN.out; omega) (by have := HLN.out; omega) (by have := HG5.out.size; simp; omega) ?_; intro v' w6 ho6 hg6 hn6)
          go_ret
          have hown6 := own_push x ho6
          have hfar : W.heap.size ≤ g := HB.out.1
          have hg7 : W5.grownBy w6 (some g) := grownBy_trans (grownBy_new W5 _ _) hg6
          have hR6 : RdAt N0 w6 B (q + 1 + 1) := by
            have hle := HLE.out
            exact HR5.out.kept ⟨hg7.os, hg7.tape, hg7.output, hg7.size, fun b hb => hg7.block b (Nat.lt_of_lt_of_le hb HR5.out.le) (by simp; omega)⟩
          have hG6 : W.grownBy w6 (some B) := ⟨HG5.out.os ▸ hg7.os ▸ rfl, hg7.tape.trans HG5.out.tape, hg7.output.trans HG5.out.output, Nat.le_trans HG5.out.size hg7.size, fun b hb hne => (hg7.block b (Nat.lt_of_lt_of_le hb HG5.out.size) (by simp; omega)).trans (HG5.out.block b hb hne)⟩
          have hsh6 : Short 64 (out ++ [x]) := by
            intro y hy
            rcases List.mem_append.1 hy with h | h
            · exact HSH.out y h
            · rw [List.mem_singleton] at h
              subst h
              exact HSH.out _ (List.mem_of_getElem? HX.out)
          exact ⟨_, out ++ [x], q + 1 + 1, rfl, hown6, trivial, by simp; have := HLN.out; omega, hsh6, by have := HQ.out; omega, hR6, hG6⟩
        · have ht1 : (tt == 1) = false := beq_eq_false_iff_ne.2 ht
          clear ht
          by_cases ht : tt = 2
          · subst ht
            clear t0 t1
            have c1 : W5.cell? ⟨g, k * 3 + 1, none⟩ = some (.int .i64 x.k) := by rw [HO5.out.cellAt _ (by have := HK.out; omega)]; exact (flatN_get out k x HX.out).2.1
            have c2 : W5.cell? ⟨g, k * 3 + 2, none⟩ = some (.int .i64 x.v) := by rw [HO5.out.cellAt _ (by have := HK.out; omega)]; exact (flatN_get out k x HX.out).2.2
            have z1 := HO5.out.frozenAt (k * 3 + 1)
            have z2 := HO5.out.frozenAt (k * 3 + 2)
            have hkl : (k : Int) < out.length := by have := HK.out; omega
            clear hl0
            go_wp2
            go_ret
            exact ⟨_, out.set k ⟨x.p, 2, 0⟩, q + 1 + 1, rfl, own_set HO5.out HX.out 2 0, trivial, by rw [List.length_set]; have := HLN.out; omega, short_set HSH.out HX.out, by have := HQ.out; omega,
              (HR5.out.setNew _ _ (by have := HLE.out; have := HB.out.1; show N0 ≤ g; omega)).setNew _ _ (by have := HLE.out; have := HB.out.1; show N0 ≤ g; omega), grownBy_setCell_new (grownBy_setCell_new HG5.out _ _ HB.out.1) _ _ HB.out.1⟩
          · have ht2 : (tt == 2) = false := beq_eq_false_iff_ne.2 ht
            have HO6 := HO5
            clear ht t0 t1
            go_wp2
            go_ret
            exact ⟨_, out, q + 1 + 1, rfl, HO6.out, trivial, by have := HLN.out; omega, HSH.out, by have := HQ.out; omega, HR5.out, HG5.out⟩
  · have hr' : (r == 0) = false := beq_eq_false_iff_ne.2 hr
    clear r0 r1 hr
    go_wp2_with fail
    refine (HT.out n HN.out.1 (by have := HN.out.2; omega) _ hR2).mono ?_; rintro e W3 ⟨sl, out, q, rfl, hown0, -, hlen, hsh, hq, hR3, hg3⟩
    have hown := own_mono hown0 HG2.out.size
    have HG3 := Lib.hid (grownBy_trans HG2.out hg3)
    have HSH := Lib.hid hsh
    have HLN := Lib.hid hlen
    have HQ := Lib.hid hq
    clear hown0 hg3 hsh hlen hq hR2
    by_cases hl0 : out.length = 0
    · obtain ⟨a, cap, rfl, -⟩ := nodes_of_own hown
      have HO := Lib.hid hown
      have hl0' : (out.length : Int) = 0 := by omega
      clear hl0 hown
      go_wp2
      go_ret
      exact ⟨_, out, q, rfl, HO.out, trivial, by have := HLN.out; omega, HSH.out, by have := HQ.out; omega, hR3, HG3.out⟩
    · have hl0 : 0 < out.length := by omega
      have hl1 : (0 : Int) < out.length := by omega
      obtain ⟨g, cap, rfl, hgb, hgw⟩ := own_slice hown hl0
      have HB := Lib.hid (And.intro hgb hgb)
      clear hgb hgw
      go_wp2_with fail
      refine (HPK.out q out.length (by omega) (by have := HLN.out; omega) _ (by have := HQ.out; have := HPP.out; omega) hR3).mono ?_; rintro e W4 ⟨k', rfl, k0, k1, hR4, hg4⟩
      obtain ⟨k, rfl⟩ := Int.eq_ofNat_of_zero_le k0
      have HK := Lib.hid (show k < out.length by omega)
      have hown4 := own_reader hown HLT.out hg4
      clear k0 k1 hown hR3
      go_wp2_with fail
      refine (HPK.out (q + 1) 30 (by omega) (by omega) _ (by have := HQ.out; have := HPP.out; omega) hR4).mono ?_; rintro e W5 ⟨tt, rfl, t0, t1, hR5, hg5⟩
      have HO5 := Lib.hid (own_reader hown4 HLT.out hg5)
      have HG5 := Lib.hid (grownBy_trans HG3.out (grownBy_trans hg4 hg5))
      have HR5 := Lib.hid hR5
      obtain ⟨x, hx⟩ : ∃ x, out[k]? = some x := ⟨_, List.getElem?_eq_getElem HK.out⟩
      have HX := Lib.hid hx
      clear hx hg4 hg5 hR4 hR5 hown4
      by_cases ht : tt = 0
      · subst ht
        clear t0 t1
        have c1 : W5.cell? ⟨g, k * 3 + 1, none⟩ = some (.int .i64 x.k) := by rw [HO5.out.cellAt _ (by have := HK.out; omega)]; exact (flatN_get out k x HX.out).2.1
        have c2 : W5.cell? ⟨g, k * 3 + 2, none⟩ = some (.int .i64 x.v) := by rw [HO5.out.cellAt _ (by have := HK.out; omega)]; exact (flatN_get out k x HX.out).2.2
        have z1 := HO5.out.frozenAt (k * 3 + 1)
        have z2 := HO5.out.frozenAt (k * 3 + 2)
        have hkl : (k : Int) < out.length := by have := HK.out; omega
        clear hl0
        go_wp2
        go_ret
        exact ⟨_, out.set k ⟨x.p, 0, 0⟩, q + 1 + 1, rfl, own_set HO5.out HX.out 0 0, trivial, by rw [List.length_set]; have := HLN.out; omega, short_set HSH.out HX.out, by have := HQ.out; omega,
          (HR5.out.setNew _ _ (by have := HLE.out; have := HB.out.1; show N0 ≤ g; omega)).setNew _ _ (by have := HLE.out; have := HB.out.1; show N0 ≤ g; omega), grownBy_setCell_new (grownBy_setCell_new HG5.out _ _ HB.out.1) _ _ HB.out.1⟩
      · have ht0 : (tt == 0) = false := beq_eq_false_iff_ne.2 ht
        clear ht
        by_cases ht : tt = 1
        · subst ht
          clear t0 t1
          have c0 : W5.cell? ⟨g, k * 3, none⟩ = some (.string x.p) := by rw [HO5.out.cellAt _ (by have := HK.out; omega)]; exact (flatN_get out k x HX.out).1
          have c1 : W5.cell? ⟨g, k * 3 + 1, none⟩ = some (.int .i64 x.k) := by rw [HO5.out.cellAt _ (by have := HK.out; omega)]; exact (flatN_get out k x HX.out).2.1
          have c2 : W5.cell? ⟨g, k * 3 + 2, none⟩ = some (.int .i64 x.v) := by rw [HO5.out.cellAt _ (by have := HK.out; omega)]; exact (flatN_get out k x HX.out).2.2
          have hkl : (k : Int) < out.length := by have := HK.out; omega
          clear hl0
          go_wp2_with (at_builtin; refine wpList_append_own _ rfl _ _ 23 rfl W.heap.size 60 i0 (.agg #[.string ⟨#[]⟩, .int .i64 0, .int .i64 0]) 3 32 Tryd.underlying23 hi hz0 hz1 hz2 rfl (by decide) _ _ _ rfl (HO5.out.alloc _) ⟨W5.heap.size, 0, none⟩ 1 1 [.string x.p, .int .i64 x.k, .int .i64 x.v] rfl rfl (cell_three_new _ _ _ _ _) (fun x hx => by simp at hx; rcases hx with rfl | rfl | rfl <;> rfl) (by unfold maxLen; have := HLN.out; omega) (by have := HLN.out; omega) (by have := HG5.out.size; simp; omega) ?_; intro v' w6 ho6 hg6 hn6)
          go_ret
          have hown6 := own_push x ho6
          have hfar : W.heap.size ≤ g := HB.out.1
          have hg7 : W5.grownBy w6 (some g) := grownBy_trans (grownBy_new W5 _ _) hg6
          have hR6 : RdAt N0 w6 B (q + 1 + 1) := by
            have hle := HLE.out
            exact HR5.out.kept ⟨hg7.os, hg7.tape, hg7.output, hg7.size, fun b hb => hg7.block b (Nat.lt_of_lt_of_le hb HR5.out.le) (by simp; omega)⟩
          have hG6 : W.grownBy w6 (some B) := ⟨HG5.out.os ▸ hg7.os ▸ rfl, hg7.tape.trans HG5.out.tape, hg7.output.trans HG5.out.output, Nat.le_trans HG5.out.size hg7.size, fun b hb hne => (hg7.block b (Nat.lt_of_lt_of_le hb HG5.out.size) (by simp; omega)).trans (HG5.out.block b hb hne)⟩
          have hsh6 : Short 64 (out ++ [x]) := by
            intro y hy
            rcases List.mem_append.1 hy with h | h
            · exact HSH.out y h
            · rw [List.mem_singleton] at h
              subst h
              exact HSH.out _ (List.mem_of_getElem? HX.out)
          exact ⟨_, out ++ [x], q + 1 + 1, rfl, hown6, trivial, by simp; have := HLN.out; omega, hsh6, by have := HQ.out; omega, hR6, hG6⟩
        · have ht1 : (tt == 1) = false := beq_eq_false_iff_ne.2 ht
          clear ht
          by_cases ht : tt = 2
          · subst ht
            clear t0 t1
            have c1 : W5.cell? ⟨g, k * 3 + 1, none⟩ = some (.int .i64 x.k) := by rw [HO5.out.cellAt _ (by have := HK.out; omega)]; exact (flatN_get out k x HX.out).2.1
            have c2 : W5.cell? ⟨g, k * 3 + 2, none⟩ = some (.int .i64 x.v) := by rw [HO5.out.cellAt _ (by have := HK.out; omega)]; exact (flatN_get out k x HX.out).2.2
            have z1 := HO5.out.frozenAt (k * 3 + 1)
            have z2 := HO5.out.frozenAt (k * 3 + 2)
            have hkl : (k : Int) < out.length := by have := HK.out; omega
            clear hl0
            go_wp2
            go_ret
            exact ⟨_, out.set k ⟨x.p, 2, 0⟩, q + 1 + 1, rfl, own_set HO5.out HX.out 2 0, trivial, by rw [List.length_set]; have := HLN.out; omega, short_set HSH.out HX.out, by have := HQ.out; omega,
              (HR5.out.setNew _ _ (by have := HLE.out; have := HB.out.1; show N0 ≤ g; omega)).setNew _ _ (by have := HLE.out; have := HB.out.1; show N0 ≤ g; omega), grownBy_setCell_new (grownBy_setCell_new HG5.out _ _ HB.out.1) _ _ HB.out.1⟩
          · have ht2 : (tt == 2) = false := beq_eq_false_iff_ne.2 ht
            have HO6 := HO5
            clear ht t0 t1
            go_wp2
            go_ret
            exact ⟨_, out, q + 1 + 1, rfl, HO6.out, trivial, by have := HLN.out; omega, HSH.out, by have := HQ.out; omega, HR5.out, HG5.out⟩

end Go.Proofs.YtkaokncaockjkaaDoor

/-
  WALKS: spec.l91In: a path of a drawn tree, or any path.
-/
namespace Go.Proofs.YtkaokncaockjkaaDoor
open Go.RowKit
set_option linter.unusedVariables false

def twoLetters : List ByteArray := [⟨#[97]⟩, ⟨#[98]⟩]

set_option maxHeartbeats 2000000 in
set_option maxRecDepth 100000 in
theorem l91In_c (N0 B p base : Nat) (sl : Value) (ns : List Nd) (hlen : ns.length ≤ 1000) (hs : Short 64 ns) (hb : B < base) (W : World) (hown : W.ownsRow base 60 3 sl ns.length (flatN ns)) (hp : p < 20000) (hR : RdAt N0 W B p) :
    Calls Tryd.prog 80 #[.pointer (some ⟨B, 0, none⟩), sl] W (StrPost N0 B p 8 66 W) := by
  have HPath := Lib.hid (fun q W hq hR => l91Path_c N0 B q W hq hR)
  have HPK := Lib.hid (fun q n h0 h1 W hq hR => pick_c N0 B q n h0 h1 W hq hR)
  have HPP := Lib.hid hp
  have HS := Lib.hid hs
  have HB := Lib.hid hb
  have HLN := Lib.hid hlen
  clear hp hs hb hlen
  by_cases h0 : ns.length = 0
  · obtain ⟨a, cap, rfl, -⟩ := nodes_of_own hown
    have h0' : (ns.length : Int) = 0 := by omega
    clear h0 hown
    go_enter Tryd.func80, Tryd.ntmps80
    go_wp2_with fail
    refine (HPath.out p _ (by have := HPP.out; omega) hR).mono ?_; rintro e W1 ⟨s, q, rfl, hs, hq, hR1, hg1⟩
    have HX := Lib.hid (And.intro hs hq)
    clear hs hq hR
    go_wp2
    go_ret
    exact ⟨s, q, rfl, by have := HX.out.1; omega, by have := HX.out.2; omega, hR1, hg1⟩
  · obtain ⟨g, cap, rfl, hgb, hgw⟩ := own_slice hown (by omega)
    have hl1 : (0 : Int) < ns.length := by omega
    have HL0 := Lib.hid (show 0 < ns.length by omega)
    clear h0 hgb hgw
    go_enter Tryd.func80, Tryd.ntmps80
    go_wp2_with fail
    refine (HPK.out p 4 (by omega) (by omega) _ (by have := HPP.out; omega) hR).mono ?_; rintro e W1 ⟨r, rfl, r0, r1, hR1, hg1⟩
    have hown1 := own_reader hown HB.out hg1
    have HG1 := Lib.hid hg1
    clear hown hR hg1
    by_cases hr : 0 < r
    · have hr' : decide (0 < r) = true := decide_eq_true hr
      clear r0 r1
      go_wp2_with fail
      refine (HPK.out (p + 1) ns.length (by have := HL0.out; omega) (by have := HLN.out; omega) _ (by have := HPP.out; omega) hR1).mono ?_; rintro e W2 ⟨k', rfl, k0, k1, hR2, hg2⟩
      obtain ⟨k, rfl⟩ := Int.eq_ofNat_of_zero_le k0
      have HK := Lib.hid (show k < ns.length by omega)
      have HO2 := Lib.hid (own_reader hown1 HB.out hg2)
      have HG2 := Lib.hid (grownBy_trans HG1.out hg2)
      obtain ⟨x, hx⟩ : ∃ x, ns[k]? = some x := ⟨_, List.getElem?_eq_getElem HK.out⟩
      have hsz : x.p.size ≤ 64 := HS.out x (List.mem_of_getElem? hx)
      have c0 : W2.cell? ⟨g, k * 3, none⟩ = some (.string x.p) := by rw [HO2.out.cellAt _ (by have := HK.out; omega)]; exact (flatN_get ns k x hx).1
      have hkl : (k : Int) < ns.length := by have := HK.out; omega
      generalize x.p = s at hsz c0
      clear k0 k1 hown1 hR1 hg2 hx
      go_wp2_with fail
      refine (HPK.out (p + 1 + 1) 4 (by omega) (by omega) _ (by have := HPP.out; omega) hR2).mono ?_; rintro e W3 ⟨t, rfl, t0, t1, hR3, hg3⟩
      have HG3 := Lib.hid (grownBy_trans HG2.out hg3)
      have HSZ := Lib.hid hsz
      clear c0 hR2 hg3 hkl
      by_cases ht : t = 0
      · subst ht
        clear t0 t1
        have HO := Lib.hid (of_lit N0 B (p + 1 + 1 + 1) twoLetters 2 rfl (by omega) (by omega) W3 (by have := HPP.out; omega) hR3 _ rfl)
        simp only [twoLetters, List.map_cons, List.map_nil] at HO
        go_wp2_with fail
        refine HO.out.mono ?_; rintro e W4 ⟨y, hy, rfl, hR4, hg4⟩
        have hy1 : y.size ≤ 1 := by
          simp at hy
          rcases hy with rfl | rfl <;> decide
        clear hy hR3
        go_wp2
        go_ret
        exact ⟨_, p + 1 + 1 + 1 + 1, rfl, by rw [ByteArray.size_append, ByteArray.size_append]; show s.size + 1 + _ ≤ 66; omega, by omega, hR4, grownBy_trans HG3.out hg4⟩
      · have ht' : (t == 0) = false := beq_eq_false_iff_ne.2 ht
        clear t0 t1 ht
        go_wp2
        go_ret
        exact ⟨_, p + 1 + 1 + 1, rfl, by omega, by omega, hR3, HG3.out⟩
    · have hr' : decide (0 < r) = false := decide_eq_false hr
      clear r0 r1
      go_wp2_with fail
      refine (HPath.out (p + 1) _ (by have := HPP.out; omega) hR1).mono ?_; rintro e W2 ⟨s, q, rfl, hs, hq, hR2, hg2⟩
      have HX := Lib.hid (And.intro hs hq)
      clear hs hq hR1
      go_wp2
      go_ret
      exact ⟨s, q, rfl, by have := HX.out.1; omega, by have := HX.out.2; omega, hR2, grownBy_trans HG1.out hg2⟩

end Go.Proofs.YtkaokncaockjkaaDoor

/-
  WALKS: spec.DrawTreeValid, DrawTreeGet, DrawTreePut, DrawTreeUnder.
-/
namespace Go.Proofs.YtkaokncaockjkaaDoor
open Go.RowKit
set_option linter.unusedVariables false

/-- A drawn list of nodes, in memory of the call's own. -/
def Drawn (W W' : World) (sl : Value) (ns : List Nd) : Prop :=
  W'.ownsRow W.heap.size 60 3 sl ns.length (flatN ns) ∧ ns.length ≤ 11 ∧ Short 64 ns ∧ Below W.heap.size W W'

def ListPost (W : World) (e : Ending) (W' : World) : Prop := ∃ sl ns, e = .returned sl ∧ Drawn W W' sl ns
def ListPathPost (W : World) (e : Ending) (W' : World) : Prop := ∃ sl ns s, e = .returned (.tuple #[sl, .string s]) ∧ s.size ≤ 66 ∧ Drawn W W' sl ns
def ListPutPost (W : World) (e : Ending) (W' : World) : Prop := ∃ sl ns s, ∃ k v : Int, e = .returned (.tuple #[sl, .string s, con k v]) ∧ s.size ≤ 66 ∧ Drawn W W' sl ns

theorem triple_results (fn : Func) (hf : fn.results = #[.tmp 2, .tmp 3, .cell 4 34]) (W : World) (n : Nat) (k v : Int) (sl x : Value) (tmps : Array Value) (h2 : tmps[2]? = some sl) (h3 : tmps[3]? = some x) (ht : tmps[4]? = some (.pointer (some ⟨n, 0, none⟩)))
    (h : W.cell? ⟨n, 0, none⟩ = some (.int .i64 k) ∧ W.cell? ⟨n, 1, none⟩ = some (.int .i64 v)) : (results fn tmps).run Tryd.prog W = .ok (.tuple #[sl, x, con k v]) W := by
  obtain ⟨c0, c1⟩ := h
  simp [results, hf, go_sem, h2, h3, ht, c0, c1]

theorem own_setOther {W : World} {base : Nat} {e : TypeId} {size n : Nat} {v : Value} {xs : List Value} (h : W.ownsRow base e size v n xs) (a : Addr) (u : Value) (ha : a.block < base) : (W.setCell a u).ownsRow base e size v n xs := by
  refine h.kept (row := some a.block) ⟨rfl, rfl, rfl, by simp [World.setCell], fun k _ hk => Below.heap_setCell _ _ _ _ (fun e => hk (by rw [e]))⟩ ?_
  cases hv : v.ownBlock with
  | none => exact .inl rfl
  | some k =>
    right
    have := (h.lt k hv).1
    simp; omega

/-- END OF PUT -/
theorem drewN_heap (W : World) (n : Nat) : (W.drewN n).heap = W.heap := (drewN_cell W n ⟨0, 0, none⟩).2.2
theorem drawn_drewN {W W' : World} {sl : Value} {ns : List Nd} (h : Drawn W W' sl ns) (n : Nat) : Drawn W (W'.drewN n) sl ns := by
  obtain ⟨h1, h2, h3, h4⟩ := h
  have hb : Below W'.heap.size W' (W'.drewN n) := ⟨rfl, rfl, rfl, by rw [drewN_heap]; exact Nat.le_refl _, fun k _ => by rw [drewN_heap]⟩
  exact ⟨own_below h1 hb, h2, h3, below_next h4 hb⟩

end Go.Proofs.YtkaokncaockjkaaDoor

/-
  WALKS: commands that are drawn: spec.l91Command, DrawCommandValid, DrawCommandUndo, DrawCommandText, DrawCommandApply, DrawCommandParse.
-/
namespace Go.Proofs.YtkaokncaockjkaaDoor
open Go.RowKit
set_option linter.unusedVariables false

/-- A drawn command: its path is short; the reader some places on. -/
def CmdDraw (N0 B p : Nat) (W : World) (e : Ending) (W' : World) : Prop :=
  ∃ (c : Cmd) (q : Nat), e = .returned (cmdV c) ∧ c.p.size ≤ 66 ∧ q ≤ p + 17 ∧ RdAt N0 W' B q ∧ W.grownBy W' (some B)

theorem cmd_draw {N0 B p q : Nat} {W W' : World} {t : ByteArray} {fk fv tk tv : Int} (hs : t.size ≤ 66) (hq : q ≤ p + 17) (hR : RdAt N0 W' B q) (hg : W.grownBy W' (some B)) (hL : N0 ≤ W.heap.size) :
    CmdDraw N0 B p W (.returned (cmdV ⟨t, fk, fv, tk, tv⟩)) (((((W'.setCell ⟨W.heap.size, 0, none⟩ (.string t)).setCell ⟨W.heap.size, 1, none⟩ (.int .i64 fk)).setCell ⟨W.heap.size, 2, none⟩ (.int .i64 fv)).setCell ⟨W.heap.size, 3, none⟩ (.int .i64 tk)).setCell ⟨W.heap.size, 4, none⟩ (.int .i64 tv)) :=
  ⟨⟨t, fk, fv, tk, tv⟩, q, rfl, hs, hq, ((((hR.setNew _ _ hL).setNew _ _ hL).setNew _ _ hL).setNew _ _ hL).setNew _ _ hL,
    grownBy_setCell_new (grownBy_setCell_new (grownBy_setCell_new (grownBy_setCell_new (grownBy_setCell_new hg _ _ (Nat.le_refl _)) _ _ (Nat.le_refl _)) _ _ (Nat.le_refl _)) _ _ (Nat.le_refl _)) _ _ (Nat.le_refl _)⟩

set_option maxHeartbeats 2000000 in
set_option maxRecDepth 100000 in
theorem l91Command_c (N0 B p base : Nat) (sl : Value) (ns : List Nd) (hlen : ns.length ≤ 11) (hs : Short 64 ns) (hb : B < base) (W : World) (hown : W.ownsRow base 60 3 sl ns.length (flatN ns)) (hp : p < 19000) (hR : RdAt N0 W B p) :
    Calls Tryd.prog 69 #[.pointer (some ⟨B, 0, none⟩), sl] W (CmdDraw N0 B p W) := by
  have HI := Lib.hid (fun W' h1 h2 => l91In_c N0 B p base sl ns (by omega) hs hb W' h1 (by omega) h2)
  have HC := Lib.hid (fun q W1 hq hR => l91Content_c N0 B q W1 hq hR)
  have HPK := Lib.hid (fun q n h0 h1 W hq hR => pick_c N0 B q n h0 h1 W hq hR)
  have HLT := Lib.hid hR.lt
  have HLE := Lib.hid hR.le
  have HO := Lib.hid hown
  have HR := Lib.hid hR
  have HB := Lib.hid hb
  have HP := Lib.hid hp
  obtain ⟨a, cap, rfl, hN⟩ := nodes_of_own hown
  have HN := Lib.hid hN
  have HG := Lib.hid (fun x W' (h : NodesAt W' a ns.length ns) => l3Get_c a ns.length cap ns x (by omega) W' h)
  clear hR hown hs hb hp hN hlen
  go_enter Tryd.func69, Tryd.ntmps69
  go_wp2_with fail
  refine (HI.out _ (own_below HO.out (below_box W _)) (HR.out.alloc _)).mono ?_
  rintro e W1 ⟨s, q1, rfl, hs1, hq1, hR1, hg1⟩
  have T1 := Lib.hid (five_grown hg1 HLT.out)
  have G1 := Lib.hid (grownBy_trans (grownBy_new W _ (some B)) hg1)
  have Q1 := Lib.hid (And.intro hs1 hq1)
  have HR1 := Lib.hid hR1
  clear hs1 hq1 hR1 hg1
  go_wp2_with fail
  refine (HC.out q1 _ (by have := HP.out; have := Q1.out.2; omega) HR1.out).mono ?_
  rintro e W2 ⟨k, v, q2, rfl, -, -, -, -, hq2, hR2, hg2⟩
  have T2 := Lib.hid (T1.out.keep hg2 (by have := HLT.out; omega))
  have G2 := Lib.hid (grownBy_trans G1.out hg2)
  have Q2 := Lib.hid hq2
  have HR2 := Lib.hid hR2
  have O2 := Lib.hid (own_reader HO.out HB.out G2.out)
  clear hq2 hR2 hg2 T1 G1 HR1
  go_wp2_with fail
  obtain ⟨⟨gk, gv⟩, hg⟩ : ∃ g, getT ns s = g := ⟨_, rfl⟩
  obtain ⟨a', cap', ee, hN2⟩ := nodes_of_own O2.out
  cases ee
  have HG2 := Lib.hid (show Calls Tryd.prog 57 #[.slice a ns.length cap, .string s] (W2.alloc (.cells #[.string s, .int .i64 0, .int .i64 0, .int .i64 k, .int .i64 v] 36)) (ConRet gk gv (W2.alloc (.cells #[.string s, .int .i64 0, .int .i64 0, .int .i64 k, .int .i64 v] 36))) by
    have := HG.out s _ (hN2.keep (below_box W2 (.cells #[.string s, .int .i64 0, .int .i64 0, .int .i64 k, .int .i64 v] 36)))
    rw [hg] at this
    exact this)
  clear hg hN2
  refine HG2.out.mono ?_
  rintro e W3 ⟨rfl, hb3⟩
  have F3 := Lib.hid ((five_new W2 _ _ _ _ _ _).below hb3)
  have T3 := Lib.hid ((T2.out.alloc _).below hb3)
  have G3 := Lib.hid (grownBy_below (grownBy_trans G2.out (grownBy_new W2 _ (some B))) hb3)
  have R3 := Lib.hid ((HR2.out.alloc _).keep hb3)
  have HZ := Lib.hid (And.intro HR2.out.le HR2.out.lt)
  have HW := Lib.hid (show W.heap.size < W2.heap.size from T2.out.2.2.2.2.2.2.2.2.2.2)
  clear hb3 HG2 T2 G2 O2 HR2
  obtain ⟨c0, c1, c2, c3, c4, f0, f1, f2, f3, f4, -⟩ := F3.out
  unfold con
  go_wp2_with fail
  refine (HPK.out q2 12 (by omega) (by omega) _ (by have := HP.out; have := Q1.out.2; have := Q2.out; omega) ((R3.out.setNew _ _ (by exact HZ.out.1)).setNew _ _ (by exact HZ.out.1))).mono ?_
  rintro e W4 ⟨r, rfl, r0, -, hR4, hg4⟩
  have F4 := Lib.hid ((F3.out.set1 (x := .int .i64 gk)).set2 (x := .int .i64 gv) |>.keep hg4 (by have := HZ.out.2; omega))
  have T4 := Lib.hid (((T3.out.setOther (x := ⟨W2.heap.size, 1, none⟩) (v := .int .i64 gk) (by have := HW.out; simp; omega)).setOther (x := ⟨W2.heap.size, 2, none⟩) (v := .int .i64 gv) (by have := HW.out; simp; omega)).keep hg4 (by have := HLT.out; omega))
  have G4 := Lib.hid (grownBy_trans (grownBy_setCell_new (grownBy_setCell_new G3.out ⟨W2.heap.size, 1, none⟩ (.int .i64 gk) (by have := HW.out; simp; omega)) ⟨W2.heap.size, 2, none⟩ (.int .i64 gv) (by have := HW.out; simp; omega)) hg4)
  have R4 := Lib.hid hR4
  clear hR4 hg4 F3 T3 G3 R3 c0 c1 c2 c3 c4 f0 f1 f2 f3 f4
  by_cases hr : r = 0
  · subst hr
    clear r0
    go_wp2_with fail
    refine (HC.out _ _ (by have := HP.out; have := Q1.out.2; have := Q2.out; omega) R4.out).mono ?_
    rintro e W5 ⟨k5, v5, q5, rfl, -, -, -, -, hq5, hR5, hg5⟩
    have F5 := Lib.hid (F4.out.keep hg5 (by have := HZ.out.2; omega))
    have T5 := Lib.hid (T4.out.keep hg5 (by have := HLT.out; omega))
    have G5 := Lib.hid (grownBy_trans G4.out hg5)
    have F6 := Lib.hid ((F5.out.set1 (x := .int .i64 k5)).set2 (x := .int .i64 v5))
    have T6 := Lib.hid ((T5.out.setOther (x := ⟨W2.heap.size, 1, none⟩) (v := .int .i64 k5) (by have := HW.out; simp; omega)).setOther (x := ⟨W2.heap.size, 2, none⟩) (v := .int .i64 v5) (by have := HW.out; simp; omega))
    have G6 := Lib.hid (grownBy_setCell_new (grownBy_setCell_new G5.out ⟨W2.heap.size, 1, none⟩ (.int .i64 k5) (by have := HW.out; simp; omega)) ⟨W2.heap.size, 2, none⟩ (.int .i64 v5) (by have := HW.out; simp; omega))
    have R6 := Lib.hid ((hR5.setNew ⟨W2.heap.size, 1, none⟩ (.int .i64 k5) (by exact HZ.out.1)).setNew ⟨W2.heap.size, 2, none⟩ (.int .i64 v5) (by exact HZ.out.1))
    have HQ5 := Lib.hid hq5
    obtain ⟨c0, c1, c2, c3, c4, f0, f1, f2, f3, f4, -⟩ := F5.out
    clear hq5 hR5 hg5
    unfold con
    go_upto_region 5 with (fail)
    clear c0 c1 c2 c3 c4 f0 f1 f2 f3 f4
    generalize (W5.setCell ⟨W2.heap.size, 1, none⟩ (.int .i64 k5)).setCell ⟨W2.heap.size, 2, none⟩ (.int .i64 v5) = W6 at F6 T6 G6 R6 ⊢
    obtain ⟨c0, c1, c2, c3, c4, -⟩ := F6.out
    obtain ⟨t0, t1, t2, t3, t4, f0, f1, f2, f3, f4, -⟩ := T6.out
    go_wp2
    exact bodyPost_ret (cmd_results _ rfl _ W.heap.size ⟨s, k5, v5, k, v⟩ _ rfl T6.out.setAll) rfl (cmd_draw Q1.out.1 (by have := Q1.out.2; have := Q2.out; have := HQ5.out; omega) R6.out G6.out (HLE.out))
  · have hb0 : (r == 0) = false := beq_eq_false_iff_ne.2 hr
    clear r0 hr
    obtain ⟨c0, c1, c2, c3, c4, -⟩ := F4.out
    obtain ⟨t0, t1, t2, t3, t4, f0, f1, f2, f3, f4, -⟩ := T4.out
    go_wp2
    exact bodyPost_ret (cmd_results _ rfl _ W.heap.size ⟨s, gk, gv, k, v⟩ _ rfl T4.out.setAll) rfl (cmd_draw Q1.out.1 (by have := Q1.out.2; have := Q2.out; omega) R4.out G4.out (HLE.out))

end Go.Proofs.YtkaokncaockjkaaDoor

/-
  WALKS: logs that are drawn: spec.l91Log.
-/
namespace Go.Proofs.YtkaokncaockjkaaDoor
open Go.RowKit
set_option linter.unusedVariables false

/-- A drawn list of commands, of the call's own. -/
def LogDraw (N0 B p c d : Nat) (W : World) (e : Ending) (W' : World) : Prop :=
  ∃ (sl : Value) (out : List Cmd) (q : Nat), e = .returned sl ∧ W'.ownsRow W.heap.size 36 5 sl out.length (flatC out) ∧ out.length ≤ c ∧ ShortC 66 out ∧ q ≤ p + d ∧ RdAt N0 W' B q ∧ W.grownBy W' (some B)

theorem push_reader {N0 B q : Nat} {W w5 w6 : World} {v : Value} (hv : ∀ k, v.ownBlock = some k → W.heap.size ≤ k) (hle : N0 ≤ W.heap.size) (hR : RdAt N0 w5 B q) (hg : w5.grownBy w6 v.ownBlock) : RdAt N0 w6 B q :=
  hR.kept ⟨hg.os, hg.tape, hg.output, hg.size, fun b hb => hg.block b (Nat.lt_of_lt_of_le hb hR.le) (fun e => by have := hv b e.symm; omega)⟩

theorem push_grown {B : Nat} {W w5 w6 : World} {v : Value} (hv : ∀ k, v.ownBlock = some k → W.heap.size ≤ k) (hG : W.grownBy w5 (some B)) (hg : w5.grownBy w6 v.ownBlock) : W.grownBy w6 (some B) :=
  ⟨hg.os.trans hG.os, hg.tape.trans hG.tape, hg.output.trans hG.output, Nat.le_trans hG.size hg.size, fun b hb hne => (hg.block b (Nat.lt_of_lt_of_le hb hG.size) (fun e => by have := hv b e.symm; omega)).trans (hG.block b hb hne)⟩

theorem apply_short64 {ns out : List Nd} {c : Cmd} (h : applyC ns c = (out, true)) (hs : Short 64 ns) : Short 64 out ∧ out.length ≤ 10 := by
  obtain ⟨_, h2, _, h4⟩ := applyC_some h
  obtain ⟨_, _, _, h5, h6⟩ := treePut_some h4
  have hp := pathB_size ((validC_iff c).1 h2).1
  refine ⟨?_, ((validT_iff out).1 h6).2.2⟩
  rw [h5]
  exact short_put hs (by omega)

theorem shortC_push {m : Nat} {cs : List Cmd} {c : Cmd} (h : ShortC m cs) (hc : c.p.size ≤ m) : ShortC m (cs ++ [c]) := by
  intro x hx
  rcases List.mem_append.1 hx with hx | hx
  · exact h x hx
  · rw [List.mem_singleton.1 hx]; exact hc

def LogRel (N0 B p base : Nat) (n : Int) (W : World) (o tv i : Value) (wr : World) : Prop :=
  ∃ (acc : List Cmd) (t : List Nd) (j q : Nat), i = .int .i64 j ∧ (j : Int) ≤ n ∧ acc.length ≤ 20 ∧ wr.ownsRow W.heap.size 36 5 o acc.length (flatC acc) ∧ wr.ownsRow base 60 3 tv t.length (flatN t) ∧ Hid (t.length ≤ 11) ∧ Hid (Short 64 t) ∧ Hid (ShortC 66 acc) ∧ Hid (q ≤ p + 17 * j) ∧ RdAt N0 wr B q ∧ Hid (W.grownBy wr (some B))

set_option maxHeartbeats 4000000 in
set_option maxRecDepth 100000 in
theorem l91Log_c (N0 B p base : Nat) (sl : Value) (ns : List Nd) (n : Int) (hn0 : 0 ≤ n) (hn : n ≤ 60) (hlen : ns.length ≤ 11) (hs : Short 64 ns) (hb : B < base) (W : World) (hbW : base ≤ W.heap.size) (hown : W.ownsRow base 60 3 sl ns.length (flatN ns)) (hp : p < 15000) (hR : RdAt N0 W B p) :
    Calls Tryd.prog 49 #[.pointer (some ⟨B, 0, none⟩), sl, .int .i64 n] W (LogDraw N0 B p 20 1020 W) := by
  have HLT := Lib.hid hR.lt
  have HLE := Lib.hid hR.le
  have HC := Lib.hid (fun q tv t (h1 : t.length ≤ 11) (h2 : Short 64 t) W' h3 hq hR => l91Command_c N0 B q base tv t h1 h2 hb W' h3 hq hR)
  have HPP := Lib.hid hp
  have HN := Lib.hid hn
  have HB := Lib.hid hb
  have HBW := Lib.hid hbW
  have HL := Lib.hid hlen
  have HS := Lib.hid hs
  have HO := Lib.hid hown
  have HRD := Lib.hid hR
  clear hp hb hbW hlen hs hown hR
  go_enter Tryd.func49, Tryd.ntmps49
  go_wp2
  go_loopw [7, 8, 9, 10, 11, 12] (fun o tv i _ _ _ wr => LogRel N0 B p base n W o tv i wr) (fun _ _ i _ _ _ _ => (n - intOf i).toNat)
  case atStart => exact ⟨[], ns, 0, p, rfl, hn0, by simp, World.ownsRow_lit (e := 36) (size := 5) W #[] 0 (Nat.le_refl _) (by simp [maxLen]) rfl, HO.out.alloc _, HL, HS, (by intro x hx; cases hx), (by show p ≤ _; omega), HRD.out.alloc _, grownBy_new _ _ _⟩
  case round =>
    obtain ⟨acc, t, j, q, rfl, hj, hal, hrow, htree, HTL, HTS, HAS, HQ, hRq, HG⟩ := hrel
    by_cases hlt : (j : Int) < n
    · by_cases hfull : acc.length < 20
      · have HJ := Lib.hid hlt
        have HF := Lib.hid hfull
        have hfl : (acc.length : Int) < 20 := by omega
        have HROW := Lib.hid hrow
        have HTR := Lib.hid htree
        have HRQ := Lib.hid hRq
        obtain ⟨ao, co, rfl, -⟩ := cmds_of_own hrow
        have HVB := Lib.hid (fun k (e : (Value.slice ao acc.length co).ownBlock = some k) => (hrow.lt k e).1)
        clear hj hal hrow htree hRq hfull
        go_wp2_with fail
        refine (HC.out q _ t HTL.out HTS.out _ HTR.out (by have h5 := HQ.out; have h6 := HPP.out; have h7 := HN.out; have h8 := HJ.out; omega) HRQ.out).mono ?_
        rintro e W2 ⟨c, q2, rfl, hc66, hq2, hR2, hg2⟩
        have HROW2 := Lib.hid (own_reader HROW.out HLT.out hg2)
        have HTR2 := Lib.hid (own_reader HTR.out HB.out hg2)
        have HG2 := Lib.hid (grownBy_trans HG.out hg2)
        have HR2 := Lib.hid hR2
        have HQ2 := Lib.hid (And.intro hc66 hq2)
        obtain ⟨ta, tc, rfl, htn⟩ := nodes_of_own HTR2.out
        obtain ⟨⟨out, ok⟩, hr⟩ : ∃ r, applyC t c = r := ⟨_, rfl⟩
        have HA := Lib.hid (fun W' (hb : Below W2.heap.size W2 W') => show Calls Tryd.prog 35 #[.slice ta t.length tc, cmdV c] W' (fun e w' => ∃ sl, e = .returned (.tuple #[sl, .bool ok]) ∧ w'.ownsRow W'.heap.size 60 3 sl out.length (flatN out) ∧ Below W'.heap.size W' w') by
          have := specCmdApply_c ta t.length tc t c (by have := HTL.out; omega) (fun n hn => by have := HTS.out n hn; omega) (by omega) W' (htn.keep hb)
          rw [hr] at this; exact this)
        have HRR := Lib.hid hr
        obtain ⟨p', fk, fv, tk, tv⟩ := c
        unfold cmdV at HA ⊢
        simp only at HA HQ2
        clear hc66 hq2 hR2 hg2 htn hr
        go_wp2_with fail
        refine (HA.out _ (below_box _ _)).mono ?_
        rintro e W3 ⟨sl3, rfl, ho3, hb3⟩
        have F3 := Lib.hid ((five_new W2 (.string p') (.int .i64 fk) (.int .i64 fv) (.int .i64 tk) (.int .i64 tv) 36).below hb3)
        have hbb := below_next (below_box W2 (.cells #[.string p', .int .i64 fk, .int .i64 fv, .int .i64 tk, .int .i64 tv] 36)) hb3
        have HROW3 := Lib.hid (own_below HROW2.out hbb)
        have HTR3 := Lib.hid (own_below HTR2.out hbb)
        have HG3 := Lib.hid (grownBy_below HG2.out hbb)
        have HR3 := Lib.hid (HR2.out.keep hbb)
        have HO3 := Lib.hid (own_mono ho3 (show base ≤ (W2.alloc (.cells #[.string p', .int .i64 fk, .int .i64 fv, .int .i64 tk, .int .i64 tv] 36)).heap.size by have h1 := HBW.out; have h2 := HG2.out.size; simp; omega))
        clear ho3 hb3 hbb
        cases ok with
        | false =>
          go_wp2
          go_roundw
          case rel => exact ⟨acc, t, j + 1, q2, by go_num, by have := HJ.out; omega, by have := HF.out; omega, HROW3.out, HTR3.out, HTL, HTS, HAS, (by show q2 ≤ _; have h5 := HQ.out; have h6 := HQ2.out.2; omega), HR3.out, HG3⟩
          case measure => have := HJ.out; simp [intOf]; omega
        | true =>
          have HSS := Lib.hid (apply_short64 HRR.out HTS.out)
          obtain ⟨c0, c1, c2, c3, c4, -⟩ := F3.out
          go_wp2_with (at_builtin; refine wpList_append_cmds rfl _ _ rfl W.heap.size _ acc rfl (HROW3.out.alloc _) _ _ _ [⟨p', fk, fv, tk, tv⟩] rfl (cmds_lit W3 ⟨p', fk, fv, tk, tv⟩) (by have := HF.out; simp; omega) (by have := HG3.out.size; simp; omega) ?_; intro v4 w4 ho4 hg4)
          have hg4' := grownBy_trans (grownBy_new W3 (.cells #[.string p', .int .i64 fk, .int .i64 fv, .int .i64 tk, .int .i64 tv] 36) _) hg4
          have HR4 := Lib.hid (push_reader HVB.out HLE.out HR3.out hg4')
          have HG4 := Lib.hid (push_grown HVB.out HG3.out hg4')
          have HT4 := Lib.hid (apart_type HO3.out HROW3.out (by decide) hg4')
          clear hg4 hg4' c0 c1 c2 c3 c4
          go_roundw
          case rel => exact ⟨acc ++ [⟨p', fk, fv, tk, tv⟩], out, j + 1, q2, by go_num, by have := HJ.out; omega, by have := HF.out; simp; omega, ho4, HT4.out, (by show out.length ≤ 11; have := HSS.out.2; omega), HSS.out.1, shortC_push HAS.out HQ2.out.1, (by show q2 ≤ _; have h5 := HQ.out; have h6 := HQ2.out.2; omega), HR4.out, HG4⟩
          case measure => have := HJ.out; simp [intOf]; omega
      · have hge : (20 : Int) ≤ acc.length := by omega
        have HJ := Lib.hid hj
        obtain ⟨ao, co, rfl, -⟩ := cmds_of_own hrow
        clear hj hfull
        go_wp2
        go_ret
        exact ⟨_, acc, q, rfl, hrow, hal, HAS.out, by have h5 := HQ.out; have h6 := HJ.out; have h7 := HN.out; omega, hRq, HG.out⟩
    · have hge : n ≤ (j : Int) := by omega
      have HJ := Lib.hid hj
      obtain ⟨ao, co, rfl, -⟩ := cmds_of_own hrow
      clear hj hlt
      go_wp2
      go_ret
      exact ⟨_, acc, q, rfl, hrow, hal, HAS.out, by have h5 := HQ.out; have h6 := HJ.out; have h7 := HN.out; omega, hRq, HG.out⟩

end Go.Proofs.YtkaokncaockjkaaDoor

/-
  WALKS: logs that are drawn, seldom broken ones (spec.l91Broken); spec.DrawLogValid, DrawLogUndo, DrawLogApply, DrawLogFits.
-/
namespace Go.Proofs.YtkaokncaockjkaaDoor
open Go.RowKit
set_option linter.unusedVariables false

theorem flatC_cons (c : Cmd) (t : List Cmd) : flatC (c :: t) = .string c.p :: .int .i64 c.fk :: .int .i64 c.fv :: .int .i64 c.tk :: .int .i64 c.tv :: flatC t := rfl

theorem flatC_setTo : ∀ (cs : List Cmd) (i : Nat) (c : Cmd) (k v : Int), cs[i]? = some c → ((flatC cs).set (i * 5 + 3) (.int .i64 k)).set (i * 5 + 4) (.int .i64 v) = flatC (cs.set i ⟨c.p, c.fk, c.fv, k, v⟩)
  | [], i, c, k, v, h => by simp at h
  | m :: r, 0, c, k, v, h => by
    simp at h
    subst h
    rfl
  | m :: r, i + 1, c, k, v, h => by
    have ih := flatC_setTo r i c k v (by simpa using h)
    rw [List.set_cons_succ, flatC_cons m r, flatC_cons m (r.set i _), ← ih, show (i + 1) * 5 + 3 = (i * 5 + 3) + 5 by omega, show (i + 1) * 5 + 4 = (i * 5 + 4) + 5 by omega]
    rfl

theorem flatC_setPath : ∀ (cs : List Cmd) (i : Nat) (c : Cmd) (s : ByteArray), cs[i]? = some c → (flatC cs).set (i * 5) (.string s) = flatC (cs.set i ⟨s, c.fk, c.fv, c.tk, c.tv⟩)
  | [], i, c, s, h => by simp at h
  | m :: r, 0, c, s, h => by
    simp at h
    subst h
    rfl
  | m :: r, i + 1, c, s, h => by
    have ih := flatC_setPath r i c s (by simpa using h)
    rw [List.set_cons_succ, flatC_cons m r, flatC_cons m (r.set i _), ← ih, show (i + 1) * 5 = i * 5 + 5 by omega]
    rfl

theorem own_setTo {W : World} {base : Nat} {e : TypeId} {g cap : Nat} {cs : List Cmd} {i : Nat} {c : Cmd} (h : W.ownsRow base e 5 (.slice (some ⟨g, 0, none⟩) cs.length cap) cs.length (flatC cs)) (hn : cs[i]? = some c) (k v : Int) :
    ((W.setCell ⟨g, i * 5 + 3, none⟩ (.int .i64 k)).setCell ⟨g, i * 5 + 3 + 1, none⟩ (.int .i64 v)).ownsRow base e 5 (.slice (some ⟨g, 0, none⟩) cs.length cap) (cs.set i ⟨c.p, c.fk, c.fv, k, v⟩).length (flatC (cs.set i ⟨c.p, c.fk, c.fv, k, v⟩)) := by
  have := ((h.stored (i * 5 + 3) (.int .i64 k)).1.stored (i * 5 + 4) (.int .i64 v)).1
  rw [flatC_setTo cs i c k v hn] at this
  rw [List.length_set]
  exact this

theorem own_setPath {W : World} {base : Nat} {e : TypeId} {g cap : Nat} {cs : List Cmd} {i : Nat} {c : Cmd} (h : W.ownsRow base e 5 (.slice (some ⟨g, 0, none⟩) cs.length cap) cs.length (flatC cs)) (hn : cs[i]? = some c) (s : ByteArray) :
    (W.setCell ⟨g, i * 5, none⟩ (.string s)).ownsRow base e 5 (.slice (some ⟨g, 0, none⟩) cs.length cap) (cs.set i ⟨s, c.fk, c.fv, c.tk, c.tv⟩).length (flatC (cs.set i ⟨s, c.fk, c.fv, c.tk, c.tv⟩)) := by
  have := (h.stored (i * 5) (.string s)).1
  rw [flatC_setPath cs i c s hn] at this
  rw [List.length_set]
  exact this

theorem flatC_take (cs : List Cmd) (k : Nat) : (flatC cs).take (k * 5) = flatC (cs.take k) := by
  induction cs generalizing k with
  | nil => simp [flatC]
  | cons c r ih =>
    cases k with
    | zero => rfl
    | succ k =>
      rw [List.take_succ_cons, flatC_cons, flatC_cons, show (k + 1) * 5 = k * 5 + 5 by omega, ← ih k]
      rfl

/-- The first commands of a list of the call's own. -/
theorem own_takeC {W : World} {base : Nat} {e : TypeId} {g cap : Nat} {cs : List Cmd} (h : W.ownsRow base e 5 (.slice (some ⟨g, 0, none⟩) cs.length cap) cs.length (flatC cs)) (k : Nat) (hk : k ≤ cs.length) : W.ownsRow base e 5 (.slice (some ⟨g, 0, none⟩) k cap) (cs.take k).length (flatC (cs.take k)) := by
  have hl : (cs.take k).length = k := by rw [List.length_take]; omega
  rw [hl]
  obtain ⟨h1, h2⟩ := h
  refine ⟨by rw [flatC_length, hl], .inr ?_⟩
  rcases h2 with ⟨h3, _⟩ | ⟨g', cap', cur, h3, h4, h5, h6, h7, h8, h9⟩
  · cases h3
  · cases h3
    refine ⟨g, cap, cur, rfl, h4, h5, by omega, h7, h8, ?_⟩
    rw [← flatC_take, ← h9, List.take_take]
    congr 1
    omega

theorem own_sliceC {W : World} {base : Nat} {e : TypeId} {v : Value} {cs : List Cmd} (h : W.ownsRow base e 5 v cs.length (flatC cs)) (h0 : 0 < cs.length) : ∃ g cap, v = .slice (some ⟨g, 0, none⟩) cs.length cap ∧ base ≤ g ∧ cs.length ≤ cap ∧ cap ≤ maxLen := by
  rcases h.2 with ⟨_, h1⟩ | ⟨g, cap, cur, rfl, h1, h2, h3, h4, _⟩
  · omega
  · exact ⟨g, cap, rfl, h1, h3, h4⟩

/-- The last commands of a list of the call's own. -/
theorem own_tailC {W : World} {base : Nat} {e : TypeId} {g cap : Nat} {cs : List Cmd} (h : W.ownsRow base e 5 (.slice (some ⟨g, 0, none⟩) cs.length cap) cs.length (flatC cs)) (m : Nat) (hm : m ≤ cs.length) (o : Nat) (ho : o = m * 5 ∨ cs.length = m) : CmdsAt W (some ⟨g, o, none⟩) (cs.length - m) (cs.drop m) := by
  refine ⟨by rw [List.length_drop], ?_⟩
  rcases ho with rfl | ho
  · have := (cmds_own h).part m cs.length hm (Nat.le_refl _)
    rw [Nat.zero_add, show (cs.drop m).take (cs.length - m) = cs.drop m from List.take_of_length_le (by rw [List.length_drop]; exact Nat.le_refl _)] at this
    exact this.2
  · left; omega

theorem shortC_set {m : Nat} {cs : List Cmd} {i : Nat} {d : Cmd} (h : ShortC m cs) (hd : d.p.size ≤ m) : ShortC m (cs.set i d) := by
  intro x hx
  rcases List.mem_or_eq_of_mem_set hx with h1 | rfl
  · exact h x h1
  · exact hd

theorem shortC_part {m : Nat} {cs ds : List Cmd} (h : ShortC m cs) (hs : ∀ x ∈ ds, x ∈ cs) : ShortC m ds := fun x hx => h x (hs x hx)

def brokenPaths : List ByteArray := [⟨#[]⟩, ⟨#[47]⟩, ⟨#[47, 120]⟩]

set_option maxHeartbeats 4000000 in
set_option maxRecDepth 100000 in
theorem l91Broken_c (N0 B p base : Nat) (sl : Value) (ns : List Nd) (hlen : ns.length ≤ 11) (hs : Short 64 ns) (hb : B < base) (W : World) (hbW : base ≤ W.heap.size) (hown : W.ownsRow base 60 3 sl ns.length (flatN ns)) (hp : p < 10000) (hR : RdAt N0 W B p) :
    Calls Tryd.prog 29 #[.pointer (some ⟨B, 0, none⟩), sl] W (LogDraw N0 B p 21 1100 W) := by
  obtain ⟨i0, hi, hz0, hz1, hz2⟩ := info_parts infoCmd
  have HLT := Lib.hid hR.lt
  have HLE := Lib.hid hR.le
  have HP1 := Lib.hid (fun W hR => pick_c N0 B p 12 (by omega) (by omega) W (by omega) hR)
  have HP2 := Lib.hid (fun W hR => pick_c N0 B (p + 1) 10 (by omega) (by omega) W (by omega) hR)
  have HT := Lib.hid (fun n h0 h1 W' (hW : base ≤ W'.heap.size) ho hR => l91Log_c N0 B (p + 1 + 1) base sl ns n h0 h1 hlen hs hb W' hW ho (by omega) hR)
  have HPK := Lib.hid (fun q n h0 h1 W hq hR => pick_c N0 B q n h0 h1 W hq hR)
  have HC := Lib.hid (fun q W hq hR => l91Content_c N0 B q W hq hR)
  have HOF := Lib.hid (fun q W' (hq : q < 30000) hR => of_lit N0 B q brokenPaths 3 rfl (by decide) (by decide) W' hq hR #[.string ⟨#[]⟩, .string ⟨#[47]⟩, .string ⟨#[47, 120]⟩] rfl)
  have HPP := Lib.hid hp
  have HOW := Lib.hid hown
  have HBB := Lib.hid hb
  have HBW := Lib.hid hbW
  clear hp hown hb hbW hlen hs
  go_enter Tryd.func29, Tryd.ntmps29
  go_wp2_with fail
  refine (HP1.out _ hR).mono ?_; rintro e W1 ⟨n, rfl, n0, n1, hR1, hg1⟩
  have HN := Lib.hid (And.intro n0 n1)
  have HO1 := Lib.hid (own_reader HOW.out HBB.out hg1)
  clear n0 n1 hR
  go_wp2_with fail
  refine (HP2.out _ hR1).mono ?_; rintro e W2 ⟨r, rfl, r0, r1, hR2, hg2⟩
  have HG2 := Lib.hid (grownBy_trans hg1 hg2)
  have HO2 := Lib.hid (own_reader HO1.out HBB.out hg2)
  have HW2 := Lib.hid (show base ≤ W2.heap.size by have h1 := HG2.out.size; have h2 := HBW.out; omega)
  have HR2 := Lib.hid hR2
  clear hg1 hg2 hR1 hR2
  by_cases hr : r = 0
  · subst hr
    clear r0 r1
    go_wp2_with fail
    refine (HT.out 60 (by omega) (by omega) _ HW2.out HO2.out HR2.out).mono ?_; rintro e W3 ⟨v, out, q, rfl, hown0, hlen, hsh, hq, hR3, hg3⟩
    have hown := own_mono hown0 HG2.out.size
    have HG3 := Lib.hid (grownBy_trans HG2.out hg3)
    have HSH := Lib.hid hsh
    have HLN := Lib.hid hlen
    have HQ := Lib.hid hq
    have HR3 := Lib.hid hR3
    clear hown0 hg3 hsh hlen hq hR3
    by_cases hl0 : out.length = 0
    · obtain ⟨a, cap, rfl, -⟩ := cmds_of_own hown
      have HO := Lib.hid hown
      have hl0' : (out.length : Int) = 0 := by omega
      clear hl0 hown
      go_wp2
      go_ret
      exact ⟨_, out, q, rfl, HO.out, by have := HLN.out; omega, HSH.out, by have := HQ.out; omega, HR3.out, HG3.out⟩
    · have hl0 : 0 < out.length := by omega
      have hl1 : (0 : Int) < out.length := by omega
      obtain ⟨g, cap, rfl, hgb, hlc, hcm⟩ := own_sliceC hown hl0
      have HB := Lib.hid (And.intro hgb (And.intro hlc hcm))
      have HO3 := Lib.hid hown
      clear hgb hlc hcm hown
      go_wp2_with fail
      refine (HPK.out q out.length (by omega) (by have := HLN.out; omega) _ (by have := HQ.out; have := HPP.out; omega) HR3.out).mono ?_; rintro e W4 ⟨k', rfl, k0, k1, hR4, hg4⟩
      obtain ⟨k, rfl⟩ := Int.eq_ofNat_of_zero_le k0
      have HK := Lib.hid (show k < out.length by omega)
      have HO4 := Lib.hid (own_reader HO3.out HLT.out hg4)
      clear k0 k1
      go_wp2_with fail
      refine (HPK.out (q + 1) 14 (by omega) (by omega) _ (by have := HQ.out; have := HPP.out; omega) hR4).mono ?_; rintro e W5 ⟨tt, rfl, t0, t1, hR5, hg5⟩
      have HO5 := Lib.hid (own_reader HO4.out HLT.out hg5)
      have HG5 := Lib.hid (grownBy_trans HG3.out (grownBy_trans hg4 hg5))
      have HR5 := Lib.hid hR5
      obtain ⟨x, hx⟩ : ∃ x, out[k]? = some x := ⟨_, List.getElem?_eq_getElem HK.out⟩
      have HX := Lib.hid hx
      have hkl : (k : Int) < out.length := by have := HK.out; omega
      have HVB := Lib.hid (fun k (e : (Value.slice (some ⟨g, 0, none⟩) out.length cap).ownBlock = some k) => (HO5.out.lt k e).1)
      clear hx hg4 hg5 hR4 hR5 hl0
      by_cases ht : tt = 0
      · subst ht
        clear t0 t1
        go_wp2_with fail
        refine (HC.out (q + 1 + 1) _ (by have := HQ.out; have := HPP.out; omega) HR5.out).mono ?_; rintro e W6 ⟨k6, v6, q6, rfl, -, -, -, -, hq6, hR6, hg6⟩
        have HO6 := Lib.hid (own_reader HO5.out HLT.out hg6)
        have HG6 := Lib.hid (grownBy_trans HG5.out hg6)
        have HR6 := Lib.hid hR6
        have HQ6 := Lib.hid hq6
        obtain ⟨-, -, -, x3, x4⟩ := flatC_get out k x HX.out
        have c3 : W6.cell? ⟨g, k * 5 + 3, none⟩ = some (.int .i64 x.tk) := by rw [HO6.out.cellAt _ (by have := HK.out; omega)]; exact x3
        have c4 : W6.cell? ⟨g, k * 5 + 4, none⟩ = some (.int .i64 x.tv) := by rw [HO6.out.cellAt _ (by have := HK.out; omega)]; exact x4
        have z3 := HO6.out.frozenAt (k * 5 + 3)
        have z4 := HO6.out.frozenAt (k * 5 + 4)
        unfold con
        clear hq6 hR6 hg6 x3 x4
        go_wp2
        go_ret
        exact ⟨_, out.set k ⟨x.p, x.fk, x.fv, k6, v6⟩, q6, rfl, own_setTo HO6.out HX.out k6 v6, by rw [List.length_set]; have := HLN.out; omega, shortC_set HSH.out (show x.p.size ≤ 66 from HSH.out.at HX.out), by have := HQ.out; have := HQ6.out; omega,
          (HR6.out.setNew _ _ (by have := HLE.out; have := HB.out.1; show N0 ≤ g; omega)).setNew _ _ (by have := HLE.out; have := HB.out.1; show N0 ≤ g; omega), grownBy_setCell_new (grownBy_setCell_new HG6.out _ _ HB.out.1) _ _ HB.out.1⟩
      · have ht0 : (tt == 0) = false := beq_eq_false_iff_ne.2 ht
        clear ht
        by_cases ht : tt = 1
        · subst ht
          clear t0 t1
          have hk2 : (k : Int) ≤ cap := by have := HK.out; have := HB.out.2.1; omega
          have hk0 : (0 : Int) ≤ k := by omega
          have hk3 : (k : Int) + 1 ≤ out.length := by omega
          have hlc2 : (out.length : Int) ≤ cap := by have := HB.out.2.1; omega
          obtain ⟨m, hm⟩ : ∃ m, m = k + 1 := ⟨_, rfl⟩
          have hwr : IntKind.i64.wrap ((k : Int) + 1) = (m : Int) := (IntWalk.i64_in _ (by have := HLN.out; omega)).trans (by omega)
          have hm0 : (0 : Int) ≤ m := by omega
          have hm1 : (m : Int) ≤ out.length := by omega
          have hm2 : (m : Int) ≤ cap := by omega
          have hmm : m ≤ out.length := by omega
          have HM := Lib.hid (And.intro hm hmm)
          have HTK := Lib.hid (show W5.drew.ownsRow W.heap.size 36 5 (.slice (some ⟨g, 0, none⟩) k cap) k (flatC (out.take k)) by
            have := own_takeC HO5.out k (by have := HK.out; omega)
            rw [show (out.take k).length = k by rw [List.length_take]; have := HK.out; omega] at this
            exact this)
          have HFL := Lib.hid (show (flatC (out.drop m)).length = (out.length - m) * 5 by rw [flatC_length, List.length_drop])
          have HMX := Lib.hid (show k + (out.length - m) ≤ maxLen ∧ (k + (out.length - m)) * 48 ≤ 140737488355328 by unfold maxLen; have := HLN.out; have := HK.out; omega)
          have HBS := Lib.hid (show W.heap.size ≤ W5.drew.heap.size from HG5.out.size)
          have HSB := Lib.hid (show ShortC 66 (out.take k ++ out.drop m) from shortC_part HSH.out (fun y hy => by
            rcases List.mem_append.1 hy with h | h
            · exact List.mem_of_mem_take h
            · exact List.mem_of_mem_drop h))
          have HLB := Lib.hid (show (out.take k ++ out.drop m).length = k + (out.length - m) by rw [List.length_append, List.length_take, List.length_drop]; have := HK.out; omega)
          clear hm hmm
          have HVK := Lib.hid (fun k' (e : (Value.slice (some ⟨g, 0, none⟩) k cap).ownBlock = some k') => show W.heap.size ≤ k' by cases e; exact HB.out.1)
          by_cases hcap : cap = m
          · subst hcap
            have HCEL := Lib.hid (cmds_cells (show CmdsAt W5.drew (some ⟨g, 0, none⟩) (out.length - cap) (out.drop cap) from own_tailC HO5.out cap HM.out.2 0 (.inr (by have h1 := HB.out.2.1; have h2 := HM.out.2; omega))))
            have HG0 : Hid (W5.drew.grownBy W5.drew (some g)) := ⟨rfl, rfl, rfl, Nat.le_refl _, fun _ _ _ => rfl⟩
            go_upto_region 11 with (fail)
            refine wp_region_held_drew (S := (fun w' => W5.drew.grownBy w' (some g))) (by kernel_rfl) HG0.out (fun hH => ?_)
            refine wpAnyH_take (i := 0) (oi := _) (v := ?_) rfl (by kernel_rfl) (by kernel_rfl) (by kernel_rfl) (fun _ _ _ h => h) (Or.inl ⟨by rfl, ?_⟩) (by assumption) ?_
            rotate_left
            · (intro w hSw; (try dsimp only at hSw); go_simp; try with_reducible rfl)
            try simp only [Act.put, List.getElem_toArray, List.getElem_cons_zero, List.setIfInBounds_toArray, List.set_cons_zero, List.set_cons_succ]
            refine wpAnyH_take (i := 1) (oi := _) (v := ?_) rfl (by kernel_rfl) (by kernel_rfl) (by kernel_rfl) (fun _ _ _ h => h) (Or.inl ⟨by rfl, ?_⟩) (by assumption) ?_
            rotate_left
            · (intro w hSw; (try dsimp only at hSw); go_simp; try with_reducible rfl)
            try simp only [Act.put, List.getElem_toArray, List.getElem_cons_zero, List.getElem_cons_succ, List.setIfInBounds_toArray, List.set_cons_zero, List.set_cons_succ]
            refine wpAnyH_take (i := 2) (oi := _) (v := ?_) rfl (by kernel_rfl) (by kernel_rfl) (by kernel_rfl) (fun _ _ _ h => h) (Or.inl ⟨by rfl, ?_⟩) (by assumption) ?_
            rotate_left
            · (intro w hSw; (try dsimp only at hSw); go_simp; try with_reducible rfl)
            try simp only [Act.put, List.getElem_toArray, List.getElem_cons_zero, List.getElem_cons_succ, List.setIfInBounds_toArray, List.set_cons_zero, List.set_cons_succ]
            refine wpAnyH_take (i := 3) (oi := _) (v := ?_) rfl (by kernel_rfl) (by kernel_rfl) (by kernel_rfl) (fun _ _ _ h => h) (Or.inl ⟨by rfl, ?_⟩) (by assumption) ?_
            rotate_left
            · (intro w hSw; (try dsimp only at hSw); go_simp; try with_reducible rfl)
            try simp only [Act.put, List.getElem_toArray, List.getElem_cons_zero, List.getElem_cons_succ, List.setIfInBounds_toArray, List.set_cons_zero, List.set_cons_succ]
            refine wpAnyH_take (i := 4) (oi := _) (v := ?_) rfl (by kernel_rfl) (by kernel_rfl) (by kernel_rfl) (fun _ _ _ h => h) (Or.inl ⟨by rfl, ?_⟩) (by assumption) ?_
            rotate_left
            · (intro w hSw; (try dsimp only at hSw); go_simp; try with_reducible rfl)
            try simp only [Act.put, List.getElem_toArray, List.getElem_cons_zero, List.getElem_cons_succ, List.setIfInBounds_toArray, List.set_cons_zero, List.set_cons_succ]
            refine wpAnyH_take (i := 5) (oi := _) (v := ?_) rfl (by kernel_rfl) (by kernel_rfl) (by kernel_rfl) (fun _ _ _ h => h) (Or.inl ⟨by rfl, ?_⟩) (by assumption) ?_
            rotate_left
            · (intro w hSw; (try dsimp only at hSw); go_simp; try with_reducible rfl)
            try simp only [Act.put, List.getElem_toArray, List.getElem_cons_zero, List.getElem_cons_succ, List.setIfInBounds_toArray, List.set_cons_zero, List.set_cons_succ]
            refine wpAnyH_take (i := 6) (oi := _) (v := ?_) rfl (by kernel_rfl) (by kernel_rfl) (by kernel_rfl) (fun _ _ _ h => h) (Or.inl ⟨by rfl, ?_⟩) (by assumption) ?_
            rotate_left
            · (intro w hSw; (try dsimp only at hSw); go_simp; try with_reducible rfl)
            try simp only [Act.put, List.getElem_toArray, List.getElem_cons_zero, List.getElem_cons_succ, List.setIfInBounds_toArray, List.set_cons_zero, List.set_cons_succ]
            refine wpAnyH_ready (rs := [7]) (by kernel_rfl) (by simp) ?_
            refine AllReadyH.cons rfl (fun K hK => ?_) (AllReadyH.nil)
            rw [if_pos (by rfl)]
            refine wp_append_own _ _ _ 24 rfl W.heap.size 36 i0 (.agg #[.string ⟨#[]⟩, .int .i64 0, .int .i64 0, .int .i64 0, .int .i64 0]) 5 48 Tryd.underlying24 hi hz0 hz1 hz2 rfl (by decide) (.slice (some ⟨g, 0, none⟩) k cap) k (flatC (out.take k)) rfl HTK.out ⟨g, 0, none⟩ (out.length - cap) 0 (flatC (out.drop cap)) rfl HFL.out HCEL.out (flatC_cell1 _) HMX.out.1 HMX.out.2 HBS.out ?_
            intro v4 w4 ho4 hg4 hn4
            refine hK.out _ _ hg4 (fun hHeld => ?_)
            try simp only [Act.put, List.getElem_toArray, List.getElem_cons_zero, List.getElem_cons_succ, List.setIfInBounds_toArray, List.set_cons_zero, List.set_cons_succ]
            refine wpAnyH_take (i := 8) (oi := _) (v := ?_) rfl (by kernel_rfl) (by kernel_rfl) (by kernel_rfl) (fun _ _ _ h => h) (Or.inl ⟨by rfl, ?_⟩) (by assumption) ?_
            rotate_left
            · (intro w hSw; (try dsimp only at hSw); go_simp; try with_reducible rfl)
            try simp only [Act.put, List.getElem_toArray, List.getElem_cons_zero, List.getElem_cons_succ, List.setIfInBounds_toArray, List.set_cons_zero, List.set_cons_succ]
            refine wpAnyH_done (by kernel_rfl) ?_ _
            have hown4 : w4.ownsRow W.heap.size 36 5 v4 (out.take k ++ out.drop cap).length (flatC (out.take k ++ out.drop cap)) := by rw [HLB.out, flatC_append]; exact ho4
            have hg4' : W5.grownBy w4 (some g) := grownBy_trans (⟨rfl, rfl, rfl, Nat.le_refl _, fun _ _ _ => rfl⟩ : W5.grownBy W5.drew (some g)) hg4
            all_goals (try go_wp2)
            go_ret
            exact ⟨_, out.take k ++ out.drop cap, q + 1 + 1, rfl, hown4, by rw [HLB.out]; have := HLN.out; have := HM.out.1; have := HM.out.2; have := HK.out; omega, HSB.out, by have := HQ.out; omega, push_reader (v := .slice (some ⟨g, 0, none⟩) k cap) HVK.out HLE.out HR5.out hg4', push_grown (v := .slice (some ⟨g, 0, none⟩) k cap) HVK.out HG5.out hg4'⟩
          · have HCEL := Lib.hid (cmds_cells (show CmdsAt W5.drew (some ⟨g, m * 5, none⟩) (out.length - m) (out.drop m) from own_tailC HO5.out m HM.out.2 (m * 5) (.inl rfl)))
            have HG0 : Hid (W5.drew.grownBy W5.drew (some g)) := ⟨rfl, rfl, rfl, Nat.le_refl _, fun _ _ _ => rfl⟩
            go_upto_region 11 with (fail)
            refine wp_region_held_drew (S := (fun w' => W5.drew.grownBy w' (some g))) (by kernel_rfl) HG0.out (fun hH => ?_)
            refine wpAnyH_take (i := 0) (oi := _) (v := ?_) rfl (by kernel_rfl) (by kernel_rfl) (by kernel_rfl) (fun _ _ _ h => h) (Or.inl ⟨by rfl, ?_⟩) (by assumption) ?_
            rotate_left
            · (intro w hSw; (try dsimp only at hSw); go_simp; try with_reducible rfl)
            try simp only [Act.put, List.getElem_toArray, List.getElem_cons_zero, List.setIfInBounds_toArray, List.set_cons_zero, List.set_cons_succ]
            refine wpAnyH_take (i := 1) (oi := _) (v := ?_) rfl (by kernel_rfl) (by kernel_rfl) (by kernel_rfl) (fun _ _ _ h => h) (Or.inl ⟨by rfl, ?_⟩) (by assumption) ?_
            rotate_left
            · (intro w hSw; (try dsimp only at hSw); go_simp; try with_reducible rfl)
            try simp only [Act.put, List.getElem_toArray, List.getElem_cons_zero, List.getElem_cons_succ, List.setIfInBounds_toArray, List.set_cons_zero, List.set_cons_succ]
            refine wpAnyH_take (i := 2) (oi := _) (v := ?_) rfl (by kernel_rfl) (by kernel_rfl) (by kernel_rfl) (fun _ _ _ h => h) (Or.inl ⟨by rfl, ?_⟩) (by assumption) ?_
            rotate_left
            · (intro w hSw; (try dsimp only at hSw); go_simp; try with_reducible rfl)
            try simp only [Act.put, List.getElem_toArray, List.getElem_cons_zero, List.getElem_cons_succ, List.setIfInBounds_toArray, List.set_cons_zero, List.set_cons_succ]
            refine wpAnyH_take (i := 3) (oi := _) (v := ?_) rfl (by kernel_rfl) (by kernel_rfl) (by kernel_rfl) (fun _ _ _ h => h) (Or.inl ⟨by rfl, ?_⟩) (by assumption) ?_
            rotate_left
            · (intro w hSw; (try dsimp only at hSw); go_simp; try with_reducible rfl)
            try simp only [Act.put, List.getElem_toArray, List.getElem_cons_zero, List.getElem_cons_succ, List.setIfInBounds_toArray, List.set_cons_zero, List.set_cons_succ]
            refine wpAnyH_take (i := 4) (oi := _) (v := ?_) rfl (by kernel_rfl) (by kernel_rfl) (by kernel_rfl) (fun _ _ _ h => h) (Or.inl ⟨by rfl, ?_⟩) (by assumption) ?_
            rotate_left
            · (intro w hSw; (try dsimp only at hSw); go_simp; try with_reducible rfl)
            try simp only [Act.put, List.getElem_toArray, List.getElem_cons_zero, List.getElem_cons_succ, List.setIfInBounds_toArray, List.set_cons_zero, List.set_cons_succ]
            refine wpAnyH_take (i := 5) (oi := _) (v := ?_) rfl (by kernel_rfl) (by kernel_rfl) (by kernel_rfl) (fun _ _ _ h => h) (Or.inl ⟨by rfl, ?_⟩) (by assumption) ?_
            rotate_left
            · (intro w hSw; (try dsimp only at hSw); go_simp; try with_reducible rfl)
            try simp only [Act.put, List.getElem_toArray, List.getElem_cons_zero, List.getElem_cons_succ, List.setIfInBounds_toArray, List.set_cons_zero, List.set_cons_succ]
            refine wpAnyH_take (i := 6) (oi := _) (v := ?_) rfl (by kernel_rfl) (by kernel_rfl) (by kernel_rfl) (fun _ _ _ h => h) (Or.inl ⟨by rfl, ?_⟩) (by assumption) ?_
            rotate_left
            · (intro w hSw; (try dsimp only at hSw); go_simp; try with_reducible rfl)
            try simp only [Act.put, List.getElem_toArray, List.getElem_cons_zero, List.getElem_cons_succ, List.setIfInBounds_toArray, List.set_cons_zero, List.set_cons_succ]
            refine wpAnyH_ready (rs := [7]) (by kernel_rfl) (by simp) ?_
            refine AllReadyH.cons rfl (fun K hK => ?_) (AllReadyH.nil)
            rw [if_pos (by rfl)]
            refine wp_append_own _ _ _ 24 rfl W.heap.size 36 i0 (.agg #[.string ⟨#[]⟩, .int .i64 0, .int .i64 0, .int .i64 0, .int .i64 0]) 5 48 Tryd.underlying24 hi hz0 hz1 hz2 rfl (by decide) (.slice (some ⟨g, 0, none⟩) k cap) k (flatC (out.take k)) rfl HTK.out ⟨g, m * 5, none⟩ (out.length - m) (cap - m) (flatC (out.drop m)) rfl HFL.out HCEL.out (flatC_cell1 _) HMX.out.1 HMX.out.2 HBS.out ?_
            intro v4 w4 ho4 hg4 hn4
            refine hK.out _ _ hg4 (fun hHeld => ?_)
            try simp only [Act.put, List.getElem_toArray, List.getElem_cons_zero, List.getElem_cons_succ, List.setIfInBounds_toArray, List.set_cons_zero, List.set_cons_succ]
            refine wpAnyH_take (i := 8) (oi := _) (v := ?_) rfl (by kernel_rfl) (by kernel_rfl) (by kernel_rfl) (fun _ _ _ h => h) (Or.inl ⟨by rfl, ?_⟩) (by assumption) ?_
            rotate_left
            · (intro w hSw; (try dsimp only at hSw); go_simp; try with_reducible rfl)
            try simp only [Act.put, List.getElem_toArray, List.getElem_cons_zero, List.getElem_cons_succ, List.setIfInBounds_toArray, List.set_cons_zero, List.set_cons_succ]
            refine wpAnyH_done (by kernel_rfl) ?_ _
            have hown4 : w4.ownsRow W.heap.size 36 5 v4 (out.take k ++ out.drop m).length (flatC (out.take k ++ out.drop m)) := by rw [HLB.out, flatC_append]; exact ho4
            have hg4' : W5.grownBy w4 (some g) := grownBy_trans (⟨rfl, rfl, rfl, Nat.le_refl _, fun _ _ _ => rfl⟩ : W5.grownBy W5.drew (some g)) hg4
            all_goals (try go_wp2)
            go_ret
            exact ⟨_, out.take k ++ out.drop m, q + 1 + 1, rfl, hown4, by rw [HLB.out]; have := HLN.out; have := HM.out.1; have := HM.out.2; have := HK.out; omega, HSB.out, by have := HQ.out; omega, push_reader (v := .slice (some ⟨g, 0, none⟩) k cap) HVK.out HLE.out HR5.out hg4', push_grown (v := .slice (some ⟨g, 0, none⟩) k cap) HVK.out HG5.out hg4'⟩
        · have ht1 : (tt == 1) = false := beq_eq_false_iff_ne.2 ht
          clear ht
          by_cases ht : tt = 2
          · subst ht
            clear t0 t1
            obtain ⟨x0, x1, x2, x3, x4⟩ := flatC_get out k x HX.out
            have c0 : W5.cell? ⟨g, k * 5, none⟩ = some (.string x.p) := by rw [HO5.out.cellAt _ (by have := HK.out; omega)]; exact x0
            have c1 : W5.cell? ⟨g, k * 5 + 1, none⟩ = some (.int .i64 x.fk) := by rw [HO5.out.cellAt _ (by have := HK.out; omega)]; exact x1
            have c2 : W5.cell? ⟨g, k * 5 + 2, none⟩ = some (.int .i64 x.fv) := by rw [HO5.out.cellAt _ (by have := HK.out; omega)]; exact x2
            have c3 : W5.cell? ⟨g, k * 5 + 3, none⟩ = some (.int .i64 x.tk) := by rw [HO5.out.cellAt _ (by have := HK.out; omega)]; exact x3
            have c4 : W5.cell? ⟨g, k * 5 + 4, none⟩ = some (.int .i64 x.tv) := by rw [HO5.out.cellAt _ (by have := HK.out; omega)]; exact x4
            clear x0 x1 x2 x3 x4
            go_wp2_with (at_builtin; refine wpList_append_cmds rfl _ _ rfl W.heap.size _ out rfl (HO5.out.alloc _) _ _ _ [x] rfl (cmds_lit W5 x) (by have := HLN.out; simp; omega) (by have := HG5.out.size; simp; omega) ?_; intro v' w6 ho6 hg6)
            have hg6' := grownBy_trans (grownBy_new W5 (.cells #[.string x.p, .int .i64 x.fk, .int .i64 x.fv, .int .i64 x.tk, .int .i64 x.tv] 36) _) hg6
            go_ret
            exact ⟨_, out ++ [x], q + 1 + 1, rfl, ho6, by simp; have := HLN.out; omega, shortC_push HSH.out (HSH.out.at HX.out), by have := HQ.out; omega, push_reader HVB.out HLE.out HR5.out hg6', push_grown HVB.out HG5.out hg6'⟩
          · have ht2 : (tt == 2) = false := beq_eq_false_iff_ne.2 ht
            clear ht
            by_cases ht : tt = 3
            · subst ht
              clear t0 t1
              go_wp2_with fail
              refine (HOF.out (q + 1 + 1) _ (by have := HQ.out; have := HPP.out; omega) HR5.out).mono ?_
              rintro e W6 ⟨s, hm6, rfl, hR6, hg6⟩
              have HO6 := Lib.hid (own_reader HO5.out HLT.out hg6)
              have HG6 := Lib.hid (grownBy_trans HG5.out hg6)
              have HR6 := Lib.hid hR6
              have HS6 := Lib.hid (show s.size ≤ 66 by rcases (by simpa [brokenPaths] using hm6) with rfl | rfl | rfl <;> decide)
              obtain ⟨x0, -, -, -, -⟩ := flatC_get out k x HX.out
              have c0 : W6.cell? ⟨g, k * 5, none⟩ = some (.string x.p) := by rw [HO6.out.cellAt _ (by have := HK.out; omega)]; exact x0
              have z0 := HO6.out.frozenAt (k * 5)
              clear hR6 hg6 x0 hm6
              go_wp2
              go_ret
              exact ⟨_, out.set k ⟨s, x.fk, x.fv, x.tk, x.tv⟩, _, rfl, own_setPath HO6.out HX.out s, by rw [List.length_set]; have := HLN.out; omega, shortC_set HSH.out HS6.out, by have := HQ.out; omega,
                HR6.out.setNew _ _ (by have := HLE.out; have := HB.out.1; show N0 ≤ g; omega), grownBy_setCell_new HG6.out _ _ HB.out.1⟩
            · have ht3 : (tt == 3) = false := beq_eq_false_iff_ne.2 ht
              clear ht t0 t1
              go_wp2
              go_ret
              exact ⟨_, out, q + 1 + 1, rfl, HO5.out, by have := HLN.out; omega, HSH.out, by have := HQ.out; omega, HR5.out, HG5.out⟩
  · have hr' : (r == 0) = false := beq_eq_false_iff_ne.2 hr
    clear r0 r1 hr
    go_wp2_with fail
    refine (HT.out n (HN.out.1) (by have := HN.out.2; omega) _ HW2.out HO2.out HR2.out).mono ?_; rintro e W3 ⟨v, out, q, rfl, hown0, hlen, hsh, hq, hR3, hg3⟩
    have hown := own_mono hown0 HG2.out.size
    have HG3 := Lib.hid (grownBy_trans HG2.out hg3)
    have HSH := Lib.hid hsh
    have HLN := Lib.hid hlen
    have HQ := Lib.hid hq
    have HR3 := Lib.hid hR3
    clear hown0 hg3 hsh hlen hq hR3
    by_cases hl0 : out.length = 0
    · obtain ⟨a, cap, rfl, -⟩ := cmds_of_own hown
      have HO := Lib.hid hown
      have hl0' : (out.length : Int) = 0 := by omega
      clear hl0 hown
      go_wp2
      go_ret
      exact ⟨_, out, q, rfl, HO.out, by have := HLN.out; omega, HSH.out, by have := HQ.out; omega, HR3.out, HG3.out⟩
    · have hl0 : 0 < out.length := by omega
      have hl1 : (0 : Int) < out.length := by omega
      obtain ⟨g, cap, rfl, hgb, hlc, hcm⟩ := own_sliceC hown hl0
      have HB := Lib.hid (And.intro hgb (And.intro hlc hcm))
      have HO3 := Lib.hid hown
      clear hgb hlc hcm hown
      go_wp2_with fail
      refine (HPK.out q out.length (by omega) (by have := HLN.out; omega) _ (by have := HQ.out; have := HPP.out; omega) HR3.out).mono ?_; rintro e W4 ⟨k', rfl, k0, k1, hR4, hg4⟩
      obtain ⟨k, rfl⟩ := Int.eq_ofNat_of_zero_le k0
      have HK := Lib.hid (show k < out.length by omega)
      have HO4 := Lib.hid (own_reader HO3.out HLT.out hg4)
      clear k0 k1
      go_wp2_with fail
      refine (HPK.out (q + 1) 14 (by omega) (by omega) _ (by have := HQ.out; have := HPP.out; omega) hR4).mono ?_; rintro e W5 ⟨tt, rfl, t0, t1, hR5, hg5⟩
      have HO5 := Lib.hid (own_reader HO4.out HLT.out hg5)
      have HG5 := Lib.hid (grownBy_trans HG3.out (grownBy_trans hg4 hg5))
      have HR5 := Lib.hid hR5
      obtain ⟨x, hx⟩ : ∃ x, out[k]? = some x := ⟨_, List.getElem?_eq_getElem HK.out⟩
      have HX := Lib.hid hx
      have hkl : (k : Int) < out.length := by have := HK.out; omega
      have HVB := Lib.hid (fun k (e : (Value.slice (some ⟨g, 0, none⟩) out.length cap).ownBlock = some k) => (HO5.out.lt k e).1)
      clear hx hg4 hg5 hR4 hR5 hl0
      by_cases ht : tt = 0
      · subst ht
        clear t0 t1
        go_wp2_with fail
        refine (HC.out (q + 1 + 1) _ (by have := HQ.out; have := HPP.out; omega) HR5.out).mono ?_; rintro e W6 ⟨k6, v6, q6, rfl, -, -, -, -, hq6, hR6, hg6⟩
        have HO6 := Lib.hid (own_reader HO5.out HLT.out hg6)
        have HG6 := Lib.hid (grownBy_trans HG5.out hg6)
        have HR6 := Lib.hid hR6
        have HQ6 := Lib.hid hq6
        obtain ⟨-, -, -, x3, x4⟩ := flatC_get out k x HX.out
        have c3 : W6.cell? ⟨g, k * 5 + 3, none⟩ = some (.int .i64 x.tk) := by rw [HO6.out.cellAt _ (by have := HK.out; omega)]; exact x3
        have c4 : W6.cell? ⟨g, k * 5 + 4, none⟩ = some (.int .i64 x.tv) := by rw [HO6.out.cellAt _ (by have := HK.out; omega)]; exact x4
        have z3 := HO6.out.frozenAt (k * 5 + 3)
        have z4 := HO6.out.frozenAt (k * 5 + 4)
        unfold con
        clear hq6 hR6 hg6 x3 x4
        go_wp2
        go_ret
        exact ⟨_, out.set k ⟨x.p, x.fk, x.fv, k6, v6⟩, q6, rfl, own_setTo HO6.out HX.out k6 v6, by rw [List.length_set]; have := HLN.out; omega, shortC_set HSH.out (show x.p.size ≤ 66 from HSH.out.at HX.out), by have := HQ.out; have := HQ6.out; omega,
          (HR6.out.setNew _ _ (by have := HLE.out; have := HB.out.1; show N0 ≤ g; omega)).setNew _ _ (by have := HLE.out; have := HB.out.1; show N0 ≤ g; omega), grownBy_setCell_new (grownBy_setCell_new HG6.out _ _ HB.out.1) _ _ HB.out.1⟩
      · have ht0 : (tt == 0) = false := beq_eq_false_iff_ne.2 ht
        clear ht
        by_cases ht : tt = 1
        · subst ht
          clear t0 t1
          have hk2 : (k : Int) ≤ cap := by have := HK.out; have := HB.out.2.1; omega
          have hk0 : (0 : Int) ≤ k := by omega
          have hk3 : (k : Int) + 1 ≤ out.length := by omega
          have hlc2 : (out.length : Int) ≤ cap := by have := HB.out.2.1; omega
          obtain ⟨m, hm⟩ : ∃ m, m = k + 1 := ⟨_, rfl⟩
          have hwr : IntKind.i64.wrap ((k : Int) + 1) = (m : Int) := (IntWalk.i64_in _ (by have := HLN.out; omega)).trans (by omega)
          have hm0 : (0 : Int) ≤ m := by omega
          have hm1 : (m : Int) ≤ out.length := by omega
          have hm2 : (m : Int) ≤ cap := by omega
          have hmm : m ≤ out.length := by omega
          have HM := Lib.hid (And.intro hm hmm)
          have HTK := Lib.hid (show W5.drew.ownsRow W.heap.size 36 5 (.slice (some ⟨g, 0, none⟩) k cap) k (flatC (out.take k)) by
            have := own_takeC HO5.out k (by have := HK.out; omega)
            rw [show (out.take k).length = k by rw [List.length_take]; have := HK.out; omega] at this
            exact this)
          have HFL := Lib.hid (show (flatC (out.drop m)).length = (out.length - m) * 5 by rw [flatC_length, List.length_drop])
          have HMX := Lib.hid (show k + (out.length - m) ≤ maxLen ∧ (k + (out.length - m)) * 48 ≤ 140737488355328 by unfold maxLen; have := HLN.out; have := HK.out; omega)
          have HBS := Lib.hid (show W.heap.size ≤ W5.drew.heap.size from HG5.out.size)
          have HSB := Lib.hid (show ShortC 66 (out.take k ++ out.drop m) from shortC_part HSH.out (fun y hy => by
            rcases List.mem_append.1 hy with h | h
            · exact List.mem_of_mem_take h
            · exact List.mem_of_mem_drop h))
          have HLB := Lib.hid (show (out.take k ++ out.drop m).length = k + (out.length - m) by rw [List.length_append, List.length_take, List.length_drop]; have := HK.out; omega)
          clear hm hmm
          have HVK := Lib.hid (fun k' (e : (Value.slice (some ⟨g, 0, none⟩) k cap).ownBlock = some k') => show W.heap.size ≤ k' by cases e; exact HB.out.1)
          by_cases hcap : cap = m
          · subst hcap
            have HCEL := Lib.hid (cmds_cells (show CmdsAt W5.drew (some ⟨g, 0, none⟩) (out.length - cap) (out.drop cap) from own_tailC HO5.out cap HM.out.2 0 (.inr (by have h1 := HB.out.2.1; have h2 := HM.out.2; omega))))
            have HG0 : Hid (W5.drew.grownBy W5.drew (some g)) := ⟨rfl, rfl, rfl, Nat.le_refl _, fun _ _ _ => rfl⟩
            go_upto_region 11 with (fail)
            refine wp_region_held_drew (S := (fun w' => W5.drew.grownBy w' (some g))) (by kernel_rfl) HG0.out (fun hH => ?_)
            refine wpAnyH_take (i := 0) (oi := _) (v := ?_) rfl (by kernel_rfl) (by kernel_rfl) (by kernel_rfl) (fun _ _ _ h => h) (Or.inl ⟨by rfl, ?_⟩) (by assumption) ?_
            rotate_left
            · (intro w hSw; (try dsimp only at hSw); go_simp; try with_reducible rfl)
            try simp only [Act.put, List.getElem_toArray, List.getElem_cons_zero, List.setIfInBounds_toArray, List.set_cons_zero, List.set_cons_succ]
            refine wpAnyH_take (i := 1) (oi := _) (v := ?_) rfl (by kernel_rfl) (by kernel_rfl) (by kernel_rfl) (fun _ _ _ h => h) (Or.inl ⟨by rfl, ?_⟩) (by assumption) ?_
            rotate_left
            · (intro w hSw; (try dsimp only at hSw); go_simp; try with_reducible rfl)
            try simp only [Act.put, List.getElem_toArray, List.getElem_cons_zero, List.getElem_cons_succ, List.setIfInBounds_toArray, List.set_cons_zero, List.set_cons_succ]
            refine wpAnyH_take (i := 2) (oi := _) (v := ?_) rfl (by kernel_rfl) (by kernel_rfl) (by kernel_rfl) (fun _ _ _ h => h) (Or.inl ⟨by rfl, ?_⟩) (by assumption) ?_
            rotate_left
            · (intro w hSw; (try dsimp only at hSw); go_simp; try with_reducible rfl)
            try simp only [Act.put, List.getElem_toArray, List.getElem_cons_zero, List.getElem_cons_succ, List.setIfInBounds_toArray, List.set_cons_zero, List.set_cons_succ]
            refine wpAnyH_take (i := 3) (oi := _) (v := ?_) rfl (by kernel_rfl) (by kernel_rfl) (by kernel_rfl) (fun _ _ _ h => h) (Or.inl ⟨by rfl, ?_⟩) (by assumption) ?_
            rotate_left
            · (intro w hSw; (try dsimp only at hSw); go_simp; try with_reducible rfl)
            try simp only [Act.put, List.getElem_toArray, List.getElem_cons_zero, List.getElem_cons_succ, List.setIfInBounds_toArray, List.set_cons_zero, List.set_cons_succ]
            refine wpAnyH_take (i := 4) (oi := _) (v := ?_) rfl (by kernel_rfl) (by kernel_rfl) (by kernel_rfl) (fun _ _ _ h => h) (Or.inl ⟨by rfl, ?_⟩) (by assumption) ?_
            rotate_left
            · (intro w hSw; (try dsimp only at hSw); go_simp; try with_reducible rfl)
            try simp only [Act.put, List.getElem_toArray, List.getElem_cons_zero, List.getElem_cons_succ, List.setIfInBounds_toArray, List.set_cons_zero, List.set_cons_succ]
            refine wpAnyH_take (i := 5) (oi := _) (v := ?_) rfl (by kernel_rfl) (by kernel_rfl) (by kernel_rfl) (fun _ _ _ h => h) (Or.inl ⟨by rfl, ?_⟩) (by assumption) ?_
            rotate_left
            · (intro w hSw; (try dsimp only at hSw); go_simp; try with_reducible rfl)
            try simp only [Act.put, List.getElem_toArray, List.getElem_cons_zero, List.getElem_cons_succ, List.setIfInBounds_toArray, List.set_cons_zero, List.set_cons_succ]
            refine wpAnyH_take (i := 6) (oi := _) (v := ?_) rfl (by kernel_rfl) (by kernel_rfl) (by kernel_rfl) (fun _ _ _ h => h) (Or.inl ⟨by rfl, ?_⟩) (by assumption) ?_
            rotate_left
            · (intro w hSw; (try dsimp only at hSw); go_simp; try with_reducible rfl)
            try simp only [Act.put, List.getElem_toArray, List.getElem_cons_zero, List.getElem_cons_succ, List.setIfInBounds_toArray, List.set_cons_zero, List.set_cons_succ]
            refine wpAnyH_ready (rs := [7]) (by kernel_rfl) (by simp) ?_
            refine AllReadyH.cons rfl (fun K hK => ?_) (AllReadyH.nil)
            rw [if_pos (by rfl)]
            refine wp_append_own _ _ _ 24 rfl W.heap.size 36 i0 (.agg #[.string ⟨#[]⟩, .int .i64 0, .int .i64 0, .int .i64 0, .int .i64 0]) 5 48 Tryd.underlying24 hi hz0 hz1 hz2 rfl (by decide) (.slice (some ⟨g, 0, none⟩) k cap) k (flatC (out.take k)) rfl HTK.out ⟨g, 0, none⟩ (out.length - cap) 0 (flatC (out.drop cap)) rfl HFL.out HCEL.out (flatC_cell1 _) HMX.out.1 HMX.out.2 HBS.out ?_
            intro v4 w4 ho4 hg4 hn4
            refine hK.out _ _ hg4 (fun hHeld => ?_)
            try simp only [Act.put, List.getElem_toArray, List.getElem_cons_zero, List.getElem_cons_succ, List.setIfInBounds_toArray, List.set_cons_zero, List.set_cons_succ]
            refine wpAnyH_take (i := 8) (oi := _) (v := ?_) rfl (by kernel_rfl) (by kernel_rfl) (by kernel_rfl) (fun _ _ _ h => h) (Or.inl ⟨by rfl, ?_⟩) (by assumption) ?_
            rotate_left
            · (intro w hSw; (try dsimp only at hSw); go_simp; try with_reducible rfl)
            try simp only [Act.put, List.getElem_toArray, List.getElem_cons_zero, List.getElem_cons_succ, List.setIfInBounds_toArray, List.set_cons_zero, List.set_cons_succ]
            refine wpAnyH_done (by kernel_rfl) ?_ _
            have hown4 : w4.ownsRow W.heap.size 36 5 v4 (out.take k ++ out.drop cap).length (flatC (out.take k ++ out.drop cap)) := by rw [HLB.out, flatC_append]; exact ho4
            have hg4' : W5.grownBy w4 (some g) := grownBy_trans (⟨rfl, rfl, rfl, Nat.le_refl _, fun _ _ _ => rfl⟩ : W5.grownBy W5.drew (some g)) hg4
            all_goals (try go_wp2)
            go_ret
            exact ⟨_, out.take k ++ out.drop cap, q + 1 + 1, rfl, hown4, by rw [HLB.out]; have := HLN.out; have := HM.out.1; have := HM.out.2; have := HK.out; omega, HSB.out, by have := HQ.out; omega, push_reader (v := .slice (some ⟨g, 0, none⟩) k cap) HVK.out HLE.out HR5.out hg4', push_grown (v := .slice (some ⟨g, 0, none⟩) k cap) HVK.out HG5.out hg4'⟩
          · have HCEL := Lib.hid (cmds_cells (show CmdsAt W5.drew (some ⟨g, m * 5, none⟩) (out.length - m) (out.drop m) from own_tailC HO5.out m HM.out.2 (m * 5) (.inl rfl)))
            have HG0 : Hid (W5.drew.grownBy W5.drew (some g)) := ⟨rfl, rfl, rfl, Nat.le_refl _, fun _ _ _ => rfl⟩
            go_upto_region 11 with (fail)
            refine wp_region_held_drew (S := (fun w' => W5.drew.grownBy w' (some g))) (by kernel_rfl) HG0.out (fun hH => ?_)
            refine wpAnyH_take (i := 0) (oi := _) (v := ?_) rfl (by kernel_rfl) (by kernel_rfl) (by kernel_rfl) (fun _ _ _ h => h) (Or.inl ⟨by rfl, ?_⟩) (by assumption) ?_
            rotate_left
            · (intro w hSw; (try dsimp only at hSw); go_simp; try with_reducible rfl)
            try simp only [Act.put, List.getElem_toArray, List.getElem_cons_zero, List.setIfInBounds_toArray, List.set_cons_zero, List.set_cons_succ]
            refine wpAnyH_take (i := 1) (oi := _) (v := ?_) rfl (by kernel_rfl) (by kernel_rfl) (by kernel_rfl) (fun _ _ _ h => h) (Or.inl ⟨by rfl, ?_⟩) (by assumption) ?_
            rotate_left
            · (intro w hSw; (try dsimp only at hSw); go_simp; try with_reducible rfl)
            try simp only [Act.put, List.getElem_toArray, List.getElem_cons_zero, List.getElem_cons_succ, List.setIfInBounds_toArray, List.set_cons_zero, List.set_cons_succ]
            refine wpAnyH_take (i := 2) (oi := _) (v := ?_) rfl (by kernel_rfl) (by kernel_rfl) (by kernel_rfl) (fun _ _ _ h => h) (Or.inl ⟨by rfl, ?_⟩) (by assumption) ?_
            rotate_left
            · (intro w hSw; (try dsimp only at hSw); go_simp; try with_reducible rfl)
            try simp only [Act.put, List.getElem_toArray, List.getElem_cons_zero, List.getElem_cons_succ, List.setIfInBounds_toArray, List.set_cons_zero, List.set_cons_succ]
            refine wpAnyH_take (i := 3) (oi := _) (v := ?_) rfl (by kernel_rfl) (by kernel_rfl) (by kernel_rfl) (fun _ _ _ h => h) (Or.inl ⟨by rfl, ?_⟩) (by assumption) ?_
            rotate_left
            · (intro w hSw; (try dsimp only at hSw); go_simp; try with_reducible rfl)
            try simp only [Act.put, List.getElem_toArray, List.getElem_cons_zero, List.getElem_cons_succ, List.setIfInBounds_toArray, List.set_cons_zero, List.set_cons_succ]
            refine wpAnyH_take (i := 4) (oi := _) (v := ?_) rfl (by kernel_rfl) (by kernel_rfl) (by kernel_rfl) (fun _ _ _ h => h) (Or.inl ⟨by rfl, ?_⟩) (by assumption) ?_
            rotate_left
            · (intro w hSw; (try dsimp only at hSw); go_simp; try with_reducible rfl)
            try simp only [Act.put, List.getElem_toArray, List.getElem_cons_zero, List.getElem_cons_succ, List.setIfInBounds_toArray, List.set_cons_zero, List.set_cons_succ]
            refine wpAnyH_take (i := 5) (oi := _) (v := ?_) rfl (by kernel_rfl) (by kernel_rfl) (by kernel_rfl) (fun _ _ _ h => h) (Or.inl ⟨by rfl, ?_⟩) (by assumption) ?_
            rotate_left
            · (intro w hSw; (try dsimp only at hSw); go_simp; try with_reducible rfl)
            try simp only [Act.put, List.getElem_toArray, List.getElem_cons_zero, List.getElem_cons_succ, List.setIfInBounds_toArray, List.set_cons_zero, List.set_cons_succ]
            refine wpAnyH_take (i := 6) (oi := _) (v := ?_) rfl (by kernel_rfl) (by kernel_rfl) (by kernel_rfl) (fun _ _ _ h => h) (Or.inl ⟨by rfl, ?_⟩) (by assumption) ?_
            rotate_left
            · (intro w hSw; (try dsimp only at hSw); go_simp; try with_reducible rfl)
            try simp only [Act.put, List.getElem_toArray, List.getElem_cons_zero, List.getElem_cons_succ, List.setIfInBounds_toArray, List.set_cons_zero, List.set_cons_succ]
            refine wpAnyH_ready (rs := [7]) (by kernel_rfl) (by simp) ?_
            refine AllReadyH.cons rfl (fun K hK => ?_) (AllReadyH.nil)
            rw [if_pos (by rfl)]
            refine wp_append_own _ _ _ 24 rfl W.heap.size 36 i0 (.agg #[.string ⟨#[]⟩, .int .i64 0, .int .i64 0, .int .i64 0, .int .i64 0]) 5 48 Tryd.underlying24 hi hz0 hz1 hz2 rfl (by decide) (.slice (some ⟨g, 0, none⟩) k cap) k (flatC (out.take k)) rfl HTK.out ⟨g, m * 5, none⟩ (out.length - m) (cap - m) (flatC (out.drop m)) rfl HFL.out HCEL.out (flatC_cell1 _) HMX.out.1 HMX.out.2 HBS.out ?_
            intro v4 w4 ho4 hg4 hn4
            refine hK.out _ _ hg4 (fun hHeld => ?_)
            try simp only [Act.put, List.getElem_toArray, List.getElem_cons_zero, List.getElem_cons_succ, List.setIfInBounds_toArray, List.set_cons_zero, List.set_cons_succ]
            refine wpAnyH_take (i := 8) (oi := _) (v := ?_) rfl (by kernel_rfl) (by kernel_rfl) (by kernel_rfl) (fun _ _ _ h => h) (Or.inl ⟨by rfl, ?_⟩) (by assumption) ?_
            rotate_left
            · (intro w hSw; (try dsimp only at hSw); go_simp; try with_reducible rfl)
            try simp only [Act.put, List.getElem_toArray, List.getElem_cons_zero, List.getElem_cons_succ, List.setIfInBounds_toArray, List.set_cons_zero, List.set_cons_succ]
            refine wpAnyH_done (by kernel_rfl) ?_ _
            have hown4 : w4.ownsRow W.heap.size 36 5 v4 (out.take k ++ out.drop m).length (flatC (out.take k ++ out.drop m)) := by rw [HLB.out, flatC_append]; exact ho4
            have hg4' : W5.grownBy w4 (some g) := grownBy_trans (⟨rfl, rfl, rfl, Nat.le_refl _, fun _ _ _ => rfl⟩ : W5.grownBy W5.drew (some g)) hg4
            all_goals (try go_wp2)
            go_ret
            exact ⟨_, out.take k ++ out.drop m, q + 1 + 1, rfl, hown4, by rw [HLB.out]; have := HLN.out; have := HM.out.1; have := HM.out.2; have := HK.out; omega, HSB.out, by have := HQ.out; omega, push_reader (v := .slice (some ⟨g, 0, none⟩) k cap) HVK.out HLE.out HR5.out hg4', push_grown (v := .slice (some ⟨g, 0, none⟩) k cap) HVK.out HG5.out hg4'⟩
        · have ht1 : (tt == 1) = false := beq_eq_false_iff_ne.2 ht
          clear ht
          by_cases ht : tt = 2
          · subst ht
            clear t0 t1
            obtain ⟨x0, x1, x2, x3, x4⟩ := flatC_get out k x HX.out
            have c0 : W5.cell? ⟨g, k * 5, none⟩ = some (.string x.p) := by rw [HO5.out.cellAt _ (by have := HK.out; omega)]; exact x0
            have c1 : W5.cell? ⟨g, k * 5 + 1, none⟩ = some (.int .i64 x.fk) := by rw [HO5.out.cellAt _ (by have := HK.out; omega)]; exact x1
            have c2 : W5.cell? ⟨g, k * 5 + 2, none⟩ = some (.int .i64 x.fv) := by rw [HO5.out.cellAt _ (by have := HK.out; omega)]; exact x2
            have c3 : W5.cell? ⟨g, k * 5 + 3, none⟩ = some (.int .i64 x.tk) := by rw [HO5.out.cellAt _ (by have := HK.out; omega)]; exact x3
            have c4 : W5.cell? ⟨g, k * 5 + 4, none⟩ = some (.int .i64 x.tv) := by rw [HO5.out.cellAt _ (by have := HK.out; omega)]; exact x4
            clear x0 x1 x2 x3 x4
            go_wp2_with (at_builtin; refine wpList_append_cmds rfl _ _ rfl W.heap.size _ out rfl (HO5.out.alloc _) _ _ _ [x] rfl (cmds_lit W5 x) (by have := HLN.out; simp; omega) (by have := HG5.out.size; simp; omega) ?_; intro v' w6 ho6 hg6)
            have hg6' := grownBy_trans (grownBy_new W5 (.cells #[.string x.p, .int .i64 x.fk, .int .i64 x.fv, .int .i64 x.tk, .int .i64 x.tv] 36) _) hg6
            go_ret
            exact ⟨_, out ++ [x], q + 1 + 1, rfl, ho6, by simp; have := HLN.out; omega, shortC_push HSH.out (HSH.out.at HX.out), by have := HQ.out; omega, push_reader HVB.out HLE.out HR5.out hg6', push_grown HVB.out HG5.out hg6'⟩
          · have ht2 : (tt == 2) = false := beq_eq_false_iff_ne.2 ht
            clear ht
            by_cases ht : tt = 3
            · subst ht
              clear t0 t1
              go_wp2_with fail
              refine (HOF.out (q + 1 + 1) _ (by have := HQ.out; have := HPP.out; omega) HR5.out).mono ?_
              rintro e W6 ⟨s, hm6, rfl, hR6, hg6⟩
              have HO6 := Lib.hid (own_reader HO5.out HLT.out hg6)
              have HG6 := Lib.hid (grownBy_trans HG5.out hg6)
              have HR6 := Lib.hid hR6
              have HS6 := Lib.hid (show s.size ≤ 66 by rcases (by simpa [brokenPaths] using hm6) with rfl | rfl | rfl <;> decide)
              obtain ⟨x0, -, -, -, -⟩ := flatC_get out k x HX.out
              have c0 : W6.cell? ⟨g, k * 5, none⟩ = some (.string x.p) := by rw [HO6.out.cellAt _ (by have := HK.out; omega)]; exact x0
              have z0 := HO6.out.frozenAt (k * 5)
              clear hR6 hg6 x0 hm6
              go_wp2
              go_ret
              exact ⟨_, out.set k ⟨s, x.fk, x.fv, x.tk, x.tv⟩, _, rfl, own_setPath HO6.out HX.out s, by rw [List.length_set]; have := HLN.out; omega, shortC_set HSH.out HS6.out, by have := HQ.out; omega,
                HR6.out.setNew _ _ (by have := HLE.out; have := HB.out.1; show N0 ≤ g; omega), grownBy_setCell_new HG6.out _ _ HB.out.1⟩
            · have ht3 : (tt == 3) = false := beq_eq_false_iff_ne.2 ht
              clear ht t0 t1
              go_wp2
              go_ret
              exact ⟨_, out, q + 1 + 1, rfl, HO5.out, by have := HLN.out; omega, HSH.out, by have := HQ.out; omega, HR5.out, HG5.out⟩

end Go.Proofs.YtkaokncaockjkaaDoor

/-
  WALKS: drawn logs, out of the code: spec.DrawLogValid, DrawLogUndo, DrawLogApply, DrawLogFits.
-/
namespace Go.Proofs.YtkaokncaockjkaaDoor
open Go.RowKit
set_option linter.unusedVariables false

/-- A drawn log, out of the code. -/
def LogsPost (W : World) (e : Ending) (W' : World) : Prop :=
  ∃ (sl : Value) (cs : List Cmd), e = .returned sl ∧ W'.ownsRow W.heap.size 36 5 sl cs.length (flatC cs) ∧ cs.length ≤ 21 ∧ ShortC 66 cs ∧ Below W.heap.size W W'

/-- A drawn tree and a drawn log. -/
def TreeLogPost (W : World) (e : Ending) (W' : World) : Prop :=
  ∃ (sl : Value) (ns : List Nd) (v : Value) (cs : List Cmd), e = .returned (.tuple #[sl, v]) ∧ Drawn W W' sl ns ∧ W'.ownsRow W.heap.size 36 5 v cs.length (flatC cs) ∧ cs.length ≤ 21 ∧ ShortC 66 cs

set_option maxHeartbeats 1000000 in
set_option maxRecDepth 100000 in
theorem drawLogApply_c (a : Option Addr) (len cap : Nat) (zs : List Int) (W : World) (h : IsRow .u8 W a len cap zs) :
    Calls Tryd.prog 9 #[.slice a len cap] W (TreeLogPost W) := by
  have HO := Lib.hid (l6Open_c a len cap zs W h)
  have HT := Lib.hid (fun W1 hR => l91Any_c (W.heap.size + 1) W.heap.size 0 W1 (by omega) hR)
  clear h
  go_enter Tryd.func9, Tryd.ntmps9
  go_wp2_with fail
  refine HO.out.mono ?_; rintro e W1 ⟨rfl, hR, hB⟩
  have HS1 := Lib.hid (show W.heap.size < W1.heap.size from hR.lt)
  have HB1 := Lib.hid hB
  clear hB
  go_wp2_with fail
  refine (HT.out _ hR).mono ?_; rintro e W2 ⟨sl, ns, q, rfl, hown, -, hl, hs, hq, hR2, hg⟩
  have HG2 := Lib.hid hg
  have HBK := Lib.hid (l91Broken_c (W.heap.size + 1) W.heap.size q W1.heap.size sl ns (by omega) hs HS1.out W2 hg.size hown (by omega) hR2)
  have HON := Lib.hid (And.intro hown (And.intro hl hs))
  clear hown hl hs hg hR hq hR2
  go_wp2_with fail
  refine HBK.out.mono ?_; rintro e W3 ⟨v, out, q3, rfl, hown3, hl3, hs3, -, -, hg3⟩
  have B3 := Lib.hid (below_of_reader HB1.out (grownBy_trans HG2.out hg3))
  have HX := Lib.hid (And.intro hl3 (And.intro hs3 (own_mono hown3 (show W.heap.size ≤ W2.heap.size by have h1 := HS1.out; have h2 := HG2.out.size; omega))))
  have HN3 := Lib.hid (own_mono (own_reader HON.out.1 HS1.out hg3) (show W.heap.size ≤ W1.heap.size by have h1 := HS1.out; omega))
  clear hown3 hl3 hs3 hg3
  go_wp2
  go_ret2
  exact ⟨_, ns, _, out, rfl, ⟨HN3.out, HON.out.2.1, HON.out.2.2, B3.out⟩, HX.out.2.2, HX.out.1, HX.out.2.1⟩

set_option maxHeartbeats 1000000 in
set_option maxRecDepth 100000 in
theorem drawLogFits_c (a : Option Addr) (len cap : Nat) (zs : List Int) (W : World) (h : IsRow .u8 W a len cap zs) :
    Calls Tryd.prog 14 #[.slice a len cap] W (TreeLogPost W) := by
  have HV := Lib.hid (drawLogApply_c a len cap zs W h)
  clear h
  go_enter Tryd.func14, Tryd.ntmps14
  go_wp2_with fail
  refine HV.out.mono ?_; rintro e W1 ⟨sl, ns, v, cs, rfl, h1, h2, h3, h4⟩
  have HX := Lib.hid (And.intro h1 (And.intro h2 (And.intro h3 h4)))
  clear h1 h2 h3 h4
  go_wp2
  go_ret2
  exact ⟨_, ns, _, cs, rfl, HX.out.1, HX.out.2.1, HX.out.2.2.1, HX.out.2.2.2⟩

end Go.Proofs.YtkaokncaockjkaaDoor

/-
  WALKS: laws.sameNodes, laws.sameTexts at equal lists.
-/
namespace Go.Proofs.YtkaokncaockjkaaDoor
open Go.RowKit
set_option linter.unusedVariables false

/-- A list of texts in memory. -/
def TextsAt (W : World) (a : Option Addr) (len : Nat) (xs : List ByteArray) : Prop :=
  xs.length = len ∧ (len = 0 ∨ ∃ b off, a = some ⟨b, off, none⟩ ∧ ∀ i x, xs[i]? = some x → W.cell? ⟨b, off + i, none⟩ = some (.string x))

theorem TextsAt.keep {W W' : World} {a : Option Addr} {len : Nat} {xs : List ByteArray} (h : TextsAt W a len xs) (hb : Below W.heap.size W W') : TextsAt W' a len xs := by
  obtain ⟨h1, h0 | ⟨b, off, ha, hc⟩⟩ := h
  · exact ⟨h1, .inl h0⟩
  · exact ⟨h1, .inr ⟨b, off, ha, fun i x hx => cell_kept hb (hc i x hx)⟩⟩

theorem texts_of_own {W : World} {base : Nat} {e : TypeId} {v : Value} {xs : List ByteArray} (h : W.ownsRow base e 1 v xs.length (xs.map Value.string)) :
    ∃ a cap, v = .slice a xs.length cap ∧ TextsAt W a xs.length xs := by
  rcases h.2 with ⟨rfl, h0⟩ | ⟨g, cap, cur, rfl, h1, h2, h3, h4, h5, h6⟩
  · exact ⟨none, 0, by rw [h0], rfl, .inl h0⟩
  · refine ⟨some ⟨g, 0, none⟩, cap, rfl, rfl, .inr ⟨g, 0, rfl, fun i x hx => ?_⟩⟩
    have hi := (List.getElem?_eq_some_iff.1 hx).1
    rw [Nat.zero_add, h.cellAt i (by omega), List.getElem?_map, hx]
    rfl

theorem below_drewN {n : Nat} {W W' : World} (h : Below n W W') (k : Nat) : Below n W (W'.drewN k) := by
  have e := (drewN_cell W' k ⟨0, 0, none⟩).2.2
  exact ⟨h.os, h.tape, h.output, by rw [e]; exact h.size, fun j hj => by rw [e]; exact h.block j hj⟩

theorem TextsAt.node {W : World} {a : Option Addr} {len : Nat} {xs : List ByteArray} (h : TextsAt W a len xs) {i : Nat} (hi : i < len) :
    ∃ b off x, a = some ⟨b, off, none⟩ ∧ xs[i]? = some x ∧ W.cell? ⟨b, off + i, none⟩ = some (.string x) := by
  obtain ⟨h1, h0 | ⟨b, off, ha, hc⟩⟩ := h
  · omega
  · obtain ⟨x, hx⟩ : ∃ x, xs[i]? = some x := ⟨_, List.getElem?_eq_getElem (by omega)⟩
    exact ⟨b, off, x, ha, hx, hc i x hx⟩

set_option maxHeartbeats 1000000 in
theorem sameNodes_c (a1 a2 : Option Addr) (len c1 c2 : Nat) (ns : List Nd) (hl : len ≤ 2097152) (W : World) (h1 : NodesAt W a1 len ns) (h2 : NodesAt W a2 len ns) :
    Calls Tryd.prog 12 #[.slice a1 len c1, .slice a2 len c2] W (BoolPost true W) := by
  have H1 := Lib.hid h1
  have H2 := Lib.hid h2
  clear h1 h2
  go_enter Tryd.func12, Tryd.ntmps12
  go_wp2
  go_loopw [5] (fun i wr => ∃ n : Nat, i = .int .i64 n ∧ n ≤ len ∧ Hid (Below W.heap.size W wr)) (fun i _ => len - (intOf i).toNat)
  case atStart => exact ⟨0, rfl, by omega, Below.refl _ _⟩
  case round =>
    obtain ⟨i, rfl, hi, HB⟩ := hrel
    by_cases hlt : i < len
    · obtain ⟨b, off, n, rfl, hn, x0, x1, x2⟩ := (H1.out.keep HB.out).node hlt
      obtain ⟨b', off', n', rfl, hn', y0, y1, y2⟩ := (H2.out.keep HB.out).node hlt
      obtain rfl : n = n' := Option.some.inj (hn.symm.trans hn')
      have hlt' : (i : Int) < len := by omega
      have hi0 : (0 : Int) ≤ i := by omega
      have HLT := Lib.hid hlt
      clear hi hlt hn hn'
      go_wp2
      go_quiet (fail)
      have HB2 := Lib.hid (below_drewN HB.out nq)
      clear x0 x1 x2 y0 y1 y2
      go_wp2
      go_roundw
      case rel => exact ⟨i + 1, by go_num, by have := HLT.out; omega, HB2⟩
      case measure => have := HLT.out; simp [intOf]; omega
    · have hge : (len : Int) ≤ i := by omega
      clear hi hlt
      go_wp2
      go_ret
      exact ⟨rfl, HB.out⟩

end Go.Proofs.YtkaokncaockjkaaDoor

/-
  A command held against itself.
-/
namespace Go.Proofs.YtkaokncaockjkaaDoor
open Go.RowKit

theorem cmdEqS (p : ByteArray) (fk fv tk tv : Int) (w : World) : (binOp .eql 36 (.agg #[.string p, .int .i64 fk, .int .i64 fv, .int .i64 tk, .int .i64 tv]) (.agg #[.string p, .int .i64 fk, .int .i64 fv, .int .i64 tk, .int .i64 tv])).run Tryd.prog w = .ok (.bool true) w := by
  simp [binOp, go_sem, Op.equal, Op.maxDepth]

theorem cmdNeS (p : ByteArray) (fk fv tk tv : Int) (w : World) : (binOp .neq 36 (.agg #[.string p, .int .i64 fk, .int .i64 fv, .int .i64 tk, .int .i64 tv]) (.agg #[.string p, .int .i64 fk, .int .i64 fv, .int .i64 tk, .int .i64 tv])).run Tryd.prog w = .ok (.bool false) w := by
  simp [binOp, go_sem, Op.equal, Op.maxDepth]

end Go.Proofs.YtkaokncaockjkaaDoor

/-
  WALKS: laws.toNode, laws.toNodeS, laws.szNodeS: lists of nodes that come from outside.
-/
namespace Go.Proofs.YtkaokncaockjkaaDoor
open Go.RowKit
set_option linter.unusedVariables false

/-- A node as a value. -/
abbrev nodeV (n : Nd) : Value := .agg #[.string n.p, .int .i64 n.k, .int .i64 n.v]

def NodeRet (n : Nd) (w : World) (e : Ending) (w' : World) : Prop := e = .returned (nodeV n) ∧ Below w.heap.size w w'

theorem node_results (s : Nat) (fn : Func) (hf : fn.results = #[.cell s 60]) (W : World) (g : Nat) (n : Nd) (tmps : Array Value) (ht : tmps[s]? = some (.pointer (some ⟨g, 0, none⟩)))
    (h : W.cell? ⟨g, 0, none⟩ = some (.string n.p) ∧ W.cell? ⟨g, 1, none⟩ = some (.int .i64 n.k) ∧ W.cell? ⟨g, 2, none⟩ = some (.int .i64 n.v)) : (results fn tmps).run Tryd.prog W = .ok (nodeV n) W := by
  obtain ⟨c0, c1, c2⟩ := h
  simp [results, hf, go_sem, ht, c0, c1, c2]

/-- A block of cells of the call's own. -/
def Blk (W : World) (g : Nat) (cs : Array Value) (t : TypeId) : Prop := W.heap[g]? = some (.cells cs t (0, 0))

theorem blk_new (W : World) (cs : Array Value) (t : TypeId) : Blk (W.alloc (.cells cs t)) W.heap.size cs t := World.alloc_heap_new _ _
theorem Blk.lt {W : World} {g : Nat} {cs : Array Value} {t : TypeId} (h : Blk W g cs t) : g < W.heap.size := by
  unfold Blk at h
  exact (Array.getElem?_eq_some_iff.1 h).1
theorem Blk.below {W W' : World} {g : Nat} {cs : Array Value} {t : TypeId} (h : Blk W g cs t) (hb : Below W.heap.size W W') : Blk W' g cs t := (hb.block g h.lt).trans h
theorem Blk.cell {W : World} {g : Nat} {cs : Array Value} {t : TypeId} (h : Blk W g cs t) (i : Nat) : W.cell? ⟨g, i, none⟩ = cs[i]? := cell_of_row W g i cs t (0, 0) h
theorem Blk.frozen {W : World} {g : Nat} {cs : Array Value} {t : TypeId} (h : Blk W g cs t) (i : Nat) : W.frozen? ⟨g, i, none⟩ = false := frozen_of_row W g i cs t h
theorem Blk.set {W : World} {g : Nat} {cs : Array Value} {t : TypeId} (h : Blk W g cs t) (i : Nat) (u : Value) : Blk (W.setCell ⟨g, i, none⟩ u) g (cs.setIfInBounds i u) t := heap_setCell_same W g i cs t u h
theorem Blk.setOther {W : World} {g : Nat} {cs : Array Value} {t : TypeId} (h : Blk W g cs t) (a : Addr) (u : Value) (ha : g ≠ a.block) : Blk (W.setCell a u) g cs t := (heap_setCell_other W a g u ha).trans h

set_option maxHeartbeats 1000000 in
theorem toNode_c (n : Nd) (w : World) : Calls Tryd.prog 42 #[nodeV n] w (NodeRet n w) := by
  obtain ⟨p, k, v⟩ := n
  have HT := Lib.hid (fun w => toContent_c k v w)
  unfold con at HT
  unfold nodeV
  go_enter Tryd.func42, Tryd.ntmps42
  go_wp2_with fail
  refine (HT.out _).mono ?_; rintro e W1 ⟨rfl, hb1⟩
  have hx : w.heap.size + 1 + 1 = ((w.alloc (.cells #[.string p, .int .i64 k, .int .i64 v] 74)).alloc (.cells #[.string ⟨#[]⟩, .int .i64 0, .int .i64 0] 60)).heap.size := by simp
  have K3 := Lib.hid (show Blk W1 (w.heap.size + 1 + 1) #[.string p, .int .i64 0, .int .i64 0] 60 by rw [hx]; exact (blk_new _ _ _).below hb1)
  have hy : w.heap.size + 1 = (w.alloc (.cells #[.string p, .int .i64 k, .int .i64 v] 74)).heap.size := by simp
  have K2 := Lib.hid (show Blk W1 (w.heap.size + 1) #[.string ⟨#[]⟩, .int .i64 0, .int .i64 0] 60 by rw [hy]; exact ((blk_new _ _ _).below (below_box _ _)).below hb1)
  have B1 := Lib.hid (below_next (below_box w _) (below_next (below_box _ _) (below_next (below_box _ _) hb1)))
  have s1 : W1.cell? ⟨w.heap.size + 1 + 1, 1, none⟩ = some (.int .i64 0) := K3.out.cell 1
  have s2 : W1.cell? ⟨w.heap.size + 1 + 1, 2, none⟩ = some (.int .i64 0) := K3.out.cell 2
  have s0 : W1.cell? ⟨w.heap.size + 1 + 1, 0, none⟩ = some (.string p) := K3.out.cell 0
  have z1 := K3.out.frozen 1
  have z2 := K3.out.frozen 2
  have r0 : W1.cell? ⟨w.heap.size + 1, 0, none⟩ = some (.string ⟨#[]⟩) := K2.out.cell 0
  have r1 : W1.cell? ⟨w.heap.size + 1, 1, none⟩ = some (.int .i64 0) := K2.out.cell 1
  have r2 : W1.cell? ⟨w.heap.size + 1, 2, none⟩ = some (.int .i64 0) := K2.out.cell 2
  have y0 := K2.out.frozen 0
  have y1 := K2.out.frozen 1
  have y2 := K2.out.frozen 2
  clear hb1 hx hy
  unfold con
  go_wp2
  have K4 := (((((K2.out.setOther ⟨w.heap.size + 1 + 1, 1, none⟩ (.int .i64 k) (by simp)).setOther ⟨w.heap.size + 1 + 1, 2, none⟩ (.int .i64 v) (by simp)).set 0 (.string p)).set 1 (.int .i64 k)).set 2 (.int .i64 v))
  refine bodyPost_ret (node_results 2 _ rfl _ (w.heap.size + 1) ⟨p, k, v⟩ _ rfl ⟨K4.cell 0, K4.cell 1, K4.cell 2⟩) rfl ⟨rfl, ?_⟩
  exact below_setCell (below_setCell (below_setCell (below_setCell (below_setCell B1.out _ _ (by simp; omega)) _ _ (by simp; omega)) _ _ (by simp)) _ _ (by simp)) _ _ (by simp)

theorem flatN_take_set : ∀ (ns : List Nd) (i : Nat) (n : Nd) (zs : List Value), ns[i]? = some n → 3 ≤ zs.length →
    (((flatN (ns.take i) ++ zs).set (i * 3) (.string n.p)).set (i * 3 + 1) (.int .i64 n.k)).set (i * 3 + 2) (.int .i64 n.v) = flatN (ns.take (i + 1)) ++ zs.drop 3 := by
  intro ns i n zs hn hz
  have hi := (List.getElem?_eq_some_iff.1 hn).1
  have hl : (flatN (ns.take i)).length = i * 3 := by rw [flatN_length, List.length_take]; omega
  rw [List.take_add_one, hn, flatN_append]
  match zs, hz with
  | a :: b :: c :: r, _ =>
    show _ = (flatN (ns.take i) ++ [.string n.p, .int .i64 n.k, .int .i64 n.v]) ++ r
    rw [List.set_append_right _ _ (by omega), hl, show i * 3 - i * 3 = 0 by omega]
    rw [List.set_append_right _ _ (by omega), hl, show i * 3 + 1 - i * 3 = 1 by omega]
    rw [List.set_append_right _ _ (by omega), hl, show i * 3 + 2 - i * 3 = 2 by omega]
    simp

theorem below_of_none {W w : World} (h : W.grownBy w none) : Below W.heap.size W w := ⟨h.os, h.tape, h.output, h.size, fun k hk => h.block k hk (by simp)⟩

theorem stored3 {W : World} {base : Nat} {e : TypeId} {g cap n : Nat} {xs : List Value} (h : W.ownsRow base e 3 (.slice (some ⟨g, 0, none⟩) n cap) n xs) (j : Nat) (u v x : Value) :
    (((W.setCell ⟨g, j, none⟩ u).setCell ⟨g, j + 1, none⟩ v).setCell ⟨g, j + 2, none⟩ x).ownsRow base e 3 (.slice (some ⟨g, 0, none⟩) n cap) n (((xs.set j u).set (j + 1) v).set (j + 2) x) :=
  ((((h.stored j u).1.stored (j + 1) v).1).stored (j + 2) x).1

def ToRel (ns : List Nd) (len : Nat) (W : World) (i : Value) (wr : World) : Prop :=
  ∃ (n : Nat) (zs : List Value), i = .int .i64 n ∧ n ≤ len ∧ zs.length = (len - n) * 3 ∧ wr.ownsRow W.heap.size 60 3 (.slice (some ⟨W.heap.size, 0, none⟩) len len) len (flatN (ns.take n) ++ zs) ∧ Hid (Below W.heap.size W wr)

set_option maxHeartbeats 2000000 in
set_option maxRecDepth 100000 in
theorem toNodeS_c (a : Option Addr) (len cap : Nat) (ns : List Nd) (hl : len ≤ 2097152) (W : World) (hN : NodesAt W a len ns) :
    Calls Tryd.prog 20 #[.slice a len cap] W fun e W' => OwnsNodes W.heap.size ns e W' ∧ Below W.heap.size W W' := by
  obtain ⟨i0, hi, hz0, hz1, hz2⟩ := info_parts infoNode
  have HN := Lib.hid hN
  have HE := Lib.hid hN.1
  have HT := Lib.hid (fun n w => toNode_c n w)
  have HL := Lib.hid hl
  clear hN
  go_enter Tryd.func20, Tryd.ntmps20
  go_wp2_with (refine wpList_make_full _ rfl _ _ 23 rfl W.heap.size 60 i0 (.agg #[.string ⟨#[]⟩, .int .i64 0, .int .i64 0]) 3 Tryd.underlying23 hi hz0 hz1 .i64 .i64 _ _ len rfl rfl rfl rfl (by rw [hz2]; omega) (by unfold maxLen; omega) (Nat.le_refl _) ?_; intro w1 hown1 hg1)
  have hb1 := below_of_none hg1
  clear hg1
  go_loopw [4] (fun i wr => ToRel ns len W i wr) (fun i _ => len - (intOf i).toNat)
  case atStart =>
    refine ⟨0, _, rfl, by omega, ?_, (by simpa [flatN_nil] using hown1), hb1⟩
    have := hown1.1
    omega
  case round =>
    obtain ⟨i, zs, rfl, hi1, hzl, hown, HB⟩ := hrel
    by_cases hlt : i < len
    · obtain ⟨b, off, n, rfl, hn, c0, c1, c2⟩ := (HN.out.keep HB.out).node hlt
      have hlt' : (i : Int) < len := by omega
      have HLT := Lib.hid hlt
      have HNN := Lib.hid hn
      have hz3 : 3 ≤ zs.length := by omega
      have HZ := Lib.hid (And.intro hzl hz3)
      obtain ⟨p, k, v⟩ := n
      have HTN := Lib.hid (fun w => HT.out ⟨p, k, v⟩ w)
      unfold nodeV NodeRet at HTN
      clear hi1 hlt hn hzl hz3 hown1
      go_wp2_with fail
      refine (HTN.out _).mono ?_; rintro e W2 ⟨rfl, hb2⟩
      have HO2 := Lib.hid (own_below hown hb2)
      have HB2 := Lib.hid (below_next HB.out hb2)
      clear hown hb2 c0 c1 c2
      have hll : (flatN (ns.take i)).length = i * 3 := by rw [flatN_length, List.length_take]; have := HE.out; have := HLT.out; omega
      have cell : ∀ j, j < 3 → ∃ u, W2.cell? ⟨W.heap.size, i * 3 + j, none⟩ = some u := by
        intro j hj
        have hx := HZ.out.1
        have hy := HLT.out
        rw [HO2.out.cellAt _ (by omega)]
        exact ⟨_, List.getElem?_eq_getElem (by rw [List.length_append, hll]; omega)⟩
      obtain ⟨u0, e0⟩ := cell 0 (by omega)
      replace e0 : W2.cell? ⟨W.heap.size, i * 3, none⟩ = some u0 := e0
      obtain ⟨u1, e1⟩ := cell 1 (by omega)
      obtain ⟨u2, e2⟩ := cell 2 (by omega)
      have y0 := HO2.out.frozenAt (i * 3)
      have y1 := HO2.out.frozenAt (i * 3 + 1)
      have y2 := HO2.out.frozenAt (i * 3 + 2)
      clear cell hll
      go_wp2
      have HS3 := stored3 HO2.out (i * 3) (.string p) (.int .i64 k) (.int .i64 v)
      rw [flatN_take_set ns i ⟨p, k, v⟩ zs HNN.out HZ.out.2] at HS3
      go_roundw
      case rel => exact ⟨i + 1, zs.drop 3, by go_num, by have := HLT.out; omega, by rw [List.length_drop]; have h1 := HZ.out.1; have h2 := HZ.out.2; have h3 := HLT.out; omega, HS3, below_setCell (below_setCell (below_setCell HB2.out _ _ (Nat.le_refl _)) _ _ (Nat.le_refl _)) _ _ (Nat.le_refl _)⟩
      case measure => have := HLT.out; simp [intOf]; omega
    · have hge : (len : Int) ≤ i := by omega
      have hz0' : zs = [] := List.eq_nil_of_length_eq_zero (by omega)
      subst hz0'
      rw [List.append_nil, List.take_of_length_le (by have := HE.out; omega)] at hown
      clear hi1 hlt
      go_wp2
      go_ret
      exact ⟨⟨_, rfl, by have h := HE.out; rw [h]; exact hown⟩, HB.out⟩

end Go.Proofs.YtkaokncaockjkaaDoor

/-
  WALKS: lists of commands in the laws: laws.toCommandS, szCommandS, eqCommandS, sameLog.
-/
namespace Go.Proofs.YtkaokncaockjkaaDoor
open Go.RowKit
set_option linter.unusedVariables false

theorem flatC_take_set : ∀ (cs : List Cmd) (i : Nat) (c : Cmd) (zs : List Value), cs[i]? = some c → 5 ≤ zs.length →
    (((((flatC (cs.take i) ++ zs).set (i * 5) (.string c.p)).set (i * 5 + 1) (.int .i64 c.fk)).set (i * 5 + 2) (.int .i64 c.fv)).set (i * 5 + 3) (.int .i64 c.tk)).set (i * 5 + 4) (.int .i64 c.tv) = flatC (cs.take (i + 1)) ++ zs.drop 5 := by
  intro cs i c zs hn hz
  have hi := (List.getElem?_eq_some_iff.1 hn).1
  have hl : (flatC (cs.take i)).length = i * 5 := by rw [flatC_length, List.length_take]; omega
  rw [List.take_add_one, hn, flatC_append]
  match zs, hz with
  | a :: b :: c' :: d :: e :: r, _ =>
    show _ = (flatC (cs.take i) ++ [.string c.p, .int .i64 c.fk, .int .i64 c.fv, .int .i64 c.tk, .int .i64 c.tv]) ++ r
    rw [List.set_append_right _ _ (by omega), hl, show i * 5 - i * 5 = 0 by omega]
    rw [List.set_append_right _ _ (by omega), hl, show i * 5 + 1 - i * 5 = 1 by omega]
    rw [List.set_append_right _ _ (by omega), hl, show i * 5 + 2 - i * 5 = 2 by omega]
    rw [List.set_append_right _ _ (by omega), hl, show i * 5 + 3 - i * 5 = 3 by omega]
    rw [List.set_append_right _ _ (by omega), hl, show i * 5 + 4 - i * 5 = 4 by omega]
    simp

theorem stored5 {W : World} {base : Nat} {e : TypeId} {g cap n : Nat} {xs : List Value} (h : W.ownsRow base e 5 (.slice (some ⟨g, 0, none⟩) n cap) n xs) (j : Nat) (u v x y z : Value) :
    (((((W.setCell ⟨g, j, none⟩ u).setCell ⟨g, j + 1, none⟩ v).setCell ⟨g, j + 2, none⟩ x).setCell ⟨g, j + 3, none⟩ y).setCell ⟨g, j + 4, none⟩ z).ownsRow base e 5 (.slice (some ⟨g, 0, none⟩) n cap) n (((((xs.set j u).set (j + 1) v).set (j + 2) x).set (j + 3) y).set (j + 4) z) :=
  ((((((h.stored j u).1.stored (j + 1) v).1).stored (j + 2) x).1.stored (j + 3) y).1.stored (j + 4) z).1

def ToRelC (cs : List Cmd) (len : Nat) (W : World) (i : Value) (wr : World) : Prop :=
  ∃ (n : Nat) (zs : List Value), i = .int .i64 n ∧ n ≤ len ∧ zs.length = (len - n) * 5 ∧ wr.ownsRow W.heap.size 36 5 (.slice (some ⟨W.heap.size, 0, none⟩) len len) len (flatC (cs.take n) ++ zs) ∧ Hid (Below W.heap.size W wr)

set_option maxHeartbeats 2000000 in
set_option maxRecDepth 100000 in
theorem toCommandS_c (a : Option Addr) (len cap : Nat) (cs : List Cmd) (hl : len ≤ 2097152) (W : World) (hN : CmdsAt W a len cs) :
    Calls Tryd.prog 21 #[.slice a len cap] W (CmdsPost cs W) := by
  obtain ⟨i0, hi, hz0, hz1, hz2⟩ := info_parts infoCmd
  have HN := Lib.hid hN
  have HE := Lib.hid hN.1
  have HT := Lib.hid (fun c w => toCommand_c c w)
  have HL := Lib.hid hl
  clear hN
  go_enter Tryd.func21, Tryd.ntmps21
  go_wp2_with (refine wpList_make_full _ rfl _ _ 24 rfl W.heap.size 36 i0 (.agg #[.string ⟨#[]⟩, .int .i64 0, .int .i64 0, .int .i64 0, .int .i64 0]) 5 Tryd.underlying24 hi hz0 hz1 .i64 .i64 _ _ len rfl rfl rfl rfl (by rw [hz2]; omega) (by unfold maxLen; omega) (Nat.le_refl _) ?_; intro w1 hown1 hg1)
  have hb1 := below_of_none hg1
  clear hg1
  go_loopw [4] (fun i wr => ToRelC cs len W i wr) (fun i _ => len - (intOf i).toNat)
  case atStart =>
    refine ⟨0, _, rfl, by omega, ?_, (by simpa [flatC_nil] using hown1), hb1⟩
    have := hown1.1
    omega
  case round =>
    obtain ⟨i, zs, rfl, hi1, hzl, hown, HB⟩ := hrel
    by_cases hlt : i < len
    · obtain ⟨b, off, n, rfl, hn, c0, c1, c2, c3, c4⟩ := (HN.out.keep HB.out).node hlt
      have hlt' : (i : Int) < len := by omega
      have HLT := Lib.hid hlt
      have HNN := Lib.hid hn
      have hz3 : 5 ≤ zs.length := by omega
      have HZ := Lib.hid (And.intro hzl hz3)
      obtain ⟨p, fk, fv, tk, tv⟩ := n
      have HTN := Lib.hid (fun w => HT.out ⟨p, fk, fv, tk, tv⟩ w)
      unfold CmdPost cmdV at HTN
      simp only at c0 c1 c2 c3 c4 HTN
      clear hi1 hlt hn hzl hz3 hown1
      go_wp2_with fail
      refine (HTN.out _).mono ?_; rintro e W2 ⟨rfl, hb2⟩
      have HO2 := Lib.hid (own_below hown hb2)
      have HB2 := Lib.hid (below_next HB.out hb2)
      clear hown hb2 c0 c1 c2 c3 c4
      have hll : (flatC (cs.take i)).length = i * 5 := by rw [flatC_length, List.length_take]; have := HE.out; have := HLT.out; omega
      have cell : ∀ j, j < 5 → ∃ u, W2.cell? ⟨W.heap.size, i * 5 + j, none⟩ = some u := by
        intro j hj
        have hx := HZ.out.1
        have hy := HLT.out
        rw [HO2.out.cellAt _ (by omega)]
        exact ⟨_, List.getElem?_eq_getElem (by rw [List.length_append, hll]; omega)⟩
      obtain ⟨u0, e0⟩ := cell 0 (by omega)
      replace e0 : W2.cell? ⟨W.heap.size, i * 5, none⟩ = some u0 := e0
      obtain ⟨u1, e1⟩ := cell 1 (by omega)
      obtain ⟨u2, e2⟩ := cell 2 (by omega)
      obtain ⟨u3, e3⟩ := cell 3 (by omega)
      obtain ⟨u4, e4⟩ := cell 4 (by omega)
      have y0 := HO2.out.frozenAt (i * 5)
      have y1 := HO2.out.frozenAt (i * 5 + 1)
      have y2 := HO2.out.frozenAt (i * 5 + 2)
      have y3 := HO2.out.frozenAt (i * 5 + 3)
      have y4 := HO2.out.frozenAt (i * 5 + 4)
      clear cell hll
      go_wp2
      have HS3 := stored5 HO2.out (i * 5) (.string p) (.int .i64 fk) (.int .i64 fv) (.int .i64 tk) (.int .i64 tv)
      rw [flatC_take_set cs i ⟨p, fk, fv, tk, tv⟩ zs HNN.out HZ.out.2] at HS3
      go_roundw
      case rel => exact ⟨i + 1, zs.drop 5, by go_num, by have := HLT.out; omega, by rw [List.length_drop]; have h1 := HZ.out.1; have h2 := HZ.out.2; have h3 := HLT.out; omega, HS3, below_setCell (below_setCell (below_setCell (below_setCell (below_setCell HB2.out _ _ (Nat.le_refl _)) _ _ (Nat.le_refl _)) _ _ (Nat.le_refl _)) _ _ (Nat.le_refl _)) _ _ (Nat.le_refl _)⟩
      case measure => have := HLT.out; simp [intOf]; omega
    · have hge : (len : Int) ≤ i := by omega
      have hz0' : zs = [] := List.eq_nil_of_length_eq_zero (by omega)
      subst hz0'
      rw [List.append_nil, List.take_of_length_le (by have := HE.out; omega)] at hown
      clear hi1 hlt
      go_wp2
      go_ret
      exact ⟨⟨_, rfl, by have h := HE.out; rw [h]; exact hown⟩, HB.out⟩

/-- What is left; if anything is, the list and its texts are of modest length. -/
def SzCmds (len : Nat) (cs : List Cmd) (w : World) (e : Ending) (w' : World) : Prop := ∃ z : Int, e = .returned (.int .i64 z) ∧ z ≤ 1048576 ∧ (0 ≤ z → len ≤ 1048576 ∧ ShortC 1048576 cs) ∧ Below w.heap.size w w'

def SzRelC (len : Nat) (cs : List Cmd) (w : World) (l i : Value) (wr : World) : Prop :=
  ∃ (n : Nat) (z : Int), i = .int .i64 n ∧ n ≤ len ∧ l = .int .i64 z ∧ Hid (0 ≤ z ∧ z ≤ 1048576) ∧ Hid (∀ j m, j < n → cs[j]? = some m → m.p.size ≤ 1048576) ∧ Hid (Below w.heap.size w wr)

set_option maxHeartbeats 1000000 in
theorem szCommandS_c (l0 : Int) (hl0 : 0 ≤ l0) (hl1 : l0 ≤ 1048576) (a : Option Addr) (len cap : Nat) (cs : List Cmd) (hlen : len ≤ maxLen) (hm : ShortC maxLen cs) (w : World) (hN : CmdsAt w a len cs) :
    Calls Tryd.prog 19 #[.slice a len cap, .int .i64 l0] w (SzCmds len cs w) := by
  have HN := Lib.hid hN
  have HE := Lib.hid hN.1
  have HM := Lib.hid hm
  have hl : len ≤ 9223372036854775807 := Nat.le_trans hlen (by unfold maxLen; omega)
  have hw0 : IntKind.i64.wrap (l0 - (len : Int)) = l0 - len := IntWalk.i64_in _ (by omega)
  clear hN hm hlen
  by_cases h : (len : Int) ≤ l0
  · obtain ⟨z, hz⟩ : ∃ z, l0 - len = z := ⟨_, rfl⟩
    have hzp : 0 ≤ z := by omega
    have HZ := Lib.hid (show 0 ≤ z ∧ z ≤ 1048576 by omega)
    have hw := hw0.trans hz
    have HL := Lib.hid (show len ≤ 1048576 by omega)
    have hl2 : (len : Int) ≤ 1048576 := by omega
    clear hz hl h hw0
    go_enter Tryd.func19, Tryd.ntmps19
    go_wp2
    clear hzp hw
    go_loopw [1, 5] (fun l i wr => SzRelC len cs w l i wr) (fun _ i _ => len - (intOf i).toNat)
    case atStart => exact ⟨0, z, rfl, by omega, rfl, HZ, Lib.hid (fun j m h _ => absurd h (by omega)), Below.refl _ _⟩
    case round =>
      obtain ⟨i, l, rfl, hi, rfl, HLL, HP, HB⟩ := hrel
      by_cases hlt : i < len
      · obtain ⟨b, off, n, rfl, hn, c0, c1, c2, c3, c4⟩ := (HN.out.keep HB.out).node hlt
        have hlt' : (i : Int) < len := by omega
        have HO := Lib.hid (fun w => szCommand_c n l HLL.out.1 HLL.out.2 (HM.out n (List.mem_of_getElem? hn)) w)
        have HNN := Lib.hid hn
        have HLT := Lib.hid hlt
        obtain ⟨p, fk, fv, tk, tv⟩ := n
        unfold SzCmd cmdV at HO
        simp only at c0 c1 c2 c3 c4 HO
        clear hi hlt hn
        go_wp2_with fail
        refine (HO.out _).mono ?_; rintro e W2 ⟨z2, rfl, hz0, hz1, hz2, hb2⟩
        have HB2 := Lib.hid (below_next HB.out hb2)
        clear c0 c1 c2 c3 c4 hb2
        by_cases hneg : z2 < 0
        · clear hz0 hz1 hz2
          go_wp2
          go_ret
          exact ⟨-1, rfl, by omega, fun h => absurd h (by omega), HB2.out⟩
        · have hpos : 0 ≤ z2 := by omega
          have HZ2 := Lib.hid (And.intro hpos (And.intro hz1 (hz2 hpos)))
          clear hz0 hz1 hz2 hneg
          go_wp2
          go_roundw
          case rel =>
            refine ⟨i + 1, z2, by go_num, by have := HLT.out; omega, rfl, ⟨HZ2.out.1, HZ2.out.2.1⟩, ?_, HB2⟩
            intro j m hj hm
            by_cases hji : j < i
            · exact HP.out j m hji hm
            · have : j = i := by omega
              subst this
              rw [HNN.out] at hm
              obtain rfl := Option.some.inj hm
              exact HZ2.out.2.2
          case measure => have := HLT.out; simp [intOf]; omega
      · have hge : (len : Int) ≤ i := by omega
        have HQ := Lib.hid (show len ≤ i by omega)
        clear hi hlt
        go_wp2
        go_ret
        exact ⟨l, rfl, HLL.out.2, fun _ => ⟨HL.out, fun n hn => by
          obtain ⟨j, hj⟩ := List.getElem?_of_mem hn
          exact HP.out j n (by have h1 := (List.getElem?_eq_some_iff.1 hj).1; have h2 := HE.out; have h3 := HQ.out; omega) hj⟩, HB.out⟩
  · have hz : l0 - len < 0 := by omega
    obtain ⟨z, hz'⟩ : ∃ z, l0 - len = z := ⟨_, rfl⟩
    have hw := hw0.trans hz'
    rw [hz'] at hz
    clear hz' hl h hw0
    go_enter Tryd.func19, Tryd.ntmps19
    go_wp2
    go_ret
    exact ⟨-1, rfl, by omega, fun h => absurd h (by omega), Below.refl _ _⟩

/-- Two lists of commands that read alike. -/
def EqRelC (len : Nat) (W : World) (i : Value) (wr : World) : Prop := ∃ n : Nat, i = .int .i64 n ∧ n ≤ len ∧ Hid (Below W.heap.size W wr)

set_option maxHeartbeats 2000000 in
set_option maxRecDepth 100000 in
theorem eqCommandS_c (a1 a2 : Option Addr) (len c1 c2 : Nat) (cs : List Cmd) (hl : len ≤ 2097152) (W : World) (h1 : CmdsAt W a1 len cs) (h2 : CmdsAt W a2 len cs) :
    Calls Tryd.prog 23 #[.slice a1 len c1, .slice a2 len c2] W (BoolPost true W) := by
  have H1 := Lib.hid h1
  have H2 := Lib.hid h2
  have HC := Lib.hid (fun c w => eqCommand_c c w)
  unfold cmdV at HC
  have hl' : (len : Int) ≤ 2097152 := by omega
  clear h1 h2
  go_enter Tryd.func23, Tryd.ntmps23
  go_wp2
  go_loopw [5] (fun i wr => EqRelC len W i wr) (fun i _ => len - (intOf i).toNat)
  case atStart => exact ⟨0, rfl, by omega, Below.refl _ _⟩
  case round =>
    obtain ⟨i, rfl, hi, HB⟩ := hrel
    by_cases hlt : i < len
    · obtain ⟨b, off, n, HA1, hn1, c0, c1, c2, c3, c4⟩ := (H1.out.keep HB.out).node hlt
      obtain ⟨b', off', n', HA2, hn2, d0, d1, d2, d3, d4⟩ := (H2.out.keep HB.out).node hlt
      obtain rfl : n' = n := by rw [hn1] at hn2; exact (Option.some.inj hn2).symm
      have hlt' : (i : Int) < len := by omega
      have hil : (i : Int) ≤ 2097152 := by omega
      have HLT := Lib.hid hlt
      obtain rfl := HA1
      obtain rfl := HA2
      obtain ⟨p, fk, fv, tk, tv⟩ := n'
      simp only at c0 c1 c2 c3 c4 d0 d1 d2 d3 d4
      have HS0 := Lib.hid (show wr.drew.cell? ⟨b, off + i * 5, none⟩ = some (.string p) ∧ wr.drew.cell? ⟨b, off + i * 5 + 1, none⟩ = some (.int .i64 fk) ∧ wr.drew.cell? ⟨b, off + i * 5 + 2, none⟩ = some (.int .i64 fv) ∧ wr.drew.cell? ⟨b, off + i * 5 + 3, none⟩ = some (.int .i64 tk) ∧ wr.drew.cell? ⟨b, off + i * 5 + 4, none⟩ = some (.int .i64 tv) ∧ wr.drew.cell? ⟨b', off' + i * 5, none⟩ = some (.string p) ∧ wr.drew.cell? ⟨b', off' + i * 5 + 1, none⟩ = some (.int .i64 fk) ∧ wr.drew.cell? ⟨b', off' + i * 5 + 2, none⟩ = some (.int .i64 fv) ∧ wr.drew.cell? ⟨b', off' + i * 5 + 3, none⟩ = some (.int .i64 tk) ∧ wr.drew.cell? ⟨b', off' + i * 5 + 4, none⟩ = some (.int .i64 tv) ∧ Below W.heap.size W wr.drew from ⟨c0, c1, c2, c3, c4, d0, d1, d2, d3, d4, HB.out.drew⟩)
      have HCX := Lib.hid (HC.out ⟨p, fk, fv, tk, tv⟩ wr.drew)
      simp only at HCX
      have HKP := Lib.hid (fun (u1 u2 : World) (h : u1.cell? ⟨b, off + i * 5, none⟩ = some (.string p) ∧ u1.cell? ⟨b, off + i * 5 + 1, none⟩ = some (.int .i64 fk) ∧ u1.cell? ⟨b, off + i * 5 + 2, none⟩ = some (.int .i64 fv) ∧ u1.cell? ⟨b, off + i * 5 + 3, none⟩ = some (.int .i64 tk) ∧ u1.cell? ⟨b, off + i * 5 + 4, none⟩ = some (.int .i64 tv) ∧ u1.cell? ⟨b', off' + i * 5, none⟩ = some (.string p) ∧ u1.cell? ⟨b', off' + i * 5 + 1, none⟩ = some (.int .i64 fk) ∧ u1.cell? ⟨b', off' + i * 5 + 2, none⟩ = some (.int .i64 fv) ∧ u1.cell? ⟨b', off' + i * 5 + 3, none⟩ = some (.int .i64 tk) ∧ u1.cell? ⟨b', off' + i * 5 + 4, none⟩ = some (.int .i64 tv) ∧ Below W.heap.size W u1) (hb : Below u1.heap.size u1 u2) => show u2.cell? ⟨b, off + i * 5, none⟩ = some (.string p) ∧ u2.cell? ⟨b, off + i * 5 + 1, none⟩ = some (.int .i64 fk) ∧ u2.cell? ⟨b, off + i * 5 + 2, none⟩ = some (.int .i64 fv) ∧ u2.cell? ⟨b, off + i * 5 + 3, none⟩ = some (.int .i64 tk) ∧ u2.cell? ⟨b, off + i * 5 + 4, none⟩ = some (.int .i64 tv) ∧ u2.cell? ⟨b', off' + i * 5, none⟩ = some (.string p) ∧ u2.cell? ⟨b', off' + i * 5 + 1, none⟩ = some (.int .i64 fk) ∧ u2.cell? ⟨b', off' + i * 5 + 2, none⟩ = some (.int .i64 fv) ∧ u2.cell? ⟨b', off' + i * 5 + 3, none⟩ = some (.int .i64 tk) ∧ u2.cell? ⟨b', off' + i * 5 + 4, none⟩ = some (.int .i64 tv) ∧ Below W.heap.size W u2 from ⟨cell_kept hb h.1, cell_kept hb h.2.1, cell_kept hb h.2.2.1, cell_kept hb h.2.2.2.1, cell_kept hb h.2.2.2.2.1, cell_kept hb h.2.2.2.2.2.1, cell_kept hb h.2.2.2.2.2.2.1, cell_kept hb h.2.2.2.2.2.2.2.1, cell_kept hb h.2.2.2.2.2.2.2.2.1, cell_kept hb h.2.2.2.2.2.2.2.2.2.1, below_next h.2.2.2.2.2.2.2.2.2.2 hb⟩)
      clear hlt hi hn1 hn2 c0 c1 c2 c3 c4 d0 d1 d2 d3 d4
      go_upto_region 6 with (fail)
      go_region_held3 (fun w' => w'.cell? ⟨b, off + i * 5, none⟩ = some (.string p) ∧ w'.cell? ⟨b, off + i * 5 + 1, none⟩ = some (.int .i64 fk) ∧ w'.cell? ⟨b, off + i * 5 + 2, none⟩ = some (.int .i64 fv) ∧ w'.cell? ⟨b, off + i * 5 + 3, none⟩ = some (.int .i64 tk) ∧ w'.cell? ⟨b, off + i * 5 + 4, none⟩ = some (.int .i64 tv) ∧ w'.cell? ⟨b', off' + i * 5, none⟩ = some (.string p) ∧ w'.cell? ⟨b', off' + i * 5 + 1, none⟩ = some (.int .i64 fk) ∧ w'.cell? ⟨b', off' + i * 5 + 2, none⟩ = some (.int .i64 fv) ∧ w'.cell? ⟨b', off' + i * 5 + 3, none⟩ = some (.int .i64 tk) ∧ w'.cell? ⟨b', off' + i * 5 + 4, none⟩ = some (.int .i64 tv) ∧ Below W.heap.size W w')
        (first | exact HS0.out | exact HKP.out _ _ HS0.out hb7)
        (first | (go_at_call 45; (with_reducible refine (HCX.out).mono ?_); rintro e W7 ⟨rfl, hb7⟩))
      rename_i hS
      have HB7 := Lib.hid hS.2.2.2.2.2.2.2.2.2.2
      clear hS
      go_wp2
      go_roundw
      case rel => exact ⟨i + 1, by go_num, by have := HLT.out; omega, HB7.out⟩
      case measure => have := HLT.out; simp [intOf]; omega
    · have hge : (len : Int) ≤ i := by omega
      clear hi hlt
      go_wp2
      go_ret
      exact ⟨rfl, HB.out⟩

end Go.Proofs.YtkaokncaockjkaaDoor

/-
  WALKS: laws.eqNode, laws.eqNodeS, at equal lists.
-/
namespace Go.Proofs.YtkaokncaockjkaaDoor
open Go.RowKit
set_option linter.unusedVariables false

set_option maxHeartbeats 1000000 in
theorem eqNode_c (n : Nd) (w : World) : Calls Tryd.prog 44 #[nodeV n, nodeV n] w (BoolPost true w) := by
  obtain ⟨p, k, v⟩ := n
  have HC := Lib.hid (fun w => eqContent_c k v w)
  unfold nodeV
  go_enter Tryd.func44, Tryd.ntmps44
  go_wp2_with fail
  refine (HC.out _).mono ?_
  rintro e W1 ⟨rfl, hb1⟩
  have HB := Lib.hid (below_next (below_next (below_box _ _) (below_box _ _)) hb1)
  clear hb1
  go_wp2
  go_ret
  exact ⟨rfl, HB.out⟩

def EqRel (len : Nat) (W : World) (i : Value) (wr : World) : Prop := ∃ n : Nat, i = .int .i64 n ∧ n ≤ len ∧ Hid (Below W.heap.size W wr)

set_option maxHeartbeats 2000000 in
set_option maxRecDepth 100000 in
theorem eqNodeS_c (a1 a2 : Option Addr) (len c1 c2 : Nat) (ns : List Nd) (hl : len ≤ 2097152) (W : World) (h1 : NodesAt W a1 len ns) (h2 : NodesAt W a2 len ns) :
    Calls Tryd.prog 22 #[.slice a1 len c1, .slice a2 len c2] W (BoolPost true W) := by
  have H1 := Lib.hid h1
  have H2 := Lib.hid h2
  have HC := Lib.hid (fun n w => eqNode_c n w)
  unfold nodeV at HC
  have hl' : (len : Int) ≤ 2097152 := by omega
  clear h1 h2
  go_enter Tryd.func22, Tryd.ntmps22
  go_wp2
  go_loopw [5] (fun i wr => EqRel len W i wr) (fun i _ => len - (intOf i).toNat)
  case atStart => exact ⟨0, rfl, by omega, Below.refl _ _⟩
  case round =>
    obtain ⟨i, rfl, hi, HB⟩ := hrel
    by_cases hlt : i < len
    · obtain ⟨b, off, n, HA1, hn1, c0, c1, c2⟩ := (H1.out.keep HB.out).node hlt
      obtain ⟨b', off', n', HA2, hn2, d0, d1, d2⟩ := (H2.out.keep HB.out).node hlt
      obtain rfl : n' = n := by rw [hn1] at hn2; exact (Option.some.inj hn2).symm
      have hlt' : (i : Int) < len := by omega
      have hil : (i : Int) ≤ 2097152 := by omega
      have HLT := Lib.hid hlt
      obtain rfl := HA1
      obtain rfl := HA2
      obtain ⟨p, k, v⟩ := n'
      simp only at c0 c1 c2 d0 d1 d2
      have HS0 := Lib.hid (show wr.drew.cell? ⟨b, off + i * 3, none⟩ = some (.string p) ∧ wr.drew.cell? ⟨b, off + i * 3 + 1, none⟩ = some (.int .i64 k) ∧ wr.drew.cell? ⟨b, off + i * 3 + 2, none⟩ = some (.int .i64 v) ∧
        wr.drew.cell? ⟨b', off' + i * 3, none⟩ = some (.string p) ∧ wr.drew.cell? ⟨b', off' + i * 3 + 1, none⟩ = some (.int .i64 k) ∧ wr.drew.cell? ⟨b', off' + i * 3 + 2, none⟩ = some (.int .i64 v) from ⟨c0, c1, c2, d0, d1, d2⟩)
      have HCX := Lib.hid (HC.out ⟨p, k, v⟩ wr.drew)
      clear hlt hi hn1 hn2
      go_upto_region 6 with (fail)
      refine wp_region_held_drew (S := (fun w' => w'.cell? ⟨b, off + i * 3, none⟩ = some (.string p) ∧ w'.cell? ⟨b, off + i * 3 + 1, none⟩ = some (.int .i64 k) ∧ w'.cell? ⟨b, off + i * 3 + 2, none⟩ = some (.int .i64 v) ∧ w'.cell? ⟨b', off' + i * 3, none⟩ = some (.string p) ∧ w'.cell? ⟨b', off' + i * 3 + 1, none⟩ = some (.int .i64 k) ∧ w'.cell? ⟨b', off' + i * 3 + 2, none⟩ = some (.int .i64 v))) (by kernel_rfl) HS0.out (fun hH => ?_)
      refine wpAnyH_take (i := 0) (oi := _) (v := ?_) rfl (by kernel_rfl) (by kernel_rfl) (by kernel_rfl) (fun _ _ _ h => h) (Or.inl ⟨by rfl, ?_⟩) (by assumption) ?_
      rotate_left
      · (intro w hSw; (try dsimp only at hSw); go_simp; try with_reducible rfl)
      try simp only [Act.put, List.getElem_toArray, List.getElem_cons_zero, List.setIfInBounds_toArray, List.set_cons_zero, List.set_cons_succ]
      refine wpAnyH_take (i := 1) (oi := _) (v := ?_) rfl (by kernel_rfl) (by kernel_rfl) (by kernel_rfl) (fun _ _ _ h => h) (Or.inl ⟨by rfl, ?_⟩) (by assumption) ?_
      rotate_left
      · (intro w hSw; (try dsimp only at hSw); go_simp; try with_reducible rfl)
      try simp only [Act.put, List.getElem_toArray, List.getElem_cons_zero, List.getElem_cons_succ, List.setIfInBounds_toArray, List.set_cons_zero, List.set_cons_succ]
      refine wpAnyH_take (i := 2) (oi := _) (v := ?_) rfl (by kernel_rfl) (by kernel_rfl) (by kernel_rfl) (fun _ _ _ h => h) (Or.inl ⟨by rfl, ?_⟩) (by assumption) ?_
      rotate_left
      · (intro w hSw; (try dsimp only at hSw); go_simp; try with_reducible rfl)
      try simp only [Act.put, List.getElem_toArray, List.getElem_cons_zero, List.getElem_cons_succ, List.setIfInBounds_toArray, List.set_cons_zero, List.set_cons_succ]
      refine wpAnyH_take (i := 3) (oi := _) (v := ?_) rfl (by kernel_rfl) (by kernel_rfl) (by kernel_rfl) (fun _ _ _ h => h) (Or.inl ⟨by rfl, ?_⟩) (by assumption) ?_
      rotate_left
      · (intro w hSw; (try dsimp only at hSw); go_simp; try with_reducible rfl)
      try simp only [Act.put, List.getElem_toArray, List.getElem_cons_zero, List.getElem_cons_succ, List.setIfInBounds_toArray, List.set_cons_zero, List.set_cons_succ]
      refine wpAnyH_take (i := 4) (oi := _) (v := ?_) rfl (by kernel_rfl) (by kernel_rfl) (by kernel_rfl) (fun _ _ _ h => h) (Or.inl ⟨by rfl, ?_⟩) (by assumption) ?_
      rotate_left
      · (intro w hSw; (try dsimp only at hSw); go_simp; try with_reducible rfl)
      try simp only [Act.put, List.getElem_toArray, List.getElem_cons_zero, List.getElem_cons_succ, List.setIfInBounds_toArray, List.set_cons_zero, List.set_cons_succ]
      refine wpAnyH_take (i := 5) (oi := _) (v := ?_) rfl (by kernel_rfl) (by kernel_rfl) (by kernel_rfl) (fun _ _ _ h => h) (Or.inl ⟨by rfl, ?_⟩) (by assumption) ?_
      rotate_left
      · (intro w hSw; (try dsimp only at hSw); go_simp; try with_reducible rfl)
      try simp only [Act.put, List.getElem_toArray, List.getElem_cons_zero, List.getElem_cons_succ, List.setIfInBounds_toArray, List.set_cons_zero, List.set_cons_succ]
      refine wpAnyH_take (i := 6) (oi := _) (v := ?_) rfl (by kernel_rfl) (by kernel_rfl) (by kernel_rfl) (fun _ _ _ h => h) (Or.inl ⟨by rfl, ?_⟩) (by assumption) ?_
      rotate_left
      · (intro w hSw; (try dsimp only at hSw); go_simp; try with_reducible rfl)
      try simp only [Act.put, List.getElem_toArray, List.getElem_cons_zero, List.getElem_cons_succ, List.setIfInBounds_toArray, List.set_cons_zero, List.set_cons_succ]
      refine wpAnyH_take (i := 7) (oi := _) (v := ?_) rfl (by kernel_rfl) (by kernel_rfl) (by kernel_rfl) (fun _ _ _ h => h) (Or.inl ⟨by rfl, ?_⟩) (by assumption) ?_
      rotate_left
      · (intro w hSw; (try dsimp only at hSw); go_simp; try with_reducible rfl)
      try simp only [Act.put, List.getElem_toArray, List.getElem_cons_zero, List.getElem_cons_succ, List.setIfInBounds_toArray, List.set_cons_zero, List.set_cons_succ]
      refine wpAnyH_ready (rs := [8]) (by kernel_rfl) (by simp) ?_
      refine AllReadyH.cons rfl (fun K hK => ?_) (AllReadyH.nil)
      go_simp
      go_at_call 44; (with_reducible refine (HCX.out).mono ?_); rintro e W7 ⟨rfl, hb7⟩
      refine hK.out _ _ ⟨cell_kept hb7 HS0.out.1, cell_kept hb7 HS0.out.2.1, cell_kept hb7 HS0.out.2.2.1, cell_kept hb7 HS0.out.2.2.2.1, cell_kept hb7 HS0.out.2.2.2.2.1, cell_kept hb7 HS0.out.2.2.2.2.2⟩ (fun hHeld => ?_)
      try simp only [Act.put, List.getElem_toArray, List.getElem_cons_zero, List.getElem_cons_succ, List.setIfInBounds_toArray, List.set_cons_zero, List.set_cons_succ]
      have H7 := Lib.hid (below_next (show Below W.heap.size W wr.drew from HB.out.drew) hb7)
      refine wpAnyH_take (i := 9) (oi := _) (v := ?_) rfl (by kernel_rfl) (by kernel_rfl) (by kernel_rfl) (fun _ _ _ h => h) (Or.inl ⟨by rfl, ?_⟩) (by assumption) ?_
      rotate_left
      · (intro w hSw; (try dsimp only at hSw); go_simp; try with_reducible rfl)
      try simp only [Act.put, List.getElem_toArray, List.getElem_cons_zero, List.getElem_cons_succ, List.setIfInBounds_toArray, List.set_cons_zero, List.set_cons_succ]
      refine wpAnyH_done (by kernel_rfl) ?_ _
      go_wp2
      go_roundw
      case rel => exact ⟨i + 1, by go_num, by have := HLT.out; omega, H7.out⟩
      case measure => have := HLT.out; simp [intOf]; omega
    · have hge : (len : Int) ≤ i := by omega
      clear hlt
      go_wp2
      go_ret
      exact ⟨rfl, HB.out⟩

end Go.Proofs.YtkaokncaockjkaaDoor

/-
  WALKS: laws.markText, markNodeS, markStringS, heldNodeS, heldStringS, eqStringS: what a test writes into memory of the program's, and finds again.
-/
namespace Go.Proofs.YtkaokncaockjkaaDoor
open Go.RowKit
set_option linter.unusedVariables false

/-- The digits of a number, ahead of a text. -/
def digs : Nat → Nat → ByteArray → ByteArray
  | 0, _, out => out
  | f + 1, k, out => if k = 0 then out else digs f (k / 10) (⟨#[UInt8.ofNat (48 + k % 10)]⟩ ++ out)

/-- The text of a mark. -/
def mtext (k : Nat) : ByteArray := ⟨#[109]⟩ ++ digs k k ⟨#[]⟩

theorem digs_zero (f : Nat) (out : ByteArray) : digs f 0 out = out := by cases f <;> simp [digs]
theorem digs_more : ∀ (f g k : Nat) (out : ByteArray), k ≤ f → k ≤ g → digs f k out = digs g k out
  | 0, g, k, out, h, _ => by rw [show k = 0 by omega, digs_zero, digs_zero]
  | f + 1, 0, k, out, _, h => by rw [show k = 0 by omega, digs_zero, digs_zero]
  | f + 1, g + 1, k, out, h1, h2 => by
    unfold digs
    split
    · rfl
    · exact digs_more f g _ _ (by omega) (by omega)
theorem digs_step {k : Nat} (out : ByteArray) (hk : 0 < k) : digs k k out = digs (k / 10) (k / 10) (⟨#[UInt8.ofNat (48 + k % 10)]⟩ ++ out) := by
  obtain ⟨f, rfl⟩ : ∃ f, k = f + 1 := ⟨k - 1, by omega⟩
  conv => lhs; unfold digs
  rw [if_neg (by omega)]
  exact digs_more _ _ _ _ (by omega) (by omega)

theorem convByte (w : World) (r : Nat) (hr : r ≤ 9) : (convert 22 9 (.slice (some ⟨w.heap.size, 0, none⟩) 1 1)).run Tryd.prog (w.alloc (.cells #[.int .u8 (48 + (r : Int))] 5)) =
    .ok (.string ⟨#[UInt8.ofNat (48 + r)]⟩) (w.alloc (.cells #[.int .u8 (48 + (r : Int))] 5)) := by
  rw [run_convert_bytes_string _ _ _ _ _ _ _ Tryd.underlying22 Tryd.underlying5 Tryd.underlying9, run_bytesToString _ _ _ _ [48 + (r : Int)] ?_]
  · simp only [List.foldl_cons, List.foldl_nil]
    have : (48 + (r : Int)).toNat = 48 + r := by omega
    rw [this]; rfl
  · simp [loadCells, go_sem, Addr.add]

def MarkRel (k0 : Nat) (W : World) (kv o : Value) (wr : World) : Prop :=
  ∃ (k : Nat) (out : ByteArray), kv = .int .i64 k ∧ o = .string out ∧ out.size + k ≤ k0 ∧ Hid (digs k k out = digs k0 k0 ⟨#[]⟩) ∧ Hid (Below W.heap.size W wr)

set_option maxHeartbeats 2000000 in
set_option maxRecDepth 100000 in
theorem markText_c (k0 : Nat) (h1 : 1 ≤ k0) (h2 : k0 ≤ 1099511627776) (W : World) :
    Calls Tryd.prog 46 #[.int .i64 k0] W fun e W' => e = .returned (.string (mtext k0)) ∧ Below W.heap.size W W' := by
  have hp : (0 : Int) < k0 := by omega
  go_enter Tryd.func46, Tryd.ntmps46
  go_wp2
  go_loopw [0, 3] (fun kv o wr => MarkRel k0 W kv o wr) (fun kv _ _ => (intOf kv).toNat)
  case atStart => exact ⟨k0, ⟨#[]⟩, rfl, rfl, by show 0 + k0 ≤ k0; omega, rfl, Below.refl _ _⟩
  case round =>
    obtain ⟨k, out, rfl, rfl, hsz, HD, HB⟩ := hrel
    by_cases hk : 0 < k
    · have hk' : (0 : Int) < k := by omega
      have hkm : (k : Int) ≤ 1099511627776 := by omega
      obtain ⟨r, hr⟩ : ∃ r, r = k % 10 := ⟨_, rfl⟩
      obtain ⟨q, hq⟩ : ∃ q, q = k / 10 := ⟨_, rfl⟩
      have hr0 : (k : Int).tmod 10 = (r : Int) := by rw [hr]; rfl
      have hq0 : (k : Int).tdiv 10 = (q : Int) := by rw [hq]; rfl
      have hr9 : (r : Int) ≤ 9 := by omega
      have hqk : q < k := by omega
      have hqm : (q : Int) ≤ 1099511627776 := by omega
      have HSZ := Lib.hid hsz
      have HQK := Lib.hid hqk
      have HDS := Lib.hid (show digs k k out = digs q q (⟨#[UInt8.ofNat (48 + r)]⟩ ++ out) by rw [hr, hq]; exact digs_step out hk)
      have hos : out.size ≤ 1099511627776 := by omega
      have hcv := convByte wr r (by omega)
      clear hk hsz hr hq hqk
      go_wp2
      have he : (48 + UInt8.ofNat r) = UInt8.ofNat (48 + r) := by rw [UInt8.ofNat_add]; rfl
      rw [he]
      go_roundw
      case rel =>
        refine ⟨q, ⟨#[UInt8.ofNat (48 + r)]⟩ ++ out, rfl, rfl, ?_, ?_, below_next HB.out (below_box _ _)⟩
        · rw [ByteArray.size_append]
          have h5 := HSZ.out
          have h6 := HQK.out
          show 1 + out.size + q ≤ k0
          omega
        · show _ = _
          rw [← HDS.out]; exact HD.out
      case measure => have := HQK.out; simp [intOf]; omega
    · have hk0 : k = 0 := by omega
      subst hk0
      have hos : out.size ≤ 1099511627776 := by omega
      have HE := Lib.hid (show ⟨#[109]⟩ ++ out = mtext k0 by unfold mtext; rw [← HD.out, digs_zero])
      clear hsz hk
      go_wp2
      refine bodyPost_ret (v := .string (⟨#[109]⟩ ++ out)) (by simp [results, Tryd.f46, go_sem]) rfl ⟨by rw [HE.out], HB.out⟩

/-! ## Lists of nodes -/

/-- The nodes that a test writes. -/
def markN (n : Nat) : List Nd := (List.range n).map (fun i => ⟨mtext (1 + 3 * i), 1 + 3 * (i : Int) + 1, 1 + 3 * (i : Int) + 1 + 1⟩)
theorem markN_len (n : Nat) : (markN n).length = n := by simp [markN]
theorem markN_get {n i : Nat} (h : i < n) : (markN n)[i]? = some ⟨mtext (1 + 3 * i), 1 + 3 * (i : Int) + 1, 1 + 3 * (i : Int) + 1 + 1⟩ := by
  unfold markN; rw [List.getElem?_map, List.getElem?_range h]; rfl

def MarkedRel (len base : Nat) (v : Value) (W : World) (kv i : Value) (wr : World) : Prop :=
  ∃ (n : Nat) (zs : List Value), i = .int .i64 n ∧ kv = .int .i64 (1 + 3 * (n : Int)) ∧ n ≤ len ∧ zs.length = (len - n) * 3 ∧ wr.ownsRow base 60 3 v len (flatN ((markN len).take n) ++ zs) ∧ Hid (W.grownBy wr v.ownBlock)

theorem _root_.Go.World.grownBy.set {A B : World} {g : Nat} {n cap : Nat} (h : A.grownBy B (Value.slice (some ⟨g, 0, none⟩) n cap).ownBlock) (g' i : Nat) (hg : g' = g) (u : Value) : A.grownBy (B.setCell ⟨g', i, none⟩ u) (Value.slice (some ⟨g, 0, none⟩) n cap).ownBlock := by
  subst hg
  exact ⟨h.os, h.tape, h.output, by (have hz : (B.setCell ⟨g', i, none⟩ u).heap.size = B.heap.size := by simp [World.setCell]); (rw [hz]); exact h.size, fun k hk hr => (Below.heap_setCell _ _ _ _ (fun e => hr (by rw [e]; rfl))).trans (h.block k hk hr)⟩

theorem grown_next {A B C : World} {row : Option Nat} (h : A.grownBy B row) (k : Below B.heap.size B C) : A.grownBy C row :=
  ⟨k.os.trans h.os, k.tape.trans h.tape, k.output.trans h.output, Nat.le_trans h.size k.size, fun i hi hr => (k.block i (by have := h.size; omega)).trans (h.block i hi hr)⟩

set_option maxHeartbeats 2000000 in
set_option maxRecDepth 100000 in
theorem markNodeS_c (v : Value) (base len : Nat) (xs : List Value) (hl : len ≤ 2097152) (W : World) (h : W.ownsRow base 60 3 v len xs) :
    Calls Tryd.prog 24 #[v, .int .i64 1] W fun e W' => e = .returned (.int .i64 (1 + 3 * (len : Int))) ∧ W.grownBy W' v.ownBlock ∧ W'.ownsRow base 60 3 v len (flatN (markN len)) := by
  have HX := Lib.hid h
  have hxl := h.1
  have HMT := Lib.hid (fun k (h1 : 1 ≤ k) (h2 : k ≤ 1099511627776) w => markText_c k h1 h2 w)
  obtain ⟨a, cap, hv⟩ : ∃ a cap, v = .slice a len cap := by
    rcases own_cases h with ⟨h1, h2⟩ | ⟨g, cap, h1⟩
    · exact ⟨none, 0, by rw [h1, h2]⟩
    · exact ⟨_, cap, h1⟩
  have hl' : (len : Int) ≤ 2097152 := by omega
  clear h
  subst hv
  go_enter Tryd.func24, Tryd.ntmps24
  go_wp2
  go_loopw [1, 5] (fun kv i wr => MarkedRel len base (.slice a len cap) W kv i wr) (fun _ i _ => len - (intOf i).toNat)
  case atStart => exact ⟨0, xs, rfl, rfl, by omega, by rw [hxl]; rfl, HX.out, ⟨rfl, rfl, rfl, Nat.le_refl _, fun _ _ _ => rfl⟩⟩
  case round =>
    obtain ⟨i, zs, rfl, rfl, hi, hzl, hown, HG⟩ := hrel
    by_cases hlt : i < len
    · have hlt' : (i : Int) < len := by omega
      have hil : (i : Int) ≤ 2097152 := by omega
      have HLT := Lib.hid hlt
      have HZ := Lib.hid (And.intro hzl (show 3 ≤ zs.length by omega))
      rcases own_cases hown with ⟨_, h2⟩ | ⟨g, cap', h2⟩
      · omega
      simp at h2
      obtain ⟨rfl, rfl⟩ := h2
      have HO := Lib.hid hown
      have HM := Lib.hid (show Calls Tryd.prog 46 #[.int .i64 (1 + 3 * (i : Int))] wr (fun e W' => e = .returned (.string (mtext (1 + 3 * i))) ∧ Below wr.heap.size wr W') by have := HMT.out (1 + 3 * i) (by omega) (by omega) wr; rwa [show ((1 + 3 * i : Nat) : Int) = 1 + 3 * (i : Int) by push_cast; rfl] at this)
      clear hi hlt hzl hown
      go_wp2_with fail
      refine HM.out.mono ?_
      rintro e W2 ⟨rfl, hb2⟩
      have HO2 := Lib.hid (own_below HO.out hb2)
      have HG2 := Lib.hid (grown_next HG.out hb2)
      have hll : (flatN ((markN len).take i)).length = i * 3 := by rw [flatN_length, List.length_take, markN_len]; have := HLT.out; omega
      have cell : ∀ j, j < 3 → ∃ u, W2.cell? ⟨g, i * 3 + j, none⟩ = some u := by
        intro j hj
        have hx := HZ.out.1
        have hy := HLT.out
        rw [HO2.out.cellAt _ (by omega)]
        exact ⟨_, List.getElem?_eq_getElem (by rw [List.length_append, hll]; omega)⟩
      obtain ⟨u0, e0⟩ := cell 0 (by omega)
      replace e0 : W2.cell? ⟨g, i * 3, none⟩ = some u0 := e0
      obtain ⟨u1, e1⟩ := cell 1 (by omega)
      obtain ⟨u2, e2⟩ := cell 2 (by omega)
      have y0 := HO2.out.frozenAt (i * 3)
      have y1 := HO2.out.frozenAt (i * 3 + 1)
      have y2 := HO2.out.frozenAt (i * 3 + 2)
      generalize hmt : mtext (1 + 3 * i) = mt
      have HMTX := Lib.hid hmt
      clear cell hll hb2 hmt
      go_wp2
      have HS3 := stored3 HO2.out (i * 3) (.string mt) (.int .i64 (1 + 3 * (i : Int) + 1)) (.int .i64 (1 + 3 * (i : Int) + 1 + 1))
      rw [← HMTX.out, flatN_take_set (markN len) i _ zs (markN_get HLT.out) HZ.out.2] at HS3
      go_roundw
      case rel =>
        refine ⟨i + 1, zs.drop 3, by push_cast; rfl, by rw [show 1 + 3 * ((i + 1 : Nat) : Int) = 1 + 3 * (i : Int) + 1 + 1 + 1 by omega], by have := HLT.out; omega, by rw [List.length_drop]; have h1 := HZ.out.1; have h2 := HZ.out.2; have h3 := HLT.out; omega, ?_, ?_⟩
        · rw [← HMTX.out]; exact HS3
        · exact ((HG2.out.set _ _ rfl _).set _ _ rfl _).set _ _ rfl _
      case measure => have := HLT.out; simp [intOf]; omega
    · have hge : (len : Int) ≤ i := by omega
      have hie : i = len := by omega
      have hz0' : zs = [] := List.eq_nil_of_length_eq_zero (by omega)
      subst hz0'
      subst hie
      rw [List.append_nil, List.take_of_length_le (by rw [markN_len]; omega)] at hown
      clear hi hlt
      go_wp2
      refine bodyPost_ret (v := .int .i64 (1 + 3 * (i : Int))) (by simp [results, Tryd.f24, go_sem]) rfl ⟨rfl, HG.out, hown⟩


def HeldRel (len st : Nat) (W : World) (kv i : Value) (wr : World) : Prop :=
  ∃ n : Nat, i = .int .i64 n ∧ kv = .int .i64 (1 + (st : Int) * (n : Int)) ∧ n ≤ len ∧ Hid (Below W.heap.size W wr)

set_option maxHeartbeats 2000000 in
set_option maxRecDepth 100000 in
theorem heldNodeS_c (a : Option Addr) (len cap : Nat) (hl : len ≤ 2097152) (W : World) (hN : NodesAt W a len (markN len)) :
    Calls Tryd.prog 26 #[.slice a len cap, .int .i64 1] W fun e W' => e = .returned (.int .i64 (1 + 3 * (len : Int))) ∧ Below W.heap.size W W' := by
  have HN := Lib.hid hN
  have HMT := Lib.hid (fun k (h1 : 1 ≤ k) (h2 : k ≤ 1099511627776) w => markText_c k h1 h2 w)
  have hl' : (len : Int) ≤ 2097152 := by omega
  clear hN
  go_enter Tryd.func26, Tryd.ntmps26
  go_wp2
  go_loopw [1, 5] (fun kv i wr => HeldRel len 3 W kv i wr) (fun _ i _ => len - (intOf i).toNat)
  case atStart => exact ⟨0, rfl, rfl, by omega, Below.refl _ _⟩
  case round =>
    obtain ⟨i, rfl, rfl, hi, HB⟩ := hrel
    by_cases hlt : i < len
    · obtain ⟨b, off, n, rfl, hn, c0, c1, c2⟩ := (HN.out.keep HB.out).node hlt
      have hlt' : (i : Int) < len := by omega
      have hil : (i : Int) ≤ 2097152 := by omega
      have HLT := Lib.hid hlt
      rw [markN_get hlt] at hn
      obtain rfl := Option.some.inj hn
      have HM := Lib.hid (show Calls Tryd.prog 46 #[.int .i64 (1 + 3 * (i : Int))] wr.drew (fun e W' => e = .returned (.string (mtext (1 + 3 * i))) ∧ Below wr.drew.heap.size wr.drew W') by have := HMT.out (1 + 3 * i) (by omega) (by omega) wr.drew; rwa [show ((1 + 3 * i : Nat) : Int) = 1 + 3 * (i : Int) by push_cast; rfl] at this)
      simp only at c0 c1 c2
      generalize hmt : mtext (1 + 3 * i) = mt at HM c0
      have HS0 := Lib.hid (show wr.drew.cell? ⟨b, off + i * 3, none⟩ = some (.string mt) ∧ wr.drew.cell? ⟨b, off + i * 3 + 1, none⟩ = some (.int .i64 (1 + 3 * (i : Int) + 1)) ∧ wr.drew.cell? ⟨b, off + i * 3 + 2, none⟩ = some (.int .i64 (1 + 3 * (i : Int) + 1 + 1)) from ⟨c0, c1, c2⟩)
      clear hlt hi hn hmt
      rw [show ((3 : Nat) : Int) = 3 from rfl]
      go_upto_region 4 with (fail)
      refine wp_region_held_drew (S := (fun w' => w'.cell? ⟨b, off + i * 3, none⟩ = some (.string mt) ∧ w'.cell? ⟨b, off + i * 3 + 1, none⟩ = some (.int .i64 (1 + 3 * (i : Int) + 1)) ∧ w'.cell? ⟨b, off + i * 3 + 2, none⟩ = some (.int .i64 (1 + 3 * (i : Int) + 1 + 1)))) (by kernel_rfl) HS0.out (fun hH => ?_)
      refine wpAnyH_take (i := 0) (oi := _) (v := ?_) rfl (by kernel_rfl) (by kernel_rfl) (by kernel_rfl) (fun _ _ _ h => h) (Or.inl ⟨by rfl, ?_⟩) (by assumption) ?_
      rotate_left
      · (intro w hSw; (try dsimp only at hSw); go_simp; try with_reducible rfl)
      try simp only [Act.put, List.getElem_toArray, List.getElem_cons_zero, List.setIfInBounds_toArray, List.set_cons_zero, List.set_cons_succ]
      refine wpAnyH_take (i := 1) (oi := _) (v := ?_) rfl (by kernel_rfl) (by kernel_rfl) (by kernel_rfl) (fun _ _ _ h => h) (Or.inl ⟨by rfl, ?_⟩) (by assumption) ?_
      rotate_left
      · (intro w hSw; (try dsimp only at hSw); go_simp; try with_reducible rfl)
      try simp only [Act.put, List.getElem_toArray, List.getElem_cons_zero, List.getElem_cons_succ, List.setIfInBounds_toArray, List.set_cons_zero, List.set_cons_succ]
      refine wpAnyH_take (i := 2) (oi := _) (v := ?_) rfl (by kernel_rfl) (by kernel_rfl) (by kernel_rfl) (fun _ _ _ h => h) (Or.inl ⟨by rfl, ?_⟩) (by assumption) ?_
      rotate_left
      · (intro w hSw; (try dsimp only at hSw); go_simp; try with_reducible rfl)
      try simp only [Act.put, List.getElem_toArray, List.getElem_cons_zero, List.getElem_cons_succ, List.setIfInBounds_toArray, List.set_cons_zero, List.set_cons_succ]
      refine wpAnyH_take (i := 3) (oi := _) (v := ?_) rfl (by kernel_rfl) (by kernel_rfl) (by kernel_rfl) (fun _ _ _ h => h) (Or.inl ⟨by rfl, ?_⟩) (by assumption) ?_
      rotate_left
      · (intro w hSw; (try dsimp only at hSw); go_simp; try with_reducible rfl)
      try simp only [Act.put, List.getElem_toArray, List.getElem_cons_zero, List.getElem_cons_succ, List.setIfInBounds_toArray, List.set_cons_zero, List.set_cons_succ]
      refine wpAnyH_take (i := 4) (oi := _) (v := ?_) rfl (by kernel_rfl) (by kernel_rfl) (by kernel_rfl) (fun _ _ _ h => h) (Or.inl ⟨by rfl, ?_⟩) (by assumption) ?_
      rotate_left
      · (intro w hSw; (try dsimp only at hSw); go_simp; try with_reducible rfl)
      try simp only [Act.put, List.getElem_toArray, List.getElem_cons_zero, List.getElem_cons_succ, List.setIfInBounds_toArray, List.set_cons_zero, List.set_cons_succ]
      refine wpAnyH_take (i := 5) (oi := _) (v := ?_) rfl (by kernel_rfl) (by kernel_rfl) (by kernel_rfl) (fun _ _ _ h => h) (Or.inl ⟨by rfl, ?_⟩) (by assumption) ?_
      rotate_left
      · (intro w hSw; (try dsimp only at hSw); go_simp; try with_reducible rfl)
      try simp only [Act.put, List.getElem_toArray, List.getElem_cons_zero, List.getElem_cons_succ, List.setIfInBounds_toArray, List.set_cons_zero, List.set_cons_succ]
      refine wpAnyH_ready (rs := [6]) (by kernel_rfl) (by simp) ?_
      refine AllReadyH.cons rfl (fun K hK => ?_) (AllReadyH.nil)
      go_simp
      go_at_call 46; (with_reducible refine (HM.out).mono ?_); rintro e W7 ⟨rfl, hb7⟩
      refine hK.out _ _ ⟨cell_kept hb7 HS0.out.1, cell_kept hb7 HS0.out.2.1, cell_kept hb7 HS0.out.2.2⟩ (fun hHeld => ?_)
      try simp only [Act.put, List.getElem_toArray, List.getElem_cons_zero, List.getElem_cons_succ, List.setIfInBounds_toArray, List.set_cons_zero, List.set_cons_succ]
      have H7 := Lib.hid (below_next (show Below W.heap.size W wr.drew from HB.out.drew) hb7)
      have v1 := cell_kept hb7 HS0.out.2.1
      have v2 := cell_kept hb7 HS0.out.2.2
      refine wpAnyH_take (i := 7) (oi := _) (v := ?_) rfl (by kernel_rfl) (by kernel_rfl) (by kernel_rfl) (fun _ _ _ h => h) (Or.inl ⟨by rfl, ?_⟩) (by assumption) ?_
      rotate_left
      · (intro w hSw; (try dsimp only at hSw); go_simp; try with_reducible rfl)
      try simp only [Act.put, List.getElem_toArray, List.getElem_cons_zero, List.getElem_cons_succ, List.setIfInBounds_toArray, List.set_cons_zero, List.set_cons_succ]
      refine wpAnyH_done (by kernel_rfl) ?_ _
      clear c0 c1 c2 hb7
      go_wp2
      go_roundw
      case rel => exact ⟨i + 1, by push_cast; rfl, by rw [show 1 + ((3 : Nat) : Int) * ((i + 1 : Nat) : Int) = 1 + 3 * (i : Int) + 1 + 1 + 1 by omega], by have := HLT.out; omega, H7.out⟩
      case measure => have := HLT.out; simp [intOf]; omega
    · have hge : (len : Int) ≤ i := by omega
      have hie : i = len := by omega
      subst hie
      clear hi hlt
      go_wp2
      refine bodyPost_ret (v := .int .i64 (1 + ((3 : Nat) : Int) * (i : Int))) (by simp [results, Tryd.f26, go_sem]) rfl ⟨rfl, HB.out⟩

/-! ## Lists of texts -/

def markS (n : Nat) : List ByteArray := (List.range n).map (fun i => mtext (1 + i))
theorem markS_len (n : Nat) : (markS n).length = n := by simp [markS]
theorem markS_get {n i : Nat} (h : i < n) : (markS n)[i]? = some (mtext (1 + i)) := by
  unfold markS; rw [List.getElem?_map, List.getElem?_range h]; rfl

def MarkedSRel (len base : Nat) (v : Value) (W : World) (kv i : Value) (wr : World) : Prop :=
  ∃ (n : Nat) (zs : List Value), i = .int .i64 n ∧ kv = .int .i64 (1 + (n : Int)) ∧ n ≤ len ∧ zs.length = len - n ∧ wr.ownsRow base 9 1 v len (((markS len).take n).map Value.string ++ zs) ∧ Hid (W.grownBy wr v.ownBlock)

theorem take_set_one {α : Type} (l : List α) (i : Nat) (x : α) (zs : List α) (h : l.length = i) (hz : 1 ≤ zs.length) : (l ++ zs).set i x = (l ++ [x]) ++ zs.drop 1 := by
  match zs, hz with
  | a :: r, _ =>
    rw [List.set_append_right _ _ (by omega), h, Nat.sub_self]
    simp

def HeldSRel (len : Nat) (W : World) (kv i : Value) (wr : World) : Prop :=
  ∃ n : Nat, i = .int .i64 n ∧ kv = .int .i64 (1 + (n : Int)) ∧ n ≤ len ∧ Hid (Below W.heap.size W wr)

end Go.Proofs.YtkaokncaockjkaaDoor

/-
  WALKS: laws.markCommandS (from any number on), laws.heldCommandS.
-/
namespace Go.Proofs.YtkaokncaockjkaaDoor
open Go.RowKit
set_option linter.unusedVariables false

/-- The commands that a test writes. -/
def markCK (k0 n : Nat) : List Cmd := (List.range n).map (fun i => ⟨mtext (k0 + 5 * i), (k0 : Int) + 5 * (i : Int) + 1, (k0 : Int) + 5 * (i : Int) + 1 + 1, (k0 : Int) + 5 * (i : Int) + 1 + 1 + 1, (k0 : Int) + 5 * (i : Int) + 1 + 1 + 1 + 1⟩)
theorem markCK_len (k0 n : Nat) : (markCK k0 n).length = n := by simp [markCK]
theorem markCK_get {k0 n i : Nat} (h : i < n) : (markCK k0 n)[i]? = some ⟨mtext (k0 + 5 * i), (k0 : Int) + 5 * (i : Int) + 1, (k0 : Int) + 5 * (i : Int) + 1 + 1, (k0 : Int) + 5 * (i : Int) + 1 + 1 + 1, (k0 : Int) + 5 * (i : Int) + 1 + 1 + 1 + 1⟩ := by
  unfold markCK; rw [List.getElem?_map, List.getElem?_range h]; rfl

def MarkedCRel (k0 len base : Nat) (v : Value) (W : World) (kv i : Value) (wr : World) : Prop :=
  ∃ (n : Nat) (zs : List Value), i = .int .i64 n ∧ kv = .int .i64 ((k0 : Int) + 5 * (n : Int)) ∧ n ≤ len ∧ zs.length = (len - n) * 5 ∧ wr.ownsRow base 36 5 v len (flatC ((markCK k0 len).take n) ++ zs) ∧ Hid (W.grownBy wr v.ownBlock)

set_option maxHeartbeats 4000000 in
set_option maxRecDepth 100000 in
theorem markCommandS_c (v : Value) (base len k0 : Nat) (hk1 : 1 ≤ k0) (hk2 : k0 ≤ 1000000000) (xs : List Value) (hl : len ≤ 2097152) (W : World) (h : W.ownsRow base 36 5 v len xs) :
    Calls Tryd.prog 25 #[v, .int .i64 k0] W fun e W' => e = .returned (.int .i64 ((k0 : Int) + 5 * (len : Int))) ∧ W.grownBy W' v.ownBlock ∧ W'.ownsRow base 36 5 v len (flatC (markCK k0 len)) := by
  have HX := Lib.hid h
  have hxl := h.1
  have HMT := Lib.hid (fun k (h1 : 1 ≤ k) (h2 : k ≤ 1099511627776) w => markText_c k h1 h2 w)
  obtain ⟨a, cap, hv⟩ : ∃ a cap, v = .slice a len cap := by
    rcases own_cases h with ⟨h1, h2⟩ | ⟨g, cap, h1⟩
    · exact ⟨none, 0, by rw [h1, h2]⟩
    · exact ⟨_, cap, h1⟩
  have hl' : (len : Int) ≤ 2097152 := by omega
  have hk2' : (k0 : Int) ≤ 1000000000 := by omega
  have hk1' : (1 : Int) ≤ k0 := by omega
  clear h
  subst hv
  go_enter Tryd.func25, Tryd.ntmps25
  go_wp2
  go_loopw [1, 5] (fun kv i wr => MarkedCRel k0 len base (.slice a len cap) W kv i wr) (fun _ i _ => len - (intOf i).toNat)
  case atStart => exact ⟨0, xs, rfl, by simp, by omega, by rw [hxl]; rfl, HX.out, ⟨rfl, rfl, rfl, Nat.le_refl _, fun _ _ _ => rfl⟩⟩
  case round =>
    obtain ⟨i, zs, rfl, rfl, hi, hzl, hown, HG⟩ := hrel
    by_cases hlt : i < len
    · have hlt' : (i : Int) < len := by omega
      have hil : (i : Int) ≤ 2097152 := by omega
      have HLT := Lib.hid hlt
      have HZ := Lib.hid (And.intro hzl (show 5 ≤ zs.length by omega))
      rcases own_cases hown with ⟨_, h2⟩ | ⟨g, cap', h2⟩
      · omega
      simp at h2
      obtain ⟨rfl, rfl⟩ := h2
      have HO := Lib.hid hown
      have HM := Lib.hid (show Calls Tryd.prog 46 #[.int .i64 ((k0 : Int) + 5 * (i : Int))] wr (fun e W' => e = .returned (.string (mtext (k0 + 5 * i))) ∧ Below wr.heap.size wr W') by have := HMT.out (k0 + 5 * i) (by omega) (by omega) wr; rwa [show ((k0 + 5 * i : Nat) : Int) = (k0 : Int) + 5 * (i : Int) by push_cast; rfl] at this)
      clear hi hlt hzl hown
      go_wp2_with fail
      refine HM.out.mono ?_
      rintro e W2 ⟨rfl, hb2⟩
      have HO2 := Lib.hid (own_below HO.out hb2)
      have HG2 := Lib.hid (grown_next HG.out hb2)
      have hll : (flatC ((markCK k0 len).take i)).length = i * 5 := by rw [flatC_length, List.length_take, markCK_len]; have := HLT.out; omega
      have cell : ∀ j, j < 5 → ∃ u, W2.cell? ⟨g, i * 5 + j, none⟩ = some u := by
        intro j hj
        have hx := HZ.out.1
        have hy := HLT.out
        rw [HO2.out.cellAt _ (by omega)]
        exact ⟨_, List.getElem?_eq_getElem (by rw [List.length_append, hll]; omega)⟩
      obtain ⟨u0, e0⟩ := cell 0 (by omega)
      replace e0 : W2.cell? ⟨g, i * 5, none⟩ = some u0 := e0
      obtain ⟨u1, e1⟩ := cell 1 (by omega)
      obtain ⟨u2, e2⟩ := cell 2 (by omega)
      obtain ⟨u3, e3⟩ := cell 3 (by omega)
      obtain ⟨u4, e4⟩ := cell 4 (by omega)
      have y0 := HO2.out.frozenAt (i * 5)
      have y1 := HO2.out.frozenAt (i * 5 + 1)
      have y2 := HO2.out.frozenAt (i * 5 + 2)
      have y3 := HO2.out.frozenAt (i * 5 + 3)
      have y4 := HO2.out.frozenAt (i * 5 + 4)
      generalize hmt : mtext (k0 + 5 * i) = mt
      have HMTX := Lib.hid hmt
      clear cell hll hb2 hmt
      go_wp2
      have HS3 := stored5 HO2.out (i * 5) (.string mt) (.int .i64 ((k0 : Int) + 5 * (i : Int) + 1)) (.int .i64 ((k0 : Int) + 5 * (i : Int) + 1 + 1)) (.int .i64 ((k0 : Int) + 5 * (i : Int) + 1 + 1 + 1)) (.int .i64 ((k0 : Int) + 5 * (i : Int) + 1 + 1 + 1 + 1))
      rw [← HMTX.out, flatC_take_set (markCK k0 len) i _ zs (markCK_get HLT.out) HZ.out.2] at HS3
      go_roundw
      case rel =>
        refine ⟨i + 1, zs.drop 5, by push_cast; rfl, by rw [show (k0 : Int) + 5 * ((i + 1 : Nat) : Int) = (k0 : Int) + 5 * (i : Int) + 1 + 1 + 1 + 1 + 1 by omega], by have := HLT.out; omega, by rw [List.length_drop]; have h1 := HZ.out.1; have h2 := HZ.out.2; have h3 := HLT.out; omega, ?_, ?_⟩
        · rw [← HMTX.out]; exact HS3
        · exact ((((HG2.out.set _ _ rfl _).set _ _ rfl _).set _ _ rfl _).set _ _ rfl _).set _ _ rfl _
      case measure => have := HLT.out; simp [intOf]; omega
    · have hge : (len : Int) ≤ i := by omega
      have hie : i = len := by omega
      have hz0' : zs = [] := List.eq_nil_of_length_eq_zero (by omega)
      subst hz0'
      subst hie
      rw [List.append_nil, List.take_of_length_le (by rw [markCK_len]; omega)] at hown
      clear hi hlt
      go_wp2
      refine bodyPost_ret (v := .int .i64 ((k0 : Int) + 5 * (i : Int))) (by simp [results, Tryd.f25, go_sem]) rfl ⟨rfl, HG.out, hown⟩

def HeldCRel (len : Nat) (W : World) (kv i : Value) (wr : World) : Prop :=
  ∃ n : Nat, i = .int .i64 n ∧ kv = .int .i64 (1 + 5 * (n : Int)) ∧ n ≤ len ∧ Hid (Below W.heap.size W wr)

end Go.Proofs.YtkaokncaockjkaaDoor

/-
  AN ARGUMENT THAT IS A LIST OF NODES, opened to its cells.
-/
namespace Go.Proofs.YtkaokncaockjkaaDoor
open Go.ChangeShapes Go.WideShapes Go.Deep

theorem len_three {α : Type} : ∀ {l : List α}, l.length = 3 → ∃ a b c, l = [a, b, c]
  | [a, b, c], _ => ⟨a, b, c, rfl⟩
theorem len_two {α : Type} : ∀ {l : List α}, l.length = 2 → ∃ a b, l = [a, b]
  | [a, b], _ => ⟨a, b, rfl⟩

theorem spot_none {w : World} {a : Addr} {v : Value} (h : w.cell? a = some v) : a.spot = none := by
  unfold World.cell? at h
  split at h
  · split at h
    · cases h
    · rename_i hs; simpa using hs
  · cases h

section
variable {H : Type} {enc : TypeId × Value → H} {w : World} {base : Nat} {spare : Nat → Bool} {held : Bool}

theorem open_node {fuel : Nat} {cs : List Value} {x : DataW H × List MemPlace} (h : DataW.trod enc Tryd.prog w base spare held fuel 74 cs = some x) :
    ∃ n : Nd, cs = [.string n.p, .int .i64 n.k, .int .i64 n.v] ∧ n.p.size ≤ maxLen := by
  obtain ⟨xs, n, _, _, hl, hxl, hf⟩ := DataW.trod_struct Tryd.underlying74 h
  have hl3 : cs.length = 3 := hl.trans (by kernel_rfl)
  obtain ⟨c0, c1, c2, rfl⟩ : ∃ c0 c1 c2, cs = [c0, c1, c2] := len_three hl3
  obtain ⟨x0, x1, rfl⟩ : ∃ x0 x1, xs = [x0, x1] := len_two hxl
  have h0 : DataW.trod enc Tryd.prog w base spare held n 9 (([c0, c1, c2].drop 0).take (Tryd.prog.cellsOf 9)) = some x0 := hf 0 _ rfl
  have h1 : DataW.trod enc Tryd.prog w base spare held n 72 (([c0, c1, c2].drop 1).take (Tryd.prog.cellsOf 72)) = some x1 := hf 1 _ rfl
  rw [(by kernel_rfl : Tryd.prog.cellsOf 9 = 1)] at h0
  rw [(by kernel_rfl : Tryd.prog.cellsOf 72 = 2)] at h1
  obtain ⟨s, hs, _, hsz⟩ := DataW.trod_string Tryd.underlying9 (show DataW.trod enc Tryd.prog w base spare held n 9 [c0] = some x0 from h0)
  obtain ⟨ys, m, _, _, _, hyl, hg⟩ := DataW.trod_struct Tryd.underlying72 (show DataW.trod enc Tryd.prog w base spare held n 72 [c1, c2] = some x1 from h1)
  obtain ⟨y0, y1, rfl⟩ : ∃ y0 y1, ys = [y0, y1] := len_two hyl
  have h2 : DataW.trod enc Tryd.prog w base spare held m 3 (([c1, c2].drop 0).take (Tryd.prog.cellsOf 3)) = some y0 := hg 0 _ rfl
  have h3 : DataW.trod enc Tryd.prog w base spare held m 3 (([c1, c2].drop 1).take (Tryd.prog.cellsOf 3)) = some y1 := hg 1 _ rfl
  rw [(by kernel_rfl : Tryd.prog.cellsOf 3 = 1)] at h2
  rw [(by kernel_rfl : Tryd.prog.cellsOf 3 = 1)] at h3
  obtain ⟨k, hk, _⟩ := DataW.trod_int Tryd.underlying3 (show DataW.trod enc Tryd.prog w base spare held m 3 [c1] = some y0 from h2)
  obtain ⟨v, hv, _⟩ := DataW.trod_int Tryd.underlying3 (show DataW.trod enc Tryd.prog w base spare held m 3 [c2] = some y1 from h3)
  simp at hs hk hv
  subst hs; subst hk; subst hv
  exact ⟨⟨s, k, v⟩, rfl, hsz⟩

theorem open_nodes {fuel : Nat} {a : Option Addr} {len cap : Nat} {x : DataW H × List MemPlace} (h : DataW.trod enc Tryd.prog w base spare held fuel 40 [.slice a len cap] = some x) :
    ∃ ns : List Nd, NodesAt w a len ns ∧ len ≤ maxLen ∧ Short maxLen ns := by
  rcases open_slice Tryd.underlying40 h with ⟨h0, _⟩ | ⟨ad, len', cap', m, n, D, Pl, hcs, _, hl, hm, hmm, _, hi⟩
  · simp at h0
    obtain ⟨rfl, rfl, rfl⟩ := h0
    exact ⟨[], ⟨rfl, .inl rfl⟩, by unfold maxLen; omega, fun n hn => by cases hn⟩
  · simp at hcs
    obtain ⟨rfl, rfl, rfl⟩ := hcs
    have hlm : len ≤ m := by rw [hmm]; split <;> omega
    have hel : ∀ i, i < len → ∃ nd : Nd, w.cell? (ad.add (i * 3)) = some (.string nd.p) ∧ w.cell? (ad.add (i * 3 + 1)) = some (.int .i64 nd.k) ∧ w.cell? (ad.add (i * 3 + 2)) = some (.int .i64 nd.v) ∧ nd.p.size ≤ maxLen := by
      intro i hil
      obtain ⟨cs, hc, ht⟩ := hi i (by omega)
      rw [show Tryd.prog.cellsOf 74 = 3 by kernel_rfl] at hc
      obtain ⟨nd, rfl, hsz⟩ := open_node ht
      obtain ⟨_, hcl, hat⟩ := World.cells?_some hc
      refine ⟨nd, ?_, ?_, ?_, hsz⟩
      · have := hat 0 (by omega)
        rw [Go.Deep.add_add] at this; exact this
      · have := hat 1 (by omega)
        rw [Go.Deep.add_add] at this; exact this
      · have := hat 2 (by omega)
        rw [Go.Deep.add_add] at this; exact this
    obtain ⟨f, hf⟩ : ∃ f : Nat → Nd, ∀ i, i < len → w.cell? (ad.add (i * 3)) = some (.string (f i).p) ∧ w.cell? (ad.add (i * 3 + 1)) = some (.int .i64 (f i).k) ∧ w.cell? (ad.add (i * 3 + 2)) = some (.int .i64 (f i).v) ∧ (f i).p.size ≤ maxLen :=
      ⟨fun i => if h : i < len then Classical.choose (hel i h) else ⟨⟨#[]⟩, 0, 0⟩, fun i hil => by
        simp only [dif_pos hil]
        exact Classical.choose_spec (hel i hil)⟩
    have hget : ∀ i n, ((List.range len).map f)[i]? = some n → i < len ∧ n = f i := by
      intro i n hn
      rw [List.getElem?_map] at hn
      by_cases hil : i < len
      · rw [List.getElem?_range hil] at hn
        exact ⟨hil, by simpa using hn.symm⟩
      · rw [List.getElem?_eq_none (by simpa using hil)] at hn; cases hn
    refine ⟨(List.range len).map f, ⟨by simp, ?_⟩, by omega, fun n hn => ?_⟩
    · by_cases h0 : len = 0
      · exact .inl h0
      · right
        have hsp := spot_none (hf 0 (by omega)).1
        obtain ⟨b, off, sp⟩ := ad
        have hsp' : sp = none := by
          simp [Addr.add] at hsp
          exact hsp
        subst hsp'
        have hadd : ∀ j, (⟨b, off, none⟩ : Addr).add j = ⟨b, off + j, none⟩ := fun j => by
          unfold Addr.add
          split
          · rename_i hj; rw [hj]; rfl
          · rfl
        refine ⟨b, off, rfl, fun i n hn => ?_⟩
        obtain ⟨hil, rfl⟩ := hget i n hn
        obtain ⟨c0, c1, c2, _⟩ := hf i hil
        rw [hadd] at c0 c1 c2
        exact ⟨c0, c1, c2⟩
    · obtain ⟨i, hi2⟩ := List.getElem?_of_mem hn
      obtain ⟨hil, rfl⟩ := hget i n hi2
      exact (hf i hil).2.2.2
end

end Go.Proofs.YtkaokncaockjkaaDoor
