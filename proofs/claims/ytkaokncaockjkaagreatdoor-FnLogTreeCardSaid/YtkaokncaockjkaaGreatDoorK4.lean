/-
  Texts of this proof, one behind the other: Iy, Il, Ro, Lp, Lt, La, Li, Ld, Cg, Lb, Lf, Lk, St, Sd, Bk, Sk, Se, Fm, Fa, Fb, Ss, Sv, Is, Iu.
-/
import Derived.Lib.SliceRun
import Derived.WideLaws
import Derived.Laws.Concat
import Derived.Shelf.LaysM
import Derived.Shelf.Sort.Plain
import Derived.Shelf.Slices.CompactS
import Derived.Shelf.Slices.In.SortNone
import Derived.Sort.OwnSorted
import Derived.Test.YtkaokncaockjkaaGreatDoorChecked
import Derived.RangeFuncNested
import Derived.RangeFuncBound
import Derived.RangeFuncCalls
import Derived.RangeFuncLeaves
import Derived.OwnWalkIn
import Derived.TacticsInMore
import Derived.LoopNIn
import Derived.LoopIn
import Derived.Lib.HexFns2
import Derived.Laws.Cover1
import Derived.StillTailTactics
import Derived.Deep.RegionHeld3
import Derived.Deep.Cut
import Derived.Deep.RegionLaw
import Derived.WalkSmall
import Derived.Maps.AppendAt
import Derived.OwnWalk
import Derived.Laws.OwnMore
import Derived.Laws.AppendOwnNone
import Derived.Test.YtkaokncaockjkaaGreatDoorK3
/-
  WALKS: impl.treeAfter, impl.CommandApply (over errors.Is and slices.Clone).
-/
namespace Go.Proofs.YtkaokncaockjkaaGreatDoor
open Go.RowKit
set_option linter.unusedVariables false

set_option maxHeartbeats 1000000 in
/-- slices.Clone of nodes that lie somewhere. -/
theorem cloneN_c (a : Option Addr) (len cap : Nat) (ns : List Nd) (hl : len ≤ 2097152) (W : World) (hN : NodesAt W a len ns) :
    Calls Tryz.prog 14 #[.slice a len cap] W fun e W' => OwnsNodes W.heap.size ns e W' ∧ Below W.heap.size W W' := by
  have HN := Lib.hid hN
  have HE := Lib.hid hN.1
  have q23 : ∀ (w : World) (a : Option Addr) (n c n' c' : Nat), (binOp .eql 23 (.slice a n c) (.slice none n' c')).run Tryz.prog w = .ok (.bool a.isNone) w := fun w a n c n' c' => Lib.run_eql_slice_nil w _ _ a n c n' c' Tryz.underlying23
  cases a with
  | none =>
    have hz : ns = [] := by
      rcases hN.2 with h | ⟨_, _, h, _⟩
      · exact List.eq_nil_of_length_eq_zero (hN.1.trans h)
      · cases h
    subst hz
    clear hN
    go_enter Tryz.func14, Tryz.ntmps14
    go_wp2
    exact bodyPost_ret (v := .slice none 0 0) (by simp [results, Tryz.f14, go_sem]) rfl ⟨⟨_, rfl, World.ownsRow_nil _ _ _ _⟩, Below.refl _ _⟩
  | some ad =>
    clear hN
    go_enter Tryz.func14, Tryz.ntmps14
    go_wp2_with (at_builtin; refine wpList_append_nodes rfl _ _ rfl W.heap.size _ [] rfl (World.ownsRow_lit (e := 47) (size := 3) W #[] 0 (Nat.le_refl _) (by simp [maxLen]) rfl) _ _ _ _ rfl (HN.out.keep (below_box _ _)) (by have := HE.out; simp; omega) (by simp) ?_; intro v3 w3 ho3 hg3)
    have B3 : Below W.heap.size W w3 := (below_box W _).grown hg3 (by simp) (fun k e => by cases e; exact Nat.le_refl _)
    exact bodyPost_ret (v := v3) (by simp [results, Tryz.f14, go_sem]) rfl ⟨⟨v3, rfl, by simpa using ho3⟩, B3⟩

/-- What treeAfter tells: a tree, or one of the two reasons why there is none. -/
def AfterPost (ns : List Nd) (c : Cmd) (ea eb : Addr) (W : World) (e : Ending) (w' : World) : Prop :=
  ∃ sl err, e = .returned (.tuple #[sl, err]) ∧ Below W.heap.size W w' ∧
    ((sl = .slice none 0 0 ∧ err = .iface 159 (.pointer (some ea)) ∧ applyC ns c = ([], false)) ∨
     (sl = .slice none 0 0 ∧ err = .iface 159 (.pointer (some eb)) ∧ applyC ns c = (ns, false)) ∨
     (err = .nilIface ∧ ∃ out, applyC ns c = (out, true) ∧ w'.ownsRow W.heap.size 47 3 sl out.length (flatN out)))

theorem after_inv {ns : List Nd} {c : Cmd} {ea eb : Addr} {W w' : World} (h : applyC ns c = ([], false)) (hb : Below W.heap.size W w') : AfterPost ns c ea eb W (.returned (.tuple #[.slice none 0 0, .iface 159 (.pointer (some ea))])) w' :=
  ⟨_, _, rfl, hb, .inl ⟨rfl, rfl, h⟩⟩
theorem after_brk {ns : List Nd} {c : Cmd} {ea eb : Addr} {W w' : World} (h : applyC ns c = (ns, false)) (hb : Below W.heap.size W w') : AfterPost ns c ea eb W (.returned (.tuple #[.slice none 0 0, .iface 159 (.pointer (some eb))])) w' :=
  ⟨_, _, rfl, hb, .inr (.inl ⟨rfl, rfl, h⟩)⟩
theorem after_new {ns out : List Nd} {c : Cmd} {ea eb : Addr} {W w' : World} {sl : Value} (h : applyC ns c = (out, true)) (ho : w'.ownsRow W.heap.size 47 3 sl out.length (flatN out)) (hb : Below W.heap.size W w') : AfterPost ns c ea eb W (.returned (.tuple #[sl, .nilIface])) w' :=
  ⟨_, _, rfl, hb, .inr (.inr ⟨rfl, out, h, ho⟩)⟩

set_option maxHeartbeats 2000000 in
set_option maxRecDepth 100000 in
theorem treeAfter_c (a : Option Addr) (len cap : Nat) (ns : List Nd) (c : Cmd) (hl : len ≤ 2097151) (hs : Short 2097152 ns) (hp : c.p.size ≤ 2097152) (W : World) (hN : NodesAt W a len ns) (ea eb : Addr)
    (hI : W.cell? ⟨1, 0, none⟩ = some (.iface 159 (.pointer (some ea)))) (hK : W.cell? ⟨0, 0, none⟩ = some (.iface 159 (.pointer (some eb)))) :
    Calls Tryz.prog 31 #[.slice a len cap, cmdV c] W (AfterPost ns c ea eb W) := by
  obtain ⟨vt, hvt⟩ : ∃ vt, validT ns = vt := ⟨_, rfl⟩
  obtain ⟨vc, hvc⟩ : ∃ vc, validC c = vc := ⟨_, rfl⟩
  have HI := Lib.hid (fun W' (hb : Below W.heap.size W W') => cell_kept hb hI)
  have HK := Lib.hid (fun W' (hb : Below W.heap.size W W') => cell_kept hb hK)
  clear hI hK
  have HV := Lib.hid (fun W' (hb : Below W.heap.size W W') => show Calls Tryz.prog 9 #[.slice a len cap] W' (BoolPost vt W') by rw [← hvt]; exact implTreeValid_c a len cap ns (by omega) hs W' (hN.keep hb))
  have HC := Lib.hid (fun W' => show Calls Tryz.prog 30 #[cmdV c] W' (BoolPost vc W') by rw [← hvc]; exact implCmdValid_c c hp W')
  have HN := Lib.hid hN
  cases vt with
  | false =>
    have HR := Lib.hid (applyC_bad (c := c) (.inl hvt))
    clear hN hs hvt hvc
    unfold cmdV
    go_enter Tryz.func31, Tryz.ntmps31
    go_wp2_with fail
    refine (HV.out _ (below_box _ _)).mono ?_
    rintro e W1 ⟨rfl, hb1⟩
    have B1 := Lib.hid (below_next (below_box W _) hb1)
    have gi := HI.out _ B1.out
    clear hb1
    go_upto_region 2 with (fail)
    go_region
    all_goals (try go_wp2)
    all_goals go_ret2
    all_goals (first | exact after_inv HR.out B1.out.drew | exact after_inv HR.out B1.out)
  | true =>
    cases vc with
    | false =>
      have HR := Lib.hid (applyC_bad (ns := ns) (.inr hvc))
      clear hN hs hvt hvc
      unfold cmdV at HC ⊢
      obtain ⟨p, fk, fv, tk, tv⟩ := c
      simp only at HC ⊢
      go_enter Tryz.func31, Tryz.ntmps31
      go_wp2_with fail
      refine (HV.out _ (below_box _ _)).mono ?_
      rintro e W1 ⟨rfl, hb1⟩
      have q0 := box_cell hb1 0
      have q1 := box_cell hb1 1
      have q2 := box_cell hb1 2
      have q3 := box_cell hb1 3
      have q4 := box_cell hb1 4
      simp at q0 q1 q2 q3 q4
      have B1 := Lib.hid (below_next (below_box W _) hb1)
      clear hb1
      go_wp2_with fail
      refine (HC.out _).mono ?_
      rintro e W2 ⟨rfl, hb2⟩
      have B2 := Lib.hid (below_next B1.out hb2)
      have gi := HI.out _ B2.out
      clear hb2 q0 q1 q2 q3 q4
      go_upto_region 2 with (fail)
      go_region
      all_goals (try go_wp2)
      all_goals go_ret2
      all_goals (first | exact after_inv HR.out B2.out.drew | exact after_inv HR.out B2.out)
    | true =>
      have HR := Lib.hid (applyC_ok hvt hvc)
      have hdep := ((validC_iff c).1 hvc).1
      have HG := Lib.hid (fun W' (h : NodesAt W' a len ns) => implTreeGet_c a len cap ns c.p (by omega) hs (by omega) W' h)
      have HP := Lib.hid (fun W' (h : NodesAt W' a len ns) => implTreePut_c a len cap ns c.p c.tk c.tv (by omega) hs hp W' h)
      have htg := treeGet_eq hvt (vp_of_depth hdep)
      clear hN hs hvt hvc hdep
      unfold cmdV at HC ⊢
      obtain ⟨p, fk, fv, tk, tv⟩ := c
      simp only at HC HR HP HG hp htg ⊢
      obtain ⟨⟨gk, gv⟩, hg⟩ : ∃ g, getT ns p = g := ⟨_, rfl⟩
      rw [hg] at HR htg
      have HGP := Lib.hid (fun W' (h : NodesAt W' a len ns) => show Calls Tryz.prog 51 #[.slice a len cap, .string p] W' (fun e w' => e = .returned (.agg #[.int .i64 gk, .int .i64 gv]) ∧ Below W'.heap.size W' w') by have := HG.out W' h; rw [htg] at this; exact this)
      obtain ⟨ee, hee⟩ : ∃ ee, (!(gk == fk && gv == fv)) = ee := ⟨_, rfl⟩
      have hne := fun w' => (conNeQ gk gv fk fv w').trans (show _ = Result.ok (Value.bool ee) w' by rw [hee])
      have HEE := Lib.hid hee
      clear hg hee htg HG
      go_enter Tryz.func31, Tryz.ntmps31
      go_wp2_with fail
      refine (HV.out _ (below_box _ _)).mono ?_
      rintro e W1 ⟨rfl, hb1⟩
      have q0 := box_cell hb1 0
      have q1 := box_cell hb1 1
      have q2 := box_cell hb1 2
      have q3 := box_cell hb1 3
      have q4 := box_cell hb1 4
      simp at q0 q1 q2 q3 q4
      have B1 := Lib.hid (below_next (below_box W _) hb1)
      clear hb1
      go_wp2_with fail
      refine (HC.out _).mono ?_
      rintro e W2 ⟨rfl, hb2⟩
      have HS2 := Lib.hid (keepCmd (W0 := W) ⟨q0, q1, q2, q3, q4, B1.out⟩ hb2)
      have HS0 : Hid (W2.drew.cell? ⟨W.heap.size, 0, none⟩ = some (.string p) ∧ W2.drew.cell? ⟨W.heap.size, 1, none⟩ = some (.int .i64 fk) ∧ W2.drew.cell? ⟨W.heap.size, 2, none⟩ = some (.int .i64 fv) ∧ W2.drew.cell? ⟨W.heap.size, 3, none⟩ = some (.int .i64 tk) ∧ W2.drew.cell? ⟨W.heap.size, 4, none⟩ = some (.int .i64 tv) ∧ Below W.heap.size W W2.drew) :=
        ⟨HS2.out.1, HS2.out.2.1, HS2.out.2.2.1, HS2.out.2.2.2.1, HS2.out.2.2.2.2.1, HS2.out.2.2.2.2.2.drew⟩
      have HGD := Lib.hid (HGP.out W2.drew (HN.out.keep HS0.out.2.2.2.2.2))
      clear hb2 q0 q1 q2 q3 q4
      go_upto_region 3 with (fail)
      go_region_held3 (fun w' => w'.cell? ⟨W.heap.size, 0, none⟩ = some (.string p) ∧ w'.cell? ⟨W.heap.size, 1, none⟩ = some (.int .i64 fk) ∧ w'.cell? ⟨W.heap.size, 2, none⟩ = some (.int .i64 fv) ∧ w'.cell? ⟨W.heap.size, 3, none⟩ = some (.int .i64 tk) ∧ w'.cell? ⟨W.heap.size, 4, none⟩ = some (.int .i64 tv) ∧ Below W.heap.size W w')
        (first | exact HS0.out | exact keepCmd HS0.out hb5)
        (first | (go_at_call 51; (with_reducible refine (HGD.out).mono ?_); rintro e W5 ⟨rfl, hb5⟩))
      rename_i hS
      obtain ⟨s0, s1, s2, s3, s4, hB5⟩ := hS
      have HB5 := Lib.hid hB5
      have HN5 := Lib.hid (HN.out.keep hB5)
      clear hne hB5
      cases ee with
      | true =>
        have hR2 := Lib.hid (show applyC ns ⟨p, fk, fv, tk, tv⟩ = (ns, false) by
          rw [HR.out, if_neg]
          intro e
          have := HEE.out
          simp only [Prod.mk.injEq] at e
          rw [e.1, e.2] at this
          simp at this)
        have gk := HK.out _ HB5.out
        clear s0 s1 s2 s3 s4
        go_upto_region 4 with (fail)
        go_region
        all_goals (try go_wp2)
        all_goals go_ret2
        all_goals (first | exact after_brk hR2.out HB5.out.drew | exact after_brk hR2.out HB5.out)
      | false =>
        have hgt : (gk, gv) = (fk, fv) := by
          have := HEE.out
          rw [Bool.not_eq_false', Bool.and_eq_true, beq_iff_eq, beq_iff_eq] at this
          rw [this.1, this.2]
        have HR2 := Lib.hid (HR.out.trans (if_pos hgt))
        have HP5 := Lib.hid (HP.out W5 HN5.out)
        clear hgt
        go_wp2_with fail
        refine HP5.out.mono ?_
        rintro e W6 ⟨sl, out, b, rfl, hc, ho, hb6⟩
        have HB6 := Lib.hid (below_next HB5.out hb6)
        have HO6 := Lib.hid (own_mono ho HB5.out.size)
        have gk := HK.out _ HB6.out
        clear s0 s1 s2 s3 s4 ho hb6
        rcases hc with ⟨rfl, hr⟩ | ⟨rfl, hr, rfl⟩
        · have hR3 := Lib.hid (show applyC ns ⟨p, fk, fv, tk, tv⟩ = (out, true) by rw [HR2.out, hr])
          clear hr
          go_wp2
          go_ret2
          exact after_new hR3.out HO6.out HB6.out
        · have hR3 := Lib.hid (show applyC ns ⟨p, fk, fv, tk, tv⟩ = (ns, false) by rw [HR2.out, hr])
          clear hr
          go_upto_region 7 with (fail)
          go_region
          all_goals (try go_wp2)
          all_goals go_ret2
          all_goals (first | exact after_brk hR3.out HB6.out.drew | exact after_brk hR3.out HB6.out)

theorem errEqNil (v : Value) (t : TypeId) (w : World) : (binOp .eql 75 (.iface t v) .nilIface).run Tryz.prog w = .ok (.bool false) w :=
  run_eql_held_nil w 75 t v (by kernel_rfl)
theorem nilEqNil (w : World) : (binOp .eql 75 .nilIface .nilIface).run Tryz.prog w = .ok (.bool true) w :=
  run_eql_nil_nil w 75 (by kernel_rfl)

set_option maxHeartbeats 2000000 in
set_option maxRecDepth 100000 in
theorem implCmdApply_c (a : Option Addr) (len cap : Nat) (ns : List Nd) (c : Cmd) (hl : len ≤ 2097151) (hs : Short 2097152 ns) (hp : c.p.size ≤ 2097152) (W : World) (hN : NodesAt W a len ns) (hE : CmdVars W) :
    Calls Tryz.prog 15 #[.slice a len cap, cmdV c] W (ApplyPost (applyC ns c) W.heap.size W) := by
  have HE := Lib.hid hE
  obtain ⟨ea, eb, ca, cb, ta, tb, hI, hK, hne, ha, hb⟩ := hE
  have HT := Lib.hid (fun W' (hb : Below W.heap.size W W') => treeAfter_c a len cap ns c hl hs hp W' (hN.keep hb) ea eb (cell_kept hb hI) (cell_kept hb hK))
  have HK := Lib.hid (fun W' (hb : Below W.heap.size W W') => cell_kept hb hK)
  have HO := Lib.hid (fun W' (hx : Below W.heap.size W W') => isErr_other ea eb ca cb ta tb W' hne (heap_kept hx ha) (heap_kept hx hb))
  have HCL := Lib.hid (fun W' (hb : Below W.heap.size W W') => cloneN_c a len cap ns (by omega) W' (hN.keep hb))
  clear hN hs hI hK hne ha hb
  unfold cmdV at HT ⊢
  obtain ⟨p, fk, fv, tk, tv⟩ := c
  simp only at HT ⊢
  go_enter Tryz.func15, Tryz.ntmps15
  go_wp2_with fail
  refine (HT.out _ (below_box _ _)).mono ?_
  rintro e W1 ⟨sl, err, rfl, hb1, hc⟩
  have B1 := Lib.hid (below_next (below_box W _) hb1)
  have gk := HK.out _ B1.out
  clear hb1
  rcases hc with ⟨rfl, rfl, hr⟩ | ⟨rfl, rfl, hr⟩ | ⟨rfl, out, hr, ho⟩
  · have HR := Lib.hid hr
    clear hr
    go_wp2_with fail
    refine (HO.out _ B1.out).mono ?_
    rintro e W2 ⟨rfl, rfl⟩
    have he := errEqNil
    go_upto_region 4 with (fail)
    go_region
    all_goals (try go_wp2)
    all_goals go_ret2
    all_goals (first | exact apply_end HR.out (World.ownsRow_nil _ _ _ _) B1.out.drew | exact apply_end HR.out (World.ownsRow_nil _ _ _ _) B1.out)
  · have HR := Lib.hid hr
    clear hr
    go_wp2_with fail
    refine (isErr_same eb _).mono ?_
    rintro e W2 ⟨rfl, rfl⟩
    go_wp2_with fail
    refine (HCL.out _ B1.out).mono ?_
    rintro e W3 ⟨⟨v3, rfl, ho3⟩, hb3⟩
    go_wp2
    go_ret2
    exact apply_end HR.out (own_mono ho3 B1.out.size) (below_next B1.out hb3)
  · have HR := Lib.hid hr
    have HO1 := Lib.hid (own_mono ho (below_box W _).size)
    clear hr ho
    go_wp2_with fail
    refine (isErr_nil eb _).mono ?_
    rintro e W2 ⟨rfl, rfl⟩
    have he := nilEqNil
    go_upto_region 4 with (fail)
    go_region
    all_goals (try go_wp2)
    all_goals go_ret2
    all_goals (first | exact apply_end HR.out HO1.out B1.out.drew | exact apply_end HR.out HO1.out B1.out)

end Go.Proofs.YtkaokncaockjkaaGreatDoor

/-
  WALKS: impl.LogValid, LogUndo, LogApply, LogFits.
-/
namespace Go.Proofs.YtkaokncaockjkaaGreatDoor
open Go.RowKit
set_option linter.unusedVariables false

/-- Between two rounds of LogApply. -/
def DoneRel (ns : List Nd) (cs : List Cmd) (W : World) (l k o i : Value) (wr : World) : Prop :=
  ∃ (n : Nat) (acc : List Nd) (x : Option Addr), l = .pointer x ∧ k = .bool true ∧ i = .int .i64 n ∧ n ≤ cs.length ∧ wr.ownsRow W.heap.size 47 3 o acc.length (flatN acc) ∧ Hid (EntAt W.heap.size wr x (cs.drop n)) ∧ Hid (acc.length ≤ 10) ∧ Hid (Short 2097152 acc) ∧ Hid (runL ns (cs.take n) = (acc, n)) ∧ Hid (Below W.heap.size W wr)

set_option maxHeartbeats 4000000 in
set_option maxRecDepth 100000 in
theorem implLogApply_c (a1 : Option Addr) (len1 cap1 : Nat) (ns : List Nd) (a2 : Option Addr) (len2 cap2 : Nat) (cs : List Cmd) (hl1 : len1 ≤ 2097152) (hl2 : len2 ≤ 2097152) (hs1 : Short 2097152 ns) (hs2 : ShortC 2097152 cs) (W : World) (h1 : NodesAt W a1 len1 ns) (h2 : CmdsAt W a2 len2 cs) (hE : CmdVars W) :
    Calls Tryz.prog 5 #[.slice a1 len1 cap1, .slice a2 len2 cap2] W (LogPost (logApply ns cs) W) := by
  obtain ⟨cnt, hcnt⟩ := ent_count W.heap.size
  have HC := Lib.hid hcnt
  obtain ⟨vt, hvt⟩ : ∃ vt, validT ns = vt := ⟨_, rfl⟩
  have HV := Lib.hid (fun W' (hb : Below W.heap.size W W') => show Calls Tryz.prog 9 #[.slice a1 len1 cap1] W' (BoolPost vt W') by rw [← hvt]; exact implTreeValid_c a1 len1 cap1 ns hl1 hs1 W' (h1.keep hb))
  have HEn := Lib.hid (entriesOf_c a2 len2 cap2 cs hs2 W h2)
  have HCL := Lib.hid (fun W' (hb : Below W.heap.size W W') => cloneN_c a1 len1 cap1 ns (by omega) W' (h1.keep hb))
  have HVT := Lib.hid hvt
  have HS1 := Lib.hid hs1
  have HS2 := Lib.hid hs2
  have HE := Lib.hid hE
  clear h1 h2 hs1 hs2 hcnt hE hvt hl1 hl2
  go_enter Tryz.func5, Tryz.ntmps5
  go_wp2_with fail
  refine HEn.out.mono ?_
  rintro e W1 ⟨hb, ⟨hv, rfl⟩ | ⟨hv, x, rfl, hx⟩⟩
  · have HB := Lib.hid hb
    have HR := Lib.hid (logApply_bad (ns := ns) (.inr hv))
    clear hb hv
    go_wp2_with fail
    go_ret2
    exact log_end HR.out (World.ownsRow_nil _ _ _ _) HB.out
  · have B1 := Lib.hid hb
    have HX := Lib.hid hx
    have HVL := Lib.hid hv
    clear hb hv hx
    go_wp2_with fail
    refine (HV.out _ B1.out).mono ?_
    rintro e W2 ⟨rfl, hb2⟩
    have B2 := Lib.hid (below_next B1.out hb2)
    have HX2 := Lib.hid (HX.out.keep hb2)
    clear hb2
    cases vt with
    | false =>
      have HR := Lib.hid (logApply_bad (cs := cs) (.inl HVT.out))
      go_wp2
      go_ret2
      exact log_end HR.out (World.ownsRow_nil _ _ _ _) B2.out
    | true =>
      have HR := Lib.hid (logApply_ok HVT.out HVL.out)
      have HLN := Lib.hid (show ns.length ≤ 10 from ((validT_iff ns).1 HVT.out).2.2)
      have HRN := Lib.hid (show runL ns (cs.take 0) = (ns, 0) from rfl)
      go_wp2_with fail
      refine (HCL.out _ B2.out).mono ?_
      rintro e W3 ⟨⟨v3, rfl, ho3⟩, hb3⟩
      have B3 := Lib.hid (below_next B2.out hb3)
      have HX3 := Lib.hid (HX2.out.keep hb3)
      have ho3' := own_mono ho3 B2.out.size
      clear hb3 ho3
      go_wp2_with fail
      go_loopw [6, 7, 8, 9] (fun l k o i wr => DoneRel ns cs W l k o i wr) (fun l _ _ _ wr => cnt wr l)
      case atStart => exact ⟨0, ns, x, rfl, rfl, rfl, Nat.zero_le _, ho3', HX3, HLN, HS1, HRN, B3⟩
      case round =>
        obtain ⟨n, acc, x, rfl, rfl, rfl, hn, hown, HXX, HAL, HAS, HRUN, HB⟩ := hrel
        by_cases hlt : n < cs.length
        · obtain ⟨c, hc⟩ : ∃ c, cs[n]? = some c := ⟨_, List.getElem?_eq_getElem hlt⟩
          have hd : cs.drop n = c :: cs.drop (n + 1) := by rw [List.drop_eq_getElem_cons hlt, (List.getElem?_eq_some_iff.1 hc).2]
          have hx := HXX.out
          rw [hd] at hx
          have HX0 := Lib.hid hx
          obtain ⟨b, nx, rfl, hBb, hrest, c0, c1, c2, c3, c4, c5⟩ := hx.first
          have HREST := Lib.hid hrest
          have HLT := Lib.hid hlt
          have HNN := Lib.hid hc
          have C5 := Lib.hid c5
          obtain ⟨ao, co, rfl, hno⟩ := nodes_of_own hown
          obtain ⟨⟨out, ok⟩, hr⟩ : ∃ r, applyC acc c = r := ⟨_, rfl⟩
          have HA := Lib.hid (show Calls Tryz.prog 15 #[.slice ao acc.length co, cmdV c] wr (fun e w' => ∃ sl, e = .returned (.tuple #[sl, .bool ok]) ∧ w'.ownsRow wr.heap.size 47 3 sl out.length (flatN out) ∧ Below wr.heap.size wr w') by
            have := implCmdApply_c ao acc.length co acc c (by have := HAL.out; omega) HAS.out (HS2.out.at hc) wr hno (HE.out.keep HB.out)
            rw [hr] at this; exact this)
          have HRR := Lib.hid hr
          have HPC := Lib.hid (HS2.out.at hc)
          have HVA := Lib.hid (And.intro (show validT acc = true by have := runL_valid (cs.take n) ns HVT.out; rwa [HRUN.out] at this) (validL_at HVL.out hc))
          have hnw : IntKind.i64.wrap ((n : Int) + 1) = ((n + 1 : Nat) : Int) := (IntWalk.i64_in _ (by have := ((validL_iff cs).1 HVL.out).2; omega)).trans (by omega)
          obtain ⟨p, fk, fv, tk, tv⟩ := c
          unfold cmdV at HA
          simp only at c0 c1 c2 c3 c4 HA HPC
          clear hn hlt hc hd hx hrest HXX hr hown hno ho3'
          go_wp2_with fail
          refine HA.out.mono ?_
          rintro e W4 ⟨sl, rfl, ho4, hb4⟩
          have c6 := cell_kept hb4 C5.out
          have HB4 := Lib.hid (below_next HB.out hb4)
          have HO4 := Lib.hid (own_mono ho4 HB.out.size)
          have HR4 := Lib.hid (HREST.out.keep hb4)
          clear c0 c1 c2 c3 c4 c5 ho4 hb4
          cases ok with
          | false =>
            have HR2 := Lib.hid (run_stop HRUN.out HNN.out (by rw [HRR.out]))
            obtain rfl : out = acc := (apply_break HRR.out HVA.out.1 HVA.out.2).1
            go_wp2
            go_ret2
            exact log_end (by rw [HR.out, HR2.out]) HO4.out HB4.out
          | true =>
            have HR2 := Lib.hid (run_step HRUN.out HNN.out HRR.out)
            have HSS := Lib.hid (apply_short2 HRR.out HAS.out HPC.out)
            go_wp2
            go_roundw
            case rel => exact ⟨n + 1, out, nx, rfl, rfl, rfl, by have := HLT.out; omega, HO4.out, HR4, HSS.out.2, HSS.out.1, HR2, HB4⟩
            case measure =>
              have m1 := HC.out _ _ _ HR4.out
              have m2 := HC.out _ _ _ HX0.out
              show cnt _ _ < cnt _ _
              rw [m1, m2]
              simp
        · have he : n = cs.length := by omega
          subst he
          have hx := HXX.out
          rw [List.drop_length] at hx
          obtain rfl : x = none := hx
          have HR2 := Lib.hid (show logApply ns cs = (acc, (cs.length : Int)) by rw [HR.out, run_whole HRUN.out])
          have HO := Lib.hid hown
          clear hn hlt hown ho3'
          go_wp2
          go_ret2
          exact log_end HR2.out HO.out HB.out

end Go.Proofs.YtkaokncaockjkaaGreatDoor

/-
  WALKS: the reader's 'of' (a text out of a list). For any seat.
-/
namespace Go.Proofs.YtkaokncaockjkaaGreatDoor
open Go.RowKit
set_option linter.unusedVariables false

/-- One of the texts of a list, the reader one place on. -/
def OfPost (N0 B p : Nat) (xs : List ByteArray) (W : World) (e : Ending) (W' : World) : Prop :=
  ∃ x ∈ xs, e = .returned (.string x) ∧ RdAt N0 W' B (p + 1) ∧ W.grownBy W' (some B)

set_option maxHeartbeats 1000000 in
theorem of_c (N0 B p L c : Nat) (xs : List ByteArray) (hx : 1 ≤ xs.length) (hx2 : xs.length ≤ 1000) (hLB : L ≠ B) (W : World) (hp : p < 30000) (hR : RdAt N0 W B p)
    (hc : ∀ j x, xs[j]? = some x → W.cell? ⟨L, j, none⟩ = some (.string x)) :
    Calls Tryz.prog 28 #[.pointer (some ⟨B, 0, none⟩), .slice (some ⟨L, 0, none⟩) xs.length c] W (OfPost N0 B p xs W) := by
  have HP := Lib.hid (fun W hR => pick_c N0 B p xs.length (by omega) (by omega) W hp hR)
  have HC := Lib.hid hc
  clear hc
  go_enter Tryz.func28, Tryz.ntmps28
  go_wp2_with fail
  refine (HP.out W hR).mono ?_
  rintro e W1 ⟨r, rfl, h0, h1, hR1, hg⟩
  obtain ⟨k, rfl⟩ := Int.eq_ofNat_of_zero_le h0
  have hk : k < xs.length := by omega
  obtain ⟨x, hxk⟩ : ∃ x, xs[k]? = some x := ⟨xs[k], List.getElem?_eq_getElem hk⟩
  have hcell : W1.cell? ⟨L, k, none⟩ = some (.string x) := hg.cell (HC.out k x hxk) (by simpa using hLB)
  have HX := Lib.hid hxk
  clear hxk h0 h1 hR
  go_wp2
  go_ret
  exact ⟨x, List.mem_of_getElem? HX.out, rfl, hR1, hg⟩

/-- 'of' at a list that is written out on the spot. -/
theorem of_lit (N0 B p : Nat) (xs : List ByteArray) (n : Nat) (hn : xs.length = n) (hx : 1 ≤ n) (hx2 : n ≤ 1000) (W : World) (hp : p < 30000) (hR : RdAt N0 W B p) (cs : Array Value) (hcs : cs = (xs.map Value.string).toArray) :
    Calls Tryz.prog 28 #[.pointer (some ⟨B, 0, none⟩), .slice (some ⟨W.heap.size, 0, none⟩) n n] (W.alloc (.cells cs 9)) (OfPost N0 B p xs W) := by
  have hg : W.grownBy (W.alloc (.cells cs 9)) none := World.grownBy_alloc W _ none
  subst hn
  refine (of_c N0 B p W.heap.size xs.length xs hx hx2 (by have := hR.lt; omega) _ hp (hR.keep (Below.refl W.heap.size W |>.alloc (Nat.le_refl _) _)) ?_).mono ?_
  · intro j x hj
    subst hcs
    rw [World.cell?_alloc_new]
    simp [hj]
  · rintro e W' ⟨x, hx, he, hR', hg'⟩
    exact ⟨x, hx, he, hR', grownBy_trans (grownBy_none hg _) hg'⟩

/-- A text of modest length; the reader some places on. -/
def StrPost (N0 B p d m : Nat) (W : World) (e : Ending) (W' : World) : Prop :=
  ∃ (s : ByteArray) (q : Nat), e = .returned (.string s) ∧ s.size ≤ m ∧ q ≤ p + d ∧ RdAt N0 W' B q ∧ W.grownBy W' (some B)

end Go.Proofs.YtkaokncaockjkaaGreatDoor

/-
  WALKS: paths that are drawn (spec.l91Path). For any seat.
-/
namespace Go.Proofs.YtkaokncaockjkaaGreatDoor
open Go.RowKit
set_option linter.unusedVariables false

def oddTexts : List ByteArray := [⟨#[]⟩, ⟨#[47]⟩, ⟨#[97]⟩, ⟨#[47, 101]⟩, ⟨#[47, 97, 47]⟩, ⟨#[47, 47, 97]⟩, ⟨#[47, 97, 47, 98, 47, 99, 47, 100, 47, 97]⟩, ⟨#[47, 97, 98]⟩]
def letterTexts : List ByteArray := [⟨#[97]⟩, ⟨#[98]⟩, ⟨#[97]⟩, ⟨#[98]⟩, ⟨#[99]⟩, ⟨#[100]⟩]

def PathRel (N0 B p : Nat) (n : Int) (W : World) (out i : Value) (wr : World) : Prop :=
  ∃ (k : Nat) (s : ByteArray), i = .int .i64 k ∧ k ≤ 4 ∧ (k : Int) ≤ 1 + n ∧ out = .string s ∧ s.size = 2 * k ∧ RdAt N0 wr B (p + 3 + k) ∧ W.grownBy wr (some B)

set_option maxHeartbeats 1000000 in
set_option maxRecDepth 100000 in
theorem l91Path_c (N0 B p : Nat) (W : World) (hp : p < 29000) (hR : RdAt N0 W B p) :
    Calls Tryz.prog 47 #[.pointer (some ⟨B, 0, none⟩)] W (StrPost N0 B p 7 64 W) := by
  have HP1 := Lib.hid (fun W hR => pick_c N0 B p 24 (by omega) (by omega) W (by omega) hR)
  go_enter Tryz.func47, Tryz.ntmps47
  go_wp2_with fail
  refine (HP1.out W hR).mono ?_
  rintro e W1 ⟨r, rfl, h0, h1, hR1, hg1⟩
  by_cases hr : r = 0
  · subst hr
    clear h0 h1 hR
    have HO := Lib.hid (of_lit N0 B (p + 1) oddTexts 8 rfl (by omega) (by omega) W1 (by omega) hR1 _ rfl)
    simp only [oddTexts, List.map_cons, List.map_nil] at HO
    go_wp2_with fail
    refine HO.out.mono ?_
    rintro e W2 ⟨x, hx, rfl, hR2, hg2⟩
    go_wp2
    go_ret
    refine ⟨x, p + 1 + 1, rfl, ?_, by omega, hR2, grownBy_trans hg1 hg2⟩
    simp at hx
    rcases hx with rfl | rfl | rfl | rfl | rfl | rfl | rfl | rfl <;> decide
  · have hr' : (r == 0) = false := by simpa using hr
    have HP2 := Lib.hid (fun W hR => pick_c N0 B (p + 1) 4 (by omega) (by omega) W (by omega) hR)
    have HP3 := Lib.hid (fun W hR => pick_c N0 B (p + 1 + 1) 2 (by omega) (by omega) W (by omega) hR)
    clear h0 h1 hR hr
    go_wp2_with fail
    refine (HP2.out W1 hR1).mono ?_
    rintro e W2 ⟨a, rfl, a0, a1, hR2, hg2⟩
    go_wp2_with fail
    refine (HP3.out W2 hR2).mono ?_
    rintro e W3 ⟨b, rfl, b0, b1, hR3, hg3⟩
    have hg : W.grownBy W3 (some B) := grownBy_trans hg1 (grownBy_trans hg2 hg3)
    have hn : IntKind.i64.wrap (a * b) = a * b := by
      have hb : b = 0 ∨ b = 1 := by omega
      rcases hb with rfl | rfl
      · simp [IntKind.wrap_i64]
      · rw [Int.mul_one]; exact IntWalk.i64_in _ (by omega)
    have hab : 0 ≤ a * b ∧ a * b ≤ 3 := by
      have hb : b = 0 ∨ b = 1 := by omega
      rcases hb with rfl | rfl <;> omega
    obtain ⟨hab0, hab3⟩ := hab
    clear hg1 hg2 hg3 hR1 hR2 a0 a1 b0 b1 hr'
    go_wp2
    go_loopw [4, 5] (fun out i wr => PathRel N0 B p (a * b) W out i wr) (fun _ i _ => (1 + a * b - intOf i).toNat)
    case atStart => exact ⟨0, ⟨#[]⟩, rfl, by omega, by omega, rfl, rfl, hR3, hg⟩
    case round =>
      obtain ⟨k, s, rfl, hk4, hkn, rfl, hs, hRk, hgk⟩ := hrel
      by_cases hlt : (k : Int) < 1 + a * b
      · have hk3 : k ≤ 3 := by omega
        have HO := Lib.hid (of_lit N0 B (p + 3 + k) letterTexts 6 rfl (by omega) (by omega) wr (by omega) hRk _ rfl)
        simp only [letterTexts, List.map_cons, List.map_nil] at HO
        have HS := Lib.hid hs
        have hs8 : s.size ≤ 8 := by omega
        clear hs
        go_wp2_with fail
        refine HO.out.mono ?_
        rintro e W5 ⟨x, hx, rfl, hR5, hg5⟩
        have hx1 : x.size = 1 := by
          simp at hx
          rcases hx with rfl | rfl | rfl | rfl | rfl | rfl <;> rfl
        have HX := Lib.hid hx1
        have hx8 : x.size ≤ 1 := by omega
        clear hx hx1
        go_wp2
        refine ⟨⟨k + 1, s ++ ⟨#[47]⟩ ++ x, by go_num, by omega, by omega, rfl, ?_, hR5, grownBy_trans hgk hg5⟩, ?_⟩
        · rw [ByteArray.size_append, ByteArray.size_append, HS.out, HX.out]
          show 2 * k + 1 + 1 = _
          omega
        · simp [intOf]; omega
      · have hk : (1 : Int) + a * b ≤ k := by omega
        have HS := Lib.hid hs
        clear hs hlt
        go_wp2
        go_ret
        refine ⟨s, p + 3 + k, rfl, by have := HS.out; omega, by omega, hRk, hgk⟩

end Go.Proofs.YtkaokncaockjkaaGreatDoor

/-
  WALKS: trees that are drawn (spec.l91Tree).
-/
namespace Go.Proofs.YtkaokncaockjkaaGreatDoor
open Go.RowKit
set_option linter.unusedVariables false

/-- A drawn list of nodes, of the call's own. -/
def TreeDraw (N0 B p m c d : Nat) (W : World) (ok : List Nd → Prop) (e : Ending) (W' : World) : Prop :=
  ∃ (sl : Value) (out : List Nd) (q : Nat), e = .returned sl ∧ W'.ownsRow W.heap.size 47 3 sl out.length (flatN out) ∧ ok out ∧ out.length ≤ c ∧ Short m out ∧ q ≤ p + d ∧ RdAt N0 W' B q ∧ W.grownBy W' (some B)

def TreeRel (N0 B p : Nat) (n : Int) (W : World) (o i : Value) (wr : World) : Prop :=
  ∃ (acc : List Nd) (j q : Nat), i = .int .i64 j ∧ (j : Int) ≤ n ∧ wr.ownsRow W.heap.size 47 3 o acc.length (flatN acc) ∧ Hid (validT acc = true) ∧ Hid (Short 64 acc) ∧ Hid (q ≤ p + 11 * j) ∧ RdAt N0 wr B q ∧ Hid (W.grownBy wr (some B))

set_option maxHeartbeats 2000000 in
set_option maxRecDepth 100000 in
theorem l91Tree_c (N0 B p : Nat) (n : Int) (hn0 : 0 ≤ n) (hn : n ≤ 60) (W : World) (hp : p < 20000) (hR : RdAt N0 W B p) :
    Calls Tryz.prog 25 #[.pointer (some ⟨B, 0, none⟩), .int .i64 n] W (TreeDraw N0 B p 64 10 660 W (fun out => validT out = true)) := by
  have HLT := Lib.hid hR.lt
  have HP := Lib.hid (fun q W hq hR => l91Path_c N0 B q W hq hR)
  have HC := Lib.hid (fun q W hq hR => l91Content_c N0 B q W hq hR)
  have HPP := Lib.hid hp
  have HN := Lib.hid hn
  go_enter Tryz.func25, Tryz.ntmps25
  go_wp2
  go_loopw [5, 6, 7, 8] (fun o i _ _ wr => TreeRel N0 B p n W o i wr) (fun _ i _ _ _ => (n - intOf i).toNat)
  case atStart => exact ⟨[], 0, p, rfl, hn0, World.ownsRow_lit (e := 47) (size := 3) W #[] 0 (Nat.le_refl _) (by simp [maxLen]) rfl, (by show validT [] = true; rfl), (by intro x hx; cases hx), (by show p ≤ _; omega), hR.alloc _, grownBy_new _ _ _⟩
  case round =>
    obtain ⟨acc, j, q, rfl, hj, hrow, HV, HS, HQ, hRq, HG⟩ := hrel
    by_cases hlt : (j : Int) < n
    · have HJ := Lib.hid hlt
      clear hj hR
      go_wp2_with fail
      refine (HP.out q _ (by have h5 := HQ.out; have h6 := HPP.out; have h7 := HN.out; omega) hRq).mono ?_; rintro e W2 ⟨s, q2, rfl, hs, hq2, hR2, hg2⟩
      have hrow2 := own_reader hrow HLT.out hg2
      have HS2 := Lib.hid (And.intro hs hq2)
      clear hs hq2 hrow hRq
      go_wp2_with fail
      refine (HC.out q2 _ (by have h5 := HQ.out; have h6 := HPP.out; have h7 := HN.out; have h8 := HS2.out.2; omega) hR2).mono ?_; rintro e W3 ⟨k, v, q3, rfl, -, -, -, -, hq3, hR3, hg3⟩
      have hrow3 := own_reader hrow2 HLT.out hg3
      have HQ3 := Lib.hid hq3
      have HG3 := Lib.hid (grownBy_trans HG.out (grownBy_trans hg2 hg3))
      obtain ⟨ao, co, rfl, hNo⟩ := nodes_of_own hrow3
      have hlen := ((validT_iff acc).1 HV.out).2.2
      have HTP := Lib.hid (specTreePut_c ao acc.length co acc s k v (by omega) (fun n hn => by have := HS.out n hn; omega) (by have := HS2.out.1; omega) W3 hNo)
      clear hq3 hrow2 hR2 hg2 hg3 hNo hlen
      go_wp2_with fail
      refine HTP.out.mono ?_; rintro e W4 ⟨sl, out, b, rfl, hb, hown, hb4⟩
      have HR4 := Lib.hid (hR3.keep hb4)
      have HG4 := Lib.hid (grownBy_below HG3.out hb4)
      cases b with
      | true =>
        have hr : treePut acc s k v = some out := by
          rcases hb with ⟨-, h⟩ | ⟨h, -⟩
          · exact h
          · cases h
        obtain ⟨-, -, -, h5, h6⟩ := treePut_some hr
        have HV4 : Hid (validT out = true) := h6
        have HS4 : Hid (Short 64 out) := by show Short 64 out; rw [h5]; exact short_put HS.out HS2.out.1
        have hown4 := own_mono hown HG3.out.size
        clear hb hr h5 h6 hown hb4 hrow3 hR3
        go_wp2
        go_roundw
        case rel => exact ⟨out, j + 1, q3, by go_num, by have := HJ.out; omega, hown4, HV4, HS4, (by show q3 ≤ _; have h5 := HQ.out; have h6 := HQ3.out; have h7 := HS2.out.2; omega), HR4.out, HG4⟩
        case measure => have := HJ.out; simp [intOf]; omega
      | false =>
        have hown4 := own_below hrow3 hb4
        clear hb hown hb4 hrow3 hR3
        go_wp2
        go_roundw
        case rel => exact ⟨acc, j + 1, q3, by go_num, by have := HJ.out; omega, hown4, HV, HS, (by show q3 ≤ _; have h5 := HQ.out; have h6 := HQ3.out; have h7 := HS2.out.2; omega), HR4.out, HG4⟩
        case measure => have := HJ.out; simp [intOf]; omega
    · have hge : n ≤ (j : Int) := by omega
      have HJ := Lib.hid hj
      clear hj hR
      go_wp2
      go_ret
      exact ⟨_, acc, q, rfl, hrow, HV.out, ((validT_iff acc).1 HV.out).2.2, HS.out, by have h5 := HQ.out; have h6 := HJ.out; have h7 := HN.out; omega, hRq, HG.out⟩

end Go.Proofs.YtkaokncaockjkaaGreatDoor

/-
  WALKS: trees that are drawn, seldom invalid ones (spec.l91Any).
-/
namespace Go.Proofs.YtkaokncaockjkaaGreatDoor
open Go.RowKit
set_option linter.unusedVariables false

theorem flatN_set : ∀ (ns : List Nd) (i : Nat) (n : Nd) (k v : Int), ns[i]? = some n → ((flatN ns).set (i * 3 + 1) (.int .i64 k)).set (i * 3 + 2) (.int .i64 v) = flatN (ns.set i ⟨n.p, k, v⟩)
  | [], i, n, k, v, h => by simp at h
  | m :: r, 0, n, k, v, h => by
    simp at h
    subst h
    rfl
  | m :: r, i + 1, n, k, v, h => by
    have ih := flatN_set r i n k v (by simpa using h)
    have e : ∀ (x : Nd) (t : List Nd), flatN (x :: t) = .string x.p :: .int .i64 x.k :: .int .i64 x.v :: flatN t := fun _ _ => rfl
    rw [List.set_cons_succ, e m r, e m (r.set i _), ← ih, show (i + 1) * 3 + 1 = (i * 3 + 1) + 3 by omega, show (i + 1) * 3 + 2 = (i * 3 + 2) + 3 by omega]
    rfl

theorem own_set {W : World} {base : Nat} {e : TypeId} {g cap : Nat} {ns : List Nd} {i : Nat} {n : Nd} (h : W.ownsRow base e 3 (.slice (some ⟨g, 0, none⟩) ns.length cap) ns.length (flatN ns)) (hn : ns[i]? = some n) (k v : Int) :
    ((W.setCell ⟨g, i * 3 + 1, none⟩ (.int .i64 k)).setCell ⟨g, i * 3 + 1 + 1, none⟩ (.int .i64 v)).ownsRow base e 3 (.slice (some ⟨g, 0, none⟩) ns.length cap) (ns.set i ⟨n.p, k, v⟩).length (flatN (ns.set i ⟨n.p, k, v⟩)) := by
  have := ((h.stored (i * 3 + 1) (.int .i64 k)).1.stored (i * 3 + 2) (.int .i64 v)).1
  rw [flatN_set ns i n k v hn] at this
  rw [List.length_set]
  exact this

theorem own_slice {W : World} {base : Nat} {e : TypeId} {v : Value} {ns : List Nd} (h : W.ownsRow base e 3 v ns.length (flatN ns)) (h0 : 0 < ns.length) : ∃ g cap, v = .slice (some ⟨g, 0, none⟩) ns.length cap ∧ base ≤ g ∧ g < W.heap.size := by
  rcases h.2 with ⟨_, h1⟩ | ⟨g, cap, cur, rfl, h1, h2, _⟩
  · omega
  · exact ⟨g, cap, rfl, h1, by rw [Array.getElem?_eq_some_iff] at h2; exact h2.1⟩

theorem short_set {m : Nat} {ns : List Nd} {i : Nat} {n : Nd} {k v : Int} (h : Short m ns) (hn : ns[i]? = some n) : Short m (ns.set i ⟨n.p, k, v⟩) := by
  intro x hx
  rcases List.mem_or_eq_of_mem_set hx with h1 | rfl
  · exact h x h1
  · exact h n (List.mem_of_getElem? hn)

set_option maxHeartbeats 2000000 in
set_option maxRecDepth 100000 in
theorem l91Any_c (N0 B p : Nat) (W : World) (hp : p < 10000) (hR : RdAt N0 W B p) :
    Calls Tryz.prog 11 #[.pointer (some ⟨B, 0, none⟩)] W (TreeDraw N0 B p 64 11 670 W (fun _ => True)) := by
  obtain ⟨i0, hi, hz0, hz1, hz2⟩ := info_parts infoNode
  have HLT := Lib.hid hR.lt
  have HLE := Lib.hid hR.le
  have HP1 := Lib.hid (fun W hR => pick_c N0 B p 16 (by omega) (by omega) W (by omega) hR)
  have HP2 := Lib.hid (fun W hR => pick_c N0 B (p + 1) 8 (by omega) (by omega) W (by omega) hR)
  have HT := Lib.hid (fun n h0 h1 W hR => l91Tree_c N0 B (p + 1 + 1) n h0 h1 W (by omega) hR)
  have HPK := Lib.hid (fun q n h0 h1 W hq hR => pick_c N0 B q n h0 h1 W hq hR)
  have HPP := Lib.hid hp
  clear hp
  go_enter Tryz.func11, Tryz.ntmps11
  go_wp2_with fail
  refine (HP1.out _ hR).mono ?_; rintro e W1 ⟨n, rfl, n0, n1, hR1, hg1⟩
  have HN := Lib.hid (And.intro n0 n1)
  clear n0 n1 hR
  go_wp2_with fail
  refine (HP2.out _ hR1).mono ?_; rintro e W2 ⟨r, rfl, r0, r1, hR2, hg2⟩
  have HG2 := Lib.hid (grownBy_trans hg1 hg2)
  clear hg1 hg2 hR1
  by_cases hr : r = 0
  · subst hr
    clear r0 r1
    go_wp2_with fail
    refine (HT.out 60 (by omega) (by omega) _ hR2).mono ?_; rintro e W3 ⟨sl, out, q, rfl, hown0, -, hlen, hsh, hq, hR3, hg3⟩
    have hown := own_mono hown0 HG2.out.size
    have HG3 := Lib.hid (grownBy_trans HG2.out hg3)
    have HSH := Lib.hid hsh
    have HLN := Lib.hid hlen
    have HQ := Lib.hid hq
    clear hown0 hg3 hsh hlen hq hR2
    by_cases hl0 : out.length = 0
    · obtain ⟨a, cap, rfl, -⟩ := nodes_of_own hown
      have HO := Lib.hid hown
      have hl0' : (out.length : Int) = 0 := by omega
      clear hl0 hown
      go_wp2
      go_ret
      exact ⟨_, out, q, rfl, HO.out, trivial, by have := HLN.out; omega, HSH.out, by have := HQ.out; omega, hR3, HG3.out⟩
    · have hl0 : 0 < out.length := by omega
      have hl1 : (0 : Int) < out.length := by omega
      obtain ⟨g, cap, rfl, hgb, hgw⟩ := own_slice hown hl0
      have HB := Lib.hid (And.intro hgb hgb)
      clear hgb hgw
      go_wp2_with fail
      refine (HPK.out q out.length (by omega) (by have := HLN.out; omega) _ (by have := HQ.out; have := HPP.out; omega) hR3).mono ?_; rintro e W4 ⟨k', rfl, k0, k1, hR4, hg4⟩
      obtain ⟨k, rfl⟩ := Int.eq_ofNat_of_zero_le k0
      have HK := Lib.hid (show k < out.length by omega)
      have hown4 := own_reader hown HLT.out hg4
      clear k0 k1 hown hR3
      go_wp2_with fail
      refine (HPK.out (q + 1) 30 (by omega) (by omega) _ (by have := HQ.out; have := HPP.out; omega) hR4).mono ?_; rintro e W5 ⟨tt, rfl, t0, t1, hR5, hg5⟩
      have HO5 := Lib.hid (own_reader hown4 HLT.out hg5)
      have HG5 := Lib.hid (grownBy_trans HG3.out (grownBy_trans hg4 hg5))
      have HR5 := Lib.hid hR5
      obtain ⟨x, hx⟩ : ∃ x, out[k]? = some x := ⟨_, List.getElem?_eq_getElem HK.out⟩
      have HX := Lib.hid hx
      clear hx hg4 hg5 hR4 hR5 hown4
      by_cases ht : tt = 0
      · subst ht
        clear t0 t1
        have c1 : W5.cell? ⟨g, k * 3 + 1, none⟩ = some (.int .i64 x.k) := by rw [HO5.out.cellAt _ (by have := HK.out; omega)]; exact (flatN_get out k x HX.out).2.1
        have c2 : W5.cell? ⟨g, k * 3 + 2, none⟩ = some (.int .i64 x.v) := by rw [HO5.out.cellAt _ (by have := HK.out; omega)]; exact (flatN_get out k x HX.out).2.2
        have z1 := HO5.out.frozenAt (k * 3 + 1)
        have z2 := HO5.out.frozenAt (k * 3 + 2)
        have hkl : (k : Int) < out.length := by have := HK.out; omega
        clear hl0
        go_wp2
        go_ret
        exact ⟨_, out.set k ⟨x.p, 0, 0⟩, q + 1 + 1, rfl, own_set HO5.out HX.out 0 0, trivial, by rw [List.length_set]; have := HLN.out; omega, short_set HSH.out HX.out, by have := HQ.out; omega,
          (HR5.out.setNew _ _ (by have := HLE.out; have := HB.out.1; show N0 ≤ g; omega)).setNew _ _ (by have := HLE.out; have := HB.out.1; show N0 ≤ g; omega), grownBy_setCell_new (grownBy_setCell_new HG5.out _ _ HB.out.1) _ _ HB.out.1⟩
      · have ht0 : (tt == 0) = false := beq_eq_false_iff_ne.2 ht
        clear ht
        by_cases ht : tt = 1
        · subst ht
          clear t0 t1
          have c0 : W5.cell? ⟨g, k * 3, none⟩ = some (.string x.p) := by rw [HO5.out.cellAt _ (by have := HK.out; omega)]; exact (flatN_get out k x HX.out).1
          have c1 : W5.cell? ⟨g, k * 3 + 1, none⟩ = some (.int .i64 x.k) := by rw [HO5.out.cellAt _ (by have := HK.out; omega)]; exact (flatN_get out k x HX.out).2.1
          have c2 : W5.cell? ⟨g, k * 3 + 2, none⟩ = some (.int .i64 x.v) := by rw [HO5.out.cellAt _ (by have := HK.out; omega)]; exact (flatN_get out k x HX.out).2.2
          have hkl : (k : Int) < out.length := by have := HK.out; omega
          clear hl0
          go_wp2_with (at_builtin; refine wpList_append_own _ rfl _ _ 23 rfl W.heap.size 47 i0 (.agg #[.string ⟨#[]⟩, .int .i64 0, .int .i64 0]) 3 32 Tryz.underlying23 hi hz0 hz1 hz2 rfl (by decide) _ _ _ rfl (HO5.out.alloc _) ⟨W5.heap.size, 0, none⟩ 1 1 [.string x.p, .int .i64 x.k, .int .i64 x.v] rfl rfl (cell_three_new _ _ _ _ _) (fun x hx => by simp at hx; rcases hx with rfl | rfl | rfl <;> rfl) (by unfold maxLen; have := HLN.out; omega) (by have := HLN.out; omega) (by have := HG5.out.size; simp; omega) ?_; intro v' w6 ho6 hg6 hn6)
          go_ret
          have hown6 := own_push x ho6
          have hfar : W.heap.size ≤ g := HB.out.1
          have hg7 : W5.grownBy w6 (some g) := grownBy_trans (grownBy_new W5 _ _) hg6
          have hR6 : RdAt N0 w6 B (q + 1 + 1) := by
            have hle := HLE.out
            exact HR5.out.kept ⟨hg7.os, hg7.tape, hg7.output, hg7.size, fun b hb => hg7.block b (Nat.lt_of_lt_of_le hb HR5.out.le) (by simp; omega)⟩
          have hG6 : W.grownBy w6 (some B) := ⟨HG5.out.os ▸ hg7.os ▸ rfl, hg7.tape.trans HG5.out.tape, hg7.output.trans HG5.out.output, Nat.le_trans HG5.out.size hg7.size, fun b hb hne => (hg7.block b (Nat.lt_of_lt_of_le hb HG5.out.size) (by simp; omega)).trans (HG5.out.block b hb hne)⟩
          have hsh6 : Short 64 (out ++ [x]) := by
            intro y hy
            rcases List.mem_append.1 hy with h | h
            · exact HSH.out y h
            · rw [List.mem_singleton] at h
              subst h
              exact HSH.out _ (List.mem_of_getElem? HX.out)
          exact ⟨_, out ++ [x], q + 1 + 1, rfl, hown6, trivial, by simp; have := HLN.out; omega, hsh6, by have := HQ.out; omega, hR6, hG6⟩
        · have ht1 : (tt == 1) = false := beq_eq_false_iff_ne.2 ht
          clear ht
          by_cases ht : tt = 2
          · subst ht
            clear t0 t1
            have c1 : W5.cell? ⟨g, k * 3 + 1, none⟩ = some (.int .i64 x.k) := by rw [HO5.out.cellAt _ (by have := HK.out; omega)]; exact (flatN_get out k x HX.out).2.1
            have c2 : W5.cell? ⟨g, k * 3 + 2, none⟩ = some (.int .i64 x.v) := by rw [HO5.out.cellAt _ (by have := HK.out; omega)]; exact (flatN_get out k x HX.out).2.2
            have z1 := HO5.out.frozenAt (k * 3 + 1)
            have z2 := HO5.out.frozenAt (k * 3 + 2)
            have hkl : (k : Int) < out.length := by have := HK.out; omega
            clear hl0
            go_wp2
            go_ret
            exact ⟨_, out.set k ⟨x.p, 2, 0⟩, q + 1 + 1, rfl, own_set HO5.out HX.out 2 0, trivial, by rw [List.length_set]; have := HLN.out; omega, short_set HSH.out HX.out, by have := HQ.out; omega,
              (HR5.out.setNew _ _ (by have := HLE.out; have := HB.out.1; show N0 ≤ g; omega)).setNew _ _ (by have := HLE.out; have := HB.out.1; show N0 ≤ g; omega), grownBy_setCell_new (grownBy_setCell_new HG5.out _ _ HB.out.1) _ _ HB.out.1⟩
          · have ht2 : (tt == 2) = false := beq_eq_false_iff_ne.2 ht
            have HO6 := HO5
            clear ht t0 t1
            go_wp2
            go_ret
            exact ⟨_, out, q + 1 + 1, rfl, HO6.out, trivial, by have := HLN.out; omega, HSH.out, by have := HQ.out; omega, HR5.out, HG5.out⟩
  · have hr' : (r == 0) = false := beq_eq_false_iff_ne.2 hr
    clear r0 r1 hr
    go_wp2_with fail
    refine (HT.out n HN.out.1 (by have := HN.out.2; omega) _ hR2).mono ?_; rintro e W3 ⟨sl, out, q, rfl, hown0, -, hlen, hsh, hq, hR3, hg3⟩
    have hown := own_mono hown0 HG2.out.size
    have HG3 := Lib.hid (grownBy_trans HG2.out hg3)
    have HSH := Lib.hid hsh
    have HLN := Lib.hid hlen
    have HQ := Lib.hid hq
    clear hown0 hg3 hsh hlen hq hR2
    by_cases hl0 : out.length = 0
    · obtain ⟨a, cap, rfl, -⟩ := nodes_of_own hown
      have HO := Lib.hid hown
      have hl0' : (out.length : Int) = 0 := by omega
      clear hl0 hown
      go_wp2
      go_ret
      exact ⟨_, out, q, rfl, HO.out, trivial, by have := HLN.out; omega, HSH.out, by have := HQ.out; omega, hR3, HG3.out⟩
    · have hl0 : 0 < out.length := by omega
      have hl1 : (0 : Int) < out.length := by omega
      obtain ⟨g, cap, rfl, hgb, hgw⟩ := own_slice hown hl0
      have HB := Lib.hid (And.intro hgb hgb)
      clear hgb hgw
      go_wp2_with fail
      refine (HPK.out q out.length (by omega) (by have := HLN.out; omega) _ (by have := HQ.out; have := HPP.out; omega) hR3).mono ?_; rintro e W4 ⟨k', rfl, k0, k1, hR4, hg4⟩
      obtain ⟨k, rfl⟩ := Int.eq_ofNat_of_zero_le k0
      have HK := Lib.hid (show k < out.length by omega)
      have hown4 := own_reader hown HLT.out hg4
      clear k0 k1 hown hR3
      go_wp2_with fail
      refine (HPK.out (q + 1) 30 (by omega) (by omega) _ (by have := HQ.out; have := HPP.out; omega) hR4).mono ?_; rintro e W5 ⟨tt, rfl, t0, t1, hR5, hg5⟩
      have HO5 := Lib.hid (own_reader hown4 HLT.out hg5)
      have HG5 := Lib.hid (grownBy_trans HG3.out (grownBy_trans hg4 hg5))
      have HR5 := Lib.hid hR5
      obtain ⟨x, hx⟩ : ∃ x, out[k]? = some x := ⟨_, List.getElem?_eq_getElem HK.out⟩
      have HX := Lib.hid hx
      clear hx hg4 hg5 hR4 hR5 hown4
      by_cases ht : tt = 0
      · subst ht
        clear t0 t1
        have c1 : W5.cell? ⟨g, k * 3 + 1, none⟩ = some (.int .i64 x.k) := by rw [HO5.out.cellAt _ (by have := HK.out; omega)]; exact (flatN_get out k x HX.out).2.1
        have c2 : W5.cell? ⟨g, k * 3 + 2, none⟩ = some (.int .i64 x.v) := by rw [HO5.out.cellAt _ (by have := HK.out; omega)]; exact (flatN_get out k x HX.out).2.2
        have z1 := HO5.out.frozenAt (k * 3 + 1)
        have z2 := HO5.out.frozenAt (k * 3 + 2)
        have hkl : (k : Int) < out.length := by have := HK.out; omega
        clear hl0
        go_wp2
        go_ret
        exact ⟨_, out.set k ⟨x.p, 0, 0⟩, q + 1 + 1, rfl, own_set HO5.out HX.out 0 0, trivial, by rw [List.length_set]; have := HLN.out; omega, short_set HSH.out HX.out, by have := HQ.out; omega,
          (HR5.out.setNew _ _ (by have := HLE.out; have := HB.out.1; show N0 ≤ g; omega)).setNew _ _ (by have := HLE.out; have := HB.out.1; show N0 ≤ g; omega), grownBy_setCell_new (grownBy_setCell_new HG5.out _ _ HB.out.1) _ _ HB.out.1⟩
      · have ht0 : (tt == 0) = false := beq_eq_false_iff_ne.2 ht
        clear ht
        by_cases ht : tt = 1
        · subst ht
          clear t0 t1
          have c0 : W5.cell? ⟨g, k * 3, none⟩ = some (.string x.p) := by rw [HO5.out.cellAt _ (by have := HK.out; omega)]; exact (flatN_get out k x HX.out).1
          have c1 : W5.cell? ⟨g, k * 3 + 1, none⟩ = some (.int .i64 x.k) := by rw [HO5.out.cellAt _ (by have := HK.out; omega)]; exact (flatN_get out k x HX.out).2.1
          have c2 : W5.cell? ⟨g, k * 3 + 2, none⟩ = some (.int .i64 x.v) := by rw [HO5.out.cellAt _ (by have := HK.out; omega)]; exact (flatN_get out k x HX.out).2.2
          have hkl : (k : Int) < out.length := by have := HK.out; omega
          clear hl0
          go_wp2_with (at_builtin; refine wpList_append_own _ rfl _ _ 23 rfl W.heap.size 47 i0 (.agg #[.string ⟨#[]⟩, .int .i64 0, .int .i64 0]) 3 32 Tryz.underlying23 hi hz0 hz1 hz2 rfl (by decide) _ _ _ rfl (HO5.out.alloc _) ⟨W5.heap.size, 0, none⟩ 1 1 [.string x.p, .int .i64 x.k, .int .i64 x.v] rfl rfl (cell_three_new _ _ _ _ _) (fun x hx => by simp at hx; rcases hx with rfl | rfl | rfl <;> rfl) (by unfold maxLen; have := HLN.out; omega) (by have := HLN.out; omega) (by have := HG5.out.size; simp; omega) ?_; intro v' w6 ho6 hg6 hn6)
          go_ret
          have hown6 := own_push x ho6
          have hfar : W.heap.size ≤ g := HB.out.1
          have hg7 : W5.grownBy w6 (some g) := grownBy_trans (grownBy_new W5 _ _) hg6
          have hR6 : RdAt N0 w6 B (q + 1 + 1) := by
            have hle := HLE.out
            exact HR5.out.kept ⟨hg7.os, hg7.tape, hg7.output, hg7.size, fun b hb => hg7.block b (Nat.lt_of_lt_of_le hb HR5.out.le) (by simp; omega)⟩
          have hG6 : W.grownBy w6 (some B) := ⟨HG5.out.os ▸ hg7.os ▸ rfl, hg7.tape.trans HG5.out.tape, hg7.output.trans HG5.out.output, Nat.le_trans HG5.out.size hg7.size, fun b hb hne => (hg7.block b (Nat.lt_of_lt_of_le hb HG5.out.size) (by simp; omega)).trans (HG5.out.block b hb hne)⟩
          have hsh6 : Short 64 (out ++ [x]) := by
            intro y hy
            rcases List.mem_append.1 hy with h | h
            · exact HSH.out y h
            · rw [List.mem_singleton] at h
              subst h
              exact HSH.out _ (List.mem_of_getElem? HX.out)
          exact ⟨_, out ++ [x], q + 1 + 1, rfl, hown6, trivial, by simp; have := HLN.out; omega, hsh6, by have := HQ.out; omega, hR6, hG6⟩
        · have ht1 : (tt == 1) = false := beq_eq_false_iff_ne.2 ht
          clear ht
          by_cases ht : tt = 2
          · subst ht
            clear t0 t1
            have c1 : W5.cell? ⟨g, k * 3 + 1, none⟩ = some (.int .i64 x.k) := by rw [HO5.out.cellAt _ (by have := HK.out; omega)]; exact (flatN_get out k x HX.out).2.1
            have c2 : W5.cell? ⟨g, k * 3 + 2, none⟩ = some (.int .i64 x.v) := by rw [HO5.out.cellAt _ (by have := HK.out; omega)]; exact (flatN_get out k x HX.out).2.2
            have z1 := HO5.out.frozenAt (k * 3 + 1)
            have z2 := HO5.out.frozenAt (k * 3 + 2)
            have hkl : (k : Int) < out.length := by have := HK.out; omega
            clear hl0
            go_wp2
            go_ret
            exact ⟨_, out.set k ⟨x.p, 2, 0⟩, q + 1 + 1, rfl, own_set HO5.out HX.out 2 0, trivial, by rw [List.length_set]; have := HLN.out; omega, short_set HSH.out HX.out, by have := HQ.out; omega,
              (HR5.out.setNew _ _ (by have := HLE.out; have := HB.out.1; show N0 ≤ g; omega)).setNew _ _ (by have := HLE.out; have := HB.out.1; show N0 ≤ g; omega), grownBy_setCell_new (grownBy_setCell_new HG5.out _ _ HB.out.1) _ _ HB.out.1⟩
          · have ht2 : (tt == 2) = false := beq_eq_false_iff_ne.2 ht
            have HO6 := HO5
            clear ht t0 t1
            go_wp2
            go_ret
            exact ⟨_, out, q + 1 + 1, rfl, HO6.out, trivial, by have := HLN.out; omega, HSH.out, by have := HQ.out; omega, HR5.out, HG5.out⟩

end Go.Proofs.YtkaokncaockjkaaGreatDoor

/-
  WALKS: spec.l91In: a path of a drawn tree, or any path.
-/
namespace Go.Proofs.YtkaokncaockjkaaGreatDoor
open Go.RowKit
set_option linter.unusedVariables false

def twoLetters : List ByteArray := [⟨#[97]⟩, ⟨#[98]⟩]

set_option maxHeartbeats 2000000 in
set_option maxRecDepth 100000 in
theorem l91In_c (N0 B p base : Nat) (sl : Value) (ns : List Nd) (hlen : ns.length ≤ 1000) (hs : Short 64 ns) (hb : B < base) (W : World) (hown : W.ownsRow base 47 3 sl ns.length (flatN ns)) (hp : p < 20000) (hR : RdAt N0 W B p) :
    Calls Tryz.prog 74 #[.pointer (some ⟨B, 0, none⟩), sl] W (StrPost N0 B p 8 66 W) := by
  have HPath := Lib.hid (fun q W hq hR => l91Path_c N0 B q W hq hR)
  have HPK := Lib.hid (fun q n h0 h1 W hq hR => pick_c N0 B q n h0 h1 W hq hR)
  have HPP := Lib.hid hp
  have HS := Lib.hid hs
  have HB := Lib.hid hb
  have HLN := Lib.hid hlen
  clear hp hs hb hlen
  by_cases h0 : ns.length = 0
  · obtain ⟨a, cap, rfl, -⟩ := nodes_of_own hown
    have h0' : (ns.length : Int) = 0 := by omega
    clear h0 hown
    go_enter Tryz.func74, Tryz.ntmps74
    go_wp2_with fail
    refine (HPath.out p _ (by have := HPP.out; omega) hR).mono ?_; rintro e W1 ⟨s, q, rfl, hs, hq, hR1, hg1⟩
    have HX := Lib.hid (And.intro hs hq)
    clear hs hq hR
    go_wp2
    go_ret
    exact ⟨s, q, rfl, by have := HX.out.1; omega, by have := HX.out.2; omega, hR1, hg1⟩
  · obtain ⟨g, cap, rfl, hgb, hgw⟩ := own_slice hown (by omega)
    have hl1 : (0 : Int) < ns.length := by omega
    have HL0 := Lib.hid (show 0 < ns.length by omega)
    clear h0 hgb hgw
    go_enter Tryz.func74, Tryz.ntmps74
    go_wp2_with fail
    refine (HPK.out p 4 (by omega) (by omega) _ (by have := HPP.out; omega) hR).mono ?_; rintro e W1 ⟨r, rfl, r0, r1, hR1, hg1⟩
    have hown1 := own_reader hown HB.out hg1
    have HG1 := Lib.hid hg1
    clear hown hR hg1
    by_cases hr : 0 < r
    · have hr' : decide (0 < r) = true := decide_eq_true hr
      clear r0 r1
      go_wp2_with fail
      refine (HPK.out (p + 1) ns.length (by have := HL0.out; omega) (by have := HLN.out; omega) _ (by have := HPP.out; omega) hR1).mono ?_; rintro e W2 ⟨k', rfl, k0, k1, hR2, hg2⟩
      obtain ⟨k, rfl⟩ := Int.eq_ofNat_of_zero_le k0
      have HK := Lib.hid (show k < ns.length by omega)
      have HO2 := Lib.hid (own_reader hown1 HB.out hg2)
      have HG2 := Lib.hid (grownBy_trans HG1.out hg2)
      obtain ⟨x, hx⟩ : ∃ x, ns[k]? = some x := ⟨_, List.getElem?_eq_getElem HK.out⟩
      have hsz : x.p.size ≤ 64 := HS.out x (List.mem_of_getElem? hx)
      have c0 : W2.cell? ⟨g, k * 3, none⟩ = some (.string x.p) := by rw [HO2.out.cellAt _ (by have := HK.out; omega)]; exact (flatN_get ns k x hx).1
      have hkl : (k : Int) < ns.length := by have := HK.out; omega
      generalize x.p = s at hsz c0
      clear k0 k1 hown1 hR1 hg2 hx
      go_wp2_with fail
      refine (HPK.out (p + 1 + 1) 4 (by omega) (by omega) _ (by have := HPP.out; omega) hR2).mono ?_; rintro e W3 ⟨t, rfl, t0, t1, hR3, hg3⟩
      have HG3 := Lib.hid (grownBy_trans HG2.out hg3)
      have HSZ := Lib.hid hsz
      clear c0 hR2 hg3 hkl
      by_cases ht : t = 0
      · subst ht
        clear t0 t1
        have HO := Lib.hid (of_lit N0 B (p + 1 + 1 + 1) twoLetters 2 rfl (by omega) (by omega) W3 (by have := HPP.out; omega) hR3 _ rfl)
        simp only [twoLetters, List.map_cons, List.map_nil] at HO
        go_wp2_with fail
        refine HO.out.mono ?_; rintro e W4 ⟨y, hy, rfl, hR4, hg4⟩
        have hy1 : y.size ≤ 1 := by
          simp at hy
          rcases hy with rfl | rfl <;> decide
        clear hy hR3
        go_wp2
        go_ret
        exact ⟨_, p + 1 + 1 + 1 + 1, rfl, by rw [ByteArray.size_append, ByteArray.size_append]; show s.size + 1 + _ ≤ 66; omega, by omega, hR4, grownBy_trans HG3.out hg4⟩
      · have ht' : (t == 0) = false := beq_eq_false_iff_ne.2 ht
        clear t0 t1 ht
        go_wp2
        go_ret
        exact ⟨_, p + 1 + 1 + 1, rfl, by omega, by omega, hR3, HG3.out⟩
    · have hr' : decide (0 < r) = false := decide_eq_false hr
      clear r0 r1
      go_wp2_with fail
      refine (HPath.out (p + 1) _ (by have := HPP.out; omega) hR1).mono ?_; rintro e W2 ⟨s, q, rfl, hs, hq, hR2, hg2⟩
      have HX := Lib.hid (And.intro hs hq)
      clear hs hq hR1
      go_wp2
      go_ret
      exact ⟨s, q, rfl, by have := HX.out.1; omega, by have := HX.out.2; omega, hR2, grownBy_trans HG1.out hg2⟩

end Go.Proofs.YtkaokncaockjkaaGreatDoor

/-
  WALKS: spec.DrawTreeValid, DrawTreeGet, DrawTreePut, DrawTreeUnder.
-/
namespace Go.Proofs.YtkaokncaockjkaaGreatDoor
open Go.RowKit
set_option linter.unusedVariables false

/-- A drawn list of nodes, in memory of the call's own. -/
def Drawn (W W' : World) (sl : Value) (ns : List Nd) : Prop :=
  W'.ownsRow W.heap.size 47 3 sl ns.length (flatN ns) ∧ ns.length ≤ 11 ∧ Short 64 ns ∧ Below W.heap.size W W'

def ListPost (W : World) (e : Ending) (W' : World) : Prop := ∃ sl ns, e = .returned sl ∧ Drawn W W' sl ns
def ListPathPost (W : World) (e : Ending) (W' : World) : Prop := ∃ sl ns s, e = .returned (.tuple #[sl, .string s]) ∧ s.size ≤ 66 ∧ Drawn W W' sl ns
def ListPutPost (W : World) (e : Ending) (W' : World) : Prop := ∃ sl ns s, ∃ k v : Int, e = .returned (.tuple #[sl, .string s, con k v]) ∧ s.size ≤ 66 ∧ Drawn W W' sl ns

theorem triple_results (fn : Func) (hf : fn.results = #[.tmp 2, .tmp 3, .cell 4 33]) (W : World) (n : Nat) (k v : Int) (sl x : Value) (tmps : Array Value) (h2 : tmps[2]? = some sl) (h3 : tmps[3]? = some x) (ht : tmps[4]? = some (.pointer (some ⟨n, 0, none⟩)))
    (h : W.cell? ⟨n, 0, none⟩ = some (.int .i64 k) ∧ W.cell? ⟨n, 1, none⟩ = some (.int .i64 v)) : (results fn tmps).run Tryz.prog W = .ok (.tuple #[sl, x, con k v]) W := by
  obtain ⟨c0, c1⟩ := h
  simp [results, hf, go_sem, h2, h3, ht, c0, c1]

theorem own_setOther {W : World} {base : Nat} {e : TypeId} {size n : Nat} {v : Value} {xs : List Value} (h : W.ownsRow base e size v n xs) (a : Addr) (u : Value) (ha : a.block < base) : (W.setCell a u).ownsRow base e size v n xs := by
  refine h.kept (row := some a.block) ⟨rfl, rfl, rfl, by simp [World.setCell], fun k _ hk => Below.heap_setCell _ _ _ _ (fun e => hk (by rw [e]))⟩ ?_
  cases hv : v.ownBlock with
  | none => exact .inl rfl
  | some k =>
    right
    have := (h.lt k hv).1
    simp; omega

/-- END OF PUT -/
theorem drewN_heap (W : World) (n : Nat) : (W.drewN n).heap = W.heap := (drewN_cell W n ⟨0, 0, none⟩).2.2
theorem drawn_drewN {W W' : World} {sl : Value} {ns : List Nd} (h : Drawn W W' sl ns) (n : Nat) : Drawn W (W'.drewN n) sl ns := by
  obtain ⟨h1, h2, h3, h4⟩ := h
  have hb : Below W'.heap.size W' (W'.drewN n) := ⟨rfl, rfl, rfl, by rw [drewN_heap]; exact Nat.le_refl _, fun k _ => by rw [drewN_heap]⟩
  exact ⟨own_below h1 hb, h2, h3, below_next h4 hb⟩

end Go.Proofs.YtkaokncaockjkaaGreatDoor

/-
  WALKS: commands that are drawn: spec.l91Command, DrawCommandValid, DrawCommandUndo, DrawCommandText, DrawCommandApply, DrawCommandParse.
-/
namespace Go.Proofs.YtkaokncaockjkaaGreatDoor
open Go.RowKit
set_option linter.unusedVariables false

/-- A drawn command: its path is short; the reader some places on. -/
def CmdDraw (N0 B p : Nat) (W : World) (e : Ending) (W' : World) : Prop :=
  ∃ (c : Cmd) (q : Nat), e = .returned (cmdV c) ∧ c.p.size ≤ 66 ∧ q ≤ p + 17 ∧ RdAt N0 W' B q ∧ W.grownBy W' (some B)

theorem cmd_draw {N0 B p q : Nat} {W W' : World} {t : ByteArray} {fk fv tk tv : Int} (hs : t.size ≤ 66) (hq : q ≤ p + 17) (hR : RdAt N0 W' B q) (hg : W.grownBy W' (some B)) (hL : N0 ≤ W.heap.size) :
    CmdDraw N0 B p W (.returned (cmdV ⟨t, fk, fv, tk, tv⟩)) (((((W'.setCell ⟨W.heap.size, 0, none⟩ (.string t)).setCell ⟨W.heap.size, 1, none⟩ (.int .i64 fk)).setCell ⟨W.heap.size, 2, none⟩ (.int .i64 fv)).setCell ⟨W.heap.size, 3, none⟩ (.int .i64 tk)).setCell ⟨W.heap.size, 4, none⟩ (.int .i64 tv)) :=
  ⟨⟨t, fk, fv, tk, tv⟩, q, rfl, hs, hq, ((((hR.setNew _ _ hL).setNew _ _ hL).setNew _ _ hL).setNew _ _ hL).setNew _ _ hL,
    grownBy_setCell_new (grownBy_setCell_new (grownBy_setCell_new (grownBy_setCell_new (grownBy_setCell_new hg _ _ (Nat.le_refl _)) _ _ (Nat.le_refl _)) _ _ (Nat.le_refl _)) _ _ (Nat.le_refl _)) _ _ (Nat.le_refl _)⟩

set_option maxHeartbeats 2000000 in
set_option maxRecDepth 100000 in
theorem l91Command_c (N0 B p base : Nat) (sl : Value) (ns : List Nd) (hlen : ns.length ≤ 11) (hs : Short 64 ns) (hb : B < base) (W : World) (hown : W.ownsRow base 47 3 sl ns.length (flatN ns)) (hp : p < 19000) (hR : RdAt N0 W B p) :
    Calls Tryz.prog 48 #[.pointer (some ⟨B, 0, none⟩), sl] W (CmdDraw N0 B p W) := by
  have HI := Lib.hid (fun W' h1 h2 => l91In_c N0 B p base sl ns (by omega) hs hb W' h1 (by omega) h2)
  have HC := Lib.hid (fun q W1 hq hR => l91Content_c N0 B q W1 hq hR)
  have HPK := Lib.hid (fun q n h0 h1 W hq hR => pick_c N0 B q n h0 h1 W hq hR)
  have HLT := Lib.hid hR.lt
  have HLE := Lib.hid hR.le
  have HO := Lib.hid hown
  have HR := Lib.hid hR
  have HB := Lib.hid hb
  have HP := Lib.hid hp
  obtain ⟨a, cap, rfl, hN⟩ := nodes_of_own hown
  have HN := Lib.hid hN
  have HG := Lib.hid (fun x W' (h : NodesAt W' a ns.length ns) => l3Get_c a ns.length cap ns x (by omega) W' h)
  clear hR hown hs hb hp hN hlen
  go_enter Tryz.func48, Tryz.ntmps48
  go_wp2_with fail
  refine (HI.out _ (own_below HO.out (below_box W _)) (HR.out.alloc _)).mono ?_
  rintro e W1 ⟨s, q1, rfl, hs1, hq1, hR1, hg1⟩
  have T1 := Lib.hid (five_grown hg1 HLT.out)
  have G1 := Lib.hid (grownBy_trans (grownBy_new W _ (some B)) hg1)
  have Q1 := Lib.hid (And.intro hs1 hq1)
  have HR1 := Lib.hid hR1
  clear hs1 hq1 hR1 hg1
  go_wp2_with fail
  refine (HC.out q1 _ (by have := HP.out; have := Q1.out.2; omega) HR1.out).mono ?_
  rintro e W2 ⟨k, v, q2, rfl, -, -, -, -, hq2, hR2, hg2⟩
  have T2 := Lib.hid (T1.out.keep hg2 (by have := HLT.out; omega))
  have G2 := Lib.hid (grownBy_trans G1.out hg2)
  have Q2 := Lib.hid hq2
  have HR2 := Lib.hid hR2
  have O2 := Lib.hid (own_reader HO.out HB.out G2.out)
  clear hq2 hR2 hg2 T1 G1 HR1
  go_wp2_with fail
  obtain ⟨⟨gk, gv⟩, hg⟩ : ∃ g, getT ns s = g := ⟨_, rfl⟩
  obtain ⟨a', cap', ee, hN2⟩ := nodes_of_own O2.out
  cases ee
  have HG2 := Lib.hid (show Calls Tryz.prog 35 #[.slice a ns.length cap, .string s] (W2.alloc (.cells #[.string s, .int .i64 0, .int .i64 0, .int .i64 k, .int .i64 v] 35)) (ConRet gk gv (W2.alloc (.cells #[.string s, .int .i64 0, .int .i64 0, .int .i64 k, .int .i64 v] 35))) by
    have := HG.out s _ (hN2.keep (below_box W2 (.cells #[.string s, .int .i64 0, .int .i64 0, .int .i64 k, .int .i64 v] 35)))
    rw [hg] at this
    exact this)
  clear hg hN2
  refine HG2.out.mono ?_
  rintro e W3 ⟨rfl, hb3⟩
  have F3 := Lib.hid ((five_new W2 _ _ _ _ _ _).below hb3)
  have T3 := Lib.hid ((T2.out.alloc _).below hb3)
  have G3 := Lib.hid (grownBy_below (grownBy_trans G2.out (grownBy_new W2 _ (some B))) hb3)
  have R3 := Lib.hid ((HR2.out.alloc _).keep hb3)
  have HZ := Lib.hid (And.intro HR2.out.le HR2.out.lt)
  have HW := Lib.hid (show W.heap.size < W2.heap.size from T2.out.2.2.2.2.2.2.2.2.2.2)
  clear hb3 HG2 T2 G2 O2 HR2
  obtain ⟨c0, c1, c2, c3, c4, f0, f1, f2, f3, f4, -⟩ := F3.out
  unfold con
  go_wp2_with fail
  refine (HPK.out q2 12 (by omega) (by omega) _ (by have := HP.out; have := Q1.out.2; have := Q2.out; omega) ((R3.out.setNew _ _ (by exact HZ.out.1)).setNew _ _ (by exact HZ.out.1))).mono ?_
  rintro e W4 ⟨r, rfl, r0, -, hR4, hg4⟩
  have F4 := Lib.hid ((F3.out.set1 (x := .int .i64 gk)).set2 (x := .int .i64 gv) |>.keep hg4 (by have := HZ.out.2; omega))
  have T4 := Lib.hid (((T3.out.setOther (x := ⟨W2.heap.size, 1, none⟩) (v := .int .i64 gk) (by have := HW.out; simp; omega)).setOther (x := ⟨W2.heap.size, 2, none⟩) (v := .int .i64 gv) (by have := HW.out; simp; omega)).keep hg4 (by have := HLT.out; omega))
  have G4 := Lib.hid (grownBy_trans (grownBy_setCell_new (grownBy_setCell_new G3.out ⟨W2.heap.size, 1, none⟩ (.int .i64 gk) (by have := HW.out; simp; omega)) ⟨W2.heap.size, 2, none⟩ (.int .i64 gv) (by have := HW.out; simp; omega)) hg4)
  have R4 := Lib.hid hR4
  clear hR4 hg4 F3 T3 G3 R3 c0 c1 c2 c3 c4 f0 f1 f2 f3 f4
  by_cases hr : r = 0
  · subst hr
    clear r0
    go_wp2_with fail
    refine (HC.out _ _ (by have := HP.out; have := Q1.out.2; have := Q2.out; omega) R4.out).mono ?_
    rintro e W5 ⟨k5, v5, q5, rfl, -, -, -, -, hq5, hR5, hg5⟩
    have F5 := Lib.hid (F4.out.keep hg5 (by have := HZ.out.2; omega))
    have T5 := Lib.hid (T4.out.keep hg5 (by have := HLT.out; omega))
    have G5 := Lib.hid (grownBy_trans G4.out hg5)
    have F6 := Lib.hid ((F5.out.set1 (x := .int .i64 k5)).set2 (x := .int .i64 v5))
    have T6 := Lib.hid ((T5.out.setOther (x := ⟨W2.heap.size, 1, none⟩) (v := .int .i64 k5) (by have := HW.out; simp; omega)).setOther (x := ⟨W2.heap.size, 2, none⟩) (v := .int .i64 v5) (by have := HW.out; simp; omega))
    have G6 := Lib.hid (grownBy_setCell_new (grownBy_setCell_new G5.out ⟨W2.heap.size, 1, none⟩ (.int .i64 k5) (by have := HW.out; simp; omega)) ⟨W2.heap.size, 2, none⟩ (.int .i64 v5) (by have := HW.out; simp; omega))
    have R6 := Lib.hid ((hR5.setNew ⟨W2.heap.size, 1, none⟩ (.int .i64 k5) (by exact HZ.out.1)).setNew ⟨W2.heap.size, 2, none⟩ (.int .i64 v5) (by exact HZ.out.1))
    have HQ5 := Lib.hid hq5
    obtain ⟨c0, c1, c2, c3, c4, f0, f1, f2, f3, f4, -⟩ := F5.out
    clear hq5 hR5 hg5
    unfold con
    go_upto_region 5 with (fail)
    clear c0 c1 c2 c3 c4 f0 f1 f2 f3 f4
    generalize (W5.setCell ⟨W2.heap.size, 1, none⟩ (.int .i64 k5)).setCell ⟨W2.heap.size, 2, none⟩ (.int .i64 v5) = W6 at F6 T6 G6 R6 ⊢
    obtain ⟨c0, c1, c2, c3, c4, -⟩ := F6.out
    obtain ⟨t0, t1, t2, t3, t4, f0, f1, f2, f3, f4, -⟩ := T6.out
    go_wp2
    exact bodyPost_ret (cmd_results _ rfl _ W.heap.size ⟨s, k5, v5, k, v⟩ _ rfl T6.out.setAll) rfl (cmd_draw Q1.out.1 (by have := Q1.out.2; have := Q2.out; have := HQ5.out; omega) R6.out G6.out (HLE.out))
  · have hb0 : (r == 0) = false := beq_eq_false_iff_ne.2 hr
    clear r0 hr
    obtain ⟨c0, c1, c2, c3, c4, -⟩ := F4.out
    obtain ⟨t0, t1, t2, t3, t4, f0, f1, f2, f3, f4, -⟩ := T4.out
    go_wp2
    exact bodyPost_ret (cmd_results _ rfl _ W.heap.size ⟨s, gk, gv, k, v⟩ _ rfl T4.out.setAll) rfl (cmd_draw Q1.out.1 (by have := Q1.out.2; have := Q2.out; omega) R4.out G4.out (HLE.out))

end Go.Proofs.YtkaokncaockjkaaGreatDoor

/-
  WALKS: logs that are drawn: spec.l91Log.
-/
namespace Go.Proofs.YtkaokncaockjkaaGreatDoor
open Go.RowKit
set_option linter.unusedVariables false

/-- A drawn list of commands, of the call's own. -/
def LogDraw (N0 B p c d : Nat) (W : World) (e : Ending) (W' : World) : Prop :=
  ∃ (sl : Value) (out : List Cmd) (q : Nat), e = .returned sl ∧ W'.ownsRow W.heap.size 35 5 sl out.length (flatC out) ∧ out.length ≤ c ∧ ShortC 66 out ∧ q ≤ p + d ∧ RdAt N0 W' B q ∧ W.grownBy W' (some B)

theorem push_reader {N0 B q : Nat} {W w5 w6 : World} {v : Value} (hv : ∀ k, v.ownBlock = some k → W.heap.size ≤ k) (hle : N0 ≤ W.heap.size) (hR : RdAt N0 w5 B q) (hg : w5.grownBy w6 v.ownBlock) : RdAt N0 w6 B q :=
  hR.kept ⟨hg.os, hg.tape, hg.output, hg.size, fun b hb => hg.block b (Nat.lt_of_lt_of_le hb hR.le) (fun e => by have := hv b e.symm; omega)⟩

theorem push_grown {B : Nat} {W w5 w6 : World} {v : Value} (hv : ∀ k, v.ownBlock = some k → W.heap.size ≤ k) (hG : W.grownBy w5 (some B)) (hg : w5.grownBy w6 v.ownBlock) : W.grownBy w6 (some B) :=
  ⟨hg.os.trans hG.os, hg.tape.trans hG.tape, hg.output.trans hG.output, Nat.le_trans hG.size hg.size, fun b hb hne => (hg.block b (Nat.lt_of_lt_of_le hb hG.size) (fun e => by have := hv b e.symm; omega)).trans (hG.block b hb hne)⟩

theorem apply_short64 {ns out : List Nd} {c : Cmd} (h : applyC ns c = (out, true)) (hs : Short 64 ns) : Short 64 out ∧ out.length ≤ 10 := by
  obtain ⟨_, h2, _, h4⟩ := applyC_some h
  obtain ⟨_, _, _, h5, h6⟩ := treePut_some h4
  have hp := pathB_size ((validC_iff c).1 h2).1
  refine ⟨?_, ((validT_iff out).1 h6).2.2⟩
  rw [h5]
  exact short_put hs (by omega)

theorem shortC_push {m : Nat} {cs : List Cmd} {c : Cmd} (h : ShortC m cs) (hc : c.p.size ≤ m) : ShortC m (cs ++ [c]) := by
  intro x hx
  rcases List.mem_append.1 hx with hx | hx
  · exact h x hx
  · rw [List.mem_singleton.1 hx]; exact hc

def LogRel (N0 B p base : Nat) (n : Int) (W : World) (o tv i : Value) (wr : World) : Prop :=
  ∃ (acc : List Cmd) (t : List Nd) (j q : Nat), i = .int .i64 j ∧ (j : Int) ≤ n ∧ acc.length ≤ 20 ∧ wr.ownsRow W.heap.size 35 5 o acc.length (flatC acc) ∧ wr.ownsRow base 47 3 tv t.length (flatN t) ∧ Hid (t.length ≤ 11) ∧ Hid (Short 64 t) ∧ Hid (ShortC 66 acc) ∧ Hid (q ≤ p + 17 * j) ∧ RdAt N0 wr B q ∧ Hid (W.grownBy wr (some B))

set_option maxHeartbeats 4000000 in
set_option maxRecDepth 100000 in
theorem l91Log_c (N0 B p base : Nat) (sl : Value) (ns : List Nd) (n : Int) (hn0 : 0 ≤ n) (hn : n ≤ 60) (hlen : ns.length ≤ 11) (hs : Short 64 ns) (hb : B < base) (W : World) (hbW : base ≤ W.heap.size) (hown : W.ownsRow base 47 3 sl ns.length (flatN ns)) (hp : p < 15000) (hR : RdAt N0 W B p) :
    Calls Tryz.prog 26 #[.pointer (some ⟨B, 0, none⟩), sl, .int .i64 n] W (LogDraw N0 B p 20 1020 W) := by
  have HLT := Lib.hid hR.lt
  have HLE := Lib.hid hR.le
  have HC := Lib.hid (fun q tv t (h1 : t.length ≤ 11) (h2 : Short 64 t) W' h3 hq hR => l91Command_c N0 B q base tv t h1 h2 hb W' h3 hq hR)
  have HPP := Lib.hid hp
  have HN := Lib.hid hn
  have HB := Lib.hid hb
  have HBW := Lib.hid hbW
  have HL := Lib.hid hlen
  have HS := Lib.hid hs
  have HO := Lib.hid hown
  have HRD := Lib.hid hR
  clear hp hb hbW hlen hs hown hR
  go_enter Tryz.func26, Tryz.ntmps26
  go_wp2
  go_loopw [7, 8, 9, 10, 11, 12] (fun o tv i _ _ _ wr => LogRel N0 B p base n W o tv i wr) (fun _ _ i _ _ _ _ => (n - intOf i).toNat)
  case atStart => exact ⟨[], ns, 0, p, rfl, hn0, by simp, World.ownsRow_lit (e := 35) (size := 5) W #[] 0 (Nat.le_refl _) (by simp [maxLen]) rfl, HO.out.alloc _, HL, HS, (by intro x hx; cases hx), (by show p ≤ _; omega), HRD.out.alloc _, grownBy_new _ _ _⟩
  case round =>
    obtain ⟨acc, t, j, q, rfl, hj, hal, hrow, htree, HTL, HTS, HAS, HQ, hRq, HG⟩ := hrel
    by_cases hlt : (j : Int) < n
    · by_cases hfull : acc.length < 20
      · have HJ := Lib.hid hlt
        have HF := Lib.hid hfull
        have hfl : (acc.length : Int) < 20 := by omega
        have HROW := Lib.hid hrow
        have HTR := Lib.hid htree
        have HRQ := Lib.hid hRq
        obtain ⟨ao, co, rfl, -⟩ := cmds_of_own hrow
        have HVB := Lib.hid (fun k (e : (Value.slice ao acc.length co).ownBlock = some k) => (hrow.lt k e).1)
        clear hj hal hrow htree hRq hfull
        go_wp2_with fail
        refine (HC.out q _ t HTL.out HTS.out _ HTR.out (by have h5 := HQ.out; have h6 := HPP.out; have h7 := HN.out; have h8 := HJ.out; omega) HRQ.out).mono ?_
        rintro e W2 ⟨c, q2, rfl, hc66, hq2, hR2, hg2⟩
        have HROW2 := Lib.hid (own_reader HROW.out HLT.out hg2)
        have HTR2 := Lib.hid (own_reader HTR.out HB.out hg2)
        have HG2 := Lib.hid (grownBy_trans HG.out hg2)
        have HR2 := Lib.hid hR2
        have HQ2 := Lib.hid (And.intro hc66 hq2)
        obtain ⟨ta, tc, rfl, htn⟩ := nodes_of_own HTR2.out
        obtain ⟨⟨out, ok⟩, hr⟩ : ∃ r, applyC t c = r := ⟨_, rfl⟩
        have HA := Lib.hid (fun W' (hb : Below W2.heap.size W2 W') => show Calls Tryz.prog 18 #[.slice ta t.length tc, cmdV c] W' (fun e w' => ∃ sl, e = .returned (.tuple #[sl, .bool ok]) ∧ w'.ownsRow W'.heap.size 47 3 sl out.length (flatN out) ∧ Below W'.heap.size W' w') by
          have := specCmdApply_c ta t.length tc t c (by have := HTL.out; omega) (fun n hn => by have := HTS.out n hn; omega) (by omega) W' (htn.keep hb)
          rw [hr] at this; exact this)
        have HRR := Lib.hid hr
        obtain ⟨p', fk, fv, tk, tv⟩ := c
        unfold cmdV at HA ⊢
        simp only at HA HQ2
        clear hc66 hq2 hR2 hg2 htn hr
        go_wp2_with fail
        refine (HA.out _ (below_box _ _)).mono ?_
        rintro e W3 ⟨sl3, rfl, ho3, hb3⟩
        have F3 := Lib.hid ((five_new W2 (.string p') (.int .i64 fk) (.int .i64 fv) (.int .i64 tk) (.int .i64 tv) 35).below hb3)
        have hbb := below_next (below_box W2 (.cells #[.string p', .int .i64 fk, .int .i64 fv, .int .i64 tk, .int .i64 tv] 35)) hb3
        have HROW3 := Lib.hid (own_below HROW2.out hbb)
        have HTR3 := Lib.hid (own_below HTR2.out hbb)
        have HG3 := Lib.hid (grownBy_below HG2.out hbb)
        have HR3 := Lib.hid (HR2.out.keep hbb)
        have HO3 := Lib.hid (own_mono ho3 (show base ≤ (W2.alloc (.cells #[.string p', .int .i64 fk, .int .i64 fv, .int .i64 tk, .int .i64 tv] 35)).heap.size by have h1 := HBW.out; have h2 := HG2.out.size; simp; omega))
        clear ho3 hb3 hbb
        cases ok with
        | false =>
          go_wp2
          go_roundw
          case rel => exact ⟨acc, t, j + 1, q2, by go_num, by have := HJ.out; omega, by have := HF.out; omega, HROW3.out, HTR3.out, HTL, HTS, HAS, (by show q2 ≤ _; have h5 := HQ.out; have h6 := HQ2.out.2; omega), HR3.out, HG3⟩
          case measure => have := HJ.out; simp [intOf]; omega
        | true =>
          have HSS := Lib.hid (apply_short64 HRR.out HTS.out)
          obtain ⟨c0, c1, c2, c3, c4, -⟩ := F3.out
          go_wp2_with (at_builtin; refine wpList_append_cmds rfl _ _ rfl W.heap.size _ acc rfl (HROW3.out.alloc _) _ _ _ [⟨p', fk, fv, tk, tv⟩] rfl (cmds_lit W3 ⟨p', fk, fv, tk, tv⟩) (by have := HF.out; simp; omega) (by have := HG3.out.size; simp; omega) ?_; intro v4 w4 ho4 hg4)
          have hg4' := grownBy_trans (grownBy_new W3 (.cells #[.string p', .int .i64 fk, .int .i64 fv, .int .i64 tk, .int .i64 tv] 35) _) hg4
          have HR4 := Lib.hid (push_reader HVB.out HLE.out HR3.out hg4')
          have HG4 := Lib.hid (push_grown HVB.out HG3.out hg4')
          have HT4 := Lib.hid (apart_type HO3.out HROW3.out (by decide) hg4')
          clear hg4 hg4' c0 c1 c2 c3 c4
          go_roundw
          case rel => exact ⟨acc ++ [⟨p', fk, fv, tk, tv⟩], out, j + 1, q2, by go_num, by have := HJ.out; omega, by have := HF.out; simp; omega, ho4, HT4.out, (by show out.length ≤ 11; have := HSS.out.2; omega), HSS.out.1, shortC_push HAS.out HQ2.out.1, (by show q2 ≤ _; have h5 := HQ.out; have h6 := HQ2.out.2; omega), HR4.out, HG4⟩
          case measure => have := HJ.out; simp [intOf]; omega
      · have hge : (20 : Int) ≤ acc.length := by omega
        have HJ := Lib.hid hj
        obtain ⟨ao, co, rfl, -⟩ := cmds_of_own hrow
        clear hj hfull
        go_wp2
        go_ret
        exact ⟨_, acc, q, rfl, hrow, hal, HAS.out, by have h5 := HQ.out; have h6 := HJ.out; have h7 := HN.out; omega, hRq, HG.out⟩
    · have hge : n ≤ (j : Int) := by omega
      have HJ := Lib.hid hj
      obtain ⟨ao, co, rfl, -⟩ := cmds_of_own hrow
      clear hj hlt
      go_wp2
      go_ret
      exact ⟨_, acc, q, rfl, hrow, hal, HAS.out, by have h5 := HQ.out; have h6 := HJ.out; have h7 := HN.out; omega, hRq, HG.out⟩

end Go.Proofs.YtkaokncaockjkaaGreatDoor

/-
  WALKS: logs that are drawn, seldom broken ones (spec.l91Broken); spec.DrawLogValid, DrawLogUndo, DrawLogApply, DrawLogFits.
-/
namespace Go.Proofs.YtkaokncaockjkaaGreatDoor
open Go.RowKit
set_option linter.unusedVariables false

theorem flatC_cons (c : Cmd) (t : List Cmd) : flatC (c :: t) = .string c.p :: .int .i64 c.fk :: .int .i64 c.fv :: .int .i64 c.tk :: .int .i64 c.tv :: flatC t := rfl

theorem flatC_setTo : ∀ (cs : List Cmd) (i : Nat) (c : Cmd) (k v : Int), cs[i]? = some c → ((flatC cs).set (i * 5 + 3) (.int .i64 k)).set (i * 5 + 4) (.int .i64 v) = flatC (cs.set i ⟨c.p, c.fk, c.fv, k, v⟩)
  | [], i, c, k, v, h => by simp at h
  | m :: r, 0, c, k, v, h => by
    simp at h
    subst h
    rfl
  | m :: r, i + 1, c, k, v, h => by
    have ih := flatC_setTo r i c k v (by simpa using h)
    rw [List.set_cons_succ, flatC_cons m r, flatC_cons m (r.set i _), ← ih, show (i + 1) * 5 + 3 = (i * 5 + 3) + 5 by omega, show (i + 1) * 5 + 4 = (i * 5 + 4) + 5 by omega]
    rfl

theorem flatC_setPath : ∀ (cs : List Cmd) (i : Nat) (c : Cmd) (s : ByteArray), cs[i]? = some c → (flatC cs).set (i * 5) (.string s) = flatC (cs.set i ⟨s, c.fk, c.fv, c.tk, c.tv⟩)
  | [], i, c, s, h => by simp at h
  | m :: r, 0, c, s, h => by
    simp at h
    subst h
    rfl
  | m :: r, i + 1, c, s, h => by
    have ih := flatC_setPath r i c s (by simpa using h)
    rw [List.set_cons_succ, flatC_cons m r, flatC_cons m (r.set i _), ← ih, show (i + 1) * 5 = i * 5 + 5 by omega]
    rfl

theorem own_setTo {W : World} {base : Nat} {e : TypeId} {g cap : Nat} {cs : List Cmd} {i : Nat} {c : Cmd} (h : W.ownsRow base e 5 (.slice (some ⟨g, 0, none⟩) cs.length cap) cs.length (flatC cs)) (hn : cs[i]? = some c) (k v : Int) :
    ((W.setCell ⟨g, i * 5 + 3, none⟩ (.int .i64 k)).setCell ⟨g, i * 5 + 3 + 1, none⟩ (.int .i64 v)).ownsRow base e 5 (.slice (some ⟨g, 0, none⟩) cs.length cap) (cs.set i ⟨c.p, c.fk, c.fv, k, v⟩).length (flatC (cs.set i ⟨c.p, c.fk, c.fv, k, v⟩)) := by
  have := ((h.stored (i * 5 + 3) (.int .i64 k)).1.stored (i * 5 + 4) (.int .i64 v)).1
  rw [flatC_setTo cs i c k v hn] at this
  rw [List.length_set]
  exact this

theorem own_setPath {W : World} {base : Nat} {e : TypeId} {g cap : Nat} {cs : List Cmd} {i : Nat} {c : Cmd} (h : W.ownsRow base e 5 (.slice (some ⟨g, 0, none⟩) cs.length cap) cs.length (flatC cs)) (hn : cs[i]? = some c) (s : ByteArray) :
    (W.setCell ⟨g, i * 5, none⟩ (.string s)).ownsRow base e 5 (.slice (some ⟨g, 0, none⟩) cs.length cap) (cs.set i ⟨s, c.fk, c.fv, c.tk, c.tv⟩).length (flatC (cs.set i ⟨s, c.fk, c.fv, c.tk, c.tv⟩)) := by
  have := (h.stored (i * 5) (.string s)).1
  rw [flatC_setPath cs i c s hn] at this
  rw [List.length_set]
  exact this

theorem flatC_take (cs : List Cmd) (k : Nat) : (flatC cs).take (k * 5) = flatC (cs.take k) := by
  induction cs generalizing k with
  | nil => simp [flatC]
  | cons c r ih =>
    cases k with
    | zero => rfl
    | succ k =>
      rw [List.take_succ_cons, flatC_cons, flatC_cons, show (k + 1) * 5 = k * 5 + 5 by omega, ← ih k]
      rfl

/-- The first commands of a list of the call's own. -/
theorem own_takeC {W : World} {base : Nat} {e : TypeId} {g cap : Nat} {cs : List Cmd} (h : W.ownsRow base e 5 (.slice (some ⟨g, 0, none⟩) cs.length cap) cs.length (flatC cs)) (k : Nat) (hk : k ≤ cs.length) : W.ownsRow base e 5 (.slice (some ⟨g, 0, none⟩) k cap) (cs.take k).length (flatC (cs.take k)) := by
  have hl : (cs.take k).length = k := by rw [List.length_take]; omega
  rw [hl]
  obtain ⟨h1, h2⟩ := h
  refine ⟨by rw [flatC_length, hl], .inr ?_⟩
  rcases h2 with ⟨h3, _⟩ | ⟨g', cap', cur, h3, h4, h5, h6, h7, h8, h9⟩
  · cases h3
  · cases h3
    refine ⟨g, cap, cur, rfl, h4, h5, by omega, h7, h8, ?_⟩
    rw [← flatC_take, ← h9, List.take_take]
    congr 1
    omega

theorem own_sliceC {W : World} {base : Nat} {e : TypeId} {v : Value} {cs : List Cmd} (h : W.ownsRow base e 5 v cs.length (flatC cs)) (h0 : 0 < cs.length) : ∃ g cap, v = .slice (some ⟨g, 0, none⟩) cs.length cap ∧ base ≤ g ∧ cs.length ≤ cap ∧ cap ≤ maxLen := by
  rcases h.2 with ⟨_, h1⟩ | ⟨g, cap, cur, rfl, h1, h2, h3, h4, _⟩
  · omega
  · exact ⟨g, cap, rfl, h1, h3, h4⟩

/-- The last commands of a list of the call's own. -/
theorem own_tailC {W : World} {base : Nat} {e : TypeId} {g cap : Nat} {cs : List Cmd} (h : W.ownsRow base e 5 (.slice (some ⟨g, 0, none⟩) cs.length cap) cs.length (flatC cs)) (m : Nat) (hm : m ≤ cs.length) (o : Nat) (ho : o = m * 5 ∨ cs.length = m) : CmdsAt W (some ⟨g, o, none⟩) (cs.length - m) (cs.drop m) := by
  refine ⟨by rw [List.length_drop], ?_⟩
  rcases ho with rfl | ho
  · have := (cmds_own h).part m cs.length hm (Nat.le_refl _)
    rw [Nat.zero_add, show (cs.drop m).take (cs.length - m) = cs.drop m from List.take_of_length_le (by rw [List.length_drop]; exact Nat.le_refl _)] at this
    exact this.2
  · left; omega

theorem shortC_set {m : Nat} {cs : List Cmd} {i : Nat} {d : Cmd} (h : ShortC m cs) (hd : d.p.size ≤ m) : ShortC m (cs.set i d) := by
  intro x hx
  rcases List.mem_or_eq_of_mem_set hx with h1 | rfl
  · exact h x h1
  · exact hd

theorem shortC_part {m : Nat} {cs ds : List Cmd} (h : ShortC m cs) (hs : ∀ x ∈ ds, x ∈ cs) : ShortC m ds := fun x hx => h x (hs x hx)

def brokenPaths : List ByteArray := [⟨#[]⟩, ⟨#[47]⟩, ⟨#[47, 120]⟩]

set_option maxHeartbeats 4000000 in
set_option maxRecDepth 100000 in
theorem l91Broken_c (N0 B p base : Nat) (sl : Value) (ns : List Nd) (hlen : ns.length ≤ 11) (hs : Short 64 ns) (hb : B < base) (W : World) (hbW : base ≤ W.heap.size) (hown : W.ownsRow base 47 3 sl ns.length (flatN ns)) (hp : p < 10000) (hR : RdAt N0 W B p) :
    Calls Tryz.prog 12 #[.pointer (some ⟨B, 0, none⟩), sl] W (LogDraw N0 B p 21 1100 W) := by
  obtain ⟨i0, hi, hz0, hz1, hz2⟩ := info_parts infoCmd
  have HLT := Lib.hid hR.lt
  have HLE := Lib.hid hR.le
  have HP1 := Lib.hid (fun W hR => pick_c N0 B p 12 (by omega) (by omega) W (by omega) hR)
  have HP2 := Lib.hid (fun W hR => pick_c N0 B (p + 1) 10 (by omega) (by omega) W (by omega) hR)
  have HT := Lib.hid (fun n h0 h1 W' (hW : base ≤ W'.heap.size) ho hR => l91Log_c N0 B (p + 1 + 1) base sl ns n h0 h1 hlen hs hb W' hW ho (by omega) hR)
  have HPK := Lib.hid (fun q n h0 h1 W hq hR => pick_c N0 B q n h0 h1 W hq hR)
  have HC := Lib.hid (fun q W hq hR => l91Content_c N0 B q W hq hR)
  have HOF := Lib.hid (fun q W' (hq : q < 30000) hR => of_lit N0 B q brokenPaths 3 rfl (by decide) (by decide) W' hq hR #[.string ⟨#[]⟩, .string ⟨#[47]⟩, .string ⟨#[47, 120]⟩] rfl)
  have HPP := Lib.hid hp
  have HOW := Lib.hid hown
  have HBB := Lib.hid hb
  have HBW := Lib.hid hbW
  clear hp hown hb hbW hlen hs
  go_enter Tryz.func12, Tryz.ntmps12
  go_wp2_with fail
  refine (HP1.out _ hR).mono ?_; rintro e W1 ⟨n, rfl, n0, n1, hR1, hg1⟩
  have HN := Lib.hid (And.intro n0 n1)
  have HO1 := Lib.hid (own_reader HOW.out HBB.out hg1)
  clear n0 n1 hR
  go_wp2_with fail
  refine (HP2.out _ hR1).mono ?_; rintro e W2 ⟨r, rfl, r0, r1, hR2, hg2⟩
  have HG2 := Lib.hid (grownBy_trans hg1 hg2)
  have HO2 := Lib.hid (own_reader HO1.out HBB.out hg2)
  have HW2 := Lib.hid (show base ≤ W2.heap.size by have h1 := HG2.out.size; have h2 := HBW.out; omega)
  have HR2 := Lib.hid hR2
  clear hg1 hg2 hR1 hR2
  by_cases hr : r = 0
  · subst hr
    clear r0 r1
    go_wp2_with fail
    refine (HT.out 60 (by omega) (by omega) _ HW2.out HO2.out HR2.out).mono ?_; rintro e W3 ⟨v, out, q, rfl, hown0, hlen, hsh, hq, hR3, hg3⟩
    have hown := own_mono hown0 HG2.out.size
    have HG3 := Lib.hid (grownBy_trans HG2.out hg3)
    have HSH := Lib.hid hsh
    have HLN := Lib.hid hlen
    have HQ := Lib.hid hq
    have HR3 := Lib.hid hR3
    clear hown0 hg3 hsh hlen hq hR3
    by_cases hl0 : out.length = 0
    · obtain ⟨a, cap, rfl, -⟩ := cmds_of_own hown
      have HO := Lib.hid hown
      have hl0' : (out.length : Int) = 0 := by omega
      clear hl0 hown
      go_wp2
      go_ret
      exact ⟨_, out, q, rfl, HO.out, by have := HLN.out; omega, HSH.out, by have := HQ.out; omega, HR3.out, HG3.out⟩
    · have hl0 : 0 < out.length := by omega
      have hl1 : (0 : Int) < out.length := by omega
      obtain ⟨g, cap, rfl, hgb, hlc, hcm⟩ := own_sliceC hown hl0
      have HB := Lib.hid (And.intro hgb (And.intro hlc hcm))
      have HO3 := Lib.hid hown
      clear hgb hlc hcm hown
      go_wp2_with fail
      refine (HPK.out q out.length (by omega) (by have := HLN.out; omega) _ (by have := HQ.out; have := HPP.out; omega) HR3.out).mono ?_; rintro e W4 ⟨k', rfl, k0, k1, hR4, hg4⟩
      obtain ⟨k, rfl⟩ := Int.eq_ofNat_of_zero_le k0
      have HK := Lib.hid (show k < out.length by omega)
      have HO4 := Lib.hid (own_reader HO3.out HLT.out hg4)
      clear k0 k1
      go_wp2_with fail
      refine (HPK.out (q + 1) 14 (by omega) (by omega) _ (by have := HQ.out; have := HPP.out; omega) hR4).mono ?_; rintro e W5 ⟨tt, rfl, t0, t1, hR5, hg5⟩
      have HO5 := Lib.hid (own_reader HO4.out HLT.out hg5)
      have HG5 := Lib.hid (grownBy_trans HG3.out (grownBy_trans hg4 hg5))
      have HR5 := Lib.hid hR5
      obtain ⟨x, hx⟩ : ∃ x, out[k]? = some x := ⟨_, List.getElem?_eq_getElem HK.out⟩
      have HX := Lib.hid hx
      have hkl : (k : Int) < out.length := by have := HK.out; omega
      have HVB := Lib.hid (fun k (e : (Value.slice (some ⟨g, 0, none⟩) out.length cap).ownBlock = some k) => (HO5.out.lt k e).1)
      clear hx hg4 hg5 hR4 hR5 hl0
      by_cases ht : tt = 0
      · subst ht
        clear t0 t1
        go_wp2_with fail
        refine (HC.out (q + 1 + 1) _ (by have := HQ.out; have := HPP.out; omega) HR5.out).mono ?_; rintro e W6 ⟨k6, v6, q6, rfl, -, -, -, -, hq6, hR6, hg6⟩
        have HO6 := Lib.hid (own_reader HO5.out HLT.out hg6)
        have HG6 := Lib.hid (grownBy_trans HG5.out hg6)
        have HR6 := Lib.hid hR6
        have HQ6 := Lib.hid hq6
        obtain ⟨-, -, -, x3, x4⟩ := flatC_get out k x HX.out
        have c3 : W6.cell? ⟨g, k * 5 + 3, none⟩ = some (.int .i64 x.tk) := by rw [HO6.out.cellAt _ (by have := HK.out; omega)]; exact x3
        have c4 : W6.cell? ⟨g, k * 5 + 4, none⟩ = some (.int .i64 x.tv) := by rw [HO6.out.cellAt _ (by have := HK.out; omega)]; exact x4
        have z3 := HO6.out.frozenAt (k * 5 + 3)
        have z4 := HO6.out.frozenAt (k * 5 + 4)
        unfold con
        clear hq6 hR6 hg6 x3 x4
        go_wp2
        go_ret
        exact ⟨_, out.set k ⟨x.p, x.fk, x.fv, k6, v6⟩, q6, rfl, own_setTo HO6.out HX.out k6 v6, by rw [List.length_set]; have := HLN.out; omega, shortC_set HSH.out (show x.p.size ≤ 66 from HSH.out.at HX.out), by have := HQ.out; have := HQ6.out; omega,
          (HR6.out.setNew _ _ (by have := HLE.out; have := HB.out.1; show N0 ≤ g; omega)).setNew _ _ (by have := HLE.out; have := HB.out.1; show N0 ≤ g; omega), grownBy_setCell_new (grownBy_setCell_new HG6.out _ _ HB.out.1) _ _ HB.out.1⟩
      · have ht0 : (tt == 0) = false := beq_eq_false_iff_ne.2 ht
        clear ht
        by_cases ht : tt = 1
        · subst ht
          clear t0 t1
          have hk2 : (k : Int) ≤ cap := by have := HK.out; have := HB.out.2.1; omega
          have hk0 : (0 : Int) ≤ k := by omega
          have hk3 : (k : Int) + 1 ≤ out.length := by omega
          have hlc2 : (out.length : Int) ≤ cap := by have := HB.out.2.1; omega
          obtain ⟨m, hm⟩ : ∃ m, m = k + 1 := ⟨_, rfl⟩
          have hwr : IntKind.i64.wrap ((k : Int) + 1) = (m : Int) := (IntWalk.i64_in _ (by have := HLN.out; omega)).trans (by omega)
          have hm0 : (0 : Int) ≤ m := by omega
          have hm1 : (m : Int) ≤ out.length := by omega
          have hm2 : (m : Int) ≤ cap := by omega
          have hmm : m ≤ out.length := by omega
          have HM := Lib.hid (And.intro hm hmm)
          have HTK := Lib.hid (show W5.drew.ownsRow W.heap.size 35 5 (.slice (some ⟨g, 0, none⟩) k cap) k (flatC (out.take k)) by
            have := own_takeC HO5.out k (by have := HK.out; omega)
            rw [show (out.take k).length = k by rw [List.length_take]; have := HK.out; omega] at this
            exact this)
          have HFL := Lib.hid (show (flatC (out.drop m)).length = (out.length - m) * 5 by rw [flatC_length, List.length_drop])
          have HMX := Lib.hid (show k + (out.length - m) ≤ maxLen ∧ (k + (out.length - m)) * 48 ≤ 140737488355328 by unfold maxLen; have := HLN.out; have := HK.out; omega)
          have HBS := Lib.hid (show W.heap.size ≤ W5.drew.heap.size from HG5.out.size)
          have HSB := Lib.hid (show ShortC 66 (out.take k ++ out.drop m) from shortC_part HSH.out (fun y hy => by
            rcases List.mem_append.1 hy with h | h
            · exact List.mem_of_mem_take h
            · exact List.mem_of_mem_drop h))
          have HLB := Lib.hid (show (out.take k ++ out.drop m).length = k + (out.length - m) by rw [List.length_append, List.length_take, List.length_drop]; have := HK.out; omega)
          clear hm hmm
          have HVK := Lib.hid (fun k' (e : (Value.slice (some ⟨g, 0, none⟩) k cap).ownBlock = some k') => show W.heap.size ≤ k' by cases e; exact HB.out.1)
          by_cases hcap : cap = m
          · subst hcap
            have HCEL := Lib.hid (cmds_cells (show CmdsAt W5.drew (some ⟨g, 0, none⟩) (out.length - cap) (out.drop cap) from own_tailC HO5.out cap HM.out.2 0 (.inr (by have h1 := HB.out.2.1; have h2 := HM.out.2; omega))))
            have HG0 : Hid (W5.drew.grownBy W5.drew (some g)) := ⟨rfl, rfl, rfl, Nat.le_refl _, fun _ _ _ => rfl⟩
            go_upto_region 11 with (fail)
            refine wp_region_held_drew (S := (fun w' => W5.drew.grownBy w' (some g))) (by kernel_rfl) HG0.out (fun hH => ?_)
            refine wpAnyH_take (i := 0) (oi := _) (v := ?_) rfl (by kernel_rfl) (by kernel_rfl) (by kernel_rfl) (fun _ _ _ h => h) (Or.inl ⟨by rfl, ?_⟩) (by assumption) ?_
            rotate_left
            · (intro w hSw; (try dsimp only at hSw); go_simp; try with_reducible rfl)
            try simp only [Act.put, List.getElem_toArray, List.getElem_cons_zero, List.setIfInBounds_toArray, List.set_cons_zero, List.set_cons_succ]
            refine wpAnyH_take (i := 1) (oi := _) (v := ?_) rfl (by kernel_rfl) (by kernel_rfl) (by kernel_rfl) (fun _ _ _ h => h) (Or.inl ⟨by rfl, ?_⟩) (by assumption) ?_
            rotate_left
            · (intro w hSw; (try dsimp only at hSw); go_simp; try with_reducible rfl)
            try simp only [Act.put, List.getElem_toArray, List.getElem_cons_zero, List.getElem_cons_succ, List.setIfInBounds_toArray, List.set_cons_zero, List.set_cons_succ]
            refine wpAnyH_take (i := 2) (oi := _) (v := ?_) rfl (by kernel_rfl) (by kernel_rfl) (by kernel_rfl) (fun _ _ _ h => h) (Or.inl ⟨by rfl, ?_⟩) (by assumption) ?_
            rotate_left
            · (intro w hSw; (try dsimp only at hSw); go_simp; try with_reducible rfl)
            try simp only [Act.put, List.getElem_toArray, List.getElem_cons_zero, List.getElem_cons_succ, List.setIfInBounds_toArray, List.set_cons_zero, List.set_cons_succ]
            refine wpAnyH_take (i := 3) (oi := _) (v := ?_) rfl (by kernel_rfl) (by kernel_rfl) (by kernel_rfl) (fun _ _ _ h => h) (Or.inl ⟨by rfl, ?_⟩) (by assumption) ?_
            rotate_left
            · (intro w hSw; (try dsimp only at hSw); go_simp; try with_reducible rfl)
            try simp only [Act.put, List.getElem_toArray, List.getElem_cons_zero, List.getElem_cons_succ, List.setIfInBounds_toArray, List.set_cons_zero, List.set_cons_succ]
            refine wpAnyH_take (i := 4) (oi := _) (v := ?_) rfl (by kernel_rfl) (by kernel_rfl) (by kernel_rfl) (fun _ _ _ h => h) (Or.inl ⟨by rfl, ?_⟩) (by assumption) ?_
            rotate_left
            · (intro w hSw; (try dsimp only at hSw); go_simp; try with_reducible rfl)
            try simp only [Act.put, List.getElem_toArray, List.getElem_cons_zero, List.getElem_cons_succ, List.setIfInBounds_toArray, List.set_cons_zero, List.set_cons_succ]
            refine wpAnyH_take (i := 5) (oi := _) (v := ?_) rfl (by kernel_rfl) (by kernel_rfl) (by kernel_rfl) (fun _ _ _ h => h) (Or.inl ⟨by rfl, ?_⟩) (by assumption) ?_
            rotate_left
            · (intro w hSw; (try dsimp only at hSw); go_simp; try with_reducible rfl)
            try simp only [Act.put, List.getElem_toArray, List.getElem_cons_zero, List.getElem_cons_succ, List.setIfInBounds_toArray, List.set_cons_zero, List.set_cons_succ]
            refine wpAnyH_take (i := 6) (oi := _) (v := ?_) rfl (by kernel_rfl) (by kernel_rfl) (by kernel_rfl) (fun _ _ _ h => h) (Or.inl ⟨by rfl, ?_⟩) (by assumption) ?_
            rotate_left
            · (intro w hSw; (try dsimp only at hSw); go_simp; try with_reducible rfl)
            try simp only [Act.put, List.getElem_toArray, List.getElem_cons_zero, List.getElem_cons_succ, List.setIfInBounds_toArray, List.set_cons_zero, List.set_cons_succ]
            refine wpAnyH_ready (rs := [7]) (by kernel_rfl) (by simp) ?_
            refine AllReadyH.cons rfl (fun K hK => ?_) (AllReadyH.nil)
            rw [if_pos (by rfl)]
            refine wp_append_own _ _ _ 24 rfl W.heap.size 35 i0 (.agg #[.string ⟨#[]⟩, .int .i64 0, .int .i64 0, .int .i64 0, .int .i64 0]) 5 48 Tryz.underlying24 hi hz0 hz1 hz2 rfl (by decide) (.slice (some ⟨g, 0, none⟩) k cap) k (flatC (out.take k)) rfl HTK.out ⟨g, 0, none⟩ (out.length - cap) 0 (flatC (out.drop cap)) rfl HFL.out HCEL.out (flatC_cell1 _) HMX.out.1 HMX.out.2 HBS.out ?_
            intro v4 w4 ho4 hg4 hn4
            refine hK.out _ _ hg4 (fun hHeld => ?_)
            try simp only [Act.put, List.getElem_toArray, List.getElem_cons_zero, List.getElem_cons_succ, List.setIfInBounds_toArray, List.set_cons_zero, List.set_cons_succ]
            refine wpAnyH_take (i := 8) (oi := _) (v := ?_) rfl (by kernel_rfl) (by kernel_rfl) (by kernel_rfl) (fun _ _ _ h => h) (Or.inl ⟨by rfl, ?_⟩) (by assumption) ?_
            rotate_left
            · (intro w hSw; (try dsimp only at hSw); go_simp; try with_reducible rfl)
            try simp only [Act.put, List.getElem_toArray, List.getElem_cons_zero, List.getElem_cons_succ, List.setIfInBounds_toArray, List.set_cons_zero, List.set_cons_succ]
            refine wpAnyH_done (by kernel_rfl) ?_ _
            have hown4 : w4.ownsRow W.heap.size 35 5 v4 (out.take k ++ out.drop cap).length (flatC (out.take k ++ out.drop cap)) := by rw [HLB.out, flatC_append]; exact ho4
            have hg4' : W5.grownBy w4 (some g) := grownBy_trans (⟨rfl, rfl, rfl, Nat.le_refl _, fun _ _ _ => rfl⟩ : W5.grownBy W5.drew (some g)) hg4
            all_goals (try go_wp2)
            go_ret
            exact ⟨_, out.take k ++ out.drop cap, q + 1 + 1, rfl, hown4, by rw [HLB.out]; have := HLN.out; have := HM.out.1; have := HM.out.2; have := HK.out; omega, HSB.out, by have := HQ.out; omega, push_reader (v := .slice (some ⟨g, 0, none⟩) k cap) HVK.out HLE.out HR5.out hg4', push_grown (v := .slice (some ⟨g, 0, none⟩) k cap) HVK.out HG5.out hg4'⟩
          · have HCEL := Lib.hid (cmds_cells (show CmdsAt W5.drew (some ⟨g, m * 5, none⟩) (out.length - m) (out.drop m) from own_tailC HO5.out m HM.out.2 (m * 5) (.inl rfl)))
            have HG0 : Hid (W5.drew.grownBy W5.drew (some g)) := ⟨rfl, rfl, rfl, Nat.le_refl _, fun _ _ _ => rfl⟩
            go_upto_region 11 with (fail)
            refine wp_region_held_drew (S := (fun w' => W5.drew.grownBy w' (some g))) (by kernel_rfl) HG0.out (fun hH => ?_)
            refine wpAnyH_take (i := 0) (oi := _) (v := ?_) rfl (by kernel_rfl) (by kernel_rfl) (by kernel_rfl) (fun _ _ _ h => h) (Or.inl ⟨by rfl, ?_⟩) (by assumption) ?_
            rotate_left
            · (intro w hSw; (try dsimp only at hSw); go_simp; try with_reducible rfl)
            try simp only [Act.put, List.getElem_toArray, List.getElem_cons_zero, List.setIfInBounds_toArray, List.set_cons_zero, List.set_cons_succ]
            refine wpAnyH_take (i := 1) (oi := _) (v := ?_) rfl (by kernel_rfl) (by kernel_rfl) (by kernel_rfl) (fun _ _ _ h => h) (Or.inl ⟨by rfl, ?_⟩) (by assumption) ?_
            rotate_left
            · (intro w hSw; (try dsimp only at hSw); go_simp; try with_reducible rfl)
            try simp only [Act.put, List.getElem_toArray, List.getElem_cons_zero, List.getElem_cons_succ, List.setIfInBounds_toArray, List.set_cons_zero, List.set_cons_succ]
            refine wpAnyH_take (i := 2) (oi := _) (v := ?_) rfl (by kernel_rfl) (by kernel_rfl) (by kernel_rfl) (fun _ _ _ h => h) (Or.inl ⟨by rfl, ?_⟩) (by assumption) ?_
            rotate_left
            · (intro w hSw; (try dsimp only at hSw); go_simp; try with_reducible rfl)
            try simp only [Act.put, List.getElem_toArray, List.getElem_cons_zero, List.getElem_cons_succ, List.setIfInBounds_toArray, List.set_cons_zero, List.set_cons_succ]
            refine wpAnyH_take (i := 3) (oi := _) (v := ?_) rfl (by kernel_rfl) (by kernel_rfl) (by kernel_rfl) (fun _ _ _ h => h) (Or.inl ⟨by rfl, ?_⟩) (by assumption) ?_
            rotate_left
            · (intro w hSw; (try dsimp only at hSw); go_simp; try with_reducible rfl)
            try simp only [Act.put, List.getElem_toArray, List.getElem_cons_zero, List.getElem_cons_succ, List.setIfInBounds_toArray, List.set_cons_zero, List.set_cons_succ]
            refine wpAnyH_take (i := 4) (oi := _) (v := ?_) rfl (by kernel_rfl) (by kernel_rfl) (by kernel_rfl) (fun _ _ _ h => h) (Or.inl ⟨by rfl, ?_⟩) (by assumption) ?_
            rotate_left
            · (intro w hSw; (try dsimp only at hSw); go_simp; try with_reducible rfl)
            try simp only [Act.put, List.getElem_toArray, List.getElem_cons_zero, List.getElem_cons_succ, List.setIfInBounds_toArray, List.set_cons_zero, List.set_cons_succ]
            refine wpAnyH_take (i := 5) (oi := _) (v := ?_) rfl (by kernel_rfl) (by kernel_rfl) (by kernel_rfl) (fun _ _ _ h => h) (Or.inl ⟨by rfl, ?_⟩) (by assumption) ?_
            rotate_left
            · (intro w hSw; (try dsimp only at hSw); go_simp; try with_reducible rfl)
            try simp only [Act.put, List.getElem_toArray, List.getElem_cons_zero, List.getElem_cons_succ, List.setIfInBounds_toArray, List.set_cons_zero, List.set_cons_succ]
            refine wpAnyH_take (i := 6) (oi := _) (v := ?_) rfl (by kernel_rfl) (by kernel_rfl) (by kernel_rfl) (fun _ _ _ h => h) (Or.inl ⟨by rfl, ?_⟩) (by assumption) ?_
            rotate_left
            · (intro w hSw; (try dsimp only at hSw); go_simp; try with_reducible rfl)
            try simp only [Act.put, List.getElem_toArray, List.getElem_cons_zero, List.getElem_cons_succ, List.setIfInBounds_toArray, List.set_cons_zero, List.set_cons_succ]
            refine wpAnyH_ready (rs := [7]) (by kernel_rfl) (by simp) ?_
            refine AllReadyH.cons rfl (fun K hK => ?_) (AllReadyH.nil)
            rw [if_pos (by rfl)]
            refine wp_append_own _ _ _ 24 rfl W.heap.size 35 i0 (.agg #[.string ⟨#[]⟩, .int .i64 0, .int .i64 0, .int .i64 0, .int .i64 0]) 5 48 Tryz.underlying24 hi hz0 hz1 hz2 rfl (by decide) (.slice (some ⟨g, 0, none⟩) k cap) k (flatC (out.take k)) rfl HTK.out ⟨g, m * 5, none⟩ (out.length - m) (cap - m) (flatC (out.drop m)) rfl HFL.out HCEL.out (flatC_cell1 _) HMX.out.1 HMX.out.2 HBS.out ?_
            intro v4 w4 ho4 hg4 hn4
            refine hK.out _ _ hg4 (fun hHeld => ?_)
            try simp only [Act.put, List.getElem_toArray, List.getElem_cons_zero, List.getElem_cons_succ, List.setIfInBounds_toArray, List.set_cons_zero, List.set_cons_succ]
            refine wpAnyH_take (i := 8) (oi := _) (v := ?_) rfl (by kernel_rfl) (by kernel_rfl) (by kernel_rfl) (fun _ _ _ h => h) (Or.inl ⟨by rfl, ?_⟩) (by assumption) ?_
            rotate_left
            · (intro w hSw; (try dsimp only at hSw); go_simp; try with_reducible rfl)
            try simp only [Act.put, List.getElem_toArray, List.getElem_cons_zero, List.getElem_cons_succ, List.setIfInBounds_toArray, List.set_cons_zero, List.set_cons_succ]
            refine wpAnyH_done (by kernel_rfl) ?_ _
            have hown4 : w4.ownsRow W.heap.size 35 5 v4 (out.take k ++ out.drop m).length (flatC (out.take k ++ out.drop m)) := by rw [HLB.out, flatC_append]; exact ho4
            have hg4' : W5.grownBy w4 (some g) := grownBy_trans (⟨rfl, rfl, rfl, Nat.le_refl _, fun _ _ _ => rfl⟩ : W5.grownBy W5.drew (some g)) hg4
            all_goals (try go_wp2)
            go_ret
            exact ⟨_, out.take k ++ out.drop m, q + 1 + 1, rfl, hown4, by rw [HLB.out]; have := HLN.out; have := HM.out.1; have := HM.out.2; have := HK.out; omega, HSB.out, by have := HQ.out; omega, push_reader (v := .slice (some ⟨g, 0, none⟩) k cap) HVK.out HLE.out HR5.out hg4', push_grown (v := .slice (some ⟨g, 0, none⟩) k cap) HVK.out HG5.out hg4'⟩
        · have ht1 : (tt == 1) = false := beq_eq_false_iff_ne.2 ht
          clear ht
          by_cases ht : tt = 2
          · subst ht
            clear t0 t1
            obtain ⟨x0, x1, x2, x3, x4⟩ := flatC_get out k x HX.out
            have c0 : W5.cell? ⟨g, k * 5, none⟩ = some (.string x.p) := by rw [HO5.out.cellAt _ (by have := HK.out; omega)]; exact x0
            have c1 : W5.cell? ⟨g, k * 5 + 1, none⟩ = some (.int .i64 x.fk) := by rw [HO5.out.cellAt _ (by have := HK.out; omega)]; exact x1
            have c2 : W5.cell? ⟨g, k * 5 + 2, none⟩ = some (.int .i64 x.fv) := by rw [HO5.out.cellAt _ (by have := HK.out; omega)]; exact x2
            have c3 : W5.cell? ⟨g, k * 5 + 3, none⟩ = some (.int .i64 x.tk) := by rw [HO5.out.cellAt _ (by have := HK.out; omega)]; exact x3
            have c4 : W5.cell? ⟨g, k * 5 + 4, none⟩ = some (.int .i64 x.tv) := by rw [HO5.out.cellAt _ (by have := HK.out; omega)]; exact x4
            clear x0 x1 x2 x3 x4
            go_wp2_with (at_builtin; refine wpList_append_cmds rfl _ _ rfl W.heap.size _ out rfl (HO5.out.alloc _) _ _ _ [x] rfl (cmds_lit W5 x) (by have := HLN.out; simp; omega) (by have := HG5.out.size; simp; omega) ?_; intro v' w6 ho6 hg6)
            have hg6' := grownBy_trans (grownBy_new W5 (.cells #[.string x.p, .int .i64 x.fk, .int .i64 x.fv, .int .i64 x.tk, .int .i64 x.tv] 35) _) hg6
            go_ret
            exact ⟨_, out ++ [x], q + 1 + 1, rfl, ho6, by simp; have := HLN.out; omega, shortC_push HSH.out (HSH.out.at HX.out), by have := HQ.out; omega, push_reader HVB.out HLE.out HR5.out hg6', push_grown HVB.out HG5.out hg6'⟩
          · have ht2 : (tt == 2) = false := beq_eq_false_iff_ne.2 ht
            clear ht
            by_cases ht : tt = 3
            · subst ht
              clear t0 t1
              go_wp2_with fail
              refine (HOF.out (q + 1 + 1) _ (by have := HQ.out; have := HPP.out; omega) HR5.out).mono ?_
              rintro e W6 ⟨s, hm6, rfl, hR6, hg6⟩
              have HO6 := Lib.hid (own_reader HO5.out HLT.out hg6)
              have HG6 := Lib.hid (grownBy_trans HG5.out hg6)
              have HR6 := Lib.hid hR6
              have HS6 := Lib.hid (show s.size ≤ 66 by rcases (by simpa [brokenPaths] using hm6) with rfl | rfl | rfl <;> decide)
              obtain ⟨x0, -, -, -, -⟩ := flatC_get out k x HX.out
              have c0 : W6.cell? ⟨g, k * 5, none⟩ = some (.string x.p) := by rw [HO6.out.cellAt _ (by have := HK.out; omega)]; exact x0
              have z0 := HO6.out.frozenAt (k * 5)
              clear hR6 hg6 x0 hm6
              go_wp2
              go_ret
              exact ⟨_, out.set k ⟨s, x.fk, x.fv, x.tk, x.tv⟩, _, rfl, own_setPath HO6.out HX.out s, by rw [List.length_set]; have := HLN.out; omega, shortC_set HSH.out HS6.out, by have := HQ.out; omega,
                HR6.out.setNew _ _ (by have := HLE.out; have := HB.out.1; show N0 ≤ g; omega), grownBy_setCell_new HG6.out _ _ HB.out.1⟩
            · have ht3 : (tt == 3) = false := beq_eq_false_iff_ne.2 ht
              clear ht t0 t1
              go_wp2
              go_ret
              exact ⟨_, out, q + 1 + 1, rfl, HO5.out, by have := HLN.out; omega, HSH.out, by have := HQ.out; omega, HR5.out, HG5.out⟩
  · have hr' : (r == 0) = false := beq_eq_false_iff_ne.2 hr
    clear r0 r1 hr
    go_wp2_with fail
    refine (HT.out n (HN.out.1) (by have := HN.out.2; omega) _ HW2.out HO2.out HR2.out).mono ?_; rintro e W3 ⟨v, out, q, rfl, hown0, hlen, hsh, hq, hR3, hg3⟩
    have hown := own_mono hown0 HG2.out.size
    have HG3 := Lib.hid (grownBy_trans HG2.out hg3)
    have HSH := Lib.hid hsh
    have HLN := Lib.hid hlen
    have HQ := Lib.hid hq
    have HR3 := Lib.hid hR3
    clear hown0 hg3 hsh hlen hq hR3
    by_cases hl0 : out.length = 0
    · obtain ⟨a, cap, rfl, -⟩ := cmds_of_own hown
      have HO := Lib.hid hown
      have hl0' : (out.length : Int) = 0 := by omega
      clear hl0 hown
      go_wp2
      go_ret
      exact ⟨_, out, q, rfl, HO.out, by have := HLN.out; omega, HSH.out, by have := HQ.out; omega, HR3.out, HG3.out⟩
    · have hl0 : 0 < out.length := by omega
      have hl1 : (0 : Int) < out.length := by omega
      obtain ⟨g, cap, rfl, hgb, hlc, hcm⟩ := own_sliceC hown hl0
      have HB := Lib.hid (And.intro hgb (And.intro hlc hcm))
      have HO3 := Lib.hid hown
      clear hgb hlc hcm hown
      go_wp2_with fail
      refine (HPK.out q out.length (by omega) (by have := HLN.out; omega) _ (by have := HQ.out; have := HPP.out; omega) HR3.out).mono ?_; rintro e W4 ⟨k', rfl, k0, k1, hR4, hg4⟩
      obtain ⟨k, rfl⟩ := Int.eq_ofNat_of_zero_le k0
      have HK := Lib.hid (show k < out.length by omega)
      have HO4 := Lib.hid (own_reader HO3.out HLT.out hg4)
      clear k0 k1
      go_wp2_with fail
      refine (HPK.out (q + 1) 14 (by omega) (by omega) _ (by have := HQ.out; have := HPP.out; omega) hR4).mono ?_; rintro e W5 ⟨tt, rfl, t0, t1, hR5, hg5⟩
      have HO5 := Lib.hid (own_reader HO4.out HLT.out hg5)
      have HG5 := Lib.hid (grownBy_trans HG3.out (grownBy_trans hg4 hg5))
      have HR5 := Lib.hid hR5
      obtain ⟨x, hx⟩ : ∃ x, out[k]? = some x := ⟨_, List.getElem?_eq_getElem HK.out⟩
      have HX := Lib.hid hx
      have hkl : (k : Int) < out.length := by have := HK.out; omega
      have HVB := Lib.hid (fun k (e : (Value.slice (some ⟨g, 0, none⟩) out.length cap).ownBlock = some k) => (HO5.out.lt k e).1)
      clear hx hg4 hg5 hR4 hR5 hl0
      by_cases ht : tt = 0
      · subst ht
        clear t0 t1
        go_wp2_with fail
        refine (HC.out (q + 1 + 1) _ (by have := HQ.out; have := HPP.out; omega) HR5.out).mono ?_; rintro e W6 ⟨k6, v6, q6, rfl, -, -, -, -, hq6, hR6, hg6⟩
        have HO6 := Lib.hid (own_reader HO5.out HLT.out hg6)
        have HG6 := Lib.hid (grownBy_trans HG5.out hg6)
        have HR6 := Lib.hid hR6
        have HQ6 := Lib.hid hq6
        obtain ⟨-, -, -, x3, x4⟩ := flatC_get out k x HX.out
        have c3 : W6.cell? ⟨g, k * 5 + 3, none⟩ = some (.int .i64 x.tk) := by rw [HO6.out.cellAt _ (by have := HK.out; omega)]; exact x3
        have c4 : W6.cell? ⟨g, k * 5 + 4, none⟩ = some (.int .i64 x.tv) := by rw [HO6.out.cellAt _ (by have := HK.out; omega)]; exact x4
        have z3 := HO6.out.frozenAt (k * 5 + 3)
        have z4 := HO6.out.frozenAt (k * 5 + 4)
        unfold con
        clear hq6 hR6 hg6 x3 x4
        go_wp2
        go_ret
        exact ⟨_, out.set k ⟨x.p, x.fk, x.fv, k6, v6⟩, q6, rfl, own_setTo HO6.out HX.out k6 v6, by rw [List.length_set]; have := HLN.out; omega, shortC_set HSH.out (show x.p.size ≤ 66 from HSH.out.at HX.out), by have := HQ.out; have := HQ6.out; omega,
          (HR6.out.setNew _ _ (by have := HLE.out; have := HB.out.1; show N0 ≤ g; omega)).setNew _ _ (by have := HLE.out; have := HB.out.1; show N0 ≤ g; omega), grownBy_setCell_new (grownBy_setCell_new HG6.out _ _ HB.out.1) _ _ HB.out.1⟩
      · have ht0 : (tt == 0) = false := beq_eq_false_iff_ne.2 ht
        clear ht
        by_cases ht : tt = 1
        · subst ht
          clear t0 t1
          have hk2 : (k : Int) ≤ cap := by have := HK.out; have := HB.out.2.1; omega
          have hk0 : (0 : Int) ≤ k := by omega
          have hk3 : (k : Int) + 1 ≤ out.length := by omega
          have hlc2 : (out.length : Int) ≤ cap := by have := HB.out.2.1; omega
          obtain ⟨m, hm⟩ : ∃ m, m = k + 1 := ⟨_, rfl⟩
          have hwr : IntKind.i64.wrap ((k : Int) + 1) = (m : Int) := (IntWalk.i64_in _ (by have := HLN.out; omega)).trans (by omega)
          have hm0 : (0 : Int) ≤ m := by omega
          have hm1 : (m : Int) ≤ out.length := by omega
          have hm2 : (m : Int) ≤ cap := by omega
          have hmm : m ≤ out.length := by omega
          have HM := Lib.hid (And.intro hm hmm)
          have HTK := Lib.hid (show W5.drew.ownsRow W.heap.size 35 5 (.slice (some ⟨g, 0, none⟩) k cap) k (flatC (out.take k)) by
            have := own_takeC HO5.out k (by have := HK.out; omega)
            rw [show (out.take k).length = k by rw [List.length_take]; have := HK.out; omega] at this
            exact this)
          have HFL := Lib.hid (show (flatC (out.drop m)).length = (out.length - m) * 5 by rw [flatC_length, List.length_drop])
          have HMX := Lib.hid (show k + (out.length - m) ≤ maxLen ∧ (k + (out.length - m)) * 48 ≤ 140737488355328 by unfold maxLen; have := HLN.out; have := HK.out; omega)
          have HBS := Lib.hid (show W.heap.size ≤ W5.drew.heap.size from HG5.out.size)
          have HSB := Lib.hid (show ShortC 66 (out.take k ++ out.drop m) from shortC_part HSH.out (fun y hy => by
            rcases List.mem_append.1 hy with h | h
            · exact List.mem_of_mem_take h
            · exact List.mem_of_mem_drop h))
          have HLB := Lib.hid (show (out.take k ++ out.drop m).length = k + (out.length - m) by rw [List.length_append, List.length_take, List.length_drop]; have := HK.out; omega)
          clear hm hmm
          have HVK := Lib.hid (fun k' (e : (Value.slice (some ⟨g, 0, none⟩) k cap).ownBlock = some k') => show W.heap.size ≤ k' by cases e; exact HB.out.1)
          by_cases hcap : cap = m
          · subst hcap
            have HCEL := Lib.hid (cmds_cells (show CmdsAt W5.drew (some ⟨g, 0, none⟩) (out.length - cap) (out.drop cap) from own_tailC HO5.out cap HM.out.2 0 (.inr (by have h1 := HB.out.2.1; have h2 := HM.out.2; omega))))
            have HG0 : Hid (W5.drew.grownBy W5.drew (some g)) := ⟨rfl, rfl, rfl, Nat.le_refl _, fun _ _ _ => rfl⟩
            go_upto_region 11 with (fail)
            refine wp_region_held_drew (S := (fun w' => W5.drew.grownBy w' (some g))) (by kernel_rfl) HG0.out (fun hH => ?_)
            refine wpAnyH_take (i := 0) (oi := _) (v := ?_) rfl (by kernel_rfl) (by kernel_rfl) (by kernel_rfl) (fun _ _ _ h => h) (Or.inl ⟨by rfl, ?_⟩) (by assumption) ?_
            rotate_left
            · (intro w hSw; (try dsimp only at hSw); go_simp; try with_reducible rfl)
            try simp only [Act.put, List.getElem_toArray, List.getElem_cons_zero, List.setIfInBounds_toArray, List.set_cons_zero, List.set_cons_succ]
            refine wpAnyH_take (i := 1) (oi := _) (v := ?_) rfl (by kernel_rfl) (by kernel_rfl) (by kernel_rfl) (fun _ _ _ h => h) (Or.inl ⟨by rfl, ?_⟩) (by assumption) ?_
            rotate_left
            · (intro w hSw; (try dsimp only at hSw); go_simp; try with_reducible rfl)
            try simp only [Act.put, List.getElem_toArray, List.getElem_cons_zero, List.getElem_cons_succ, List.setIfInBounds_toArray, List.set_cons_zero, List.set_cons_succ]
            refine wpAnyH_take (i := 2) (oi := _) (v := ?_) rfl (by kernel_rfl) (by kernel_rfl) (by kernel_rfl) (fun _ _ _ h => h) (Or.inl ⟨by rfl, ?_⟩) (by assumption) ?_
            rotate_left
            · (intro w hSw; (try dsimp only at hSw); go_simp; try with_reducible rfl)
            try simp only [Act.put, List.getElem_toArray, List.getElem_cons_zero, List.getElem_cons_succ, List.setIfInBounds_toArray, List.set_cons_zero, List.set_cons_succ]
            refine wpAnyH_take (i := 3) (oi := _) (v := ?_) rfl (by kernel_rfl) (by kernel_rfl) (by kernel_rfl) (fun _ _ _ h => h) (Or.inl ⟨by rfl, ?_⟩) (by assumption) ?_
            rotate_left
            · (intro w hSw; (try dsimp only at hSw); go_simp; try with_reducible rfl)
            try simp only [Act.put, List.getElem_toArray, List.getElem_cons_zero, List.getElem_cons_succ, List.setIfInBounds_toArray, List.set_cons_zero, List.set_cons_succ]
            refine wpAnyH_take (i := 4) (oi := _) (v := ?_) rfl (by kernel_rfl) (by kernel_rfl) (by kernel_rfl) (fun _ _ _ h => h) (Or.inl ⟨by rfl, ?_⟩) (by assumption) ?_
            rotate_left
            · (intro w hSw; (try dsimp only at hSw); go_simp; try with_reducible rfl)
            try simp only [Act.put, List.getElem_toArray, List.getElem_cons_zero, List.getElem_cons_succ, List.setIfInBounds_toArray, List.set_cons_zero, List.set_cons_succ]
            refine wpAnyH_take (i := 5) (oi := _) (v := ?_) rfl (by kernel_rfl) (by kernel_rfl) (by kernel_rfl) (fun _ _ _ h => h) (Or.inl ⟨by rfl, ?_⟩) (by assumption) ?_
            rotate_left
            · (intro w hSw; (try dsimp only at hSw); go_simp; try with_reducible rfl)
            try simp only [Act.put, List.getElem_toArray, List.getElem_cons_zero, List.getElem_cons_succ, List.setIfInBounds_toArray, List.set_cons_zero, List.set_cons_succ]
            refine wpAnyH_take (i := 6) (oi := _) (v := ?_) rfl (by kernel_rfl) (by kernel_rfl) (by kernel_rfl) (fun _ _ _ h => h) (Or.inl ⟨by rfl, ?_⟩) (by assumption) ?_
            rotate_left
            · (intro w hSw; (try dsimp only at hSw); go_simp; try with_reducible rfl)
            try simp only [Act.put, List.getElem_toArray, List.getElem_cons_zero, List.getElem_cons_succ, List.setIfInBounds_toArray, List.set_cons_zero, List.set_cons_succ]
            refine wpAnyH_ready (rs := [7]) (by kernel_rfl) (by simp) ?_
            refine AllReadyH.cons rfl (fun K hK => ?_) (AllReadyH.nil)
            rw [if_pos (by rfl)]
            refine wp_append_own _ _ _ 24 rfl W.heap.size 35 i0 (.agg #[.string ⟨#[]⟩, .int .i64 0, .int .i64 0, .int .i64 0, .int .i64 0]) 5 48 Tryz.underlying24 hi hz0 hz1 hz2 rfl (by decide) (.slice (some ⟨g, 0, none⟩) k cap) k (flatC (out.take k)) rfl HTK.out ⟨g, 0, none⟩ (out.length - cap) 0 (flatC (out.drop cap)) rfl HFL.out HCEL.out (flatC_cell1 _) HMX.out.1 HMX.out.2 HBS.out ?_
            intro v4 w4 ho4 hg4 hn4
            refine hK.out _ _ hg4 (fun hHeld => ?_)
            try simp only [Act.put, List.getElem_toArray, List.getElem_cons_zero, List.getElem_cons_succ, List.setIfInBounds_toArray, List.set_cons_zero, List.set_cons_succ]
            refine wpAnyH_take (i := 8) (oi := _) (v := ?_) rfl (by kernel_rfl) (by kernel_rfl) (by kernel_rfl) (fun _ _ _ h => h) (Or.inl ⟨by rfl, ?_⟩) (by assumption) ?_
            rotate_left
            · (intro w hSw; (try dsimp only at hSw); go_simp; try with_reducible rfl)
            try simp only [Act.put, List.getElem_toArray, List.getElem_cons_zero, List.getElem_cons_succ, List.setIfInBounds_toArray, List.set_cons_zero, List.set_cons_succ]
            refine wpAnyH_done (by kernel_rfl) ?_ _
            have hown4 : w4.ownsRow W.heap.size 35 5 v4 (out.take k ++ out.drop cap).length (flatC (out.take k ++ out.drop cap)) := by rw [HLB.out, flatC_append]; exact ho4
            have hg4' : W5.grownBy w4 (some g) := grownBy_trans (⟨rfl, rfl, rfl, Nat.le_refl _, fun _ _ _ => rfl⟩ : W5.grownBy W5.drew (some g)) hg4
            all_goals (try go_wp2)
            go_ret
            exact ⟨_, out.take k ++ out.drop cap, q + 1 + 1, rfl, hown4, by rw [HLB.out]; have := HLN.out; have := HM.out.1; have := HM.out.2; have := HK.out; omega, HSB.out, by have := HQ.out; omega, push_reader (v := .slice (some ⟨g, 0, none⟩) k cap) HVK.out HLE.out HR5.out hg4', push_grown (v := .slice (some ⟨g, 0, none⟩) k cap) HVK.out HG5.out hg4'⟩
          · have HCEL := Lib.hid (cmds_cells (show CmdsAt W5.drew (some ⟨g, m * 5, none⟩) (out.length - m) (out.drop m) from own_tailC HO5.out m HM.out.2 (m * 5) (.inl rfl)))
            have HG0 : Hid (W5.drew.grownBy W5.drew (some g)) := ⟨rfl, rfl, rfl, Nat.le_refl _, fun _ _ _ => rfl⟩
            go_upto_region 11 with (fail)
            refine wp_region_held_drew (S := (fun w' => W5.drew.grownBy w' (some g))) (by kernel_rfl) HG0.out (fun hH => ?_)
            refine wpAnyH_take (i := 0) (oi := _) (v := ?_) rfl (by kernel_rfl) (by kernel_rfl) (by kernel_rfl) (fun _ _ _ h => h) (Or.inl ⟨by rfl, ?_⟩) (by assumption) ?_
            rotate_left
            · (intro w hSw; (try dsimp only at hSw); go_simp; try with_reducible rfl)
            try simp only [Act.put, List.getElem_toArray, List.getElem_cons_zero, List.setIfInBounds_toArray, List.set_cons_zero, List.set_cons_succ]
            refine wpAnyH_take (i := 1) (oi := _) (v := ?_) rfl (by kernel_rfl) (by kernel_rfl) (by kernel_rfl) (fun _ _ _ h => h) (Or.inl ⟨by rfl, ?_⟩) (by assumption) ?_
            rotate_left
            · (intro w hSw; (try dsimp only at hSw); go_simp; try with_reducible rfl)
            try simp only [Act.put, List.getElem_toArray, List.getElem_cons_zero, List.getElem_cons_succ, List.setIfInBounds_toArray, List.set_cons_zero, List.set_cons_succ]
            refine wpAnyH_take (i := 2) (oi := _) (v := ?_) rfl (by kernel_rfl) (by kernel_rfl) (by kernel_rfl) (fun _ _ _ h => h) (Or.inl ⟨by rfl, ?_⟩) (by assumption) ?_
            rotate_left
            · (intro w hSw; (try dsimp only at hSw); go_simp; try with_reducible rfl)
            try simp only [Act.put, List.getElem_toArray, List.getElem_cons_zero, List.getElem_cons_succ, List.setIfInBounds_toArray, List.set_cons_zero, List.set_cons_succ]
            refine wpAnyH_take (i := 3) (oi := _) (v := ?_) rfl (by kernel_rfl) (by kernel_rfl) (by kernel_rfl) (fun _ _ _ h => h) (Or.inl ⟨by rfl, ?_⟩) (by assumption) ?_
            rotate_left
            · (intro w hSw; (try dsimp only at hSw); go_simp; try with_reducible rfl)
            try simp only [Act.put, List.getElem_toArray, List.getElem_cons_zero, List.getElem_cons_succ, List.setIfInBounds_toArray, List.set_cons_zero, List.set_cons_succ]
            refine wpAnyH_take (i := 4) (oi := _) (v := ?_) rfl (by kernel_rfl) (by kernel_rfl) (by kernel_rfl) (fun _ _ _ h => h) (Or.inl ⟨by rfl, ?_⟩) (by assumption) ?_
            rotate_left
            · (intro w hSw; (try dsimp only at hSw); go_simp; try with_reducible rfl)
            try simp only [Act.put, List.getElem_toArray, List.getElem_cons_zero, List.getElem_cons_succ, List.setIfInBounds_toArray, List.set_cons_zero, List.set_cons_succ]
            refine wpAnyH_take (i := 5) (oi := _) (v := ?_) rfl (by kernel_rfl) (by kernel_rfl) (by kernel_rfl) (fun _ _ _ h => h) (Or.inl ⟨by rfl, ?_⟩) (by assumption) ?_
            rotate_left
            · (intro w hSw; (try dsimp only at hSw); go_simp; try with_reducible rfl)
            try simp only [Act.put, List.getElem_toArray, List.getElem_cons_zero, List.getElem_cons_succ, List.setIfInBounds_toArray, List.set_cons_zero, List.set_cons_succ]
            refine wpAnyH_take (i := 6) (oi := _) (v := ?_) rfl (by kernel_rfl) (by kernel_rfl) (by kernel_rfl) (fun _ _ _ h => h) (Or.inl ⟨by rfl, ?_⟩) (by assumption) ?_
            rotate_left
            · (intro w hSw; (try dsimp only at hSw); go_simp; try with_reducible rfl)
            try simp only [Act.put, List.getElem_toArray, List.getElem_cons_zero, List.getElem_cons_succ, List.setIfInBounds_toArray, List.set_cons_zero, List.set_cons_succ]
            refine wpAnyH_ready (rs := [7]) (by kernel_rfl) (by simp) ?_
            refine AllReadyH.cons rfl (fun K hK => ?_) (AllReadyH.nil)
            rw [if_pos (by rfl)]
            refine wp_append_own _ _ _ 24 rfl W.heap.size 35 i0 (.agg #[.string ⟨#[]⟩, .int .i64 0, .int .i64 0, .int .i64 0, .int .i64 0]) 5 48 Tryz.underlying24 hi hz0 hz1 hz2 rfl (by decide) (.slice (some ⟨g, 0, none⟩) k cap) k (flatC (out.take k)) rfl HTK.out ⟨g, m * 5, none⟩ (out.length - m) (cap - m) (flatC (out.drop m)) rfl HFL.out HCEL.out (flatC_cell1 _) HMX.out.1 HMX.out.2 HBS.out ?_
            intro v4 w4 ho4 hg4 hn4
            refine hK.out _ _ hg4 (fun hHeld => ?_)
            try simp only [Act.put, List.getElem_toArray, List.getElem_cons_zero, List.getElem_cons_succ, List.setIfInBounds_toArray, List.set_cons_zero, List.set_cons_succ]
            refine wpAnyH_take (i := 8) (oi := _) (v := ?_) rfl (by kernel_rfl) (by kernel_rfl) (by kernel_rfl) (fun _ _ _ h => h) (Or.inl ⟨by rfl, ?_⟩) (by assumption) ?_
            rotate_left
            · (intro w hSw; (try dsimp only at hSw); go_simp; try with_reducible rfl)
            try simp only [Act.put, List.getElem_toArray, List.getElem_cons_zero, List.getElem_cons_succ, List.setIfInBounds_toArray, List.set_cons_zero, List.set_cons_succ]
            refine wpAnyH_done (by kernel_rfl) ?_ _
            have hown4 : w4.ownsRow W.heap.size 35 5 v4 (out.take k ++ out.drop m).length (flatC (out.take k ++ out.drop m)) := by rw [HLB.out, flatC_append]; exact ho4
            have hg4' : W5.grownBy w4 (some g) := grownBy_trans (⟨rfl, rfl, rfl, Nat.le_refl _, fun _ _ _ => rfl⟩ : W5.grownBy W5.drew (some g)) hg4
            all_goals (try go_wp2)
            go_ret
            exact ⟨_, out.take k ++ out.drop m, q + 1 + 1, rfl, hown4, by rw [HLB.out]; have := HLN.out; have := HM.out.1; have := HM.out.2; have := HK.out; omega, HSB.out, by have := HQ.out; omega, push_reader (v := .slice (some ⟨g, 0, none⟩) k cap) HVK.out HLE.out HR5.out hg4', push_grown (v := .slice (some ⟨g, 0, none⟩) k cap) HVK.out HG5.out hg4'⟩
        · have ht1 : (tt == 1) = false := beq_eq_false_iff_ne.2 ht
          clear ht
          by_cases ht : tt = 2
          · subst ht
            clear t0 t1
            obtain ⟨x0, x1, x2, x3, x4⟩ := flatC_get out k x HX.out
            have c0 : W5.cell? ⟨g, k * 5, none⟩ = some (.string x.p) := by rw [HO5.out.cellAt _ (by have := HK.out; omega)]; exact x0
            have c1 : W5.cell? ⟨g, k * 5 + 1, none⟩ = some (.int .i64 x.fk) := by rw [HO5.out.cellAt _ (by have := HK.out; omega)]; exact x1
            have c2 : W5.cell? ⟨g, k * 5 + 2, none⟩ = some (.int .i64 x.fv) := by rw [HO5.out.cellAt _ (by have := HK.out; omega)]; exact x2
            have c3 : W5.cell? ⟨g, k * 5 + 3, none⟩ = some (.int .i64 x.tk) := by rw [HO5.out.cellAt _ (by have := HK.out; omega)]; exact x3
            have c4 : W5.cell? ⟨g, k * 5 + 4, none⟩ = some (.int .i64 x.tv) := by rw [HO5.out.cellAt _ (by have := HK.out; omega)]; exact x4
            clear x0 x1 x2 x3 x4
            go_wp2_with (at_builtin; refine wpList_append_cmds rfl _ _ rfl W.heap.size _ out rfl (HO5.out.alloc _) _ _ _ [x] rfl (cmds_lit W5 x) (by have := HLN.out; simp; omega) (by have := HG5.out.size; simp; omega) ?_; intro v' w6 ho6 hg6)
            have hg6' := grownBy_trans (grownBy_new W5 (.cells #[.string x.p, .int .i64 x.fk, .int .i64 x.fv, .int .i64 x.tk, .int .i64 x.tv] 35) _) hg6
            go_ret
            exact ⟨_, out ++ [x], q + 1 + 1, rfl, ho6, by simp; have := HLN.out; omega, shortC_push HSH.out (HSH.out.at HX.out), by have := HQ.out; omega, push_reader HVB.out HLE.out HR5.out hg6', push_grown HVB.out HG5.out hg6'⟩
          · have ht2 : (tt == 2) = false := beq_eq_false_iff_ne.2 ht
            clear ht
            by_cases ht : tt = 3
            · subst ht
              clear t0 t1
              go_wp2_with fail
              refine (HOF.out (q + 1 + 1) _ (by have := HQ.out; have := HPP.out; omega) HR5.out).mono ?_
              rintro e W6 ⟨s, hm6, rfl, hR6, hg6⟩
              have HO6 := Lib.hid (own_reader HO5.out HLT.out hg6)
              have HG6 := Lib.hid (grownBy_trans HG5.out hg6)
              have HR6 := Lib.hid hR6
              have HS6 := Lib.hid (show s.size ≤ 66 by rcases (by simpa [brokenPaths] using hm6) with rfl | rfl | rfl <;> decide)
              obtain ⟨x0, -, -, -, -⟩ := flatC_get out k x HX.out
              have c0 : W6.cell? ⟨g, k * 5, none⟩ = some (.string x.p) := by rw [HO6.out.cellAt _ (by have := HK.out; omega)]; exact x0
              have z0 := HO6.out.frozenAt (k * 5)
              clear hR6 hg6 x0 hm6
              go_wp2
              go_ret
              exact ⟨_, out.set k ⟨s, x.fk, x.fv, x.tk, x.tv⟩, _, rfl, own_setPath HO6.out HX.out s, by rw [List.length_set]; have := HLN.out; omega, shortC_set HSH.out HS6.out, by have := HQ.out; omega,
                HR6.out.setNew _ _ (by have := HLE.out; have := HB.out.1; show N0 ≤ g; omega), grownBy_setCell_new HG6.out _ _ HB.out.1⟩
            · have ht3 : (tt == 3) = false := beq_eq_false_iff_ne.2 ht
              clear ht t0 t1
              go_wp2
              go_ret
              exact ⟨_, out, q + 1 + 1, rfl, HO5.out, by have := HLN.out; omega, HSH.out, by have := HQ.out; omega, HR5.out, HG5.out⟩

end Go.Proofs.YtkaokncaockjkaaGreatDoor

/-
  WALKS: drawn logs, out of the code: spec.DrawLogValid, DrawLogUndo, DrawLogApply, DrawLogFits.
-/
namespace Go.Proofs.YtkaokncaockjkaaGreatDoor
open Go.RowKit
set_option linter.unusedVariables false

/-- A drawn log, out of the code. -/
def LogsPost (W : World) (e : Ending) (W' : World) : Prop :=
  ∃ (sl : Value) (cs : List Cmd), e = .returned sl ∧ W'.ownsRow W.heap.size 35 5 sl cs.length (flatC cs) ∧ cs.length ≤ 21 ∧ ShortC 66 cs ∧ Below W.heap.size W W'

/-- A drawn tree and a drawn log. -/
def TreeLogPost (W : World) (e : Ending) (W' : World) : Prop :=
  ∃ (sl : Value) (ns : List Nd) (v : Value) (cs : List Cmd), e = .returned (.tuple #[sl, v]) ∧ Drawn W W' sl ns ∧ W'.ownsRow W.heap.size 35 5 v cs.length (flatC cs) ∧ cs.length ≤ 21 ∧ ShortC 66 cs

set_option maxHeartbeats 1000000 in
set_option maxRecDepth 100000 in
theorem drawLogApply_c (a : Option Addr) (len cap : Nat) (zs : List Int) (W : World) (h : IsRow .u8 W a len cap zs) :
    Calls Tryz.prog 4 #[.slice a len cap] W (TreeLogPost W) := by
  have HO := Lib.hid (l6Open_c a len cap zs W h)
  have HT := Lib.hid (fun W1 hR => l91Any_c (W.heap.size + 1) W.heap.size 0 W1 (by omega) hR)
  clear h
  go_enter Tryz.func4, Tryz.ntmps4
  go_wp2_with fail
  refine HO.out.mono ?_; rintro e W1 ⟨rfl, hR, hB⟩
  have HS1 := Lib.hid (show W.heap.size < W1.heap.size from hR.lt)
  have HB1 := Lib.hid hB
  clear hB
  go_wp2_with fail
  refine (HT.out _ hR).mono ?_; rintro e W2 ⟨sl, ns, q, rfl, hown, -, hl, hs, hq, hR2, hg⟩
  have HG2 := Lib.hid hg
  have HBK := Lib.hid (l91Broken_c (W.heap.size + 1) W.heap.size q W1.heap.size sl ns (by omega) hs HS1.out W2 hg.size hown (by omega) hR2)
  have HON := Lib.hid (And.intro hown (And.intro hl hs))
  clear hown hl hs hg hR hq hR2
  go_wp2_with fail
  refine HBK.out.mono ?_; rintro e W3 ⟨v, out, q3, rfl, hown3, hl3, hs3, -, -, hg3⟩
  have B3 := Lib.hid (below_of_reader HB1.out (grownBy_trans HG2.out hg3))
  have HX := Lib.hid (And.intro hl3 (And.intro hs3 (own_mono hown3 (show W.heap.size ≤ W2.heap.size by have h1 := HS1.out; have h2 := HG2.out.size; omega))))
  have HN3 := Lib.hid (own_mono (own_reader HON.out.1 HS1.out hg3) (show W.heap.size ≤ W1.heap.size by have h1 := HS1.out; omega))
  clear hown3 hl3 hs3 hg3
  go_wp2
  go_ret2
  exact ⟨_, ns, _, out, rfl, ⟨HN3.out, HON.out.2.1, HON.out.2.2, B3.out⟩, HX.out.2.2, HX.out.1, HX.out.2.1⟩

end Go.Proofs.YtkaokncaockjkaaGreatDoor

/-
  slices.Sort and slices.Compact of texts, by the library's contracts, at this program's numbers.
-/
namespace Go.Proofs.YtkaokncaockjkaaGreatDoor
open Go.Shelf Go.RowKit
def So0.lays190_ren : Go.Shelf.Ren := ⟨fun | 190 => 22 | 125 => 46 | 258 => 45 | 128 => 72 | 129 => 73 | 302 => 63 | 303 => 64 | 304 => 65 | 305 => 66 | 306 => 67 | 307 => 68 | 308 => 69 | 309 => 70 | 310 => 71 | 333 => 81 | 329 => 82 | 330 => 83 | 334 => 84 | 335 => 85 | 336 => 86 | 344 => 90 | n => n, fun | 31 => 30 | 9 => 9 | 3 => 3 | 46 => 93 | 0 => 0 | 51 => 124 | 53 => 126 | 4 => 4 | 183 => 116 | 182 => 115 | 131 => 121 | 5 => 5 | 218 => 146 | 222 => 150 | 228 => 154 | 229 => 155 | n => n, fun | n => n⟩
theorem So0.lays190 : Go.Proofs.Lays.n190 Tryz.prog So0.lays190_ren := {
  mixed := by kernel_rfl
  f125 := Tryz.func46.trans (congrArg some (by kernel_rfl))
  f128 := Tryz.func72.trans (congrArg some (by kernel_rfl))
  f129 := Tryz.func73.trans (congrArg some (by kernel_rfl))
  f190 := Tryz.func22.trans (congrArg some (by kernel_rfl))
  f258 := Tryz.func45.trans (congrArg some (by kernel_rfl))
  f302 := Tryz.func63.trans (congrArg some (by kernel_rfl))
  f303 := Tryz.func64.trans (congrArg some (by kernel_rfl))
  f304 := Tryz.func65.trans (congrArg some (by kernel_rfl))
  f305 := Tryz.func66.trans (congrArg some (by kernel_rfl))
  f306 := Tryz.func67.trans (congrArg some (by kernel_rfl))
  f307 := Tryz.func68.trans (congrArg some (by kernel_rfl))
  f308 := Tryz.func69.trans (congrArg some (by kernel_rfl))
  f309 := Tryz.func70.trans (congrArg some (by kernel_rfl))
  f310 := Tryz.func71.trans (congrArg some (by kernel_rfl))
  f329 := Tryz.func82.trans (congrArg some (by kernel_rfl))
  f330 := Tryz.func83.trans (congrArg some (by kernel_rfl))
  f333 := Tryz.func81.trans (congrArg some (by kernel_rfl))
  f334 := Tryz.func84.trans (congrArg some (by kernel_rfl))
  f335 := Tryz.func85.trans (congrArg some (by kernel_rfl))
  f336 := Tryz.func86.trans (congrArg some (by kernel_rfl))
  f344 := Tryz.func90.trans (congrArg some (by kernel_rfl))
  t0 := Tryz.underlying0
  a0 := Tryz.isAgg0
  z0 := Tryz.sizeOf0
  v0 := Tryz.zeroValue0
  t3 := Tryz.underlying3
  a3 := Tryz.isAgg3
  z3 := Tryz.sizeOf3
  v3 := Tryz.zeroValue3
  t4 := Tryz.underlying4
  a4 := Tryz.isAgg4
  z4 := Tryz.sizeOf4
  v4 := Tryz.zeroValue4
  t5 := Tryz.underlying5
  a5 := Tryz.isAgg5
  z5 := Tryz.sizeOf5
  v5 := Tryz.zeroValue5
  t9 := Tryz.underlying9
  a9 := Tryz.isAgg9
  z9 := Tryz.sizeOf9
  v9 := Tryz.zeroValue9
  t31 := Tryz.underlying30
  a31 := Tryz.isAgg30
  z31 := Tryz.sizeOf30
  v31 := Tryz.zeroValue30
  t46 := Tryz.underlying93
  a46 := Tryz.isAgg93
  z46 := Tryz.sizeOf93
  v46 := Tryz.zeroValue93
  t51 := Tryz.underlying124
  a51 := Tryz.isAgg124
  z51 := Tryz.sizeOf124
  v51 := Tryz.zeroValue124
  t53 := Tryz.underlying126
  a53 := Tryz.isAgg126
  z53 := Tryz.sizeOf126
  v53 := Tryz.zeroValue126
  t131 := Tryz.underlying121
  a131 := Tryz.isAgg121
  z131 := Tryz.sizeOf121
  v131 := Tryz.zeroValue121
  t182 := Tryz.underlying115
  a182 := Tryz.isAgg115
  z182 := Tryz.sizeOf115
  v182 := Tryz.zeroValue115
  t183 := Tryz.underlying116
  a183 := Tryz.isAgg116
  z183 := Tryz.sizeOf116
  v183 := Tryz.zeroValue116
  t218 := Tryz.underlying146
  a218 := Tryz.isAgg146
  z218 := Tryz.sizeOf146
  v218 := Tryz.zeroValue146
  t222 := Tryz.underlying150
  a222 := Tryz.isAgg150
  z222 := Tryz.sizeOf150
  v222 := Tryz.zeroValue150
  t228 := Tryz.underlying154
  a228 := Tryz.isAgg154
  z228 := Tryz.sizeOf154
  v228 := Tryz.zeroValue154
  t229 := Tryz.underlying155
  a229 := Tryz.isAgg155
  z229 := Tryz.sizeOf155
  v229 := Tryz.zeroValue155 }
def So0.lays194_ren : Go.Shelf.Ren := ⟨fun | 194 => 23 | n => n, fun | 31 => 30 | 9 => 9 | 3 => 3 | 4 => 4 | 0 => 0 | n => n, fun | n => n⟩
theorem So0.lays194 : Go.Proofs.Lays.n194 Tryz.prog So0.lays194_ren := {
  mixed := by kernel_rfl
  f194 := Tryz.func23.trans (congrArg some (by kernel_rfl))
  t0 := Tryz.underlying0
  a0 := Tryz.isAgg0
  z0 := Tryz.sizeOf0
  v0 := Tryz.zeroValue0
  t3 := Tryz.underlying3
  a3 := Tryz.isAgg3
  z3 := Tryz.sizeOf3
  v3 := Tryz.zeroValue3
  t4 := Tryz.underlying4
  a4 := Tryz.isAgg4
  z4 := Tryz.sizeOf4
  v4 := Tryz.zeroValue4
  t9 := Tryz.underlying9
  a9 := Tryz.isAgg9
  z9 := Tryz.sizeOf9
  v9 := Tryz.zeroValue9
  t31 := Tryz.underlying30
  a31 := Tryz.isAgg30
  z31 := Tryz.sizeOf30
  v31 := Tryz.zeroValue30 }

end Go.Proofs.YtkaokncaockjkaaGreatDoor

/-
  WALKS: slices.Sort and slices.Compact of texts that the call owns.
-/
namespace Go.Proofs.YtkaokncaockjkaaGreatDoor
open Go.Shelf Go.RowKit Go.Sort
set_option linter.unusedVariables false

def bytesOf (xs : List ByteArray) : List (List UInt8) := xs.map (fun x => x.data.toList)
def textsOf (ss : List (List UInt8)) : List ByteArray := ss.map (fun s => ⟨s.toArray⟩)

theorem bytes_texts (ss : List (List UInt8)) : bytesOf (textsOf ss) = ss := by
  unfold bytesOf textsOf
  rw [List.map_map]
  have : ((fun x : ByteArray => x.data.toList) ∘ fun s : List UInt8 => (⟨s.toArray⟩ : ByteArray)) = id := rfl
  rw [this, List.map_id]

theorem texts_bytes (xs : List ByteArray) : textsOf (bytesOf xs) = xs := by
  unfold bytesOf textsOf
  rw [List.map_map]
  have : ((fun s : List UInt8 => (⟨s.toArray⟩ : ByteArray)) ∘ fun x : ByteArray => x.data.toList) = id := by
    funext x
    show (⟨x.data.toList.toArray⟩ : ByteArray) = x
    rw [Array.toArray_toList]
  rw [this, List.map_id]

theorem enc_bytes (xs : List ByteArray) : (bytesOf xs).map encStr = xs.map Value.string := by
  have h := texts_bytes xs
  conv => rhs; rw [← h]
  unfold textsOf
  rw [List.map_map]
  rfl

theorem enc_texts (ss : List (List UInt8)) : ss.map encStr = (textsOf ss).map Value.string := by rw [← enc_bytes, bytes_texts]

/-- Texts that do not descend. -/
def NotDesc (l : List ByteArray) : Prop := l.Pairwise (fun x y => ltB y x = false)

theorem sorted_notDesc (ss : List (List UInt8)) : NotDesc (textsOf (ss.mergeSort fun x y => decide (x ≤ y))) := by
  unfold NotDesc textsOf
  rw [List.pairwise_map]
  have h := List.pairwise_mergeSort (le := fun x y : List UInt8 => decide (x ≤ y)) (fun a b c h1 h2 => by
    rw [decide_eq_true_eq] at h1 h2 ⊢; exact List.le_trans h1 h2) (fun a b => by
    rw [Bool.or_eq_true, decide_eq_true_eq, decide_eq_true_eq]; exact List.le_total a b) ss
  refine h.imp fun {x y} hxy => ?_
  rw [decide_eq_true_eq] at hxy
  rw [Bool.eq_false_iff]
  intro hc
  have := (ltB_iff _ _).1 hc
  exact (List.not_lt.2 hxy) this

theorem sorted_mem (xs : List ByteArray) (p : ByteArray) : p ∈ textsOf ((bytesOf xs).mergeSort fun x y => decide (x ≤ y)) ↔ p ∈ xs := by
  conv => rhs; rw [← texts_bytes xs]
  unfold textsOf
  rw [List.mem_map, List.mem_map]
  simp only [List.mem_mergeSort]

/-- What slices.Sort leaves. -/
def SortPost (base : Nat) (v : Value) (xs : List ByteArray) (W : World) (e : Ending) (w' : World) : Prop :=
  e = .returned (.tuple #[]) ∧ ∃ ys, NotDesc ys ∧ ys.length = xs.length ∧ (∀ p, p ∈ ys ↔ p ∈ xs) ∧ w'.ownsRow base 9 1 v ys.length (ys.map Value.string) ∧ W.grownBy w' v.ownBlock

theorem sortS_c (base : Nat) (v : Value) (xs : List ByteArray) (hl : xs.length ≤ 2097152) (W : World) (ho : W.ownsRow base 9 1 v xs.length (xs.map Value.string)) :
    Calls Tryz.prog 22 #[v] W (SortPost base v xs W) := by
  rcases ho.2 with ⟨rfl, h0⟩ | ⟨g, cap, cur, rfl, hbase, hb, h1, h2, h3, h4⟩
  · have hx : xs = [] := List.length_eq_zero_iff.1 h0
    subst hx
    refine (Any.slices_Sort_string_none So0.lays190 none 0 W).mono ?_
    rintro e w' ⟨rfl, rfl⟩
    exact ⟨rfl, [], List.Pairwise.nil, rfl, fun _ => Iff.rfl, ho, ⟨rfl, rfl, rfl, Nat.le_refl _, fun _ _ _ => rfl⟩⟩
  · have hbl : (bytesOf xs).length = xs.length := by unfold bytesOf; rw [List.length_map]
    have hh : Holds encStr W g 0 (bytesOf xs).toArray := holds_of_block hb (by rw [hbl, enc_bytes]; simpa using h4)
    have hc := Any.slices_Sort_string So0.lays190 g 0 cap (bytesOf xs) W hh (Array.getElem?_eq_some_iff.1 hb).1 (by rw [hbl]; omega)
    rw [hbl] at hc
    refine Calls.mono hc ?_
    rintro e w' ⟨rfl, n, os, rfl⟩
    have hml : ((bytesOf xs).mergeSort fun x y => decide (x ≤ y)).length = (bytesOf xs).length := List.length_mergeSort _
    refine ⟨rfl, textsOf ((bytesOf xs).mergeSort fun x y => decide (x ≤ y)), sorted_notDesc _, by unfold textsOf; rw [List.length_map, hml, hbl], sorted_mem xs, ?_, grownBy_sorted _⟩
    have := ownsRow_sorted (n := n) (os := os) (e := 9) hml hbase hb (by rw [hbl]; exact h1) h2 h3
    rw [hbl, enc_texts] at this
    rw [show (textsOf ((bytesOf xs).mergeSort fun x y => decide (x ≤ y))).length = xs.length by unfold textsOf; rw [List.length_map, hml, hbl]]
    exact this

/-! ## Compact -/

theorem gem {ss : List (List UInt8)} {j : Nat} (hj : j < ss.length) : ss[j]! = ss[j] := by simp [hj]

theorem comp_mem (ss : List (List UInt8)) (s : List UInt8) : s ∈ Lib.compact ss ↔ s ∈ ss := by
  have hget : ∀ j, j < ss.length → ss.toArray[j]! = ss[j]! := fun j hj => by simp
  unfold Lib.compact Lib.compactUpTo
  rw [List.mem_map]
  constructor
  · rintro ⟨j, hj, rfl⟩
    rw [List.mem_filter, List.mem_range] at hj
    have := hj.1
    rw [hget j this, gem this]
    exact List.getElem_mem this
  · intro hs
    obtain ⟨j, hj, rfl⟩ := List.getElem_of_mem hs
    induction j with
    | zero => exact ⟨0, by rw [List.mem_filter, List.mem_range]; exact ⟨hj, by simp [Lib.keeps]⟩, by rw [hget 0 hj, gem hj]⟩
    | succ j ih =>
      by_cases hk : Lib.keeps ss.toArray (j + 1) = true
      · exact ⟨j + 1, by rw [List.mem_filter, List.mem_range]; exact ⟨hj, hk⟩, by rw [hget _ hj, gem hj]⟩
      · have hj' : j < ss.length := by omega
        have e : ss[j + 1] = ss[j] := by
          unfold Lib.keeps at hk
          rw [decide_eq_true_eq] at hk
          have h2 : ss.toArray[j + 1]! = ss.toArray[j]! := by
            refine Classical.byContradiction fun hne => hk (.inr ?_)
            rwa [Nat.add_sub_cancel]
          rw [hget _ hj, hget _ hj', gem hj, gem hj'] at h2
          exact h2
        rw [e]
        exact ih hj' (List.getElem_mem hj')

theorem comp_asc {xs : List ByteArray} (h : NotDesc xs) : AscP (textsOf (Lib.compact (bytesOf xs))) := by
  unfold AscP textsOf Lib.compact Lib.compactUpTo
  rw [List.pairwise_map, List.pairwise_map]
  have hbl : (bytesOf xs).length = xs.length := by unfold bytesOf; rw [List.length_map]
  have hget : ∀ j (hj : j < xs.length), (⟨((bytesOf xs).toArray[j]!).toArray⟩ : ByteArray) = xs[j] := fun j hj => by
    have : (bytesOf xs).toArray[j]! = xs[j].data.toList := by
      simp [bytesOf, hj]
    rw [this, Array.toArray_toList]
  have hp := List.pairwise_iff_getElem.1 h
  have hr : ((List.range (bytesOf xs).length).filter (Lib.keeps (bytesOf xs).toArray)).Pairwise (· < ·) := List.Pairwise.filter _ List.pairwise_lt_range
  refine hr.imp_of_mem fun {i j} hi hj hij => ?_
  rw [List.mem_filter, List.mem_range, hbl] at hi hj
  rw [hget i hi.1, hget j hj.1]
  have hk := hj.2
  unfold Lib.keeps at hk
  rw [decide_eq_true_eq] at hk
  have hj1 : j - 1 < xs.length := by omega
  have hne : xs[j] ≠ xs[j - 1] := by
    rcases hk with h0 | h0
    · omega
    · intro e
      apply h0
      have a1 : (bytesOf xs).toArray[j]! = xs[j].data.toList := by simp [bytesOf, hj.1]
      have a2 : (bytesOf xs).toArray[j - 1]! = xs[j - 1].data.toList := by simp [bytesOf, hj1]
      rw [a1, a2, e]
  have h1 : ltB xs[j - 1] xs[j] = true := by
    have h2 := hp (j - 1) j hj1 hj.1 (by omega)
    refine Classical.byContradiction fun hc => hne ?_
    exact (ltB_tri (by simpa using hc) h2).symm
  by_cases he : i = j - 1
  · subst he; exact h1
  · have h2 := hp i (j - 1) hi.1 hj1 (by omega)
    by_cases h3 : ltB xs[i] xs[j - 1] = true
    · exact ltB_trans h3 h1
    · have := ltB_tri (by simpa using h3) h2
      rw [this]; exact h1

/-- What slices.Compact leaves of texts that do not descend. -/
def CompPost (base : Nat) (ys : List ByteArray) (W : World) (e : Ending) (w' : World) : Prop :=
  ∃ v' zs, e = .returned v' ∧ AscP zs ∧ (∀ p, p ∈ zs ↔ p ∈ ys) ∧ w'.ownsRow base 9 1 v' zs.length (zs.map Value.string)

theorem comp_len (ss : List (List UInt8)) : (Lib.compact ss).length ≤ ss.length := by
  unfold Lib.compact Lib.compactUpTo
  rw [List.length_map]
  refine Nat.le_trans (List.length_filter_le _ _) ?_
  rw [List.length_range]; exact Nat.le_refl _

theorem compactS_c (base : Nat) (v : Value) (ys : List ByteArray) (hl : ys.length ≤ 2097152) (hd : NotDesc ys) (W : World) (ho : W.ownsRow base 9 1 v ys.length (ys.map Value.string)) :
    Calls Tryz.prog 23 #[v] W fun e w' => CompPost base ys W e w' ∧ W.grownBy w' v.ownBlock := by
  rcases ho.2 with ⟨rfl, h0⟩ | ⟨g, cap, cur, rfl, hbase, hb, h1, h2, h3, h4⟩
  · have hx : ys = [] := List.length_eq_zero_iff.1 h0
    subst hx
    refine (Any.slices_Compact_string_empty So0.lays194 none 0 W).mono ?_
    rintro e w' ⟨rfl, rfl⟩
    exact ⟨⟨_, [], rfl, List.Pairwise.nil, fun _ => Iff.rfl, ho⟩, ⟨rfl, rfl, rfl, Nat.le_refl _, fun _ _ _ => rfl⟩⟩
  · have hbl : (bytesOf ys).length = ys.length := by unfold bytesOf; rw [List.length_map]
    have hh : Holds encStr W g 0 (bytesOf ys).toArray := holds_of_block hb (by rw [hbl, enc_bytes]; simpa using h4)
    have hc := Any.slices_Compact_string So0.lays194 g 0 cap (bytesOf ys) W hh (by rw [hbl]; omega) (by rw [hbl]; exact h1)
    rw [hbl] at hc
    refine Calls.mono hc ?_
    rintro e w' ⟨rfl, n, rfl⟩
    obtain ⟨zs, hzs⟩ : ∃ zs, zs = Lib.compact (bytesOf ys) ++ List.replicate (ys.length - (Lib.compact (bytesOf ys)).length) [] := ⟨_, rfl⟩
    rw [← hzs]
    have hcl := comp_len (bytesOf ys)
    rw [hbl] at hcl
    have hzl : zs.length = (bytesOf ys).length := by rw [hzs, List.length_append, List.length_replicate, hbl]; omega
    have hrow := ownsRow_sorted (n := n) (os := #[]) (e := 9) hzl hbase hb (by rw [hbl]; exact h1) h2 h3
    have hgr := grownBy_sorted (w := W) (g := g) (n := n) (os := #[]) zs.toArray
    have hg0 : grow (putRow encStr (Sort.ahead W n) g 0 zs.toArray) #[] = putRow encStr (Sort.ahead W n) g 0 zs.toArray := by
      unfold grow
      simp
      rfl
    rw [hg0] at hrow hgr
    have htl : (textsOf (Lib.compact (bytesOf ys))).length = (Lib.compact (bytesOf ys)).length := by unfold textsOf; rw [List.length_map]
    refine ⟨⟨_, textsOf (Lib.compact (bytesOf ys)), rfl, comp_asc hd, fun p => ?_, ?_⟩, hgr⟩
    · conv => rhs; rw [← texts_bytes ys]
      unfold textsOf
      rw [List.mem_map, List.mem_map]
      simp only [comp_mem]
    · rw [htl, ← enc_texts]
      rcases hrow.2 with ⟨hv, _⟩ | ⟨g', cap', cur', hv, q1, q2, q3, q4, q5, q6⟩
      · cases hv
      · cases hv
        refine ⟨by rw [List.length_map, Nat.mul_one], .inr ⟨g, cap, cur', rfl, q1, q2, by omega, q4, q5, ?_⟩⟩
        rw [Nat.mul_one] at q6 ⊢
        rw [hbl] at q6
        have q7 : (cur'.toList.take ys.length).take (Lib.compact (bytesOf ys)).length = (zs.map encStr).take (Lib.compact (bytesOf ys)).length := by rw [q6]
        rw [List.take_take, Nat.min_eq_left hcl] at q7
        rw [q7, ← List.map_take, hzs, List.take_left]

end Go.Proofs.YtkaokncaockjkaaGreatDoor

/-
  WALKS: slices.Backward over a list of nodes.
-/
namespace Go.Proofs.YtkaokncaockjkaaGreatDoor
open Go.RowKit
set_option linter.unusedVariables false

attribute [local go_sem] Oper.semAt_some

/-- A node of a list, with its place. -/
structure Elt (ns : List Nd) where
  i : Nat
  n : Nd
  at_ : ns[i]? = some n

/-- The nodes ahead of a place, the last one first. -/
def backE (ns : List Nd) : (j : Nat) → j ≤ ns.length → List (Elt ns)
  | 0, _ => []
  | j + 1, h => ⟨j, ns[j], by simp⟩ :: backE ns j (by omega)

theorem backE_length (ns : List Nd) : ∀ (j : Nat) (h : j ≤ ns.length), (backE ns j h).length = j
  | 0, _ => rfl
  | j + 1, h => by show (backE ns j _).length + 1 = _; rw [backE_length ns j]

def ndV (n : Nd) : Value := .agg #[.string n.p, .int .i64 n.k, .int .i64 n.v]

/-- What a round keeps: what lay below, and the box of the list. -/
def BackK (n₀ Bn : Nat) (W W' : World) : Prop := Below n₀ W W' ∧ W'.heap[Bn]? = W.heap[Bn]?

theorem nodes_below {n₀ : Nat} {W W' : World} {a : Option Addr} {len : Nat} {ns : List Nd} (h : NodesAt W a len ns) (hl : ∀ b off, a = some ⟨b, off, none⟩ → len ≠ 0 → b < n₀) (hb : Below n₀ W W') : NodesAt W' a len ns := by
  obtain ⟨h1, h0 | ⟨b, off, ha, hc⟩⟩ := h
  · exact ⟨h1, .inl h0⟩
  · by_cases h0 : len = 0
    · exact ⟨h1, .inl h0⟩
    · have hbn := hl b off ha h0
      exact ⟨h1, .inr ⟨b, off, ha, fun i n hn => ⟨(hb.cell (p := ⟨b, _, none⟩) hbn).trans (hc i n hn).1, (hb.cell (p := ⟨b, _, none⟩) hbn).trans (hc i n hn).2.1, (hb.cell (p := ⟨b, _, none⟩) hbn).trans (hc i n hn).2.2⟩⟩⟩

theorem nodes_lt {W : World} {a : Option Addr} {len : Nat} {ns : List Nd} (h : NodesAt W a len ns) : ∀ b off, a = some ⟨b, off, none⟩ → len ≠ 0 → b < W.heap.size := by
  intro b off ha h0
  obtain ⟨b', off', n, ha', _, hc, _⟩ := h.node (i := 0) (by omega)
  rw [ha] at ha'
  cases ha'
  exact World.block_lt_of_cell? W _ hc

end Go.Proofs.YtkaokncaockjkaaGreatDoor

/-
  PLAIN MATHEMATICS OF A STACK OF SUMS: nodes from the last to the first one; the paths that wait for their parent are on top.
-/
namespace Go.Proofs.YtkaokncaockjkaaGreatDoor

/-- The number of a path's last letter. -/
def nameN (q : ByteArray) : Int := ((q.data.toList.getLast?.getD 97).toNat : Int) - 97

abbrev Stk := List (ByteArray × Int)

/-- The paths just behind p are taken off, one sum after the other. -/
def popL (p : ByteArray) : Int → Stk → Int × Stk
  | n, [] => (n, [])
  | n, x :: r => if parB x.1 = p then popL p ((31 * n + 7 * nameN x.1 + 100 * x.2 + 3) % 9973) r else (n, x :: r)

def stepNd (n : Nd) (a : List Int × Stk) : List Int × Stk :=
  ((popL n.p (baseW (n.k, n.v)) a.2).1 :: a.1, (n.p, (popL n.p (baseW (n.k, n.v)) a.2).1) :: (popL n.p (baseW (n.k, n.v)) a.2).2)

/-- The sums of a list of nodes, and the stack that is left. -/
def runSt (ns : List Nd) : List Int × Stk := ns.foldr stepNd ([], [])

theorem runSt_cons (n : Nd) (r : List Nd) : runSt (n :: r) = stepNd n (runSt r) := rfl

theorem runSt_length : ∀ ns : List Nd, (runSt ns).1.length = ns.length
  | [] => rfl
  | n :: r => by rw [runSt_cons]; show (runSt r).1.length + 1 = _; rw [runSt_length r]; rfl

/-! ## What is on a stack -/

def StkOk (S : Stk) : Prop := ∀ x ∈ S, vpB x.1 = true ∧ 0 ≤ x.2 ∧ x.2 ≤ 9972

theorem popL_ok {p : ByteArray} : ∀ {S : Stk} {n : Int}, StkOk S → 0 ≤ n ∧ n ≤ 9972 → StkOk (popL p n S).2 ∧ (0 ≤ (popL p n S).1 ∧ (popL p n S).1 ≤ 9972)
  | [], n, h, hn => ⟨h, hn⟩
  | x :: r, n, h, hn => by
    unfold popL
    split
    · exact popL_ok (fun y hy => h y (List.mem_cons_of_mem _ hy)) (by omega)
    · exact ⟨h, hn⟩

theorem popL_len {p : ByteArray} : ∀ {S : Stk} {n : Int}, (popL p n S).2.length ≤ S.length
  | [], n => Nat.le_refl _
  | x :: r, n => by
    unfold popL
    split
    · exact Nat.le_trans (popL_len (S := r)) (by simp)
    · exact Nat.le_refl _

/-- Nodes that a run can start from. -/
def NdsOk (ns : List Nd) : Prop := ∀ n ∈ ns, vpB n.p = true ∧ validB n.k n.v = true

theorem base_ok {k v : Int} (h : validB k v = true) : 0 ≤ baseW (k, v) ∧ baseW (k, v) ≤ 9972 := by
  have := base_range (c := (k, v)) h
  exact ⟨by omega, by omega⟩

theorem runSt_ok : ∀ {ns : List Nd}, NdsOk ns → StkOk (runSt ns).2 ∧ (runSt ns).2.length ≤ ns.length
  | [], _ => ⟨fun x hx => (by cases hx), Nat.le_refl _⟩
  | n :: r, h => by
    obtain ⟨h1, h2⟩ := runSt_ok (ns := r) fun m hm => h m (List.mem_cons_of_mem _ hm)
    obtain ⟨hp, hv⟩ := h n (by simp)
    obtain ⟨g1, g2⟩ := popL_ok (p := n.p) h1 (base_ok hv)
    rw [runSt_cons]
    refine ⟨fun x hx => ?_, ?_⟩
    · rcases List.mem_cons.1 hx with rfl | hx
      · exact ⟨hp, g2⟩
      · exact g1 x hx
    · show (popL _ _ _).2.length + 1 ≤ _
      have := popL_len (p := n.p) (S := (runSt r).2) (n := baseW (n.k, n.v))
      simp only [List.length_cons]; omega

theorem runSt_ok' {ns : List Nd} (h : NdsOk ns) (i : Nat) : StkOk (runSt (ns.drop i)).2 ∧ (runSt (ns.drop i)).2.length ≤ ns.length - i := by
  have := runSt_ok (ns := ns.drop i) fun m hm => h m (List.mem_of_mem_drop hm)
  rwa [List.length_drop] at this

/-! ## The run over a tree -/

def lt4 (k : Nat) : UInt8 := UInt8.ofNat (97 + k)

theorem lt4_letter {k : Nat} (h : k < 4) : Pm.letter (lt4 k) = true := by
  rcases (by omega : k = 0 ∨ k = 1 ∨ k = 2 ∨ k = 3) with rfl | rfl | rfl | rfl <;> decide

theorem lt4_name {k : Nat} (h : k < 4) : ((lt4 k).toNat : Int) - 97 = k := by
  rcases (by omega : k = 0 ∨ k = 1 ∨ k = 2 ∨ k = 3) with rfl | rfl | rfl | rfl <;> decide

theorem lt4_inj {j k : Nat} (hj : j < 4) (hk : k < 4) (h : lt4 j = lt4 k) : j = k := by
  have h1 := lt4_name hj
  have h2 := lt4_name hk
  rw [h] at h1
  omega

theorem Wrd.snoc {w : List UInt8} (hw : Wrd w) (hl : w.length < 4) {k : Nat} (hk : k < 4) : Wrd (w ++ [lt4 k]) :=
  ⟨by simp; omega, fun x hx => by
    rcases List.mem_append.1 hx with hx | hx
    · exact hw.2 x hx
    · rw [List.mem_singleton.1 hx]; exact lt4_letter hk⟩

theorem flat_last : ∀ (w : List UInt8) (c : UInt8), (Pm.flat (w ++ [c])).getLast? = some c
  | [], c => rfl
  | x :: w, c => by
    show (47 :: x :: Pm.flat (w ++ [c])).getLast? = some c
    have := flat_last w c
    rw [List.getLast?_cons, List.getLast?_cons, this]
    rfl

theorem name_word (w : List UInt8) {k : Nat} (hk : k < 4) : nameN (pB (w ++ [lt4 k])) = k := by
  unfold nameN
  rw [pB_list]
  unfold Pm.pathOf
  rw [if_neg (by simp), flat_last]
  exact lt4_name hk

def kidK (G : List UInt8 → Int × Int) (d : Nat) (w : List UInt8) (k : Nat) : Stk :=
  if (G (w ++ [lt4 k])).1 = 0 then [] else [(pB (w ++ [lt4 k]), sumW G d (w ++ [lt4 k]))]

def kids (G : List UInt8 → Int × Int) : Nat → List UInt8 → Stk
  | 0, _ => []
  | d + 1, w => (List.range 4).flatMap (kidK G d w)

def AwayW (w : List UInt8) (S : Stk) : Prop := ∀ x ∈ S, ∃ v, Wrd v ∧ v ≠ [] ∧ x.1 = pB v ∧ ¬ (w <+: v)

theorem popL_away {w : List UInt8} (hw : Wrd w) {S : Stk} (h : AwayW w S) (n : Int) : popL (pB w) n S = (n, S) := by
  cases S with
  | nil => rfl
  | cons x r =>
    obtain ⟨v, hv, hn, e, hp⟩ := h x (List.mem_cons_self ..)
    unfold popL
    rw [if_neg]
    rw [e, parB_pB hv hn]
    intro q
    have := pB_inj hv.dropLast hw q
    exact hp (by rw [← this]; exact List.dropLast_prefix v)

theorem popL_kids (G : List UInt8 → Int × Int) (d : Nat) {w : List UInt8} (hw : Wrd w) (hl : w.length < 4) {S : Stk} (h : AwayW w S) : ∀ (ks : List Nat), (∀ k ∈ ks, k < 4) → ∀ n,
    popL (pB w) n (ks.flatMap (kidK G d w) ++ S) = (ks.foldl (fun n k => if (G (w ++ [lt4 k])).1 = 0 then n else stepW (sumW G d (w ++ [lt4 k])) k n) n, S)
  | [], _, n => by simpa using popL_away hw h n
  | k :: ks, hk, n => by
    have ih := popL_kids G d hw hl h ks (fun j hj => hk j (List.mem_cons_of_mem _ hj))
    have hk4 := hk k (List.mem_cons_self ..)
    rw [List.flatMap_cons, List.foldl_cons]
    unfold kidK
    by_cases hz : (G (w ++ [lt4 k])).1 = 0
    · rw [if_pos hz, if_pos hz]
      exact ih n
    · rw [if_neg hz, if_neg hz]
      show popL (pB w) n ((pB (w ++ [lt4 k]), sumW G d (w ++ [lt4 k])) :: (ks.flatMap (kidK G d w) ++ S)) = _
      unfold popL
      rw [if_pos]
      · rw [name_word w hk4]
        exact ih _
      · show parB (pB (w ++ [lt4 k])) = pB w
        rw [parB_pB (hw.snoc hl hk4) (by simp), List.dropLast_concat]

theorem kids_none {G : List UInt8 → Int × Int} {d : Nat} {w : List UInt8} (h : d ≠ 0 → ∀ k, k < 4 → (G (w ++ [lt4 k])).1 = 0) : kids G d w = [] := by
  cases d with
  | zero => rfl
  | succ d =>
    show (List.range 4).flatMap (kidK G d w) = []
    rw [List.flatMap_eq_nil_iff]
    intro k hk
    unfold kidK
    rw [if_pos (h (by omega) k (List.mem_range.1 hk))]

/-- What is somewhere has a directory ahead of it. -/
def Grown (G : List UInt8 → Int × Int) : Prop := ∀ w k, k < 4 → Wrd w → w.length < 4 → (G (w ++ [lt4 k])).1 ≠ 0 → (G w).1 = 1

/-- One node above what is behind it. -/
theorem popL_node {G : List UInt8 → Int × Int} (hG : Grown G) {d : Nat} {w : List UInt8} (hw : Wrd w) (hd : w.length + d = 4) {S : Stk} (h : AwayW w S) :
    popL (pB w) (baseW (G w)) (kids G d w ++ S) = (sumW G d w, S) := by
  cases d with
  | zero => exact popL_away hw h _
  | succ d =>
    have hl : w.length < 4 := by omega
    have := popL_kids G d hw hl h (List.range 4) (fun k hk => List.mem_range.1 hk) (baseW (G w))
    rw [show kids G (d + 1) w = (List.range 4).flatMap (kidK G d w) from rfl, this]
    have hp : partW G d w 4 = sumW G (d + 1) w := by
      by_cases h1 : (G w).1 = 1
      · exact (sumW_part _ _ _ h1).symm
      · rw [sumW_file _ _ _ h1]
        exact partW_none _ _ _ (fun k hk => Classical.byContradiction fun hz => h1 (hG w k hk hw hl hz)) 4 (Nat.le_refl _)
    rw [← hp]; rfl

def sumN (G : List UInt8 → Int × Int) (n : Nd) : Int := sumW G (4 - (wordOf n.p).length) (wordOf n.p)

theorem sumN_at {G : List UInt8 → Int × Int} {w : List UInt8} (hw : Wrd w) {d : Nat} (hd : w.length + d = 4) : sumN G (ndAt G w) = sumW G d w := by
  unfold sumN
  show sumW G (4 - (wordOf (pB w)).length) (wordOf (pB w)) = _
  rw [wordOf_pB hw.2, show 4 - w.length = d by omega]

theorem awayW_snoc {w : List UInt8} {S : Stk} (h : AwayW w S) (c : UInt8) : AwayW (w ++ [c]) S := fun x hx => by
  obtain ⟨v, h1, h2, h3, h4⟩ := h x hx
  exact ⟨v, h1, h2, h3, fun q => h4 ((List.prefix_append w [c]).trans q)⟩

theorem awayW_app {w : List UInt8} {S T : Stk} (h : AwayW w S) (h' : AwayW w T) : AwayW w (S ++ T) := fun x hx => by
  rcases List.mem_append.1 hx with hx | hx
  · exact h x hx
  · exact h' x hx

theorem awayW_kid (G : List UInt8 → Int × Int) (d : Nat) {w : List UInt8} (hw : Wrd w) (hl : w.length < 4) {j : Nat} (hj : j < 4) (ks : List Nat) (hk : ∀ k ∈ ks, k < 4 ∧ k ≠ j) : AwayW (w ++ [lt4 j]) (ks.flatMap (kidK G d w)) := fun x hx => by
  obtain ⟨k, hk', hx⟩ := List.mem_flatMap.1 hx
  obtain ⟨hk4, hkj⟩ := hk k hk'
  unfold kidK at hx
  split at hx
  · cases hx
  · rw [List.mem_singleton] at hx
    subst hx
    refine ⟨w ++ [lt4 k], hw.snoc hl hk4, by simp, rfl, fun q => hkj ?_⟩
    have e := q.eq_of_length (by simp)
    have := List.append_cancel_left e
    simp only [List.cons.injEq, and_true] at this
    exact (lt4_inj hj hk4 this).symm

theorem lst_range (G : List UInt8 → Int × Int) (d : Nat) (w : List UInt8) : lst G (d + 1) w = (List.range 4).flatMap (fun k => oneAt G (w ++ [lt4 k]) ++ lst G d (w ++ [lt4 k])) := rfl

theorem run_lst {G : List UInt8 → Int × Int} (hG : Grown G) : ∀ (d : Nat) (w : List UInt8), Wrd w → w.length + d = 4 → ∀ (A : List Int) (S : Stk), AwayW w S →
    (lst G d w).foldr stepNd (A, S) = ((lst G d w).map (sumN G) ++ A, kids G d w ++ S)
  | 0, w, hw, hd, A, S, hS => rfl
  | d + 1, w, hw, hd, A, S, hS => by
    have hl : w.length < 4 := by omega
    have hone : ∀ k, k < 4 → ∀ (A : List Int) (S : Stk), AwayW (w ++ [lt4 k]) S →
        (oneAt G (w ++ [lt4 k]) ++ lst G d (w ++ [lt4 k])).foldr stepNd (A, S) = ((oneAt G (w ++ [lt4 k]) ++ lst G d (w ++ [lt4 k])).map (sumN G) ++ A, kidK G d w k ++ S) := by
      intro k hk A S hS
      have hw' := hw.snoc hl hk
      have hd' : (w ++ [lt4 k]).length + d = 4 := by simp; omega
      rw [List.foldr_append, run_lst hG d _ hw' hd' A S hS]
      unfold oneAt kidK
      by_cases hz : (G (w ++ [lt4 k])).1 = 0
      · rw [if_pos hz, if_pos hz, kids_none]
        · rfl
        · intro hd0 j hj
          refine Classical.byContradiction fun hc => ?_
          have := hG _ j hj hw' (by omega) hc
          rw [hz] at this; cases this
      · rw [if_neg hz, if_neg hz]
        show stepNd (ndAt G (w ++ [lt4 k])) _ = _
        unfold stepNd
        have e := popL_node hG hw' hd' hS
        show ((popL (pB (w ++ [lt4 k])) (baseW (G (w ++ [lt4 k]))) _).1 :: _, _) = _
        show ((popL (pB (w ++ [lt4 k])) (baseW (G (w ++ [lt4 k]))) (kids G d (w ++ [lt4 k]) ++ S)).1 :: _, (pB (w ++ [lt4 k]), (popL (pB (w ++ [lt4 k])) (baseW (G (w ++ [lt4 k]))) (kids G d (w ++ [lt4 k]) ++ S)).1) :: (popL (pB (w ++ [lt4 k])) (baseW (G (w ++ [lt4 k]))) (kids G d (w ++ [lt4 k]) ++ S)).2) = _
        rw [e, List.map_append, List.map_cons, List.map_nil, sumN_at hw' hd']
        rfl
    have hall : ∀ (ks : List Nat), (∀ k ∈ ks, k < 4) → ks.Nodup →
        (ks.flatMap (fun k => oneAt G (w ++ [lt4 k]) ++ lst G d (w ++ [lt4 k]))).foldr stepNd (A, S) = ((ks.flatMap (fun k => oneAt G (w ++ [lt4 k]) ++ lst G d (w ++ [lt4 k]))).map (sumN G) ++ A, ks.flatMap (kidK G d w) ++ S) := by
      intro ks
      induction ks with
      | nil => intro _ _; rfl
      | cons k ks ih =>
        intro hk hn
        obtain ⟨hn1, hn2⟩ := List.nodup_cons.1 hn
        have hk4 := hk k (by simp)
        rw [List.flatMap_cons, List.flatMap_cons, List.foldr_append, ih (fun j hj => hk j (List.mem_cons_of_mem _ hj)) hn2,
          hone k hk4 _ _ (awayW_app (awayW_kid G d hw hl hk4 ks fun j hj => ⟨hk j (List.mem_cons_of_mem _ hj), fun e => hn1 (e ▸ hj)⟩) (awayW_snoc hS _))]
        simp only [List.map_append, List.append_assoc]
    rw [lst_range]
    exact hall (List.range 4) (fun k hk => List.mem_range.1 hk) List.nodup_range

theorem grown_of {ns : List Nd} (h : validT ns = true) : Grown (Fof ns) := by
  intro w k hk hw hl hz
  have hw' := hw.snoc hl hk
  have hm := node_of h hw' (by simp) hz
  have g := (((validT_iff ns).1 h).2.1 _ hm).2.2.2
  rw [show (ndAt (Fof ns) (w ++ [lt4 k])).p = pB (w ++ [lt4 k]) from rfl, parB_pB hw' (by simp), List.dropLast_concat] at g
  exact g

theorem all_lst {ns : List Nd} (h : validT ns = true) : lst (Fof ns) 4 [] = ns := by
  have := under_lst h Wrd.nil
  rw [show 4 - ([] : List UInt8).length = 4 from rfl] at this
  rw [this, List.filter_eq_self]
  intro n hn
  obtain ⟨w, hw, hne, e, _⟩ := node_word h hn
  rw [e, undB_pB Wrd.nil hw, decide_eq_true_eq]
  refine ⟨List.nil_prefix, ?_⟩
  have : w.length ≠ 0 := fun e => hne (List.length_eq_zero_iff.1 e)
  simp; omega

/-- The program's sums of a tree. -/
theorem run_tree {ns : List Nd} (h : validT ns = true) : runSt ns = (ns.map (fun n => treeSum ns n.p), kids (Fof ns) 4 []) := by
  have := run_lst (grown_of h) 4 [] Wrd.nil rfl [] [] (fun x hx => by cases hx)
  rw [all_lst h, List.append_nil, List.append_nil] at this
  show ns.foldr stepNd ([], []) = _
  rw [this]
  congr 1
  refine List.map_congr_left fun n hn => ?_
  unfold treeSum
  rw [h, (good_path h hn).2]
  rfl

theorem run_root {ns : List Nd} (h : validT ns = true) : (runSt (⟨rootB, 1, 0⟩ :: ns)).1 = treeSum ns rootB :: ns.map (fun n => treeSum ns n.p) := by
  rw [runSt_cons, run_tree h]
  unfold stepNd
  show (popL (pB []) (baseW (1, 0)) (kids (Fof ns) 4 [])).1 :: _ = _
  have e := popL_node (grown_of h) (d := 4) Wrd.nil rfl (S := []) (fun x hx => by cases hx)
  rw [List.append_nil, Fof_root] at e
  rw [e]
  have := treeSum_word h Wrd.nil
  rw [pB_root] at this
  rw [this]
  rfl

theorem nds_ok {ns : List Nd} (h : validT ns = true) : NdsOk ns := fun n hn =>
  ⟨(good_path h hn).2, (((validT_iff ns).1 h).2.1 n hn).2.1⟩

theorem nds_root {ns : List Nd} (h : validT ns = true) : NdsOk (⟨rootB, 1, 0⟩ :: ns) := fun n hn => by
  rcases List.mem_cons.1 hn with rfl | hn
  · exact ⟨by decide, by decide⟩
  · exact nds_ok h n hn

/-- A path that is in no node has the sum of nothing. -/
theorem sum_missing {ns : List Nd} {p : ByteArray} (h : validT ns = true) (hv : vpB p = true) (hr : p ≠ rootB) (hm : ∀ n ∈ ns, n.p ≠ p) : treeSum ns p = 1 := by
  obtain ⟨w, hw, rfl⟩ := vpB_word hv
  have e : Fof ns w = (0, 0) := getT_none hr hm
  rw [treeSum_word h hw, sumW_file _ _ _ (by rw [e]; decide), e]
  rfl

end Go.Proofs.YtkaokncaockjkaaGreatDoor

/-
  WALKS: the stack of paths: impl.contentSum, pathStack.top, pathStack.sum.
-/
namespace Go.Proofs.YtkaokncaockjkaaGreatDoor
open Go.RowKit
set_option linter.unusedVariables false

/-- What a walk leaves that ends in a number. -/
def IntPost (n : Int) (W : World) (e : Ending) (w' : World) : Prop := e = .returned (.int .i64 n) ∧ Below W.heap.size W w'

/-- The cells of a stack, the lowest path first. -/
def flatS (st : Stk) : List Value := st.flatMap (fun x => [.string x.1, .int .i64 x.2])

theorem flatS_append (a b : Stk) : flatS (a ++ b) = flatS a ++ flatS b := by unfold flatS; rw [List.flatMap_append]
theorem flatS_one (x : ByteArray × Int) : flatS [x] = [.string x.1, .int .i64 x.2] := rfl
theorem flatS_length (st : Stk) : (flatS st).length = st.length * 2 := by
  induction st with
  | nil => rfl
  | cons n r ih =>
    have : flatS (n :: r) = [.string n.1, .int .i64 n.2] ++ flatS r := rfl
    rw [this, List.length_append, ih]
    simp; omega

/-- The path on top, or none. -/
def topQ (st : Stk) : ByteArray × Int := st.getLast?.getD (⟨#[]⟩, 0)

theorem topQ_nil : topQ [] = (⟨#[]⟩, 0) := rfl
theorem topQ_snoc (st : Stk) (x : ByteArray × Int) : topQ (st ++ [x]) = x := by unfold topQ; simp

def SumdRet (x : ByteArray × Int) (W : World) (e : Ending) (w' : World) : Prop := e = .returned (.agg #[.string x.1, .int .i64 x.2]) ∧ Below W.heap.size W w'

/-- What the stack's steps keep: all that lies below a base, but for the stack's own box; and whatever is no cells. -/
structure StkKept (B base : Nat) (W W' : World) : Prop where
  low : Below 0 W W'
  block : ∀ k, k < base → k ≠ B → W'.heap[k]? = W.heap[k]?
  others : KeepsOthers W W'

theorem StkKept.trans {B base : Nat} {W W1 W2 : World} (h : StkKept B base W W1) (k : StkKept B base W1 W2) : StkKept B base W W2 :=
  ⟨h.low.trans k.low, fun j hj hne => (k.block j hj hne).trans (h.block j hj hne), h.others.trans k.others⟩

theorem StkKept.of_below {B base : Nat} {W W' : World} (hb : base ≤ W.heap.size) (h : Below W.heap.size W W') : StkKept B base W W' :=
  ⟨h.mono (Nat.zero_le _), fun j hj _ => h.block j (by omega), ⟨h.size, fun k o hk _ => (h.block k (Array.getElem?_eq_some_iff.1 hk).1).trans hk⟩⟩

theorem StkKept.set {B base : Nat} (W : World) (i : Nat) (v : Value) : StkKept B base W (W.setCell ⟨B, i, none⟩ v) :=
  ⟨⟨rfl, rfl, rfl, by simp [World.setCell], fun k hk => absurd hk (Nat.not_lt_zero _)⟩, fun j _ hne => Below.heap_setCell _ _ _ _ hne, KeepsOthers.setCell _ _ _⟩

theorem StkKept.cell {B base : Nat} {W W' : World} (h : StkKept B base W W') {p : Addr} (hp : p.block < base) (hne : p.block ≠ B) {v : Value} (hc : W.cell? p = some v) : W'.cell? p = some v :=
  (World.cell?_of_block (h.block _ hp hne)).trans hc

/-- How many paths a stack has. -/
def lenAt (W : World) (B : Nat) : Nat := match W.cell? ⟨B, 0, none⟩ with
  | some (.slice _ n _) => n
  | _ => 0

theorem vpB_size8 {p : ByteArray} (h : vpB p = true) : p.size ≤ 8 := by
  obtain ⟨w, hw, rfl⟩ := vpB_word h
  exact pB_size hw

theorem topQ_size {stk : Stk} (h : StkOk stk) : (topQ stk).1.size ≤ 8 := by
  rcases List.eq_nil_or_concat stk with rfl | ⟨st', x, rfl⟩
  · decide
  · rw [List.concat_eq_append] at *
    rw [topQ_snoc]
    exact vpB_size8 (h x (by simp)).1

/-- The last letter of a path whose parent is one. -/
theorem path_last {q p : ByteArray} (hq : vpB q = true) (hp : vpB p = true) (h : parB q = p) : ∃ (j kx : Nat) (hj : j < q.size), q.size = j + 1 ∧ kx ≤ 3 ∧ (q[j].toNat : Int) = 97 + kx ∧ nameN q = kx ∧ j ≤ 8 := by
  obtain ⟨w, hw, rfl⟩ := vpB_word hq
  have hsz := pB_size hw
  rcases List.eq_nil_or_concat w with rfl | ⟨v, c, rfl⟩
  · rw [← h] at hp; exact absurd hp (by decide)
  · rw [List.concat_eq_append] at *
    have hc := hw.2 c (by simp)
    obtain ⟨kx, hk, rfl⟩ : ∃ kx, kx < 4 ∧ c = lt4 kx := by
      have := (letter_iff c).1 hc
      simp only [letters, List.mem_cons, List.not_mem_nil, or_false] at this
      rcases this with rfl | rfl | rfl | rfl
      · exact ⟨0, by omega, rfl⟩
      · exact ⟨1, by omega, rfl⟩
      · exact ⟨2, by omega, rfl⟩
      · exact ⟨3, by omega, rfl⟩
    have hl : (pB (v ++ [lt4 kx])).data.toList.getLast? = some (lt4 kx) := by
      rw [pB_list]; unfold Pm.pathOf; rw [if_neg (by simp), flat_last]
    have h1 : 1 ≤ (pB (v ++ [lt4 kx])).size := by
      rw [Lib.size_eq]
      cases hd : (pB (v ++ [lt4 kx])).data.toList with
      | nil => rw [hd] at hl; cases hl
      | cons => simp
    refine ⟨(pB (v ++ [lt4 kx])).size - 1, kx, by omega, by omega, by omega, ?_, name_word v hk, by omega⟩
    have e : (pB (v ++ [lt4 kx])).data.toList[(pB (v ++ [lt4 kx])).size - 1]? = some (lt4 kx) := by
      rw [Lib.size_eq, ← List.getLast?_eq_getElem?]; exact hl
    rw [Pm.byte_getElem? _ _ (by omega)] at e
    have := lt4_name hk
    rw [Option.some.inj e]
    omega

theorem StkKept.drew {B base : Nat} {W W' : World} (h : StkKept B base W W') : StkKept B base W W'.drew := ⟨h.low.drew, h.block, h.others.trans ⟨Nat.le_refl _, fun _ _ h _ => h⟩⟩

theorem StkKept.setFar {B base : Nat} (W : World) {c : Nat} (h : base ≤ c) (i : Nat) (v : Value) : StkKept B base W (W.setCell ⟨c, i, none⟩ v) :=
  ⟨⟨rfl, rfl, rfl, by simp [World.setCell], fun k hk => absurd hk (Nat.not_lt_zero _)⟩, fun j hj _ => Below.heap_setCell _ _ _ _ (by show j ≠ c; omega), KeepsOthers.setCell _ _ _⟩

theorem StkKept.grown {B base : Nat} {W W' : World} {e : TypeId} {size n : Nat} {v : Value} {xs : List Value} (h : W.ownsRow base e size v n xs) (hb : base ≤ W.heap.size) (hg : W.grownBy W' v.ownBlock) : StkKept B base W W' := by
  refine ⟨⟨hg.os, hg.tape, hg.output, hg.size, fun k hk => absurd hk (Nat.not_lt_zero _)⟩, fun k hk _ => ?_, KeepsOthers.of_grownBy hg fun j o hj ho => ?_⟩
  · exact hg.block k (by omega) fun e => by have := (h.lt k e.symm).1; omega
  · rcases h.2 with ⟨rfl, _⟩ | ⟨g, cap, cur, rfl, h1, h2, _⟩
    · cases hj
    · simp [Value.ownBlock] at hj
      subst hj
      rw [h2] at ho; cases ho; rfl

theorem flatS_snoc (stk : Stk) (p : ByteArray) (m : Int) : flatS (stk ++ [(p, m)]) = flatS stk ++ [.string p, .int .i64 m] := by rw [flatS_append]; rfl

theorem parB_empty {p : ByteArray} (hp : vpB p = true) : parB ⟨#[]⟩ ≠ p := by
  intro e
  rw [← e] at hp
  exact absurd hp (by decide)

end Go.Proofs.YtkaokncaockjkaaGreatDoor

/-
  PLAIN MATHEMATICS OF FRAMES: bodies, their sums, frames, and what a scan finds.
-/
namespace Go.Proofs.YtkaokncaockjkaaGreatDoor

def byteOk (x : Int) : Bool := decide (0 ≤ x ∧ x ≤ 255)
def bodyOk (b : List Int) : Bool := b.all byteOk && decide (1 ≤ b.length ∧ b.length ≤ 16)
def sumStep (n x : Int) : Int := (31 * n + x) % 251
def sumB (b : List Int) : Int := b.foldl sumStep 7
def bodySum (b : List Int) : Int := if bodyOk b = true then sumB b else -1
def frame (b : List Int) : List Int := (b.length : Int) :: (b ++ [sumB b])
def frameOf (b : List Int) : List Int := if bodyOk b = true then frame b else []
def framesL (bs : List (List Int)) : List Int := bs.flatMap frame
def framesOf (bs : List (List Int)) : Option (List Int) := if (bs.all bodyOk && decide (bs.length ≤ 40)) = true then some (framesL bs) else none

theorem frame_length (b : List Int) : (frame b).length = b.length + 2 := by simp [frame]
theorem framesL_append (a b : List (List Int)) : framesL (a ++ b) = framesL a ++ framesL b := by unfold framesL; rw [List.flatMap_append]
theorem framesL_cons (b : List Int) (bs : List (List Int)) : framesL (b :: bs) = frame b ++ framesL bs := rfl
theorem framesL_one (b : List Int) : framesL [b] = frame b := by simp [framesL]

theorem bodyOk_len {b : List Int} (h : bodyOk b = true) : 1 ≤ b.length ∧ b.length ≤ 16 := by
  unfold bodyOk at h
  simp only [Bool.and_eq_true, decide_eq_true_eq] at h
  exact h.2
theorem bodyOk_byte {b : List Int} (h : bodyOk b = true) {x : Int} (hx : x ∈ b) : 0 ≤ x ∧ x ≤ 255 := by
  unfold bodyOk at h
  simp only [Bool.and_eq_true, List.all_eq_true] at h
  have := h.1 x hx
  unfold byteOk at this
  simpa using this

theorem sumStep_range (n x : Int) : 0 ≤ sumStep n x ∧ sumStep n x ≤ 250 := by unfold sumStep; omega
theorem foldl_range : ∀ (b : List Int) (n : Int), 0 ≤ n → n ≤ 250 → 0 ≤ b.foldl sumStep n ∧ b.foldl sumStep n ≤ 250
  | [], _, h1, h2 => ⟨h1, h2⟩
  | x :: r, n, _, _ => by
    obtain ⟨a, b⟩ := sumStep_range n x
    exact foldl_range r _ a b
theorem sumB_range (b : List Int) : 0 ≤ sumB b ∧ sumB b ≤ 250 := foldl_range b 7 (by omega) (by omega)

theorem foldl_inj : ∀ (b : List Int) (n m : Int), 0 ≤ n → n ≤ 250 → 0 ≤ m → m ≤ 250 → n ≠ m → b.foldl sumStep n ≠ b.foldl sumStep m
  | [], _, _, _, _, _, _, h => h
  | x :: r, n, m, h1, h2, h3, h4, h => by
    obtain ⟨a, b⟩ := sumStep_range n x
    obtain ⟨c, d⟩ := sumStep_range m x
    refine foldl_inj r _ _ a b c d ?_
    unfold sumStep
    omega

/-- A changed byte changes the sum. -/
theorem sum_changed {b : List Int} {k : Nat} {x y : Int} (hk : b[k]? = some x) (hxy : y = x + 1 ∨ y = x - 1) : sumB (b.set k y) ≠ sumB b := by
  have hl := (List.getElem?_eq_some_iff.1 hk).1
  have hx := (List.getElem?_eq_some_iff.1 hk).2
  have e1 : b = b.take k ++ x :: b.drop (k + 1) := by
    rw [← hx, List.getElem_cons_drop, List.take_append_drop]
  have e2 : b.set k y = b.take k ++ y :: b.drop (k + 1) := List.set_eq_take_append_cons_drop.trans (if_pos hl)
  rw [e2]
  conv => rhs; rw [e1]
  unfold sumB
  rw [List.foldl_append, List.foldl_append, List.foldl_cons, List.foldl_cons]
  obtain ⟨a, b'⟩ := foldl_range (b.take k) 7 (by omega) (by omega)
  generalize (b.take k).foldl sumStep 7 = n at a b'
  obtain ⟨p, q⟩ := sumStep_range n y
  obtain ⟨r, s⟩ := sumStep_range n x
  refine foldl_inj _ _ _ p q r s ?_
  unfold sumStep
  omega

/-! ## Scanning -/

/-- A whole frame at the beginning: its body. -/
def headOk (n : Int) (rest : List Int) : Bool :=
  decide (1 ≤ n ∧ n ≤ 16) && (decide (n.toNat + 1 ≤ rest.length) && (bodyOk (rest.take n.toNat) && decide (rest[n.toNat]? = some (sumB (rest.take n.toNat)))))

def scanF : Nat → List Int → List (List Int) × Nat
  | 0, _ => ([], 0)
  | _ + 1, [] => ([], 0)
  | f + 1, n :: rest => if headOk n rest = true then ((rest.take n.toNat) :: (scanF f (rest.drop (n.toNat + 1))).1, n.toNat + 2 + (scanF f (rest.drop (n.toNat + 1))).2) else ([], 0)

def scanL (l : List Int) : List (List Int) × Nat := scanF l.length l

theorem headOk_iff (n : Int) (rest : List Int) : headOk n rest = true ↔ (1 ≤ n ∧ n ≤ 16) ∧ n.toNat + 1 ≤ rest.length ∧ bodyOk (rest.take n.toNat) = true ∧ rest[n.toNat]? = some (sumB (rest.take n.toNat)) := by
  unfold headOk
  simp only [Bool.and_eq_true, decide_eq_true_eq]

theorem scanF_more : ∀ (f g : Nat) (l : List Int), l.length ≤ f → l.length ≤ g → scanF f l = scanF g l
  | 0, 0, _, _, _ => rfl
  | 0, g + 1, [], _, _ => rfl
  | f + 1, 0, [], _, _ => rfl
  | f + 1, g + 1, [], _, _ => rfl
  | f + 1, g + 1, n :: rest, h1, h2 => by
    unfold scanF
    have : scanF f (rest.drop (n.toNat + 1)) = scanF g (rest.drop (n.toNat + 1)) := scanF_more f g _ (by rw [List.length_drop]; simp at h1; omega) (by rw [List.length_drop]; simp at h2; omega)
    rw [this]

theorem scanL_cons (n : Int) (rest : List Int) : scanL (n :: rest) = if headOk n rest = true then ((rest.take n.toNat) :: (scanL (rest.drop (n.toNat + 1))).1, n.toNat + 2 + (scanL (rest.drop (n.toNat + 1))).2) else ([], 0) := by
  unfold scanL
  show scanF (rest.length + 1) (n :: rest) = _
  conv => lhs; unfold scanF
  rw [scanF_more rest.length (rest.drop (n.toNat + 1)).length _ (by rw [List.length_drop]; omega) (Nat.le_refl _)]

theorem scanL_nil : scanL [] = ([], 0) := rfl

theorem head_frame {b : List Int} (h : bodyOk b = true) (rest : List Int) : headOk (b.length : Int) (b ++ [sumB b] ++ rest) = true := by
  rw [headOk_iff]
  have hl := bodyOk_len h
  have e : (b.length : Int).toNat = b.length := by omega
  rw [e]
  have ht : (b ++ [sumB b] ++ rest).take b.length = b := by rw [List.append_assoc, List.take_left']; rfl
  refine ⟨by omega, by simp, by rw [ht]; exact h, ?_⟩
  rw [ht, List.append_assoc, List.getElem?_append_right (Nat.le_refl _)]
  simp

theorem scan_frame {b : List Int} (h : bodyOk b = true) (rest : List Int) : scanL (frame b ++ rest) = (b :: (scanL rest).1, b.length + 2 + (scanL rest).2) := by
  unfold frame
  rw [List.cons_append, scanL_cons, if_pos (head_frame h rest)]
  have e : (b.length : Int).toNat = b.length := by omega
  rw [e]
  have ht : (b ++ [sumB b] ++ rest).take b.length = b := by rw [List.append_assoc, List.take_left']; rfl
  have hd : (b ++ [sumB b] ++ rest).drop (b.length + 1) = rest := by
    rw [List.drop_left']; simp
  rw [ht, hd]

/-- What was framed is found. -/
theorem scan_frames : ∀ {bs : List (List Int)}, bs.all bodyOk = true → ∀ rest, scanL (framesL bs ++ rest) = (bs ++ (scanL rest).1, (framesL bs).length + (scanL rest).2)
  | [], _, rest => by simp [framesL]
  | b :: bs, h, rest => by
    simp only [List.all_cons, Bool.and_eq_true] at h
    rw [framesL_cons, List.append_assoc, scan_frame h.1, scan_frames h.2]
    simp [frame_length]
    omega

theorem scan_all {bs : List (List Int)} (h : bs.all bodyOk = true) : scanL (framesL bs) = (bs, (framesL bs).length) := by
  have := scan_frames h []
  rw [List.append_nil, scanL_nil] at this
  simpa using this

/-- A frame that lacks its last number is none. -/
theorem scan_torn {b : List Int} (h : bodyOk b = true) : scanL (frame b).dropLast = ([], 0) := by
  unfold frame
  have hl := bodyOk_len h
  have : ((b.length : Int) :: (b ++ [sumB b])).dropLast = (b.length : Int) :: b := by
    rw [← List.cons_append, List.dropLast_concat]
  rw [this, scanL_cons, if_neg]
  rw [headOk_iff]
  rintro ⟨_, h2, _⟩
  have e : (b.length : Int).toNat = b.length := by omega
  omega

theorem scan_torn_all {bs : List (List Int)} {b : List Int} (h : (bs ++ [b]).all bodyOk = true) : scanL (framesL (bs ++ [b])).dropLast = (bs, (framesL bs).length) := by
  simp only [List.all_append, Bool.and_eq_true, List.all_cons, List.all_nil, and_true] at h
  rw [framesL_append, framesL_one, List.dropLast_append_of_ne_nil (by simp [frame]), scan_frames h.1, scan_torn h.2]
  simp

/-- What is found was framed. -/
theorem scan_sound : ∀ (l : List Int), (scanL l).1.all bodyOk = true ∧ framesL (scanL l).1 = l.take (scanL l).2 ∧ (scanL l).2 ≤ l.length := by
  intro l
  generalize hn : l.length = m
  induction m using Nat.strongRecOn generalizing l with
  | ind m ih =>
    match l with
    | [] => exact ⟨rfl, rfl, by simp [scanL_nil]⟩
    | n :: rest =>
      rw [scanL_cons]
      by_cases h : headOk n rest = true
      · rw [if_pos h]
        obtain ⟨h1, h2, h3, h4⟩ := (headOk_iff _ _).1 h
        obtain ⟨i1, i2, i3⟩ := ih (rest.drop (n.toNat + 1)).length (by rw [List.length_drop]; simp at hn; omega) _ rfl
        have hdl : (rest.drop (n.toNat + 1)).length = rest.length - (n.toNat + 1) := List.length_drop
        have htl : (rest.take n.toNat).length = n.toNat := by rw [List.length_take]; omega
        have hfr : frame (rest.take n.toNat) = n :: rest.take (n.toNat + 1) := by
          unfold frame
          rw [htl, List.take_add_one, h4, show ((n.toNat : Nat) : Int) = n by omega]
          rfl
        refine ⟨by simp only [List.all_cons, Bool.and_eq_true]; exact ⟨h3, i1⟩, ?_, ?_⟩
        · show framesL (_ :: _) = _
          rw [framesL_cons, i2, hfr]
          show n :: (rest.take (n.toNat + 1) ++ _) = _
          have ej : n.toNat + 2 + (scanL (rest.drop (n.toNat + 1))).2 = (n.toNat + 1 + (scanL (rest.drop (n.toNat + 1))).2) + 1 := by omega
          rw [ej, List.take_succ_cons]
          congr 1
          generalize (scanL (rest.drop (n.toNat + 1))).2 = j
          exact (List.take_add (l := rest) (i := n.toNat + 1) (j := j)).symm
        · show n.toNat + 2 + _ ≤ m
          simp at hn
          omega
      · rw [if_neg h]
        exact ⟨rfl, rfl, Nat.zero_le _⟩

/-- Good frames stay good. -/
theorem scan_more (l : List Int) {b : List Int} (h : bodyOk b = true) : scanL (l.take (scanL l).2 ++ frame b) = ((scanL l).1 ++ [b], (scanL l).2 + b.length + 2) := by
  obtain ⟨h1, h2, h3⟩ := scan_sound l
  have hl : (framesL (scanL l).1).length = (scanL l).2 := by rw [h2, List.length_take]; omega
  rw [← h2, ← framesL_one b, ← framesL_append, scan_all (by rw [List.all_append, h1]; simp [h]), framesL_append, List.length_append, hl, framesL_one, frame_length]
  rfl

/-- A part of the numbers has a part of the bodies. -/
theorem scan_part : ∀ (l : List Int) (k : Nat), (scanL (l.take k)).2 ≤ k ∧ (scanL (l.take k)).2 ≤ (scanL l).2 ∧ (scanL (l.take k)).1 <+: (scanL l).1 := by
  intro l
  generalize hn : l.length = m
  induction m using Nat.strongRecOn generalizing l with
  | ind m ih =>
    intro k
    have hk : (scanL (l.take k)).2 ≤ k := Nat.le_trans (scan_sound (l.take k)).2.2 (by rw [List.length_take]; omega)
    refine ⟨hk, ?_⟩
    clear hk
    match l, k with
    | [], k => simp [scanL_nil]
    | n :: rest, 0 => simp [scanL_nil]
    | n :: rest, k + 1 =>
      rw [List.take_succ_cons, scanL_cons]
      by_cases h : headOk n (rest.take k) = true
      · obtain ⟨h1, h2, h3, h4⟩ := (headOk_iff _ _).1 h
        rw [List.length_take] at h2
        have e1 : (rest.take k).take n.toNat = rest.take n.toNat := by rw [List.take_take, Nat.min_eq_left (by omega)]
        have e2 : (rest.take k).drop (n.toNat + 1) = (rest.drop (n.toNat + 1)).take (k - (n.toNat + 1)) := by rw [List.drop_take]
        have e3 : (rest.take k)[n.toNat]? = rest[n.toNat]? := by rw [List.getElem?_take, if_pos (by omega)]
        have h' : headOk n rest = true := (headOk_iff _ _).2 ⟨h1, by omega, by rw [← e1]; exact h3, by rw [← e3, ← e1]; exact h4⟩
        rw [if_pos h, scanL_cons n rest, if_pos h', e1, e2]
        obtain ⟨_, i2, i3⟩ := ih (rest.drop (n.toNat + 1)).length (by rw [List.length_drop]; simp at hn; omega) _ rfl (k - (n.toNat + 1))
        refine ⟨by show _ + _ ≤ _ + _; omega, ?_⟩
        obtain ⟨t, ht⟩ := i3
        exact ⟨t, by show (_ :: _) ++ t = _ :: _; rw [List.cons_append, ht]⟩
      · rw [if_neg h]
        exact ⟨Nat.zero_le _, List.nil_prefix⟩

theorem framesOf_some {bs : List (List Int)} {out : List Int} (h : framesOf bs = some out) : bs.all bodyOk = true ∧ bs.length ≤ 40 ∧ out = framesL bs := by
  unfold framesOf at h
  split at h
  · rename_i hc
    simp only [Bool.and_eq_true, decide_eq_true_eq] at hc
    exact ⟨hc.1, hc.2, (Option.some.inj h).symm⟩
  · cases h

theorem framesOf_take {bs : List (List Int)} {out : List Int} (h : framesOf bs = some out) (k : Nat) : framesOf (bs.take k) = some (framesL (bs.take k)) ∧ framesOf (bs.drop k) = some (framesL (bs.drop k)) ∧ framesL (bs.take k) ++ framesL (bs.drop k) = out := by
  obtain ⟨h1, h2, h3⟩ := framesOf_some h
  have ha : ∀ c : List (List Int), (∀ x ∈ c, x ∈ bs) → c.all bodyOk = true := fun c hc => List.all_eq_true.2 fun x hx => List.all_eq_true.1 h1 x (hc x hx)
  refine ⟨?_, ?_, ?_⟩
  · unfold framesOf
    rw [ha _ (fun x hx => List.mem_of_mem_take hx), decide_eq_true (by rw [List.length_take]; omega)]; rfl
  · unfold framesOf
    rw [ha _ (fun x hx => List.mem_of_mem_drop hx), decide_eq_true (by rw [List.length_drop]; omega)]; rfl
  · rw [← framesL_append, List.take_append_drop, h3]

end Go.Proofs.YtkaokncaockjkaaGreatDoor

/-
  WALKS: lists of numbers; spec.l6In, l4Bytes, l4Body, l4Sum, BodySum.
-/
namespace Go.Proofs.YtkaokncaockjkaaGreatDoor
open Go.RowKit
set_option linter.unusedVariables false

/-- A list of numbers, wherever it lies. -/
def IntsAt (W : World) (a : Option Addr) (len : Nat) (zs : List Int) : Prop :=
  zs.length = len ∧ (len = 0 ∨ ∃ b off, a = some ⟨b, off, none⟩ ∧ ∀ i z, zs[i]? = some z → W.cell? ⟨b, off + i, none⟩ = some (.int .i64 z))

theorem IntsAt.keep {W W' : World} {a : Option Addr} {len : Nat} {zs : List Int} (h : IntsAt W a len zs) (hb : Below W.heap.size W W') : IntsAt W' a len zs := by
  obtain ⟨h1, h0 | ⟨b, off, ha, hc⟩⟩ := h
  · exact ⟨h1, .inl h0⟩
  · exact ⟨h1, .inr ⟨b, off, ha, fun i x hx => cell_kept hb (hc i x hx)⟩⟩

theorem IntsAt.at {W : World} {a : Option Addr} {len : Nat} {zs : List Int} (h : IntsAt W a len zs) {i : Nat} (hi : i < len) :
    ∃ b off z, a = some ⟨b, off, none⟩ ∧ zs[i]? = some z ∧ W.cell? ⟨b, off + i, none⟩ = some (.int .i64 z) := by
  obtain ⟨h1, h0 | ⟨b, off, ha, hc⟩⟩ := h
  · omega
  · obtain ⟨x, hx⟩ : ∃ x, zs[i]? = some x := ⟨_, List.getElem?_eq_getElem (by omega)⟩
    exact ⟨b, off, x, ha, hx, hc i x hx⟩

def intsV (zs : List Int) : List Value := zs.map (Value.int .i64)

theorem ints_of_own {W : World} {base : Nat} {e : TypeId} {v : Value} {zs : List Int} (h : W.ownsRow base e 1 v zs.length (intsV zs)) :
    ∃ a cap, v = .slice a zs.length cap ∧ IntsAt W a zs.length zs := by
  rcases h.2 with ⟨rfl, h0⟩ | ⟨g, cap, cur, rfl, h1, h2, h3, h4, h5, h6⟩
  · exact ⟨none, 0, by rw [h0], rfl, .inl h0⟩
  · refine ⟨some ⟨g, 0, none⟩, cap, rfl, rfl, .inr ⟨g, 0, rfl, fun i x hx => ?_⟩⟩
    have hi := (List.getElem?_eq_some_iff.1 hx).1
    rw [Nat.zero_add, h.cellAt i (by omega)]
    unfold intsV
    rw [List.getElem?_map, hx]; rfl

theorem retb {a b : Bool} (h : a = b) : Ending.returned (.bool a) = .returned (.bool b) := by rw [h]

set_option maxHeartbeats 400000 in
theorem l6In_c (n lo hi : Int) (w : World) : Calls Tryz.prog 56 #[.int .i64 n, .int .i64 lo, .int .i64 hi] w fun e w' => e = .returned (.bool (decide (lo ≤ n ∧ n ≤ hi))) ∧ w' = w := by
  by_cases h1 : lo ≤ n
  · by_cases h2 : n ≤ hi
    · have hr := Lib.hid (show true = decide (lo ≤ n ∧ n ≤ hi) from (decide_eq_true ⟨h1, h2⟩).symm)
      have d1 : decide (lo ≤ n) = true := decide_eq_true h1
      have d2 : decide (n ≤ hi) = true := decide_eq_true h2
      go_enter Tryz.func56, Tryz.ntmps56
      go_wp2
      go_ret
      exact ⟨retb hr.out, rfl⟩
    · have hr := Lib.hid (show false = decide (lo ≤ n ∧ n ≤ hi) from (decide_eq_false (fun h => h2 h.2)).symm)
      have d1 : decide (lo ≤ n) = true := decide_eq_true h1
      have d2 : decide (n ≤ hi) = false := decide_eq_false h2
      have h2' : hi < n := by omega
      clear h2
      go_enter Tryz.func56, Tryz.ntmps56
      go_wp2
      go_ret
      exact ⟨retb hr.out, rfl⟩
  · have hr := Lib.hid (show false = decide (lo ≤ n ∧ n ≤ hi) from (decide_eq_false (fun h => h1 h.1)).symm)
    have d1 : decide (lo ≤ n) = false := decide_eq_false h1
    have h1' : n < lo := by omega
    clear h1
    go_enter Tryz.func56, Tryz.ntmps56
    go_wp2
    go_ret
    exact ⟨retb hr.out, rfl⟩

def BytesRel (zs : List Int) (W : World) (i : Value) (wr : World) : Prop := ∃ n : Nat, i = .int .i64 n ∧ n ≤ zs.length ∧ Hid ((zs.take n).all byteOk = true) ∧ wr = W

theorem take_all {zs : List Int} {i : Nat} {z : Int} (h : zs[i]? = some z) : (zs.take (i + 1)).all byteOk = ((zs.take i).all byteOk && byteOk z) := by
  rw [List.take_add_one, h]
  simp [List.all_append]

theorem all_take_false {zs : List Int} {i : Nat} (h : (zs.take i).all byteOk = false) : zs.all byteOk = false := by
  rw [Bool.eq_false_iff] at h ⊢
  intro hc
  exact h (List.all_eq_true.2 fun x hx => List.all_eq_true.1 hc x (List.mem_of_mem_take hx))

def SumRel (zs : List Int) (W : World) (n i : Value) (wr : World) : Prop := ∃ k : Nat, i = .int .i64 k ∧ k ≤ zs.length ∧ n = .int .i64 (sumB (zs.take k)) ∧ wr = W

theorem sumB_next {zs : List Int} {i : Nat} {z : Int} (h : zs[i]? = some z) : sumB (zs.take (i + 1)) = (31 * sumB (zs.take i) + z) % 251 := by
  unfold sumB
  rw [List.take_add_one, h, List.foldl_append]
  rfl

end Go.Proofs.YtkaokncaockjkaaGreatDoor

/-
  WALKS: spec.FrameOf.
-/
namespace Go.Proofs.YtkaokncaockjkaaGreatDoor
open Go.RowKit
set_option linter.unusedVariables false

theorem infoInt : (Tryz.prog.info? 3).map (fun i => (i.zero, i.size, i.bytes)) = some (some (.int .i64 0), 1, 8) := by kernel_rfl

/-- A list of numbers that the call has made. -/
def OwnsInts (base : Nat) (zs : List Int) (e : Ending) (w' : World) : Prop := ∃ sl, e = .returned sl ∧ w'.ownsRow base 3 1 sl zs.length (intsV zs)

theorem intsV_append (a b : List Int) : intsV (a ++ b) = intsV a ++ intsV b := by unfold intsV; rw [List.map_append]
theorem intsV_length (a : List Int) : (intsV a).length = a.length := by unfold intsV; rw [List.length_map]
theorem intsV_cells (zs : List Int) : ∀ u ∈ intsV zs, u.oneCell' = true := by
  intro u hu
  unfold intsV at hu
  obtain ⟨z, _, rfl⟩ := List.mem_map.1 hu
  rfl

theorem own_join1 {W : World} {b : Nat} {e : TypeId} {v : Value} {acc more : List Int} (h : W.ownsRow b e 1 v (acc.length + more.length) (intsV acc ++ intsV more)) : W.ownsRow b e 1 v (acc ++ more).length (intsV (acc ++ more)) := by
  rw [intsV_append, List.length_append]; exact h

theorem own_below1 {W W' : World} {base : Nat} {e : TypeId} {size n : Nat} {v : Value} {xs : List Value} (h : W.ownsRow base e size v n xs) (hg : Below W.heap.size W W') : W'.ownsRow base e size v n xs :=
  h.kept (below_grown hg) (by cases hv : v.ownBlock <;> simp)

theorem own_mono1 {W : World} {b c : Nat} {e : TypeId} {size n : Nat} {v : Value} {xs : List Value} (h : W.ownsRow c e size v n xs) (hbc : b ≤ c) : W.ownsRow b e size v n xs := by
  obtain ⟨h1, h2 | ⟨g, cap, cur, h3, h4, h5⟩⟩ := h
  · exact ⟨h1, .inl h2⟩
  · exact ⟨h1, .inr ⟨g, cap, cur, h3, Nat.le_trans hbc h4, h5⟩⟩

theorem add_off (b off j : Nat) : ((⟨b, off, none⟩ : Addr).add j) = ⟨b, off + j, none⟩ := by
  unfold Addr.add
  split
  · rename_i h; rw [h]; rfl
  · rfl

theorem ints_cells {W : World} {b off len : Nat} {zs : List Int} (h : IntsAt W (some ⟨b, off, none⟩) len zs) : ∀ j u, (intsV zs)[j]? = some u → W.cell? ((⟨b, off, none⟩ : Addr).add j) = some u := by
  intro j u hj
  unfold intsV at hj
  rw [List.getElem?_map] at hj
  obtain ⟨z, hz, rfl⟩ := Option.map_eq_some_iff.1 hj
  obtain ⟨h1, h0 | ⟨b', off', ha, hc⟩⟩ := h
  · have := (List.getElem?_eq_some_iff.1 hz).1; omega
  · simp at ha
    obtain ⟨rfl, rfl⟩ := ha
    rw [add_off]; exact hc j z hz

theorem cell_int_new (w : World) (v : Value) (t : TypeId) : ∀ j u, [v][j]? = some u → (w.alloc (.cells #[v] t)).cell? ((⟨w.heap.size, 0, none⟩ : Addr).add j) = some u := by
  intro j u hj
  match j, hj with
  | 0, hj => simp at hj; subst hj; simp [Addr.add]

end Go.Proofs.YtkaokncaockjkaaGreatDoor

/-
  WALKS: impl.sumsOf.
-/
namespace Go.Proofs.YtkaokncaockjkaaGreatDoor
open Go.RowKit
set_option linter.unusedVariables false

attribute [local go_sem] Oper.semAt_some

/-- One round: a sum is written, and the stack moves on. -/
def stepB {ns : List Nd} (a : List Int × Stk) (x : Elt ns) : List Int × Stk :=
  (a.1.set x.i (popL x.n.p (baseW (x.n.k, x.n.v)) a.2).1, (x.n.p, (popL x.n.p (baseW (x.n.k, x.n.v)) a.2).1) :: (popL x.n.p (baseW (x.n.k, x.n.v)) a.2).2)

theorem set_last (j : Nat) (r : Int) (A : List Int) : (List.replicate (j + 1) (0 : Int) ++ A).set j r = List.replicate j 0 ++ r :: A := by
  rw [List.replicate_succ', List.append_assoc, List.set_append_right _ _ (by simp)]
  simp

theorem fold_back (ns : List Nd) : ∀ (j : Nat) (h : j ≤ ns.length), (backE ns j h).foldl stepB (List.replicate j 0 ++ (runSt (ns.drop j)).1, (runSt (ns.drop j)).2) = runSt ns
  | 0, _ => by simp [backE]
  | j + 1, h => by
    have hd : ns.drop j = ns[j] :: ns.drop (j + 1) := List.drop_eq_getElem_cons (by omega)
    have e : runSt (ns.drop j) = stepNd ns[j] (runSt (ns.drop (j + 1))) := by rw [hd, runSt_cons]
    have ih := fold_back ns j (by omega)
    rw [e] at ih
    show List.foldl stepB (stepB _ ⟨j, ns[j], _⟩) (backE ns j _) = _
    unfold stepB
    simp only
    rw [set_last]
    exact ih

theorem fold_all (ns : List Nd) : (backE ns ns.length (Nat.le_refl _)).foldl stepB (List.replicate ns.length 0, []) = runSt ns := by
  have := fold_back ns ns.length (Nat.le_refl _)
  rw [List.drop_length] at this
  simpa [runSt] using this

theorem infoInt3 : (Tryz.prog.info? 3).map (fun i => (i.zero, i.size, i.bytes)) = some (some (.int .i64 0), 1, 8) := by kernel_rfl

theorem made_row (W : World) (len : Nat) (hm : len ≤ maxLen) : (W.alloc (.cells (madeCells #[.int .i64 0] len) 3)).ownsRow W.heap.size 3 1 (.slice (some ⟨W.heap.size, 0, none⟩) len len) len (intsV (List.replicate len 0)) := by
  refine ⟨by rw [intsV_length, List.length_replicate, Nat.mul_one], .inr ⟨W.heap.size, len, _, rfl, Nat.le_refl _, World.alloc_heap_new W _, Nat.le_refl _, hm, by rw [size_madeCells, Nat.mul_one], ?_⟩⟩
  rw [Nat.mul_one, List.take_of_length_le (by rw [Array.length_toList, size_madeCells]; omega)]
  unfold madeCells intsV
  rw [List.map_replicate, List.eq_replicate_iff]
  refine ⟨by simp, fun v hv => ?_⟩
  simp [Nat.mod_one] at hv
  exact hv.2.symm

theorem StkKept.row {B base : Nat} {W W' : World} (h : StkKept B base W W') {g0 b0 n cap size : Nat} {e : TypeId} {xs : List Value} (hg : g0 < base) (hne : g0 ≠ B) (ho : W.ownsRow b0 e size (.slice (some ⟨g0, 0, none⟩) n cap) n xs) : W'.ownsRow b0 e size (.slice (some ⟨g0, 0, none⟩) n cap) n xs := by
  refine ⟨ho.1, ?_⟩
  rcases ho.2 with ⟨h0, _⟩ | ⟨g, cap', cur, hv, h1, h2, h3⟩
  · cases h0
  · cases hv
    exact .inr ⟨g0, cap, cur, rfl, h1, (h.block g0 hg hne).trans h2, h3⟩

theorem intsV_set (zs : List Int) (i : Nat) (r : Int) : (intsV zs).set i (.int .i64 r) = intsV (zs.set i r) := by unfold intsV; rw [List.map_set]

/-- The loop's variable lies in a box of its own. -/
def NdBox {ns : List Nd} (B0 : Nat) (tm : Nat → Elt ns → Array Value) (x : Elt ns) (a' : Act) (W : World) : Prop :=
  ∃ Bx, B0 ≤ Bx ∧ W.heap[Bx]? = some (.cells #[.string x.n.p, .int .i64 x.n.k, .int .i64 x.n.v] 47 (0, 0)) ∧ a' = { tmps := tm Bx x, defers := [] }

theorem NdBox.own {ns : List Nd} (B0 : Nat) (tm : Nat → Elt ns → Array Value) (x : Elt ns) (a' : Act) : Own (fun (_ : Unit) W => NdBox B0 tm x a' W) := by
  rintro _ A B row ⟨Bx, h0, h1, h2⟩ hg hr
  refine ⟨Bx, h0, (hg.block Bx (Array.getElem?_eq_some_iff.1 h1).1 fun e => ?_).trans h1, h2⟩
  obtain ⟨o, ho, hc⟩ := hr _ e.symm
  rw [h1] at ho; cases ho; cases hc

end Go.Proofs.YtkaokncaockjkaaGreatDoor

/-
  WALKS: spec.l5Sum, TreeSum, TreeSums.
-/
namespace Go.Proofs.YtkaokncaockjkaaGreatDoor
open Go.RowKit
set_option linter.unusedVariables false

theorem convLetter (w : World) (c : Nat) : (convert 22 9 (.slice (some ⟨w.heap.size, 0, none⟩) 1 1)).run Tryz.prog (w.alloc (.cells #[.int .u8 (97 + (c : Int))] 5)) =
    .ok (.string ⟨#[UInt8.ofNat (97 + c)]⟩) (w.alloc (.cells #[.int .u8 (97 + (c : Int))] 5)) := by
  rw [run_convert_bytes_string _ _ _ _ _ _ _ Tryz.underlying22 Tryz.underlying5 Tryz.underlying9, run_bytesToString _ _ _ _ [97 + (c : Int)] ?_]
  · simp only [List.foldl_cons, List.foldl_nil]
    have : (97 + (c : Int)).toNat = 97 + c := by omega
    rw [this]; rfl
  · simp [loadCells, go_sem, Addr.add]

theorem pB_len {v : List UInt8} : (pB v).size ≤ 2 * v.length + 1 := by
  show (Pm.pathOf v).length ≤ _
  unfold Pm.pathOf
  split
  · simp
  · rw [Pm.flat_length]; omega

theorem mk_app (x y : ByteArray) : (x ++ y).data.toList = x.data.toList ++ y.data.toList := by simp [ByteArray.data_append]

theorem child_root (c : UInt8) : (⟨#[47]⟩ : ByteArray) ++ ⟨#[c]⟩ = pB [c] := by
  rw [← Lib.mk_data ((⟨#[47]⟩ : ByteArray) ++ ⟨#[c]⟩), mk_app]; rfl

theorem child_path {w : List UInt8} (hw : w ≠ []) (c : UInt8) : pB w ++ ⟨#[47]⟩ ++ ⟨#[c]⟩ = pB (w ++ [c]) := by
  rw [← Lib.mk_data (pB w ++ ⟨#[47]⟩ ++ ⟨#[c]⟩), mk_app, mk_app, pB_list]
  unfold pB Pm.pathOf
  rw [if_neg hw, if_neg (by simp), Pm.flat_append]
  simp [Pm.flat]

/-- What a sum's walk leaves: a number. -/
def NumPost (n : Int) (W : World) (e : Ending) (w' : World) : Prop := e = .returned (.int .i64 n) ∧ Below W.heap.size W w'

def L5Rel (G : List UInt8 → Int × Int) (d : Nat) (w : List UInt8) (W : World) (n k : Value) (wr : World) : Prop :=
  ∃ m : Nat, k = .int .i64 m ∧ m ≤ 4 ∧ n = .int .i64 (partW G d w m) ∧ Hid (Below W.heap.size W wr)

theorem letter_ofNat {k : Nat} (hk : k < 4) : Pm.letter (UInt8.ofNat (97 + k)) = true := by
  rcases (by omega : k = 0 ∨ k = 1 ∨ k = 2 ∨ k = 3) with rfl | rfl | rfl | rfl <;> decide

theorem word_next {w : List UInt8} (hw : Wrd w) (h : w.length < 4) {k : Nat} (hk : k < 4) : Wrd (w ++ [UInt8.ofNat (97 + k)]) :=
  ⟨by rw [List.length_append]; show w.length + 1 ≤ 4; omega, fun x hx => by
    rcases List.mem_append.1 hx with hx | hx
    · exact hw.2 x hx
    · rw [List.mem_singleton.1 hx]; exact letter_ofNat hk⟩

def SumsRel (ns : List Nd) (W1 : World) (o i : Value) (wr : World) : Prop :=
  ∃ n : Nat, i = .int .i64 n ∧ n ≤ ns.length ∧ Hid (validT ns = true ∨ n = 0) ∧ wr.ownsRow W1.heap.size 3 1 o ((ns.take n).map (fun x => treeSum ns x.p)).length (intsV ((ns.take n).map (fun x => treeSum ns x.p))) ∧ Hid (Below W1.heap.size W1 wr)

end Go.Proofs.YtkaokncaockjkaaGreatDoor

/-
  WALKS: impl.TreeSums, impl.TreeSum.
-/
namespace Go.Proofs.YtkaokncaockjkaaGreatDoor
open Go.RowKit
set_option linter.unusedVariables false

theorem sums_valid {ns : List Nd} (h : validT ns = true) : (runSt ns).1 = treeSums ns := by
  rw [run_tree h]
  unfold treeSums
  rw [if_pos h]

theorem sums_bad {ns : List Nd} (h : validT ns = false) : treeSums ns = [] := by
  unfold treeSums
  rw [if_neg (by rw [h]; decide)]

theorem root_map {ns : List Nd} (h : validT ns = true) : (runSt (⟨rootB, 1, 0⟩ :: ns)).1 = (⟨rootB, 1, 0⟩ :: ns : List Nd).map (fun n => treeSum ns n.p) := by
  rw [run_root h]; rfl

theorem rows_two (W : World) {a1 a2 : Option Addr} {l1 c1 l2 c2 : Nat} {n1 n2 : List Nd} (h1 : NodesAt W a1 l1 n1) (h2 : NodesAt W a2 l2 n2) (t : TypeId) :
    RowsAt (W.alloc (.cells #[.slice a1 l1 c1, .slice a2 l2 c2] t)) W.heap.size 0 [⟨a1, l1, c1, n1⟩, ⟨a2, l2, c2, n2⟩] := by
  intro i r hr
  have hb := below_box W (.cells #[.slice a1 l1 c1, .slice a2 l2 c2] t)
  match i, hr with
  | 0, hr =>
    simp at hr; subst hr
    exact ⟨by simp, h1.keep hb⟩
  | 1, hr =>
    simp at hr; subst hr
    exact ⟨by simp, h2.keep hb⟩
  | i + 2, hr => simp at hr

theorem one_node (W : World) (p : ByteArray) (k v : Int) (t : TypeId) : NodesAt (W.alloc (.cells #[.string p, .int .i64 k, .int .i64 v] t)) (some ⟨W.heap.size, 0, none⟩) 1 [⟨p, k, v⟩] := by
  refine ⟨rfl, .inr ⟨W.heap.size, 0, rfl, fun i n hn => ?_⟩⟩
  match i, hn with
  | 0, hn => simp at hn; subst hn; simp
  | i + 1, hn => simp at hn

theorem look_sum {ns L : List Nd} (hL : L = ⟨rootB, 1, 0⟩ :: ns) (hv : validT ns = true) {i : Nat} {m : Nd} (hm : L[i]? = some m) {z : Int} (hz : (runSt L).1[i]? = some z) : z = treeSum ns m.p := by
  subst hL
  rw [root_map hv, List.getElem?_map, hm] at hz
  exact (Option.some.inj hz).symm

theorem look_miss {ns L : List Nd} {p : ByteArray} (hL : L = ⟨rootB, 1, 0⟩ :: ns) (hv : validT ns = true) (hp : vpB p = true) (h : ∀ j m, j < L.length → L[j]? = some m → m.p ≠ p) : treeSum ns p = 1 := by
  have hm : ∀ m ∈ L, m.p ≠ p := fun m hm => by
    obtain ⟨j, hj⟩ := List.getElem?_of_mem hm
    exact h j m (List.getElem?_eq_some_iff.1 hj).1 hj
  subst hL
  refine sum_missing hv hp (fun e => hm ⟨rootB, 1, 0⟩ (by simp) e.symm) fun n hn => hm n (by simp [hn])

def LookRel (L : List Nd) (p : ByteArray) (W : World) (i : Value) (wr : World) : Prop := ∃ n : Nat, i = .int .i64 n ∧ n ≤ L.length ∧ Hid (∀ j m, j < n → L[j]? = some m → m.p ≠ p) ∧ W = wr

theorem sum_bad {ns : List Nd} {p : ByteArray} (h : validT ns = false ∨ vpB p = false) : treeSum ns p = -1 := by
  unfold treeSum
  rcases h with h | h <;> simp [h]

end Go.Proofs.YtkaokncaockjkaaGreatDoor

/-
  WALKS: impl.TreeUnder.
-/
namespace Go.Proofs.YtkaokncaockjkaaGreatDoor
open Go.RowKit
set_option linter.unusedVariables false

theorem treeUnder_bad {ns : List Nd} {p : ByteArray} (h : validT ns = false ∨ vpB p = false) : treeUnder ns p = [] := by
  unfold treeUnder
  rcases h with h | h <;> simp [h]

theorem texts_nil {xs : List ByteArray} {W w : World} (h : xs = []) (hB : Below W.heap.size W w) : TextsPost xs W (.returned (.slice none 0 0)) w := by
  subst h; exact ⟨⟨_, rfl, World.ownsRow_nil _ _ _ _⟩, hB⟩

def pathVals (out : List Nd) (n : Nat) : List Value := ((out.take n).map Nd.p).map Value.string
theorem pathVals_next {out : List Nd} {n : Nat} {x : Nd} (h : out[n]? = some x) : pathVals out (n + 1) = pathVals out n ++ [.string x.p] := by
  unfold pathVals; rw [take_next h]; simp

/-- The loop that takes the paths. -/
def PathsRel (out : List Nd) (W : World) (W8 : World) (o i : Value) (wr : World) : Prop :=
  ∃ n : Nat, i = .int .i64 n ∧ n ≤ out.length ∧ wr.ownsRow W8.heap.size 9 1 o n (pathVals out n) ∧ Hid (Below W8.heap.size W8 wr)

end Go.Proofs.YtkaokncaockjkaaGreatDoor
