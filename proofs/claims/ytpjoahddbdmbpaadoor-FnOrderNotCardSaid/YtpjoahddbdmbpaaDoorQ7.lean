/-
  Texts of this proof, one behind the other: Vs, Iy, Il, Ho, Mr, Ms, Tf, Me, Ap, Mq, Hc, Ot.
-/
import Derived.Test.YtpjoahddbdmbpaaDoorRows
import Derived.LaidLaws
import Derived.LaidMore
import Derived.MakeChecks
import Derived.FnData
import Derived.Clock
import Derived.Lib.SliceRun
import Derived.WideLaws
import Derived.Deep.RegionHeld3
import Derived.Deep.Cut
import Derived.OwnWalk
import Derived.Laws.OwnMore
import Derived.Laws.Cover1
import Derived.StillTailTactics
import Derived.Deep.RegionLaw
import Derived.WalkSmall
import Derived.Deep.QuietTactic
import Derived.RangeFuncBox
import Derived.Laws.Shifts
import Derived.Laws.BitsAllLaws
import Derived.Maps.Own
import Derived.Maps.OwnSet
import Derived.Test.YtpjoahddbdmbpaaDoorBn
import Derived.Test.YtpjoahddbdmbpaaDoorIe
import Derived.Test.YtpjoahddbdmbpaaDoorQ5
import Derived.Test.YtpjoahddbdmbpaaDoorQ6
import Derived.Test.YtpjoahddbdmbpaaDoorQ2
import Derived.Test.YtpjoahddbdmbpaaDoorQ4
import Derived.Test.YtpjoahddbdmbpaaDoorLcq
import Derived.Test.YtpjoahddbdmbpaaDoorHa
import Derived.Test.YtpjoahddbdmbpaaDoorMi
import Derived.Test.YtpjoahddbdmbpaaDoorQ3
import Derived.Test.YtpjoahddbdmbpaaDoorSa
import Derived.Test.YtpjoahddbdmbpaaDoorPi
import Derived.Test.YtpjoahddbdmbpaaDoorRk
import Derived.Test.YtpjoahddbdmbpaaDoorHb
import Derived.Test.YtpjoahddbdmbpaaDoorOr
/-
  What the rows' lists of variables give: the program's two errors are two errors of errors.New's make; internal/bytealg.MaxLen holds some int.
-/
namespace Go.Proofs.YtpjoahddbdmbpaaDoor
open Go.RowKit Go.ChangeShapes Go.WideShapes

/-- The program's two errors: two pointers to errors of errors.New's make, each in a block that holds still. -/
def CmdVars (w : World) : Prop := ∃ (a b : Addr) (ca cb : Array Value) (ta tb : TypeId),
  w.cell? ⟨1, 0, none⟩ = some (.iface 138 (.pointer (some a))) ∧ w.cell? ⟨0, 0, none⟩ = some (.iface 138 (.pointer (some b))) ∧ a ≠ b ∧
    w.heap[a.block]? = some (.cells ca ta (0, 0)) ∧ w.heap[b.block]? = some (.cells cb tb (0, 0))

theorem heap_kept {w w' : World} (hb : Below w.heap.size w w') {n : Nat} {o : Obj} (h : w.heap[n]? = some o) : w'.heap[n]? = some o := by
  have hlt : n < w.heap.size := by
    rcases Nat.lt_or_ge n w.heap.size with h' | h'
    · exact h'
    · rw [Array.getElem?_eq_none h'] at h; cases h
  exact (hb.block n hlt).trans h

theorem CmdVars.keep {w w' : World} (h : CmdVars w) (hb : Below w.heap.size w w') : CmdVars w' := by
  obtain ⟨a, b, ca, cb, ta, tb, h1, h2, h3, h4, h5⟩ := h
  exact ⟨a, b, ca, cb, ta, tb, cell_kept hb h1, cell_kept hb h2, h3, heap_kept hb h4, heap_kept hb h5⟩

def isErr {H : Type} : DataW H → Bool
  | .iface nm (.ptr (.agg [.lit (.string _)])) => nm == "*errors.errorString"
  | _ => false

theorem isErr_inv {H : Type} {d : DataW H} (h : isErr d = true) : ∃ text, d = .iface "*errors.errorString" (.ptr (.agg [.lit (.string text)])) := by
  unfold isErr at h
  split at h
  · rename_i nm text
    exact ⟨text, by rw [eq_of_beq h]⟩
  · cases h

/-- What a variable of the list reads as, and over which places. -/
def Reads (P : Program) (W : World) (x : String × DataW Unit) (g : Nat) (cs : Array Value) (p : List MemPlace) : Prop :=
  ∃ t fuel, P.globalNamed x.1 = some g ∧ (P.globals[g]?).map (·.type) = some t ∧ W.var? P x.1 = some cs ∧ DataW.trod (fun _ => ()) P W 0 (fun _ => true) false fuel t cs.toList = some (x.2, p)

theorem laid_in {P : Program} {W : World} : ∀ (laid : List (String × DataW Unit)) (ps : List MemPlace), DataW.LaidVars P W laid ps → ∀ x ∈ laid,
    ∃ g cs p, Reads P W x g cs p ∧ (∀ z ∈ MemPlace.row ⟨g, 0, none⟩ cs.size, z ∈ ps) ∧ (∀ z ∈ p, z ∈ ps)
  | [], ps, _, x, hx => by cases hx
  | (n, d) :: r, ps, h, x, hx => by
    obtain ⟨g, t, cs, fuel, p, q, h1, h2, h3, h4, h5, rfl⟩ := h
    rcases List.mem_cons.1 hx with rfl | hx
    · exact ⟨g, cs, p, ⟨t, fuel, h1, h2, h3, h4⟩, fun z hz => by simp [hz], fun z hz => by simp [hz]⟩
    · obtain ⟨g', cs', p', hr, h6, h7⟩ := laid_in r q h5 x hx
      exact ⟨g', cs', p', hr, fun z hz => by simp [h6 z hz], fun z hz => by simp [h7 z hz]⟩

theorem laid_two {P : Program} {W : World} : ∀ (laid : List (String × DataW Unit)) (ps : List MemPlace), DataW.LaidVars P W laid ps → ps.Nodup → ∀ x ∈ laid, ∀ y ∈ laid, x.1 ≠ y.1 →
    ∃ g cs p g' cs' p', Reads P W x g cs p ∧ Reads P W y g' cs' p' ∧ (∀ z ∈ MemPlace.row ⟨g, 0, none⟩ cs.size, z ∈ ps) ∧ (∀ z ∈ p, z ∈ ps) ∧ (∀ z ∈ MemPlace.row ⟨g', 0, none⟩ cs'.size, z ∈ ps) ∧ (∀ z ∈ p', z ∈ ps) ∧ (∀ z ∈ p, z ∉ p')
  | [], ps, _, _, x, hx, _, _, _ => by cases hx
  | (n, d) :: r, ps, h, hnd, x, hx, y, hy, hne => by
    obtain ⟨g, t, cs, fuel, p, q, h1, h2, h3, h4, h5, rfl⟩ := h
    have hq : q.Nodup := (List.nodup_append.1 hnd).2.1
    have hpq : ∀ z ∈ p, z ∉ q := fun z hz hz' => (List.nodup_append.1 hnd).2.2 z (by simp [hz]) z hz' rfl
    rcases List.mem_cons.1 hx with rfl | hx
    · rcases List.mem_cons.1 hy with rfl | hy
      · exact absurd rfl hne
      · obtain ⟨g', cs', p', hr, h6, h7⟩ := laid_in r q h5 y hy
        exact ⟨g, cs, p, g', cs', p', ⟨t, fuel, h1, h2, h3, h4⟩, hr, fun z hz => by simp [hz], fun z hz => by simp [hz], fun z hz => by simp [h6 z hz], fun z hz => by simp [h7 z hz], fun z hz hz' => hpq z hz (h7 z hz')⟩
    · rcases List.mem_cons.1 hy with rfl | hy
      · obtain ⟨g', cs', p', hr, h6, h7⟩ := laid_in r q h5 x hx
        exact ⟨g', cs', p', g, cs, p, hr, ⟨t, fuel, h1, h2, h3, h4⟩, fun z hz => by simp [h6 z hz], fun z hz => by simp [h7 z hz], fun z hz => by simp [hz], fun z hz => by simp [hz], fun z hz hz' => hpq z hz' (h7 z hz)⟩
      · obtain ⟨g', cs', p', g'', cs'', p'', hr1, hr2, a1, a2, a3, a4, a5⟩ := laid_two r q h5 hq x hx y hy hne
        exact ⟨g', cs', p', g'', cs'', p'', hr1, hr2, fun z hz => by simp [a1 z hz], fun z hz => by simp [a2 z hz], fun z hz => by simp [a3 z hz], fun z hz => by simp [a4 z hz], a5⟩

theorem errStar : "*" ++ "errors.errorString" = "*errors.errorString" := by decide

set_option maxRecDepth 100000 in
theorem errRow (u : TypeId) (h : Tryd.prog.typeName? 3 u = some "*errors.errorString") : u = 138 :=
  typeName_ptr_named (nm := "errors.errorString") (by rw [errStar]; kernel_rfl) (by kernel_rfl) (by decide) u (by rw [errStar]; exact h)

theorem errCells : Tryd.prog.cellsOf 165 = 1 := by kernel_rfl
theorem strCells : Tryd.prog.cellsOf 9 = 1 := by kernel_rfl

set_option maxRecDepth 100000 in
/-- A variable that reads as an error of errors.New's make. -/
theorem err_read {W : World} {x : String × DataW Unit} {g g0 : Nat} {cs : Array Value} {p : List MemPlace} (hx : isErr x.2 = true) (hr : Reads Tryd.prog W x g cs p)
    (hg : Tryd.prog.globalNamed x.1 = some g0) (ht : (Tryd.prog.globals[g0]?).map (·.type) = some 75)
    (hok : ∀ u v, W.cell? ⟨g, 0, none⟩ = some (.iface u v) → MemPlace.cell g 0 ∈ MemPlace.row ⟨g, 0, none⟩ cs.size → Value.okWide Tryd.prog W .any 0 u v) :
    ∃ a, W.cell? ⟨g0, 0, none⟩ = some (.iface 138 (.pointer (some a))) ∧ MemPlace.cell a.block a.off ∈ p := by
  obtain ⟨t, fuel, h1, h2, h3, h4⟩ := hr
  obtain rfl := Option.some.inj (hg.symm.trans h1)
  obtain rfl := Option.some.inj (ht.symm.trans h2)
  obtain ⟨text, hd⟩ := isErr_inv hx
  rw [hd] at h4
  obtain ⟨l⟩ := cs
  have hc0 := World.var?_cell h1 h3 0
  obtain ⟨a, s, hl, -, -, -, rfl⟩ := errorString_of_trod Tryd.underlying75 errRow Tryd.underlying138 Tryd.underlying165 rfl rfl Tryd.underlying9 errCells strCells h4
    (fun u v e => hok u v (by rw [hc0]; simp at e; rw [e]; rfl) (by simp at e; rw [e]; simp [MemPlace.row]))
  refine ⟨a, ?_, by simp [MemPlace.row]⟩
  rw [hc0]
  simp at hl
  rw [hl]
  rfl

theorem find_mem {laid : List (String × DataW Unit)} {name : String} (h : (laid.find? (fun x => x.1 == name)).map (fun x => isErr x.2) = some true) : ∃ x ∈ laid, x.1 = name ∧ isErr x.2 = true := by
  cases hx : laid.find? (fun x => x.1 == name) with
  | none => rw [hx] at h; cases h
  | some x =>
    rw [hx] at h
    exact ⟨x, List.mem_of_find?_eq_some hx, by simpa using List.find?_some hx, by simpa using h⟩

set_option maxRecDepth 100000 in
theorem cmdVars_of {W : World} {laid : List (String × DataW Unit)} (h : laidMetH Tryd.prog laid W) (hp : (laid.all fun x => x.2.handleName?.isNone) = true)
    (h1 : (laid.find? (fun x => x.1 == "loop.example/filereconciler/impl.errInvalid")).map (fun x => isErr x.2) = some true) (h2 : (laid.find? (fun x => x.1 == "loop.example/filereconciler/impl.errBreaks")).map (fun x => isErr x.2) = some true) : CmdVars W := by
  rw [MakeChecks.laidMetH_plain _ _ _ hp] at h
  obtain ⟨ps, hv, hnd, hrows⟩ := h
  obtain ⟨x, hx, nx, ex⟩ := find_mem h1
  obtain ⟨y, hy, ny, ey⟩ := find_mem h2
  obtain ⟨g, cs, p, g', cs', p', r1, r2, a1, a2, a3, a4, a5⟩ := laid_two laid ps hv hnd x hx y hy (by rw [nx, ny]; decide)
  obtain ⟨a, c1, m1⟩ := err_read (g0 := 1) ex r1 (by rw [nx]; kernel_rfl) (by kernel_rfl) (fun u v e hm => (hrows g 0 (a1 _ hm)).2 u v e)
  obtain ⟨b, c2, m2⟩ := err_read (g0 := 0) ey r2 (by rw [ny]; kernel_rfl) (by kernel_rfl) (fun u v e hm => (hrows g' 0 (a3 _ hm)).2 u v e)
  obtain ⟨ca, ta, ha⟩ := (hrows a.block a.off (a2 _ m1)).1
  obtain ⟨cb, tb, hb⟩ := (hrows b.block b.off (a4 _ m2)).1
  refine ⟨a, b, ca, cb, ta, tb, c1, c2, ?_, ha, hb⟩
  rintro rfl
  exact a5 _ m1 m2

end Go.Proofs.YtpjoahddbdmbpaaDoor

/-
  WALKS: impl.treeAfter, impl.CommandApply (over errors.Is and slices.Clone).
-/
namespace Go.Proofs.YtpjoahddbdmbpaaDoor
open Go.RowKit
set_option linter.unusedVariables false

set_option maxHeartbeats 1000000 in
/-- slices.Clone of nodes that lie somewhere. -/
theorem cloneN_c (a : Option Addr) (len cap : Nat) (ns : List Nd) (hl : len ≤ 2097152) (W : World) (hN : NodesAt W a len ns) :
    Calls Tryd.prog 20 #[.slice a len cap] W fun e W' => OwnsNodes W.heap.size ns e W' ∧ Below W.heap.size W W' := by
  have HN := Lib.hid hN
  have HE := Lib.hid hN.1
  have q23 : ∀ (w : World) (a : Option Addr) (n c n' c' : Nat), (binOp .eql 23 (.slice a n c) (.slice none n' c')).run Tryd.prog w = .ok (.bool a.isNone) w := fun w a n c n' c' => Lib.run_eql_slice_nil w _ _ a n c n' c' Tryd.underlying23
  cases a with
  | none =>
    have hz : ns = [] := by
      rcases hN.2 with h | ⟨_, _, h, _⟩
      · exact List.eq_nil_of_length_eq_zero (hN.1.trans h)
      · cases h
    subst hz
    clear hN
    go_enter Tryd.func20, Tryd.ntmps20
    go_wp2
    exact bodyPost_ret (v := .slice none 0 0) (by simp [results, Tryd.f20, go_sem]) rfl ⟨⟨_, rfl, World.ownsRow_nil _ _ _ _⟩, Below.refl _ _⟩
  | some ad =>
    clear hN
    go_enter Tryd.func20, Tryd.ntmps20
    go_wp2_with (at_builtin; refine wpList_append_nodes rfl _ _ rfl W.heap.size _ [] rfl (World.ownsRow_lit (e := 52) (size := 3) W #[] 0 (Nat.le_refl _) (by simp [maxLen]) rfl) _ _ _ _ rfl (HN.out.keep (below_box _ _)) (by have := HE.out; simp; omega) (by simp) ?_; intro v3 w3 ho3 hg3)
    have B3 : Below W.heap.size W w3 := (below_box W _).grown hg3 (by simp) (fun k e => by cases e; exact Nat.le_refl _)
    exact bodyPost_ret (v := v3) (by simp [results, Tryd.f20, go_sem]) rfl ⟨⟨v3, rfl, by simpa using ho3⟩, B3⟩

/-- What treeAfter tells: a tree, or one of the two reasons why there is none. -/
def AfterPost (ns : List Nd) (c : Cmd) (ea eb : Addr) (W : World) (e : Ending) (w' : World) : Prop :=
  ∃ sl err, e = .returned (.tuple #[sl, err]) ∧ Below W.heap.size W w' ∧
    ((sl = .slice none 0 0 ∧ err = .iface 138 (.pointer (some ea)) ∧ applyC ns c = ([], false)) ∨
     (sl = .slice none 0 0 ∧ err = .iface 138 (.pointer (some eb)) ∧ applyC ns c = (ns, false)) ∨
     (err = .nilIface ∧ ∃ out, applyC ns c = (out, true) ∧ w'.ownsRow W.heap.size 52 3 sl out.length (flatN out)))

theorem after_inv {ns : List Nd} {c : Cmd} {ea eb : Addr} {W w' : World} (h : applyC ns c = ([], false)) (hb : Below W.heap.size W w') : AfterPost ns c ea eb W (.returned (.tuple #[.slice none 0 0, .iface 138 (.pointer (some ea))])) w' :=
  ⟨_, _, rfl, hb, .inl ⟨rfl, rfl, h⟩⟩
theorem after_brk {ns : List Nd} {c : Cmd} {ea eb : Addr} {W w' : World} (h : applyC ns c = (ns, false)) (hb : Below W.heap.size W w') : AfterPost ns c ea eb W (.returned (.tuple #[.slice none 0 0, .iface 138 (.pointer (some eb))])) w' :=
  ⟨_, _, rfl, hb, .inr (.inl ⟨rfl, rfl, h⟩)⟩
theorem after_new {ns out : List Nd} {c : Cmd} {ea eb : Addr} {W w' : World} {sl : Value} (h : applyC ns c = (out, true)) (ho : w'.ownsRow W.heap.size 52 3 sl out.length (flatN out)) (hb : Below W.heap.size W w') : AfterPost ns c ea eb W (.returned (.tuple #[sl, .nilIface])) w' :=
  ⟨_, _, rfl, hb, .inr (.inr ⟨rfl, out, h, ho⟩)⟩

set_option maxHeartbeats 2000000 in
set_option maxRecDepth 100000 in
theorem treeAfter_c (a : Option Addr) (len cap : Nat) (ns : List Nd) (c : Cmd) (hl : len ≤ 2097151) (hs : Short 2097152 ns) (hp : c.p.size ≤ 2097152) (W : World) (hN : NodesAt W a len ns) (ea eb : Addr)
    (hI : W.cell? ⟨1, 0, none⟩ = some (.iface 138 (.pointer (some ea)))) (hK : W.cell? ⟨0, 0, none⟩ = some (.iface 138 (.pointer (some eb)))) :
    Calls Tryd.prog 35 #[.slice a len cap, cmdV c] W (AfterPost ns c ea eb W) := by
  obtain ⟨vt, hvt⟩ : ∃ vt, validT ns = vt := ⟨_, rfl⟩
  obtain ⟨vc, hvc⟩ : ∃ vc, validC c = vc := ⟨_, rfl⟩
  have HI := Lib.hid (fun W' (hb : Below W.heap.size W W') => cell_kept hb hI)
  have HK := Lib.hid (fun W' (hb : Below W.heap.size W W') => cell_kept hb hK)
  clear hI hK
  have HV := Lib.hid (fun W' (hb : Below W.heap.size W W') => show Calls Tryd.prog 19 #[.slice a len cap] W' (BoolPost vt W') by rw [← hvt]; exact implTreeValid_c a len cap ns (by omega) hs W' (hN.keep hb))
  have HC := Lib.hid (fun W' => show Calls Tryd.prog 33 #[cmdV c] W' (BoolPost vc W') by rw [← hvc]; exact implCmdValid_c c hp W')
  have HN := Lib.hid hN
  cases vt with
  | false =>
    have HR := Lib.hid (applyC_bad (c := c) (.inl hvt))
    clear hN hs hvt hvc
    unfold cmdV
    go_enter Tryd.func35, Tryd.ntmps35
    go_wp2_with fail
    refine (HV.out _ (below_box _ _)).mono ?_
    rintro e W1 ⟨rfl, hb1⟩
    have B1 := Lib.hid (below_next (below_box W _) hb1)
    have gi := HI.out _ B1.out
    clear hb1
    go_upto_region 2 with (fail)
    go_region
    all_goals (try go_wp2)
    all_goals go_ret2
    all_goals (first | exact after_inv HR.out B1.out.drew | exact after_inv HR.out B1.out)
  | true =>
    cases vc with
    | false =>
      have HR := Lib.hid (applyC_bad (ns := ns) (.inr hvc))
      clear hN hs hvt hvc
      unfold cmdV at HC ⊢
      obtain ⟨p, fk, fv, tk, tv⟩ := c
      simp only at HC ⊢
      go_enter Tryd.func35, Tryd.ntmps35
      go_wp2_with fail
      refine (HV.out _ (below_box _ _)).mono ?_
      rintro e W1 ⟨rfl, hb1⟩
      have q0 := box_cell hb1 0
      have q1 := box_cell hb1 1
      have q2 := box_cell hb1 2
      have q3 := box_cell hb1 3
      have q4 := box_cell hb1 4
      simp at q0 q1 q2 q3 q4
      have B1 := Lib.hid (below_next (below_box W _) hb1)
      clear hb1
      go_wp2_with fail
      refine (HC.out _).mono ?_
      rintro e W2 ⟨rfl, hb2⟩
      have B2 := Lib.hid (below_next B1.out hb2)
      have gi := HI.out _ B2.out
      clear hb2 q0 q1 q2 q3 q4
      go_upto_region 2 with (fail)
      go_region
      all_goals (try go_wp2)
      all_goals go_ret2
      all_goals (first | exact after_inv HR.out B2.out.drew | exact after_inv HR.out B2.out)
    | true =>
      have HR := Lib.hid (applyC_ok hvt hvc)
      have hdep := ((validC_iff c).1 hvc).1
      have HG := Lib.hid (fun W' (h : NodesAt W' a len ns) => implTreeGet_c a len cap ns c.p (by omega) hs (by omega) W' h)
      have HP := Lib.hid (fun W' (h : NodesAt W' a len ns) => implTreePut_c a len cap ns c.p c.tk c.tv (by omega) hs hp W' h)
      have htg := treeGet_eq hvt (vp_of_depth hdep)
      clear hN hs hvt hvc hdep
      unfold cmdV at HC ⊢
      obtain ⟨p, fk, fv, tk, tv⟩ := c
      simp only at HC HR HP HG hp htg ⊢
      obtain ⟨⟨gk, gv⟩, hg⟩ : ∃ g, getT ns p = g := ⟨_, rfl⟩
      rw [hg] at HR htg
      have HGP := Lib.hid (fun W' (h : NodesAt W' a len ns) => show Calls Tryd.prog 52 #[.slice a len cap, .string p] W' (fun e w' => e = .returned (.agg #[.int .i64 gk, .int .i64 gv]) ∧ Below W'.heap.size W' w') by have := HG.out W' h; rw [htg] at this; exact this)
      obtain ⟨ee, hee⟩ : ∃ ee, (!(gk == fk && gv == fv)) = ee := ⟨_, rfl⟩
      have hne := fun w' => (conNeQ gk gv fk fv w').trans (show _ = Result.ok (Value.bool ee) w' by rw [hee])
      have HEE := Lib.hid hee
      clear hg hee htg HG
      go_enter Tryd.func35, Tryd.ntmps35
      go_wp2_with fail
      refine (HV.out _ (below_box _ _)).mono ?_
      rintro e W1 ⟨rfl, hb1⟩
      have q0 := box_cell hb1 0
      have q1 := box_cell hb1 1
      have q2 := box_cell hb1 2
      have q3 := box_cell hb1 3
      have q4 := box_cell hb1 4
      simp at q0 q1 q2 q3 q4
      have B1 := Lib.hid (below_next (below_box W _) hb1)
      clear hb1
      go_wp2_with fail
      refine (HC.out _).mono ?_
      rintro e W2 ⟨rfl, hb2⟩
      have HS2 := Lib.hid (keepCmd (W0 := W) ⟨q0, q1, q2, q3, q4, B1.out⟩ hb2)
      have HS0 : Hid (W2.drew.cell? ⟨W.heap.size, 0, none⟩ = some (.string p) ∧ W2.drew.cell? ⟨W.heap.size, 1, none⟩ = some (.int .i64 fk) ∧ W2.drew.cell? ⟨W.heap.size, 2, none⟩ = some (.int .i64 fv) ∧ W2.drew.cell? ⟨W.heap.size, 3, none⟩ = some (.int .i64 tk) ∧ W2.drew.cell? ⟨W.heap.size, 4, none⟩ = some (.int .i64 tv) ∧ Below W.heap.size W W2.drew) :=
        ⟨HS2.out.1, HS2.out.2.1, HS2.out.2.2.1, HS2.out.2.2.2.1, HS2.out.2.2.2.2.1, HS2.out.2.2.2.2.2.drew⟩
      have HGD := Lib.hid (HGP.out W2.drew (HN.out.keep HS0.out.2.2.2.2.2))
      clear hb2 q0 q1 q2 q3 q4
      go_upto_region 3 with (fail)
      go_region_held3 (fun w' => w'.cell? ⟨W.heap.size, 0, none⟩ = some (.string p) ∧ w'.cell? ⟨W.heap.size, 1, none⟩ = some (.int .i64 fk) ∧ w'.cell? ⟨W.heap.size, 2, none⟩ = some (.int .i64 fv) ∧ w'.cell? ⟨W.heap.size, 3, none⟩ = some (.int .i64 tk) ∧ w'.cell? ⟨W.heap.size, 4, none⟩ = some (.int .i64 tv) ∧ Below W.heap.size W w')
        (first | exact HS0.out | exact keepCmd HS0.out hb5)
        (first | (go_at_call 52; (with_reducible refine (HGD.out).mono ?_); rintro e W5 ⟨rfl, hb5⟩))
      rename_i hS
      obtain ⟨s0, s1, s2, s3, s4, hB5⟩ := hS
      have HB5 := Lib.hid hB5
      have HN5 := Lib.hid (HN.out.keep hB5)
      clear hne hB5
      cases ee with
      | true =>
        have hR2 := Lib.hid (show applyC ns ⟨p, fk, fv, tk, tv⟩ = (ns, false) by
          rw [HR.out, if_neg]
          intro e
          have := HEE.out
          simp only [Prod.mk.injEq] at e
          rw [e.1, e.2] at this
          simp at this)
        have gk := HK.out _ HB5.out
        clear s0 s1 s2 s3 s4
        go_upto_region 4 with (fail)
        go_region
        all_goals (try go_wp2)
        all_goals go_ret2
        all_goals (first | exact after_brk hR2.out HB5.out.drew | exact after_brk hR2.out HB5.out)
      | false =>
        have hgt : (gk, gv) = (fk, fv) := by
          have := HEE.out
          rw [Bool.not_eq_false', Bool.and_eq_true, beq_iff_eq, beq_iff_eq] at this
          rw [this.1, this.2]
        have HR2 := Lib.hid (HR.out.trans (if_pos hgt))
        have HP5 := Lib.hid (HP.out W5 HN5.out)
        clear hgt
        go_wp2_with fail
        refine HP5.out.mono ?_
        rintro e W6 ⟨sl, out, b, rfl, hc, ho, hb6⟩
        have HB6 := Lib.hid (below_next HB5.out hb6)
        have HO6 := Lib.hid (own_mono ho HB5.out.size)
        have gk := HK.out _ HB6.out
        clear s0 s1 s2 s3 s4 ho hb6
        rcases hc with ⟨rfl, hr⟩ | ⟨rfl, hr, rfl⟩
        · have hR3 := Lib.hid (show applyC ns ⟨p, fk, fv, tk, tv⟩ = (out, true) by rw [HR2.out, hr])
          clear hr
          go_wp2
          go_ret2
          exact after_new hR3.out HO6.out HB6.out
        · have hR3 := Lib.hid (show applyC ns ⟨p, fk, fv, tk, tv⟩ = (ns, false) by rw [HR2.out, hr])
          clear hr
          go_upto_region 7 with (fail)
          go_region
          all_goals (try go_wp2)
          all_goals go_ret2
          all_goals (first | exact after_brk hR3.out HB6.out.drew | exact after_brk hR3.out HB6.out)

theorem errEqNil (v : Value) (t : TypeId) (w : World) : (binOp .eql 75 (.iface t v) .nilIface).run Tryd.prog w = .ok (.bool false) w :=
  run_eql_held_nil w 75 t v (by kernel_rfl)
theorem nilEqNil (w : World) : (binOp .eql 75 .nilIface .nilIface).run Tryd.prog w = .ok (.bool true) w :=
  run_eql_nil_nil w 75 (by kernel_rfl)

set_option maxHeartbeats 2000000 in
set_option maxRecDepth 100000 in
theorem implCmdApply_c (a : Option Addr) (len cap : Nat) (ns : List Nd) (c : Cmd) (hl : len ≤ 2097151) (hs : Short 2097152 ns) (hp : c.p.size ≤ 2097152) (W : World) (hN : NodesAt W a len ns) (hE : CmdVars W) :
    Calls Tryd.prog 21 #[.slice a len cap, cmdV c] W (ApplyPost (applyC ns c) W.heap.size W) := by
  have HE := Lib.hid hE
  obtain ⟨ea, eb, ca, cb, ta, tb, hI, hK, hne, ha, hb⟩ := hE
  have HT := Lib.hid (fun W' (hb : Below W.heap.size W W') => treeAfter_c a len cap ns c hl hs hp W' (hN.keep hb) ea eb (cell_kept hb hI) (cell_kept hb hK))
  have HK := Lib.hid (fun W' (hb : Below W.heap.size W W') => cell_kept hb hK)
  have HO := Lib.hid (fun W' (hx : Below W.heap.size W W') => isErr_other ea eb ca cb ta tb W' hne (heap_kept hx ha) (heap_kept hx hb))
  have HCL := Lib.hid (fun W' (hb : Below W.heap.size W W') => cloneN_c a len cap ns (by omega) W' (hN.keep hb))
  clear hN hs hI hK hne ha hb
  unfold cmdV at HT ⊢
  obtain ⟨p, fk, fv, tk, tv⟩ := c
  simp only at HT ⊢
  go_enter Tryd.func21, Tryd.ntmps21
  go_wp2_with fail
  refine (HT.out _ (below_box _ _)).mono ?_
  rintro e W1 ⟨sl, err, rfl, hb1, hc⟩
  have B1 := Lib.hid (below_next (below_box W _) hb1)
  have gk := HK.out _ B1.out
  clear hb1
  rcases hc with ⟨rfl, rfl, hr⟩ | ⟨rfl, rfl, hr⟩ | ⟨rfl, out, hr, ho⟩
  · have HR := Lib.hid hr
    clear hr
    go_wp2_with fail
    refine (HO.out _ B1.out).mono ?_
    rintro e W2 ⟨rfl, rfl⟩
    have he := errEqNil
    go_upto_region 4 with (fail)
    go_region
    all_goals (try go_wp2)
    all_goals go_ret2
    all_goals (first | exact apply_end HR.out (World.ownsRow_nil _ _ _ _) B1.out.drew | exact apply_end HR.out (World.ownsRow_nil _ _ _ _) B1.out)
  · have HR := Lib.hid hr
    clear hr
    go_wp2_with fail
    refine (isErr_same eb _).mono ?_
    rintro e W2 ⟨rfl, rfl⟩
    go_wp2_with fail
    refine (HCL.out _ B1.out).mono ?_
    rintro e W3 ⟨⟨v3, rfl, ho3⟩, hb3⟩
    go_wp2
    go_ret2
    exact apply_end HR.out (own_mono ho3 B1.out.size) (below_next B1.out hb3)
  · have HR := Lib.hid hr
    have HO1 := Lib.hid (own_mono ho (below_box W _).size)
    clear hr ho
    go_wp2_with fail
    refine (isErr_nil eb _).mono ?_
    rintro e W2 ⟨rfl, rfl⟩
    have he := nilEqNil
    go_upto_region 4 with (fail)
    go_region
    all_goals (try go_wp2)
    all_goals go_ret2
    all_goals (first | exact apply_end HR.out HO1.out B1.out.drew | exact apply_end HR.out HO1.out B1.out)

end Go.Proofs.YtpjoahddbdmbpaaDoor

/-
  WALKS: impl.LogValid, LogUndo, LogApply, LogFits.
-/
namespace Go.Proofs.YtpjoahddbdmbpaaDoor
open Go.RowKit
set_option linter.unusedVariables false

/-- Between two rounds of LogApply. -/
def DoneRel (ns : List Nd) (cs : List Cmd) (W : World) (l k o i : Value) (wr : World) : Prop :=
  ∃ (n : Nat) (acc : List Nd) (x : Option Addr), l = .pointer x ∧ k = .bool true ∧ i = .int .i64 n ∧ n ≤ cs.length ∧ wr.ownsRow W.heap.size 52 3 o acc.length (flatN acc) ∧ Hid (EntAt W.heap.size wr x (cs.drop n)) ∧ Hid (acc.length ≤ 10) ∧ Hid (Short 2097152 acc) ∧ Hid (runL ns (cs.take n) = (acc, n)) ∧ Hid (Below W.heap.size W wr)

set_option maxHeartbeats 1000000 in
set_option maxRecDepth 100000 in
theorem implLogValid_c (a : Option Addr) (len cap : Nat) (cs : List Cmd) (hl : len ≤ 2097152) (hs : ShortC 2097152 cs) (W : World) (hN : CmdsAt W a len cs) :
    Calls Tryd.prog 25 #[.slice a len cap] W (BoolPost (validL cs) W) := by
  have HEn := Lib.hid (entriesOf_c a len cap cs hs W hN)
  clear hN hs hl
  go_enter Tryd.func25, Tryd.ntmps25
  go_wp2_with fail
  refine HEn.out.mono ?_
  rintro e W1 ⟨hb, ⟨hv, rfl⟩ | ⟨hv, x, rfl, -⟩⟩
  · have HB := Lib.hid hb
    have HV := Lib.hid hv
    clear hb hv
    go_wp2
    go_ret
    exact ⟨ret_bool HV.out.symm, HB.out⟩
  · have HB := Lib.hid hb
    have HV := Lib.hid hv
    clear hb hv
    go_wp2
    go_ret
    exact ⟨ret_bool HV.out.symm, HB.out⟩

set_option maxHeartbeats 4000000 in
set_option maxRecDepth 100000 in
theorem implLogApply_c (a1 : Option Addr) (len1 cap1 : Nat) (ns : List Nd) (a2 : Option Addr) (len2 cap2 : Nat) (cs : List Cmd) (hl1 : len1 ≤ 2097152) (hl2 : len2 ≤ 2097152) (hs1 : Short 2097152 ns) (hs2 : ShortC 2097152 cs) (W : World) (h1 : NodesAt W a1 len1 ns) (h2 : CmdsAt W a2 len2 cs) (hE : CmdVars W) :
    Calls Tryd.prog 9 #[.slice a1 len1 cap1, .slice a2 len2 cap2] W (LogPost (logApply ns cs) W) := by
  obtain ⟨cnt, hcnt⟩ := ent_count W.heap.size
  have HC := Lib.hid hcnt
  obtain ⟨vt, hvt⟩ : ∃ vt, validT ns = vt := ⟨_, rfl⟩
  have HV := Lib.hid (fun W' (hb : Below W.heap.size W W') => show Calls Tryd.prog 19 #[.slice a1 len1 cap1] W' (BoolPost vt W') by rw [← hvt]; exact implTreeValid_c a1 len1 cap1 ns hl1 hs1 W' (h1.keep hb))
  have HEn := Lib.hid (entriesOf_c a2 len2 cap2 cs hs2 W h2)
  have HCL := Lib.hid (fun W' (hb : Below W.heap.size W W') => cloneN_c a1 len1 cap1 ns (by omega) W' (h1.keep hb))
  have HVT := Lib.hid hvt
  have HS1 := Lib.hid hs1
  have HS2 := Lib.hid hs2
  have HE := Lib.hid hE
  clear h1 h2 hs1 hs2 hcnt hE hvt hl1 hl2
  go_enter Tryd.func9, Tryd.ntmps9
  go_wp2_with fail
  refine HEn.out.mono ?_
  rintro e W1 ⟨hb, ⟨hv, rfl⟩ | ⟨hv, x, rfl, hx⟩⟩
  · have HB := Lib.hid hb
    have HR := Lib.hid (logApply_bad (ns := ns) (.inr hv))
    clear hb hv
    go_wp2_with fail
    go_ret2
    exact log_end HR.out (World.ownsRow_nil _ _ _ _) HB.out
  · have B1 := Lib.hid hb
    have HX := Lib.hid hx
    have HVL := Lib.hid hv
    clear hb hv hx
    go_wp2_with fail
    refine (HV.out _ B1.out).mono ?_
    rintro e W2 ⟨rfl, hb2⟩
    have B2 := Lib.hid (below_next B1.out hb2)
    have HX2 := Lib.hid (HX.out.keep hb2)
    clear hb2
    cases vt with
    | false =>
      have HR := Lib.hid (logApply_bad (cs := cs) (.inl HVT.out))
      go_wp2
      go_ret2
      exact log_end HR.out (World.ownsRow_nil _ _ _ _) B2.out
    | true =>
      have HR := Lib.hid (logApply_ok HVT.out HVL.out)
      have HLN := Lib.hid (show ns.length ≤ 10 from ((validT_iff ns).1 HVT.out).2.2)
      have HRN := Lib.hid (show runL ns (cs.take 0) = (ns, 0) from rfl)
      go_wp2_with fail
      refine (HCL.out _ B2.out).mono ?_
      rintro e W3 ⟨⟨v3, rfl, ho3⟩, hb3⟩
      have B3 := Lib.hid (below_next B2.out hb3)
      have HX3 := Lib.hid (HX2.out.keep hb3)
      have ho3' := own_mono ho3 B2.out.size
      clear hb3 ho3
      go_wp2_with fail
      go_loopw [6, 7, 8, 9] (fun l k o i wr => DoneRel ns cs W l k o i wr) (fun l _ _ _ wr => cnt wr l)
      case atStart => exact ⟨0, ns, x, rfl, rfl, rfl, Nat.zero_le _, ho3', HX3, HLN, HS1, HRN, B3⟩
      case round =>
        obtain ⟨n, acc, x, rfl, rfl, rfl, hn, hown, HXX, HAL, HAS, HRUN, HB⟩ := hrel
        by_cases hlt : n < cs.length
        · obtain ⟨c, hc⟩ : ∃ c, cs[n]? = some c := ⟨_, List.getElem?_eq_getElem hlt⟩
          have hd : cs.drop n = c :: cs.drop (n + 1) := by rw [List.drop_eq_getElem_cons hlt, (List.getElem?_eq_some_iff.1 hc).2]
          have hx := HXX.out
          rw [hd] at hx
          have HX0 := Lib.hid hx
          obtain ⟨b, nx, rfl, hBb, hrest, c0, c1, c2, c3, c4, c5⟩ := hx.first
          have HREST := Lib.hid hrest
          have HLT := Lib.hid hlt
          have HNN := Lib.hid hc
          have C5 := Lib.hid c5
          obtain ⟨ao, co, rfl, hno⟩ := nodes_of_own hown
          obtain ⟨⟨out, ok⟩, hr⟩ : ∃ r, applyC acc c = r := ⟨_, rfl⟩
          have HA := Lib.hid (show Calls Tryd.prog 21 #[.slice ao acc.length co, cmdV c] wr (fun e w' => ∃ sl, e = .returned (.tuple #[sl, .bool ok]) ∧ w'.ownsRow wr.heap.size 52 3 sl out.length (flatN out) ∧ Below wr.heap.size wr w') by
            have := implCmdApply_c ao acc.length co acc c (by have := HAL.out; omega) HAS.out (HS2.out.at hc) wr hno (HE.out.keep HB.out)
            rw [hr] at this; exact this)
          have HRR := Lib.hid hr
          have HPC := Lib.hid (HS2.out.at hc)
          have HVA := Lib.hid (And.intro (show validT acc = true by have := runL_valid (cs.take n) ns HVT.out; rwa [HRUN.out] at this) (validL_at HVL.out hc))
          have hnw : IntKind.i64.wrap ((n : Int) + 1) = ((n + 1 : Nat) : Int) := (IntWalk.i64_in _ (by have := ((validL_iff cs).1 HVL.out).2; omega)).trans (by omega)
          obtain ⟨p, fk, fv, tk, tv⟩ := c
          unfold cmdV at HA
          simp only at c0 c1 c2 c3 c4 HA HPC
          clear hn hlt hc hd hx hrest HXX hr hown hno ho3'
          go_wp2_with fail
          refine HA.out.mono ?_
          rintro e W4 ⟨sl, rfl, ho4, hb4⟩
          have c6 := cell_kept hb4 C5.out
          have HB4 := Lib.hid (below_next HB.out hb4)
          have HO4 := Lib.hid (own_mono ho4 HB.out.size)
          have HR4 := Lib.hid (HREST.out.keep hb4)
          clear c0 c1 c2 c3 c4 c5 ho4 hb4
          cases ok with
          | false =>
            have HR2 := Lib.hid (run_stop HRUN.out HNN.out (by rw [HRR.out]))
            obtain rfl : out = acc := (apply_break HRR.out HVA.out.1 HVA.out.2).1
            go_wp2
            go_ret2
            exact log_end (by rw [HR.out, HR2.out]) HO4.out HB4.out
          | true =>
            have HR2 := Lib.hid (run_step HRUN.out HNN.out HRR.out)
            have HSS := Lib.hid (apply_short2 HRR.out HAS.out HPC.out)
            go_wp2
            go_roundw
            case rel => exact ⟨n + 1, out, nx, rfl, rfl, rfl, by have := HLT.out; omega, HO4.out, HR4, HSS.out.2, HSS.out.1, HR2, HB4⟩
            case measure =>
              have m1 := HC.out _ _ _ HR4.out
              have m2 := HC.out _ _ _ HX0.out
              show cnt _ _ < cnt _ _
              rw [m1, m2]
              simp
        · have he : n = cs.length := by omega
          subst he
          have hx := HXX.out
          rw [List.drop_length] at hx
          obtain rfl : x = none := hx
          have HR2 := Lib.hid (show logApply ns cs = (acc, (cs.length : Int)) by rw [HR.out, run_whole HRUN.out])
          have HO := Lib.hid hown
          clear hn hlt hown ho3'
          go_wp2
          go_ret2
          exact log_end HR2.out HO.out HB.out

set_option maxHeartbeats 2000000 in
set_option maxRecDepth 100000 in
theorem implLogFits_c (a1 : Option Addr) (len1 cap1 : Nat) (ns : List Nd) (a2 : Option Addr) (len2 cap2 : Nat) (cs : List Cmd) (hl1 : len1 ≤ 2097152) (hl2 : len2 ≤ 2097152) (hs1 : Short 2097152 ns) (hs2 : ShortC 2097152 cs) (W : World) (h1 : NodesAt W a1 len1 ns) (h2 : CmdsAt W a2 len2 cs) (hE : CmdVars W) :
    Calls Tryd.prog 5 #[.slice a1 len1 cap1, .slice a2 len2 cap2] W (BoolPost (fitsL ns cs) W) := by
  obtain ⟨⟨out, n⟩, hr⟩ : ∃ r, logApply ns cs = r := ⟨_, rfl⟩
  have HA := Lib.hid (show Calls Tryd.prog 9 #[.slice a1 len1 cap1, .slice a2 len2 cap2] W (fun e w' => ∃ sl, e = .returned (.tuple #[sl, .int .i64 n]) ∧ w'.ownsRow W.heap.size 52 3 sl out.length (flatN out) ∧ Below W.heap.size W w') by
    have := implLogApply_c a1 len1 cap1 ns a2 len2 cap2 cs hl1 hl2 hs1 hs2 W h1 h2 hE
    rw [hr] at this; exact this)
  have HF := Lib.hid (show fitsL ns cs = (n == (len2 : Int)) by
    unfold fitsL
    rw [hr, h2.1]
    by_cases e : n = (len2 : Int)
    · simp [e]
    · rw [decide_eq_false e, beq_eq_false_iff_ne.2 e])
  clear h1 h2 hs1 hs2 hr hE
  go_enter Tryd.func5, Tryd.ntmps5
  go_wp2_with fail
  refine HA.out.mono ?_
  rintro e W1 ⟨sl, rfl, -, hb1⟩
  go_wp2
  go_ret
  exact ⟨ret_bool HF.out.symm, hb1⟩

end Go.Proofs.YtpjoahddbdmbpaaDoor

/-
  LISTS OF COMMANDS of the call's own: a whole command written; two exchanged; the last one left out.
-/
namespace Go.Proofs.YtpjoahddbdmbpaaDoor
open Go.RowKit
set_option linter.unusedVariables false

theorem flatC_set5 : ∀ (cs : List Cmd) (i : Nat) (c : Cmd), i < cs.length → (((((flatC cs).set (i * 5) (.string c.p)).set (i * 5 + 1) (.int .i64 c.fk)).set (i * 5 + 2) (.int .i64 c.fv)).set (i * 5 + 3) (.int .i64 c.tk)).set (i * 5 + 4) (.int .i64 c.tv) = flatC (cs.set i c)
  | [], i, c, h => by simp at h
  | m :: r, 0, c, h => rfl
  | m :: r, i + 1, c, h => by
    have ih := flatC_set5 r i c (by simpa using h)
    have e : ∀ (x : Cmd) (t : List Cmd), flatC (x :: t) = .string x.p :: .int .i64 x.fk :: .int .i64 x.fv :: .int .i64 x.tk :: .int .i64 x.tv :: flatC t := fun _ _ => rfl
    rw [List.set_cons_succ, e m r, e m (r.set i c), ← ih, show (i + 1) * 5 = i * 5 + 5 by omega, show i * 5 + 5 + 1 = (i * 5 + 1) + 5 by omega, show i * 5 + 5 + 2 = (i * 5 + 2) + 5 by omega, show i * 5 + 5 + 3 = (i * 5 + 3) + 5 by omega, show i * 5 + 5 + 4 = (i * 5 + 4) + 5 by omega]
    rfl

/-- Five cells written, from a place on. -/
def set5 (W : World) (g o : Nat) (c : Cmd) : World :=
  ((((W.setCell ⟨g, o, none⟩ (.string c.p)).setCell ⟨g, o + 1, none⟩ (.int .i64 c.fk)).setCell ⟨g, o + 2, none⟩ (.int .i64 c.fv)).setCell ⟨g, o + 3, none⟩ (.int .i64 c.tk)).setCell ⟨g, o + 4, none⟩ (.int .i64 c.tv)

theorem own_set5 {W : World} {base : Nat} {e : TypeId} {g n cap : Nat} {cs : List Cmd} {i : Nat} (h : W.ownsRow base e 5 (.slice (some ⟨g, 0, none⟩) n cap) n (flatC cs)) (hi : i < cs.length) (c : Cmd) :
    (set5 W g (i * 5) c).ownsRow base e 5 (.slice (some ⟨g, 0, none⟩) n cap) n (flatC (cs.set i c)) := by
  have := (((((h.stored (i * 5) (.string c.p)).1.stored (i * 5 + 1) (.int .i64 c.fk)).1.stored (i * 5 + 2) (.int .i64 c.fv)).1.stored (i * 5 + 3) (.int .i64 c.tk)).1.stored (i * 5 + 4) (.int .i64 c.tv)).1
  rw [flatC_set5 cs i c hi] at this
  exact this

theorem grown_set5 (W : World) (g o : Nat) (c : Cmd) : W.grownBy (set5 W g o c) (some g) := by
  unfold set5
  have a : ∀ (X Y : World) (p : Nat) (v : Value), X.grownBy Y (some g) → X.grownBy (Y.setCell ⟨g, p, none⟩ v) (some g) := fun X Y p v h =>
    ⟨h.os, h.tape, h.output, by simpa [World.setCell] using h.size, fun k hk hne => (Below.heap_setCell _ _ _ _ (fun e => hne (by rw [e]))).trans (h.block k hk hne)⟩
  exact a _ _ _ _ (a _ _ _ _ (a _ _ _ _ (a _ _ _ _ (a _ _ _ _ ⟨rfl, rfl, rfl, Nat.le_refl _, fun _ _ _ => rfl⟩))))

/-- Two exchanged. -/
theorem own_swap5 {W : World} {base : Nat} {e : TypeId} {g n cap : Nat} {cs : List Cmd} {i j : Nat} (h : W.ownsRow base e 5 (.slice (some ⟨g, 0, none⟩) n cap) n (flatC cs)) (hi : i < cs.length) (hj : j < cs.length) :
    (set5 (set5 W g (i * 5) (atK cs j)) g (j * 5) (atK cs i)).ownsRow base e 5 (.slice (some ⟨g, 0, none⟩) n cap) n (flatC (swapK cs i j)) :=
  own_set5 (own_set5 h hi (atK cs j)) (by simpa using hj) (atK cs i)

theorem swapK_comm {cs : List Cmd} {i j : Nat} (hi : i < cs.length) (hj : j < cs.length) : swapK cs j i = swapK cs i j := by
  refine List.ext_getElem? (fun k => ?_)
  by_cases hk : k < cs.length
  · rw [atK_get (by rw [swapK_length]; exact hk), atK_get (by rw [swapK_length]; exact hk), atK_swap hj hi, atK_swap hi hj]
    congr 1
    by_cases h1 : k = i <;> by_cases h2 : k = j
    · subst h1; subst h2; rfl
    · rw [if_pos h1, if_neg h2, if_pos h1]
    · rw [if_neg h1, if_pos h2, if_pos h2]
    · rw [if_neg h1, if_neg h2, if_neg h2, if_neg h1]
  · rw [List.getElem?_eq_none (by rw [swapK_length]; omega), List.getElem?_eq_none (by rw [swapK_length]; omega)]

theorem flatC_take5 (cs : List Cmd) (k : Nat) : (flatC cs).take (k * 5) = flatC (cs.take k) := by
  induction cs generalizing k with
  | nil => simp [flatC]
  | cons c r ih =>
    cases k with
    | zero => rfl
    | succ k =>
      have e : ∀ (x : Cmd) (t : List Cmd), flatC (x :: t) = .string x.p :: .int .i64 x.fk :: .int .i64 x.fv :: .int .i64 x.tk :: .int .i64 x.tv :: flatC t := fun _ _ => rfl
      rw [List.take_succ_cons, e, e, show (k + 1) * 5 = k * 5 + 5 by omega, ← ih k]
      rfl

/-- The first commands of a list of the call's own. -/
theorem own_take5 {W : World} {base : Nat} {e : TypeId} {g n cap : Nat} {cs : List Cmd} (h : W.ownsRow base e 5 (.slice (some ⟨g, 0, none⟩) n cap) n (flatC cs)) (hn : n = cs.length) (k : Nat) (hk : k ≤ n) : W.ownsRow base e 5 (.slice (some ⟨g, 0, none⟩) k cap) (cs.take k).length (flatC (cs.take k)) := by
  have hl : (cs.take k).length = k := by rw [List.length_take]; omega
  rw [hl]
  obtain ⟨h1, h2⟩ := h
  refine ⟨by rw [flatC_length, hl], .inr ?_⟩
  rcases h2 with ⟨h3, _⟩ | ⟨g', cap', cur, h3, h4, h5, h6, h7, h8, h9⟩
  · cases h3
  · cases h3
    refine ⟨g, cap, cur, rfl, h4, h5, by omega, h7, h8, ?_⟩
    rw [← flatC_take5, ← h9, List.take_take]
    congr 1
    omega

end Go.Proofs.YtpjoahddbdmbpaaDoor

/-
  WALKS: moves of the model: spec.l13Remove, RemoveAll, l13Copy, CopyAll, MoveAll.
-/
namespace Go.Proofs.YtpjoahddbdmbpaaDoor
open Go.RowKit
set_option linter.unusedVariables false

def remAcc (ns : List Nd) (p : ByteArray) (n : Nat) : List Cmd := ((ns.drop n).filter (fun x => subB p x.p)).reverse.map (fun n => ⟨n.p, n.k, n.v, 0, 0⟩)

theorem remAcc_yes {ns : List Nd} {p : ByteArray} {n : Nat} {x : Nd} (hn : ns[n]? = some x) (h : subB p x.p = true) : remAcc ns p n = remAcc ns p (n + 1) ++ [⟨x.p, x.k, x.v, 0, 0⟩] := by
  have hlt := (List.getElem?_eq_some_iff.1 hn).1
  unfold remAcc
  rw [List.drop_eq_getElem_cons hlt, (List.getElem?_eq_some_iff.1 hn).2]
  simp [h]

theorem remAcc_no {ns : List Nd} {p : ByteArray} {n : Nat} {x : Nd} (hn : ns[n]? = some x) (h : subB p x.p = false) : remAcc ns p n = remAcc ns p (n + 1) := by
  have hlt := (List.getElem?_eq_some_iff.1 hn).1
  unfold remAcc
  rw [List.drop_eq_getElem_cons hlt, (List.getElem?_eq_some_iff.1 hn).2]
  simp [h]

theorem remAcc_len (ns : List Nd) (p : ByteArray) (n : Nat) : (remAcc ns p n).length ≤ ns.length := by
  unfold remAcc
  rw [List.length_map, List.length_reverse]
  exact Nat.le_trans (List.length_filter_le _ _) (by rw [List.length_drop]; omega)

theorem sub_eq {p q : ByteArray} (h : q = p) : subB p q = true := by unfold subB; simp [h]
theorem sub_ne {ns : List Nd} {p : ByteArray} (hv : validT ns = true) (hp : vpB p = true) {n : Nd} (hn : n ∈ ns) (h : n.p ≠ p) : subB p n.p = l1uB p n.p := by
  have := underB_eq p n.p
  rw [show Pm.valid p.data.toList = true from hp, show Pm.valid n.p.data.toList = true from (good_path hv hn).2] at this
  unfold subB
  rw [decide_eq_false h, Bool.false_or]
  exact this

def RemRel (ns : List Nd) (p : ByteArray) (W : World) (o i : Value) (wr : World) : Prop :=
  ∃ (n : Nat) (z : Int), i = .int .i64 z ∧ z = (n : Int) - 1 ∧ n ≤ ns.length ∧ wr.ownsRow W.heap.size 31 5 o (remAcc ns p n).length (flatC (remAcc ns p n)) ∧ Hid (Below W.heap.size W wr)

/-- Commands that the call has made, and whether it succeeded. -/
def MovePost (r : List Cmd × Bool) (W : World) (e : Ending) (w' : World) : Prop :=
  ∃ sl, e = .returned (.tuple #[sl, .bool r.2]) ∧ w'.ownsRow W.heap.size 31 5 sl r.1.length (flatC r.1) ∧ Below W.heap.size W w'

theorem move_end {r : List Cmd × Bool} {W w' : World} {sl : Value} {out : List Cmd} {b : Bool} (h : r = (out, b)) (ho : w'.ownsRow W.heap.size 31 5 sl out.length (flatC out)) (hB : Below W.heap.size W w') : MovePost r W (.returned (.tuple #[sl, .bool b])) w' := by
  subst h
  exact ⟨sl, rfl, ho, hB⟩

theorem move_none {r : List Cmd × Bool} {W w : World} (h : r = ([], false)) (hB : Below W.heap.size W w) : MovePost r W (.returned (.tuple #[.slice (some ⟨w.heap.size, 0, none⟩) 0 0, .bool false])) (w.alloc (.cells #[] 31)) :=
  move_end h (World.ownsRow_lit (e := 31) (size := 5) w #[] 0 hB.size (by simp [maxLen]) rfl) (below_next hB (below_box _ _))

theorem removeAll_no {ns : List Nd} {p : ByteArray} (h : validT ns = false ∨ ¬ 1 ≤ depB p ∨ (getT ns p).1 = 0) : removeAll ns p = ([], false) := by
  unfold removeAll
  rw [if_neg]
  simp only [Bool.and_eq_true, decide_eq_true_eq]
  rintro ⟨⟨h1, h2⟩, h3⟩
  rcases h with h | h | h
  · rw [h] at h1; cases h1
  · exact h h2
  · exact h3 h

end Go.Proofs.YtpjoahddbdmbpaaDoor

/-
  WALKS: moves of the model, second part: spec.l13Copy, CopyAll, MoveAll.
-/
namespace Go.Proofs.YtpjoahddbdmbpaaDoor
open Go.RowKit
set_option linter.unusedVariables false

def cpAcc (ns : List Nd) (a b : ByteArray) (i : Nat) : List Cmd := copyL (ns.take i) a b

theorem cpAcc_yes {ns : List Nd} {a b : ByteArray} {n : Nat} {x : Nd} (hn : ns[n]? = some x) (h : subB a x.p = true) : cpAcc ns a b (n + 1) = cpAcc ns a b n ++ [⟨cpB a b x.p, 0, 0, x.k, x.v⟩] := by
  unfold cpAcc copyL
  rw [List.take_add_one, hn]
  simp [h]

theorem cpAcc_no {ns : List Nd} {a b : ByteArray} {n : Nat} {x : Nd} (hn : ns[n]? = some x) (h : subB a x.p = false) : cpAcc ns a b (n + 1) = cpAcc ns a b n := by
  unfold cpAcc copyL
  rw [List.take_add_one, hn]
  simp [h]

theorem cpAcc_len (ns : List Nd) (a b : ByteArray) (i : Nat) : (cpAcc ns a b i).length ≤ ns.length := by
  unfold cpAcc copyL
  rw [List.length_map]
  exact Nat.le_trans (List.length_filter_le _ _) (by rw [List.length_take]; omega)

/-- A path at or under another one is no shorter. -/
theorem sub_size {p q : ByteArray} (h : subB p q = true) : p.size ≤ q.size := by
  unfold subB at h
  rw [Bool.or_eq_true, decide_eq_true_eq] at h
  rcases h with rfl | h
  · exact Nat.le_refl _
  · obtain ⟨w, t, _, _, _, rfl, rfl⟩ := und_words h
    exact pB_size_le _ _

def CopyRel (ns : List Nd) (p b : ByteArray) (W : World) (o i : Value) (wr : World) : Prop :=
  ∃ n : Nat, i = .int .i64 n ∧ n ≤ ns.length ∧ wr.ownsRow W.heap.size 31 5 o (cpAcc ns p b n).length (flatC (cpAcc ns p b n)) ∧ Hid (Below W.heap.size W wr)

theorem vpSize {p : ByteArray} (h : vpB p = true) : p.size ≤ 8 := by
  obtain ⟨w, hw, rfl⟩ := vpB_word h
  show (Pm.pathOf w).length ≤ 8
  unfold Pm.pathOf
  split
  · simp
  · rw [Pm.flat_length]; have := hw.1; omega

theorem cpB_size (a b q : ByteArray) : (cpB a b q).size ≤ b.size + q.size := by
  unfold cpB
  rw [ByteArray.size_append, ByteArray.size_extract]
  omega

theorem copyL_short {ns : List Nd} {p b : ByteArray} (hv : validT ns = true) (hb : vpB b = true) : ShortC 16 (copyL ns p b) := by
  intro c hc
  obtain ⟨n, hn, rfl⟩ := List.mem_map.1 hc
  have h1 := vpSize hb
  have h2 := vpSize (good_path hv (List.mem_filter.1 hn).1).2
  have h3 := cpB_size p b n.p
  show (cpB p b n.p).size ≤ 16
  omega

theorem remL_short {m : Nat} {ns : List Nd} {p : ByteArray} (hs : Short m ns) : ShortC m (remL ns p) := by
  intro c hc
  obtain ⟨n, hn, rfl⟩ := List.mem_map.1 hc
  exact hs n (List.mem_filter.1 (List.mem_reverse.1 hn)).1

theorem moveL_short {m : Nat} {ns : List Nd} {p b : ByteArray} (hm : 16 ≤ m) (hv : validT ns = true) (hb : vpB b = true) (hs : Short m ns) : ShortC m (copyL ns p b ++ remL ns p) := by
  intro c hc
  rcases List.mem_append.1 hc with hc | hc
  · exact (copyL_short hv hb).mono hm c hc
  · exact remL_short hs c hc

theorem copyAll_no {ns : List Nd} {a b : ByteArray} (h : copyOk ns a b = false) : copyAll ns a b = ([], false) := by unfold copyAll; rw [if_neg (by rw [h]; decide)]
theorem copyAll_yes {ns : List Nd} {a b : ByteArray} (h : copyOk ns a b = true) : copyAll ns a b = (copyL ns a b, true) := by unfold copyAll; rw [if_pos h]
theorem moveAll_no {ns : List Nd} {a b : ByteArray} (h : copyOk ns a b = false) : moveAll ns a b = ([], false) := by unfold moveAll; rw [if_neg (by rw [h]; decide)]
theorem moveAll_yes {ns : List Nd} {a b : ByteArray} (h : copyOk ns a b = true) : moveAll ns a b = (copyL ns a b ++ remL ns a, true) := by unfold moveAll; rw [if_pos h]
theorem copyOk_not {ns : List Nd} {a b : ByteArray} (h : validT ns = true → 1 ≤ depB a → 1 ≤ depB b → (getT ns a).1 ≠ 0 → a ≠ b → undB a b = false → fitsL ns (copyL ns a b) = true → False) : copyOk ns a b = false := by
  rw [Bool.eq_false_iff]
  intro hc
  obtain ⟨h1, h2, h3, h4, h5, h6, h7⟩ := copyOk_iff.1 hc
  exact h h1 h2 h3 h4 h5 h6 h7

end Go.Proofs.YtpjoahddbdmbpaaDoor

/-
  TEXTS: what stands behind a path that is a text's beginning (strings.TrimPrefix).
-/
namespace Go.Proofs.YtpjoahddbdmbpaaDoor
open Go.RowKit
set_option linter.unusedVariables false

set_option maxHeartbeats 400000 in
set_option maxRecDepth 100000 in
theorem hasPrefix_yes (s p : ByteArray) (h : p.size ≤ s.size) (he : ((s.extract 0 p.size).toList == p.toList) = true) (w : World) :
    Calls Tryd.prog 68 #[.string s, .string p] w fun e w' => e = .returned (.bool true) ∧ w' = w := by
  have h1 : (p.size : Int) ≤ s.size := by omega
  clear h
  go_enter Tryd.func68, Tryd.ntmps68
  go_wp2
  go_ret
  exact ⟨rfl, rfl⟩

/-- A path at or under another one, which is not the root, begins with it. -/
theorem sub_prefix {p q : ByteArray} (hr : p ≠ rootB) (h : subB p q = true) : p.size ≤ q.size ∧ ((q.extract 0 p.size).toList == p.toList) = true := by
  unfold subB at h
  rw [Bool.or_eq_true, decide_eq_true_eq] at h
  rcases h with rfl | h
  · refine ⟨Nat.le_refl _, ?_⟩
    rw [ByteArray.extract_zero_size]
    simp
  · have := underB_eq p q
    have hu : underB p q = true := h
    rw [hu] at this
    have h3 : l1uB p q = true := by
      cases hh : l1uB p q with
      | true => rfl
      | false => rw [hh] at this; simp at this
    unfold l1uB at h3
    rw [Bool.or_eq_true, Bool.and_eq_true, Bool.and_eq_true, decide_eq_true_eq] at h3
    rcases h3 with ⟨h3, _⟩ | ⟨h3, h4⟩
    · refine absurd ?_ hr
      rw [beq_iff_eq, Lib.toList_data] at h3
      rw [← Lib.mk_data p, h3]; rfl
    · exact ⟨Nat.le_of_lt h3, h4⟩

end Go.Proofs.YtpjoahddbdmbpaaDoor

/-
  PLAIN MATHEMATICS OF MOVES, fourth part: the program's way: a making of nodes, and its way back.
-/
namespace Go.Proofs.YtpjoahddbdmbpaaDoor
set_option linter.unusedVariables false

/-- impl.makingOf. -/
def makeL (ns : List Nd) (a b : ByteArray) : List Cmd := if validT ns = true ∧ a ≠ rootB then copyL ns a b else []

theorem makeL_yes {ns : List Nd} {a : ByteArray} (b : ByteArray) (h : validT ns = true) (hr : a ≠ rootB) : makeL ns a b = copyL ns a b := if_pos ⟨h, hr⟩
theorem makeL_no {ns : List Nd} {a : ByteArray} (b : ByteArray) (h : validT ns = false ∨ a = rootB) : makeL ns a b = [] := by
  unfold makeL
  rw [if_neg]
  rintro ⟨h1, h2⟩
  rcases h with h | h
  · rw [h] at h1; cases h1
  · exact h2 h

/-- A tree that has a node at or under a path has one at the path. -/
theorem sub_here {ns : List Nd} {p : ByteArray} (hv : validT ns = true) (hr : p ≠ rootB) {n : Nd} (hn : n ∈ ns) (h : subB p n.p = true) : 1 ≤ depB p ∧ (getT ns p).1 ≠ 0 := by
  unfold subB at h
  rw [Bool.or_eq_true, decide_eq_true_eq] at h
  rcases h with rfl | h
  · refine ⟨(good_path hv hn).1, ?_⟩
    rw [getT_mem hv hn]
    exact (((validT_iff ns).1 hv).2.1 n hn).2.2.1
  · have hp := (und_depth h).1
    have hd : 1 ≤ depB p := by
      obtain ⟨w, hw, rfl⟩ := vpB_word hp
      rw [depB_pB hw]
      cases w with
      | nil => exact absurd rfl hr
      | cons => rw [List.length_cons]; omega
    refine ⟨hd, ?_⟩
    have hm : treeUnder ns p ≠ [] := by
      unfold treeUnder
      rw [hv, hp, if_pos (show (true && true) = true from rfl)]
      intro e
      have := List.map_eq_nil_iff.1 e
      have h2 : n ∈ ns.filter (fun n => undB p n.p) := List.mem_filter.2 ⟨hn, h⟩
      rw [this] at h2
      cases h2
    have := under_dir hm
    rw [treeGet_eq hv hp] at this
    rw [this]
    decide

theorem cpB_here {p q : ByteArray} (h1 : p.size ≤ q.size) (h2 : ((q.extract 0 p.size).toList == p.toList) = true) : cpB p p q = q := by
  have e : q.extract 0 p.size = p := by
    rw [beq_iff_eq, Lib.toList_data, Lib.toList_data] at h2
    rw [← Lib.mk_data (q.extract 0 p.size), h2, Lib.mk_data]
  unfold cpB
  conv => lhs; arg 1; rw [← e]
  rw [ByteArray.extract_append_extract]
  simp [Nat.max_eq_right h1]

theorem cpB_self (a b : ByteArray) : cpB a b a = b := by
  unfold cpB
  rw [ByteArray.extract_eq_empty_iff.2 (by omega)]
  simp

theorem copyL_valid {ns : List Nd} {p : ByteArray} (hv : validT ns = true) (hr : p ≠ rootB) : validL (copyL ns p p) = true := by
  refine (validL_iff _).2 ⟨fun c hc => ?_, by rw [copyL_len]; have := filter_len10 hv (fun n => subB p n.p); omega⟩
  obtain ⟨n, hn, rfl⟩ := List.mem_map.1 hc
  obtain ⟨hn, hs⟩ := List.mem_filter.1 hn
  obtain ⟨h1, h2⟩ := sub_prefix hr hs
  refine (validC_iff _).2 ⟨?_, (show validB 0 0 = true by decide), ?_, ?_⟩
  · show 1 ≤ depB (cpB p p n.p)
    rw [cpB_here h1 h2]
    exact (good_path hv hn).1
  · exact (((validT_iff ns).1 hv).2.1 n hn).2.1
  · intro e
    exact (((validT_iff ns).1 hv).2.1 n hn).2.2.1 (congrArg Prod.fst e).symm

theorem copyL_back {ns : List Nd} {p : ByteArray} (hv : validT ns = true) (hr : p ≠ rootB) : undoL (copyL ns p p) = remL ns p := by
  have hval := copyL_valid hv hr
  rw [undoL_ok hval]
  unfold copyL remL
  rw [← List.map_reverse, List.map_map]
  refine List.map_congr_left (fun n hn => ?_)
  obtain ⟨hm, hs⟩ := List.mem_filter.1 (List.mem_reverse.1 hn)
  obtain ⟨h1, h2⟩ := sub_prefix hr hs
  have hc : validC ⟨cpB p p n.p, 0, 0, n.k, n.v⟩ = true := ((validL_iff _).1 hval).1 _ (List.mem_map.2 ⟨n, List.mem_filter.2 ⟨hm, hs⟩, rfl⟩)
  show undoC ⟨cpB p p n.p, 0, 0, n.k, n.v⟩ = _
  unfold undoC
  rw [if_pos hc, cpB_here h1 h2]

theorem undoL_nil : undoL [] = [] := rfl

/-- RemoveAll, the program's way. -/
theorem make_remove (ns : List Nd) (p : ByteArray) : removeAll ns p = (undoL (makeL ns p p), decide (0 < (undoL (makeL ns p p)).length)) := by
  by_cases hv : validT ns = true
  · by_cases hr : p = rootB
    · rw [makeL_no p (.inr hr), undoL_nil, removeAll_no (.inr (.inl (by rw [hr, depB_rootB]; omega)))]
      rfl
    · rw [makeL_yes p hv hr, copyL_back hv hr]
      by_cases hg : 1 ≤ depB p ∧ (getT ns p).1 ≠ 0
      · rw [removeAll_ok hv hg.1 hg.2, decide_eq_true]
        rw [remL_len, sub_count1 hv hg.1 hg.2]
        omega
      · have he : remL ns p = [] := by
          have : ns.filter (fun n => subB p n.p) = [] := by
            rw [List.filter_eq_nil_iff]
            intro n hn hs
            exact hg (sub_here hv hr hn hs)
          unfold remL
          rw [this]; rfl
        rw [he, removeAll_no]
        · rfl
        · by_cases hd : 1 ≤ depB p
          · exact .inr (.inr (Decidable.byContradiction fun h => hg ⟨hd, h⟩))
          · exact .inr (.inl hd)
  · have hv' : validT ns = false := by simpa using hv
    rw [makeL_no p (.inl hv'), undoL_nil, removeAll_no (.inl hv')]
    rfl

/-- CopyAll, the program's way. -/
theorem make_copy {ns : List Nd} {a b : ByteArray} : copyOk ns a b = true ↔ a ≠ b ∧ undB a b = false ∧ makeL ns a b ≠ [] ∧ fitsL ns (makeL ns a b) = true := by
  constructor
  · intro h
    obtain ⟨h1, h2, h3, h4, h5, h6, h7⟩ := copyOk_iff.1 h
    have hr := dep_root h2
    refine ⟨h5, h6, ?_, ?_⟩
    · rw [makeL_yes b h1 hr]
      obtain ⟨n, hn, hnp⟩ := node_at hr h4
      intro e
      have : (⟨cpB a b n.p, 0, 0, n.k, n.v⟩ : Cmd) ∈ copyL ns a b := List.mem_map.2 ⟨n, List.mem_filter.2 ⟨hn, sub_eq hnp⟩, rfl⟩
      rw [e] at this
      cases this
    · rw [makeL_yes b h1 hr]; exact h7
  · rintro ⟨h5, h6, h8, h7⟩
    have hvr : validT ns = true ∧ a ≠ rootB := Decidable.byContradiction fun h => h8 (if_neg h)
    obtain ⟨h1, hr⟩ := hvr
    rw [makeL_yes b h1 hr] at h7 h8
    obtain ⟨c, hc⟩ := List.exists_mem_of_ne_nil _ h8
    obtain ⟨n, hn, -⟩ := List.mem_map.1 hc
    obtain ⟨hn, hs⟩ := List.mem_filter.1 hn
    obtain ⟨h2, h4⟩ := sub_here h1 hr hn hs
    obtain ⟨m, hm, hmp⟩ := node_at hr h4
    have hc2 : (⟨cpB a b m.p, 0, 0, m.k, m.v⟩ : Cmd) ∈ copyL ns a b := List.mem_map.2 ⟨m, List.mem_filter.2 ⟨hm, sub_eq hmp⟩, rfl⟩
    have h3 := ((validC_iff _).1 (((validL_iff _).1 (fitsL_iff.1 h7).2.1).1 _ hc2)).1
    have h3' : 1 ≤ depB (cpB a b m.p) := h3
    rw [hmp, cpB_self] at h3'
    exact copyOk_iff.2 ⟨h1, h2, h3', h4, h5, h6, h7⟩

theorem makeL_len {ns : List Nd} (a b : ByteArray) : (makeL ns a b).length ≤ 10 := by
  unfold makeL
  split
  · rename_i h
    rw [copyL_len]; exact filter_len10 h.1 _
  · exact Nat.zero_le _

/-- A copy's paths are hardly longer than its place. -/
theorem makeL_short {ns : List Nd} (a b : ByteArray) : ShortC (b.size + 8) (makeL ns a b) := by
  intro c hc
  unfold makeL at hc
  split at hc
  · rename_i h
    obtain ⟨n, hn, rfl⟩ := List.mem_map.1 hc
    have h2 := vpSize (good_path h.1 (List.mem_filter.1 hn).1).2
    have h3 := cpB_size a b n.p
    show (cpB a b n.p).size ≤ _
    omega
  · cases hc

end Go.Proofs.YtpjoahddbdmbpaaDoor

/-
  append to a list of the call's own, and where the result lies: in the same block, or in a new one.
-/
namespace Go.Proofs.YtpjoahddbdmbpaaDoor
open Go.RowKit
set_option linter.unusedVariables false

/-- The result's block is the old one or a new one. -/
def SameOrNew (w : World) (v v' : Value) : Prop := ∀ k, v'.ownBlock = some k → v.ownBlock = some k ∨ w.heap.size ≤ k

theorem append_where {P : Program} {w w' : World} {base n m c : Nat} {t ty e : TypeId} {i : TypeInfo} {z v v' : Value} {xs news : List Value} {a : Addr} (ht : P.underlying t = some (.slice e)) (hi : P.info? e = some i) (hz : i.zero = some z) (hs1 : i.size = 1)
    (hown : w.ownsRow base e 1 v n xs) (hl : news.length = m * 1) (hnews : ∀ j u, news[j]? = some u → w.cell? (a.add j) = some u) (h1 : ∀ u ∈ news, u.oneCell' = true) (h63 : n + m ≤ maxLen) (hbytes : (n + m) * i.bytes ≤ 140737488355328)
    (hr : (Builtin.append_ #[t, t] ty #[v, .slice (some a) m c]).run P w = .ok v' w') (h4 : v' = .slice none 0 0 ↔ v = .slice none 0 0 ∧ m = 0) : SameOrNew w v v' := by
  intro k hk
  have h63' : n + m ≤ 9223372036854775807 := by unfold maxLen at h63; omega
  rcases hown.2 with ⟨rfl, rfl⟩ | ⟨g, cap, cur, rfl, hbg, hg, hnc, hcm, hcs, htake⟩
  · by_cases hm : m = 0
    · rw [h4.2 ⟨rfl, hm⟩] at hk; cases hk
    · have hr2 := run_append_nil (P := P) w t ty e i z ht hi hz a m c news (by rw [hs1]; exact hl) hnews (by omega) (by omega) (by
        rw [Nat.zero_add] at hbytes; omega)
      rw [hr] at hr2
      injection hr2 with e1 _
      rw [e1] at hk
      simp [Value.ownBlock] at hk
      exact .inr (by omega)
  · by_cases hroom : n + m ≤ cap
    · have hr2 := run_append_room (P := P) w t ty e i ht hi g n cap cur hg a m c news (by rw [hs1]; exact hl) hnews h1 hroom (by rw [hs1, hl, hcs]; omega)
      rw [hr] at hr2
      injection hr2 with e1 _
      rw [e1] at hk
      exact .inl hk
    · have hr2 := run_append_grow (P := P) w t ty e i z ht hi hz ⟨g, 0, none⟩ n cap xs (by rw [hs1]; exact hown.1) (hown.cells (g := g) rfl) a m c news (by rw [hs1]; exact hl) hnews (by omega) (by omega) (growslice_fits (by omega) hbytes)
      rw [hr] at hr2
      injection hr2 with e1 _
      rw [e1] at hk
      simp [Value.ownBlock] at hk
      exact .inr (by omega)

theorem wpList_append_where {P : Program} {w : World} {ops : Array Oper} {rest : List Oper} {o : Oper} {a : Act} {Q : Exit → Act → World → Prop} (hgd : o.guard = none) (s x : Operand) (t : TypeId)
    (ho : o.op = .call { callee := .builtin .append, args := #[s, x], argTypes := #[t, t] })
    (base : Nat) (e : TypeId) (i : TypeInfo) (z : Value) (bytes : Nat) (ht : P.underlying t = some (.slice e)) (hi : P.info? e = some i) (hz : i.zero = some z)
    (hsize : i.size = 1) (hby : i.bytes = bytes) (hzs : z.cells.size = 1)
    (v : Value) (n : Nat) (xs : List Value) (hs : a.eval s = v) (hown : w.ownsRow base e 1 v n xs)
    (ad : Addr) (m c : Nat) (news : List Value) (hx : a.eval x = .slice (some ad) m c) (hl : news.length = m * 1) (hnews : ∀ j u, news[j]? = some u → w.cell? (ad.add j) = some u) (h1 : ∀ u ∈ news, u.oneCell' = true)
    (h63 : n + m ≤ maxLen) (hbytes : (n + m) * bytes ≤ 140737488355328) (hbase : base ≤ w.heap.size)
    (h : ∀ v' w', w'.ownsRow base e 1 v' (n + m) (xs ++ news) → w.grownBy w' v.ownBlock → SameOrNew w v v' → wpList P ops Q rest (a.put o.dst v') w') : wpList P ops Q (o :: rest) a w := by
  refine wpList_plain hgd fun K hK => ?_
  obtain ⟨v', w', hr, h2, h3, h4⟩ := run_append_own (P := P) w base t o.type e i z 1 bytes ht hi hz hsize hby hzs (by decide) v n xs hown ad m c news hl hnews h1 h63 hbytes hbase
  have h5 := append_where ht hi hz hsize hown hl hnews h1 h63 (by rw [hby]; exact hbytes) hr h4
  unfold Oper.wp execOp
  simp only [ho, resolve, invoke, builtin, Sem.run_bind, Sem.run_pure, Result.andThen_ok, List.map_toArray, List.map_cons, List.map_nil, hs, hx, hr]
  exact hK _ _ (h v' w' h2 h3 h5)

end Go.Proofs.YtpjoahddbdmbpaaDoor

/-
  WALKS: impl.nodeQueue, nodesFrom, makingOf.
-/
namespace Go.Proofs.YtpjoahddbdmbpaaDoor
open Go.RowKit
set_option linter.unusedVariables false

theorem NodesAt.kept {W W' : World} {row : Option Nat} {a : Option Addr} {len : Nat} {ns : List Nd} (h : NodesAt W a len ns) (hg : W.grownBy W' row) (hr : ∀ x, a = some x → len ≠ 0 → row ≠ some x.block) : NodesAt W' a len ns := by
  obtain ⟨h1, h0 | ⟨b, off, rfl, hc⟩⟩ := h
  · exact ⟨h1, .inl h0⟩
  · by_cases hl : len = 0
    · exact ⟨h1, .inl hl⟩
    · have hne : some b ≠ row := fun e => hr _ rfl hl e.symm
      exact ⟨h1, .inr ⟨b, off, rfl, fun i n hn => ⟨hg.cell (hc i n hn).1 hne, hg.cell (hc i n hn).2.1 hne, hg.cell (hc i n hn).2.2 hne⟩⟩⟩

theorem NodesAt.low {W : World} {a : Option Addr} {len : Nat} {ns : List Nd} (h : NodesAt W a len ns) (hl : len ≠ 0) : ∀ x, a = some x → x.block < W.heap.size := by
  intro x hx
  obtain ⟨b, off, n, rfl, _, hc, _⟩ := h.node (i := 0) (by omega)
  cases hx
  exact World.block_lt_of_cell? W _ hc

theorem grown_then {W W1 W2 : World} {row row2 : Option Nat} (h : W.grownBy W1 row) (k : W1.grownBy W2 row2) (hr : ∀ j, row2 = some j → W.heap.size ≤ j ∨ row = some j) : W.grownBy W2 row :=
  ⟨k.os.trans h.os, k.tape.trans h.tape, k.output.trans h.output, Nat.le_trans h.size k.size, fun i hi hne => (k.block i (Nat.lt_of_lt_of_le hi h.size) (fun e => (hr i e.symm).elim (fun h1 => absurd hi (Nat.not_lt.2 h1)) (fun h1 => hne h1.symm))).trans (h.block i hi hne)⟩

/-- What is left when the first node is taken. -/
theorem NodesAt.rest {W : World} {a : Option Addr} {len cap : Nat} {x : Nd} {r : List Nd} (h : NodesAt W a len (x :: r)) (hlc : len ≤ cap) :
    (cap = 1 → NodesAt W a (len - 1) r) ∧ NodesAt W (a.map fun y => y.add 3) (len - 1) r := by
  obtain ⟨h1, h2⟩ := h
  have hl : r.length = len - 1 := by rw [← h1]; simp
  refine ⟨fun e => ⟨hl, .inl (by omega)⟩, hl, ?_⟩
  rcases h2 with h0 | ⟨b, off, rfl, hc⟩
  · left; omega
  · right
    refine ⟨b, off + 3, by rw [Option.map_some, addr_addN], fun i n hn => ?_⟩
    have := hc (i + 1) n (by simpa using hn)
    rw [show off + 3 + i * 3 = off + (i + 1) * 3 by omega]
    exact this

theorem npair_results (fn : Func) (hf : fn.results = #[.cell 2 52, .tmp 3]) (W : World) (n : Nat) (p : ByteArray) (k v : Int) (b : Bool) (tmps : Array Value) (ht : tmps[2]? = some (.pointer (some ⟨n, 0, none⟩))) (hb : tmps[3]? = some (.bool b))
    (h : W.cell? ⟨n, 0, none⟩ = some (.string p) ∧ W.cell? ⟨n, 1, none⟩ = some (.int .i64 k) ∧ W.cell? ⟨n, 2, none⟩ = some (.int .i64 v)) : (results fn tmps).run Tryd.prog W = .ok (.tuple #[.agg #[.string p, .int .i64 k, .int .i64 v], .bool b]) W := by
  obtain ⟨c0, c1, c2⟩ := h
  simp [results, hf, go_sem, ht, hb, c0, c1, c2]

theorem three_cells (W : World) (x y z : Value) (t : TypeId) : (W.alloc (.cells #[x, y, z] t)).cell? ⟨W.heap.size, 0, none⟩ = some x ∧ (W.alloc (.cells #[x, y, z] t)).cell? ⟨W.heap.size, 1, none⟩ = some y ∧ (W.alloc (.cells #[x, y, z] t)).cell? ⟨W.heap.size, 2, none⟩ = some z ∧
    (W.alloc (.cells #[x, y, z] t)).frozen? ⟨W.heap.size, 0, none⟩ = false ∧ (W.alloc (.cells #[x, y, z] t)).frozen? ⟨W.heap.size, 1, none⟩ = false ∧ (W.alloc (.cells #[x, y, z] t)).frozen? ⟨W.heap.size, 2, none⟩ = false := by
  refine ⟨by rw [World.cell?_alloc_new]; rfl, by rw [World.cell?_alloc_new]; rfl, by rw [World.cell?_alloc_new]; rfl, ?_, ?_, ?_⟩
  all_goals (simp only [World.frozen?, World.alloc_heap_new]; rfl)

/-- impl.nodesFrom. -/
def fromL (ns : List Nd) (p : ByteArray) : List Nd := if validT ns = true ∧ p ≠ rootB then ns.filter (fun n => subB p n.p) else []

theorem fromL_yes {ns : List Nd} {p : ByteArray} (h : validT ns = true) (hr : p ≠ rootB) : fromL ns p = ns.filter (fun n => subB p n.p) := if_pos ⟨h, hr⟩
theorem fromL_no {ns : List Nd} {p : ByteArray} (h : validT ns = false ∨ p = rootB) : fromL ns p = [] := by
  unfold fromL
  rw [if_neg]
  rintro ⟨h1, h2⟩
  rcases h with h | h
  · rw [h] at h1; cases h1
  · exact h2 h
theorem fromL_len (ns : List Nd) (p : ByteArray) : (fromL ns p).length ≤ 10 := by
  unfold fromL
  split
  · rename_i h; exact filter_len10 h.1 _
  · exact Nat.zero_le _

def fromAcc (ns : List Nd) (p : ByteArray) (n : Nat) : List Nd := (ns.take n).filter (fun x => subB p x.p)

theorem fromAcc_yes {ns : List Nd} {p : ByteArray} {n : Nat} {x : Nd} (hn : ns[n]? = some x) (h : subB p x.p = true) : fromAcc ns p (n + 1) = fromAcc ns p n ++ [x] := by
  unfold fromAcc
  rw [List.take_add_one, hn]
  simp [h]
theorem fromAcc_no {ns : List Nd} {p : ByteArray} {n : Nat} {x : Nd} (hn : ns[n]? = some x) (h : subB p x.p = false) : fromAcc ns p (n + 1) = fromAcc ns p n := by
  unfold fromAcc
  rw [List.take_add_one, hn]
  simp [h]
theorem fromAcc_len {ns : List Nd} (hv : validT ns = true) (p : ByteArray) (n : Nat) : (fromAcc ns p n).length ≤ 10 := by
  unfold fromAcc
  exact Nat.le_trans (List.length_filter_le _ _) (Nat.le_trans (by rw [List.length_take]; omega) ((validT_iff ns).1 hv).2.2)

/-- A list of nodes that the call has made. -/
def FromPost (l : List Nd) (W : World) (e : Ending) (w' : World) : Prop := OwnsNodes W.heap.size l e w' ∧ Below W.heap.size W w'

/-- A node in a block of its own. -/
def NBox (W : World) (c : Nat) (x : Nd) : Prop := W.heap[c]? = some (.cells #[.string x.p, .int .i64 x.k, .int .i64 x.v] 52 (0, 0))

theorem NBox.cells {W : World} {c : Nat} {x : Nd} (h : NBox W c x) : W.cell? ⟨c, 0, none⟩ = some (.string x.p) ∧ W.cell? ⟨c, 1, none⟩ = some (.int .i64 x.k) ∧ W.cell? ⟨c, 2, none⟩ = some (.int .i64 x.v) ∧ W.frozen? ⟨c, 0, none⟩ = false ∧ W.frozen? ⟨c, 1, none⟩ = false ∧ W.frozen? ⟨c, 2, none⟩ = false := by
  unfold NBox at h
  simp [World.cell?, World.frozen?, h]
theorem NBox.lt {W : World} {c : Nat} {x : Nd} (h : NBox W c x) : c < W.heap.size := (Array.getElem?_eq_some_iff.1 h).1
theorem NBox.kept {W W' : World} {row : Option Nat} {c : Nat} {x : Nd} (h : NBox W c x) (hg : W.grownBy W' row) (hne : some c ≠ row) : NBox W' c x := (hg.block c h.lt hne).trans h
theorem NBox.keep {W W' : World} {c : Nat} {x : Nd} (h : NBox W c x) (hb : Below W.heap.size W W') : NBox W' c x := (hb.block c h.lt).trans h
theorem NBox.new (W : World) (x : Nd) : NBox (W.alloc (.cells #[.string x.p, .int .i64 x.k, .int .i64 x.v] 52)) W.heap.size x := World.alloc_heap_new W _
theorem NBox.far {W : World} {c base n : Nat} {x : Nd} {v : Value} {xs : List Value} (h : NBox W c x) (ho : W.ownsRow base 31 5 v n xs) : some c ≠ v.ownBlock := by
  rcases ho.2 with ⟨rfl, _⟩ | ⟨g, cap, cur, rfl, _, q2, _⟩
  · simp [Value.ownBlock]
  · intro e
    simp [Value.ownBlock] at e
    subst e
    unfold NBox at h
    rw [h] at q2
    cases q2
theorem NBox.put {W : World} {c : Nat} {x : Nd} (y : Nd) (h : NBox W c x) : NBox (((W.setCell ⟨c, 0, none⟩ (.string y.p)).setCell ⟨c, 1, none⟩ (.int .i64 y.k)).setCell ⟨c, 2, none⟩ (.int .i64 y.v)) c y := by
  unfold NBox at h ⊢
  simp [World.setCell, h, Array.getElem?_modify]

/-- What makingOf makes of nodes. -/
def mkL (p b : ByteArray) (l : List Nd) : List Cmd := l.map (fun n => ⟨cpB p b n.p, 0, 0, n.k, n.v⟩)

theorem mkL_snoc (p b : ByteArray) (l : List Nd) (x : Nd) : mkL p b (l ++ [x]) = mkL p b l ++ [⟨cpB p b x.p, 0, 0, x.k, x.v⟩] := by unfold mkL; rw [List.map_append]; rfl
theorem mkL_from (ns : List Nd) (p b : ByteArray) : mkL p b (fromL ns p) = makeL ns p b := by
  unfold fromL makeL
  split
  · rfl
  · rfl

theorem fromL_sub {ns : List Nd} {p : ByteArray} {x : Nd} (h : x ∈ fromL ns p) : p.size ≤ x.p.size ∧ ((x.p.extract 0 p.size).toList == p.toList) = true ∧ x.p.size ≤ 8 := by
  unfold fromL at h
  split at h
  · rename_i hc
    obtain ⟨hm, hs⟩ := List.mem_filter.1 h
    obtain ⟨h1, h2⟩ := sub_prefix hc.2 hs
    exact ⟨h1, h2, vpSize (good_path hc.1 hm).2⟩
  · cases h

/-- How many nodes a queue has. -/
def leftAt (W : World) (B : Nat) : Nat := match W.cell? ⟨B, 0, none⟩ with
  | some (.slice _ n _) => n
  | _ => 0

def moreOf : Value → Nat
  | .bool true => 1
  | _ => 0

end Go.Proofs.YtpjoahddbdmbpaaDoor

/-
  WALKS: the program's heap of commands: impl.ends, canonHeap.Len, Less, Swap, Push, Pop.
-/
namespace Go.Proofs.YtpjoahddbdmbpaaDoor
open Go.RowKit
set_option linter.unusedVariables false

/-- Every seat has it: what stands ahead of the first declaration goes with it. -/
theorem hc_first : (0 : Nat) ≤ 0 := Nat.le_refl 0

/-- Two commands of a list, read. -/
def TwoAt (w' : World) (b i j : Nat) (c d : Cmd) : Prop :=
  w'.cell? ⟨b, i, none⟩ = some (.string c.p) ∧ w'.cell? ⟨b, i + 1, none⟩ = some (.int .i64 c.fk) ∧ w'.cell? ⟨b, i + 2, none⟩ = some (.int .i64 c.fv) ∧ w'.cell? ⟨b, i + 3, none⟩ = some (.int .i64 c.tk) ∧ w'.cell? ⟨b, i + 4, none⟩ = some (.int .i64 c.tv) ∧
  w'.cell? ⟨b, j, none⟩ = some (.string d.p) ∧ w'.cell? ⟨b, j + 1, none⟩ = some (.int .i64 d.fk) ∧ w'.cell? ⟨b, j + 2, none⟩ = some (.int .i64 d.fv) ∧ w'.cell? ⟨b, j + 3, none⟩ = some (.int .i64 d.tk) ∧ w'.cell? ⟨b, j + 4, none⟩ = some (.int .i64 d.tv)

theorem TwoAt.keep {W W' : World} {b i j : Nat} {c d : Cmd} (h : TwoAt W b i j c d) (hb : Below W.heap.size W W') : TwoAt W' b i j c d := by
  obtain ⟨a0, a1, a2, a3, a4, b0, b1, b2, b3, b4⟩ := h
  exact ⟨cell_kept hb a0, cell_kept hb a1, cell_kept hb a2, cell_kept hb a3, cell_kept hb a4, cell_kept hb b0, cell_kept hb b1, cell_kept hb b2, cell_kept hb b3, cell_kept hb b4⟩

theorem hp_cells {W : World} {base : Nat} {e : TypeId} {g n cap : Nat} {zs : List Cmd} (h : W.ownsRow base e 5 (.slice (some ⟨g, 0, none⟩) n cap) n (flatC zs)) {i : Nat} (hi : i < zs.length) (hn : n = zs.length) :
    W.cell? ⟨g, i * 5, none⟩ = some (.string (atK zs i).p) ∧ W.cell? ⟨g, i * 5 + 1, none⟩ = some (.int .i64 (atK zs i).fk) ∧ W.cell? ⟨g, i * 5 + 2, none⟩ = some (.int .i64 (atK zs i).fv) ∧ W.cell? ⟨g, i * 5 + 3, none⟩ = some (.int .i64 (atK zs i).tk) ∧ W.cell? ⟨g, i * 5 + 4, none⟩ = some (.int .i64 (atK zs i).tv) := by
  obtain ⟨f0, f1, f2, f3, f4⟩ := flatC_get zs i (atK zs i) (atK_get hi)
  refine ⟨?_, ?_, ?_, ?_, ?_⟩
  · rw [h.cellAt (i * 5) (by omega)]; exact f0
  · rw [h.cellAt (i * 5 + 1) (by omega)]; exact f1
  · rw [h.cellAt (i * 5 + 2) (by omega)]; exact f2
  · rw [h.cellAt (i * 5 + 3) (by omega)]; exact f3
  · rw [h.cellAt (i * 5 + 4) (by omega)]; exact f4

theorem row_frozen {W : World} {base : Nat} {e : TypeId} {g n m cap : Nat} {xs : List Value} (h : W.ownsRow base e 5 (.slice (some ⟨g, 0, none⟩) m cap) n xs) (o : Nat) : W.frozen? ⟨g, o, none⟩ = false := by
  rcases h.2 with ⟨h1, _⟩ | ⟨g', cap', cur, h1, _, h2, _⟩
  · cases h1
  · cases h1
    simp only [World.frozen?, h2]
    rfl

def SwapPost (base g n cap : Nat) (zs : List Cmd) (i j : Nat) (W : World) (e : Ending) (w' : World) : Prop :=
  e = .returned (.tuple #[]) ∧ w'.ownsRow base 31 5 (.slice (some ⟨g, 0, none⟩) n cap) n (flatC (swapK zs i j)) ∧ W.grownBy w' (some g)

theorem row_drew {W : World} {base : Nat} {e : TypeId} {size n : Nat} {v : Value} {xs : List Value} (h : W.ownsRow base e size v n xs) : W.drew.ownsRow base e size v n xs := h
theorem grown_drew {W W' : World} {row : Option Nat} (h : W.grownBy W' row) : W.grownBy W'.drew row := ⟨h.os, h.tape, h.output, h.size, h.block⟩

theorem swap_end {base g n cap : Nat} {zs : List Cmd} {i j : Nat} {W : World} (fn : Func) (hf : fn.results = #[]) (tmps : Array Value) (h : W.ownsRow base 31 5 (.slice (some ⟨g, 0, none⟩) n cap) n (flatC zs)) (hi : i < zs.length) (hj : j < zs.length) :
    bodyPost Tryd.prog fn (SwapPost base g n cap zs i j W) .normal ⟨tmps, []⟩ (set5 (set5 W g (i * 5) (atK zs j)) g (j * 5) (atK zs i)).drew :=
  bodyPost_end (v := .tuple #[]) (by simp [results, hf, go_sem]) rfl ⟨rfl, row_drew (own_swap5 h hi hj), by
    have h1 := grown_set5 W g (i * 5) (atK zs j)
    have h2 := grown_set5 (set5 W g (i * 5) (atK zs j)) g (j * 5) (atK zs i)
    exact grown_drew (grown_then h1 h2 (fun k e => .inr e))⟩

/-- Blocks that are no rows of cells stand. -/
def KeptM (W w' : World) : Prop := ∀ (i : Nat) (o : Obj), W.heap[i]? = some o → o.isCells = false → w'.heap[i]? = some o

theorem KeptM.trans {A B C : World} (h : KeptM A B) (k : KeptM B C) : KeptM A C := fun i o hi ho => k i o (h i o hi ho) ho

theorem KeptM.grown {W w' : World} {row : Option Nat} (hg : W.grownBy w' row) (hr : ∀ r o, row = some r → W.heap[r]? = some o → o.isCells = true) : KeptM W w' := fun i o hi ho => by
  refine (hg.block i (Array.getElem?_eq_some_iff.1 hi).1 (fun e => ?_)).trans hi
  rw [hr i o e.symm hi] at ho
  cases ho

theorem KeptM.below {W w' : World} (hb : Below W.heap.size W w') : KeptM W w' := fun i o hi ho => (hb.block i (Array.getElem?_eq_some_iff.1 hi).1).trans hi

theorem row_cells {W : World} {base : Nat} {e : TypeId} {size n : Nat} {v : Value} {xs : List Value} (h : W.ownsRow base e size v n xs) : ∀ r o, v.ownBlock = some r → W.heap[r]? = some o → o.isCells = true := by
  intro r o hr ho
  rcases h.2 with ⟨rfl, _⟩ | ⟨g, cap, cur, rfl, _, h2, _⟩
  · cases hr
  · simp [Value.ownBlock] at hr
    subst hr
    rw [h2] at ho
    cases ho
    rfl

theorem ta_cmd (p : ByteArray) (fk fv tk tv : Int) (W : World) : (Instr.typeAssert (.iface 31 (.agg #[.string p, .int .i64 fk, .int .i64 fv, .int .i64 tk, .int .i64 tv])) 20 31 false).run Tryd.prog W = .ok (.agg #[.string p, .int .i64 fk, .int .i64 fv, .int .i64 tk, .int .i64 tv]) W := by kernel_rfl

end Go.Proofs.YtpjoahddbdmbpaaDoor

/-
  WALKS: orders of the program: sets of commands as bits; MustPrecede; what must precede each command; each path once; OrderFits, OrderSwap.
-/
namespace Go.Proofs.YtpjoahddbdmbpaaDoor
open Go.RowKit
open Go.Maps (IsMap has)
set_option linter.unusedVariables false

theorem ot_first : (0 : Nat) ≤ 0 := Nat.le_refl 0

/-! ### sets of commands -/
theorem u32_pow {k : Nat} (h : k ≤ 20) : (2 : Int) ^ k % 4294967296 = ((2 ^ k : Nat) : Int) := by
  have := pow_lt32 h
  rw [show ((2 : Int) ^ k) = ((2 ^ k : Nat) : Int) by simp]
  generalize 2 ^ k = x at this ⊢
  omega

set_option maxHeartbeats 1000000 in
theorem with_c (s k : Nat) (hs : s < 4294967296) (hk : k ≤ 20) (W : World) :
    Calls Tryd.prog 14 #[.int .u32 s, .int .i64 k] W fun e W' => e = .returned (.int .u32 ((s ||| 2 ^ k : Nat) : Int)) ∧ W' = W := by
  have hk0 : (0 : Int) ≤ k := by omega
  have hk1 : (k : Int) ≤ 32 := by omega
  have hp := pow_lt32 hk
  obtain ⟨r, hr⟩ : ∃ r, s ||| 2 ^ k = r := ⟨_, rfl⟩
  have h2 : bits .or .u32 (s : Int) ((2 : Int) ^ k % 4294967296) = (r : Int) := by
    rw [u32_pow hk, ← hr]
    exact u32_or_nat s (2 ^ k) hs (by omega)
  rw [hr]
  clear hr hp hk hs
  go_enter Tryd.func14, Tryd.ntmps14
  go_wp2
  go_ret
  exact ⟨rfl, rfl⟩

theorem u32_has (s k : Nat) (hs : s < 4294967296) : bits .and .u32 ((s : Int) / 2 ^ k) 1 = if s.testBit k = true then 1 else 0 := by
  rw [show ((s : Int) / 2 ^ k) = ((s / 2 ^ k : Nat) : Int) by simp, show (1 : Int) = ((1 : Nat) : Int) from rfl, u32_and_nat _ 1 (Nat.lt_of_le_of_lt (Nat.div_le_self _ _) hs) (by omega), has_iff]
  split <;> rfl

set_option maxHeartbeats 1000000 in
theorem hasAll_c (s x : Nat) (hs : s < 4294967296) (hx : x < 4294967296) (b : Bool) (hb : b = true ↔ ∀ i, x.testBit i = true → s.testBit i = true) (W : World) :
    Calls Tryd.prog 13 #[.int .u32 s, .int .u32 x] W fun e W' => e = .returned (.bool b) ∧ W' = W := by
  have h2 : bits .andNot .u32 (x : Int) (s : Int) = ((x &&& (4294967295 - s) : Nat) : Int) := u32_andNot_nat x s hx hs
  have h3 := hasAll_iff hs hx
  rw [← hb] at h3
  obtain ⟨y, hy⟩ : ∃ y, x &&& (4294967295 - s) = y := ⟨_, rfl⟩
  rw [hy] at h2 h3
  cases b with
  | true =>
    obtain rfl : y = 0 := h3.2 rfl
    clear hb h3 hy hs hx
    have h4 : bits .andNot .u32 (x : Int) (s : Int) = 0 := h2
    clear h2
    go_enter Tryd.func13, Tryd.ntmps13
    go_wp2
    go_ret
    exact ⟨rfl, rfl⟩
  | false =>
    have h5 : ((y : Int) == 0) = false := beq_eq_false_iff_ne.2 (fun e => by have := h3.1 (by omega); cases this)
    clear hb h3 hy hs hx
    go_enter Tryd.func13, Tryd.ntmps13
    go_wp2
    go_ret
    exact ⟨rfl, rfl⟩

/-! ### MustPrecede -/
theorem must_prog {c d : Cmd} (hc : validC c = true) (hd : validC d = true) : mustP c d = ((underB d.p c.p && d.fk == 1) || (underB c.p d.p && c.tk == 1)) := by
  unfold mustP mustC
  rw [hc, hd, underB_eq d.p c.p, underB_eq c.p d.p, show Pm.valid c.p.data.toList = true from validC_vp hc, show Pm.valid d.p.data.toList = true from validC_vp hd]
  rfl

set_option maxHeartbeats 4000000 in
set_option maxRecDepth 100000 in
theorem implMustPrecede_c (c d : Cmd) (hc : c.p.size ≤ 2097152) (hd : d.p.size ≤ 2097152) (W : World) : Calls Tryd.prog 26 #[cmdV c, cmdV d] W (BoolPost (mustP c d) W) := by
  obtain ⟨u, hu⟩ : ∃ u, validC c = u := ⟨_, rfl⟩
  obtain ⟨v, hv⟩ : ∃ v, validC d = v := ⟨_, rfl⟩
  have HC := Lib.hid (fun w => show Calls Tryd.prog 33 #[cmdV c] w (BoolPost u w) by rw [← hu]; exact implCmdValid_c c hc w)
  have HD := Lib.hid (fun w => show Calls Tryd.prog 33 #[cmdV d] w (BoolPost v w) by rw [← hv]; exact implCmdValid_c d hd w)
  obtain ⟨r, hr⟩ : ∃ r, underB d.p c.p = r := ⟨_, rfl⟩
  obtain ⟨s, hs⟩ : ∃ s, underB c.p d.p = s := ⟨_, rfl⟩
  obtain ⟨x, hx⟩ : ∃ x, (d.fk == 1) = x := ⟨_, rfl⟩
  obtain ⟨y, hy⟩ : ∃ y, (c.tk == 1) = y := ⟨_, rfl⟩
  have HU := Lib.hid (fun w => show Calls Tryd.prog 43 #[.string d.p, .string c.p] w (fun e w' => e = .returned (.bool r) ∧ Below w.heap.size w w') by rw [← hr]; exact pathUnder_c d.p c.p hd hc w)
  have HV := Lib.hid (fun w => show Calls Tryd.prog 43 #[.string c.p, .string d.p] w (fun e w' => e = .returned (.bool s) ∧ Below w.heap.size w w') by rw [← hs]; exact pathUnder_c c.p d.p hc hd w)
  have HR := Lib.hid (show u = true → v = true → mustP c d = ((r && x) || (s && y)) by
    intro h1 h2
    rw [must_prog (hu.trans h1) (hv.trans h2), hr, hs, hx, hy])
  have HRN := Lib.hid (show u = false ∨ v = false → mustP c d = false by
    intro h
    unfold mustP
    rw [hu, hv]
    rcases h with h | h <;> rw [h] <;> simp)
  have HT := Lib.hid (twoC_new W c d)
  have HB := Lib.hid (below_next (below_box W (.cells #[.string c.p, .int .i64 c.fk, .int .i64 c.fv, .int .i64 c.tk, .int .i64 c.tv] 31)) (below_box _ (.cells #[.string d.p, .int .i64 d.fk, .int .i64 d.fv, .int .i64 d.tk, .int .i64 d.tv] 31)))
  clear hu hv hc hd hr hs
  obtain ⟨p, fk, fv, tk, tv⟩ := c
  obtain ⟨p', fk', fv', tk', tv'⟩ := d
  unfold cmdV at HC HD ⊢
  simp only at HC HD HU HV HT HB HR HRN hx hy ⊢
  obtain ⟨a0, a1, a2, a3, a4, b0, b1, b2, b3, b4⟩ := HT.out
  simp only at a0 a1 a2 a3 a4 b0 b1 b2 b3 b4
  have T0 := HT
  have B0 := HB
  go_enter Tryd.func26, Tryd.ntmps26
  go_wp2_with fail
  refine (HC.out _).mono ?_
  rintro e W1 ⟨rfl, hb1⟩
  have T1 := Lib.hid (T0.out.keep hb1)
  have B1 := Lib.hid (below_next B0.out hb1)
  clear a0 a1 a2 a3 a4 b0 b1 b2 b3 b4 hb1
  obtain ⟨a0, a1, a2, a3, a4, b0, b1, b2, b3, b4⟩ := T1.out
  cases u with
  | false =>
    have HX := Lib.hid (HRN.out (.inl rfl))
    clear HRN HR
    go_wp2
    go_ret
    exact ⟨ret_bool HX.out.symm, B1.out⟩
  | true =>
    have HRY := Lib.hid (HR.out rfl)
    replace HRN := Lib.hid (fun h => HRN.out (.inr h))
    clear HR
    go_wp2_with fail
    refine (HD.out _).mono ?_
    rintro e W2 ⟨rfl, hb2⟩
    have T2 := Lib.hid (T1.out.keep hb2)
    have B2 := Lib.hid (below_next B1.out hb2)
    clear a0 a1 a2 a3 a4 b0 b1 b2 b3 b4 hb2
    obtain ⟨a0, a1, a2, a3, a4, b0, b1, b2, b3, b4⟩ := T2.out
    cases v with
    | false =>
      have HX := Lib.hid (HRN.out rfl)
      clear HRY HRN
      go_wp2
      go_ret
      exact ⟨ret_bool HX.out.symm, B2.out⟩
    | true =>
      replace HRY := Lib.hid (HRY.out rfl)
      clear HRN
      go_wp2_with fail
      refine (HU.out _).mono ?_
      rintro e W3 ⟨rfl, hb3⟩
      have T3 := Lib.hid (T2.out.keep hb3)
      have B3 := Lib.hid (below_next B2.out hb3)
      clear a0 a1 a2 a3 a4 b0 b1 b2 b3 b4 hb3
      obtain ⟨a0, a1, a2, a3, a4, b0, b1, b2, b3, b4⟩ := T3.out
      cases r with
      | true =>
        cases x with
        | true =>
          go_wp2
          go_ret
          exact ⟨ret_bool (by rw [HRY.out]; rfl), B3.out⟩
        | false =>
          go_wp2_with fail
          refine (HV.out _).mono ?_
          rintro e W4 ⟨rfl, hb4⟩
          have T4 := Lib.hid (T3.out.keep hb4)
          have B4 := Lib.hid (below_next B3.out hb4)
          clear a0 a1 a2 a3 a4 b0 b1 b2 b3 b4 hb4
          obtain ⟨a0, a1, a2, a3, a4, b0, b1, b2, b3, b4⟩ := T4.out
          cases s with
          | true =>
            go_wp2
            go_ret
            exact ⟨ret_bool (by rw [HRY.out, ← hy]; rfl), B4.out⟩
          | false =>
            go_wp2
            go_ret
            exact ⟨ret_bool (by rw [HRY.out]; rfl), B4.out⟩
      | false =>
        go_wp2_with fail
        refine (HV.out _).mono ?_
        rintro e W4 ⟨rfl, hb4⟩
        have T4 := Lib.hid (T3.out.keep hb4)
        have B4 := Lib.hid (below_next B3.out hb4)
        clear a0 a1 a2 a3 a4 b0 b1 b2 b3 b4 hb4
        obtain ⟨a0, a1, a2, a3, a4, b0, b1, b2, b3, b4⟩ := T4.out
        cases s with
        | true =>
          go_wp2
          go_ret
          exact ⟨ret_bool (by rw [HRY.out, ← hy]; rfl), B4.out⟩
        | false =>
          go_wp2
          go_ret
          exact ⟨ret_bool (by rw [HRY.out]; rfl), B4.out⟩

/-! ### each path once -/
theorem keyLawO : Maps.Keyed Tryd.prog 9 := Maps.string_keyed Tryd.underlying9
theorem keyOf_pathO {p : ByteArray} (h : p.size ≤ maxLen) : keyOf Tryd.prog 9 (.string p) = some (keyL p) := WideMaps.keyOf_string_mk Tryd.underlying9 h
def setP (cs : List Cmd) (n : Nat) : DataW Unit := Maps.setOf (.lit (.bool true)) (pathKeys cs n)
theorem setP_next {cs : List Cmd} {n : Nat} {c : Cmd} (h : cs[n]? = some c) : setP cs (n + 1) = (setP cs n).put (keyL c.p) (.lit (.bool true)) := by
  unfold setP
  rw [pathKeys_next h, Maps.setOf_snoc]

/-- 'paths[path] = true'. -/
theorem wpList_store_path (w : World) {ops : Array Oper} {rest : List Oper} {o : Oper} {a : Act} {Q : Exit → Act → World → Prop} (hg : o.guard = none) (m x v : Operand) (hop : o.op = Op.mapUpdate 57 m x v) (b n : Nat) (D : DataW Unit)
    (hm : a.eval m = .map (some b)) (hown : w.ownsMap Tryd.prog 9 (plainElem (H := Unit) Tryd.prog 4) b n D) (hn : n < maxLen) (p : ByteArray) (hx : a.eval x = .string p) (hp : p.size ≤ maxLen) (hv : a.eval v = .bool true)
    (hK : ∀ w', w'.ownsMap Tryd.prog 9 (plainElem (H := Unit) Tryd.prog 4) b (n + 1) (D.put (keyL p) (.lit (.bool true))) → w.grownBy w' (some b) → wpList Tryd.prog ops Q rest (a.put o.dst undef) w') :
    wpList Tryd.prog ops Q (o :: rest) a w :=
  wpList_mapUpdate_own w hg m x v _ hop _ _ keyLawO Tryd.underlying57 (plainElem (H := Unit) Tryd.prog 4) b n D hm hown hn _ _ _ hx hv (keyOf_pathO hp) _ _ (plainElem_bool Tryd.underlying4 true) hK

def OnceRel (cs : List Cmd) (W : World) (B : Nat) (i : Value) (wr : World) : Prop :=
  ∃ n : Nat, i = .int .i64 n ∧ n ≤ cs.length ∧ Hid (wr.ownsMap Tryd.prog 9 (plainElem (H := Unit) Tryd.prog 4) B n (setP cs n)) ∧ Hid (Below W.heap.size W wr)

theorem once_below {W wr w1 : World} {B : Nat} {o : Obj} (hB : Below W.heap.size W wr) (hlt : W.heap.size ≤ B) (hg : (wr.alloc o).grownBy w1 (some B)) : Below W.heap.size W w1 :=
  (hB.alloc hB.size o).grown hg (by have := hB.size; rw [World.size_alloc]; omega) (fun k e => by cases e; exact hlt)

theorem once_prog (cs : List Cmd) : onceV cs = (validL cs && (decide ((Maps.size (setP cs cs.length) : Int) = cs.length))) := by
  unfold onceV setP
  rw [Bool.and_comm]
  congr 1
  have := paths_size (H := Unit) (.lit (.bool true)) cs
  exact decide_eq_decide.2 (by rw [← this]; omega)

set_option maxHeartbeats 2000000 in
set_option maxRecDepth 100000 in
theorem pathsOnce_c (a : Option Addr) (len cap : Nat) (cs : List Cmd) (hl : len ≤ 2097152) (hs : ShortC 2097152 cs) (W : World) (hN : CmdsAt W a len cs) :
    Calls Tryd.prog 11 #[.slice a len cap] W (BoolPost (onceV cs) W) := by
  obtain ⟨u, hu⟩ : ∃ u, validL cs = u := ⟨_, rfl⟩
  have HV := Lib.hid (show Calls Tryd.prog 25 #[.slice a len cap] W (BoolPost u W) by rw [← hu]; exact implLogValid_c a len cap cs hl hs W hN)
  have HN := Lib.hid hN
  have HE := Lib.hid hN.1
  have HS := Lib.hid hs
  have hl' : (len : Int) ≤ 2097152 := by omega
  have HR := Lib.hid (once_prog cs)
  rw [hu] at HR
  have HSZ := Lib.hid (paths_size_le (H := Unit) (.lit (.bool true)) cs cs.length)
  have hmm := @run_makeMap Tryd.prog
  clear hN hs hu
  go_enter Tryd.func11, Tryd.ntmps11
  go_wp2_with fail
  refine HV.out.mono ?_
  rintro e W1 ⟨rfl, hb1⟩
  have B1 := Lib.hid hb1
  clear hb1
  cases u with
  | false =>
    go_wp2
    go_ret
    exact ⟨ret_bool (by rw [HR.out]; rfl), B1.out⟩
  | true =>
    go_wp2
    clear hmm
    go_loopw [12] (fun i wr => OnceRel cs W W1.heap.size i wr) (fun i _ => len - (intOf i).toNat)
    case atStart => exact ⟨0, rfl, Nat.zero_le _, World.ownsMap_made _ _ _ _, below_next B1.out (below_box _ _)⟩
    case round =>
      obtain ⟨n, rfl, hn, HM, HB⟩ := hrel
      by_cases hlt : n < len
      · have hlt' : (n : Int) < len := by omega
        have hw1 : IntKind.i64.wrap ((n : Int) + 1) = (n : Int) + 1 := IntWalk.i64_in _ (by omega)
        obtain ⟨b, off, c, rfl, hc, d0, d1, d2, d3, d4⟩ := (HN.out.keep HB.out).node hlt
        have HX := Lib.hid (setP_next hc)
        have HLT := Lib.hid (show n < len ∧ n + 1 ≤ cs.length by have := HE.out; omega)
        have HPS := Lib.hid (show c.p.size ≤ maxLen from Nat.le_trans (HS.out.at hc) (by unfold maxLen; omega))
        obtain ⟨p, fk, fv, tk, tv⟩ := c
        simp only at d0 d1 d2 d3 d4
        have hn7 : n < maxLen := by unfold maxLen; omega
        clear hc hlt hn
        go_wp2_with (at_mapUpdate; refine wpList_store_path _ rfl _ _ _ rfl _ n _ rfl (HM.out.alloc _) hn7 p rfl HPS.out rfl ?_; intro w1 hown1 hgrow1)
        go_roundw
        case rel => exact ⟨n + 1, by go_num, HLT.out.2, by have := HX.out; simp only at this; rw [this]; exact hown1, once_below HB.out B1.out.size hgrow1⟩
        case measure => have := HLT.out; simp [intOf]; omega
      · have hge : (len : Int) ≤ n := by omega
        have hnl : n = cs.length := by have := HE.out; omega
        subst hnl
        clear hn hlt
        have hlen := fun ty => HM.out.len Tryd.underlying57 ty
        obtain ⟨sz, hsz⟩ : ∃ sz, Maps.size (setP cs cs.length) = sz := ⟨_, rfl⟩
        rw [hsz] at HR hlen
        have HX := Lib.hid (show onceV cs = ((sz : Int) == len) by rw [HR.out, HE.out, Bool.true_and]; rfl)
        clear HR hsz
        go_wp2
        go_ret
        exact ⟨ret_bool HX.out.symm, HB.out⟩

/-! ### what must precede each command -/
def rowN (n : Nat) (f : Nat → Nat) : List Value := (List.range n).map (fun j => Value.int .u32 (f j))
theorem rowN_length (n : Nat) (f : Nat → Nat) : (rowN n f).length = n := by simp [rowN]
theorem rowN_get {n j : Nat} (f : Nat → Nat) (h : j < n) : (rowN n f)[j]? = some (.int .u32 (f j)) := by
  unfold rowN
  rw [List.getElem?_map, List.getElem?_range h]
  rfl
theorem rowN_set (n : Nat) (f : Nat → Nat) {k v : Nat} (hk : k < n) : (rowN n f).set k (.int .u32 v) = rowN n (fun j => if j = k then v else f j) := by
  refine List.ext_getElem? (fun j => ?_)
  by_cases h : j < n
  · rw [List.getElem?_set, rowN_length, rowN_get _ h]
    by_cases e : k = j
    · subst e; rw [if_pos rfl, if_pos hk, rowN_get _ hk, if_pos rfl]
    · rw [if_neg e, rowN_get _ h, if_neg (fun x => e x.symm)]
  · rw [List.getElem?_eq_none (by rw [List.length_set, rowN_length]; omega), List.getElem?_eq_none (by rw [rowN_length]; omega)]
theorem rowN_zero (n : Nat) : List.replicate n (Value.int .u32 0) = rowN n (fun _ => 0) := by
  refine List.ext_getElem? (fun j => ?_)
  by_cases h : j < n
  · rw [List.getElem?_replicate, if_pos h, rowN_get _ h]; rfl
  · rw [List.getElem?_eq_none (by simp; omega), List.getElem?_eq_none (by rw [rowN_length]; omega)]
theorem rowN_congr {n : Nat} {f g : Nat → Nat} (h : ∀ j, j < n → f j = g j) : rowN n f = rowN n g := by
  unfold rowN
  refine List.map_congr_left (fun j hj => ?_)
  rw [h j (List.mem_range.1 hj)]

theorem infoSet : (Tryd.prog.info? 37).map (fun i => (i.zero, i.size, i.bytes)) = some (some (.int .u32 0), 1, 4) := by kernel_rfl

/-- The numbers while k commands are done and i others have been held against the next one. -/
def needAt (cs : List Cmd) (k i : Nat) (j : Nat) : Nat := if j < k then needTo cs j cs.length else if j = k then needTo cs k i else 0
theorem need_start (cs : List Cmd) : rowN cs.length (needAt cs 0 0) = List.replicate cs.length (Value.int .u32 0) := by
  rw [rowN_zero]
  refine rowN_congr (fun j _ => ?_)
  unfold needAt
  rw [if_neg (by omega)]
  split <;> rfl
theorem need_end (cs : List Cmd) (k : Nat) (hk : k < cs.length) : rowN cs.length (needAt cs k cs.length) = rowN cs.length (needAt cs (k + 1) 0) := by
  refine rowN_congr (fun j _ => ?_)
  unfold needAt
  by_cases h1 : j < k
  · rw [if_pos h1, if_pos (by omega)]
  · rw [if_neg h1]
    by_cases h2 : j = k
    · subst h2; rw [if_pos rfl, if_pos (by omega)]
    · rw [if_neg h2, if_neg (by omega)]
      split <;> rfl
theorem need_all (cs : List Cmd) : rowN cs.length (needAt cs cs.length 0) = rowN cs.length (fun j => needTo cs j cs.length) := by
  refine rowN_congr (fun j hj => ?_)
  unfold needAt
  rw [if_pos hj]
theorem need_yes (cs : List Cmd) (k i : Nat) (hk : k < cs.length) (h : mustP (atK cs i) (atK cs k) = true) : (rowN cs.length (needAt cs k i)).set k (.int .u32 ((needTo cs k i ||| 2 ^ i : Nat) : Int)) = rowN cs.length (needAt cs k (i + 1)) := by
  rw [rowN_set _ _ hk]
  refine rowN_congr (fun j _ => ?_)
  unfold needAt
  by_cases e : j = k
  · subst e
    rw [if_pos rfl, if_neg (by omega), if_pos rfl, needTo, if_pos h]
  · rw [if_neg e, if_neg e, if_neg e]
theorem need_no (cs : List Cmd) (k i : Nat) (h : mustP (atK cs i) (atK cs k) = false) : rowN cs.length (needAt cs k i) = rowN cs.length (needAt cs k (i + 1)) := by
  refine rowN_congr (fun j _ => ?_)
  unfold needAt
  by_cases e : j = k
  · subst e
    simp [needTo, h]
  · rw [if_neg e, if_neg e]

/-- The numbers of neededBy: a row of the call's own. -/
def NeedPost (cs : List Cmd) (W : World) (e : Ending) (w' : World) : Prop :=
  ∃ g cap, e = .returned (.slice (some ⟨g, 0, none⟩) cs.length cap) ∧ w'.ownsRow W.heap.size 37 1 (.slice (some ⟨g, 0, none⟩) cs.length cap) cs.length (rowN cs.length (fun j => needTo cs j cs.length)) ∧ Below W.heap.size W w'

def NeedRel (cs : List Cmd) (W : World) (len : Nat) (i : Value) (wr : World) : Prop :=
  ∃ k : Nat, i = .int .i64 k ∧ k ≤ cs.length ∧ Hid (wr.ownsRow W.heap.size 37 1 (.slice (some ⟨W.heap.size, 0, none⟩) len len) len (rowN len (needAt cs k 0))) ∧ Hid (Below W.heap.size W wr)
def NeedIn (cs : List Cmd) (W : World) (len k m : Nat) (d : Cmd) (i : Value) (wr : World) : Prop :=
  ∃ j : Nat, i = .int .i64 j ∧ j ≤ cs.length ∧ Hid (wr.ownsRow W.heap.size 37 1 (.slice (some ⟨W.heap.size, 0, none⟩) len len) len (rowN len (needAt cs k j))) ∧ Hid (Below W.heap.size W wr) ∧ Hid (Five wr m (.string d.p) (.int .i64 d.fk) (.int .i64 d.fv) (.int .i64 d.tk) (.int .i64 d.tv))

theorem made_set (z : Value) (n : Nat) : (madeCells #[z] n).toList = List.replicate n z := by
  refine List.ext_getElem? (fun i => ?_)
  by_cases h : i < n
  · rw [List.getElem?_replicate, if_pos h]
    simp [madeCells, h, Nat.mod_one]
  · rw [List.getElem?_eq_none (by simp [madeCells]; omega), List.getElem?_eq_none (by simp; omega)]

theorem below_noneT {W w : World} (h : W.grownBy w none) : Below W.heap.size W w := ⟨h.os, h.tape, h.output, h.size, fun k hk => h.block k hk (by simp)⟩
theorem get_atT {cs : List Cmd} {k : Nat} {c : Cmd} (h : cs[k]? = some c) : atK cs k = c := by
  have hk := (List.getElem?_eq_some_iff.1 h).1
  rw [atK_get hk] at h
  exact Option.some.inj h
theorem need_lt32 (cs : List Cmd) (k : Nat) {i : Nat} (h : i ≤ 20) : needTo cs k i < 4294967296 := by
  have h1 := needTo_lt cs k i
  have h2 := pow_lt32 h
  omega

set_option maxHeartbeats 4000000 in
set_option maxRecDepth 100000 in
theorem neededBy_c (a : Option Addr) (len cap : Nat) (cs : List Cmd) (hl : len ≤ 20) (hs : ShortC 2097152 cs) (W : World) (hN : CmdsAt W a len cs) :
    Calls Tryd.prog 12 #[.slice a len cap] W (NeedPost cs W) := by
  obtain ⟨i0, hi, hz0, hz1, hz2⟩ := info_parts infoSet
  have HMU := Lib.hid (fun c d (h1 : c.p.size ≤ 2097152) (h2 : d.p.size ≤ 2097152) w => implMustPrecede_c c d h1 h2 w)
  have HN := Lib.hid hN
  have HE := Lib.hid hN.1
  have HS := Lib.hid hs
  have HL := Lib.hid hl
  have hl' : (len : Int) ≤ 20 := by omega
  clear hN hs
  go_enter Tryd.func12, Tryd.ntmps12
  go_wp2_with (refine wpList_make_full _ rfl _ _ 38 rfl W.heap.size 37 i0 (.int .u32 0) 1 Tryd.underlying38 hi hz0 hz1 .i64 .i64 _ _ len rfl rfl rfl rfl (by rw [hz2]; omega) (by unfold maxLen; omega) (Nat.le_refl _) ?_; intro w1 hown1 hg1)
  have HB1 := Lib.hid (below_noneT hg1)
  have HO1 : Hid (w1.ownsRow W.heap.size 37 1 (.slice (some ⟨W.heap.size, 0, none⟩) len len) len (rowN len (needAt cs 0 0))) := by
    rw [Nat.mul_one, show (madeCells (Value.int .u32 0).cells len).toList = rowN len (needAt cs 0 0) from (made_set _ _).trans (by rw [← HE.out]; exact (need_start cs).symm)] at hown1
    exact hown1
  clear hown1 hg1
  go_loopw [13] (fun i wr => NeedRel cs W len i wr) (fun i _ => len - (intOf i).toNat)
  case atStart => exact ⟨0, rfl, Nat.zero_le _, HO1, HB1⟩
  case round =>
    obtain ⟨k, rfl, hk, HO, HB⟩ := hrel
    obtain ⟨wr0, rfl⟩ : ∃ X, X = wr := ⟨_, rfl⟩
    by_cases hlt : k < len
    · have hlt' : (k : Int) < len := by omega
      have hw1 : IntKind.i64.wrap ((k : Int) + 1) = (k : Int) + 1 := IntWalk.i64_in _ (by omega)
      have HLT := Lib.hid (show k < len ∧ k < cs.length by have := HE.out; omega)
      obtain ⟨b, off, d, rfl, hd, d0, d1, d2, d3, d4⟩ := (HN.out.keep HB.out).node (i := k) HLT.out.1
      have HD := Lib.hid (get_atT hd)
      have HDS := Lib.hid (HS.out.at hd)
      obtain ⟨q, gk, gv, uk, uv⟩ := d
      simp only at d0 d1 d2 d3 d4 HDS
      have F5 := Lib.hid (five_new wr0 (.string q) (.int .i64 gk) (.int .i64 gv) (.int .i64 uk) (.int .i64 uv) 31)
      have O5 := Lib.hid (HO.out.alloc (.cells #[.string q, .int .i64 gk, .int .i64 gv, .int .i64 uk, .int .i64 uv] 31))
      have B5 := Lib.hid (below_next HB.out (below_box wr0 (.cells #[.string q, .int .i64 gk, .int .i64 gv, .int .i64 uk, .int .i64 uv] 31)))
      have HNE := Lib.hid (show wr0.heap.size ≠ W.heap.size by have : W.heap.size < wr0.heap.size := (HO.out.lt _ rfl).2; omega)
      clear hk hlt hd
      go_wp2_with fail
      obtain ⟨WB, hWB⟩ : ∃ X, X = wr0.alloc (.cells #[.string q, .int .i64 gk, .int .i64 gv, .int .i64 uk, .int .i64 uv] 31) := ⟨_, rfl⟩
      rw [← hWB] at F5 O5 B5 ⊢
      clear hWB d0 d1 d2 d3 d4
      go_loopw [20] (fun i w2 => NeedIn cs W len k wr0.heap.size ⟨q, gk, gv, uk, uv⟩ i w2) (fun i _ => len - (intOf i).toNat)
      case atStart => exact ⟨0, rfl, Nat.zero_le _, O5, B5, F5⟩
      case round =>
        obtain ⟨j, rfl, hj, HOI, HBI, HFI⟩ := hrel
        by_cases hjt : j < len
        · have hjt' : (j : Int) < len := by omega
          have hj1 : IntKind.i64.wrap ((j : Int) + 1) = (j : Int) + 1 := IntWalk.i64_in _ (by omega)
          have HJT := Lib.hid (show j < len ∧ j < cs.length by have := HE.out; omega)
          obtain ⟨bb, off2, c, hbb, hc, c0, c1, c2, c3, c4⟩ := (HN.out.keep HBI.out).node (i := j) HJT.out.1
          cases hbb
          have HC := Lib.hid (get_atT hc)
          have HCS := HS.out.at hc
          obtain ⟨mm, hmm⟩ : ∃ mm, mustP c ⟨q, gk, gv, uk, uv⟩ = mm := ⟨_, rfl⟩
          have HM := Lib.hid (fun w => show Calls Tryd.prog 26 #[cmdV c, cmdV ⟨q, gk, gv, uk, uv⟩] w (BoolPost mm w) by rw [← hmm]; exact HMU.out c ⟨q, gk, gv, uk, uv⟩ HCS HDS.out w)
          have HMM := Lib.hid (show mustP (atK cs j) (atK cs k) = mm by rw [HC.out, HD.out]; exact hmm)
          obtain ⟨p, fk, fv, tk, tv⟩ := c
          unfold cmdV at HM
          simp only at HM c0 c1 c2 c3 c4
          obtain ⟨f0, f1, f2, f3, f4, -⟩ := HFI.out
          have e0 := fun o => cell_kept (below_box wr o) f0
          have e1 := fun o => cell_kept (below_box wr o) f1
          have e2 := fun o => cell_kept (below_box wr o) f2
          have e3 := fun o => cell_kept (below_box wr o) f3
          have e4 := fun o => cell_kept (below_box wr o) f4
          clear hj hjt hc hmm HCS
          go_wp2_with fail
          refine (HM.out _).mono ?_
          rintro e W7 ⟨rfl, hb7⟩
          have O7 := Lib.hid (own_below (HOI.out.alloc (.cells #[.string p, .int .i64 fk, .int .i64 fv, .int .i64 tk, .int .i64 tv] 31)) hb7)
          have B7 := Lib.hid (below_next (below_next HBI.out (below_box wr (.cells #[.string p, .int .i64 fk, .int .i64 fv, .int .i64 tk, .int .i64 tv] 31))) hb7)
          have F7 := Lib.hid ((HFI.out.alloc (.cells #[.string p, .int .i64 fk, .int .i64 fv, .int .i64 tk, .int .i64 tv] 31)).below hb7)
          clear hb7 c0 c1 c2 c3 c4 e0 e1 e2 e3 e4 f0 f1 f2 f3 f4
          cases mm with
          | false =>
            have HNX := Lib.hid (need_no cs k j HMM.out)
            rw [HE.out] at HNX
            go_wp2
            go_roundw
            case rel => exact ⟨j + 1, by go_num, HJT.out.2, by have := O7.out; rwa [HNX.out] at this, B7, F7⟩
            case measure => have := HJT.out; simp [intOf]; omega
          | true =>
            have HNX := Lib.hid (need_yes cs k j HLT.out.2 HMM.out)
            rw [HE.out] at HNX
            have HWI := Lib.hid (with_c (needTo cs k j) j (need_lt32 cs k (by have := HL.out; have := HJT.out.1; omega)) (by have := HL.out; have := HJT.out.1; omega) W7)
            have x0 : W7.cell? ⟨W.heap.size, k, none⟩ = some (.int .u32 (needTo cs k j : Nat)) := by
              rw [O7.out.cellAt _ (by have := HLT.out.1; omega), rowN_get _ HLT.out.1]
              simp [needAt]
            have y0 := O7.out.frozenAt k
            have HST := O7.out.stored k (.int .u32 ((needTo cs k j ||| 2 ^ j : Nat) : Int))
            rw [HNX.out] at HST
            have HS8 := Lib.hid HST.1
            clear HST
            go_wp2_with fail
            refine HWI.out.mono ?_
            rintro e W8 ⟨rfl, rfl⟩
            go_wp2
            go_roundw
            case rel => exact ⟨j + 1, by go_num, HJT.out.2, HS8, below_setCell B7.out _ _ (Nat.le_refl _), F7.out.keep (grownBy_setCell_at _ _ _ _) HNE.out⟩
            case measure => have := HJT.out; simp [intOf]; omega
        · have hge : (len : Int) ≤ j := by omega
          have hjl : j = len := by have := HE.out; omega
          subst hjl
          have HNX := Lib.hid (need_end cs k HLT.out.2)
          rw [HE.out] at HNX
          have HO9 := HOI.out
          rw [HNX.out] at HO9
          have HOX := Lib.hid HO9
          clear hj hjt HO9
          go_wp2
          go_roundw
          case rel => exact ⟨k + 1, by go_num, HLT.out.2, HOX, HBI⟩
          case measure => have := HLT.out; simp [intOf]; omega
    · have hge : (len : Int) ≤ k := by omega
      have hkl : k = cs.length := by have := HE.out; omega
      subst hkl
      clear hk hlt
      have HO9 := HO.out
      have h9 := need_all cs
      rw [HE.out] at h9
      rw [HE.out, h9] at HO9
      have HOX := Lib.hid HO9
      clear HO9 h9
      go_wp2
      go_ret
      exact ⟨W.heap.size, len, by rw [HE.out]; rfl, by rw [HE.out]; exact HOX.out, HB.out⟩

/-! ### OrderFits -/
theorem onceV_len {cs : List Cmd} (h : onceV cs = true) : cs.length ≤ 20 := ((validL_iff cs).1 (onceV_iff.1 h).2).2
theorem onceV_valid {cs : List Cmd} (h : onceV cs = true) : ∀ c ∈ cs, validC c = true := ((validL_iff cs).1 (onceV_iff.1 h).2).1

/-- What must precede a command has been done. -/
def doneB (cs : List Cmd) (k : Nat) : Bool := decide (∀ i, i < cs.length → (needTo cs k cs.length).testBit i = true → (2 ^ k - 1).testBit i = true)
theorem doneB_iff (cs : List Cmd) (k : Nat) : doneB cs k = true ↔ ∀ i, (needTo cs k cs.length).testBit i = true → (2 ^ k - 1).testBit i = true := by
  unfold doneB
  rw [decide_eq_true_eq]
  constructor
  · intro h i hi
    refine h i ?_ hi
    rw [needTo_bit, Bool.and_eq_true, decide_eq_true_eq] at hi
    exact hi.1
  · exact fun h i _ => h i
theorem order_not {cs : List Cmd} (h : onceV cs = true) {k : Nat} (hk : k < cs.length) (hd : doneB cs k = false) : orderV cs = false := by
  unfold orderV
  rw [h, Bool.true_and, Bool.eq_false_iff]
  intro hf
  rw [(doneB_iff cs k).2 ((fits_bits (onceV_valid h)).1 hf k hk)] at hd
  cases hd
theorem order_yes {cs : List Cmd} (h : onceV cs = true) (hd : ∀ k, k < cs.length → doneB cs k = true) : orderV cs = true := by
  unfold orderV
  rw [h, Bool.true_and]
  exact (fits_bits (onceV_valid h)).2 (fun k hk => (doneB_iff cs k).1 (hd k hk))

def OrdRel (cs : List Cmd) (W : World) (d i : Value) (wr : World) : Prop :=
  ∃ k : Nat, i = .int .i64 k ∧ d = .int .u32 ((2 ^ k - 1 : Nat) : Int) ∧ k ≤ cs.length ∧ Hid (∀ j, j < k → doneB cs j = true) ∧ wr = W

set_option maxHeartbeats 4000000 in
set_option maxRecDepth 100000 in
theorem implOrderFits_c (a : Option Addr) (len cap : Nat) (cs : List Cmd) (hl : len ≤ 2097152) (hs : ShortC 2097152 cs) (W : World) (hN : CmdsAt W a len cs) :
    Calls Tryd.prog 7 #[.slice a len cap] W (BoolPost (orderV cs) W) := by
  obtain ⟨u, hu⟩ : ∃ u, onceV cs = u := ⟨_, rfl⟩
  have HO := Lib.hid (show Calls Tryd.prog 11 #[.slice a len cap] W (BoolPost u W) by rw [← hu]; exact pathsOnce_c a len cap cs hl hs W hN)
  cases u with
  | false =>
    have HR := Lib.hid (show orderV cs = false by unfold orderV; rw [hu]; rfl)
    clear hu hN hs
    go_enter Tryd.func7, Tryd.ntmps7
    go_wp2_with fail
    refine HO.out.mono ?_
    rintro e W1 ⟨rfl, hb1⟩
    have B1 := Lib.hid hb1
    clear hb1
    go_wp2
    go_ret
    exact ⟨ret_bool HR.out.symm, B1.out⟩
  | true =>
    have HU := Lib.hid hu
    have HL := Lib.hid (onceV_len hu)
    have HE := Lib.hid hN.1
    have hl20 : (cs.length : Int) ≤ 20 := by have := HL.out; omega
    have HNB := Lib.hid (fun W' (hb : Below W.heap.size W W') => neededBy_c a len cap cs (by have := HL.out; have := HE.out; omega) hs W' (hN.keep hb))
    clear hu hN hs
    go_enter Tryd.func7, Tryd.ntmps7
    go_wp2_with fail
    refine HO.out.mono ?_
    rintro e W1 ⟨rfl, hb1⟩
    have B1 := Lib.hid hb1
    clear hb1
    go_wp2_with fail
    refine (HNB.out _ B1.out).mono ?_
    rintro e W2 ⟨g, c2, rfl, ho2, hb2⟩
    have B2 := Lib.hid (below_next B1.out hb2)
    have HO2 := Lib.hid ho2
    clear hb2 ho2
    go_wp2_with fail
    go_loopw [3, 12] (fun d i wr => OrdRel cs W2 d i wr) (fun _ i _ => cs.length - (intOf i).toNat)
    case atStart => exact ⟨0, rfl, rfl, Nat.zero_le _, Lib.hid (fun j h => absurd h (by omega)), rfl⟩
    case round =>
      obtain ⟨k, rfl, rfl, hk, HP, rfl⟩ := hrel
      by_cases hlt : k < cs.length
      · have hlt' : (k : Int) < cs.length := by omega
        have hw1 : IntKind.i64.wrap ((k : Int) + 1) = (k : Int) + 1 := IntWalk.i64_in _ (by omega)
        have HLT := Lib.hid hlt
        obtain ⟨v, hv⟩ : ∃ v, doneB cs k = v := ⟨_, rfl⟩
        have hp20 := pow_lt32 (show k ≤ 20 by have := HL.out; omega)
        have HA := Lib.hid (fun w => hasAll_c (2 ^ k - 1) (needTo cs k cs.length) (by omega) (need_lt32 cs k HL.out) v (by rw [← hv]; exact doneB_iff cs k) w)
        have HW := Lib.hid (fun w => show Calls Tryd.prog 14 #[.int .u32 ((2 ^ k - 1 : Nat) : Int), .int .i64 k] w (fun e W' => e = .returned (.int .u32 ((2 ^ (k + 1) - 1 : Nat) : Int)) ∧ W' = w) by rw [← or_pow k]; exact with_c (2 ^ k - 1) k (by omega) (by have := HL.out; omega) w)
        have HV := Lib.hid hv
        obtain ⟨nn, hnn⟩ : ∃ nn, needTo cs k cs.length = nn := ⟨_, rfl⟩
        obtain ⟨dd, hdd⟩ : ∃ dd, 2 ^ k - 1 = dd := ⟨_, rfl⟩
        have x0 : wr.cell? ⟨g, k, none⟩ = some (.int .u32 (needTo cs k cs.length : Nat)) := by
          rw [HO2.out.cellAt _ (by omega), rowN_get _ hlt]
        rw [hnn] at HA x0
        rw [hdd] at HA HW ⊢
        clear hk hlt hv hp20 hnn hdd
        go_wp2_with fail
        refine (HA.out _).mono ?_
        rintro e W4 ⟨rfl, rfl⟩
        cases v with
        | false =>
          have HR := Lib.hid (order_not HU.out HLT.out HV.out)
          go_wp2
          go_ret
          exact ⟨ret_bool HR.out.symm, B2.out⟩
        | true =>
          go_wp2_with fail
          refine (HW.out _).mono ?_
          rintro e W5 ⟨rfl, rfl⟩
          go_wp2
          go_roundw
          case rel =>
            refine ⟨k + 1, by go_num, rfl, HLT.out, Lib.hid (fun j hj => ?_), rfl⟩
            by_cases h : j < k
            · exact HP.out j h
            · obtain rfl : j = k := by omega
              exact HV.out
          case measure => have := HLT.out; simp [intOf]; omega
      · have hge : (cs.length : Int) ≤ k := by omega
        have HR := Lib.hid (order_yes HU.out (fun j hj => HP.out j (by omega)))
        clear hk hlt
        go_wp2
        go_ret
        exact ⟨ret_bool HR.out.symm, B2.out⟩

/-! ### OrderSwap -/
theorem order_swap_not {cs : List Cmd} {k : Int} (h : orderV cs = false ∨ ¬ (0 ≤ k ∧ k + 2 ≤ cs.length)) : orderSwap cs k = ([], false) := by
  unfold orderSwap
  rw [if_neg]
  rintro ⟨h1, h2⟩
  rcases h with h | h
  · rw [h] at h1; cases h1
  · exact h h2
theorem order_swap_is {cs : List Cmd} {n : Nat} {v : Bool} (h : orderV cs = true) (hn : n + 1 < cs.length) (hv : orderV (swapK cs n (n + 1)) = v) : orderSwap cs n = if v = true then (swapK cs n (n + 1), true) else ([], false) := by
  unfold orderSwap
  rw [if_pos ⟨h, by omega, by omega⟩, Int.toNat_natCast]
  have hp : cs.Perm (swapK cs n (n + 1)) := (swapK_perm (by omega) hn).symm
  have e : fitsB (swapK cs n (n + 1)) = v := by
    rw [← hv]
    unfold orderV
    obtain ⟨h1, h2, _⟩ := orderV_iff.1 h
    rw [onceV_iff.2 ⟨(hp.map Cmd.p).nodup_iff.1 h1, validL_perm hp h2⟩]
    rfl
  rw [e]
theorem below_fiveT {W w : World} {g o : Nat} (c : Cmd) (h : Below W.heap.size W w) (hg : W.heap.size ≤ g) : Below W.heap.size W (set5 w g o c) := h.grown (grown_set5 w g o c) h.size (fun k e => by cases e; exact hg)
theorem own_someT {W : World} {base : Nat} {e : TypeId} {v : Value} {cs : List Cmd} (h : W.ownsRow base e 5 v cs.length (flatC cs)) (h0 : 0 < cs.length) : ∃ g cap, v = .slice (some ⟨g, 0, none⟩) cs.length cap ∧ base ≤ g ∧ cs.length ≤ cap := by
  rcases h.2 with ⟨_, h1⟩ | ⟨g, cap, cur, rfl, h1, h2, h3, h4, _⟩
  · omega
  · exact ⟨g, cap, rfl, h1, h3⟩
theorem move_nil {r : List Cmd × Bool} {W w : World} (h : r = ([], false)) (hB : Below W.heap.size W w) : MovePost r W (.returned (.tuple #[.slice none 0 0, .bool false])) w := move_end h (World.ownsRow_nil _ _ _ _) hB

end Go.Proofs.YtpjoahddbdmbpaaDoor
