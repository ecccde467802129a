/-
  Texts of this proof, one behind the other: Ca, Lv, Eo, Eu, Tc, Eq, Cb, Lu, Il.
-/
import Derived.Test.YtoipbocbgadjbaaCx
import Derived.Test.YtoipbocbgadjbaaQ10
import Derived.Test.YtoipbocbgadjbaaLg
import Derived.Test.YtoipbocbgadjbaaIw
import Derived.Test.YtoipbocbgadjbaaCv
import Derived.Test.YtoipbocbgadjbaaCo
import Derived.Test.YtoipbocbgadjbaaCk
/-
  WALK: spec.CommandApply.
-/
namespace Go.Proofs.Ytoipbocbgadjbaa
open Go.RowKit
set_option linter.unusedVariables false

/-- What CommandApply tells: nodes that the call has made, and whether the command was done. -/
def ApplyPost (r : List Nd × Bool) (base : Nat) (W : World) (e : Ending) (w' : World) : Prop :=
  ∃ sl, e = .returned (.tuple #[sl, .bool r.2]) ∧ w'.ownsRow base 99 3 sl r.1.length (flatN r.1) ∧ Below W.heap.size W w'

theorem apply_none {r : List Nd × Bool} {base : Nat} {W w : World} (hr : r = ([], false)) (hb : base ≤ w.heap.size) (hB : Below W.heap.size W w) :
    ApplyPost r base W (.returned (.tuple #[.slice (some ⟨w.heap.size, 0, none⟩) 0 0, .bool false])) (w.alloc (.cells #[] 99)) := by
  subst hr
  exact ⟨_, rfl, World.ownsRow_lit (e := 99) (size := 3) w #[] 0 hb (by simp [maxLen]) rfl, below_next hB (below_box _ _)⟩

theorem apply_end {r : List Nd × Bool} {out : List Nd} {b : Bool} (hr : r = (out, b)) {base : Nat} {W w' : World} {sl : Value} (ho : w'.ownsRow base 99 3 sl out.length (flatN out)) (hB : Below W.heap.size W w') : ApplyPost r base W (.returned (.tuple #[sl, .bool b])) w' := by
  subst hr
  exact ⟨sl, rfl, ho, hB⟩

set_option maxHeartbeats 2000000 in
set_option maxRecDepth 100000 in
theorem specCmdApply_c (a : Option Addr) (len cap : Nat) (ns : List Nd) (c : Cmd) (hl : len ≤ 2097151) (hs : Short 2097152 ns) (hp : c.p.size ≤ 2097152) (W : World) (hN : NodesAt W a len ns) :
    Calls Try.prog 86 #[.slice a len cap, cmdV c] W (ApplyPost (applyC ns c) W.heap.size W) := by
  obtain ⟨vt, hvt⟩ : ∃ vt, validT ns = vt := ⟨_, rfl⟩
  obtain ⟨vc, hvc⟩ : ∃ vc, validC c = vc := ⟨_, rfl⟩
  have HV := Lib.hid (fun W' (hb : Below W.heap.size W W') => show Calls Try.prog 72 #[.slice a len cap] W' (BoolPost vt W') by rw [← hvt]; exact specTreeValid_c a len cap ns (by omega) hs W' (hN.keep hb))
  have HC := Lib.hid (fun W' => show Calls Try.prog 32 #[cmdV c] W' (BoolPost vc W') by rw [← hvc]; exact specCmdValid_c c hp W')
  have HN := Lib.hid hN
  cases vt with
  | false =>
    have HR := Lib.hid (applyC_bad (c := c) (.inl hvt))
    clear hN hs hvt hvc
    unfold cmdV
    go_enter Try.func86, Try.ntmps86
    go_wp2_with fail
    refine (HV.out _ (below_box _ _)).mono ?_
    rintro e W1 ⟨rfl, hb1⟩
    have B1 := Lib.hid (below_next (below_box W _) hb1)
    clear hb1
    go_wp2
    go_ret2
    exact apply_none HR.out B1.out.size B1.out
  | true =>
    cases vc with
    | false =>
      have HR := Lib.hid (applyC_bad (ns := ns) (.inr hvc))
      clear hN hs hvt hvc
      unfold cmdV at HC ⊢
      obtain ⟨p, fk, fv, tk, tv⟩ := c
      simp only at HC ⊢
      go_enter Try.func86, Try.ntmps86
      go_wp2_with fail
      refine (HV.out _ (below_box _ _)).mono ?_
      rintro e W1 ⟨rfl, hb1⟩
      have q0 := box_cell hb1 0
      have q1 := box_cell hb1 1
      have q2 := box_cell hb1 2
      have q3 := box_cell hb1 3
      have q4 := box_cell hb1 4
      simp at q0 q1 q2 q3 q4
      have B1 := Lib.hid (below_next (below_box W _) hb1)
      clear hb1
      go_wp2_with fail
      refine (HC.out _).mono ?_
      rintro e W2 ⟨rfl, hb2⟩
      have B2 := Lib.hid (below_next B1.out hb2)
      clear hb2 q0 q1 q2 q3 q4
      go_wp2
      go_ret2
      exact apply_none HR.out B2.out.size B2.out
    | true =>
      have HR := Lib.hid (applyC_ok hvt hvc)
      have HG := Lib.hid (fun p W' (h : NodesAt W' a len ns) => l3Get_c a len cap ns p (by omega) W' h)
      have HP := Lib.hid (fun W' (h : NodesAt W' a len ns) => specTreePut_c a len cap ns c.p c.tk c.tv hl hs hp W' h)
      have HLN := Lib.hid (show ns.length ≤ 10 from ((validT_iff ns).1 hvt).2.2)
      clear hN hs hvt hvc
      unfold cmdV at HC ⊢
      obtain ⟨p, fk, fv, tk, tv⟩ := c
      simp only at HC HR HP hp ⊢
      obtain ⟨⟨gk, gv⟩, hg⟩ : ∃ g, getT ns p = g := ⟨_, rfl⟩
      have HGP := Lib.hid (fun W' (h : NodesAt W' a len ns) => show Calls Try.prog 56 #[.slice a len cap, .string p] W' (fun e w' => e = .returned (.agg #[.int .i64 gk, .int .i64 gv]) ∧ Below W'.heap.size W' w') by have := HG.out p W' h; rw [hg] at this; exact this)
      rw [hg] at HR
      obtain ⟨ee, hee⟩ : ∃ ee, (gk == fk && gv == fv) = ee := ⟨_, rfl⟩
      have heq := fun w' => (conEqQ gk gv fk fv w').trans (show _ = Result.ok (Value.bool ee) w' by rw [hee])
      have HEE := Lib.hid hee
      clear hg hee
      go_enter Try.func86, Try.ntmps86
      go_wp2_with fail
      refine (HV.out _ (below_box _ _)).mono ?_
      rintro e W1 ⟨rfl, hb1⟩
      have q0 := box_cell hb1 0
      have q1 := box_cell hb1 1
      have q2 := box_cell hb1 2
      have q3 := box_cell hb1 3
      have q4 := box_cell hb1 4
      simp at q0 q1 q2 q3 q4
      have B1 := Lib.hid (below_next (below_box W _) hb1)
      clear hb1
      go_wp2_with fail
      refine (HC.out _).mono ?_
      rintro e W2 ⟨rfl, hb2⟩
      have HS2 := Lib.hid (keepCmd (W0 := W) ⟨q0, q1, q2, q3, q4, B1.out⟩ hb2)
      have HS0 : Hid (W2.drew.cell? ⟨W.heap.size, 0, none⟩ = some (.string p) ∧ W2.drew.cell? ⟨W.heap.size, 1, none⟩ = some (.int .i64 fk) ∧ W2.drew.cell? ⟨W.heap.size, 2, none⟩ = some (.int .i64 fv) ∧ W2.drew.cell? ⟨W.heap.size, 3, none⟩ = some (.int .i64 tk) ∧ W2.drew.cell? ⟨W.heap.size, 4, none⟩ = some (.int .i64 tv) ∧ Below W.heap.size W W2.drew) :=
        ⟨HS2.out.1, HS2.out.2.1, HS2.out.2.2.1, HS2.out.2.2.2.1, HS2.out.2.2.2.2.1, HS2.out.2.2.2.2.2.drew⟩
      have HGD := Lib.hid (HGP.out W2.drew (HN.out.keep HS0.out.2.2.2.2.2))
      clear hb2 q0 q1 q2 q3 q4
      go_upto_region 3 with (fail)
      go_region_held3 (fun w' => w'.cell? ⟨W.heap.size, 0, none⟩ = some (.string p) ∧ w'.cell? ⟨W.heap.size, 1, none⟩ = some (.int .i64 fk) ∧ w'.cell? ⟨W.heap.size, 2, none⟩ = some (.int .i64 fv) ∧ w'.cell? ⟨W.heap.size, 3, none⟩ = some (.int .i64 tk) ∧ w'.cell? ⟨W.heap.size, 4, none⟩ = some (.int .i64 tv) ∧ Below W.heap.size W w')
        (first | exact HS0.out | exact keepCmd HS0.out hb5)
        (first | (go_at_call 56; (with_reducible refine (HGD.out).mono ?_); rintro e W5 ⟨rfl, hb5⟩))
      rename_i hS
      obtain ⟨s0, s1, s2, s3, s4, hB5⟩ := hS
      have HB5 := Lib.hid hB5
      have HN5 := Lib.hid (HN.out.keep hB5)
      clear heq hB5
      cases ee with
      | false =>
        have hR2 := Lib.hid (show applyC ns ⟨p, fk, fv, tk, tv⟩ = (ns, false) by
          rw [HR.out, if_neg]
          intro e
          have := HEE.out
          simp only [Prod.mk.injEq] at e
          rw [e.1, e.2] at this
          simp at this)
        clear s0 s1 s2 s3 s4
        go_wp2_with (at_builtin; refine wpList_append_nodes rfl _ _ rfl W.heap.size _ [] rfl (World.ownsRow_lit (e := 99) (size := 3) W5 #[] 0 HB5.out.size (by simp [maxLen]) rfl) _ _ _ _ rfl (HN5.out.keep (below_box _ _)) (by have := HLN.out; simp; omega) (by have := HB5.out.size; simp; omega) ?_; intro v9 w9 ho9 hg9)
        refine bodyPost_ret (v := .tuple #[v9, .bool false]) (by simp [results, Try.f86, go_sem]) rfl (apply_end hR2.out (by simpa using ho9) ?_)
        exact (HB5.out.alloc HB5.out.size _).grown hg9 (by have := HB5.out.size; simp; omega) (fun k e => by cases e; exact HB5.out.size)
      | true =>
        have hgt : (gk, gv) = (fk, fv) := by
          have := HEE.out
          rw [Bool.and_eq_true, beq_iff_eq, beq_iff_eq] at this
          rw [this.1, this.2]
        have HR2 := Lib.hid (HR.out.trans (if_pos hgt))
        have HP5 := Lib.hid (HP.out W5 HN5.out)
        clear hgt
        go_wp2_with fail
        refine HP5.out.mono ?_
        rintro e W6 ⟨sl, out, b, rfl, hc, ho, hb6⟩
        have HB6 := Lib.hid (below_next HB5.out hb6)
        have HN6 := Lib.hid (HN5.out.keep hb6)
        have HO6 := Lib.hid (own_mono ho HB5.out.size)
        clear s0 s1 s2 s3 s4 ho hb6
        rcases hc with ⟨rfl, hr⟩ | ⟨rfl, hr, rfl⟩
        · have hR3 := Lib.hid (show applyC ns ⟨p, fk, fv, tk, tv⟩ = (out, true) by rw [HR2.out, hr])
          clear hr
          go_wp2
          refine bodyPost_ret (v := .tuple #[sl, .bool true]) (by simp [results, Try.f86, go_sem]) rfl (apply_end hR3.out HO6.out HB6.out)
        · have hR3 := Lib.hid (show applyC ns ⟨p, fk, fv, tk, tv⟩ = (ns, false) by rw [HR2.out, hr])
          clear hr
          go_wp2_with (at_builtin; refine wpList_append_nodes rfl _ _ rfl W.heap.size _ [] rfl (World.ownsRow_lit (e := 99) (size := 3) W6 #[] 0 HB6.out.size (by simp [maxLen]) rfl) _ _ _ _ rfl (HN6.out.keep (below_box _ _)) (by have := HLN.out; simp; omega) (by have := HB6.out.size; simp; omega) ?_; intro v9 w9 ho9 hg9)
          refine bodyPost_ret (v := .tuple #[v9, .bool false]) (by simp [results, Try.f86, go_sem]) rfl (apply_end hR3.out (by simpa using ho9) ?_)
          exact (HB6.out.alloc HB6.out.size _).grown hg9 (by have := HB6.out.size; simp; omega) (fun k e => by cases e; exact HB6.out.size)

end Go.Proofs.Ytoipbocbgadjbaa

/-
  WALKS: logs of the model: spec.LogValid, LogApply, LogFits, LogUndo.
-/
namespace Go.Proofs.Ytoipbocbgadjbaa
open Go.RowKit
set_option linter.unusedVariables false

def ValidRel (cs : List Cmd) (len : Nat) (W : World) (i : Value) (wr : World) : Prop :=
  ∃ n : Nat, i = .int .i64 n ∧ n ≤ len ∧ Hid (∀ (j : Nat) (c : Cmd), j < n → cs[j]? = some c → validC c = true) ∧ Hid (Below W.heap.size W wr)

set_option maxHeartbeats 2000000 in
set_option maxRecDepth 100000 in
theorem specLogValid_c (a : Option Addr) (len cap : Nat) (cs : List Cmd) (hl : len ≤ 2097152) (hs : ShortC 2097152 cs) (W : World) (hN : CmdsAt W a len cs) :
    Calls Try.prog 45 #[.slice a len cap] W (BoolPost (validL cs) W) := by
  have HN := Lib.hid hN
  have HE := Lib.hid hN.1
  have HS := Lib.hid hs
  clear hN hs
  go_enter Try.func45, Try.ntmps45
  go_wp2
  go_loopw [3] (fun i wr => ValidRel cs len W i wr) (fun i _ => len - (intOf i).toNat)
  case atStart => exact ⟨0, rfl, by omega, Lib.hid (fun j c h _ => absurd h (by omega)), Below.refl _ _⟩
  case round =>
    obtain ⟨i, rfl, hi, HP, HB⟩ := hrel
    by_cases hlt : i < len
    · obtain ⟨b, off, c, rfl, hn, c0, c1, c2, c3, c4⟩ := (HN.out.keep HB.out).node hlt
      have hlt' : (i : Int) < len := by omega
      have HLT := Lib.hid hlt
      obtain ⟨vc, hvc⟩ : ∃ vc, validC c = vc := ⟨_, rfl⟩
      have HC := Lib.hid (fun W' => show Calls Try.prog 32 #[cmdV c] W' (BoolPost vc W') by rw [← hvc]; exact specCmdValid_c c (HS.out.at hn) W')
      have HV := Lib.hid hvc
      have HNN := Lib.hid hn
      obtain ⟨p, fk, fv, tk, tv⟩ := c
      unfold cmdV at HC
      simp only at c0 c1 c2 c3 c4 HC
      clear hi hlt hn hvc
      go_wp2_with fail
      refine (HC.out _).mono ?_
      rintro e W2 ⟨rfl, hb2⟩
      have HB2 := Lib.hid (below_next HB.out hb2)
      clear c0 c1 c2 c3 c4 hb2
      cases vc with
      | false =>
        go_wp2
        go_ret
        exact ⟨ret_bool (validL_one HNN.out HV.out).symm, HB2.out⟩
      | true =>
        go_wp2
        go_roundw
        case rel =>
          refine ⟨i + 1, by go_num, by have := HLT.out; omega, Lib.hid (fun j c hj hc => ?_), HB2⟩
          by_cases hji : j < i
          · exact HP.out j c hji hc
          · have : j = i := by omega
            subst this
            rw [HNN.out] at hc
            obtain rfl := Option.some.inj hc
            exact HV.out
        case measure => have := HLT.out; simp [intOf]; omega
    · have hge : (len : Int) ≤ i := by omega
      have HR := Lib.hid (validL_short (cs := cs) (fun j c hc => HP.out j c (by have h1 := (List.getElem?_eq_some_iff.1 hc).1; have h2 := HE.out; omega) hc))
      have HQ := Lib.hid (show decide (cs.length ≤ 20) = decide ((len : Int) ≤ 20) by rw [HE.out]; exact decide_eq_decide.2 (by omega))
      clear hi hlt
      go_wp2
      go_ret
      exact ⟨ret_bool (HR.out.trans HQ.out).symm, HB.out⟩

/-- What LogApply tells. -/
def LogPost (r : List Nd × Int) (W : World) (e : Ending) (w' : World) : Prop :=
  ∃ sl, e = .returned (.tuple #[sl, .int .i64 r.2]) ∧ w'.ownsRow W.heap.size 99 3 sl r.1.length (flatN r.1) ∧ Below W.heap.size W w'

theorem log_end {r : List Nd × Int} {W w' : World} {sl : Value} {out : List Nd} {n : Int} (h : r = (out, n)) (ho : w'.ownsRow W.heap.size 99 3 sl out.length (flatN out)) (hB : Below W.heap.size W w') : LogPost r W (.returned (.tuple #[sl, .int .i64 n])) w' := by
  subst h
  exact ⟨sl, rfl, ho, hB⟩

def ApplyRel (ns : List Nd) (cs : List Cmd) (len : Nat) (W : World) (o i : Value) (wr : World) : Prop :=
  ∃ (n : Nat) (acc : List Nd), i = .int .i64 n ∧ n ≤ len ∧ wr.ownsRow W.heap.size 99 3 o acc.length (flatN acc) ∧ Hid (acc.length ≤ 10) ∧ Hid (Short 2097152 acc) ∧ Hid (runL ns (cs.take n) = (acc, n)) ∧ Hid (Below W.heap.size W wr)

theorem apply_short2 {ns out : List Nd} {c : Cmd} {m : Nat} (h : applyC ns c = (out, true)) (hs : Short m ns) (hp : c.p.size ≤ m) : Short m out ∧ out.length ≤ 10 := by
  obtain ⟨_, _, _, h4⟩ := applyC_some h
  obtain ⟨_, _, _, h5, h6⟩ := treePut_some h4
  refine ⟨?_, ((validT_iff out).1 h6).2.2⟩
  rw [h5]
  exact short_put hs hp

end Go.Proofs.Ytoipbocbgadjbaa

/-
  WALKS: impl.entriesOf.
-/
namespace Go.Proofs.Ytoipbocbgadjbaa
open Go.RowKit
set_option linter.unusedVariables false

attribute [local go_sem] Oper.semAt_some

/-- What entriesOf tells. -/
def EntriesPost (cs : List Cmd) (W : World) (e : Ending) (w' : World) : Prop :=
  Below W.heap.size W w' ∧ ((validL cs = false ∧ e = .returned (.tuple #[.pointer none, .bool false])) ∨ (validL cs = true ∧ ∃ a, e = .returned (.tuple #[.pointer a, .bool true]) ∧ EntAt W.heap.size w' a cs))

theorem back_map (cs : List Cmd) : ∀ (j : Nat) (h : j ≤ cs.length), (backEC cs j h).map (fun x => x.n) = (cs.take j).reverse
  | 0, _ => rfl
  | j + 1, h => by
    show cs[j] :: (backEC cs j _).map (fun x => x.n) = _
    rw [back_map cs j, List.take_add_one, List.getElem?_eq_getElem (by omega), Option.toList_some, List.reverse_append]
    rfl

theorem back_all (cs : List Cmd) : ((backEC cs cs.length (Nat.le_refl _)).map (fun x => x.n)).reverse = cs := by
  rw [back_map, List.take_length, List.reverse_reverse]

/-- Between two rounds. -/
def EntI (cs : List Cmd) (X : Nat) (pre : List (EltC cs)) (W : World) : Prop :=
  ∃ p, Boxed W X 93 (.pointer none) ∧ Boxed W (X + 1) 4 (.bool false) ∧ Boxed W (X + 1 + 1) 93 (.pointer p) ∧ EntAt (X + 1 + 1 + 1) W p (pre.map (fun x => x.n)).reverse ∧ (∀ x ∈ pre, validC x.n = true) ∧ X + 1 + 1 + 1 < W.heap.size

def EntX (cs : List Cmd) (X : Nat) (c : Code) (pre : List (EltC cs)) (W : World) : Prop :=
  c = .ret ∧ (∃ x ∈ pre, validC x.n = false) ∧ Boxed W X 93 (.pointer none) ∧ Boxed W (X + 1) 4 (.bool false)

theorem box_own {A B : World} {row : Option Nat} {b : Nat} {t : TypeId} {v : Value} (h : Boxed A b t v) (hg : A.grownBy B row) (hr : ∀ r, row = some r → ∃ o : Obj, A.heap[r]? = some o ∧ o.isCells = false) : Boxed B b t v :=
  h.kept hg fun e => by
    obtain ⟨o, ho, hc⟩ := hr _ e.symm
    rw [show A.heap[b]? = _ from h] at ho; cases ho; cases hc

theorem box_keep {W W' : World} {b : Nat} {t : TypeId} {v : Value} (h : Boxed W b t v) (hb : Below W.heap.size W W') : Boxed W' b t v := (hb.block b h.lt).trans h

theorem EntI.own (cs : List Cmd) (X : Nat) : Own (EntI cs X) := by
  rintro pre A B row ⟨p, h1, h2, h3, h4, h5, h6⟩ hg hr
  exact ⟨p, box_own h1 hg hr, box_own h2 hg hr, box_own h3 hg hr, h4.own hg hr, h5, Nat.lt_of_lt_of_le h6 hg.size⟩

theorem EntX.own (cs : List Cmd) (X : Nat) (c : Code) : Own (EntX cs X c) := by
  rintro pre A B row ⟨h1, h2, h3, h4⟩ hg hr
  exact ⟨h1, h2, box_own h3 hg hr, box_own h4 hg hr⟩

/-- The loop's variable lies in a box of its own. -/
def CmBox {cs : List Cmd} (B0 : Nat) (tm : Nat → EltC cs → Array Value) (x : EltC cs) (a' : Act) (W : World) : Prop :=
  ∃ Bx, B0 ≤ Bx ∧ W.heap[Bx]? = some (.cells #[.string x.n.p, .int .i64 x.n.fk, .int .i64 x.n.fv, .int .i64 x.n.tk, .int .i64 x.n.tv] 26 (0, 0)) ∧ a' = { tmps := tm Bx x, defers := [] }

theorem CmBox.own {cs : List Cmd} (B0 : Nat) (tm : Nat → EltC cs → Array Value) (x : EltC cs) (a' : Act) : Own (fun (_ : Unit) W => CmBox B0 tm x a' W) := by
  rintro _ A B row ⟨Bx, h0, h1, h2⟩ hg hr
  refine ⟨Bx, h0, (hg.block Bx (Array.getElem?_eq_some_iff.1 h1).1 fun e => ?_).trans h1, h2⟩
  obtain ⟨o, ho, hc⟩ := hr _ e.symm
  rw [h1] at ho; cases ho; cases hc

theorem keeps_below {W W' : World} (h : Below W.heap.size W W') : KeepsOthers W W' := KeepsOthers.of_grownBy (below_grown h) (fun _ _ e => by cases e)

theorem ent_stop {cs : List Cmd} {B : Nat} {W W1 W2 : World} {pre : List (EltC cs)} {x : EltC cs} (hv : validC x.n = false) (h1 : Boxed W2 W.heap.size 93 (.pointer none)) (h2 : Boxed W2 (W.heap.size + 1) 4 (.bool false))
    (hb1 : Below W.heap.size W W1) (hb2 : Below W1.heap.size W1 W2) :
    KeepsFrom B W1 ((W2.setCell ⟨W.heap.size, 0, none⟩ (.pointer none)).setCell ⟨W.heap.size + 1, 0, none⟩ (.bool false)) ∧
    (EntX cs W.heap.size .ret (pre ++ [x]) ((W2.setCell ⟨W.heap.size, 0, none⟩ (.pointer none)).setCell ⟨W.heap.size + 1, 0, none⟩ (.bool false)) ∧ Below W.heap.size W ((W2.setCell ⟨W.heap.size, 0, none⟩ (.pointer none)).setCell ⟨W.heap.size + 1, 0, none⟩ (.bool false))) :=
  ⟨(((keeps_below hb2).trans (KeepsOthers.setCell _ _ _)).trans (KeepsOthers.setCell _ _ _)).from _,
    ⟨rfl, ⟨x, by simp, hv⟩, (h1.set _).other (by omega) _, (h2.other (by omega) _).set _⟩, below_setCell (below_setCell (below_next hb1 hb2) _ _ (Nat.le_refl _)) _ _ (Nat.le_succ _)⟩

theorem size_set (W : World) (a : Addr) (v : Value) : (W.setCell a v).heap.size = W.heap.size := by simp [World.setCell]

theorem ent_round {cs : List Cmd} {B : Nat} {W W1 W2 : World} {pre : List (EltC cs)} {x : EltC cs} {p : Option Addr} (hv : validC x.n = true) (h1 : Boxed W1 W.heap.size 93 (.pointer none)) (h2 : Boxed W1 (W.heap.size + 1) 4 (.bool false))
    (h3 : Boxed W1 (W.heap.size + 1 + 1) 93 (.pointer p)) (h4 : EntAt (W.heap.size + 1 + 1 + 1) W1 p (pre.map (fun x => x.n)).reverse) (h5 : ∀ x ∈ pre, validC x.n = true) (hlt : W.heap.size + 1 + 1 + 1 < W1.heap.size)
    (hb1 : Below W.heap.size W W1) (hb2 : Below W1.heap.size W1 W2) :
    KeepsFrom B W1 ((W2.setCell ⟨W.heap.size + 1 + 1, 0, none⟩ (.pointer (some ⟨W2.heap.size, 0, none⟩))).alloc (.cells (entC x.n p) 118)) ∧
    BackKC W.heap.size (W.heap.size + 1 + 1 + 1) W1 ((W2.setCell ⟨W.heap.size + 1 + 1, 0, none⟩ (.pointer (some ⟨W2.heap.size, 0, none⟩))).alloc (.cells (entC x.n p) 118)) ∧
    (EntI cs W.heap.size (pre ++ [x]) ((W2.setCell ⟨W.heap.size + 1 + 1, 0, none⟩ (.pointer (some ⟨W2.heap.size, 0, none⟩))).alloc (.cells (entC x.n p) 118)) ∧ Below W.heap.size W ((W2.setCell ⟨W.heap.size + 1 + 1, 0, none⟩ (.pointer (some ⟨W2.heap.size, 0, none⟩))).alloc (.cells (entC x.n p) 118))) := by
  have hs2 : W1.heap.size ≤ W2.heap.size := hb2.size
  have g1 := box_keep h1 hb2
  have g2 := box_keep h2 hb2
  have g3 := box_keep h3 hb2
  have hbl : Below W.heap.size W1 ((W2.setCell ⟨W.heap.size + 1 + 1, 0, none⟩ (.pointer (some ⟨W2.heap.size, 0, none⟩))).alloc (.cells (entC x.n p) 118)) :=
    (below_setCell (hb2.mono hb1.size) ⟨W.heap.size + 1 + 1, 0, none⟩ (.pointer (some ⟨W2.heap.size, 0, none⟩)) (by show W.heap.size ≤ W.heap.size + 1 + 1; omega)).alloc (by rw [size_set]; have := hb1.size; omega) _
  refine ⟨(((keeps_below hb2).trans (KeepsOthers.setCell _ _ _)).trans (KeepsOthers.alloc _ _)).from _, ⟨hbl, ?_⟩, ⟨some ⟨W2.heap.size, 0, none⟩, (g1.other (by omega) _).alloc _, (g2.other (by omega) _).alloc _, (g3.set _).alloc _, ?_, ?_, by rw [World.size_alloc, size_set]; omega⟩, hb1.trans hbl⟩
  · rw [Below.heap_alloc _ _ _ (by rw [size_set]; omega), Below.heap_setCell _ _ _ _ (by show W.heap.size + 1 + 1 + 1 ≠ W.heap.size + 1 + 1; omega)]
    exact hb2.block _ hlt
  · have := ((h4.keep hb2).set (p := ⟨W.heap.size + 1 + 1, 0, none⟩) (by show W.heap.size + 1 + 1 < _; omega) (.pointer (some ⟨W2.heap.size, 0, none⟩))).push (by rw [size_set]; omega) x.n
    rw [size_set] at this
    simpa using this
  · intro y hy
    rcases List.mem_append.1 hy with hy | hy
    · exact h5 y hy
    · rw [List.mem_singleton.1 hy]; exact hv

set_option maxHeartbeats 1000000 in
set_option maxRecDepth 100000 in
theorem entriesOf_long (a : Option Addr) (len cap : Nat) (cs : List Cmd) (hl : 20 < len) (W : World) (hN : CmdsAt W a len cs) :
    Calls Try.prog 66 #[.slice a len cap] W (EntriesPost cs W) := by
  have hv := Lib.hid (show validL cs = false by
    rw [Bool.eq_false_iff]
    intro h
    have := ((validL_iff cs).1 h).2
    have := hN.1
    omega)
  have hl' : (20 : Int) < len := by omega
  clear hN hl
  go_enter Try.func66, Try.ntmps66
  go_wp2
  refine bodyPost_ret (v := .tuple #[.pointer none, .bool false]) (by simp [results, Try.f66, go_sem]) rfl ⟨?_, .inl ⟨hv.out, rfl⟩⟩
  exact ((Below.refl _ _).alloc (Nat.le_refl _) _).alloc (by simp) _

set_option maxHeartbeats 2000000 in
set_option maxRecDepth 100000 in
theorem entriesOf_in (a : Option Addr) (len cap : Nat) (cs : List Cmd) (hl : len ≤ 20) (hs : ShortC 2097152 cs) (W : World) (hN : CmdsAt W a len cs) :
    CallsIn Fence.wide 6 Try.prog 66 #[.slice a len cap] W (EntriesPost cs W) := by
  have HN := Lib.hid hN
  have HE := Lib.hid hN.1
  have HS := Lib.hid hs
  have HL := Lib.hid hl
  have hl' : (len : Int) ≤ 20 := by omega
  clear hN hs hl
  refine callsIn_of_wp_marks Try.func66 rfl trivial ?_ rfl
  simp only [Try.ntmps66, List.size_toArray, List.length_cons, List.length_nil, Nat.reduceAdd, Nat.reduceSub, Array.replicate_succ, Array.replicate_zero, List.push_toArray, List.append_toArray, List.nil_append, List.cons_append]
  gi_wp2_with (refine ⟨trivial, ?_⟩; gi_at_call 78; refine (backwardC_in _ _ _ _ _).mono ?_; rintro e w' ⟨rfl, rfl⟩)
  have hlow := cmds_lt HN.out
  have hB0 : Below W.heap.size W ((((W.alloc (.cells #[.pointer none] 93)).alloc (.cells #[.bool false] 4)).alloc (.cells #[.pointer none] 93)).alloc (.cells #[.slice a len cap] 36)) :=
    ((((Below.refl _ W).alloc (Nat.le_refl _) _).alloc (by simp) _).alloc (by simp; omega) _).alloc (by simp; omega) _
  have hI0 : EntI cs W.heap.size [] ((((W.alloc (.cells #[.pointer none] 93)).alloc (.cells #[.bool false] 4)).alloc (.cells #[.pointer none] 93)).alloc (.cells #[.slice a len cap] 36)) := by
    have b0 := Boxed.new W 93 (.pointer none)
    have b1 := Boxed.new (W.alloc (.cells #[.pointer none] 93)) 4 (.bool false)
    have b2 := Boxed.new ((W.alloc (.cells #[.pointer none] 93)).alloc (.cells #[.bool false] 4)) 93 (.pointer none)
    simp only [World.size_alloc] at b1 b2
    exact ⟨none, ((b0.alloc _).alloc _).alloc _, (b1.alloc _).alloc _, b2.alloc _, rfl, fun x hx => (by cases hx), by simp⟩
  have hsz : ((((W.alloc (.cells #[.pointer none] 93)).alloc (.cells #[.bool false] 4)).alloc (.cells #[.pointer none] 93)).alloc (.cells #[.slice a len cap] 36)).heap.size = W.heap.size + 1 + 1 + 1 + 1 := by simp
  have hbk : ((((W.alloc (.cells #[.pointer none] 93)).alloc (.cells #[.bool false] 4)).alloc (.cells #[.pointer none] 93)).alloc (.cells #[.slice a len cap] 36)).cell? ⟨W.heap.size + 1 + 1 + 1, 0, none⟩ = some (.slice a len cap) := by
    have := (Boxed.new (((W.alloc (.cells #[.pointer none] 93)).alloc (.cells #[.bool false] 4)).alloc (.cells #[.pointer none] 93)) 36 (.slice a len cap)).cell
    simpa only [World.size_alloc] using this
  generalize ((((W.alloc (.cells #[.pointer none] 93)).alloc (.cells #[.bool false] 4)).alloc (.cells #[.pointer none] 93)).alloc (.cells #[.slice a len cap] 36)) = Wl at hB0 hI0 hsz hbk ⊢
  have HSZ := Lib.hid hsz
  refine wpIn_rangeFunc_ownH rfl (by omega) (gf := 87) (lb := #[.pointer (some ⟨W.heap.size + 1 + 1 + 1, 0, none⟩)]) rfl trivial (enters_of Try.func87 (by kernel_rfl) rfl)
    (backwardC_stops _ (by omega) (W.heap.size + 1 + 1 + 1) W.heap.size a len cap cs (by have := HL.out; omega) hlow Wl hB0.size (by rw [hsz]; omega) hbk (HN.out.keep hB0))
    (fun h k => ⟨h.1.trans k.1, k.2.trans h.2⟩)
    (fun W' l o o' hl _ _ _ => by
      rw [HSZ.out] at hl
      exact ⟨⟨rfl, rfl, rfl, by simp, fun k hk => World.putObj_heap_other (by omega)⟩, World.putObj_heap_other (by omega)⟩)
    (Below.refl _ _) (fun _ => rfl)
    (fun pre W' => EntI cs W.heap.size pre W' ∧ Below W.heap.size W W') (fun c pre W' => EntX cs W.heap.size c pre W' ∧ Below W.heap.size W W')
    (OwnFrom.and (Own.from (EntI.own cs W.heap.size) _) (ownFrom_below (Nat.le_refl _) hB0.size)) (fun c => OwnFrom.and (Own.from (EntX.own cs W.heap.size c) _) (ownFrom_below (Nat.le_refl _) hB0.size))
    ⟨hI0, hB0⟩
    (CmBox Wl.heap.size (fun Bx x => #[.slice a len cap, undef, .pointer (some ⟨W.heap.size, 0, none⟩), .pointer (some ⟨W.heap.size + 1, 0, none⟩), .pointer (some ⟨W.heap.size + 1 + 1, 0, none⟩), undef, .pointer (some ⟨Bx, 0, none⟩), .slice a len cap, .int .i64 len, .bool (decide ((20 : Int) < len)), .slice a len cap, .func (.func 87) #[] #[.pointer (some ⟨W.heap.size + 1 + 1 + 1, 0, none⟩)], .int .i64 x.i, cmdV x.n, undef, undef, undef, undef, undef, undef, undef, undef]))
    (fun x a' => Own.from (CmBox.own _ _ x a') _)
    ?assign ?body ?done ?stop
  case assign =>
    rintro l pre x W1 K ⟨hi1, hb1⟩ hK
    unfold cmdV
    gi_wp2
    obtain ⟨_, _, _, hb3, _, _, hle⟩ := id hi1
    exact hK _ _ ((KeepsOthers.alloc _ _).from _) ⟨(Below.refl _ _).alloc hb1.size _, Below.heap_alloc _ _ _ hle⟩ ⟨(EntI.own cs W.heap.size).alloc _ hi1, hb1.alloc hb1.size _⟩ ⟨W1.heap.size, by rw [HSZ.out]; exact hle, World.alloc_heap_new W1 _, rfl⟩
  case body =>
    rintro l pre x a' W1 hl ⟨r, hr⟩ ⟨hi1, hb1⟩ ⟨Bx, hBx, hbx, rfl⟩ hlt
    obtain ⟨p, g1, g2, g3, g4, g5, g6⟩ := hi1
    obtain ⟨i, c, hat⟩ := x
    obtain ⟨x, hx⟩ : ∃ x : EltC cs, x = ⟨i, c, hat⟩ := ⟨_, rfl⟩
    rw [← hx]
    have HX := Lib.hid (show x.i = i ∧ x.n = c by rw [hx]; exact ⟨rfl, rfl⟩)
    simp only at hbx
    dsimp only
    obtain ⟨vc, hvc⟩ : ∃ vc, validC c = vc := ⟨_, rfl⟩
    have HC := Lib.hid (fun W' => show Calls Try.prog 16 #[cmdV c] W' (BoolPost vc W') by rw [← hvc]; exact implCmdValid_c c (HS.out.at hat) W')
    have HVC := Lib.hid hvc
    have HBX := Lib.hid (And.intro hBx (Array.getElem?_eq_some_iff.1 hbx).1)
    have HG1 := Lib.hid g1
    have HG2 := Lib.hid g2
    have HG3 := Lib.hid g3
    have HG4 := Lib.hid g4
    have HG5 := Lib.hid g5
    have HB1 := Lib.hid hb1
    obtain ⟨hxi, hxn⟩ := HX.out
    simp only [hxi, hxn]
    obtain ⟨q, fk, fv, tk, tv⟩ := c
    have c0 : W1.cell? ⟨Bx, 0, none⟩ = some (.string q) := by simp [World.cell?, hbx]
    have c1 : W1.cell? ⟨Bx, 1, none⟩ = some (.int .i64 fk) := by simp [World.cell?, hbx]
    have c2 : W1.cell? ⟨Bx, 2, none⟩ = some (.int .i64 fv) := by simp [World.cell?, hbx]
    have c3 : W1.cell? ⟨Bx, 3, none⟩ = some (.int .i64 tk) := by simp [World.cell?, hbx]
    have c4 : W1.cell? ⟨Bx, 4, none⟩ = some (.int .i64 tv) := by simp [World.cell?, hbx]
    unfold cmdV at HC ⊢
    simp only at HC ⊢
    clear hx hbx hr g1 g2 g3 g4 g5 g6 hat hvc hb1 hlt hl hBx hbk hB0 hI0 hlow hxi hxn
    cases vc with
    | false =>
      gi_wp2_with (refine ⟨trivial, ?_⟩; gi_at_call 16; refine (CallsIn.inRound l (callsIn_wide.2 (HC.out _))).mono ?_; rintro e W2 ⟨rfl, hb2⟩; have G1 := box_keep HG1.out hb2; have G2 := box_keep HG2.out hb2; have s1 := G1.cell; have y1 := G1.frozen; have s2 := G2.cell; have y2 := G2.frozen; have HB2 := Lib.hid hb2; have HH1 := Lib.hid G1; have HH2 := Lib.hid G2; clear hb2 G1 G2)
      exact ent_stop (x := x) (by rw [HX.out.2]; exact HVC.out) HH1.out HH2.out HB1.out HB2.out
    | true =>
      gi_wp2_with (refine ⟨trivial, ?_⟩; gi_at_call 16; refine (CallsIn.inRound l (callsIn_wide.2 (HC.out _))).mono ?_; rintro e W2 ⟨rfl, hb2⟩; have G3 := box_keep HG3.out hb2; have s3 := G3.cell; have y3 := G3.frozen; have k0 := cell_kept hb2 c0; have k1 := cell_kept hb2 c1; have k2 := cell_kept hb2 c2; have k3 := cell_kept hb2 c3; have k4 := cell_kept hb2 c4; have z3 := G3.lt; have HB2 := Lib.hid hb2; have HH3 := Lib.hid G3; clear hb2 G3)
      have := ent_round (B := Wl.heap.size) (x := x) (by rw [HX.out.2]; exact HVC.out) HG1.out HG2.out HG3.out HG4.out HG5.out (by have h1 := HBX.out.1; have h2 := HBX.out.2; rw [HSZ.out] at h1; omega) HB1.out HB2.out
      rw [HX.out.2] at this
      exact this
  case done =>
    rintro D ys W' hD rfl ⟨⟨p, h1, h2, h3, h4, h5, h6⟩, hb⟩ hK
    have s1 := h1.cell
    have y1 := h1.frozen
    have s2 := h2.cell
    have y2 := h2.frozen
    have s3 := h3.cell
    have HV := Lib.hid (show validL cs = true by
      refine (validL_iff cs).2 ⟨fun c hc => ?_, by have := HE.out; have := HL.out; omega⟩
      have hm : c ∈ ((backEC cs cs.length (Nat.le_refl _)).map (fun x => x.n)).reverse := by rw [back_all]; exact hc
      obtain ⟨x, hx, rfl⟩ := List.mem_map.1 (List.mem_reverse.1 hm)
      exact h5 x hx)
    rw [back_all] at h4
    have H1 := Lib.hid h1
    have H2 := Lib.hid h2
    have H4 := Lib.hid h4
    have HB := Lib.hid hb
    clear h1 h2 h3 h4 h5 h6 hb hbk hB0 hI0 hlow
    gi_wp2
    have hK' := ((KeepsOthers.setCell W' ⟨W.heap.size, 0, none⟩ (.pointer p)).trans (KeepsOthers.setCell _ ⟨W.heap.size + 1, 0, none⟩ (.bool true))).same D _ hK rfl
    refine ⟨by simp, .inl ⟨_, _, rfl, run_takeDeferred hK', ?_⟩⟩
    have hD' : W.heap.size ≤ D := by rw [HSZ.out] at hD; omega
    have hx5 := _root_.Go.cell_kept ((H1.out.set (.pointer p)).other (B' := W.heap.size + 1) (by omega) (.bool true)).cell (grownBy_putObj' _ D (.deferred none)) (fun r e => by cases e; exact ⟨_, hK', rfl⟩)
    have hx6 := _root_.Go.cell_kept ((H2.out.other (B' := W.heap.size) (by omega) (.pointer p)).set (.bool true)).cell (grownBy_putObj' _ D (.deferred none)) (fun r e => by cases e; exact ⟨_, hK', rfl⟩)
    have hen := (((H4.out.set (p := ⟨W.heap.size, 0, none⟩) (by show W.heap.size < _; omega) (.pointer p)).set (p := ⟨W.heap.size + 1, 0, none⟩) (by show W.heap.size + 1 < _; omega) (.bool true)).own (grownBy_putObj' _ D (.deferred none)) (fun r e => by cases e; exact ⟨_, hK', rfl⟩)).low (C := W.heap.size) (by omega)
    refine ⟨.tuple #[.pointer p, .bool true], by simp [results, Try.f66, go_sem, hx5, hx6], ?_, .inr ⟨HV.out, p, rfl, hen⟩⟩
    exact (below_setCell (below_setCell HB.out _ _ (Nat.le_refl _)) _ _ (Nat.le_succ _)).trans ⟨rfl, rfl, rfl, by simp, fun k hk => World.putObj_heap_other (by omega)⟩
  case stop =>
    rintro D c pre W' hD hpre ⟨⟨rfl, ⟨x, hx, hvx⟩, q1, q2⟩, hb⟩ hK
    have HV := Lib.hid (validL_one x.at_ hvx)
    have hD' : W.heap.size ≤ D := by rw [HSZ.out] at hD; omega
    gi_wp2
    refine ⟨by simp, .inl ⟨_, _, rfl, run_takeDeferred hK, ?_⟩⟩
    have hx5 := _root_.Go.cell_kept q1.cell (grownBy_putObj' _ D (.deferred none)) (fun r e => by cases e; exact ⟨_, hK, rfl⟩)
    have hx6 := _root_.Go.cell_kept q2.cell (grownBy_putObj' _ D (.deferred none)) (fun r e => by cases e; exact ⟨_, hK, rfl⟩)
    refine ⟨.tuple #[.pointer none, .bool false], by simp [results, Try.f66, go_sem, hx5, hx6], ?_, .inl ⟨HV.out, rfl⟩⟩
    exact hb.trans ⟨rfl, rfl, rfl, by simp, fun k hk => World.putObj_heap_other (by omega)⟩

/-- impl.entriesOf, at every list. -/
theorem entriesOf_c (a : Option Addr) (len cap : Nat) (cs : List Cmd) (hs : ShortC 2097152 cs) (W : World) (hN : CmdsAt W a len cs) :
    Calls Try.prog 66 #[.slice a len cap] W (EntriesPost cs W) := by
  by_cases hl : len ≤ 20
  · exact callsIn_wide.1 (entriesOf_in a len cap cs hl hs W hN)
  · exact entriesOf_long a len cap cs (by omega) W hN

end Go.Proofs.Ytoipbocbgadjbaa

/-
  WALKS: impl.entry's undone and commands.
-/
namespace Go.Proofs.Ytoipbocbgadjbaa
open Go.RowKit
set_option linter.unusedVariables false

def UndoneRel (B : Nat) (cs : List Cmd) (W : World) (e f : Value) (wr : World) : Prop :=
  ∃ (n : Nat) (x y : Option Addr), e = .pointer x ∧ f = .pointer y ∧ n ≤ cs.length ∧ Hid (EntAt B wr x (cs.drop n)) ∧ Hid (EntAt W.heap.size wr y ((cs.take n).reverse.map undoC)) ∧ Hid (Below W.heap.size W wr)

theorem undone_step {cs : List Cmd} {n : Nat} {c : Cmd} (hc : cs[n]? = some c) : (cs.take (n + 1)).reverse.map undoC = undoC c :: (cs.take n).reverse.map undoC := by
  rw [List.take_add_one, hc]
  simp

def CommandsRel (B : Nat) (cs : List Cmd) (W : World) (e l : Value) (wr : World) : Prop :=
  ∃ (n : Nat) (x : Option Addr), e = .pointer x ∧ n ≤ cs.length ∧ Hid (EntAt B W x (cs.drop n)) ∧ wr.ownsRow W.heap.size 26 5 l (cs.take n).length (flatC (cs.take n)) ∧ Hid (Below W.heap.size W wr)

end Go.Proofs.Ytoipbocbgadjbaa

/-
  WALKS: laws.toContent.
-/
namespace Go.Proofs.Ytoipbocbgadjbaa
open Go.RowKit

set_option maxHeartbeats 400000 in
theorem toContent_c (k v : Int) (w : World) : Calls Try.prog 47 #[con k v] w (ConRet k v w) := by
  unfold con ConRet
  go_enter Try.func47, Try.ntmps47
  go_wp2
  refine bodyPost_ret (v := con k v) ?_ rfl ⟨rfl, ((below_box _ _).alloc (by simp) _).alloc (by simp; omega) _⟩
  simp [results, Try.f47, go_sem]

end Go.Proofs.Ytoipbocbgadjbaa

/-
  WALKS: laws.eqContent at equal contents.
-/
namespace Go.Proofs.Ytoipbocbgadjbaa
open Go.RowKit

set_option maxHeartbeats 400000 in
theorem eqContent_c (k v : Int) (w : World) : Calls Try.prog 48 #[.agg #[.int .i64 k, .int .i64 v], .agg #[.int .i64 k, .int .i64 v]] w (BoolPost true w) := by
  go_enter Try.func48, Try.ntmps48
  go_wp2
  go_ret
  exact ⟨rfl, (below_box _ _).alloc (by simp) _⟩

end Go.Proofs.Ytoipbocbgadjbaa

/-
  WALKS: commands in the exact laws: laws.toCommand, szCommand, eqCommand; spec.CommandUndo.
-/
namespace Go.Proofs.Ytoipbocbgadjbaa
open Go.RowKit
set_option linter.unusedVariables false

/-- What is left; if anything is, the text is of modest length. -/
def SzCmd (c : Cmd) (w : World) (e : Ending) (w' : World) : Prop := ∃ z : Int, e = .returned (.int .i64 z) ∧ -1 ≤ z ∧ z ≤ 1048576 ∧ (0 ≤ z → c.p.size ≤ 1048576) ∧ Below w.heap.size w w'

set_option maxHeartbeats 1000000 in
theorem szCommand_c (c : Cmd) (l : Int) (h0 : 0 ≤ l) (h1 : l ≤ 1048576) (hm : c.p.size ≤ maxLen) (w : World) : Calls Try.prog 20 #[cmdV c, .int .i64 l] w (SzCmd c w) := by
  obtain ⟨p, fk, fv, tk, tv⟩ := c
  unfold cmdV
  have hm' : p.size ≤ 9223372036854775807 := Nat.le_trans (show p.size ≤ maxLen from hm) (by unfold maxLen; omega)
  obtain ⟨z, hz⟩ : ∃ z, l - (p.size : Int) = z := ⟨_, rfl⟩
  have hw : IntKind.i64.wrap (l - (p.size : Int)) = z := (IntWalk.i64_in _ (by omega)).trans hz
  by_cases hneg : z < 0
  · clear h0 h1 hm hm' hz
    go_enter Try.func20, Try.ntmps20
    go_wp2
    go_ret
    exact ⟨-1, rfl, by omega, by omega, fun h => absurd h (by omega), below_box _ _⟩
  · have hpos : 0 ≤ z := by omega
    have HF := Lib.hid (show z ≤ 1048576 ∧ p.size ≤ 1048576 by omega)
    clear h0 h1 hm hm' hz hneg
    go_enter Try.func20, Try.ntmps20
    go_wp2
    go_ret
    exact ⟨z, rfl, by omega, HF.out.1, fun _ => HF.out.2, below_box _ _⟩

set_option maxHeartbeats 1000000 in
theorem eqCommand_c (c : Cmd) (w : World) : Calls Try.prog 26 #[cmdV c, cmdV c] w (BoolPost true w) := by
  obtain ⟨p, fk, fv, tk, tv⟩ := c
  have HE := Lib.hid (fun k v w => eqContent_c k v w)
  unfold cmdV
  go_enter Try.func26, Try.ntmps26
  go_wp2_with fail
  refine (HE.out _ _ _).mono ?_
  rintro e W1 ⟨rfl, hb1⟩
  have hbb := below_next (below_box (w.alloc (.cells #[.string p, .int .i64 fk, .int .i64 fv, .int .i64 tk, .int .i64 tv] 26)) _) hb1
  have q3 := box_cell hbb 3
  have q4 := box_cell hbb 4
  have r3 := box_cell hb1 3
  have r4 := box_cell hb1 4
  simp at q3 q4 r3 r4
  have B1 := Lib.hid (below_next (below_box w _) hbb)
  clear hb1 hbb
  go_wp2_with fail
  refine (HE.out _ _ _).mono ?_
  rintro e W2 ⟨rfl, hb2⟩
  have B2 := Lib.hid (below_next B1.out hb2)
  clear hb2 q3 q4 r3 r4
  go_wp2
  go_ret
  exact ⟨rfl, B2.out⟩

theorem five_at {W : World} {n : Nat} (hn : n = W.heap.size) (a b c d e : Value) (t : TypeId) : Five (W.alloc (.cells #[a, b, c, d, e] t)) n a b c d e := by subst hn; exact five_new W a b c d e t

set_option maxHeartbeats 1000000 in
theorem toCommand_c (c : Cmd) (W : World) : Calls Try.prog 21 #[cmdV c] W (CmdPost c W) := by
  obtain ⟨p, fk, fv, tk, tv⟩ := c
  have HT := Lib.hid (fun k v w => toContent_c k v w)
  have HA := Lib.hid (((five_at (W := W) rfl (.string p) (.int .i64 fk) (.int .i64 fv) (.int .i64 tk) (.int .i64 tv) 43).alloc (.cells #[.string ⟨#[]⟩, .int .i64 0, .int .i64 0, .int .i64 0, .int .i64 0] 26)).alloc (.cells #[.string p, .int .i64 0, .int .i64 0, .int .i64 0, .int .i64 0] 26))
  have HB := Lib.hid ((five_at (W := W.alloc (.cells #[.string p, .int .i64 fk, .int .i64 fv, .int .i64 tk, .int .i64 tv] 43)) (n := W.heap.size + 1) (by simp) (.string ⟨#[]⟩) (.int .i64 0) (.int .i64 0) (.int .i64 0) (.int .i64 0) 26).alloc (.cells #[.string p, .int .i64 0, .int .i64 0, .int .i64 0, .int .i64 0] 26))
  have HC := Lib.hid (five_at (W := (W.alloc (.cells #[.string p, .int .i64 fk, .int .i64 fv, .int .i64 tk, .int .i64 tv] 43)).alloc (.cells #[.string ⟨#[]⟩, .int .i64 0, .int .i64 0, .int .i64 0, .int .i64 0] 26)) (n := W.heap.size + 1 + 1) (by simp) (.string p) (.int .i64 0) (.int .i64 0) (.int .i64 0) (.int .i64 0) 26)
  have HD := Lib.hid (below_next (below_next (below_box W (.cells #[.string p, .int .i64 fk, .int .i64 fv, .int .i64 tk, .int .i64 tv] 43)) (below_box _ (.cells #[.string ⟨#[]⟩, .int .i64 0, .int .i64 0, .int .i64 0, .int .i64 0] 26))) (below_box _ (.cells #[.string p, .int .i64 0, .int .i64 0, .int .i64 0, .int .i64 0] 26)))
  unfold cmdV
  unfold con at HT
  go_enter Try.func21, Try.ntmps21
  go_wp2_with fail
  refine (HT.out _ _ _).mono ?_
  rintro e W1 ⟨rfl, hb1⟩
  have A1 := Lib.hid (HA.out.below hb1)
  have R1 := Lib.hid (HB.out.below hb1)
  have O1 := Lib.hid (HC.out.below hb1)
  have B1 := Lib.hid (below_next HD.out hb1)
  clear HA HB HC HD hb1
  have A2 := Lib.hid ((A1.out.setOther (x := ⟨W.heap.size + 1 + 1, 1, none⟩) (v := .int .i64 fk) (by show W.heap.size + 1 + 1 ≠ _; omega)).setOther (x := ⟨W.heap.size + 1 + 1, 2, none⟩) (v := .int .i64 fv) (by show W.heap.size + 1 + 1 ≠ _; omega))
  have R2 := Lib.hid ((R1.out.setOther (x := ⟨W.heap.size + 1 + 1, 1, none⟩) (v := .int .i64 fk) (by show W.heap.size + 1 + 1 ≠ _; omega)).setOther (x := ⟨W.heap.size + 1 + 1, 2, none⟩) (v := .int .i64 fv) (by show W.heap.size + 1 + 1 ≠ _; omega))
  have O2 := Lib.hid ((O1.out.set1 (x := .int .i64 fk)).set2 (x := .int .i64 fv))
  have B2 := Lib.hid (below_setCell (below_setCell B1.out ⟨W.heap.size + 1 + 1, 1, none⟩ (.int .i64 fk) (by simp; omega)) ⟨W.heap.size + 1 + 1, 2, none⟩ (.int .i64 fv) (by simp; omega))
  obtain ⟨c0, c1, c2, c3, c4, f0, f1, f2, f3, f4, -⟩ := O1.out
  unfold con
  go_upto_region 4 with (fail)
  clear c0 c1 c2 c3 c4 f0 f1 f2 f3 f4 A1 R1 O1 B1
  generalize (W1.setCell ⟨W.heap.size + 1 + 1, 1, none⟩ (.int .i64 fk)).setCell ⟨W.heap.size + 1 + 1, 2, none⟩ (.int .i64 fv) = W2 at A2 R2 O2 B2 ⊢
  obtain ⟨-, -, -, a3, a4, -⟩ := A2.out
  go_wp2_with fail
  refine (HT.out _ _ _).mono ?_
  rintro e W3 ⟨rfl, hb3⟩
  have R3 := Lib.hid (R2.out.below hb3)
  have O3 := Lib.hid (O2.out.below hb3)
  have B3 := Lib.hid (below_next B2.out hb3)
  clear hb3 a3 a4 A2 R2 O2 B2
  have R4 := Lib.hid ((R3.out.setOther (x := ⟨W.heap.size + 1 + 1, 3, none⟩) (v := .int .i64 tk) (by show W.heap.size + 1 + 1 ≠ _; omega)).setOther (x := ⟨W.heap.size + 1 + 1, 4, none⟩) (v := .int .i64 tv) (by show W.heap.size + 1 + 1 ≠ _; omega))
  have O4 := Lib.hid ((O3.out.set3 (x := .int .i64 tk)).set4 (x := .int .i64 tv))
  have B4 := Lib.hid (below_setCell (below_setCell B3.out ⟨W.heap.size + 1 + 1, 3, none⟩ (.int .i64 tk) (by simp; omega)) ⟨W.heap.size + 1 + 1, 4, none⟩ (.int .i64 tv) (by simp; omega))
  obtain ⟨c0, c1, c2, c3, c4, f0, f1, f2, f3, f4, -⟩ := O3.out
  unfold con
  go_upto_region 5 with (fail)
  clear c0 c1 c2 c3 c4 f0 f1 f2 f3 f4 R3 O3 B3
  generalize (W3.setCell ⟨W.heap.size + 1 + 1, 3, none⟩ (.int .i64 tk)).setCell ⟨W.heap.size + 1 + 1, 4, none⟩ (.int .i64 tv) = W4 at R4 O4 B4 ⊢
  obtain ⟨c0, c1, c2, c3, c4, -⟩ := O4.out
  obtain ⟨r0, r1, r2, r3, r4, f0, f1, f2, f3, f4, -⟩ := R4.out
  go_wp2
  exact bodyPost_ret (cmd_results _ rfl _ (W.heap.size + 1) ⟨p, fk, fv, tk, tv⟩ _ rfl R4.out.setAll) rfl ⟨rfl, below_set5 B4.out (Nat.le_succ _)⟩

theorem undo_yes {c : Cmd} {vc : Bool} (h : validC c = vc) : undoC c = if vc = true then ⟨c.p, c.tk, c.tv, c.fk, c.fv⟩ else zeroC := by subst h; rfl

end Go.Proofs.Ytoipbocbgadjbaa

/-
  WALK: spec.LogUndo.
-/
namespace Go.Proofs.Ytoipbocbgadjbaa
open Go.RowKit
set_option linter.unusedVariables false

def UndoRelL (cs : List Cmd) (vl : Bool) (len : Nat) (W : World) (o i : Value) (wr : World) : Prop :=
  ∃ (n : Nat) (z : Int) (acc : List Cmd), i = .int .i64 z ∧ z = (n : Int) - 1 ∧ n ≤ len ∧ wr.ownsRow W.heap.size 26 5 o acc.length (flatC acc) ∧ Hid (acc = (cs.drop n).reverse.map undoC) ∧ Hid (vl = false → n = len) ∧ Hid (Below W.heap.size W wr)

theorem undo_out {cs acc : List Cmd} {vl : Bool} {n len : Nat} (hl : cs.length = len) (hv : validL cs = vl) (ha : acc = (cs.drop n).reverse.map undoC) (hn : vl = false → n = len) (h : vl = false ∨ n = 0) : undoL cs = acc := by
  subst ha
  cases vl with
  | false =>
    rw [undoL_bad hv, hn rfl, ← hl, List.drop_length]
    rfl
  | true =>
    rcases h with h | rfl
    · cases h
    · rw [undoL_ok hv, List.drop_zero]

end Go.Proofs.Ytoipbocbgadjbaa

/-
  WALKS: impl.LogValid, LogUndo, LogApply, LogFits.
-/
namespace Go.Proofs.Ytoipbocbgadjbaa
open Go.RowKit
set_option linter.unusedVariables false

/-- Between two rounds of LogApply. -/
def DoneRel (ns : List Nd) (cs : List Cmd) (W : World) (l k o i : Value) (wr : World) : Prop :=
  ∃ (n : Nat) (acc : List Nd) (x : Option Addr), l = .pointer x ∧ k = .bool true ∧ i = .int .i64 n ∧ n ≤ cs.length ∧ wr.ownsRow W.heap.size 99 3 o acc.length (flatN acc) ∧ Hid (EntAt W.heap.size wr x (cs.drop n)) ∧ Hid (acc.length ≤ 10) ∧ Hid (Short 2097152 acc) ∧ Hid (runL ns (cs.take n) = (acc, n)) ∧ Hid (Below W.heap.size W wr)

set_option maxHeartbeats 1000000 in
set_option maxRecDepth 100000 in
theorem implLogValid_c (a : Option Addr) (len cap : Nat) (cs : List Cmd) (hl : len ≤ 2097152) (hs : ShortC 2097152 cs) (W : World) (hN : CmdsAt W a len cs) :
    Calls Try.prog 43 #[.slice a len cap] W (BoolPost (validL cs) W) := by
  have HEn := Lib.hid (entriesOf_c a len cap cs hs W hN)
  clear hN hs hl
  go_enter Try.func43, Try.ntmps43
  go_wp2_with fail
  refine HEn.out.mono ?_
  rintro e W1 ⟨hb, ⟨hv, rfl⟩ | ⟨hv, x, rfl, -⟩⟩
  · have HB := Lib.hid hb
    have HV := Lib.hid hv
    clear hb hv
    go_wp2
    go_ret
    exact ⟨ret_bool HV.out.symm, HB.out⟩
  · have HB := Lib.hid hb
    have HV := Lib.hid hv
    clear hb hv
    go_wp2
    go_ret
    exact ⟨ret_bool HV.out.symm, HB.out⟩

end Go.Proofs.Ytoipbocbgadjbaa
