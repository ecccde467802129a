/-
  Texts of this proof, one behind the other: Cc, Ca.
-/
import Derived.Lib.AppendZerosOnto
import Derived.Lib.Walk
import Derived.Test.YtohdpbalajjjiaaGreatTl
import Derived.Test.YtohdpbalajjjiaaGreatQ1
/-
  WALKS: slices.Grow and slices.Concat of lists of nodes, empty ones and nil too.
-/
namespace Go.Proofs.YtohdpbalajjjiaaGreat
open Go.RowKit
/-- A list of nodes among the arguments of slices.Concat. -/
structure NRow where
  a : Option Addr
  len : Nat
  cap : Nat
  ns : List Nd

/-- A slice of lists of nodes in memory. -/
def RowsAt (W : World) (g off : Nat) (rows : List NRow) : Prop := ∀ i r, rows[i]? = some r → W.cell? ⟨g, off + i, none⟩ = some (.slice r.a r.len r.cap) ∧ NodesAt W r.a r.len r.ns

theorem RowsAt.keep {W W' : World} {g off : Nat} {rows : List NRow} (h : RowsAt W g off rows) (hb : Below W.heap.size W W') : RowsAt W' g off rows := fun i r hr =>
  ⟨cell_kept hb (h i r hr).1, (h i r hr).2.keep hb⟩

def allN (rows : List NRow) : List Nd := rows.flatMap NRow.ns

theorem allN_next {rows : List NRow} {i : Nat} {r : NRow} (h : rows[i]? = some r) : allN (rows.take (i + 1)) = allN (rows.take i) ++ r.ns := by
  unfold allN
  rw [List.take_add_one, h, List.flatMap_append]
  simp

theorem allN_le (rows : List NRow) (i : Nat) : (allN (rows.take i)).length ≤ (allN rows).length := by
  conv => rhs; rw [← List.take_append_drop i rows]
  unfold allN
  rw [List.flatMap_append, List.length_append]
  omega

theorem flatN_cell1 (ns : List Nd) : ∀ u ∈ flatN ns, u.oneCell' = true := by
  intro u hu
  unfold flatN at hu
  obtain ⟨n, _, hn⟩ := List.mem_flatMap.1 hu
  simp at hn
  rcases hn with rfl | rfl | rfl <;> rfl

theorem addr_addN (b off j : Nat) : ((⟨b, off, none⟩ : Addr).add j) = ⟨b, off + j, none⟩ := by
  unfold Addr.add
  split
  · rename_i h; rw [h]; rfl
  · rfl

theorem flatN_at : ∀ (ns : List Nd) (j : Nat) (u : Value), (flatN ns)[j]? = some u → ∃ i n, ns[i]? = some n ∧ ((j = i * 3 ∧ u = .string n.p) ∨ (j = i * 3 + 1 ∧ u = .int .i64 n.k) ∨ (j = i * 3 + 2 ∧ u = .int .i64 n.v))
  | [], j, u, h => by simp [flatN] at h
  | m :: r, 0, u, h => ⟨0, m, rfl, .inl ⟨rfl, by simpa [flatN] using h.symm⟩⟩
  | m :: r, 1, u, h => ⟨0, m, rfl, .inr (.inl ⟨rfl, by simpa [flatN] using h.symm⟩)⟩
  | m :: r, 2, u, h => ⟨0, m, rfl, .inr (.inr ⟨rfl, by simpa [flatN] using h.symm⟩)⟩
  | m :: r, j + 3, u, h => by
    obtain ⟨i, n, h1, h2⟩ := flatN_at r j u (by simpa [flatN] using h)
    refine ⟨i + 1, n, by simpa using h1, ?_⟩
    rcases h2 with ⟨rfl, e⟩ | ⟨rfl, e⟩ | ⟨rfl, e⟩
    · exact .inl ⟨by omega, e⟩
    · exact .inr (.inl ⟨by omega, e⟩)
    · exact .inr (.inr ⟨by omega, e⟩)

theorem nodes_cells {W : World} {ad : Addr} {len : Nat} {ns : List Nd} (h : NodesAt W (some ad) len ns) : ∀ j u, (flatN ns)[j]? = some u → W.cell? (ad.add j) = some u := by
  intro j u hj
  obtain ⟨i, n, hn, hc⟩ := flatN_at ns j u hj
  obtain ⟨h1, h0 | ⟨b, off, ha, hh⟩⟩ := h
  · have := (List.getElem?_eq_some_iff.1 hn).1; omega
  · cases ha
    rw [addr_addN]
    obtain ⟨c0, c1, c2⟩ := hh i n hn
    rcases hc with ⟨rfl, rfl⟩ | ⟨rfl, rfl⟩ | ⟨rfl, rfl⟩
    · exact c0
    · exact c1
    · exact c2

theorem run_append_owned_nil {W : World} (base : Nat) (ty : TypeId) (i : TypeInfo) (hi : Tryz.prog.info? 125 = some i) (v : Value) (n : Nat) (xs : List Value) (hown : W.ownsRow base 125 3 v n xs) (cap : Nat) :
    (Builtin.append_ #[60, 60] ty #[v, .slice none 0 cap]).run Tryz.prog W = .ok v W := by
  have ht := Tryz.underlying60
  rcases hown.2 with ⟨rfl, rfl⟩ | ⟨g, cap', cur, rfl, _, _, hnc, _⟩
  · simp [Builtin.append_, run_underlying ht, sizeOf, typeInfo, hi, Builtin.lenOf, Builtin.firstCells]
  · simp [Builtin.append_, run_underlying ht, sizeOf, typeInfo, hi, Builtin.lenOf, Builtin.firstCells, hnc, storeCells]

theorem wpList_append_nodes {w : World} {ops : Array Oper} {rest : List Oper} {o : Oper} {a : Act} {Q : Exit → Act → World → Prop} (hgd : o.guard = none) (s x : Operand)
    (ho : o.op = .call { callee := .builtin .append, args := #[s, x], argTypes := #[60, 60] })
    (base : Nat) (v : Value) (acc : List Nd) (hs : a.eval s = v) (hown : w.ownsRow base 125 3 v acc.length (flatN acc))
    (ad : Option Addr) (len cap : Nat) (zs : List Nd) (hx : a.eval x = .slice ad len cap) (hi : NodesAt w ad len zs) (hlen : acc.length + zs.length ≤ 2097152) (hb : base ≤ w.heap.size)
    (h : ∀ v3 w3, w3.ownsRow base 125 3 v3 (acc ++ zs).length (flatN (acc ++ zs)) → w.grownBy w3 v.ownBlock → wpList Tryz.prog ops Q rest (a.put o.dst v3) w3) : wpList Tryz.prog ops Q (o :: rest) a w := by
  obtain ⟨i0, hi0, hz0, hz1, hz2⟩ := info_parts infoNode
  have hl := hi.1
  refine wpList_plain hgd fun K hK => ?_
  match ad, hx, hi with
  | none, hx, hi =>
    have h0 : len = 0 := by
      obtain ⟨_, h0 | ⟨b, off, ha, _⟩⟩ := hi
      · exact h0
      · cases ha
    have hz : zs = [] := List.length_eq_zero_iff.1 (by omega)
    subst hz; subst h0
    have hrun := run_append_owned_nil (W := w) base o.type i0 hi0 v acc.length (flatN acc) hown cap
    unfold Oper.wp
    simp [execOp, ho, resolve, invoke, builtin, hs, hx, hrun, Result.andThen]
    exact hK _ _ (h v w (by rw [List.append_nil]; exact hown) ⟨rfl, rfl, rfl, Nat.le_refl _, fun _ _ _ => rfl⟩)
  | some ad, hx, hi =>
    exact wp_append_own w s x 60 ho base 125 i0 (.agg #[.string ⟨#[]⟩, .int .i64 0, .int .i64 0]) 3 32 Tryz.underlying60 hi0 hz0 hz1 hz2 rfl (by decide) v acc.length (flatN acc) hs hown ad len cap (flatN zs) hx (by rw [flatN_length]; omega) (nodes_cells hi) (flatN_cell1 _) (by unfold maxLen; omega) (by omega) hb fun v' w' h1 h2 _ => hK _ _ (h v' w' (by rw [flatN_append, List.length_append, hl]; exact h1) h2)

def SizeN (rows : List NRow) (W : World) (s i : Value) (wr : World) : Prop :=
  ∃ n : Nat, i = .int .i64 n ∧ n ≤ rows.length ∧ s = .int .i64 ((allN (rows.take n)).length : Nat) ∧ W = wr

def JoinN (rows : List NRow) (W : World) (o i : Value) (wr : World) : Prop :=
  ∃ n : Nat, i = .int .i64 n ∧ n ≤ rows.length ∧ wr.ownsRow W.heap.size 125 3 o (allN (rows.take n)).length (flatN (allN (rows.take n))) ∧ Hid (Below W.heap.size W wr)

end Go.Proofs.YtohdpbalajjjiaaGreat

/-
  WALK: spec.CommandApply.
-/
namespace Go.Proofs.YtohdpbalajjjiaaGreat
open Go.RowKit
set_option linter.unusedVariables false

/-- What CommandApply tells: nodes that the call has made, and whether the command was done. -/
def ApplyPost (r : List Nd × Bool) (base : Nat) (W : World) (e : Ending) (w' : World) : Prop :=
  ∃ sl, e = .returned (.tuple #[sl, .bool r.2]) ∧ w'.ownsRow base 125 3 sl r.1.length (flatN r.1) ∧ Below W.heap.size W w'

theorem apply_none {r : List Nd × Bool} {base : Nat} {W w : World} (hr : r = ([], false)) (hb : base ≤ w.heap.size) (hB : Below W.heap.size W w) :
    ApplyPost r base W (.returned (.tuple #[.slice (some ⟨w.heap.size, 0, none⟩) 0 0, .bool false])) (w.alloc (.cells #[] 125)) := by
  subst hr
  exact ⟨_, rfl, World.ownsRow_lit (e := 125) (size := 3) w #[] 0 hb (by simp [maxLen]) rfl, below_next hB (below_box _ _)⟩

theorem apply_end {r : List Nd × Bool} {out : List Nd} {b : Bool} (hr : r = (out, b)) {base : Nat} {W w' : World} {sl : Value} (ho : w'.ownsRow base 125 3 sl out.length (flatN out)) (hB : Below W.heap.size W w') : ApplyPost r base W (.returned (.tuple #[sl, .bool b])) w' := by
  subst hr
  exact ⟨sl, rfl, ho, hB⟩

set_option maxHeartbeats 2000000 in
set_option maxRecDepth 100000 in
theorem specCmdApply_c (a : Option Addr) (len cap : Nat) (ns : List Nd) (c : Cmd) (hl : len ≤ 2097151) (hs : Short 2097152 ns) (hp : c.p.size ≤ 2097152) (W : World) (hN : NodesAt W a len ns) :
    Calls Tryz.prog 63 #[.slice a len cap, cmdV c] W (ApplyPost (applyC ns c) W.heap.size W) := by
  obtain ⟨vt, hvt⟩ : ∃ vt, validT ns = vt := ⟨_, rfl⟩
  obtain ⟨vc, hvc⟩ : ∃ vc, validC c = vc := ⟨_, rfl⟩
  have HV := Lib.hid (fun W' (hb : Below W.heap.size W W') => show Calls Tryz.prog 61 #[.slice a len cap] W' (BoolPost vt W') by rw [← hvt]; exact specTreeValid_c a len cap ns (by omega) hs W' (hN.keep hb))
  have HC := Lib.hid (fun W' => show Calls Tryz.prog 30 #[cmdV c] W' (BoolPost vc W') by rw [← hvc]; exact specCmdValid_c c hp W')
  have HN := Lib.hid hN
  cases vt with
  | false =>
    have HR := Lib.hid (applyC_bad (c := c) (.inl hvt))
    clear hN hs hvt hvc
    unfold cmdV
    go_enter Tryz.func63, Tryz.ntmps63
    go_wp2_with fail
    refine (HV.out _ (below_box _ _)).mono ?_
    rintro e W1 ⟨rfl, hb1⟩
    have B1 := Lib.hid (below_next (below_box W _) hb1)
    clear hb1
    go_wp2
    go_ret2
    exact apply_none HR.out B1.out.size B1.out
  | true =>
    cases vc with
    | false =>
      have HR := Lib.hid (applyC_bad (ns := ns) (.inr hvc))
      clear hN hs hvt hvc
      unfold cmdV at HC ⊢
      obtain ⟨p, fk, fv, tk, tv⟩ := c
      simp only at HC ⊢
      go_enter Tryz.func63, Tryz.ntmps63
      go_wp2_with fail
      refine (HV.out _ (below_box _ _)).mono ?_
      rintro e W1 ⟨rfl, hb1⟩
      have q0 := box_cell hb1 0
      have q1 := box_cell hb1 1
      have q2 := box_cell hb1 2
      have q3 := box_cell hb1 3
      have q4 := box_cell hb1 4
      simp at q0 q1 q2 q3 q4
      have B1 := Lib.hid (below_next (below_box W _) hb1)
      clear hb1
      go_wp2_with fail
      refine (HC.out _).mono ?_
      rintro e W2 ⟨rfl, hb2⟩
      have B2 := Lib.hid (below_next B1.out hb2)
      clear hb2 q0 q1 q2 q3 q4
      go_wp2
      go_ret2
      exact apply_none HR.out B2.out.size B2.out
    | true =>
      have HR := Lib.hid (applyC_ok hvt hvc)
      have HG := Lib.hid (fun p W' (h : NodesAt W' a len ns) => l3Get_c a len cap ns p (by omega) W' h)
      have HP := Lib.hid (fun W' (h : NodesAt W' a len ns) => specTreePut_c a len cap ns c.p c.tk c.tv hl hs hp W' h)
      have HLN := Lib.hid (show ns.length ≤ 10 from ((validT_iff ns).1 hvt).2.2)
      clear hN hs hvt hvc
      unfold cmdV at HC ⊢
      obtain ⟨p, fk, fv, tk, tv⟩ := c
      simp only at HC HR HP hp ⊢
      obtain ⟨⟨gk, gv⟩, hg⟩ : ∃ g, getT ns p = g := ⟨_, rfl⟩
      have HGP := Lib.hid (fun W' (h : NodesAt W' a len ns) => show Calls Tryz.prog 81 #[.slice a len cap, .string p] W' (fun e w' => e = .returned (.agg #[.int .i64 gk, .int .i64 gv]) ∧ Below W'.heap.size W' w') by have := HG.out p W' h; rw [hg] at this; exact this)
      rw [hg] at HR
      obtain ⟨ee, hee⟩ : ∃ ee, (gk == fk && gv == fv) = ee := ⟨_, rfl⟩
      have heq := fun w' => (conEqQ gk gv fk fv w').trans (show _ = Result.ok (Value.bool ee) w' by rw [hee])
      have HEE := Lib.hid hee
      clear hg hee
      go_enter Tryz.func63, Tryz.ntmps63
      go_wp2_with fail
      refine (HV.out _ (below_box _ _)).mono ?_
      rintro e W1 ⟨rfl, hb1⟩
      have q0 := box_cell hb1 0
      have q1 := box_cell hb1 1
      have q2 := box_cell hb1 2
      have q3 := box_cell hb1 3
      have q4 := box_cell hb1 4
      simp at q0 q1 q2 q3 q4
      have B1 := Lib.hid (below_next (below_box W _) hb1)
      clear hb1
      go_wp2_with fail
      refine (HC.out _).mono ?_
      rintro e W2 ⟨rfl, hb2⟩
      have HS2 := Lib.hid (keepCmd (W0 := W) ⟨q0, q1, q2, q3, q4, B1.out⟩ hb2)
      have HS0 : Hid (W2.drew.cell? ⟨W.heap.size, 0, none⟩ = some (.string p) ∧ W2.drew.cell? ⟨W.heap.size, 1, none⟩ = some (.int .i64 fk) ∧ W2.drew.cell? ⟨W.heap.size, 2, none⟩ = some (.int .i64 fv) ∧ W2.drew.cell? ⟨W.heap.size, 3, none⟩ = some (.int .i64 tk) ∧ W2.drew.cell? ⟨W.heap.size, 4, none⟩ = some (.int .i64 tv) ∧ Below W.heap.size W W2.drew) :=
        ⟨HS2.out.1, HS2.out.2.1, HS2.out.2.2.1, HS2.out.2.2.2.1, HS2.out.2.2.2.2.1, HS2.out.2.2.2.2.2.drew⟩
      have HGD := Lib.hid (HGP.out W2.drew (HN.out.keep HS0.out.2.2.2.2.2))
      clear hb2 q0 q1 q2 q3 q4
      go_upto_region 3 with (fail)
      go_region_held3 (fun w' => w'.cell? ⟨W.heap.size, 0, none⟩ = some (.string p) ∧ w'.cell? ⟨W.heap.size, 1, none⟩ = some (.int .i64 fk) ∧ w'.cell? ⟨W.heap.size, 2, none⟩ = some (.int .i64 fv) ∧ w'.cell? ⟨W.heap.size, 3, none⟩ = some (.int .i64 tk) ∧ w'.cell? ⟨W.heap.size, 4, none⟩ = some (.int .i64 tv) ∧ Below W.heap.size W w')
        (first | exact HS0.out | exact keepCmd HS0.out hb5)
        (first | (go_at_call 81; (with_reducible refine (HGD.out).mono ?_); rintro e W5 ⟨rfl, hb5⟩))
      rename_i hS
      obtain ⟨s0, s1, s2, s3, s4, hB5⟩ := hS
      have HB5 := Lib.hid hB5
      have HN5 := Lib.hid (HN.out.keep hB5)
      clear heq hB5
      cases ee with
      | false =>
        have hR2 := Lib.hid (show applyC ns ⟨p, fk, fv, tk, tv⟩ = (ns, false) by
          rw [HR.out, if_neg]
          intro e
          have := HEE.out
          simp only [Prod.mk.injEq] at e
          rw [e.1, e.2] at this
          simp at this)
        clear s0 s1 s2 s3 s4
        go_wp2_with (at_builtin; refine wpList_append_nodes rfl _ _ rfl W.heap.size _ [] rfl (World.ownsRow_lit (e := 125) (size := 3) W5 #[] 0 HB5.out.size (by simp [maxLen]) rfl) _ _ _ _ rfl (HN5.out.keep (below_box _ _)) (by have := HLN.out; simp; omega) (by have := HB5.out.size; simp; omega) ?_; intro v9 w9 ho9 hg9)
        refine bodyPost_ret (v := .tuple #[v9, .bool false]) (by simp [results, Tryz.f63, go_sem]) rfl (apply_end hR2.out (by simpa using ho9) ?_)
        exact (HB5.out.alloc HB5.out.size _).grown hg9 (by have := HB5.out.size; simp; omega) (fun k e => by cases e; exact HB5.out.size)
      | true =>
        have hgt : (gk, gv) = (fk, fv) := by
          have := HEE.out
          rw [Bool.and_eq_true, beq_iff_eq, beq_iff_eq] at this
          rw [this.1, this.2]
        have HR2 := Lib.hid (HR.out.trans (if_pos hgt))
        have HP5 := Lib.hid (HP.out W5 HN5.out)
        clear hgt
        go_wp2_with fail
        refine HP5.out.mono ?_
        rintro e W6 ⟨sl, out, b, rfl, hc, ho, hb6⟩
        have HB6 := Lib.hid (below_next HB5.out hb6)
        have HN6 := Lib.hid (HN5.out.keep hb6)
        have HO6 := Lib.hid (own_mono ho HB5.out.size)
        clear s0 s1 s2 s3 s4 ho hb6
        rcases hc with ⟨rfl, hr⟩ | ⟨rfl, hr, rfl⟩
        · have hR3 := Lib.hid (show applyC ns ⟨p, fk, fv, tk, tv⟩ = (out, true) by rw [HR2.out, hr])
          clear hr
          go_wp2
          refine bodyPost_ret (v := .tuple #[sl, .bool true]) (by simp [results, Tryz.f63, go_sem]) rfl (apply_end hR3.out HO6.out HB6.out)
        · have hR3 := Lib.hid (show applyC ns ⟨p, fk, fv, tk, tv⟩ = (ns, false) by rw [HR2.out, hr])
          clear hr
          go_wp2_with (at_builtin; refine wpList_append_nodes rfl _ _ rfl W.heap.size _ [] rfl (World.ownsRow_lit (e := 125) (size := 3) W6 #[] 0 HB6.out.size (by simp [maxLen]) rfl) _ _ _ _ rfl (HN6.out.keep (below_box _ _)) (by have := HLN.out; simp; omega) (by have := HB6.out.size; simp; omega) ?_; intro v9 w9 ho9 hg9)
          refine bodyPost_ret (v := .tuple #[v9, .bool false]) (by simp [results, Tryz.f63, go_sem]) rfl (apply_end hR3.out (by simpa using ho9) ?_)
          exact (HB6.out.alloc HB6.out.size _).grown hg9 (by have := HB6.out.size; simp; omega) (fun k e => by cases e; exact HB6.out.size)

end Go.Proofs.YtohdpbalajjjiaaGreat
