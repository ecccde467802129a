/-
  Texts of this proof, one behind the other: Cc, Lc, Bc, Et, Oc, On, Lo.
-/
import Derived.Lib.AppendZerosOnto
import Derived.Lib.Walk
import Derived.RangeFuncNested
import Derived.RangeFuncBound
import Derived.RangeFuncCalls
import Derived.RangeFuncLeaves
import Derived.OwnWalkIn
import Derived.TacticsInMore
import Derived.LoopNIn
import Derived.LoopIn
import Derived.Lib.HexFns2
import Derived.RangeFuncBox
import Derived.RangeFuncFrom
import Derived.Lib.SmallJoins
import Derived.Deep.Slices
import Derived.Deep.Fields
import Derived.ChangeSame
import Derived.ChangeArms
import Derived.Test.YtoipbocbgadjbaaTl
import Derived.Test.YtoipbocbgadjbaaCk
import Derived.Test.YtoipbocbgadjbaaCx
import Derived.Test.YtoipbocbgadjbaaTv
/-
  WALKS: slices.Grow and slices.Concat of lists of nodes, empty ones and nil too.
-/
namespace Go.Proofs.Ytoipbocbgadjbaa
open Go.RowKit
/-- A list of nodes among the arguments of slices.Concat. -/
structure NRow where
  a : Option Addr
  len : Nat
  cap : Nat
  ns : List Nd

/-- A slice of lists of nodes in memory. -/
def RowsAt (W : World) (g off : Nat) (rows : List NRow) : Prop := ∀ i r, rows[i]? = some r → W.cell? ⟨g, off + i, none⟩ = some (.slice r.a r.len r.cap) ∧ NodesAt W r.a r.len r.ns

theorem RowsAt.keep {W W' : World} {g off : Nat} {rows : List NRow} (h : RowsAt W g off rows) (hb : Below W.heap.size W W') : RowsAt W' g off rows := fun i r hr =>
  ⟨cell_kept hb (h i r hr).1, (h i r hr).2.keep hb⟩

def allN (rows : List NRow) : List Nd := rows.flatMap NRow.ns

theorem allN_next {rows : List NRow} {i : Nat} {r : NRow} (h : rows[i]? = some r) : allN (rows.take (i + 1)) = allN (rows.take i) ++ r.ns := by
  unfold allN
  rw [List.take_add_one, h, List.flatMap_append]
  simp

theorem allN_le (rows : List NRow) (i : Nat) : (allN (rows.take i)).length ≤ (allN rows).length := by
  conv => rhs; rw [← List.take_append_drop i rows]
  unfold allN
  rw [List.flatMap_append, List.length_append]
  omega

theorem flatN_cell1 (ns : List Nd) : ∀ u ∈ flatN ns, u.oneCell' = true := by
  intro u hu
  unfold flatN at hu
  obtain ⟨n, _, hn⟩ := List.mem_flatMap.1 hu
  simp at hn
  rcases hn with rfl | rfl | rfl <;> rfl

theorem addr_addN (b off j : Nat) : ((⟨b, off, none⟩ : Addr).add j) = ⟨b, off + j, none⟩ := by
  unfold Addr.add
  split
  · rename_i h; rw [h]; rfl
  · rfl

theorem flatN_at : ∀ (ns : List Nd) (j : Nat) (u : Value), (flatN ns)[j]? = some u → ∃ i n, ns[i]? = some n ∧ ((j = i * 3 ∧ u = .string n.p) ∨ (j = i * 3 + 1 ∧ u = .int .i64 n.k) ∨ (j = i * 3 + 2 ∧ u = .int .i64 n.v))
  | [], j, u, h => by simp [flatN] at h
  | m :: r, 0, u, h => ⟨0, m, rfl, .inl ⟨rfl, by simpa [flatN] using h.symm⟩⟩
  | m :: r, 1, u, h => ⟨0, m, rfl, .inr (.inl ⟨rfl, by simpa [flatN] using h.symm⟩)⟩
  | m :: r, 2, u, h => ⟨0, m, rfl, .inr (.inr ⟨rfl, by simpa [flatN] using h.symm⟩)⟩
  | m :: r, j + 3, u, h => by
    obtain ⟨i, n, h1, h2⟩ := flatN_at r j u (by simpa [flatN] using h)
    refine ⟨i + 1, n, by simpa using h1, ?_⟩
    rcases h2 with ⟨rfl, e⟩ | ⟨rfl, e⟩ | ⟨rfl, e⟩
    · exact .inl ⟨by omega, e⟩
    · exact .inr (.inl ⟨by omega, e⟩)
    · exact .inr (.inr ⟨by omega, e⟩)

theorem nodes_cells {W : World} {ad : Addr} {len : Nat} {ns : List Nd} (h : NodesAt W (some ad) len ns) : ∀ j u, (flatN ns)[j]? = some u → W.cell? (ad.add j) = some u := by
  intro j u hj
  obtain ⟨i, n, hn, hc⟩ := flatN_at ns j u hj
  obtain ⟨h1, h0 | ⟨b, off, ha, hh⟩⟩ := h
  · have := (List.getElem?_eq_some_iff.1 hn).1; omega
  · cases ha
    rw [addr_addN]
    obtain ⟨c0, c1, c2⟩ := hh i n hn
    rcases hc with ⟨rfl, rfl⟩ | ⟨rfl, rfl⟩ | ⟨rfl, rfl⟩
    · exact c0
    · exact c1
    · exact c2

theorem run_append_owned_nil {W : World} (base : Nat) (ty : TypeId) (i : TypeInfo) (hi : Try.prog.info? 99 = some i) (v : Value) (n : Nat) (xs : List Value) (hown : W.ownsRow base 99 3 v n xs) (cap : Nat) :
    (Builtin.append_ #[61, 61] ty #[v, .slice none 0 cap]).run Try.prog W = .ok v W := by
  have ht := Try.underlying61
  rcases hown.2 with ⟨rfl, rfl⟩ | ⟨g, cap', cur, rfl, _, _, hnc, _⟩
  · simp [Builtin.append_, run_underlying ht, sizeOf, typeInfo, hi, Builtin.lenOf, Builtin.firstCells]
  · simp [Builtin.append_, run_underlying ht, sizeOf, typeInfo, hi, Builtin.lenOf, Builtin.firstCells, hnc, storeCells]

theorem wpList_append_nodes {w : World} {ops : Array Oper} {rest : List Oper} {o : Oper} {a : Act} {Q : Exit → Act → World → Prop} (hgd : o.guard = none) (s x : Operand)
    (ho : o.op = .call { callee := .builtin .append, args := #[s, x], argTypes := #[61, 61] })
    (base : Nat) (v : Value) (acc : List Nd) (hs : a.eval s = v) (hown : w.ownsRow base 99 3 v acc.length (flatN acc))
    (ad : Option Addr) (len cap : Nat) (zs : List Nd) (hx : a.eval x = .slice ad len cap) (hi : NodesAt w ad len zs) (hlen : acc.length + zs.length ≤ 2097152) (hb : base ≤ w.heap.size)
    (h : ∀ v3 w3, w3.ownsRow base 99 3 v3 (acc ++ zs).length (flatN (acc ++ zs)) → w.grownBy w3 v.ownBlock → wpList Try.prog ops Q rest (a.put o.dst v3) w3) : wpList Try.prog ops Q (o :: rest) a w := by
  obtain ⟨i0, hi0, hz0, hz1, hz2⟩ := info_parts infoNode
  have hl := hi.1
  refine wpList_plain hgd fun K hK => ?_
  match ad, hx, hi with
  | none, hx, hi =>
    have h0 : len = 0 := by
      obtain ⟨_, h0 | ⟨b, off, ha, _⟩⟩ := hi
      · exact h0
      · cases ha
    have hz : zs = [] := List.length_eq_zero_iff.1 (by omega)
    subst hz; subst h0
    have hrun := run_append_owned_nil (W := w) base o.type i0 hi0 v acc.length (flatN acc) hown cap
    unfold Oper.wp
    simp [execOp, ho, resolve, invoke, builtin, hs, hx, hrun, Result.andThen]
    exact hK _ _ (h v w (by rw [List.append_nil]; exact hown) ⟨rfl, rfl, rfl, Nat.le_refl _, fun _ _ _ => rfl⟩)
  | some ad, hx, hi =>
    exact wp_append_own w s x 61 ho base 99 i0 (.agg #[.string ⟨#[]⟩, .int .i64 0, .int .i64 0]) 3 32 Try.underlying61 hi0 hz0 hz1 hz2 rfl (by decide) v acc.length (flatN acc) hs hown ad len cap (flatN zs) hx (by rw [flatN_length]; omega) (nodes_cells hi) (flatN_cell1 _) (by unfold maxLen; omega) (by omega) hb fun v' w' h1 h2 _ => hK _ _ (h v' w' (by rw [flatN_append, List.length_append, hl]; exact h1) h2)

def SizeN (rows : List NRow) (W : World) (s i : Value) (wr : World) : Prop :=
  ∃ n : Nat, i = .int .i64 n ∧ n ≤ rows.length ∧ s = .int .i64 ((allN (rows.take n)).length : Nat) ∧ W = wr

def JoinN (rows : List NRow) (W : World) (o i : Value) (wr : World) : Prop :=
  ∃ n : Nat, i = .int .i64 n ∧ n ≤ rows.length ∧ wr.ownsRow W.heap.size 99 3 o (allN (rows.take n)).length (flatN (allN (rows.take n))) ∧ Hid (Below W.heap.size W wr)

end Go.Proofs.Ytoipbocbgadjbaa

/-
  LISTS OF COMMANDS in memory.
-/
namespace Go.Proofs.Ytoipbocbgadjbaa
open Go.RowKit
set_option linter.unusedVariables false

/-- A list of commands in memory. -/
def CmdsAt (W : World) (a : Option Addr) (len : Nat) (cs : List Cmd) : Prop :=
  cs.length = len ∧ (len = 0 ∨ ∃ b off, a = some ⟨b, off, none⟩ ∧ ∀ i c, cs[i]? = some c →
    W.cell? ⟨b, off + i * 5, none⟩ = some (.string c.p) ∧ W.cell? ⟨b, off + i * 5 + 1, none⟩ = some (.int .i64 c.fk) ∧ W.cell? ⟨b, off + i * 5 + 2, none⟩ = some (.int .i64 c.fv) ∧ W.cell? ⟨b, off + i * 5 + 3, none⟩ = some (.int .i64 c.tk) ∧ W.cell? ⟨b, off + i * 5 + 4, none⟩ = some (.int .i64 c.tv))

theorem CmdsAt.keep {W W' : World} {a : Option Addr} {len : Nat} {cs : List Cmd} (h : CmdsAt W a len cs) (hb : Below W.heap.size W W') : CmdsAt W' a len cs := by
  obtain ⟨h1, h0 | ⟨b, off, ha, hc⟩⟩ := h
  · exact ⟨h1, .inl h0⟩
  · refine ⟨h1, .inr ⟨b, off, ha, fun i c hn => ?_⟩⟩
    obtain ⟨c0, c1, c2, c3, c4⟩ := hc i c hn
    exact ⟨cell_kept hb c0, cell_kept hb c1, cell_kept hb c2, cell_kept hb c3, cell_kept hb c4⟩

/-- The cells of a command at a place. -/
theorem CmdsAt.node {W : World} {a : Option Addr} {len : Nat} {cs : List Cmd} (h : CmdsAt W a len cs) {i : Nat} (hi : i < len) :
    ∃ b off c, a = some ⟨b, off, none⟩ ∧ cs[i]? = some c ∧ W.cell? ⟨b, off + i * 5, none⟩ = some (.string c.p) ∧ W.cell? ⟨b, off + i * 5 + 1, none⟩ = some (.int .i64 c.fk) ∧ W.cell? ⟨b, off + i * 5 + 2, none⟩ = some (.int .i64 c.fv) ∧ W.cell? ⟨b, off + i * 5 + 3, none⟩ = some (.int .i64 c.tk) ∧ W.cell? ⟨b, off + i * 5 + 4, none⟩ = some (.int .i64 c.tv) := by
  obtain ⟨h1, h0 | ⟨b, off, ha, hc⟩⟩ := h
  · omega
  · obtain ⟨c, hn⟩ : ∃ c, cs[i]? = some c := ⟨_, List.getElem?_eq_getElem (by omega)⟩
    exact ⟨b, off, c, ha, hn, hc i c hn⟩

theorem infoCmd : (Try.prog.info? 26).map (fun i => (i.zero, i.size, i.bytes)) = some (some (.agg #[.string ⟨#[]⟩, .int .i64 0, .int .i64 0, .int .i64 0, .int .i64 0]), 5, 48) := by kernel_rfl

/-- The cells of one command. -/
def cells5 (c : Cmd) : List Value := [.string c.p, .int .i64 c.fk, .int .i64 c.fv, .int .i64 c.tk, .int .i64 c.tv]

/-- The cells of a list of commands. -/
def flatC (cs : List Cmd) : List Value := cs.flatMap cells5

theorem flatC_nil : flatC [] = [] := rfl
theorem flatC_append (a b : List Cmd) : flatC (a ++ b) = flatC a ++ flatC b := by unfold flatC; rw [List.flatMap_append]
theorem flatC_one (c : Cmd) : flatC [c] = [.string c.p, .int .i64 c.fk, .int .i64 c.fv, .int .i64 c.tk, .int .i64 c.tv] := rfl
theorem flatC_length (cs : List Cmd) : (flatC cs).length = cs.length * 5 := by
  induction cs with
  | nil => rfl
  | cons c r ih =>
    have : flatC (c :: r) = [.string c.p, .int .i64 c.fk, .int .i64 c.fv, .int .i64 c.tk, .int .i64 c.tv] ++ flatC r := rfl
    rw [this, List.length_append, ih]
    simp; omega

theorem flatC_get : ∀ (cs : List Cmd) (i : Nat) (c : Cmd), cs[i]? = some c → (flatC cs)[i * 5]? = some (.string c.p) ∧ (flatC cs)[i * 5 + 1]? = some (.int .i64 c.fk) ∧ (flatC cs)[i * 5 + 2]? = some (.int .i64 c.fv) ∧ (flatC cs)[i * 5 + 3]? = some (.int .i64 c.tk) ∧ (flatC cs)[i * 5 + 4]? = some (.int .i64 c.tv)
  | [], i, c, h => by simp at h
  | m :: r, 0, c, h => by
    simp at h
    subst h
    exact ⟨rfl, rfl, rfl, rfl, rfl⟩
  | m :: r, i + 1, c, h => by
    have ih := flatC_get r i c (by simpa using h)
    have e : flatC (m :: r) = .string m.p :: .int .i64 m.fk :: .int .i64 m.fv :: .int .i64 m.tk :: .int .i64 m.tv :: flatC r := rfl
    rw [e, show (i + 1) * 5 = i * 5 + 5 by omega]
    exact ih

/-- A list of commands that is owned reads as one. -/
theorem cmds_of_own {W : World} {base : Nat} {e : TypeId} {v : Value} {cs : List Cmd} (h : W.ownsRow base e 5 v cs.length (flatC cs)) :
    ∃ a cap, v = .slice a cs.length cap ∧ CmdsAt W a cs.length cs := by
  rcases h.2 with ⟨rfl, h0⟩ | ⟨g, cap, cur, rfl, h1, h2, h3, h4, h5, h6⟩
  · exact ⟨none, 0, by rw [h0], rfl, .inl h0⟩
  · refine ⟨some ⟨g, 0, none⟩, cap, rfl, rfl, .inr ⟨g, 0, rfl, fun i c hn => ?_⟩⟩
    have hi := (List.getElem?_eq_some_iff.1 hn).1
    obtain ⟨f0, f1, f2, f3, f4⟩ := flatC_get cs i c hn
    refine ⟨?_, ?_, ?_, ?_, ?_⟩
    · rw [Nat.zero_add, h.cellAt (i * 5) (by omega)]; exact f0
    · rw [Nat.zero_add, h.cellAt (i * 5 + 1) (by omega)]; exact f1
    · rw [Nat.zero_add, h.cellAt (i * 5 + 2) (by omega)]; exact f2
    · rw [Nat.zero_add, h.cellAt (i * 5 + 3) (by omega)]; exact f3
    · rw [Nat.zero_add, h.cellAt (i * 5 + 4) (by omega)]; exact f4

theorem cmds_own {W : World} {base : Nat} {e : TypeId} {a : Option Addr} {cap : Nat} {cs : List Cmd} (h : W.ownsRow base e 5 (.slice a cs.length cap) cs.length (flatC cs)) : CmdsAt W a cs.length cs := by
  obtain ⟨_, _, e, h⟩ := cmds_of_own h
  simp at e; rw [e.1]; exact h

theorem cell_five_new (w : World) (x y z u v : Value) (t : TypeId) : ∀ j r, [x, y, z, u, v][j]? = some r → (w.alloc (.cells #[x, y, z, u, v] t)).cell? ((⟨w.heap.size, 0, none⟩ : Addr).add j) = some r := by
  intro j r hj
  match j, hj with
  | 0, hj => simp at hj; subst hj; simp [Addr.add]
  | 1, hj => simp at hj; subst hj; simp [Addr.add]
  | 2, hj => simp at hj; subst hj; simp [Addr.add]
  | 3, hj => simp at hj; subst hj; simp [Addr.add]
  | 4, hj => simp at hj; subst hj; simp [Addr.add]

/-- A list of commands that the call has made. -/
def OwnsCmds (base : Nat) (cs : List Cmd) (e : Ending) (w' : World) : Prop :=
  ∃ sl, e = .returned sl ∧ w'.ownsRow base 26 5 sl cs.length (flatC cs)

def CmdsPost (cs : List Cmd) (W : World) (e : Ending) (w' : World) : Prop := OwnsCmds W.heap.size cs e w' ∧ Below W.heap.size W w'

theorem own_pushC {W : World} {b : Nat} {e : TypeId} {v : Value} {acc : List Cmd} (x : Cmd) (h : W.ownsRow b e 5 v (acc.length + 1) (flatC acc ++ [.string x.p, .int .i64 x.fk, .int .i64 x.fv, .int .i64 x.tk, .int .i64 x.tv])) : W.ownsRow b e 5 v (acc ++ [x]).length (flatC (acc ++ [x])) := by
  rw [flatC_append, flatC_one, List.length_append]; exact h

theorem flatC_cell1 (cs : List Cmd) : ∀ u ∈ flatC cs, u.oneCell' = true := by
  intro u hu
  unfold flatC at hu
  obtain ⟨c, _, hn⟩ := List.mem_flatMap.1 hu
  unfold cells5 at hn
  simp at hn
  rcases hn with rfl | rfl | rfl | rfl | rfl <;> rfl

theorem flatC_at : ∀ (cs : List Cmd) (j : Nat) (u : Value), (flatC cs)[j]? = some u → ∃ i c, cs[i]? = some c ∧ ((j = i * 5 ∧ u = .string c.p) ∨ (j = i * 5 + 1 ∧ u = .int .i64 c.fk) ∨ (j = i * 5 + 2 ∧ u = .int .i64 c.fv) ∨ (j = i * 5 + 3 ∧ u = .int .i64 c.tk) ∨ (j = i * 5 + 4 ∧ u = .int .i64 c.tv))
  | [], j, u, h => by simp [flatC] at h
  | m :: r, 0, u, h => ⟨0, m, rfl, .inl ⟨rfl, by simpa [flatC, cells5] using h.symm⟩⟩
  | m :: r, 1, u, h => ⟨0, m, rfl, .inr (.inl ⟨rfl, by simpa [flatC, cells5] using h.symm⟩)⟩
  | m :: r, 2, u, h => ⟨0, m, rfl, .inr (.inr (.inl ⟨rfl, by simpa [flatC, cells5] using h.symm⟩))⟩
  | m :: r, 3, u, h => ⟨0, m, rfl, .inr (.inr (.inr (.inl ⟨rfl, by simpa [flatC, cells5] using h.symm⟩)))⟩
  | m :: r, 4, u, h => ⟨0, m, rfl, .inr (.inr (.inr (.inr ⟨rfl, by simpa [flatC, cells5] using h.symm⟩)))⟩
  | m :: r, j + 5, u, h => by
    obtain ⟨i, c, h1, h2⟩ := flatC_at r j u (by simpa [flatC, cells5] using h)
    refine ⟨i + 1, c, by simpa using h1, ?_⟩
    rcases h2 with ⟨rfl, e⟩ | ⟨rfl, e⟩ | ⟨rfl, e⟩ | ⟨rfl, e⟩ | ⟨rfl, e⟩
    · exact .inl ⟨by omega, e⟩
    · exact .inr (.inl ⟨by omega, e⟩)
    · exact .inr (.inr (.inl ⟨by omega, e⟩))
    · exact .inr (.inr (.inr (.inl ⟨by omega, e⟩)))
    · exact .inr (.inr (.inr (.inr ⟨by omega, e⟩)))

theorem cmds_cells {W : World} {ad : Addr} {len : Nat} {cs : List Cmd} (h : CmdsAt W (some ad) len cs) : ∀ j u, (flatC cs)[j]? = some u → W.cell? (ad.add j) = some u := by
  intro j u hj
  obtain ⟨i, c, hn, hc⟩ := flatC_at cs j u hj
  obtain ⟨h1, h0 | ⟨b, off, ha, hh⟩⟩ := h
  · have := (List.getElem?_eq_some_iff.1 hn).1; omega
  · cases ha
    rw [addr_addN]
    obtain ⟨c0, c1, c2, c3, c4⟩ := hh i c hn
    rcases hc with ⟨rfl, rfl⟩ | ⟨rfl, rfl⟩ | ⟨rfl, rfl⟩ | ⟨rfl, rfl⟩ | ⟨rfl, rfl⟩
    · exact c0
    · exact c1
    · exact c2
    · exact c3
    · exact c4

theorem run_append_owned_nilC {W : World} (base : Nat) (ty : TypeId) (i : TypeInfo) (hi : Try.prog.info? 26 = some i) (v : Value) (n : Nat) (xs : List Value) (hown : W.ownsRow base 26 5 v n xs) (cap : Nat) :
    (Builtin.append_ #[36, 36] ty #[v, .slice none 0 cap]).run Try.prog W = .ok v W := by
  have ht := Try.underlying36
  rcases hown.2 with ⟨rfl, rfl⟩ | ⟨g, cap', cur, rfl, _, _, hnc, _⟩
  · simp [Builtin.append_, run_underlying ht, sizeOf, typeInfo, hi, Builtin.lenOf, Builtin.firstCells]
  · simp [Builtin.append_, run_underlying ht, sizeOf, typeInfo, hi, Builtin.lenOf, Builtin.firstCells, hnc, storeCells]

/-- append(v, x...) at lists of commands. -/
theorem wpList_append_cmds {w : World} {ops : Array Oper} {rest : List Oper} {o : Oper} {a : Act} {Q : Exit → Act → World → Prop} (hgd : o.guard = none) (s x : Operand)
    (ho : o.op = .call { callee := .builtin .append, args := #[s, x], argTypes := #[36, 36] })
    (base : Nat) (v : Value) (acc : List Cmd) (hs : a.eval s = v) (hown : w.ownsRow base 26 5 v acc.length (flatC acc))
    (ad : Option Addr) (len cap : Nat) (zs : List Cmd) (hx : a.eval x = .slice ad len cap) (hi : CmdsAt w ad len zs) (hlen : acc.length + zs.length ≤ 2097152) (hb : base ≤ w.heap.size)
    (h : ∀ v3 w3, w3.ownsRow base 26 5 v3 (acc ++ zs).length (flatC (acc ++ zs)) → w.grownBy w3 v.ownBlock → wpList Try.prog ops Q rest (a.put o.dst v3) w3) : wpList Try.prog ops Q (o :: rest) a w := by
  obtain ⟨i0, hi0, hz0, hz1, hz2⟩ := info_parts infoCmd
  have hl := hi.1
  refine wpList_plain hgd fun K hK => ?_
  match ad, hx, hi with
  | none, hx, hi =>
    have h0 : len = 0 := by
      obtain ⟨_, h0 | ⟨b, off, ha, _⟩⟩ := hi
      · exact h0
      · cases ha
    have hz : zs = [] := List.length_eq_zero_iff.1 (by omega)
    subst hz; subst h0
    have hrun := run_append_owned_nilC (W := w) base o.type i0 hi0 v acc.length (flatC acc) hown cap
    unfold Oper.wp
    simp [execOp, ho, resolve, invoke, builtin, hs, hx, hrun, Result.andThen]
    exact hK _ _ (h v w (by rw [List.append_nil]; exact hown) ⟨rfl, rfl, rfl, Nat.le_refl _, fun _ _ _ => rfl⟩)
  | some ad, hx, hi =>
    exact wp_append_own w s x 36 ho base 26 i0 (.agg #[.string ⟨#[]⟩, .int .i64 0, .int .i64 0, .int .i64 0, .int .i64 0]) 5 48 Try.underlying36 hi0 hz0 hz1 hz2 rfl (by decide) v acc.length (flatC acc) hs hown ad len cap (flatC zs) hx (by rw [flatC_length]; omega) (cmds_cells hi) (flatC_cell1 _) (by unfold maxLen; omega) (by omega) hb fun v' w' h1 h2 _ => hK _ _ (h v' w' (by rw [flatC_append, List.length_append, hl]; exact h1) h2)

/-- A row stands still while a row of another type grows. -/
theorem apart_type {W W' : World} {b1 b2 : Nat} {e1 e2 : TypeId} {s1 s2 n1 n2 : Nat} {v1 v2 : Value} {x1 x2 : List Value} (h1 : W.ownsRow b1 e1 s1 v1 n1 x1) (h2 : W.ownsRow b2 e2 s2 v2 n2 x2) (he : e1 ≠ e2) (hg : W.grownBy W' v2.ownBlock) : W'.ownsRow b1 e1 s1 v1 n1 x1 := by
  refine h1.kept hg ?_
  rcases h1.2 with ⟨rfl, _⟩ | ⟨g, cap, cur, rfl, _, q1, _⟩
  · exact .inl rfl
  · right
    intro e
    rcases h2.2 with ⟨rfl, _⟩ | ⟨g', cap', cur', rfl, _, q2, _⟩
    · cases e
    · simp [Value.ownBlock] at e
      subst e
      rw [q1] at q2
      cases q2
      exact he rfl

/-- A literal of one command. -/
theorem cmds_lit (W : World) (c : Cmd) : CmdsAt (W.alloc (.cells #[.string c.p, .int .i64 c.fk, .int .i64 c.fv, .int .i64 c.tk, .int .i64 c.tv] 26)) (some ⟨W.heap.size, 0, none⟩) 1 [c] := by
  refine ⟨rfl, .inr ⟨W.heap.size, 0, rfl, fun i d hd => ?_⟩⟩
  match i, hd with
  | 0, hd =>
    simp at hd
    subst hd
    exact ⟨by rw [World.cell?_alloc_new]; rfl, by rw [World.cell?_alloc_new]; rfl, by rw [World.cell?_alloc_new]; rfl, by rw [World.cell?_alloc_new]; rfl, by rw [World.cell?_alloc_new]; rfl⟩
  | i + 1, hd => simp at hd

/-- The paths of a log's commands are short. -/
def ShortC (m : Nat) (cs : List Cmd) : Prop := ∀ c ∈ cs, c.p.size ≤ m

theorem ShortC.mono {m m' : Nat} {cs : List Cmd} (h : ShortC m cs) (hm : m ≤ m') : ShortC m' cs := fun c hc => Nat.le_trans (h c hc) hm
theorem ShortC.at {m : Nat} {cs : List Cmd} (h : ShortC m cs) {i : Nat} {c : Cmd} (hc : cs[i]? = some c) : c.p.size ≤ m := h c (List.mem_of_getElem? hc)

/-- A part of a list of commands, from a place up to another. -/
theorem CmdsAt.part {W : World} {b off len : Nat} {cs : List Cmd} (h : CmdsAt W (some ⟨b, off, none⟩) len cs) (i j : Nat) (hij : i ≤ j) (hj : j ≤ len) : CmdsAt W (some ⟨b, off + i * 5, none⟩) (j - i) ((cs.drop i).take (j - i)) := by
  obtain ⟨h1, h2⟩ := h
  refine ⟨by rw [List.length_take, List.length_drop]; omega, ?_⟩
  rcases h2 with h0 | ⟨b', off', ha, hc⟩
  · left; omega
  · cases ha
    right
    refine ⟨b, off + i * 5, rfl, fun k c hk => ?_⟩
    rw [List.getElem?_take] at hk
    split at hk
    · rw [List.getElem?_drop] at hk
      have := hc (i + k) c hk
      rw [show off + i * 5 + k * 5 = off + (i + k) * 5 by omega]
      exact this
    · cases hk

end Go.Proofs.Ytoipbocbgadjbaa

/-
  WALKS: slices.Backward over a list of commands.
-/
namespace Go.Proofs.Ytoipbocbgadjbaa
open Go.RowKit
set_option linter.unusedVariables false

attribute [local go_sem] Oper.semAt_some

/-- A command of a list, with its place. -/
structure EltC (ns : List Cmd) where
  i : Nat
  n : Cmd
  at_ : ns[i]? = some n

/-- The commands ahead of a place, the last one first. -/
def backEC (ns : List Cmd) : (j : Nat) → j ≤ ns.length → List (EltC ns)
  | 0, _ => []
  | j + 1, h => ⟨j, ns[j], by simp⟩ :: backEC ns j (by omega)

theorem backEC_length (ns : List Cmd) : ∀ (j : Nat) (h : j ≤ ns.length), (backEC ns j h).length = j
  | 0, _ => rfl
  | j + 1, h => by show (backEC ns j _).length + 1 = _; rw [backEC_length ns j]

set_option maxRecDepth 100000 in
set_option maxHeartbeats 2000000 in
/-- The closure's walk, for whatever loop body. -/
theorem back1C_in (n : Nat) (hn : 1 ≤ n) (l Bn : Nat) (a : Option Addr) (len cap : Nat) (ns : List Cmd) (hl : len ≤ 2097152) (Kp : World → World → Prop)
    (hKc : ∀ W W', Kp W W' → W.cell? ⟨Bn, 0, none⟩ = some (.slice a len cap) → W'.cell? ⟨Bn, 0, none⟩ = some (.slice a len cap)) (hKn : ∀ W W', Kp W W' → CmdsAt W a len ns → CmdsAt W' a len ns)
    (J Jx : List (EltC ns) → World → Prop)
    (hY : ∀ pre x W, J pre W → pre.length < ns.length → YieldAt Fence.wide (n - 1) Try.prog l #[.int .i64 x.i, cmdV x.n] W fun e W' =>
      (e = .returned (.bool true) ∧ J (pre ++ [x]) W' ∧ Kp W W') ∨ (e = .returned (.bool false) ∧ Jx (pre ++ [x]) W'))
    (W : World) (hBn : W.cell? ⟨Bn, 0, none⟩ = some (.slice a len cap)) (hN : CmdsAt W a len ns) (h0 : J [] W) :
    CallsIn Fence.wide n Try.prog 87 #[.func (.yield l) #[] #[], .pointer (some ⟨Bn, 0, none⟩)] W fun e W' => (∃ v, e = .returned v) ∧
      ((∃ ys, ys = backEC ns ns.length (Nat.le_refl _) ∧ J ys W') ∨ (∃ pre, pre <+: backEC ns ns.length (Nat.le_refl _) ∧ Jx pre W')) := by
  have hlen := hN.1
  have HN := Lib.hid hN
  have HLE := Lib.hid hlen
  have hl' : (len : Int) ≤ 2097152 := by omega
  have HKC := Lib.hid hKc
  have HKN := Lib.hid hKn
  have HY := Lib.hid hY
  clear hN hlen hKc hKn hY
  refine callsIn_of_wp Try.func87 rfl trivial ?_ rfl
  simp only [Try.ntmps87, List.size_toArray, List.length_cons, List.length_nil, Nat.reduceAdd, Nat.reduceSub, Array.replicate_succ, Array.replicate_zero, List.push_toArray, List.append_toArray, List.nil_append, List.cons_append]
  gi_wp2
  gi_loopw [3] (fun i wr => ∃ (pre : List (EltC ns)) (j : Nat) (hj : j ≤ ns.length), i = .int .i64 ((j : Int) - 1) ∧ Hid (backEC ns ns.length (Nat.le_refl _) = pre ++ backEC ns j hj) ∧ J pre wr ∧ wr.cell? ⟨Bn, 0, none⟩ = some (.slice a len cap) ∧ Hid (CmdsAt wr a len ns))
    (fun i _ => (intOf i + 1).toNat)
  case atStart =>
    exact ⟨[], ns.length, Nat.le_refl _, by rw [HLE.out], rfl, h0, hBn, HN.out⟩
  case round =>
    obtain ⟨pre, j, hj, rfl, HX, hJs, hc, HNr⟩ := hrel
    cases j with
    | zero =>
      gi_wp2
      go_end0
      exact ⟨⟨_, rfl⟩, .inl ⟨pre, by have := HX.out; simpa [backEC] using this.symm, hJs⟩⟩
    | succ j =>
      obtain ⟨b, off, nd, hab, hnd, c0, c1, c2, c3, c4⟩ := HNr.out.node (i := j) (by have := HLE.out; omega)
      have hlt : pre.length < ns.length := by
        have := congrArg List.length HX.out
        rw [List.length_append, backEC_length, backEC_length] at this
        omega
      obtain ⟨x, hxi, hxn⟩ : ∃ x : EltC ns, x.i = j ∧ x.n = nd := ⟨⟨j, nd, hnd⟩, rfl, rfl⟩
      have HX2 := Lib.hid (show backEC ns ns.length (Nat.le_refl _) = pre ++ [x] ++ backEC ns j (Nat.le_of_succ_le hj) by
        rw [HX.out, List.append_assoc]
        show pre ++ (⟨j, ns[j], _⟩ :: backEC ns j _) = pre ++ (x :: backEC ns j _)
        have e : ns[j] = nd := by have := List.getElem?_eq_some_iff.1 hnd; exact this.2
        obtain ⟨xi, xn, xa⟩ := x
        simp only at hxi hxn
        subst hxi; subst hxn
        congr 2
        congr 1)
      obtain ⟨fn, tmps, assign, body, hy, hR⟩ := HY.out pre x wr hJs hlt
      rw [hxi, hxn] at hy
      dsimp only [cmdV] at hy
      have hjl : (j : Int) < len := by have := HLE.out; omega
      have hjl2 : j < len := by have := HLE.out; omega
      subst hab
      have HJ := Lib.hid hj
      have HC := Lib.hid hc
      clear hnd hlt hxi hxn
      gi_wp2
      refine hR.mono ?_
      rintro e W3 (⟨rfl, hJ3, hk3⟩ | ⟨rfl, hJx3⟩)
      · have c3 := HKC.out _ _ hk3 HC.out
        have N3 := Lib.hid (HKN.out _ _ hk3 HNr.out)
        gi_wp2
        go_roundw
        case rel => exact ⟨pre ++ [x], j, by have := HJ.out; omega, by simp, HX2.out, hJ3, c3, N3.out⟩
        case measure => simp [intOf]
      · gi_wp2
        refine bodyPost_ret (results_none rfl _ _ _) rfl ?_
        exact ⟨⟨_, rfl⟩, .inr ⟨pre ++ [x], by rw [HX2.out]; exact List.prefix_append _ _, hJx3⟩⟩

set_option maxHeartbeats 1000000 in
set_option maxRecDepth 100000 in
/-- slices.Backward: the slice is boxed; the function value captures the box. -/
theorem backwardC_in (n : Nat) (a : Option Addr) (len cap : Nat) (w : World) :
    CallsIn Fence.wide n Try.prog 78 #[.slice a len cap] w fun e w' => e = .returned (.func (.func 87) #[] #[.pointer (some ⟨w.heap.size, 0, none⟩)]) ∧ w' = w.alloc (.cells #[.slice a len cap] 36) := by
  refine callsIn_of_wp Try.func78 rfl trivial ?_ rfl
  simp only [Try.ntmps78, List.size_toArray, List.length_cons, List.length_nil, Nat.reduceAdd, Nat.reduceSub, Array.replicate_succ, Array.replicate_zero, List.push_toArray, List.append_toArray, List.nil_append, List.cons_append]
  gi_wp2
  go_ret
  exact ⟨rfl, rfl⟩

/-- What a round keeps: what lay below, and the box of the list. -/
def BackKC (n₀ Bn : Nat) (W W' : World) : Prop := Below n₀ W W' ∧ W'.heap[Bn]? = W.heap[Bn]?

theorem cmds_below {n₀ : Nat} {W W' : World} {a : Option Addr} {len : Nat} {ns : List Cmd} (h : CmdsAt W a len ns) (hl : ∀ b off, a = some ⟨b, off, none⟩ → len ≠ 0 → b < n₀) (hb : Below n₀ W W') : CmdsAt W' a len ns := by
  obtain ⟨h1, h0 | ⟨b, off, ha, hc⟩⟩ := h
  · exact ⟨h1, .inl h0⟩
  · by_cases h0 : len = 0
    · exact ⟨h1, .inl h0⟩
    · have hbn := hl b off ha h0
      exact ⟨h1, .inr ⟨b, off, ha, fun i n hn => ⟨(hb.cell (p := ⟨b, _, none⟩) hbn).trans (hc i n hn).1, (hb.cell (p := ⟨b, _, none⟩) hbn).trans (hc i n hn).2.1, (hb.cell (p := ⟨b, _, none⟩) hbn).trans (hc i n hn).2.2.1, (hb.cell (p := ⟨b, _, none⟩) hbn).trans (hc i n hn).2.2.2.1, (hb.cell (p := ⟨b, _, none⟩) hbn).trans (hc i n hn).2.2.2.2⟩⟩⟩

theorem cmds_lt {W : World} {a : Option Addr} {len : Nat} {ns : List Cmd} (h : CmdsAt W a len ns) : ∀ b off, a = some ⟨b, off, none⟩ → len ≠ 0 → b < W.heap.size := by
  intro b off ha h0
  obtain ⟨b', off', n, ha', _, hc, _⟩ := h.node (i := 0) (by omega)
  rw [ha] at ha'
  cases ha'
  exact World.block_lt_of_cell? W _ hc

theorem backwardC_stops (n : Nat) (hn : 1 ≤ n) (Bn n₀ : Nat) (a : Option Addr) (len cap : Nat) (ns : List Cmd) (hl : len ≤ 2097152) (hlow : ∀ b off, a = some ⟨b, off, none⟩ → len ≠ 0 → b < n₀) (w : World) (hn₀ : n₀ ≤ w.heap.size) (hBn : Bn < w.heap.size)
    (hc : w.cell? ⟨Bn, 0, none⟩ = some (.slice a len cap)) (hN : CmdsAt w a len ns) :
    SeqStopsK Fence.wide n Try.prog 87 #[.pointer (some ⟨Bn, 0, none⟩)] (fun x : EltC ns => #[Value.int .i64 x.i, cmdV x.n]) (BackKC n₀ Bn) (fun ys => ys = backEC ns ns.length (Nat.le_refl _)) (fun pre => pre <+: backEC ns ns.length (Nat.le_refl _)) ns.length w := fun l J Jx W hW hJ _ hY h0 =>
  back1C_in n hn l Bn a len cap ns hl (BackKC n₀ Bn) (fun W W' hk h => (World.cell?_of_block (a := ⟨Bn, 0, none⟩) hk.2).trans h) (fun W W' hk h => cmds_below h hlow hk.1) J Jx hY W
    ((hW.cell (p := ⟨Bn, 0, none⟩) hBn).trans hc) (cmds_below hN hlow (hW.mono hn₀)) h0

end Go.Proofs.Ytoipbocbgadjbaa

/-
  LOGS OF THE PROGRAM IN MEMORY: an entry is a command and the entry behind it.
-/
namespace Go.Proofs.Ytoipbocbgadjbaa
open Go.RowKit
set_option linter.unusedVariables false

/-- The cells of an entry. -/
def entC (c : Cmd) (nx : Option Addr) : Array Value := #[.string c.p, .int .i64 c.fk, .int .i64 c.fv, .int .i64 c.tk, .int .i64 c.tv, .pointer nx]

/-- The entries from a pointer on, each of them in a block of its own from B on. -/
def EntAt (B : Nat) (W : World) : Option Addr → List Cmd → Prop
  | a, [] => a = none
  | a, c :: cs => ∃ b nx, a = some ⟨b, 0, none⟩ ∧ B ≤ b ∧ W.heap[b]? = some (.cells (entC c nx) 118 (0, 0)) ∧ EntAt B W nx cs

theorem EntAt.kept {B : Nat} {W W' : World} : ∀ {cs : List Cmd} {a : Option Addr}, EntAt B W a cs → (∀ b, B ≤ b → ∀ c t f, W.heap[b]? = some (.cells c t f) → W'.heap[b]? = W.heap[b]?) → EntAt B W' a cs
  | [], _, h, _ => h
  | _ :: _, _, ⟨b, nx, h1, h2, h3, h4⟩, hk => ⟨b, nx, h1, h2, (hk b h2 _ _ _ h3).trans h3, EntAt.kept h4 hk⟩

theorem ent_lt {W : World} {b : Nat} {o : Obj} (h : W.heap[b]? = some o) : b < W.heap.size := (Array.getElem?_eq_some_iff.1 h).1

theorem EntAt.keep {B : Nat} {W W' : World} {cs : List Cmd} {a : Option Addr} (h : EntAt B W a cs) (hb : Below W.heap.size W W') : EntAt B W' a cs :=
  h.kept fun b _ _ _ _ e => hb.block b (ent_lt e)

/-- A turn of a block that holds no cells. -/
theorem EntAt.own {B : Nat} {W W' : World} {row : Option Nat} {cs : List Cmd} {a : Option Addr} (h : EntAt B W a cs) (hg : W.grownBy W' row) (hr : ∀ r, row = some r → ∃ o : Obj, W.heap[r]? = some o ∧ o.isCells = false) : EntAt B W' a cs :=
  h.kept fun b _ c t f e => hg.block b (ent_lt e) fun q => by
    obtain ⟨o, ho, hc⟩ := hr b q.symm
    rw [e] at ho; cases ho; cases hc

/-- A store below. -/
theorem EntAt.set {B : Nat} {W : World} {cs : List Cmd} {a : Option Addr} (h : EntAt B W a cs) {p : Addr} (hp : p.block < B) (v : Value) : EntAt B (W.setCell p v) a cs :=
  h.kept fun b hb _ _ _ e => Below.heap_setCell _ _ _ _ (by omega)

theorem EntAt.alloc {B : Nat} {W : World} {cs : List Cmd} {a : Option Addr} (h : EntAt B W a cs) (o : Obj) : EntAt B (W.alloc o) a cs := h.keep (below_box _ _)

/-- An entry more. -/
theorem EntAt.push {B : Nat} {W : World} {cs : List Cmd} {a : Option Addr} (h : EntAt B W a cs) (hB : B ≤ W.heap.size) (c : Cmd) : EntAt B (W.alloc (.cells (entC c a) 118)) (some ⟨W.heap.size, 0, none⟩) (c :: cs) :=
  ⟨W.heap.size, a, rfl, hB, World.alloc_heap_new W _, h.alloc _⟩

theorem EntAt.low {B C : Nat} {W : World} (hBC : C ≤ B) : ∀ {cs : List Cmd} {a : Option Addr}, EntAt B W a cs → EntAt C W a cs
  | [], _, h => h
  | _ :: _, _, ⟨b, nx, h1, h2, h3, h4⟩ => ⟨b, nx, h1, Nat.le_trans hBC h2, h3, EntAt.low hBC h4⟩

/-- The cells of the first entry. -/
theorem EntAt.first {B : Nat} {W : World} {c : Cmd} {cs : List Cmd} {a : Option Addr} (h : EntAt B W a (c :: cs)) :
    ∃ b nx, a = some ⟨b, 0, none⟩ ∧ B ≤ b ∧ EntAt B W nx cs ∧ W.cell? ⟨b, 0, none⟩ = some (.string c.p) ∧ W.cell? ⟨b, 1, none⟩ = some (.int .i64 c.fk) ∧ W.cell? ⟨b, 2, none⟩ = some (.int .i64 c.fv) ∧ W.cell? ⟨b, 3, none⟩ = some (.int .i64 c.tk) ∧ W.cell? ⟨b, 4, none⟩ = some (.int .i64 c.tv) ∧ W.cell? ⟨b, 5, none⟩ = some (.pointer nx) := by
  obtain ⟨b, nx, h1, h2, h3, h4⟩ := h
  refine ⟨b, nx, h1, h2, h4, ?_, ?_, ?_, ?_, ?_, ?_⟩ <;> simp [World.cell?, h3, entC]

theorem EntAt.len {B : Nat} {W : World} : ∀ {xs ys : List Cmd} {a : Option Addr}, EntAt B W a xs → EntAt B W a ys → xs.length = ys.length
  | [], [], _, _, _ => rfl
  | [], _ :: _, _, h, ⟨_, _, k, _⟩ => by rw [show _ = none from h] at k; cases k
  | _ :: _, [], _, ⟨_, _, k, _⟩, h => by rw [show _ = none from h] at k; cases k
  | _ :: _, _ :: _, _, ⟨b, nx, h1, _, h3, h4⟩, ⟨b', nx', k1, _, k3, k4⟩ => by
    rw [h1] at k1
    cases k1
    rw [h3] at k3
    have e : nx = nx' := by
      have := Option.some.inj k3
      simp [entC] at this
      exact this.2.2.2.2.2
    subst e
    rw [List.length_cons, List.length_cons, EntAt.len h4 k4]

/-- How many entries there are from a pointer on. -/
theorem ent_count (B : Nat) : ∃ f : World → Value → Nat, ∀ W a cs, EntAt B W a cs → f W (.pointer a) = cs.length := by
  classical
  refine ⟨fun W v => if h : ∃ n : Nat, ∃ a cs, v = .pointer a ∧ EntAt B W a cs ∧ cs.length = n then Classical.choose h else 0, fun W a cs h => ?_⟩
  have hx : ∃ n : Nat, ∃ a' cs', (Value.pointer a) = .pointer a' ∧ EntAt B W a' cs' ∧ cs'.length = n := ⟨_, a, cs, rfl, h, rfl⟩
  show (if h : _ then _ else _) = _
  rw [dif_pos hx]
  obtain ⟨a', cs', e, h', hl⟩ := Classical.choose_spec hx
  cases e
  exact hl.symm.trans (h'.len h)

/-- A log that the call has made. -/
def EntPost (cs : List Cmd) (W : World) (e : Ending) (w' : World) : Prop := ∃ a, e = .returned (.pointer a) ∧ EntAt W.heap.size w' a cs ∧ Below W.heap.size W w'

end Go.Proofs.Ytoipbocbgadjbaa

/-
  A COMMAND FROM OUTSIDE: an argument laws.Command.
-/
namespace Go.Proofs.Ytoipbocbgadjbaa
open Go.RowKit Go.Joins Go.ChangeShapes Go.WideShapes
set_option linter.unusedVariables false

theorem len3_parts {α : Type} : ∀ {l : List α}, l.length = 3 → ∃ a b c, l = [a, b, c]
  | [a, b, c], _ => ⟨a, b, c, rfl⟩
theorem len2_parts {α : Type} : ∀ {l : List α}, l.length = 2 → ∃ a b, l = [a, b]
  | [a, b], _ => ⟨a, b, rfl⟩
theorem len5_parts {α : Type} : ∀ {l : List α}, l.length = 5 → ∃ a b c d e, l = [a, b, c, d, e]
  | [a, b, c, d, e], _ => ⟨a, b, c, d, e, rfl⟩

section
variable {H : Type} {enc : TypeId × Value → H} {w : World} {base : Nat} {spare : Nat → Bool} {held : Bool}

theorem open_conCells {fuel : Nat} {c1 c2 : Value} {x : DataW H × List MemPlace} (h : DataW.trod enc Try.prog w base spare held fuel 41 [c1, c2] = some x) :
    ∃ k v : Int, c1 = .int .i64 k ∧ c2 = .int .i64 v := by
  obtain ⟨ys, m, _, _, _, hyl, hg⟩ := DataW.trod_struct Try.underlying41 h
  obtain ⟨y0, y1, rfl⟩ : ∃ y0 y1, ys = [y0, y1] := len2_parts hyl
  have h2 : DataW.trod enc Try.prog w base spare held m 3 (([c1, c2].drop 0).take (Try.prog.cellsOf 3)) = some y0 := hg 0 _ rfl
  have h3 : DataW.trod enc Try.prog w base spare held m 3 (([c1, c2].drop 1).take (Try.prog.cellsOf 3)) = some y1 := hg 1 _ rfl
  rw [(by kernel_rfl : Try.prog.cellsOf 3 = 1)] at h2
  rw [(by kernel_rfl : Try.prog.cellsOf 3 = 1)] at h3
  obtain ⟨k, hk, _⟩ := DataW.trod_int Try.underlying3 (show DataW.trod enc Try.prog w base spare held m 3 [c1] = some y0 from h2)
  obtain ⟨v, hv, _⟩ := DataW.trod_int Try.underlying3 (show DataW.trod enc Try.prog w base spare held m 3 [c2] = some y1 from h3)
  simp at hk hv
  exact ⟨k, v, hk, hv⟩

theorem open_cmdCells {fuel : Nat} {cs : List Value} {x : DataW H × List MemPlace} (h : DataW.trod enc Try.prog w base spare held fuel 43 cs = some x) :
    ∃ c : Cmd, cs = [.string c.p, .int .i64 c.fk, .int .i64 c.fv, .int .i64 c.tk, .int .i64 c.tv] ∧ c.p.size ≤ maxLen := by
  obtain ⟨xs, n, _, _, hl, hxl, hf⟩ := DataW.trod_struct Try.underlying43 h
  have hl5 : cs.length = 5 := hl.trans (by kernel_rfl)
  obtain ⟨c0, c1, c2, c3, c4, rfl⟩ := len5_parts hl5
  obtain ⟨x0, x1, x2, rfl⟩ : ∃ x0 x1 x2, xs = [x0, x1, x2] := len3_parts hxl
  have h0 : DataW.trod enc Try.prog w base spare held n 9 (([c0, c1, c2, c3, c4].drop 0).take (Try.prog.cellsOf 9)) = some x0 := hf 0 _ rfl
  have h1 : DataW.trod enc Try.prog w base spare held n 41 (([c0, c1, c2, c3, c4].drop 1).take (Try.prog.cellsOf 41)) = some x1 := hf 1 _ rfl
  have h2 : DataW.trod enc Try.prog w base spare held n 41 (([c0, c1, c2, c3, c4].drop 3).take (Try.prog.cellsOf 41)) = some x2 := hf 2 _ rfl
  rw [(by kernel_rfl : Try.prog.cellsOf 9 = 1)] at h0
  rw [(by kernel_rfl : Try.prog.cellsOf 41 = 2)] at h1
  rw [(by kernel_rfl : Try.prog.cellsOf 41 = 2)] at h2
  obtain ⟨s, hs, _, hsz⟩ := DataW.trod_string Try.underlying9 (show DataW.trod enc Try.prog w base spare held n 9 [c0] = some x0 from h0)
  obtain ⟨k1, v1, e1, e2⟩ := open_conCells (show DataW.trod enc Try.prog w base spare held n 41 [c1, c2] = some x1 from h1)
  obtain ⟨k2, v2, e3, e4⟩ := open_conCells (show DataW.trod enc Try.prog w base spare held n 41 [c3, c4] = some x2 from h2)
  simp at hs
  subst hs; subst e1; subst e2; subst e3; subst e4
  exact ⟨⟨s, k1, v1, k2, v2⟩, rfl, hsz⟩

set_option maxRecDepth 100000 in
theorem open_command {r : Reach} {b0 : Nat} {v : Value} {d : DataW H} {p : List MemPlace} (hv : Value.okWide Try.prog w r b0 43 v) (h : DataW.Trod enc Try.prog w base spare held 43 v d p) :
    ∃ c : Cmd, v = cmdV c ∧ c.p.size ≤ maxLen := by
  obtain ⟨cs, rfl, hsz⟩ := okWide_struct Try.underlying43 hv
  obtain ⟨fuel, hf⟩ := h
  obtain ⟨c, hc, hs⟩ := open_cmdCells (show DataW.trod enc Try.prog w base spare held fuel 43 cs.toList = some (d, p) from hf)
  refine ⟨c, ?_, hs⟩
  unfold cmdV
  rw [← Array.toArray_toList (xs := cs), hc]
end

end Go.Proofs.Ytoipbocbgadjbaa

/-
  AN ARGUMENT THAT IS A LIST OF NODES, opened to its cells.
-/
namespace Go.Proofs.Ytoipbocbgadjbaa
open Go.ChangeShapes Go.WideShapes Go.Deep

theorem len_three {α : Type} : ∀ {l : List α}, l.length = 3 → ∃ a b c, l = [a, b, c]
  | [a, b, c], _ => ⟨a, b, c, rfl⟩
theorem len_two {α : Type} : ∀ {l : List α}, l.length = 2 → ∃ a b, l = [a, b]
  | [a, b], _ => ⟨a, b, rfl⟩

theorem spot_none {w : World} {a : Addr} {v : Value} (h : w.cell? a = some v) : a.spot = none := by
  unfold World.cell? at h
  split at h
  · split at h
    · cases h
    · rename_i hs; simpa using hs
  · cases h

section
variable {H : Type} {enc : TypeId × Value → H} {w : World} {base : Nat} {spare : Nat → Bool} {held : Bool}

end

end Go.Proofs.Ytoipbocbgadjbaa

/-
  AN ARGUMENT THAT IS A LIST OF COMMANDS, opened to its cells.
-/
namespace Go.Proofs.Ytoipbocbgadjbaa
open Go.ChangeShapes Go.WideShapes Go.Deep

section
variable {H : Type} {enc : TypeId × Value → H} {w : World} {base : Nat} {spare : Nat → Bool} {held : Bool}

theorem open_commands {fuel : Nat} {a : Option Addr} {len cap : Nat} {x : DataW H × List MemPlace} (h : DataW.trod enc Try.prog w base spare held fuel 51 [.slice a len cap] = some x) :
    ∃ cs : List Cmd, CmdsAt w a len cs ∧ len ≤ maxLen ∧ ShortC maxLen cs := by
  rcases open_slice Try.underlying51 h with ⟨h0, _⟩ | ⟨ad, len', cap', m, n, D, Pl, hcs, _, hl, hm, hmm, _, hi⟩
  · simp at h0
    obtain ⟨rfl, rfl, rfl⟩ := h0
    exact ⟨[], ⟨rfl, .inl rfl⟩, by unfold maxLen; omega, fun n hn => by cases hn⟩
  · simp at hcs
    obtain ⟨rfl, rfl, rfl⟩ := hcs
    have hlm : len ≤ m := by rw [hmm]; split <;> omega
    have hel : ∀ i, i < len → ∃ c : Cmd, w.cell? (ad.add (i * 5)) = some (.string c.p) ∧ w.cell? (ad.add (i * 5 + 1)) = some (.int .i64 c.fk) ∧ w.cell? (ad.add (i * 5 + 2)) = some (.int .i64 c.fv) ∧ w.cell? (ad.add (i * 5 + 3)) = some (.int .i64 c.tk) ∧ w.cell? (ad.add (i * 5 + 4)) = some (.int .i64 c.tv) ∧ c.p.size ≤ maxLen := by
      intro i hil
      obtain ⟨cs, hc, ht⟩ := hi i (by omega)
      rw [show Try.prog.cellsOf 43 = 5 by kernel_rfl] at hc
      obtain ⟨c, rfl, hsz⟩ := open_cmdCells ht
      obtain ⟨_, hcl, hat⟩ := World.cells?_some hc
      refine ⟨c, ?_, ?_, ?_, ?_, ?_, hsz⟩
      · have := hat 0 (by omega)
        rw [Go.Deep.add_add] at this; exact this
      · have := hat 1 (by omega)
        rw [Go.Deep.add_add] at this; exact this
      · have := hat 2 (by omega)
        rw [Go.Deep.add_add] at this; exact this
      · have := hat 3 (by omega)
        rw [Go.Deep.add_add] at this; exact this
      · have := hat 4 (by omega)
        rw [Go.Deep.add_add] at this; exact this
    obtain ⟨f, hf⟩ : ∃ f : Nat → Cmd, ∀ i, i < len → w.cell? (ad.add (i * 5)) = some (.string (f i).p) ∧ w.cell? (ad.add (i * 5 + 1)) = some (.int .i64 (f i).fk) ∧ w.cell? (ad.add (i * 5 + 2)) = some (.int .i64 (f i).fv) ∧ w.cell? (ad.add (i * 5 + 3)) = some (.int .i64 (f i).tk) ∧ w.cell? (ad.add (i * 5 + 4)) = some (.int .i64 (f i).tv) ∧ (f i).p.size ≤ maxLen :=
      ⟨fun i => if h : i < len then Classical.choose (hel i h) else ⟨⟨#[]⟩, 0, 0, 0, 0⟩, fun i hil => by
        simp only [dif_pos hil]
        exact Classical.choose_spec (hel i hil)⟩
    have hget : ∀ i n, ((List.range len).map f)[i]? = some n → i < len ∧ n = f i := by
      intro i n hn
      rw [List.getElem?_map] at hn
      by_cases hil : i < len
      · rw [List.getElem?_range hil] at hn
        exact ⟨hil, by simpa using hn.symm⟩
      · rw [List.getElem?_eq_none (by simpa using hil)] at hn; cases hn
    refine ⟨(List.range len).map f, ⟨by simp, ?_⟩, by omega, fun n hn => ?_⟩
    · by_cases h0 : len = 0
      · exact .inl h0
      · right
        have hsp := spot_none (hf 0 (by omega)).1
        obtain ⟨b, off, sp⟩ := ad
        have hsp' : sp = none := by
          simp [Addr.add] at hsp
          exact hsp
        subst hsp'
        have hadd : ∀ j, (⟨b, off, none⟩ : Addr).add j = ⟨b, off + j, none⟩ := fun j => by
          unfold Addr.add
          split
          · rename_i hj; rw [hj]; rfl
          · rfl
        refine ⟨b, off, rfl, fun i n hn => ?_⟩
        obtain ⟨hil, rfl⟩ := hget i n hn
        obtain ⟨c0, c1, c2, c3, c4, _⟩ := hf i hil
        rw [hadd] at c0 c1 c2 c3 c4
        exact ⟨c0, c1, c2, c3, c4⟩
    · obtain ⟨i, hi2⟩ := List.getElem?_of_mem hn
      obtain ⟨hil, rfl⟩ := hget i n hi2
      exact (hf i hil).2.2.2.2.2
end

end Go.Proofs.Ytoipbocbgadjbaa
