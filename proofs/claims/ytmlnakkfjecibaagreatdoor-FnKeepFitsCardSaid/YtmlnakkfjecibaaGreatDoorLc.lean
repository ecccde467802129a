/-
  LISTS OF COMMANDS in memory.
-/
import Derived.Test.YtmlnakkfjecibaaGreatDoorCk
import Derived.Test.YtmlnakkfjecibaaGreatDoorCc
namespace Go.Proofs.YtmlnakkfjecibaaGreatDoor
open Go.RowKit
set_option linter.unusedVariables false

/-- A list of commands in memory. -/
def CmdsAt (W : World) (a : Option Addr) (len : Nat) (cs : List Cmd) : Prop :=
  cs.length = len ∧ (len = 0 ∨ ∃ b off, a = some ⟨b, off, none⟩ ∧ ∀ i c, cs[i]? = some c →
    W.cell? ⟨b, off + i * 5, none⟩ = some (.string c.p) ∧ W.cell? ⟨b, off + i * 5 + 1, none⟩ = some (.int .i64 c.fk) ∧ W.cell? ⟨b, off + i * 5 + 2, none⟩ = some (.int .i64 c.fv) ∧ W.cell? ⟨b, off + i * 5 + 3, none⟩ = some (.int .i64 c.tk) ∧ W.cell? ⟨b, off + i * 5 + 4, none⟩ = some (.int .i64 c.tv))

theorem CmdsAt.keep {W W' : World} {a : Option Addr} {len : Nat} {cs : List Cmd} (h : CmdsAt W a len cs) (hb : Below W.heap.size W W') : CmdsAt W' a len cs := by
  obtain ⟨h1, h0 | ⟨b, off, ha, hc⟩⟩ := h
  · exact ⟨h1, .inl h0⟩
  · refine ⟨h1, .inr ⟨b, off, ha, fun i c hn => ?_⟩⟩
    obtain ⟨c0, c1, c2, c3, c4⟩ := hc i c hn
    exact ⟨cell_kept hb c0, cell_kept hb c1, cell_kept hb c2, cell_kept hb c3, cell_kept hb c4⟩

/-- The cells of a command at a place. -/
theorem CmdsAt.node {W : World} {a : Option Addr} {len : Nat} {cs : List Cmd} (h : CmdsAt W a len cs) {i : Nat} (hi : i < len) :
    ∃ b off c, a = some ⟨b, off, none⟩ ∧ cs[i]? = some c ∧ W.cell? ⟨b, off + i * 5, none⟩ = some (.string c.p) ∧ W.cell? ⟨b, off + i * 5 + 1, none⟩ = some (.int .i64 c.fk) ∧ W.cell? ⟨b, off + i * 5 + 2, none⟩ = some (.int .i64 c.fv) ∧ W.cell? ⟨b, off + i * 5 + 3, none⟩ = some (.int .i64 c.tk) ∧ W.cell? ⟨b, off + i * 5 + 4, none⟩ = some (.int .i64 c.tv) := by
  obtain ⟨h1, h0 | ⟨b, off, ha, hc⟩⟩ := h
  · omega
  · obtain ⟨c, hn⟩ : ∃ c, cs[i]? = some c := ⟨_, List.getElem?_eq_getElem (by omega)⟩
    exact ⟨b, off, c, ha, hn, hc i c hn⟩

theorem infoCmd : (Tryz.prog.info? 45).map (fun i => (i.zero, i.size, i.bytes)) = some (some (.agg #[.string ⟨#[]⟩, .int .i64 0, .int .i64 0, .int .i64 0, .int .i64 0]), 5, 48) := by kernel_rfl

/-- The cells of one command. -/
def cells5 (c : Cmd) : List Value := [.string c.p, .int .i64 c.fk, .int .i64 c.fv, .int .i64 c.tk, .int .i64 c.tv]

/-- The cells of a list of commands. -/
def flatC (cs : List Cmd) : List Value := cs.flatMap cells5

theorem flatC_nil : flatC [] = [] := rfl
theorem flatC_append (a b : List Cmd) : flatC (a ++ b) = flatC a ++ flatC b := by unfold flatC; rw [List.flatMap_append]
theorem flatC_one (c : Cmd) : flatC [c] = [.string c.p, .int .i64 c.fk, .int .i64 c.fv, .int .i64 c.tk, .int .i64 c.tv] := rfl
theorem flatC_length (cs : List Cmd) : (flatC cs).length = cs.length * 5 := by
  induction cs with
  | nil => rfl
  | cons c r ih =>
    have : flatC (c :: r) = [.string c.p, .int .i64 c.fk, .int .i64 c.fv, .int .i64 c.tk, .int .i64 c.tv] ++ flatC r := rfl
    rw [this, List.length_append, ih]
    simp; omega

theorem flatC_get : ∀ (cs : List Cmd) (i : Nat) (c : Cmd), cs[i]? = some c → (flatC cs)[i * 5]? = some (.string c.p) ∧ (flatC cs)[i * 5 + 1]? = some (.int .i64 c.fk) ∧ (flatC cs)[i * 5 + 2]? = some (.int .i64 c.fv) ∧ (flatC cs)[i * 5 + 3]? = some (.int .i64 c.tk) ∧ (flatC cs)[i * 5 + 4]? = some (.int .i64 c.tv)
  | [], i, c, h => by simp at h
  | m :: r, 0, c, h => by
    simp at h
    subst h
    exact ⟨rfl, rfl, rfl, rfl, rfl⟩
  | m :: r, i + 1, c, h => by
    have ih := flatC_get r i c (by simpa using h)
    have e : flatC (m :: r) = .string m.p :: .int .i64 m.fk :: .int .i64 m.fv :: .int .i64 m.tk :: .int .i64 m.tv :: flatC r := rfl
    rw [e, show (i + 1) * 5 = i * 5 + 5 by omega]
    exact ih

/-- A list of commands that is owned reads as one. -/
theorem cmds_of_own {W : World} {base : Nat} {e : TypeId} {v : Value} {cs : List Cmd} (h : W.ownsRow base e 5 v cs.length (flatC cs)) :
    ∃ a cap, v = .slice a cs.length cap ∧ CmdsAt W a cs.length cs := by
  rcases h.2 with ⟨rfl, h0⟩ | ⟨g, cap, cur, rfl, h1, h2, h3, h4, h5, h6⟩
  · exact ⟨none, 0, by rw [h0], rfl, .inl h0⟩
  · refine ⟨some ⟨g, 0, none⟩, cap, rfl, rfl, .inr ⟨g, 0, rfl, fun i c hn => ?_⟩⟩
    have hi := (List.getElem?_eq_some_iff.1 hn).1
    obtain ⟨f0, f1, f2, f3, f4⟩ := flatC_get cs i c hn
    refine ⟨?_, ?_, ?_, ?_, ?_⟩
    · rw [Nat.zero_add, h.cellAt (i * 5) (by omega)]; exact f0
    · rw [Nat.zero_add, h.cellAt (i * 5 + 1) (by omega)]; exact f1
    · rw [Nat.zero_add, h.cellAt (i * 5 + 2) (by omega)]; exact f2
    · rw [Nat.zero_add, h.cellAt (i * 5 + 3) (by omega)]; exact f3
    · rw [Nat.zero_add, h.cellAt (i * 5 + 4) (by omega)]; exact f4

theorem cmds_own {W : World} {base : Nat} {e : TypeId} {a : Option Addr} {cap : Nat} {cs : List Cmd} (h : W.ownsRow base e 5 (.slice a cs.length cap) cs.length (flatC cs)) : CmdsAt W a cs.length cs := by
  obtain ⟨_, _, e, h⟩ := cmds_of_own h
  simp at e; rw [e.1]; exact h

theorem cell_five_new (w : World) (x y z u v : Value) (t : TypeId) : ∀ j r, [x, y, z, u, v][j]? = some r → (w.alloc (.cells #[x, y, z, u, v] t)).cell? ((⟨w.heap.size, 0, none⟩ : Addr).add j) = some r := by
  intro j r hj
  match j, hj with
  | 0, hj => simp at hj; subst hj; simp [Addr.add]
  | 1, hj => simp at hj; subst hj; simp [Addr.add]
  | 2, hj => simp at hj; subst hj; simp [Addr.add]
  | 3, hj => simp at hj; subst hj; simp [Addr.add]
  | 4, hj => simp at hj; subst hj; simp [Addr.add]

/-- A list of commands that the call has made. -/
def OwnsCmds (base : Nat) (cs : List Cmd) (e : Ending) (w' : World) : Prop :=
  ∃ sl, e = .returned sl ∧ w'.ownsRow base 45 5 sl cs.length (flatC cs)

def CmdsPost (cs : List Cmd) (W : World) (e : Ending) (w' : World) : Prop := OwnsCmds W.heap.size cs e w' ∧ Below W.heap.size W w'

theorem own_pushC {W : World} {b : Nat} {e : TypeId} {v : Value} {acc : List Cmd} (x : Cmd) (h : W.ownsRow b e 5 v (acc.length + 1) (flatC acc ++ [.string x.p, .int .i64 x.fk, .int .i64 x.fv, .int .i64 x.tk, .int .i64 x.tv])) : W.ownsRow b e 5 v (acc ++ [x]).length (flatC (acc ++ [x])) := by
  rw [flatC_append, flatC_one, List.length_append]; exact h

theorem flatC_cell1 (cs : List Cmd) : ∀ u ∈ flatC cs, u.oneCell' = true := by
  intro u hu
  unfold flatC at hu
  obtain ⟨c, _, hn⟩ := List.mem_flatMap.1 hu
  unfold cells5 at hn
  simp at hn
  rcases hn with rfl | rfl | rfl | rfl | rfl <;> rfl

theorem flatC_at : ∀ (cs : List Cmd) (j : Nat) (u : Value), (flatC cs)[j]? = some u → ∃ i c, cs[i]? = some c ∧ ((j = i * 5 ∧ u = .string c.p) ∨ (j = i * 5 + 1 ∧ u = .int .i64 c.fk) ∨ (j = i * 5 + 2 ∧ u = .int .i64 c.fv) ∨ (j = i * 5 + 3 ∧ u = .int .i64 c.tk) ∨ (j = i * 5 + 4 ∧ u = .int .i64 c.tv))
  | [], j, u, h => by simp [flatC] at h
  | m :: r, 0, u, h => ⟨0, m, rfl, .inl ⟨rfl, by simpa [flatC, cells5] using h.symm⟩⟩
  | m :: r, 1, u, h => ⟨0, m, rfl, .inr (.inl ⟨rfl, by simpa [flatC, cells5] using h.symm⟩)⟩
  | m :: r, 2, u, h => ⟨0, m, rfl, .inr (.inr (.inl ⟨rfl, by simpa [flatC, cells5] using h.symm⟩))⟩
  | m :: r, 3, u, h => ⟨0, m, rfl, .inr (.inr (.inr (.inl ⟨rfl, by simpa [flatC, cells5] using h.symm⟩)))⟩
  | m :: r, 4, u, h => ⟨0, m, rfl, .inr (.inr (.inr (.inr ⟨rfl, by simpa [flatC, cells5] using h.symm⟩)))⟩
  | m :: r, j + 5, u, h => by
    obtain ⟨i, c, h1, h2⟩ := flatC_at r j u (by simpa [flatC, cells5] using h)
    refine ⟨i + 1, c, by simpa using h1, ?_⟩
    rcases h2 with ⟨rfl, e⟩ | ⟨rfl, e⟩ | ⟨rfl, e⟩ | ⟨rfl, e⟩ | ⟨rfl, e⟩
    · exact .inl ⟨by omega, e⟩
    · exact .inr (.inl ⟨by omega, e⟩)
    · exact .inr (.inr (.inl ⟨by omega, e⟩))
    · exact .inr (.inr (.inr (.inl ⟨by omega, e⟩)))
    · exact .inr (.inr (.inr (.inr ⟨by omega, e⟩)))

theorem cmds_cells {W : World} {ad : Addr} {len : Nat} {cs : List Cmd} (h : CmdsAt W (some ad) len cs) : ∀ j u, (flatC cs)[j]? = some u → W.cell? (ad.add j) = some u := by
  intro j u hj
  obtain ⟨i, c, hn, hc⟩ := flatC_at cs j u hj
  obtain ⟨h1, h0 | ⟨b, off, ha, hh⟩⟩ := h
  · have := (List.getElem?_eq_some_iff.1 hn).1; omega
  · cases ha
    rw [addr_addN]
    obtain ⟨c0, c1, c2, c3, c4⟩ := hh i c hn
    rcases hc with ⟨rfl, rfl⟩ | ⟨rfl, rfl⟩ | ⟨rfl, rfl⟩ | ⟨rfl, rfl⟩ | ⟨rfl, rfl⟩
    · exact c0
    · exact c1
    · exact c2
    · exact c3
    · exact c4

theorem run_append_owned_nilC {W : World} (base : Nat) (ty : TypeId) (i : TypeInfo) (hi : Tryz.prog.info? 45 = some i) (v : Value) (n : Nat) (xs : List Value) (hown : W.ownsRow base 45 5 v n xs) (cap : Nat) :
    (Builtin.append_ #[24, 24] ty #[v, .slice none 0 cap]).run Tryz.prog W = .ok v W := by
  have ht := Tryz.underlying24
  rcases hown.2 with ⟨rfl, rfl⟩ | ⟨g, cap', cur, rfl, _, _, hnc, _⟩
  · simp [Builtin.append_, run_underlying ht, sizeOf, typeInfo, hi, Builtin.lenOf, Builtin.firstCells]
  · simp [Builtin.append_, run_underlying ht, sizeOf, typeInfo, hi, Builtin.lenOf, Builtin.firstCells, hnc, storeCells]

/-- append(v, x...) at lists of commands. -/
theorem wpList_append_cmds {w : World} {ops : Array Oper} {rest : List Oper} {o : Oper} {a : Act} {Q : Exit → Act → World → Prop} (hgd : o.guard = none) (s x : Operand)
    (ho : o.op = .call { callee := .builtin .append, args := #[s, x], argTypes := #[24, 24] })
    (base : Nat) (v : Value) (acc : List Cmd) (hs : a.eval s = v) (hown : w.ownsRow base 45 5 v acc.length (flatC acc))
    (ad : Option Addr) (len cap : Nat) (zs : List Cmd) (hx : a.eval x = .slice ad len cap) (hi : CmdsAt w ad len zs) (hlen : acc.length + zs.length ≤ 2097152) (hb : base ≤ w.heap.size)
    (h : ∀ v3 w3, w3.ownsRow base 45 5 v3 (acc ++ zs).length (flatC (acc ++ zs)) → w.grownBy w3 v.ownBlock → wpList Tryz.prog ops Q rest (a.put o.dst v3) w3) : wpList Tryz.prog ops Q (o :: rest) a w := by
  obtain ⟨i0, hi0, hz0, hz1, hz2⟩ := info_parts infoCmd
  have hl := hi.1
  refine wpList_plain hgd fun K hK => ?_
  match ad, hx, hi with
  | none, hx, hi =>
    have h0 : len = 0 := by
      obtain ⟨_, h0 | ⟨b, off, ha, _⟩⟩ := hi
      · exact h0
      · cases ha
    have hz : zs = [] := List.length_eq_zero_iff.1 (by omega)
    subst hz; subst h0
    have hrun := run_append_owned_nilC (W := w) base o.type i0 hi0 v acc.length (flatC acc) hown cap
    unfold Oper.wp
    simp [execOp, ho, resolve, invoke, builtin, hs, hx, hrun, Result.andThen]
    exact hK _ _ (h v w (by rw [List.append_nil]; exact hown) ⟨rfl, rfl, rfl, Nat.le_refl _, fun _ _ _ => rfl⟩)
  | some ad, hx, hi =>
    exact wp_append_own w s x 24 ho base 45 i0 (.agg #[.string ⟨#[]⟩, .int .i64 0, .int .i64 0, .int .i64 0, .int .i64 0]) 5 48 Tryz.underlying24 hi0 hz0 hz1 hz2 rfl (by decide) v acc.length (flatC acc) hs hown ad len cap (flatC zs) hx (by rw [flatC_length]; omega) (cmds_cells hi) (flatC_cell1 _) (by unfold maxLen; omega) (by omega) hb fun v' w' h1 h2 _ => hK _ _ (h v' w' (by rw [flatC_append, List.length_append, hl]; exact h1) h2)

/-- A row stands still while a row of another type grows. -/
theorem apart_type {W W' : World} {b1 b2 : Nat} {e1 e2 : TypeId} {s1 s2 n1 n2 : Nat} {v1 v2 : Value} {x1 x2 : List Value} (h1 : W.ownsRow b1 e1 s1 v1 n1 x1) (h2 : W.ownsRow b2 e2 s2 v2 n2 x2) (he : e1 ≠ e2) (hg : W.grownBy W' v2.ownBlock) : W'.ownsRow b1 e1 s1 v1 n1 x1 := by
  refine h1.kept hg ?_
  rcases h1.2 with ⟨rfl, _⟩ | ⟨g, cap, cur, rfl, _, q1, _⟩
  · exact .inl rfl
  · right
    intro e
    rcases h2.2 with ⟨rfl, _⟩ | ⟨g', cap', cur', rfl, _, q2, _⟩
    · cases e
    · simp [Value.ownBlock] at e
      subst e
      rw [q1] at q2
      cases q2
      exact he rfl

/-- A literal of one command. -/
theorem cmds_lit (W : World) (c : Cmd) : CmdsAt (W.alloc (.cells #[.string c.p, .int .i64 c.fk, .int .i64 c.fv, .int .i64 c.tk, .int .i64 c.tv] 45)) (some ⟨W.heap.size, 0, none⟩) 1 [c] := by
  refine ⟨rfl, .inr ⟨W.heap.size, 0, rfl, fun i d hd => ?_⟩⟩
  match i, hd with
  | 0, hd =>
    simp at hd
    subst hd
    exact ⟨by rw [World.cell?_alloc_new]; rfl, by rw [World.cell?_alloc_new]; rfl, by rw [World.cell?_alloc_new]; rfl, by rw [World.cell?_alloc_new]; rfl, by rw [World.cell?_alloc_new]; rfl⟩
  | i + 1, hd => simp at hd

/-- The paths of a log's commands are short. -/
def ShortC (m : Nat) (cs : List Cmd) : Prop := ∀ c ∈ cs, c.p.size ≤ m

theorem ShortC.mono {m m' : Nat} {cs : List Cmd} (h : ShortC m cs) (hm : m ≤ m') : ShortC m' cs := fun c hc => Nat.le_trans (h c hc) hm
theorem ShortC.at {m : Nat} {cs : List Cmd} (h : ShortC m cs) {i : Nat} {c : Cmd} (hc : cs[i]? = some c) : c.p.size ≤ m := h c (List.mem_of_getElem? hc)

/-- A part of a list of commands, from a place up to another. -/
theorem CmdsAt.part {W : World} {b off len : Nat} {cs : List Cmd} (h : CmdsAt W (some ⟨b, off, none⟩) len cs) (i j : Nat) (hij : i ≤ j) (hj : j ≤ len) : CmdsAt W (some ⟨b, off + i * 5, none⟩) (j - i) ((cs.drop i).take (j - i)) := by
  obtain ⟨h1, h2⟩ := h
  refine ⟨by rw [List.length_take, List.length_drop]; omega, ?_⟩
  rcases h2 with h0 | ⟨b', off', ha, hc⟩
  · left; omega
  · cases ha
    right
    refine ⟨b, off + i * 5, rfl, fun k c hk => ?_⟩
    rw [List.getElem?_take] at hk
    split at hk
    · rw [List.getElem?_drop] at hk
      have := hc (i + k) c hk
      rw [show off + i * 5 + k * 5 = off + (i + k) * 5 by omega]
      exact this
    · cases hk

end Go.Proofs.YtmlnakkfjecibaaGreatDoor
