/-
  FIVE CELLS: a command in a block of the call's own; results that are commands.
-/
import Derived.Test.YtoipbocbgadjbaaCx
namespace Go.Proofs.Ytoipbocbgadjbaa
open Go.RowKit
set_option linter.unusedVariables false

/-- Five cells in a block of the call's own. -/
def Five (W : World) (n : Nat) (a b c d e : Value) : Prop :=
  W.cell? ⟨n, 0, none⟩ = some a ∧ W.cell? ⟨n, 1, none⟩ = some b ∧ W.cell? ⟨n, 2, none⟩ = some c ∧ W.cell? ⟨n, 3, none⟩ = some d ∧ W.cell? ⟨n, 4, none⟩ = some e ∧ W.frozen? ⟨n, 0, none⟩ = false ∧ W.frozen? ⟨n, 1, none⟩ = false ∧ W.frozen? ⟨n, 2, none⟩ = false ∧ W.frozen? ⟨n, 3, none⟩ = false ∧ W.frozen? ⟨n, 4, none⟩ = false ∧ n < W.heap.size

theorem Five.below {W W' : World} {n : Nat} {a b c d e : Value} (h : Five W n a b c d e) (hg : Below W.heap.size W W') : Five W' n a b c d e := by
  obtain ⟨c0, c1, c2, c3, c4, f0, f1, f2, f3, f4, hz⟩ := h
  exact ⟨(hg.cell (p := ⟨n, 0, none⟩) hz).trans c0, (hg.cell (p := ⟨n, 1, none⟩) hz).trans c1, (hg.cell (p := ⟨n, 2, none⟩) hz).trans c2, (hg.cell (p := ⟨n, 3, none⟩) hz).trans c3, (hg.cell (p := ⟨n, 4, none⟩) hz).trans c4, (World.frozen?_of_block (hg.block n hz)).trans f0, (World.frozen?_of_block (hg.block n hz)).trans f1, (World.frozen?_of_block (hg.block n hz)).trans f2, (World.frozen?_of_block (hg.block n hz)).trans f3, (World.frozen?_of_block (hg.block n hz)).trans f4, Nat.lt_of_lt_of_le hz hg.size⟩

theorem Five.keep {W W' : World} {n B : Nat} {a b c d e : Value} (h : Five W n a b c d e) (hg : W.grownBy W' (some B)) (hB : n ≠ B) : Five W' n a b c d e := by
  obtain ⟨c0, c1, c2, c3, c4, f0, f1, f2, f3, f4, hz⟩ := h
  have hne : some n ≠ some B := by simpa using hB
  have hb := hg.block n hz hne
  have hs := hg.size
  exact ⟨hg.cell c0 hne, hg.cell c1 hne, hg.cell c2 hne, hg.cell c3 hne, hg.cell c4 hne, (World.frozen?_of_block hb).trans f0, (World.frozen?_of_block hb).trans f1, (World.frozen?_of_block hb).trans f2, (World.frozen?_of_block hb).trans f3, (World.frozen?_of_block hb).trans f4, by omega⟩

theorem Five.drew {W : World} {n : Nat} {a b c d e : Value} (h : Five W n a b c d e) : Five W.drew n a b c d e := h

theorem five_new (W : World) (a b c d e : Value) (t : TypeId) : Five (W.alloc (.cells #[a, b, c, d, e] t)) W.heap.size a b c d e := by
  refine ⟨by rw [World.cell?_alloc_new]; rfl, by rw [World.cell?_alloc_new]; rfl, by rw [World.cell?_alloc_new]; rfl, by rw [World.cell?_alloc_new]; rfl, by rw [World.cell?_alloc_new]; rfl, ?_, ?_, ?_, ?_, ?_, by simp⟩
  all_goals (simp only [World.frozen?, World.alloc_heap_new]; rfl)

/-- A new block of five cells, when a reader has gone on. -/
theorem five_grown {W W1 : World} {B : Nat} {a b c d e : Value} {t : TypeId} (hg : (W.alloc (.cells #[a, b, c, d, e] t)).grownBy W1 (some B)) (hB : B < W.heap.size) : Five W1 W.heap.size a b c d e :=
  (five_new W a b c d e t).keep hg (by omega)

theorem Five.alloc {W : World} {n : Nat} {a b c d e : Value} (h : Five W n a b c d e) (o : Obj) : Five (W.alloc o) n a b c d e := h.below (below_box W o)

theorem Five.set0 {W : World} {n : Nat} {a b c d e x : Value} (h : Five W n a b c d e) : Five (W.setCell ⟨n, 0, none⟩ x) n x b c d e := by
  obtain ⟨c0, c1, c2, c3, c4, f0, f1, f2, f3, f4, hz⟩ := h
  exact ⟨set_same c0, by rw [World.cell?_setCell_other _ _ _ _ (by simp)]; exact c1, by rw [World.cell?_setCell_other _ _ _ _ (by simp)]; exact c2, by rw [World.cell?_setCell_other _ _ _ _ (by simp)]; exact c3, by rw [World.cell?_setCell_other _ _ _ _ (by simp)]; exact c4, by rw [World.frozen?_setCell]; exact f0, by rw [World.frozen?_setCell]; exact f1, by rw [World.frozen?_setCell]; exact f2, by rw [World.frozen?_setCell]; exact f3, by rw [World.frozen?_setCell]; exact f4, by simpa [World.setCell] using hz⟩

theorem Five.set1 {W : World} {n : Nat} {a b c d e x : Value} (h : Five W n a b c d e) : Five (W.setCell ⟨n, 1, none⟩ x) n a x c d e := by
  obtain ⟨c0, c1, c2, c3, c4, f0, f1, f2, f3, f4, hz⟩ := h
  exact ⟨by rw [World.cell?_setCell_other _ _ _ _ (by simp)]; exact c0, set_same c1, by rw [World.cell?_setCell_other _ _ _ _ (by simp)]; exact c2, by rw [World.cell?_setCell_other _ _ _ _ (by simp)]; exact c3, by rw [World.cell?_setCell_other _ _ _ _ (by simp)]; exact c4, by rw [World.frozen?_setCell]; exact f0, by rw [World.frozen?_setCell]; exact f1, by rw [World.frozen?_setCell]; exact f2, by rw [World.frozen?_setCell]; exact f3, by rw [World.frozen?_setCell]; exact f4, by simpa [World.setCell] using hz⟩

theorem Five.set2 {W : World} {n : Nat} {a b c d e x : Value} (h : Five W n a b c d e) : Five (W.setCell ⟨n, 2, none⟩ x) n a b x d e := by
  obtain ⟨c0, c1, c2, c3, c4, f0, f1, f2, f3, f4, hz⟩ := h
  exact ⟨by rw [World.cell?_setCell_other _ _ _ _ (by simp)]; exact c0, by rw [World.cell?_setCell_other _ _ _ _ (by simp)]; exact c1, set_same c2, by rw [World.cell?_setCell_other _ _ _ _ (by simp)]; exact c3, by rw [World.cell?_setCell_other _ _ _ _ (by simp)]; exact c4, by rw [World.frozen?_setCell]; exact f0, by rw [World.frozen?_setCell]; exact f1, by rw [World.frozen?_setCell]; exact f2, by rw [World.frozen?_setCell]; exact f3, by rw [World.frozen?_setCell]; exact f4, by simpa [World.setCell] using hz⟩

theorem Five.set3 {W : World} {n : Nat} {a b c d e x : Value} (h : Five W n a b c d e) : Five (W.setCell ⟨n, 3, none⟩ x) n a b c x e := by
  obtain ⟨c0, c1, c2, c3, c4, f0, f1, f2, f3, f4, hz⟩ := h
  exact ⟨by rw [World.cell?_setCell_other _ _ _ _ (by simp)]; exact c0, by rw [World.cell?_setCell_other _ _ _ _ (by simp)]; exact c1, by rw [World.cell?_setCell_other _ _ _ _ (by simp)]; exact c2, set_same c3, by rw [World.cell?_setCell_other _ _ _ _ (by simp)]; exact c4, by rw [World.frozen?_setCell]; exact f0, by rw [World.frozen?_setCell]; exact f1, by rw [World.frozen?_setCell]; exact f2, by rw [World.frozen?_setCell]; exact f3, by rw [World.frozen?_setCell]; exact f4, by simpa [World.setCell] using hz⟩

theorem Five.set4 {W : World} {n : Nat} {a b c d e x : Value} (h : Five W n a b c d e) : Five (W.setCell ⟨n, 4, none⟩ x) n a b c d x := by
  obtain ⟨c0, c1, c2, c3, c4, f0, f1, f2, f3, f4, hz⟩ := h
  exact ⟨by rw [World.cell?_setCell_other _ _ _ _ (by simp)]; exact c0, by rw [World.cell?_setCell_other _ _ _ _ (by simp)]; exact c1, by rw [World.cell?_setCell_other _ _ _ _ (by simp)]; exact c2, by rw [World.cell?_setCell_other _ _ _ _ (by simp)]; exact c3, set_same c4, by rw [World.frozen?_setCell]; exact f0, by rw [World.frozen?_setCell]; exact f1, by rw [World.frozen?_setCell]; exact f2, by rw [World.frozen?_setCell]; exact f3, by rw [World.frozen?_setCell]; exact f4, by simpa [World.setCell] using hz⟩

theorem Five.setOther {W : World} {n : Nat} {a b c d e v : Value} {x : Addr} (h : Five W n a b c d e) (hx : x.block ≠ n) : Five (W.setCell x v) n a b c d e := by
  obtain ⟨c0, c1, c2, c3, c4, f0, f1, f2, f3, f4, hz⟩ := h
  exact ⟨by rw [World.cell?_setCell_other _ _ _ _ (fun e => hx (congrArg Addr.block e))]; exact c0, by rw [World.cell?_setCell_other _ _ _ _ (fun e => hx (congrArg Addr.block e))]; exact c1, by rw [World.cell?_setCell_other _ _ _ _ (fun e => hx (congrArg Addr.block e))]; exact c2, by rw [World.cell?_setCell_other _ _ _ _ (fun e => hx (congrArg Addr.block e))]; exact c3, by rw [World.cell?_setCell_other _ _ _ _ (fun e => hx (congrArg Addr.block e))]; exact c4, by rw [World.frozen?_setCell]; exact f0, by rw [World.frozen?_setCell]; exact f1, by rw [World.frozen?_setCell]; exact f2, by rw [World.frozen?_setCell]; exact f3, by rw [World.frozen?_setCell]; exact f4, by simpa [World.setCell] using hz⟩

theorem Five.setAll {W : World} {n : Nat} {a b c d e u0 u1 u2 u3 u4 : Value} (h : Five W n a b c d e) : Five (((((W.setCell ⟨n, 0, none⟩ u0).setCell ⟨n, 1, none⟩ u1).setCell ⟨n, 2, none⟩ u2).setCell ⟨n, 3, none⟩ u3).setCell ⟨n, 4, none⟩ u4) n u0 u1 u2 u3 u4 := h.set0.set1.set2.set3.set4

/-- A command, with a yes or a no. -/
def CmdPairPost (c : Cmd) (ok : Bool) (W : World) (e : Ending) (w' : World) : Prop := e = .returned (.tuple #[cmdV c, .bool ok]) ∧ Below W.heap.size W w'

theorem cmd_results (fn : Func) {i : Nat} (hf : fn.results = #[.cell i 26]) (W : World) (n : Nat) (c : Cmd) (tmps : Array Value) (ht : tmps[i]? = some (.pointer (some ⟨n, 0, none⟩)))
    (h : Five W n (.string c.p) (.int .i64 c.fk) (.int .i64 c.fv) (.int .i64 c.tk) (.int .i64 c.tv)) : (results fn tmps).run Try.prog W = .ok (cmdV c) W := by
  obtain ⟨c0, c1, c2, c3, c4, f0, f1, f2, f3, f4, hz⟩ := h
  simp [results, hf, go_sem, ht, c0, c1, c2, c3, c4, cmdV]

theorem cmdpair_results (fn : Func) (hf : fn.results = #[.cell 2 26, .tmp 3]) (W : World) (n : Nat) (c : Cmd) (b : Bool) (tmps : Array Value) (ht : tmps[2]? = some (.pointer (some ⟨n, 0, none⟩))) (hb : tmps[3]? = some (.bool b))
    (h : Five W n (.string c.p) (.int .i64 c.fk) (.int .i64 c.fv) (.int .i64 c.tk) (.int .i64 c.tv)) : (results fn tmps).run Try.prog W = .ok (.tuple #[cmdV c, .bool b]) W := by
  obtain ⟨c0, c1, c2, c3, c4, f0, f1, f2, f3, f4, hz⟩ := h
  simp [results, hf, go_sem, ht, hb, c0, c1, c2, c3, c4, cmdV]

theorem below_set5 {N : Nat} {W W' : World} {n : Nat} {u0 u1 u2 u3 u4 : Value} (hB : Below N W W') (h : N ≤ n) : Below N W (((((W'.setCell ⟨n, 0, none⟩ u0).setCell ⟨n, 1, none⟩ u1).setCell ⟨n, 2, none⟩ u2).setCell ⟨n, 3, none⟩ u3).setCell ⟨n, 4, none⟩ u4) :=
  below_setCell (below_setCell (below_setCell (below_setCell (below_setCell hB _ _ h) _ _ h) _ _ h) _ _ h) _ _ h

theorem cmd_ret (fn : Func) {i : Nat} (hf : fn.results = #[.cell i 26]) {W W' : World} {a b c d e : Value} {p : ByteArray} {fk fv tk tv : Int} {c' : Cmd} {tmps : Array Value} (hc : c' = ⟨p, fk, fv, tk, tv⟩) (hT : Five W' W.heap.size a b c d e) (hB : Below W.heap.size W W') (ht : tmps[i]? = some (.pointer (some ⟨W.heap.size, 0, none⟩))) :
    bodyPost Try.prog fn (CmdPost c' W) .ret ⟨tmps, []⟩ (((((W'.setCell ⟨W.heap.size, 0, none⟩ (.string p)).setCell ⟨W.heap.size, 1, none⟩ (.int .i64 fk)).setCell ⟨W.heap.size, 2, none⟩ (.int .i64 fv)).setCell ⟨W.heap.size, 3, none⟩ (.int .i64 tk)).setCell ⟨W.heap.size, 4, none⟩ (.int .i64 tv)) := by
  subst hc
  exact bodyPost_ret (cmd_results fn hf _ W.heap.size ⟨p, fk, fv, tk, tv⟩ _ ht hT.setAll) rfl ⟨rfl, below_set5 hB (Nat.le_refl _)⟩

theorem cmdpair_ret (fn : Func) (hf : fn.results = #[.cell 2 26, .tmp 3]) {W W' : World} {a b c d e : Value} {p : ByteArray} {fk fv tk tv : Int} {c' : Cmd} {ok : Bool} {tmps : Array Value} (hc : c' = ⟨p, fk, fv, tk, tv⟩) (hT : Five W' W.heap.size a b c d e) (hB : Below W.heap.size W W') (ht : tmps[2]? = some (.pointer (some ⟨W.heap.size, 0, none⟩))) (hb : tmps[3]? = some (.bool ok)) :
    bodyPost Try.prog fn (CmdPairPost c' ok W) .ret ⟨tmps, []⟩ (((((W'.setCell ⟨W.heap.size, 0, none⟩ (.string p)).setCell ⟨W.heap.size, 1, none⟩ (.int .i64 fk)).setCell ⟨W.heap.size, 2, none⟩ (.int .i64 fv)).setCell ⟨W.heap.size, 3, none⟩ (.int .i64 tk)).setCell ⟨W.heap.size, 4, none⟩ (.int .i64 tv)) := by
  subst hc
  exact bodyPost_ret (cmdpair_results fn hf _ W.heap.size ⟨p, fk, fv, tk, tv⟩ _ _ ht hb hT.setAll) rfl ⟨rfl, below_set5 hB (Nat.le_refl _)⟩

end Go.Proofs.Ytoipbocbgadjbaa
