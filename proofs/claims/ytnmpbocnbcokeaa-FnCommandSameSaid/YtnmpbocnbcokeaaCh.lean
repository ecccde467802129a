/-
  WALKS: drawn commands: spec.DrawCommandValid, DrawCommandUndo, DrawCommandText, DrawCommandApply, DrawCommandParse.
-/
import Derived.Test.YtnmpbocnbcokeaaCg
import Derived.Test.YtnmpbocnbcokeaaTw
namespace Go.Proofs.Ytnmpbocnbcokeaa
open Go.RowKit
set_option linter.unusedVariables false

/-- A drawn command, out of the code. -/
def CmdDrawPost (W : World) (e : Ending) (W' : World) : Prop := ∃ c : Cmd, e = .returned (cmdV c) ∧ c.p.size ≤ 66 ∧ Below W.heap.size W W'

set_option maxHeartbeats 1000000 in
set_option maxRecDepth 100000 in
theorem drawCmdValid_c (a : Option Addr) (len cap : Nat) (zs : List Int) (W : World) (h : IsRow .u8 W a len cap zs) :
    Calls Try.prog 13 #[.slice a len cap] W (CmdDrawPost W) := by
  have HI := Lib.hid h
  have HO := Lib.hid (fun W h => l6Open_c a len cap zs W h)
  have HT := Lib.hid (fun W1 hR => l91Tree_c (W.heap.size + 1 + 1) (W.heap.size + 1) 0 8 (by omega) (by omega) W1 (by omega) hR)
  clear h
  go_enter Try.func13, Try.ntmps13
  go_wp2_with fail
  refine (HO.out _ (HI.out.alloc _)).mono ?_; rintro e W1 ⟨rfl, hR, hB⟩
  have T1 := Lib.hid ((five_new W _ _ _ _ _ _).below hB)
  have B1 := Lib.hid (below_next (below_box W _) hB)
  have hR' : RdAt (W.heap.size + 1 + 1) W1 (W.heap.size + 1) 0 := by simpa using hR
  have HS1 := Lib.hid (show W.heap.size + 1 < W1.heap.size from hR'.lt)
  clear hB hR
  go_wp2_with fail
  refine (HT.out _ hR').mono ?_; rintro e W2 ⟨sl, ns, q, rfl, hown, -, hl, hs, hq, hR2, hg⟩
  have T2 := Lib.hid (T1.out.keep hg (by omega))
  have HG2 := Lib.hid hg
  have HC := Lib.hid (l91Command_c (W.heap.size + 1 + 1) (W.heap.size + 1) q W1.heap.size sl ns (by omega) hs HS1.out W2 hown (by omega) hR2)
  clear hown hl hs hg hR' hq hR2
  go_wp2_with fail
  refine HC.out.mono ?_; rintro e W3 ⟨⟨p, fk, fv, tk, tv⟩, q3, rfl, hp, -, -, hg3⟩
  have T3 := Lib.hid (T2.out.keep hg3 (by omega))
  have HG3 := Lib.hid (grownBy_trans HG2.out hg3)
  have B3 := Lib.hid (B1.out.grown HG3.out B1.out.size (fun g e => by cases e; omega))
  have HP := Lib.hid hp
  clear hg3 hp
  obtain ⟨t0, t1, t2, t3, t4, f0, f1, f2, f3, f4, -⟩ := T3.out
  unfold cmdV
  go_wp2
  exact bodyPost_ret (cmd_results _ rfl _ W.heap.size ⟨p, fk, fv, tk, tv⟩ _ rfl T3.out.setAll) rfl ⟨⟨p, fk, fv, tk, tv⟩, rfl, HP.out, below_set5 B3.out (Nat.le_refl _)⟩

set_option maxHeartbeats 1000000 in
set_option maxRecDepth 100000 in
theorem drawCmdUndo_c (a : Option Addr) (len cap : Nat) (zs : List Int) (W : World) (h : IsRow .u8 W a len cap zs) :
    Calls Try.prog 8 #[.slice a len cap] W (CmdDrawPost W) := by
  have HI := Lib.hid h
  have HV := Lib.hid (fun W h => drawCmdValid_c a len cap zs W h)
  clear h
  go_enter Try.func8, Try.ntmps8
  go_wp2_with fail
  refine (HV.out _ (HI.out.alloc _)).mono ?_; rintro e W1 ⟨⟨p, fk, fv, tk, tv⟩, rfl, hp, hB⟩
  have T1 := Lib.hid ((five_new W _ _ _ _ _ _).below hB)
  have B1 := Lib.hid (below_next (below_box W _) hB)
  have HP := Lib.hid hp
  clear hB hp
  obtain ⟨t0, t1, t2, t3, t4, f0, f1, f2, f3, f4, -⟩ := T1.out
  unfold cmdV
  go_wp2
  exact bodyPost_ret (cmd_results _ rfl _ W.heap.size ⟨p, fk, fv, tk, tv⟩ _ rfl T1.out.setAll) rfl ⟨⟨p, fk, fv, tk, tv⟩, rfl, HP.out, below_set5 B1.out (Nat.le_refl _)⟩

def cmdTwists : List ByteArray := [⟨#[]⟩, ⟨#[32]⟩, ⟨#[47]⟩, ⟨#[97]⟩, ⟨#[48]⟩, ⟨#[102]⟩, ⟨#[100]⟩, ⟨#[45]⟩]

/-- A drawn tree and a drawn command. -/
def ListCmdPost (W : World) (e : Ending) (W' : World) : Prop := ∃ (sl : Value) (ns : List Nd) (c : Cmd), e = .returned (.tuple #[sl, cmdV c]) ∧ c.p.size ≤ 66 ∧ Drawn W W' sl ns

theorem listcmd_results (fn : Func) (hf : fn.results = #[.tmp 2, .cell 3 26]) (W : World) (n : Nat) (c : Cmd) (sl : Value) (tmps : Array Value) (h2 : tmps[2]? = some sl) (ht : tmps[3]? = some (.pointer (some ⟨n, 0, none⟩)))
    (h : Five W n (.string c.p) (.int .i64 c.fk) (.int .i64 c.fv) (.int .i64 c.tk) (.int .i64 c.tv)) : (results fn tmps).run Try.prog W = .ok (.tuple #[sl, cmdV c]) W := by
  obtain ⟨c0, c1, c2, c3, c4, -⟩ := h
  simp [results, hf, go_sem, h2, ht, c0, c1, c2, c3, c4, cmdV]

theorem own_set5 {W : World} {base : Nat} {e : TypeId} {size n m : Nat} {v : Value} {xs : List Value} {u0 u1 u2 u3 u4 : Value} (h : W.ownsRow base e size v n xs) (hm : m < base) : (((((W.setCell ⟨m, 0, none⟩ u0).setCell ⟨m, 1, none⟩ u1).setCell ⟨m, 2, none⟩ u2).setCell ⟨m, 3, none⟩ u3).setCell ⟨m, 4, none⟩ u4).ownsRow base e size v n xs :=
  own_setOther (own_setOther (own_setOther (own_setOther (own_setOther h _ _ hm) _ _ hm) _ _ hm) _ _ hm) _ _ hm

end Go.Proofs.Ytnmpbocnbcokeaa
