/-
  Texts of this proof, one behind the other: Ch, Sm, Pr, At, Cn, Cp, Pl, Cw, Np, Sp, Cz, Cq, Iz, Qc, Ev, Tc, To, Sz, Sg, Eq, Cb, Oc, On, En, Mk.
-/
import Derived.Lib.AtoiAll
import Derived.Lib.AtoiAllCases
import Derived.Shelf.LaysC
import Derived.Shelf.Strconv.AtoiAll
import Derived.Test.YtnmpbocnbcokeaaDoorChecked
import Derived.Lib.AtoiErrMem
import Derived.Lib.AtoiAllMem
import Derived.Lib.SplitLaws
import Derived.Lib.IndexBytes
import Derived.Lib.IndexLaws
import Derived.Shelf.Strings.Split
import Derived.Shelf.Vars
import Derived.Laws.Cover1
import Derived.Laws.StructEq
import Derived.Test.YtnmpbocnbcokeaaDoorRows
import Derived.LaidLaws
import Derived.LaidMore
import Derived.MakeChecks
import Derived.FnData
import Derived.Lib.SmallJoins
import Derived.Deep.Slices
import Derived.Deep.Fields
import Derived.ChangeSame
import Derived.ChangeArms
import Derived.Deep.RegionHeld3
import Derived.Deep.Cut
import Derived.Laws.Concat
import Derived.Laws.Runes
import Derived.Laws.BytesString
import Derived.Test.YtnmpbocnbcokeaaDoorK3
/-
  WALKS: drawn commands: spec.DrawCommandValid, DrawCommandUndo, DrawCommandText, DrawCommandApply, DrawCommandParse.
-/
namespace Go.Proofs.YtnmpbocnbcokeaaDoor
open Go.RowKit
set_option linter.unusedVariables false

/-- A drawn command, out of the code. -/
def CmdDrawPost (W : World) (e : Ending) (W' : World) : Prop := ∃ c : Cmd, e = .returned (cmdV c) ∧ c.p.size ≤ 66 ∧ Below W.heap.size W W'

set_option maxHeartbeats 1000000 in
set_option maxRecDepth 100000 in
theorem drawCmdValid_c (a : Option Addr) (len cap : Nat) (zs : List Int) (W : World) (h : IsRow .u8 W a len cap zs) :
    Calls Tryd.prog 50 #[.slice a len cap] W (CmdDrawPost W) := by
  have HI := Lib.hid h
  have HO := Lib.hid (fun W h => l6Open_c a len cap zs W h)
  have HT := Lib.hid (fun W1 hR => l91Tree_c (W.heap.size + 1 + 1) (W.heap.size + 1) 0 8 (by omega) (by omega) W1 (by omega) hR)
  clear h
  go_enter Tryd.func50, Tryd.ntmps50
  go_wp2_with fail
  refine (HO.out _ (HI.out.alloc _)).mono ?_; rintro e W1 ⟨rfl, hR, hB⟩
  have T1 := Lib.hid ((five_new W _ _ _ _ _ _).below hB)
  have B1 := Lib.hid (below_next (below_box W _) hB)
  have hR' : RdAt (W.heap.size + 1 + 1) W1 (W.heap.size + 1) 0 := by simpa using hR
  have HS1 := Lib.hid (show W.heap.size + 1 < W1.heap.size from hR'.lt)
  clear hB hR
  go_wp2_with fail
  refine (HT.out _ hR').mono ?_; rintro e W2 ⟨sl, ns, q, rfl, hown, -, hl, hs, hq, hR2, hg⟩
  have T2 := Lib.hid (T1.out.keep hg (by omega))
  have HG2 := Lib.hid hg
  have HC := Lib.hid (l91Command_c (W.heap.size + 1 + 1) (W.heap.size + 1) q W1.heap.size sl ns (by omega) hs HS1.out W2 hown (by omega) hR2)
  clear hown hl hs hg hR' hq hR2
  go_wp2_with fail
  refine HC.out.mono ?_; rintro e W3 ⟨⟨p, fk, fv, tk, tv⟩, q3, rfl, hp, -, -, hg3⟩
  have T3 := Lib.hid (T2.out.keep hg3 (by omega))
  have HG3 := Lib.hid (grownBy_trans HG2.out hg3)
  have B3 := Lib.hid (B1.out.grown HG3.out B1.out.size (fun g e => by cases e; omega))
  have HP := Lib.hid hp
  clear hg3 hp
  obtain ⟨t0, t1, t2, t3, t4, f0, f1, f2, f3, f4, -⟩ := T3.out
  unfold cmdV
  go_wp2
  exact bodyPost_ret (cmd_results _ rfl _ W.heap.size ⟨p, fk, fv, tk, tv⟩ _ rfl T3.out.setAll) rfl ⟨⟨p, fk, fv, tk, tv⟩, rfl, HP.out, below_set5 B3.out (Nat.le_refl _)⟩

set_option maxHeartbeats 1000000 in
set_option maxRecDepth 100000 in
theorem drawCmdText_c (a : Option Addr) (len cap : Nat) (zs : List Int) (W : World) (h : IsRow .u8 W a len cap zs) :
    Calls Tryd.prog 18 #[.slice a len cap] W (CmdDrawPost W) := by
  have HI := Lib.hid h
  have HV := Lib.hid (fun W h => drawCmdValid_c a len cap zs W h)
  clear h
  go_enter Tryd.func18, Tryd.ntmps18
  go_wp2_with fail
  refine (HV.out _ (HI.out.alloc _)).mono ?_; rintro e W1 ⟨⟨p, fk, fv, tk, tv⟩, rfl, hp, hB⟩
  have T1 := Lib.hid ((five_new W _ _ _ _ _ _).below hB)
  have B1 := Lib.hid (below_next (below_box W _) hB)
  have HP := Lib.hid hp
  clear hB hp
  obtain ⟨t0, t1, t2, t3, t4, f0, f1, f2, f3, f4, -⟩ := T1.out
  unfold cmdV
  go_wp2
  exact bodyPost_ret (cmd_results _ rfl _ W.heap.size ⟨p, fk, fv, tk, tv⟩ _ rfl T1.out.setAll) rfl ⟨⟨p, fk, fv, tk, tv⟩, rfl, HP.out, below_set5 B1.out (Nat.le_refl _)⟩

def cmdTwists : List ByteArray := [⟨#[]⟩, ⟨#[32]⟩, ⟨#[47]⟩, ⟨#[97]⟩, ⟨#[48]⟩, ⟨#[102]⟩, ⟨#[100]⟩, ⟨#[45]⟩]

set_option maxHeartbeats 1000000 in
set_option maxRecDepth 100000 in
theorem drawCmdParse_c (a : Option Addr) (len cap : Nat) (zs : List Int) (W : World) (h : IsRow .u8 W a len cap zs) :
    Calls Tryd.prog 22 #[.slice a len cap] W (DrawPost 64 W) := by
  have HO := Lib.hid (l6Open_c a len cap zs W h)
  have HT := Lib.hid (fun W1 hR => l91Tree_c (W.heap.size + 1) W.heap.size 0 8 (by omega) (by omega) W1 (by omega) hR)
  clear h
  go_enter Tryd.func22, Tryd.ntmps22
  go_wp2_with fail
  refine HO.out.mono ?_; rintro e W1 ⟨rfl, hR, hB⟩
  have HS1 := Lib.hid (show W.heap.size < W1.heap.size from hR.lt)
  have HB1 := Lib.hid hB
  clear hB
  go_wp2_with fail
  refine (HT.out _ hR).mono ?_; rintro e W2 ⟨sl, ns, q, rfl, hown, -, hl, hs, hq, hR2, hg⟩
  have HG2 := Lib.hid hg
  have HC := Lib.hid (l91Command_c (W.heap.size + 1) W.heap.size q W1.heap.size sl ns (by omega) hs HS1.out W2 hown (by omega) hR2)
  have HQ := Lib.hid hq
  clear hown hl hs hg hR hq hR2
  go_wp2_with fail
  refine HC.out.mono ?_; rintro e W3 ⟨c, q3, rfl, hp, hq3, hR3, hg3⟩
  have B3 := Lib.hid (below_of_reader HB1.out (grownBy_trans HG2.out hg3))
  have HTX := Lib.hid (fun W' => specCmdText_c c (by omega) W')
  have HQ3 := Lib.hid (show q3 ≤ 677 by have := HQ.out; omega)
  clear hg3 hp hq3
  go_wp2_with fail
  refine (HTX.out _).mono ?_; rintro e W4 ⟨rfl, hb4⟩
  have B4 := Lib.hid (below_next B3.out hb4)
  have hR4 := hR3.keep hb4
  clear hR3 hb4
  have hsz := textC_size c
  generalize textC c = s at hsz
  have HW := Lib.hid (fun W5 hR hc => l91Twist_c (W.heap.size + 1) W.heap.size q3 W4.heap.size 8 s (by omega) cmdTwists (by decide) (by decide) (by decide) (by have := hR4.lt; omega) W5 (by have := HQ3.out; omega) hR hc)
  have HS := Lib.hid hsz
  clear hsz
  go_wp2_with fail
  refine (HW.out _ (hR4.alloc _) ?_).mono ?_
  · intro j x hj
    rw [World.cell?_alloc_new]
    rcases j with _ | _ | _ | _ | _ | _ | _ | _ | j <;> simp [cmdTwists] at hj ⊢ <;> exact hj
  rintro e W5 ⟨t, q', rfl, ht, -, -, hg5⟩
  have H5 := Lib.hid (show t.size ≤ 64 by have := HS.out; omega)
  have B5 := Lib.hid (below_of_reader (B4.out.trans ((below_box W4 _).mono B4.out.size)) hg5)
  clear ht hg5
  go_wp2
  go_ret
  exact ⟨t, rfl, H5.out, B5.out⟩

/-- A drawn tree and a drawn command. -/
def ListCmdPost (W : World) (e : Ending) (W' : World) : Prop := ∃ (sl : Value) (ns : List Nd) (c : Cmd), e = .returned (.tuple #[sl, cmdV c]) ∧ c.p.size ≤ 66 ∧ Drawn W W' sl ns

theorem listcmd_results (fn : Func) (hf : fn.results = #[.tmp 2, .cell 3 27]) (W : World) (n : Nat) (c : Cmd) (sl : Value) (tmps : Array Value) (h2 : tmps[2]? = some sl) (ht : tmps[3]? = some (.pointer (some ⟨n, 0, none⟩)))
    (h : Five W n (.string c.p) (.int .i64 c.fk) (.int .i64 c.fv) (.int .i64 c.tk) (.int .i64 c.tv)) : (results fn tmps).run Tryd.prog W = .ok (.tuple #[sl, cmdV c]) W := by
  obtain ⟨c0, c1, c2, c3, c4, -⟩ := h
  simp [results, hf, go_sem, h2, ht, c0, c1, c2, c3, c4, cmdV]

theorem own_set5 {W : World} {base : Nat} {e : TypeId} {size n m : Nat} {v : Value} {xs : List Value} {u0 u1 u2 u3 u4 : Value} (h : W.ownsRow base e size v n xs) (hm : m < base) : (((((W.setCell ⟨m, 0, none⟩ u0).setCell ⟨m, 1, none⟩ u1).setCell ⟨m, 2, none⟩ u2).setCell ⟨m, 3, none⟩ u3).setCell ⟨m, 4, none⟩ u4).ownsRow base e size v n xs :=
  own_setOther (own_setOther (own_setOther (own_setOther (own_setOther h _ _ hm) _ _ hm) _ _ hm) _ _ hm) _ _ hm

set_option maxHeartbeats 1000000 in
set_option maxRecDepth 100000 in
theorem drawCmdApply_c (a : Option Addr) (len cap : Nat) (zs : List Int) (W : World) (h : IsRow .u8 W a len cap zs) :
    Calls Tryd.prog 9 #[.slice a len cap] W (ListCmdPost W) := by
  have HI := Lib.hid h
  have HO := Lib.hid (fun W h => l6Open_c a len cap zs W h)
  have HT := Lib.hid (fun W1 hR => l91Any_c (W.heap.size + 1 + 1) (W.heap.size + 1) 0 W1 (by omega) hR)
  clear h
  go_enter Tryd.func9, Tryd.ntmps9
  go_wp2_with fail
  refine (HO.out _ (HI.out.alloc _)).mono ?_; rintro e W1 ⟨rfl, hR, hB⟩
  have T1 := Lib.hid ((five_new W _ _ _ _ _ _).below hB)
  have B1 := Lib.hid (below_next (below_box W _) hB)
  have hR' : RdAt (W.heap.size + 1 + 1) W1 (W.heap.size + 1) 0 := by simpa using hR
  have HS1 := Lib.hid (show W.heap.size + 1 < W1.heap.size from hR'.lt)
  clear hB hR
  go_wp2_with fail
  refine (HT.out _ hR').mono ?_; rintro e W2 ⟨sl, ns, q, rfl, hown, -, hl, hs, hq, hR2, hg⟩
  have T2 := Lib.hid (T1.out.keep hg (by omega))
  have HG2 := Lib.hid hg
  have HX := Lib.hid (And.intro hl (And.intro hs hown))
  have HC := Lib.hid (l91Command_c (W.heap.size + 1 + 1) (W.heap.size + 1) q W1.heap.size sl ns (by omega) hs HS1.out W2 hown (by omega) hR2)
  clear hown hl hs hg hR' hq hR2
  go_wp2_with fail
  refine HC.out.mono ?_; rintro e W3 ⟨⟨p, fk, fv, tk, tv⟩, q3, rfl, hp, -, -, hg3⟩
  have T3 := Lib.hid (T2.out.keep hg3 (by omega))
  have HG3 := Lib.hid (grownBy_trans HG2.out hg3)
  have HO3 := Lib.hid (own_reader HX.out.2.2 HS1.out hg3)
  have B3 := Lib.hid (B1.out.grown HG3.out B1.out.size (fun g e => by cases e; omega))
  have HP := Lib.hid hp
  clear hg3 hp
  obtain ⟨t0, t1, t2, t3, t4, f0, f1, f2, f3, f4, -⟩ := T3.out
  unfold cmdV
  go_wp2
  have hlt1 : W.heap.size < W1.heap.size := by have := HS1.out; omega
  exact bodyPost_ret (listcmd_results _ rfl _ W.heap.size ⟨p, fk, fv, tk, tv⟩ sl _ rfl rfl T3.out.setAll) rfl ⟨sl, ns, ⟨p, fk, fv, tk, tv⟩, rfl, HP.out, own_mono (own_set5 HO3.out hlt1) (Nat.le_of_lt hlt1), HX.out.1, HX.out.2.1, below_set5 B3.out (Nat.le_refl _)⟩

end Go.Proofs.YtnmpbocnbcokeaaDoor

/-
  WALKS: laws.sameNodes, laws.sameTexts at equal lists.
-/
namespace Go.Proofs.YtnmpbocnbcokeaaDoor
open Go.RowKit
set_option linter.unusedVariables false

/-- A list of texts in memory. -/
def TextsAt (W : World) (a : Option Addr) (len : Nat) (xs : List ByteArray) : Prop :=
  xs.length = len ∧ (len = 0 ∨ ∃ b off, a = some ⟨b, off, none⟩ ∧ ∀ i x, xs[i]? = some x → W.cell? ⟨b, off + i, none⟩ = some (.string x))

theorem TextsAt.keep {W W' : World} {a : Option Addr} {len : Nat} {xs : List ByteArray} (h : TextsAt W a len xs) (hb : Below W.heap.size W W') : TextsAt W' a len xs := by
  obtain ⟨h1, h0 | ⟨b, off, ha, hc⟩⟩ := h
  · exact ⟨h1, .inl h0⟩
  · exact ⟨h1, .inr ⟨b, off, ha, fun i x hx => cell_kept hb (hc i x hx)⟩⟩

theorem texts_of_own {W : World} {base : Nat} {e : TypeId} {v : Value} {xs : List ByteArray} (h : W.ownsRow base e 1 v xs.length (xs.map Value.string)) :
    ∃ a cap, v = .slice a xs.length cap ∧ TextsAt W a xs.length xs := by
  rcases h.2 with ⟨rfl, h0⟩ | ⟨g, cap, cur, rfl, h1, h2, h3, h4, h5, h6⟩
  · exact ⟨none, 0, by rw [h0], rfl, .inl h0⟩
  · refine ⟨some ⟨g, 0, none⟩, cap, rfl, rfl, .inr ⟨g, 0, rfl, fun i x hx => ?_⟩⟩
    have hi := (List.getElem?_eq_some_iff.1 hx).1
    rw [Nat.zero_add, h.cellAt i (by omega), List.getElem?_map, hx]
    rfl

theorem below_drewN {n : Nat} {W W' : World} (h : Below n W W') (k : Nat) : Below n W (W'.drewN k) := by
  have e := (drewN_cell W' k ⟨0, 0, none⟩).2.2
  exact ⟨h.os, h.tape, h.output, by rw [e]; exact h.size, fun j hj => by rw [e]; exact h.block j hj⟩

theorem TextsAt.node {W : World} {a : Option Addr} {len : Nat} {xs : List ByteArray} (h : TextsAt W a len xs) {i : Nat} (hi : i < len) :
    ∃ b off x, a = some ⟨b, off, none⟩ ∧ xs[i]? = some x ∧ W.cell? ⟨b, off + i, none⟩ = some (.string x) := by
  obtain ⟨h1, h0 | ⟨b, off, ha, hc⟩⟩ := h
  · omega
  · obtain ⟨x, hx⟩ : ∃ x, xs[i]? = some x := ⟨_, List.getElem?_eq_getElem (by omega)⟩
    exact ⟨b, off, x, ha, hx, hc i x hx⟩

set_option maxHeartbeats 1000000 in
theorem sameNodes_c (a1 a2 : Option Addr) (len c1 c2 : Nat) (ns : List Nd) (hl : len ≤ 2097152) (W : World) (h1 : NodesAt W a1 len ns) (h2 : NodesAt W a2 len ns) :
    Calls Tryd.prog 12 #[.slice a1 len c1, .slice a2 len c2] W (BoolPost true W) := by
  have H1 := Lib.hid h1
  have H2 := Lib.hid h2
  clear h1 h2
  go_enter Tryd.func12, Tryd.ntmps12
  go_wp2
  go_loopw [5] (fun i wr => ∃ n : Nat, i = .int .i64 n ∧ n ≤ len ∧ Hid (Below W.heap.size W wr)) (fun i _ => len - (intOf i).toNat)
  case atStart => exact ⟨0, rfl, by omega, Below.refl _ _⟩
  case round =>
    obtain ⟨i, rfl, hi, HB⟩ := hrel
    by_cases hlt : i < len
    · obtain ⟨b, off, n, rfl, hn, x0, x1, x2⟩ := (H1.out.keep HB.out).node hlt
      obtain ⟨b', off', n', rfl, hn', y0, y1, y2⟩ := (H2.out.keep HB.out).node hlt
      obtain rfl : n = n' := Option.some.inj (hn.symm.trans hn')
      have hlt' : (i : Int) < len := by omega
      have hi0 : (0 : Int) ≤ i := by omega
      have HLT := Lib.hid hlt
      clear hi hlt hn hn'
      go_wp2
      go_quiet (fail)
      have HB2 := Lib.hid (below_drewN HB.out nq)
      clear x0 x1 x2 y0 y1 y2
      go_wp2
      go_roundw
      case rel => exact ⟨i + 1, by go_num, by have := HLT.out; omega, HB2⟩
      case measure => have := HLT.out; simp [intOf]; omega
    · have hge : (len : Int) ≤ i := by omega
      clear hi hlt
      go_wp2
      go_ret
      exact ⟨rfl, HB.out⟩

end Go.Proofs.YtnmpbocnbcokeaaDoor

/-
  PLAIN MATHEMATICS: what a text names as a content.
-/
namespace Go.Proofs.YtnmpbocnbcokeaaDoor

/-- The text of a file. -/
def fB (n : Nat) : ByteArray := ⟨#[102]⟩ ++ decB n

/-- The value that a text names, if it is that of a file. -/
def findF (s : ByteArray) : Option Nat := (List.range 100).find? (fun n => decide (s = fB n))

/-- What a text names: kind, value, and whether it is the text of a content. -/
def parseR (s : ByteArray) : Int × Int × Bool :=
  if s = ⟨#[45]⟩ then (0, 0, true) else if s = ⟨#[100]⟩ then (1, 0, true) else match findF s with
    | some n => (2, n, true)
    | none => (0, 0, false)

theorem toNat_digit {i : Nat} (h : i < 10) : (UInt8.ofNat (48 + i)).toNat = 48 + i := by
  rw [UInt8.toNat_ofNat']; omega

theorem atoi_dec {n : Nat} (h : n < 100) : Lib.atoiAll (Lib.decDigits n) = .ok (n : Int) := by
  by_cases h1 : n < 10
  · rw [Lib.decDigits_one h1]
    have t := toNat_digit h1
    rw [Lib.atoiAll_plain _ _ (by omega) (by omega)]
    have e3 : 48 ≤ 48 + n ∧ 48 + n ≤ 57 := by omega
    simp only [Lib.parseMag, List.cons_ne_nil, if_false, Lib.parseUint10, t, if_pos e3]
    rw [if_neg (by omega), if_neg (by omega), show 0 * 10 + (48 + n - 48) = n by omega]
    unfold Lib.signless
    simp
    omega
  · rw [Lib.decDigits_two h1 h]
    have ta := toNat_digit (show n / 10 < 10 by omega)
    have tb := toNat_digit (show n % 10 < 10 by omega)
    rw [Lib.atoiAll_plain _ _ (by omega) (by omega)]
    have e3 : 48 ≤ 48 + n / 10 ∧ 48 + n / 10 ≤ 57 := by omega
    have e4 : 48 ≤ 48 + n % 10 ∧ 48 + n % 10 ≤ 57 := by omega
    simp only [Lib.parseMag, List.cons_ne_nil, if_false, Lib.parseUint10, ta, tb, if_pos e3, if_pos e4]
    rw [if_neg (by omega), if_neg (by omega), if_neg (by omega), if_neg (by omega), show (0 * 10 + (48 + n / 10 - 48)) * 10 + (48 + n % 10 - 48) = n by omega]
    unfold Lib.signless
    simp
    omega

theorem fB_data (n : Nat) : (fB n).data.toList = 102 :: Lib.decDigits n := by
  unfold fB decB
  rw [ByteArray.data_append]
  simp

theorem fB_inj {a b : Nat} (ha : a < 100) (hb : b < 100) (h : fB a = fB b) : a = b := by
  have e : Lib.decDigits a = Lib.decDigits b := by
    have := congrArg (fun s : ByteArray => s.data.toList) h
    simpa [fB_data] using this
  have h1 := atoi_dec ha
  rw [e, atoi_dec hb] at h1
  injection h1 with h1
  omega

theorem findF_some {s : ByteArray} {n : Nat} (h : findF s = some n) : n < 100 ∧ s = fB n := by
  unfold findF at h
  have h1 := List.find?_some h
  have h2 := List.mem_of_find?_eq_some h
  exact ⟨List.mem_range.1 h2, by simpa using h1⟩

theorem findF_fB {n : Nat} (h : n < 100) : findF (fB n) = some n := by
  cases hf : findF (fB n) with
  | some m =>
    obtain ⟨hm, he⟩ := findF_some hf
    rw [fB_inj h hm he]
  | none =>
    unfold findF at hf
    rw [List.find?_eq_none] at hf
    exact absurd (by simp) (hf n (List.mem_range.2 h))

theorem findF_none {s : ByteArray} (h : ∀ n, n < 100 → s ≠ fB n) : findF s = none := by
  unfold findF
  rw [List.find?_eq_none]
  intro n hn
  simpa using h n (List.mem_range.1 hn)

theorem conText_file {n : Nat} (h : n < 100) : conText 2 n = fB n := by
  have : validB 2 (n : Int) = true := by unfold validB; simp; omega
  unfold conText; rw [this]; rfl

/-- What is read as a value and is written alike is the text of a file. -/
theorem conText_is {v : Int} {s : ByteArray} (h : conText 2 v = s) (hs : s ≠ ⟨#[]⟩) : ∃ n : Nat, n < 100 ∧ v = n ∧ s = fB n := by
  by_cases hv : validB 2 v = true
  · have hv' := hv
    unfold validB at hv'
    simp at hv'
    obtain ⟨n, rfl⟩ := Int.eq_ofNat_of_zero_le hv'.1
    exact ⟨n, by omega, rfl, by rw [← h, conText_file (by omega)]⟩
  · exact absurd (by rw [← h, ← conText_bad (by simpa using hv)]) hs

end Go.Proofs.YtnmpbocnbcokeaaDoor

/-
  strconv.Atoi at every text, by the library's contracts, at this program's numbers.
-/
namespace Go.Proofs.YtnmpbocnbcokeaaDoor
open Go.Shelf Go.RowKit
def At.laysC172_ren : Go.Shelf.Ren := ⟨fun | 172 => 94 | 244 => 103 | 245 => 104 | 247 => 111 | 279 => 112 | 280 => 113 | 281 => 114 | 282 => 115 | 287 => 118 | 316 => 119 | 171 => 121 | 205 => 120 | 321 => 122 | 322 => 123 | 243 => 124 | 246 => 125 | 283 => 126 | 284 => 127 | 285 => 128 | 286 => 129 | 129 => 131 | 317 => 130 | 318 => 132 | 319 => 133 | 320 => 134 | 337 => 135 | 338 => 136 | n => n, fun | 9 => 9 | 3 => 3 | 75 => 59 | 76 => 145 | 4 => 4 | 5 => 5 | 167 => 152 | 37 => 22 | 0 => 0 | 85 => 153 | 2 => 2 | 168 => 155 | 53 => 165 | 175 => 166 | 46 => 151 | 210 => 169 | 127 => 172 | 145 => 175 | 143 => 173 | 21 => 21 | 171 => 177 | 173 => 180 | 212 => 183 | 51 => 162 | 20 => 20 | 213 => 184 | 232 => 188 | 233 => 189 | 80 => 114 | n => n, fun | 15 => 5 | 16 => 6 | 17 => 7 | 18 => 8 | 19 => 9 | n => n⟩
theorem At.laysC172 : Go.Proofs.LaysC.n172 Tryd.prog At.laysC172_ren := {
  mixed := by kernel_rfl
  f129 := Tryd.func131.trans (congrArg some (by kernel_rfl))
  f171 := Tryd.func121.trans (congrArg some (by kernel_rfl))
  f172 := Tryd.func94.trans (congrArg some (by kernel_rfl))
  f205 := Tryd.func120.trans (congrArg some (by kernel_rfl))
  f243 := Tryd.func124.trans (congrArg some (by kernel_rfl))
  f244 := Tryd.func103.trans (congrArg some (by kernel_rfl))
  f245 := Tryd.func104.trans (congrArg some (by kernel_rfl))
  f246 := Tryd.func125.trans (congrArg some (by kernel_rfl))
  f247 := Tryd.func111.trans (congrArg some (by kernel_rfl))
  f279 := Tryd.func112.trans (congrArg some (by kernel_rfl))
  f280 := Tryd.func113.trans (congrArg some (by kernel_rfl))
  f281 := Tryd.func114.trans (congrArg some (by kernel_rfl))
  f282 := Tryd.func115.trans (congrArg some (by kernel_rfl))
  f283 := Tryd.func126.trans (congrArg some (by kernel_rfl))
  f284 := Tryd.func127.trans (congrArg some (by kernel_rfl))
  f285 := Tryd.func128.trans (congrArg some (by kernel_rfl))
  f286 := Tryd.func129.trans (congrArg some (by kernel_rfl))
  f287 := Tryd.func118.trans (congrArg some (by kernel_rfl))
  f316 := Tryd.func119.trans (congrArg some (by kernel_rfl))
  f317 := Tryd.func130.trans (congrArg some (by kernel_rfl))
  f318 := Tryd.func132.trans (congrArg some (by kernel_rfl))
  f319 := Tryd.func133.trans (congrArg some (by kernel_rfl))
  f320 := Tryd.func134.trans (congrArg some (by kernel_rfl))
  f321 := Tryd.func122.trans (congrArg some (by kernel_rfl))
  f322 := Tryd.func123.trans (congrArg some (by kernel_rfl))
  f337 := Tryd.func135.trans (congrArg some (by kernel_rfl))
  f338 := Tryd.func136.trans (congrArg some (by kernel_rfl))
  t0 := Tryd.underlying0
  a0 := Tryd.isAgg0
  z0 := Tryd.sizeOf0
  v0 := Tryd.zeroValue0
  t2 := Tryd.underlying2
  a2 := Tryd.isAgg2
  z2 := Tryd.sizeOf2
  v2 := Tryd.zeroValue2
  t3 := Tryd.underlying3
  a3 := Tryd.isAgg3
  z3 := Tryd.sizeOf3
  v3 := Tryd.zeroValue3
  t4 := Tryd.underlying4
  a4 := Tryd.isAgg4
  z4 := Tryd.sizeOf4
  v4 := Tryd.zeroValue4
  t5 := Tryd.underlying5
  a5 := Tryd.isAgg5
  z5 := Tryd.sizeOf5
  v5 := Tryd.zeroValue5
  t9 := Tryd.underlying9
  a9 := Tryd.isAgg9
  z9 := Tryd.sizeOf9
  v9 := Tryd.zeroValue9
  t20 := Tryd.underlying20
  a20 := Tryd.isAgg20
  z20 := Tryd.sizeOf20
  v20 := Tryd.zeroValue20
  t21 := Tryd.underlying21
  a21 := Tryd.isAgg21
  z21 := Tryd.sizeOf21
  v21 := Tryd.zeroValue21
  t37 := Tryd.underlying22
  a37 := Tryd.isAgg22
  z37 := Tryd.sizeOf22
  v37 := Tryd.zeroValue22
  t46 := Tryd.underlying151
  a46 := Tryd.isAgg151
  z46 := Tryd.sizeOf151
  v46 := Tryd.zeroValue151
  t51 := Tryd.underlying162
  a51 := Tryd.isAgg162
  z51 := Tryd.sizeOf162
  v51 := Tryd.zeroValue162
  t53 := Tryd.underlying165
  a53 := Tryd.isAgg165
  z53 := Tryd.sizeOf165
  v53 := Tryd.zeroValue165
  t75 := Tryd.underlying59
  a75 := Tryd.isAgg59
  z75 := Tryd.sizeOf59
  v75 := Tryd.zeroValue59
  t76 := Tryd.underlying145
  a76 := Tryd.isAgg145
  z76 := Tryd.sizeOf145
  v76 := Tryd.zeroValue145
  t85 := Tryd.underlying153
  a85 := Tryd.isAgg153
  z85 := Tryd.sizeOf153
  v85 := Tryd.zeroValue153
  t127 := Tryd.underlying172
  a127 := Tryd.isAgg172
  z127 := Tryd.sizeOf172
  v127 := Tryd.zeroValue172
  t143 := Tryd.underlying173
  a143 := Tryd.isAgg173
  z143 := Tryd.sizeOf173
  v143 := Tryd.zeroValue173
  t145 := Tryd.underlying175
  a145 := Tryd.isAgg175
  z145 := Tryd.sizeOf175
  v145 := Tryd.zeroValue175
  t167 := Tryd.underlying152
  a167 := Tryd.isAgg152
  z167 := Tryd.sizeOf152
  v167 := Tryd.zeroValue152
  t168 := Tryd.underlying155
  a168 := Tryd.isAgg155
  z168 := Tryd.sizeOf155
  v168 := Tryd.zeroValue155
  t171 := Tryd.underlying177
  a171 := Tryd.isAgg177
  z171 := Tryd.sizeOf177
  v171 := Tryd.zeroValue177
  t173 := Tryd.underlying180
  a173 := Tryd.isAgg180
  z173 := Tryd.sizeOf180
  v173 := Tryd.zeroValue180
  t175 := Tryd.underlying166
  a175 := Tryd.isAgg166
  z175 := Tryd.sizeOf166
  v175 := Tryd.zeroValue166
  t210 := Tryd.underlying169
  a210 := Tryd.isAgg169
  z210 := Tryd.sizeOf169
  v210 := Tryd.zeroValue169
  t212 := Tryd.underlying183
  a212 := Tryd.isAgg183
  z212 := Tryd.sizeOf183
  v212 := Tryd.zeroValue183
  t213 := Tryd.underlying184
  a213 := Tryd.isAgg184
  z213 := Tryd.sizeOf184
  t232 := Tryd.underlying188
  a232 := Tryd.isAgg188
  z232 := Tryd.sizeOf188
  v232 := Tryd.zeroValue188
  t233 := Tryd.underlying189
  a233 := Tryd.isAgg189
  z233 := Tryd.sizeOf189
  v233 := Tryd.zeroValue189
  g15 := by kernel_rfl
  g16 := by kernel_rfl
  g17 := by kernel_rfl
  g18 := by kernel_rfl
  g19 := by kernel_rfl
  t80 := Tryd.underlying114
  a80 := Tryd.isAgg114
  z80 := Tryd.sizeOf114
  v80 := Tryd.zeroValue114
  i0 := by kernel_rfl
  i2 := by kernel_rfl
  i3 := by kernel_rfl
  i4 := by kernel_rfl
  i5 := by kernel_rfl
  i9 := by kernel_rfl
  i20 := by kernel_rfl
  i21 := by kernel_rfl
  i37 := by kernel_rfl
  i46 := by kernel_rfl
  i51 := by kernel_rfl
  i53 := by kernel_rfl
  i75 := by kernel_rfl
  i76 := by kernel_rfl
  i80 := by kernel_rfl
  i85 := by kernel_rfl
  i127 := by kernel_rfl
  i143 := by kernel_rfl
  i145 := by kernel_rfl
  i167 := by kernel_rfl
  i168 := by kernel_rfl
  i171 := by kernel_rfl
  i173 := by kernel_rfl
  i175 := by kernel_rfl
  i210 := by kernel_rfl
  i212 := by kernel_rfl
  i232 := by kernel_rfl
  i233 := by kernel_rfl
  m15 := by kernel_rfl
  m16 := by kernel_rfl
  m17 := by kernel_rfl
  m18 := by kernel_rfl
  m19 := by kernel_rfl
  c0 := by kernel_rfl
  c2 := by kernel_rfl
  c3 := by kernel_rfl
  c4 := by kernel_rfl
  c5 := by kernel_rfl
  c9 := by kernel_rfl
  c20 := by kernel_rfl
  c21 := by kernel_rfl
  c37 := by kernel_rfl
  c46 := by kernel_rfl
  c51 := by kernel_rfl
  c53 := by kernel_rfl
  c75 := by kernel_rfl
  c76 := by kernel_rfl
  c80 := by kernel_rfl
  c85 := by kernel_rfl
  c127 := by kernel_rfl
  c143 := by kernel_rfl
  c145 := by kernel_rfl
  c167 := by kernel_rfl
  c168 := by kernel_rfl
  c171 := by kernel_rfl
  c173 := by kernel_rfl
  c175 := by kernel_rfl
  c210 := by kernel_rfl
  c212 := by kernel_rfl
  c213 := by kernel_rfl
  c232 := by kernel_rfl
  c233 := by kernel_rfl }


end Go.Proofs.YtnmpbocnbcokeaaDoor

/-
  WALKS: impl.contentNamed (over strings.CutPrefix and strconv.Atoi), impl.plainOf.
-/
namespace Go.Proofs.YtnmpbocnbcokeaaDoor
open Go.RowKit
set_option linter.unusedVariables false

/-- strconv's two sentinels hold some value of an interface's type. -/
def ErrVars (w : World) : Prop :=
  (∃ ev, w.cell? ⟨5, 0, none⟩ = some ev ∧ (ev = .nilIface ∨ ∃ te pe, ev = .iface te pe)) ∧ (∃ ev, w.cell? ⟨6, 0, none⟩ = some ev ∧ (ev = .nilIface ∨ ∃ te pe, ev = .iface te pe))

theorem ErrVars.keep {w w' : World} (h : ErrVars w) (hb : Below w.heap.size w w') : ErrVars w' := by
  obtain ⟨⟨a, h1, h2⟩, b, h3, h4⟩ := h
  exact ⟨⟨a, cell_kept hb h1, h2⟩, b, cell_kept hb h3, h4⟩

/-- How strconv.Atoi ends: with a value and no error, or with an error. -/
def AtoiPost (s : ByteArray) (w : World) (e : Ending) (w' : World) : Prop :=
  ∃ (v : Int) (err : Value), e = .returned (.tuple #[.int .i64 v, err]) ∧ ((Lib.atoiAll s.data.toList = .ok v ∧ err = .nilIface) ∨ ((∀ u, Lib.atoiAll s.data.toList ≠ .ok u) ∧ ∃ N, err = .iface 155 (.pointer (some ⟨N, 0, none⟩)))) ∧ Below w.heap.size w w'

theorem atoi_c (s : ByteArray) (hl : s.size ≤ 281474976710656) (w : World) (hE : ErrVars w) : Calls Tryd.prog 94 #[.string s] w (AtoiPost s w) := by
  obtain ⟨⟨a, h1, h2⟩, b, h3, h4⟩ := hE
  cases h : Lib.atoiAll s.data.toList with
  | ok v =>
    refine (Any.strconv_Atoi_ok At.laysC172 s (by omega) v h w).mono ?_
    rintro e w' ⟨rfl, hw⟩
    refine ⟨v, .nilIface, rfl, .inl ⟨h, rfl⟩, ?_⟩
    rcases hw with rfl | ⟨t, rfl⟩
    · exact Below.refl _ _
    · exact Lib.bytesWorld_below _ _ _
  | «syntax» =>
    refine (Any.strconv_Atoi_syntax At.laysC172 s hl h a w h1 h2).mono ?_
    rintro e w' ⟨N, rfl, -, -, hb⟩
    exact ⟨0, _, rfl, .inr ⟨(fun u hu => by rw [h] at hu; cases hu), N, rfl⟩, hb⟩
  | range =>
    refine (Any.strconv_Atoi_range At.laysC172 s hl h b w h3 h4).mono ?_
    rintro e w' ⟨N, rfl, -, -, hb⟩
    exact ⟨_, _, rfl, .inr ⟨(fun u hu => by rw [h] at hu; cases hu), N, rfl⟩, hb⟩

set_option maxHeartbeats 400000 in
theorem cutF_yes (s : ByteArray) (w : World) (h : (s.extract 0 1).toList = [102]) (hs : 1 ≤ s.size) (hl : s.size ≤ 140737488355328) :
    Calls Tryd.prog 88 #[.string s, .string ⟨#[102]⟩] w fun e w' => e = .returned (.tuple #[.string (s.extract 1 s.size), .bool true]) ∧ w' = w := by
  have h1 : ((s.extract 0 1).toList == [102]) = true := by rw [h]; rfl
  have h2 : (1 : Int) ≤ s.size := by omega
  clear h
  go_enter Tryd.func88, Tryd.ntmps88
  go_wp2
  go_ret2
  exact ⟨rfl, rfl⟩

set_option maxHeartbeats 400000 in
theorem cutF_no (s : ByteArray) (w : World) (h : 1 ≤ s.size → ((s.extract 0 1).toList == [102]) = false) (hl : s.size ≤ 140737488355328) :
    Calls Tryd.prog 88 #[.string s, .string ⟨#[102]⟩] w fun e w' => e = .returned (.tuple #[.string s, .bool false]) ∧ w' = w := by
  by_cases hs : 1 ≤ s.size
  · have h1 := h hs
    have h2 : (1 : Int) ≤ s.size := by omega
    clear h
    go_enter Tryd.func88, Tryd.ntmps88
    go_wp2
    go_ret2
    exact ⟨rfl, rfl⟩
  · have h2 : (s.size : Int) < 1 := by omega
    clear h
    go_enter Tryd.func88, Tryd.ntmps88
    go_wp2
    go_ret2
    exact ⟨rfl, rfl⟩


/-- What contentNamed tells. -/
def NamedPost (x : Value) (ok : Bool) (w : World) (e : Ending) (w' : World) : Prop := e = .returned (.tuple #[x, .bool ok]) ∧ Below w.heap.size w w'

set_option maxHeartbeats 400000 in
theorem named_dash (w : World) : Calls Tryd.prog 79 #[.string ⟨#[45]⟩] w (NamedPost (.iface 139 (.agg #[])) true w) := by
  go_enter Tryd.func79, Tryd.ntmps79
  go_wp2
  go_ret2
  exact ⟨rfl, Below.refl _ _⟩

set_option maxHeartbeats 400000 in
theorem named_d (w : World) : Calls Tryd.prog 79 #[.string ⟨#[100]⟩] w (NamedPost (.iface 140 (.agg #[])) true w) := by
  go_enter Tryd.func79, Tryd.ntmps79
  go_wp2
  go_ret2
  exact ⟨rfl, Below.refl _ _⟩

theorem bytes_ne {s : ByteArray} {l : List UInt8} (h : s ≠ ⟨l.toArray⟩) : (s.toList == l) = false := by
  rw [beq_eq_false_iff_ne, Lib.toList_data]
  exact fun e => h (by rw [← e, Lib.mk_data])

theorem first_data {s : ByteArray} (h : (s.extract 0 1).toList = [102]) (hs : 1 ≤ s.size) : s.data.toList.head? = some 102 := by
  obtain ⟨⟨l⟩⟩ := s
  rw [Lib.toList_data] at h
  cases l with
  | nil => simp [ByteArray.size] at hs
  | cons c r =>
    have : ((⟨(c :: r).toArray⟩ : ByteArray).extract 0 1).data.toList = [c] := by rw [ByteArray.data_extract]; simp
    rw [this] at h
    simpa using h

set_option maxHeartbeats 400000 in
theorem named_other (s : ByteArray) (h45 : s ≠ ⟨#[45]⟩) (h100 : s ≠ ⟨#[100]⟩) (hl : s.size ≤ 140737488355328) (hp : 1 ≤ s.size → ((s.extract 0 1).toList == [102]) = false) (w : World) (hE : ErrVars w) :
    Calls Tryd.prog 79 #[.string s] w (NamedPost .nilIface false w) := by
  have HC := Lib.hid (fun w => cutF_no s w hp hl)
  have HA := Lib.hid (atoi_c s (by omega) w hE)
  have n1 : (s.toList == [45]) = false := bytes_ne (l := [45]) h45
  have n2 : (s.toList == [100]) = false := bytes_ne (l := [100]) h100
  clear h45 h100 hp hE
  go_enter Tryd.func79, Tryd.ntmps79
  go_wp2_with fail
  refine (HC.out _).mono ?_; rintro e w1 ⟨rfl, rfl⟩
  go_wp2_with fail
  refine HA.out.mono ?_; rintro e w2 ⟨v, err, rfl, ha, hb⟩
  have HH := Lib.hid ha
  clear ha n1 n2
  go_wp2
  go_ret2
  exact ⟨rfl, hb⟩

set_option maxHeartbeats 400000 in
theorem named_bad (s : ByteArray) (hp : (s.extract 0 1).toList = [102]) (hs : 1 ≤ s.size) (hl : s.size ≤ 140737488355328) (ha : ∀ u, Lib.atoiAll (s.extract 1 s.size).data.toList ≠ .ok u) (w : World) (hE : ErrVars w) :
    Calls Tryd.prog 79 #[.string s] w (NamedPost .nilIface false w) := by
  have HC := Lib.hid (fun w => cutF_yes s w hp hs hl)
  have hz : (s.extract 1 s.size).size ≤ 281474976710656 := by rw [ByteArray.size_extract]; omega
  have HA := Lib.hid (atoi_c (s.extract 1 s.size) hz w hE)
  have hd := first_data hp hs
  have n1 : (s.toList == [45]) = false := bytes_ne (l := [45]) (fun e => by rw [e] at hd; simp at hd)
  have n2 : (s.toList == [100]) = false := bytes_ne (l := [100]) (fun e => by rw [e] at hd; simp at hd)
  have HN := Lib.hid ha
  generalize s.extract 1 s.size = t at HA HC HN
  clear hp hd hE hz ha hs hl
  go_enter Tryd.func79, Tryd.ntmps79
  go_wp2_with fail
  refine (HC.out _).mono ?_; rintro e w1 ⟨rfl, rfl⟩
  clear n1 n2
  go_wp2_with fail
  refine HA.out.mono ?_; rintro e w2 ⟨v, err, rfl, ha, hb⟩
  obtain ⟨N, rfl⟩ : ∃ N, err = .iface 155 (.pointer (some ⟨N, 0, none⟩)) := by
    rcases ha with ⟨h, -⟩ | ⟨-, h⟩
    · exact absurd h (HN.out v)
    · exact h
  clear ha
  go_wp2
  go_ret2
  exact ⟨rfl, hb⟩

set_option maxHeartbeats 400000 in
theorem named_file (s : ByteArray) (hp : (s.extract 0 1).toList = [102]) (hs : 1 ≤ s.size) (hl : s.size ≤ 140737488355328) (u : Int) (hu : Lib.atoiAll (s.extract 1 s.size).data.toList = .ok u) (w : World) (hE : ErrVars w) :
    Calls Tryd.prog 79 #[.string s] w (NamedPost (.iface 142 (.agg #[.int .i64 u])) true w) := by
  have HC := Lib.hid (fun w => cutF_yes s w hp hs hl)
  have hz : (s.extract 1 s.size).size ≤ 281474976710656 := by rw [ByteArray.size_extract]; omega
  have HA := Lib.hid (atoi_c (s.extract 1 s.size) hz w hE)
  have hd := first_data hp hs
  have n1 : (s.toList == [45]) = false := bytes_ne (l := [45]) (fun e => by rw [e] at hd; simp at hd)
  have n2 : (s.toList == [100]) = false := bytes_ne (l := [100]) (fun e => by rw [e] at hd; simp at hd)
  have HN := Lib.hid hu
  generalize s.extract 1 s.size = t at HA HC HN
  clear hp hd hE hz hu hs hl
  go_enter Tryd.func79, Tryd.ntmps79
  go_wp2_with fail
  refine (HC.out _).mono ?_; rintro e w1 ⟨rfl, rfl⟩
  clear n1 n2
  go_wp2_with fail
  refine HA.out.mono ?_; rintro e w2 ⟨v, err, rfl, ha, hb⟩
  obtain ⟨rfl, rfl⟩ : v = u ∧ err = .nilIface := by
    rcases ha with ⟨h, h2⟩ | ⟨h, -⟩
    · rw [HN.out] at h; injection h with h; exact ⟨h.symm, h2⟩
    · exact absurd HN.out (h u)
  clear ha
  go_wp2
  go_ret2
  exact ⟨rfl, hb⟩

/-- A content in a new block of a result. -/
theorem con_ret (fn : Func) (hf : fn.results = #[.cell 2 25]) {W W' : World} {a b : Value} {k v : Int} {tmps : Array Value} (hT : Two W' W.heap.size a b) (hB : Below W.heap.size W W') (ht : tmps[2]? = some (.pointer (some ⟨W.heap.size, 0, none⟩))) :
    bodyPost Tryd.prog fn (ConRet k v W) .ret ⟨tmps, []⟩ ((W'.setCell ⟨W.heap.size, 0, none⟩ (.int .i64 k)).setCell ⟨W.heap.size, 1, none⟩ (.int .i64 v)) :=
  bodyPost_ret (con_results fn hf _ W.heap.size k v _ ht (let h2 := (hT.set0 (c := .int .i64 k)).set1 (c := .int .i64 v); ⟨h2.1, h2.2.1⟩)) rfl
    ⟨rfl, below_setCell (below_setCell hB _ _ (Nat.le_refl _)) _ _ (Nat.le_refl _)⟩

theorem con_ret_at (fn : Func) (hf : fn.results = #[.cell 2 25]) {W W' : World} {k v : Int} {tmps : Array Value} (n : Nat) (h : W'.cell? ⟨n, 0, none⟩ = some (.int .i64 k) ∧ W'.cell? ⟨n, 1, none⟩ = some (.int .i64 v))
    (hB : Below W.heap.size W W') (ht : tmps[2]? = some (.pointer (some ⟨n, 0, none⟩))) : bodyPost Tryd.prog fn (ConRet k v W) .ret ⟨tmps, []⟩ W' :=
  bodyPost_ret (con_results fn hf _ n k v _ ht h) rfl ⟨rfl, hB⟩

theorem two_alloc (w : World) (k v : Int) (t : TypeId) (o : Obj) : ((w.alloc (.cells #[.int .i64 k, .int .i64 v] t)).alloc o).cell? ⟨w.heap.size, 0, none⟩ = some (.int .i64 k) ∧ ((w.alloc (.cells #[.int .i64 k, .int .i64 v] t)).alloc o).cell? ⟨w.heap.size, 1, none⟩ = some (.int .i64 v) := by
  constructor
  · rw [World.cell?_alloc_lt _ _ _ (by simp), World.cell?_alloc_new]; rfl
  · rw [World.cell?_alloc_lt _ _ _ (by simp), World.cell?_alloc_new]; rfl

theorem ta_nd (W : World) : (Instr.typeAssert (.iface 139 (.agg #[])) 109 140 true).run Tryd.prog W = .ok (.tuple #[.agg #[], .bool false]) W := by kernel_rfl
theorem ta_nf (W : World) : (Instr.typeAssert (.iface 139 (.agg #[])) 109 142 true).run Tryd.prog W = .ok (.tuple #[.agg #[.int .i64 0], .bool false]) W := by kernel_rfl
theorem ta_dd (W : World) : (Instr.typeAssert (.iface 140 (.agg #[])) 109 140 true).run Tryd.prog W = .ok (.tuple #[.agg #[], .bool true]) W := by kernel_rfl
theorem ta_fd (v : Int) (W : World) : (Instr.typeAssert (.iface 142 (.agg #[.int .i64 v])) 109 140 true).run Tryd.prog W = .ok (.tuple #[.agg #[], .bool false]) W := by kernel_rfl
theorem ta_ff (v : Int) (W : World) : (Instr.typeAssert (.iface 142 (.agg #[.int .i64 v])) 109 142 true).run Tryd.prog W = .ok (.tuple #[.agg #[.int .i64 v], .bool true]) W := by kernel_rfl

set_option maxHeartbeats 400000 in
set_option maxRecDepth 100000 in
theorem plainOf_nothing (w : World) : Calls Tryd.prog 80 #[.iface 139 (.agg #[])] w (ConRet 0 0 w) := by
  have m1 := fun W => ta_nd W
  have m2 := fun W => ta_nf W
  go_enter Tryd.func80, Tryd.ntmps80
  go_wp2
  exact con_ret_at _ rfl w.heap.size ⟨by rw [World.cell?_alloc_new]; rfl, by rw [World.cell?_alloc_new]; rfl⟩ (below_box _ _) rfl

set_option maxHeartbeats 400000 in
set_option maxRecDepth 100000 in
theorem plainOf_directory (w : World) : Calls Tryd.prog 80 #[.iface 140 (.agg #[])] w (ConRet 1 0 w) := by
  have m1 := fun W => ta_dd W
  go_enter Tryd.func80, Tryd.ntmps80
  go_wp2
  exact con_ret_at _ rfl w.heap.size (two_alloc _ _ _ _ _) ((below_box _ _).alloc (by simp) _) rfl

set_option maxHeartbeats 400000 in
set_option maxRecDepth 100000 in
theorem plainOf_file (v : Int) (w : World) : Calls Tryd.prog 80 #[.iface 142 (.agg #[.int .i64 v])] w (ConRet 2 v w) := by
  have m1 := fun W => ta_fd v W
  have m2 := fun W => ta_ff v W
  go_enter Tryd.func80, Tryd.ntmps80
  go_wp2
  exact con_ret_at _ rfl w.heap.size (two_alloc _ _ _ _ _) ((below_box _ _).alloc (by simp) _) rfl

end Go.Proofs.YtnmpbocnbcokeaaDoor

/-
  WALKS: impl.ContentParse, spec.ContentParse.
-/
namespace Go.Proofs.YtnmpbocnbcokeaaDoor
open Go.RowKit
set_option linter.unusedVariables false

/-- A content and whether there is one. -/
def PairPost (k v : Int) (ok : Bool) (w : World) (e : Ending) (w' : World) : Prop := e = .returned (.tuple #[con k v, .bool ok]) ∧ Below w.heap.size w w'

theorem pair_results (fn : Func) (hf : fn.results = #[.cell 2 25, .tmp 3]) (W : World) (n : Nat) (k v : Int) (b : Bool) (tmps : Array Value) (ht : tmps[2]? = some (.pointer (some ⟨n, 0, none⟩))) (hb : tmps[3]? = some (.bool b))
    (h : W.cell? ⟨n, 0, none⟩ = some (.int .i64 k) ∧ W.cell? ⟨n, 1, none⟩ = some (.int .i64 v)) : (results fn tmps).run Tryd.prog W = .ok (.tuple #[con k v, .bool b]) W := by
  obtain ⟨c0, c1⟩ := h
  simp [results, hf, go_sem, ht, hb, c0, c1]

theorem pair_ret (fn : Func) (hf : fn.results = #[.cell 2 25, .tmp 3]) {W W' : World} {a b : Value} {k v : Int} {ok : Bool} {tmps : Array Value} (hT : Two W' W.heap.size a b) (hB : Below W.heap.size W W') (ht : tmps[2]? = some (.pointer (some ⟨W.heap.size, 0, none⟩))) (hb : tmps[3]? = some (.bool ok)) :
    bodyPost Tryd.prog fn (PairPost k v ok W) .ret ⟨tmps, []⟩ ((W'.setCell ⟨W.heap.size, 0, none⟩ (.int .i64 k)).setCell ⟨W.heap.size, 1, none⟩ (.int .i64 v)) :=
  bodyPost_ret (pair_results fn hf _ W.heap.size k v ok _ ht hb (let h2 := (hT.set0 (c := .int .i64 k)).set1 (c := .int .i64 v); ⟨h2.1, h2.2.1⟩)) rfl
    ⟨rfl, below_setCell (below_setCell hB _ _ (Nat.le_refl _)) _ _ (Nat.le_refl _)⟩

set_option maxHeartbeats 400000 in
theorem parse_none (s : ByteArray) (HN : Hid (∀ w, ErrVars w → Calls Tryd.prog 79 #[.string s] w (NamedPost .nilIface false w))) (w : World) (hE : ErrVars w) :
    Calls Tryd.prog 54 #[.string s] w (PairPost 0 0 false w) := by
  have HE := Lib.hid hE
  clear hE
  go_enter Tryd.func54, Tryd.ntmps54
  go_wp2_with fail
  refine (HN.out _ (HE.out.keep (below_box _ _))).mono ?_; rintro e W1 ⟨rfl, hb⟩
  have T1 := Lib.hid ((two_new w _ _ _).below hb)
  have B1 := Lib.hid (below_next (below_box w _) hb)
  obtain ⟨g0, g1, f0, f1, -⟩ := T1.out
  clear hb
  go_wp2
  exact pair_ret _ rfl T1.out B1.out rfl rfl

set_option maxHeartbeats 400000 in
theorem parse_yes (s : ByteArray) (x : Value) (k v : Int) (HN : Hid (∀ w, ErrVars w → Calls Tryd.prog 79 #[.string s] w (NamedPost x true w))) (HP : Hid (∀ w, Calls Tryd.prog 80 #[x] w (ConRet k v w)))
    (HT : Hid (conText k v = s)) (w : World) (hE : ErrVars w) :
    Calls Tryd.prog 54 #[.string s] w (PairPost k v true w) := by
  have HE := Lib.hid hE
  have HX : Hid (∀ w, Calls Tryd.prog 51 #[con k v] w (TextPost s w)) := by intro w; rw [← HT.out]; exact implText_c k v w
  clear hE
  go_enter Tryd.func54, Tryd.ntmps54
  go_wp2_with fail
  refine (HN.out _ (HE.out.keep (below_box _ _))).mono ?_; rintro e W1 ⟨rfl, hb1⟩
  have T1 := Lib.hid ((two_new w _ _ _).below hb1)
  have B1 := Lib.hid (below_next (below_box w _) hb1)
  clear hb1
  go_wp2_with fail
  refine (HP.out _).mono ?_; rintro e W2 ⟨rfl, hb2⟩
  have T2 := Lib.hid (T1.out.below hb2)
  have B2 := Lib.hid (below_next B1.out hb2)
  clear hb2
  unfold con at HX ⊢
  go_wp2_with fail
  refine (HX.out _).mono ?_; rintro e W3 ⟨rfl, hb3⟩
  have T3 := Lib.hid (T2.out.below (below_next (below_box _ _) hb3))
  have B3 := Lib.hid (below_next B2.out (below_next (below_box _ _) hb3))
  have c0 := box_cell hb3 0
  have c1 := box_cell hb3 1
  obtain ⟨g0, g1, f0, f1, -⟩ := T3.out
  clear hb3
  go_wp2
  exact pair_ret _ rfl T3.out B3.out rfl rfl

set_option maxHeartbeats 400000 in
theorem parse_not (s t : ByteArray) (x : Value) (k v : Int) (HN : Hid (∀ w, ErrVars w → Calls Tryd.prog 79 #[.string s] w (NamedPost x true w))) (HP : Hid (∀ w, Calls Tryd.prog 80 #[x] w (ConRet k v w)))
    (HT : Hid (conText k v = t)) (hts : t ≠ s) (w : World) (hE : ErrVars w) :
    Calls Tryd.prog 54 #[.string s] w (PairPost 0 0 false w) := by
  have HE := Lib.hid hE
  have HX : Hid (∀ w, Calls Tryd.prog 51 #[con k v] w (TextPost t w)) := by intro w; rw [← HT.out]; exact implText_c k v w
  have hne : (t.toList == s.toList) = false := by
    rw [beq_eq_false_iff_ne, Lib.toList_data, Lib.toList_data]
    exact fun e => hts (by rw [← Lib.mk_data t, ← Lib.mk_data s, e])
  clear hE hts
  go_enter Tryd.func54, Tryd.ntmps54
  go_wp2_with fail
  refine (HN.out _ (HE.out.keep (below_box _ _))).mono ?_; rintro e W1 ⟨rfl, hb1⟩
  have T1 := Lib.hid ((two_new w _ _ _).below hb1)
  have B1 := Lib.hid (below_next (below_box w _) hb1)
  clear hb1
  go_wp2_with fail
  refine (HP.out _).mono ?_; rintro e W2 ⟨rfl, hb2⟩
  have T2 := Lib.hid (T1.out.below hb2)
  have B2 := Lib.hid (below_next B1.out hb2)
  clear hb2
  unfold con at HX ⊢
  go_wp2_with fail
  refine (HX.out _).mono ?_; rintro e W3 ⟨rfl, hb3⟩
  have T3 := Lib.hid (T2.out.below (below_next (below_box _ _) hb3))
  have B3 := Lib.hid (below_next B2.out (below_next (below_box _ _) hb3))
  obtain ⟨g0, g1, f0, f1, -⟩ := T3.out
  clear hb3
  go_wp2
  exact pair_ret _ rfl T3.out B3.out rfl rfl

theorem fB_facts (n : Nat) : ((fB n).extract 0 1).toList = [102] ∧ 1 ≤ (fB n).size ∧ ((fB n).extract 1 (fB n).size).data.toList = Lib.decDigits n := by
  have h := fB_data n
  obtain ⟨s, hs⟩ : ∃ s, fB n = s := ⟨_, rfl⟩
  rw [hs] at h ⊢
  obtain ⟨⟨l⟩⟩ := s
  simp at h
  subst h
  refine ⟨?_, ?_, ?_⟩
  · rw [Lib.toList_data, ByteArray.data_extract]; simp
  · simp [ByteArray.size]
  · rw [ByteArray.data_extract]; simp [ByteArray.size]

theorem parseR_none {s : ByteArray} (h45 : s ≠ ⟨#[45]⟩) (h100 : s ≠ ⟨#[100]⟩) (h : ∀ n, n < 100 → s ≠ fB n) : parseR s = (0, 0, false) := by
  unfold parseR
  rw [if_neg h45, if_neg h100, findF_none h]

theorem parseR_file {n : Nat} (h : n < 100) : parseR (fB n) = (2, (n : Int), true) := by
  have hf := fB_data n
  have h45 : fB n ≠ ⟨#[45]⟩ := fun e => by rw [e] at hf; simp at hf
  have h100 : fB n ≠ ⟨#[100]⟩ := fun e => by rw [e] at hf; simp at hf
  unfold parseR
  rw [if_neg h45, if_neg h100, findF_fB h]

def ParsePost (s : ByteArray) (w : World) (e : Ending) (w' : World) : Prop := PairPost (parseR s).1 (parseR s).2.1 (parseR s).2.2 w e w'

/-- impl.ContentParse, at every text. -/
theorem implParse_c (s : ByteArray) (hl : s.size ≤ 140737488355328) (w : World) (hE : ErrVars w) : Calls Tryd.prog 54 #[.string s] w (ParsePost s w) := by
  unfold ParsePost
  by_cases h45 : s = ⟨#[45]⟩
  · subst h45
    exact parse_yes _ _ 0 0 (fun w _ => named_dash w) (fun w => plainOf_nothing w) rfl w hE
  by_cases h100 : s = ⟨#[100]⟩
  · subst h100
    exact parse_yes _ _ 1 0 (fun w _ => named_d w) (fun w => plainOf_directory w) rfl w hE
  by_cases hf : 1 ≤ s.size ∧ (s.extract 0 1).toList = [102]
  · obtain ⟨hs, hp⟩ := hf
    cases ha : Lib.atoiAll (s.extract 1 s.size).data.toList with
    | ok u =>
      by_cases ht : conText 2 u = s
      · obtain ⟨n, hn, rfl, rfl⟩ := conText_is ht (fun e => by rw [e] at hs; simp [ByteArray.size] at hs)
        rw [parseR_file hn]
        exact parse_yes _ _ 2 n (fun w h => named_file _ hp hs hl n ha w h) (fun w => plainOf_file n w) ht w hE
      · rw [parseR_none h45 h100 (fun n hn e => ht (by
          subst e
          rw [(fB_facts n).2.2, atoi_dec hn] at ha
          injection ha with ha
          rw [← ha, conText_file hn]))]
        exact parse_not s _ _ 2 u (fun w h => named_file _ hp hs hl u ha w h) (fun w => plainOf_file u w) rfl ht w hE
    | «syntax» =>
      rw [parseR_none h45 h100 (fun n hn e => by subst e; rw [(fB_facts n).2.2, atoi_dec hn] at ha; cases ha)]
      exact parse_none s (fun w h => named_bad s hp hs hl (fun u hu => by rw [ha] at hu; cases hu) w h) w hE
    | range =>
      rw [parseR_none h45 h100 (fun n hn e => by subst e; rw [(fB_facts n).2.2, atoi_dec hn] at ha; cases ha)]
      exact parse_none s (fun w h => named_bad s hp hs hl (fun u hu => by rw [ha] at hu; cases hu) w h) w hE
  · rw [parseR_none h45 h100 (fun n hn e => hf (by subst e; exact ⟨(fB_facts n).2.1, (fB_facts n).1⟩))]
    exact parse_none s (fun w h => named_other s h45 h100 hl (fun h1 => beq_eq_false_iff_ne.2 (fun e => hf ⟨h1, e⟩)) w h) w hE

def SpecRel (s : ByteArray) (w : World) (i : Value) (wr : World) : Prop :=
  ∃ n : Nat, i = .int .i64 n ∧ n ≤ 100 ∧ Hid (∀ m, m < n → s ≠ fB m) ∧ Hid (Two wr w.heap.size (.int .i64 0) (.int .i64 0)) ∧ Hid (Below w.heap.size w wr)

set_option maxHeartbeats 1000000 in
set_option maxRecDepth 100000 in
theorem specParse_loop (s : ByteArray) (h45 : s ≠ ⟨#[45]⟩) (h100 : s ≠ ⟨#[100]⟩) (w : World) : Calls Tryd.prog 58 #[.string s] w (ParsePost s w) := by
  have n1 : (s.toList == [45]) = false := bytes_ne (l := [45]) h45
  have n2 : (s.toList == [100]) = false := bytes_ne (l := [100]) h100
  have HN := Lib.hid (And.intro h45 h100)
  clear h45 h100
  go_enter Tryd.func58, Tryd.ntmps58
  go_wp2
  clear n1 n2
  go_loopw [4, 5] (fun i c wr => SpecRel s w i wr) (fun i _ _ => (100 - intOf i).toNat)
  case atStart => exact ⟨0, rfl, by omega, Lib.hid (fun m h => absurd h (by omega)), two_new w _ _ _, below_box w _⟩
  case round =>
    obtain ⟨n, rfl, hn, HM, HT, HB⟩ := hrel
    by_cases h9 : n ≤ 99
    · have h9' : (n : Int) ≤ 99 := by omega
      have HX : Hid (∀ w, Calls Tryd.prog 52 #[.agg #[.int .i64 2, .int .i64 n]] w (TextPost (fB n) w)) := by
        intro w; rw [← conText_file (show n < 100 by omega)]; exact specText_c 2 n w
      have HN9 := Lib.hid h9
      by_cases he : s = fB n
      · have HR := Lib.hid (show parseR s = (2, (n : Int), true) by rw [he, parseR_file (by omega)])
        rw [← he] at HX
        clear he h9 hn
        go_wp2_with fail
        refine (HX.out _).mono ?_; rintro e W3 ⟨rfl, hb3⟩
        have T3 := Lib.hid (HT.out.below (below_next (below_box _ _) hb3))
        have B3 := Lib.hid (below_next HB.out (below_next (below_box _ _) hb3))
        have c0 := box_cell hb3 0
        have c1 := box_cell hb3 1
        obtain ⟨g0, g1, f0, f1, -⟩ := T3.out
        clear hb3
        go_wp2
        unfold ParsePost
        rw [HR.out]
        exact pair_ret _ rfl T3.out B3.out rfl rfl
      · have HE := Lib.hid he
        have hne : ((fB n).toList == s.toList) = false := by
          rw [beq_eq_false_iff_ne, Lib.toList_data, Lib.toList_data]
          exact fun e => he (by rw [← Lib.mk_data s, ← e, Lib.mk_data])
        generalize fB n = t at HX hne
        clear he h9 hn
        go_wp2_with fail
        refine (HX.out _).mono ?_; rintro e W3 ⟨rfl, hb3⟩
        have T3 := Lib.hid (HT.out.below (below_next (below_box _ _) hb3))
        have B3 := Lib.hid (below_next HB.out (below_next (below_box _ _) hb3))
        clear hb3
        go_wp2
        have h9 := HN9.out
        refine ⟨⟨n + 1, by go_num, by omega, ?_, T3, B3⟩, ?_⟩
        · intro m hm
          by_cases hmn : m < n
          · exact HM.out m hmn
          · have : m = n := by omega
            subst this; exact HE.out
        · simp [intOf]; omega
    · have h9' : (99 : Int) < n := by omega
      have HR := Lib.hid (parseR_none HN.out.1 HN.out.2 (fun m hm => HM.out m (by omega)))
      obtain ⟨g0, g1, f0, f1, -⟩ := HT.out
      clear h9 hn
      go_wp2
      unfold ParsePost
      rw [HR.out]
      exact pair_ret _ rfl HT.out HB.out rfl rfl

set_option maxHeartbeats 400000 in
theorem specParse_dash (w : World) : Calls Tryd.prog 58 #[.string ⟨#[45]⟩] w (ParsePost ⟨#[45]⟩ w) := by
  go_enter Tryd.func58, Tryd.ntmps58
  go_wp2
  exact bodyPost_ret (pair_results _ rfl _ w.heap.size 0 0 true _ rfl rfl ⟨by rw [World.cell?_alloc_new]; rfl, by rw [World.cell?_alloc_new]; rfl⟩) rfl ⟨rfl, below_box _ _⟩

set_option maxHeartbeats 400000 in
theorem specParse_d (w : World) : Calls Tryd.prog 58 #[.string ⟨#[100]⟩] w (ParsePost ⟨#[100]⟩ w) := by
  go_enter Tryd.func58, Tryd.ntmps58
  go_wp2
  exact bodyPost_ret (pair_results _ rfl _ w.heap.size 1 0 true _ rfl rfl ⟨by rw [World.cell?_alloc_new]; rfl, by rw [World.cell?_alloc_new]; rfl⟩) rfl ⟨rfl, below_box _ _⟩

/-- spec.ContentParse, at every text. -/
theorem specParse_c (s : ByteArray) (w : World) : Calls Tryd.prog 58 #[.string s] w (ParsePost s w) := by
  by_cases h45 : s = ⟨#[45]⟩
  · subst h45; exact specParse_dash w
  by_cases h100 : s = ⟨#[100]⟩
  · subst h100; exact specParse_d w
  exact specParse_loop s h45 h100 w

end Go.Proofs.YtnmpbocnbcokeaaDoor

/-
  PLAIN MATHEMATICS: texts of contents and what they name, for the laws.
-/
namespace Go.Proofs.YtnmpbocnbcokeaaDoor

theorem parseR_conText {k v : Int} (h : validB k v = true) : parseR (conText k v) = (k, v, true) := by
  have h' := h
  unfold validB at h'
  simp at h'
  rcases h' with ⟨rfl, rfl | rfl⟩ | ⟨rfl, h0, h9⟩
  · rfl
  · rfl
  · obtain ⟨n, rfl⟩ := Int.eq_ofNat_of_zero_le h0
    rw [conText_file (by omega), parseR_file (by omega)]

theorem parseR_inv {s : ByteArray} {k v : Int} (h : parseR s = (k, v, true)) :
    conText k v = s ∧ validB k v = true ∧ ((k = 0 ∧ v = 0 ∧ s = ⟨#[45]⟩) ∨ (k = 1 ∧ v = 0 ∧ s = ⟨#[100]⟩) ∨ (k = 2 ∧ ∃ n : Nat, n < 100 ∧ v = n ∧ s = fB n)) := by
  unfold parseR at h
  split at h
  · rename_i e
    simp at h
    obtain ⟨rfl, rfl⟩ := h
    subst e
    exact ⟨rfl, rfl, .inl ⟨rfl, rfl, rfl⟩⟩
  · split at h
    · rename_i e
      simp at h
      obtain ⟨rfl, rfl⟩ := h
      subst e
      exact ⟨rfl, rfl, .inr (.inl ⟨rfl, rfl, rfl⟩)⟩
    · cases hf : findF s with
      | none => rw [hf] at h; simp at h
      | some n =>
        rw [hf] at h
        simp at h
        obtain ⟨rfl, rfl⟩ := h
        obtain ⟨hn, he⟩ := findF_some hf
        refine ⟨by rw [conText_file hn, he], ?_, .inr (.inr ⟨rfl, n, hn, rfl, he⟩)⟩
        unfold validB; simp; omega

theorem parseR_false {s : ByteArray} (h45 : s ≠ ⟨#[45]⟩) (h100 : s ≠ ⟨#[100]⟩) (h : ∀ n, n < 100 → s ≠ fB n) : (parseR s).2.2 = false := by rw [parseR_none h45 h100 h]

theorem dec_shape {n : Nat} (h : n < 100) : (∃ a : UInt8, Lib.decDigits n = [a] ∧ a.toNat = 48 + n) ∨ (∃ a b : UInt8, Lib.decDigits n = [a, b] ∧ a.toNat = 48 + n / 10 ∧ b.toNat = 48 + n % 10 ∧ 10 ≤ n) := by
  by_cases h1 : n < 10
  · exact .inl ⟨_, Lib.decDigits_one h1, toNat_digit h1⟩
  · exact .inr ⟨_, _, Lib.decDigits_two h1 h, toNat_digit (by omega), toNat_digit (by omega), by omega⟩

/-- A blank behind: no text of a content. -/
theorem parseR_blank (s : ByteArray) (hs : 1 ≤ s.size) : (parseR (s ++ ⟨#[32]⟩)).2.2 = false := by
  have hd : (s ++ ⟨#[32]⟩).data.toList = s.data.toList ++ [32] := by rw [ByteArray.data_append]; simp
  have hne : s.data.toList ≠ [] := fun e => by rw [Lib.size_eq, e] at hs; simp at hs
  have hl : (s ++ ⟨#[32]⟩).data.toList.getLast? = some 32 := by rw [hd]; simp
  refine parseR_false (fun e => ?_) (fun e => ?_) (fun n hn e => ?_)
  · rw [e] at hl; simp at hl
  · rw [e] at hl; simp at hl
  · rw [e, fB_data] at hl
    rcases dec_shape hn with ⟨a, ha, h1⟩ | ⟨a, b, hab, h1, h2, -⟩
    · rw [ha] at hl
      simp at hl
      subst hl
      simp at h1; omega
    · rw [hab] at hl
      simp at hl
      subst hl
      simp at h2; omega

/-- A zero in front: no text of a content. -/
theorem parseR_zero {n : Nat} (hn : n < 100) : (parseR (⟨#[102, 48]⟩ ++ decB n)).2.2 = false := by
  have hd : ((⟨#[102, 48]⟩ : ByteArray) ++ decB n).data.toList = 102 :: 48 :: Lib.decDigits n := by unfold decB; rw [ByteArray.data_append]; simp
  refine parseR_false (fun e => ?_) (fun e => ?_) (fun m hm e => ?_)
  · rw [e] at hd; simp at hd
  · rw [e] at hd; simp at hd
  · rw [e, fB_data] at hd
    simp at hd
    rcases dec_shape hm with ⟨a, ha, h1⟩ | ⟨a, b, hab, h1, h2, h3⟩
    · rw [ha] at hd
      simp at hd
      rcases dec_shape hn with ⟨c, hc, -⟩ | ⟨c, d, hc, -⟩
      · rw [hc] at hd; simp at hd
      · rw [hc] at hd; simp at hd
    · rw [hab] at hd
      simp at hd
      have ha := hd.1
      subst ha
      simp at h1; omega

theorem fB_tail (n : Nat) : (fB n).extract 1 (fB n).size = decB n := by
  have := (fB_facts n).2.2
  rw [← Lib.mk_data ((fB n).extract 1 (fB n).size), this]
  rfl

end Go.Proofs.YtnmpbocnbcokeaaDoor

/-
  PLAIN MATHEMATICS OF TEXTS OF COMMANDS: words between blanks; a command's text, and what it is read as.
-/
namespace Go.Proofs.YtnmpbocnbcokeaaDoor

/-- What is between the blanks of a text. -/
def wordsL : List UInt8 → List (List UInt8)
  | [] => [[]]
  | c :: r => if c = 32 then [] :: wordsL r else match wordsL r with
    | [] => [[c]]
    | w :: ws => (c :: w) :: ws

theorem wordsL_ne : ∀ l, wordsL l ≠ []
  | [] => by simp [wordsL]
  | c :: r => by
    unfold wordsL
    split
    · simp
    · split <;> simp

theorem wordsL_one : ∀ (a : List UInt8), (∀ x ∈ a, x ≠ 32) → wordsL a = [a]
  | [], _ => rfl
  | c :: r, h => by
    unfold wordsL
    rw [if_neg (h c (by simp)), wordsL_one r (fun x hx => h x (List.mem_cons_of_mem _ hx))]

theorem wordsL_app : ∀ (a r : List UInt8), (∀ x ∈ a, x ≠ 32) → wordsL (a ++ 32 :: r) = a :: wordsL r
  | [], r, _ => by
    show wordsL (32 :: r) = _
    conv => lhs; unfold wordsL
    rw [if_pos rfl]
  | c :: a, r, h => by
    show wordsL (c :: (a ++ 32 :: r)) = _
    conv => lhs; unfold wordsL
    rw [if_neg (h c (by simp)), wordsL_app a r (fun x hx => h x (List.mem_cons_of_mem _ hx))]

/-- The words, one behind the other, with blanks between them. -/
theorem wordsL_join : ∀ (l : List UInt8) (w : List UInt8) (ws : List (List UInt8)), wordsL l = w :: ws → l = w ++ ws.flatMap (fun x => 32 :: x) ∧ (∀ x ∈ w, x ≠ 32)
  | [], w, ws, h => by
    simp [wordsL] at h
    obtain ⟨rfl, rfl⟩ := h
    exact ⟨rfl, fun x hx => by cases hx⟩
  | c :: r, w, ws, h => by
    unfold wordsL at h
    split at h
    · rename_i hc
      simp at h
      obtain ⟨rfl, hw⟩ := h
      cases hr : wordsL r with
      | nil => exact absurd hr (wordsL_ne r)
      | cons v vs =>
        rw [hr] at hw
        subst hw
        obtain ⟨e, _⟩ := wordsL_join r v vs hr
        refine ⟨?_, fun x hx => by cases hx⟩
        rw [List.flatMap_cons, hc, List.nil_append, List.cons_append, ← e]
    · rename_i hc
      split at h
      · rename_i hr
        exact absurd hr (wordsL_ne r)
      · rename_i v vs hr
        simp at h
        obtain ⟨rfl, rfl⟩ := h
        obtain ⟨e, hv⟩ := wordsL_join r v vs hr
        refine ⟨by rw [List.cons_append, ← e], fun x hx => ?_⟩
        rcases List.mem_cons.1 hx with rfl | hx
        · exact hc
        · exact hv x hx

def wordsB (s : ByteArray) : List ByteArray := (wordsL s.data.toList).map (fun w => ⟨w.toArray⟩)

/-- spec.CommandParse. -/
def parseC (s : ByteArray) : Cmd × Bool := match wordsB s with
  | [a, b, c] => if ((parseR b).2.2 && (parseR c).2.2 && validC ⟨a, (parseR b).1, (parseR b).2.1, (parseR c).1, (parseR c).2.1⟩) = true then (⟨a, (parseR b).1, (parseR b).2.1, (parseR c).1, (parseR c).2.1⟩, true) else (zeroC, false)
  | _ => (zeroC, false)

theorem bytes_app (x y : ByteArray) : (x ++ y).data.toList = x.data.toList ++ y.data.toList := by simp [ByteArray.data_append]

theorem path_noblank {p : ByteArray} (h : vpB p = true) : ∀ x ∈ p.data.toList, x ≠ 32 := by
  obtain ⟨w, hw, rfl⟩ := vpB_word h
  rw [pB_list]
  intro x hx e
  subst e
  unfold Pm.pathOf at hx
  split at hx
  · simp at hx
  · have hf : ∀ (w : List UInt8), (∀ x ∈ w, Pm.letter x = true) → (32 : UInt8) ∉ Pm.flat w := by
      intro w
      induction w with
      | nil => intro _; simp [Pm.flat]
      | cons c r ih =>
        intro hl hc
        simp only [Pm.flat, List.mem_cons] at hc
        rcases hc with hc | hc | hc
        · exact absurd hc (by decide)
        · have := hl c (by simp)
          rw [← hc] at this
          exact absurd this (by decide)
        · exact ih (fun x hx => hl x (List.mem_cons_of_mem _ hx)) hc
    exact hf w hw.2 hx

theorem con_noblank {k v : Int} (h : validB k v = true) : ∀ x ∈ (conText k v).data.toList, x ≠ 32 := by
  obtain ⟨_, _, hs⟩ := parseR_inv (parseR_conText h)
  rcases hs with ⟨_, _, e⟩ | ⟨_, _, e⟩ | ⟨_, n, hn, _, e⟩
  · rw [e]; intro x hx; simp at hx; subst hx; decide
  · rw [e]; intro x hx; simp at hx; subst hx; decide
  · rw [e]
    intro x hx
    have e2 : (fB n).data.toList = 102 :: Lib.decDigits n := by
      unfold fB
      rw [bytes_app]
      rfl
    rw [e2] at hx
    rcases List.mem_cons.1 hx with rfl | hx
    · decide
    · rcases dec_shape hn with ⟨a, e, ha⟩ | ⟨a, b, e, ha, hb, _⟩
      · rw [e] at hx
        rw [List.mem_singleton.1 hx]
        intro q; rw [q] at ha; simp at ha; omega
      · rw [e] at hx
        simp at hx
        rcases hx with rfl | rfl
        · intro q; rw [q] at ha; simp at ha; omega
        · intro q; rw [q] at hb; simp at hb; omega

theorem text_list {c : Cmd} (h : validC c = true) : (textC c).data.toList = c.p.data.toList ++ 32 :: ((conText c.fk c.fv).data.toList ++ 32 :: (conText c.tk c.tv).data.toList) := by
  unfold textC
  rw [if_pos h]
  simp only [bytes_app, blB, List.append_assoc]
  rfl

theorem text_words {c : Cmd} (h : validC c = true) : wordsB (textC c) = [c.p, conText c.fk c.fv, conText c.tk c.tv] := by
  obtain ⟨h1, h2, h3, _⟩ := (validC_iff c).1 h
  unfold wordsB
  rw [text_list h, wordsL_app _ _ (path_noblank (vp_of_depth h1)), wordsL_app _ _ (con_noblank h2), wordsL_one _ (con_noblank h3)]
  rfl

/-- P42: a text of a command is read. -/
theorem text_read {c : Cmd} (h : validC c = true) : parseC (textC c) = (c, true) := by
  obtain ⟨h1, h2, h3, _⟩ := (validC_iff c).1 h
  unfold parseC
  rw [text_words h]
  simp only [parseR_conText h2, parseR_conText h3]
  rw [if_pos (by simpa using h)]

theorem parseC_some {s : ByteArray} {c : Cmd} (h : parseC s = (c, true)) : validC c = true ∧ wordsB s = [c.p, conText c.fk c.fv, conText c.tk c.tv] := by
  unfold parseC at h
  split at h
  · rename_i a b d hw
    split at h
    · rename_i hc
      simp only [Bool.and_eq_true] at hc
      have e := congrArg Prod.fst h
      simp only at e
      subst e
      refine ⟨hc.2, ?_⟩
      rw [hw]
      have h1 := (parseR_inv (s := b) (k := (parseR b).1) (v := (parseR b).2.1) (by rw [← hc.1.1])).1
      have h2 := (parseR_inv (s := d) (k := (parseR d).1) (v := (parseR d).2.1) (by rw [← hc.1.2])).1
      rw [h1, h2]
    · simp at h
  · simp at h

/-- P43: what is read can be written. -/
theorem read_text {s : ByteArray} {c : Cmd} (h : parseC s = (c, true)) : textC c = s ∧ validC c = true := by
  obtain ⟨hv, hw⟩ := parseC_some h
  refine ⟨?_, hv⟩
  have hl : wordsL s.data.toList = [c.p.data.toList, (conText c.fk c.fv).data.toList, (conText c.tk c.tv).data.toList] := by
    unfold wordsB at hw
    have := congrArg (List.map (fun x : ByteArray => x.data.toList)) hw
    rw [List.map_map] at this
    have hid : ((fun x : ByteArray => x.data.toList) ∘ fun w : List UInt8 => (⟨w.toArray⟩ : ByteArray)) = id := rfl
    rw [hid, List.map_id] at this
    exact this
  have e := (wordsL_join _ _ _ hl).1
  rw [← Lib.mk_data (textC c), ← Lib.mk_data s, text_list hv, e]
  simp

end Go.Proofs.YtnmpbocnbcokeaaDoor

/-
  PLAIN MATHEMATICS: what is behind the second blank is one word, or no content: the words of a text cut twice.
-/
namespace Go.Proofs.YtnmpbocnbcokeaaDoor

theorem index_blank (a r : List UInt8) (h : ∀ x ∈ a, x ≠ 32) : Lib.index (a ++ 32 :: r) [32] = a.length := by
  rw [Lib.index_one]
  induction a with
  | nil => simp [Lib.indexByte]
  | cons c a ih =>
    have hc : c ≠ 32 := h c (by simp)
    have ih' := ih (fun x hx => h x (List.mem_cons_of_mem _ hx))
    simp only [List.cons_append, Lib.indexByte, List.length_cons]
    rw [ih']
    simp [hc]

theorem index_noblank (a : List UInt8) (h : ∀ x ∈ a, x ≠ 32) : Lib.index a [32] = -1 := by
  rw [Lib.index_one]
  induction a with
  | nil => simp [Lib.indexByte]
  | cons c a ih =>
    have hc : c ≠ 32 := h c (by simp)
    have ih' := ih (fun x hx => h x (List.mem_cons_of_mem _ hx))
    simp only [Lib.indexByte]
    rw [ih']
    simp [hc]

theorem splitK_blank (k : Nat) (a r : List UInt8) (h : ∀ x ∈ a, x ≠ 32) : Lib.splitK [32] 0 (k + 1) (a ++ 32 :: r) = a :: Lib.splitK [32] 0 k r := by
  have hi := index_blank a r h
  have hb : (Lib.index (a ++ 32 :: r) [32] == -1) = false := by rw [hi]; exact beq_eq_false_iff_ne.2 (by omega)
  have e : Lib.splitK [32] 0 (k + 1) (a ++ 32 :: r) = if Lib.index (a ++ 32 :: r) [32] == -1 then [a ++ 32 :: r] else (a ++ 32 :: r).take ((Lib.index (a ++ 32 :: r) [32]).toNat + 0) :: Lib.splitK [32] 0 k ((a ++ 32 :: r).drop ((Lib.index (a ++ 32 :: r) [32]).toNat + 1)) := rfl
  rw [e, hb, hi]
  simp

theorem splitK_noblank (k : Nat) (a : List UInt8) (h : ∀ x ∈ a, x ≠ 32) : Lib.splitK [32] 0 k a = [a] := by
  cases k with
  | zero => rfl
  | succ k =>
    unfold Lib.splitK
    rw [index_noblank a h]
    rfl

/-- Every text: no blank in it, or a word, a blank and a rest. -/
theorem first_blank : ∀ l : List UInt8, (∀ x ∈ l, x ≠ 32) ∨ ∃ a r, l = a ++ 32 :: r ∧ ∀ x ∈ a, x ≠ 32
  | [] => .inl (fun x hx => by cases hx)
  | c :: l => by
    by_cases hc : c = 32
    · exact .inr ⟨[], l, by rw [hc]; rfl, fun x hx => by cases hx⟩
    · rcases first_blank l with h | ⟨a, r, rfl, h⟩
      · left
        intro x hx
        rcases List.mem_cons.1 hx with rfl | hx
        · exact hc
        · exact h x hx
      · right
        refine ⟨c :: a, r, rfl, fun x hx => ?_⟩
        rcases List.mem_cons.1 hx with rfl | hx
        · exact hc
        · exact h x hx

/-- The text, cut at its first two blanks: fewer than three words, or just those three; a blank in the third means more words. -/
theorem cut_two (l : List UInt8) : (∃ ws, Lib.splitK [32] 0 2 l = ws ∧ ws.length < 3 ∧ wordsL l = ws) ∨
    ∃ a b r, Lib.splitK [32] 0 2 l = [a, b, r] ∧ wordsL l = a :: b :: wordsL r ∧ l = a ++ 32 :: (b ++ 32 :: r) := by
  rcases first_blank l with h | ⟨a, r, rfl, ha⟩
  · exact .inl ⟨[l], splitK_noblank 2 l h, by simp, wordsL_one l h⟩
  · rcases first_blank r with h | ⟨b, r2, rfl, hb⟩
    · refine .inl ⟨[a, r], ?_, by simp, ?_⟩
      · rw [splitK_blank 1 a r ha, splitK_noblank 1 r h]
      · rw [wordsL_app a r ha, wordsL_one r h]
    · refine .inr ⟨a, b, r2, ?_, ?_, rfl⟩
      · rw [splitK_blank 1 a _ ha, splitK_blank 0 b r2 hb]
        rfl
      · rw [wordsL_app a _ ha, wordsL_app b r2 hb]

/-- The pieces of strings.SplitN(s, " ", 3). -/
def piecesB (s : ByteArray) : List ByteArray := Lib.splitB ⟨#[32]⟩ 0 (min 3 (s.size + 1) - 1) s

theorem pieces_data (s : ByteArray) : (piecesB s).map (fun x => x.data.toList) = Lib.splitK [32] 0 2 s.data.toList := by
  unfold piecesB
  rw [Lib.splitB_data]
  show Lib.splitK [32] 0 _ s.data.toList = _
  rw [Lib.size_eq s]
  generalize s.data.toList = l
  match l with
  | [] => rfl
  | [c] =>
    show Lib.splitK [32] 0 1 [c] = Lib.splitK [32] 0 2 [c]
    by_cases hc : c = 32
    · subst hc
      have e1 := splitK_blank 0 [] [] (fun x hx => by cases hx)
      have e2 := splitK_blank 1 [] [] (fun x hx => by cases hx)
      rw [splitK_noblank 1 [] (fun x hx => by cases hx)] at e2
      exact e1.trans e2.symm
    · have h : ∀ x ∈ [c], x ≠ 32 := fun x hx => by rw [List.mem_singleton.1 hx]; exact hc
      rw [splitK_noblank 1 _ h, splitK_noblank 2 _ h]
  | c :: d :: r =>
    have e : min 3 ((c :: d :: r).length + 1) - 1 = 2 := by simp only [List.length_cons]; omega
    rw [e]

theorem bytes_of_data {l : List ByteArray} {m : List (List UInt8)} (h : l.map (fun x => x.data.toList) = m) : l = m.map (fun w => (⟨w.toArray⟩ : ByteArray)) := by
  subst h
  rw [List.map_map]
  have : ((fun w : List UInt8 => (⟨w.toArray⟩ : ByteArray)) ∘ fun x : ByteArray => x.data.toList) = id := rfl
  rw [this, List.map_id]

/-- What SplitN tells of the text: too few words, and then it is no command; or three words, and the third one may be more. -/
theorem pieces_cases (s : ByteArray) : ((piecesB s).length < 3 ∧ parseC s = (zeroC, false)) ∨
    ∃ a b r, piecesB s = [a, b, r] ∧ a.size ≤ s.size ∧ b.size ≤ s.size ∧ r.size ≤ s.size ∧
      parseC s = if ((parseR b).2.2 && (parseR r).2.2 && validC ⟨a, (parseR b).1, (parseR b).2.1, (parseR r).1, (parseR r).2.1⟩) = true then (⟨a, (parseR b).1, (parseR b).2.1, (parseR r).1, (parseR r).2.1⟩, true) else (zeroC, false) := by
  have hp := bytes_of_data (pieces_data s)
  rcases cut_two s.data.toList with ⟨ws, h1, h2, h3⟩ | ⟨a, b, r, h1, h3, he⟩
  · rw [h1] at hp
    left
    refine ⟨by rw [hp, List.length_map]; exact h2, ?_⟩
    unfold parseC wordsB
    rw [h3]
    match ws, h2 with
    | [], _ => rfl
    | [_], _ => rfl
    | [_, _], _ => rfl
  · rw [h1] at hp
    right
    have hz : a.length + (b.length + r.length) ≤ s.size := by rw [Lib.size_eq s, he]; simp; omega
    have sz : ∀ x : List UInt8, (⟨x.toArray⟩ : ByteArray).size = x.length := fun x => by show x.toArray.size = _; simp
    refine ⟨⟨a.toArray⟩, ⟨b.toArray⟩, ⟨r.toArray⟩, hp, by rw [sz]; omega, by rw [sz]; omega, by rw [sz]; omega, ?_⟩
    · by_cases hr : ∀ x ∈ r, x ≠ 32
      · unfold parseC wordsB
        rw [h3, wordsL_one r hr]
        rfl
      · have hf : (parseR ⟨r.toArray⟩).2.2 = false := by
          cases hq : (parseR ⟨r.toArray⟩).2.2 with
          | false => rfl
          | true =>
            exfalso
            have hi := parseR_inv (s := ⟨r.toArray⟩) (k := (parseR ⟨r.toArray⟩).1) (v := (parseR ⟨r.toArray⟩).2.1) (by rw [← hq])
            apply hr
            have := con_noblank hi.2.1
            rw [hi.1] at this
            exact this
        rw [if_neg (by rw [hf]; simp)]
        unfold parseC wordsB
        rw [h3]
        rcases first_blank r with h | ⟨c, q, rfl, hc⟩
        · exact absurd h hr
        · rw [wordsL_app c q hc]
          cases hw : wordsL q with
          | nil => exact absurd hw (wordsL_ne q)
          | cons x y => rfl

end Go.Proofs.YtnmpbocnbcokeaaDoor

/-
  strings.SplitN, by the library's contract, at this program's numbers.
-/
namespace Go.Proofs.YtnmpbocnbcokeaaDoor
open Go.Shelf Go.RowKit
def Sn3.lays147_ren : Go.Shelf.Ren := ⟨fun | 138 => 92 | 143 => 93 | 147 => 53 | 195 => 99 | 197 => 100 | 217 => 107 | 218 => 101 | 219 => 102 | 221 => 78 | 224 => 109 | 225 => 108 | 260 => 106 | 266 => 116 | 267 => 110 | 268 => 91 | 314 => 117 | n => n, fun | 0 => 0 | 3 => 3 | 4 => 4 | 5 => 5 | 9 => 9 | 21 => 21 | 31 => 79 | 46 => 151 | 51 => 162 | 105 => 148 | 119 => 158 | 138 => 160 | 139 => 161 | 146 => 163 | n => n, fun | 1 => 2 | 3 => 3 | 4 => 4 | n => n⟩
theorem Sn3.lays147 : Go.Proofs.Lays.n147 Tryd.prog Sn3.lays147_ren := {
  mixed := by kernel_rfl
  f138 := Tryd.func92.trans (congrArg some (by kernel_rfl))
  f143 := Tryd.func93.trans (congrArg some (by kernel_rfl))
  f147 := Tryd.func53.trans (congrArg some (by kernel_rfl))
  f195 := Tryd.func99.trans (congrArg some (by kernel_rfl))
  f197 := Tryd.func100.trans (congrArg some (by kernel_rfl))
  f217 := Tryd.func107.trans (congrArg some (by kernel_rfl))
  f218 := Tryd.func101.trans (congrArg some (by kernel_rfl))
  f219 := Tryd.func102.trans (congrArg some (by kernel_rfl))
  f221 := Tryd.func78.trans (congrArg some (by kernel_rfl))
  f224 := Tryd.func109.trans (congrArg some (by kernel_rfl))
  f225 := Tryd.func108.trans (congrArg some (by kernel_rfl))
  f260 := Tryd.func106.trans (congrArg some (by kernel_rfl))
  f266 := Tryd.func116.trans (congrArg some (by kernel_rfl))
  f267 := Tryd.func110.trans (congrArg some (by kernel_rfl))
  f268 := Tryd.func91.trans (congrArg some (by kernel_rfl))
  f314 := Tryd.func117.trans (congrArg some (by kernel_rfl))
  t0 := Tryd.underlying0
  a0 := Tryd.isAgg0
  z0 := Tryd.sizeOf0
  v0 := Tryd.zeroValue0
  t3 := Tryd.underlying3
  a3 := Tryd.isAgg3
  z3 := Tryd.sizeOf3
  v3 := Tryd.zeroValue3
  t4 := Tryd.underlying4
  a4 := Tryd.isAgg4
  z4 := Tryd.sizeOf4
  v4 := Tryd.zeroValue4
  t5 := Tryd.underlying5
  a5 := Tryd.isAgg5
  z5 := Tryd.sizeOf5
  v5 := Tryd.zeroValue5
  t9 := Tryd.underlying9
  a9 := Tryd.isAgg9
  z9 := Tryd.sizeOf9
  v9 := Tryd.zeroValue9
  t21 := Tryd.underlying21
  a21 := Tryd.isAgg21
  z21 := Tryd.sizeOf21
  v21 := Tryd.zeroValue21
  t31 := Tryd.underlying79
  a31 := Tryd.isAgg79
  z31 := Tryd.sizeOf79
  v31 := Tryd.zeroValue79
  t46 := Tryd.underlying151
  a46 := Tryd.isAgg151
  z46 := Tryd.sizeOf151
  v46 := Tryd.zeroValue151
  t51 := Tryd.underlying162
  a51 := Tryd.isAgg162
  z51 := Tryd.sizeOf162
  v51 := Tryd.zeroValue162
  t105 := Tryd.underlying148
  a105 := Tryd.isAgg148
  z105 := Tryd.sizeOf148
  v105 := Tryd.zeroValue148
  t119 := Tryd.underlying158
  a119 := Tryd.isAgg158
  z119 := Tryd.sizeOf158
  t138 := Tryd.underlying160
  a138 := Tryd.isAgg160
  z138 := Tryd.sizeOf160
  v138 := Tryd.zeroValue160
  t139 := Tryd.underlying161
  a139 := Tryd.isAgg161
  z139 := Tryd.sizeOf161
  v139 := Tryd.zeroValue161
  t146 := Tryd.underlying163
  a146 := Tryd.isAgg163
  z146 := Tryd.sizeOf163
  v146 := Tryd.zeroValue163
  g1 := by kernel_rfl
  g3 := by kernel_rfl
  g4 := by kernel_rfl }

end Go.Proofs.YtnmpbocnbcokeaaDoor

/-
  WALKS: commands of the model: spec.l11Words, spec.CommandParse.
-/
namespace Go.Proofs.YtnmpbocnbcokeaaDoor
open Go.RowKit
set_option linter.unusedVariables false

/-- No blank stands from place a up to b. -/
def NoBl (s : ByteArray) (a b : Nat) : Prop := ∀ j, a ≤ j → j < b → s.data.toList[j]? ≠ some 32

theorem byte_32 {c : UInt8} (h : ((c.toNat : Int) == 32) = true) : c = 32 := by
  have h : (c.toNat : Int) = 32 := eq_of_beq h
  have h2 : c.toNat = 32 := by omega
  exact UInt8.toNat_inj.1 h2
theorem byte_not_32 {c : UInt8} (h : ((c.toNat : Int) == 32) = false) : c ≠ 32 := by
  intro e
  subst e
  exact absurd h (by decide)

theorem NoBl.step {s : ByteArray} {a b : Nat} (h : NoBl s a b) (hb : b < s.size) (hc : ((s[b].toNat : Int) == 32) = false) : NoBl s a (b + 1) := by
  intro j hj1 hj2
  by_cases e : j = b
  · subst e
    rw [Pm.byte_getElem? s j hb]
    intro e
    exact byte_not_32 hc (by simpa using e)
  · exact h j hj1 (by omega)

theorem NoBl.mem {s : ByteArray} {a b : Nat} (h : NoBl s a b) : ∀ x ∈ (s.data.toList.drop a).take (b - a), x ≠ 32 := by
  intro x hx e
  obtain ⟨k, hk⟩ := List.mem_iff_getElem?.1 hx
  rw [List.getElem?_take] at hk
  split at hk
  · rw [List.getElem?_drop] at hk
    exact h (a + k) (by omega) (by omega) (by rw [hk, e])
  · cases hk

theorem words_at (s : ByteArray) (a i : Nat) (h1 : a ≤ i) (hi : i < s.size) (hno : NoBl s a i) (hc : ((s[i].toNat : Int) == 32) = true) :
    wordsB (s.extract a s.size) = s.extract a i :: wordsB (s.extract (i + 1) s.size) := by
  have hcc : s.data.toList[i]? = some 32 := by rw [Pm.byte_getElem? s i hi, byte_32 hc]
  have hl : i < s.data.toList.length := by rw [← Lib.size_eq]; exact hi
  have hd : s.data.toList.drop a = (s.data.toList.drop a).take (i - a) ++ 32 :: s.data.toList.drop (i + 1) := by
    have e := List.take_append_drop (i - a) (s.data.toList.drop a)
    rw [List.drop_drop, show a + (i - a) = i from by omega] at e
    have e2 : s.data.toList.drop i = 32 :: s.data.toList.drop (i + 1) := by
      rw [List.drop_eq_getElem_cons hl]
      congr 1
      rw [List.getElem?_eq_getElem hl] at hcc
      simpa using hcc
    rw [e2] at e
    exact e.symm
  unfold wordsB
  rw [Pm.extract_end_data, Pm.extract_end_data]
  have := wordsL_app ((s.data.toList.drop a).take (i - a)) (s.data.toList.drop (i + 1)) hno.mem
  rw [← hd] at this
  rw [this, List.map_cons]
  congr 1
  rw [Lib.extract_eq]

theorem words_end (s : ByteArray) (a : Nat) (hno : NoBl s a s.size) : wordsB (s.extract a s.size) = [s.extract a s.size] := by
  unfold wordsB
  have e : (s.data.toList.drop a).take (s.size - a) = s.data.toList.drop a := List.take_of_length_le (by rw [List.length_drop, ← Lib.size_eq]; omega)
  rw [Pm.extract_end_data]
  have hm := hno.mem
  rw [e] at hm
  rw [wordsL_one _ hm, List.map_cons, List.map_nil, ← Pm.extract_end_data]

def WordsRel (s : ByteArray) (w : World) (v fr i : Value) (wr : World) : Prop :=
  ∃ (done : List ByteArray) (f k : Nat), fr = .int .i64 f ∧ i = .int .i64 k ∧ f ≤ k ∧ k ≤ s.size ∧ done.length ≤ f ∧ wr.ownsRow w.heap.size 9 1 v done.length (done.map Value.string) ∧
    Below w.heap.size w wr ∧ Hid (wordsB s = done ++ wordsB (s.extract f s.size)) ∧ Hid (NoBl s f k)

set_option maxRecDepth 100000 in
set_option maxHeartbeats 1000000 in
theorem l11Words_c (s : ByteArray) (hs : s.size ≤ 2097152) (w : World) :
    Calls Tryd.prog 57 #[.string s] w fun e w' => OwnsTexts w.heap.size (wordsB s) e w' ∧ Below w.heap.size w w' := by
  obtain ⟨i0, hi, hz0, hz1, hz2⟩ := info_parts infoStr
  have h00 : wordsB s = wordsB (s.extract 0 s.size) := by rw [ByteArray.extract_zero_size]
  have H00 := Lib.hid h00
  clear h00
  go_enter Tryd.func57, Tryd.ntmps57
  go_wp2
  go_loopw [3, 4, 5] (fun v fr i wr => WordsRel s w v fr i wr) (fun _ _ i _ => s.size - (intOf i).toNat)
  case atStart =>
    exact ⟨[], 0, 0, rfl, rfl, by omega, by omega, by simp, World.ownsRow_lit (e := 9) (size := 1) w #[] 0 (Nat.le_refl _) (by simp [maxLen]) rfl, (Below.refl _ _).alloc (Nat.le_refl _) _, H00, fun j a b => by omega⟩
  case round =>
    obtain ⟨done, f, k, rfl, rfl, hfk, hk, hd, hrow, hB, HN, HS⟩ := hrel
    have hlt0 := hrow.lt
    by_cases hlt : k < s.size
    · cases hb : ((s[k].toNat : Int) == 32) with
      | false =>
        have HS2 : Hid (NoBl s f (k + 1)) := HS.out.step hlt hb
        go_wp2
        go_roundw
        case rel => exact ⟨done, f, k + 1, rfl, by go_num, by omega, by omega, hd, hrow, hB, HN, HS2⟩
        case measure => simp [intOf]; omega
      | true =>
        have hsp := words_at s f k hfk hlt HS.out hb
        have HN2 : Hid (wordsB s = (done ++ [s.extract f k]) ++ wordsB (s.extract (k + 1) s.size)) := by
          show _ = _; rw [HN.out, hsp, List.append_assoc]; rfl
        clear hsp
        have c1 : (0 : Int) ≤ ↑f := by omega
        have c2 : (↑f : Int) ≤ ↑k := by omega
        have c3 : (↑k : Int) ≤ ↑s.size := by omega
        go_wp2_with (at_builtin; refine wpList_append_own _ rfl _ _ 79 rfl w.heap.size 9 i0 (.string ⟨#[]⟩) 1 16 Tryd.underlying79 hi hz0 hz1 hz2 rfl (by decide) _ _ _ rfl (hrow.alloc _) ⟨wr.heap.size, 0, none⟩ 1 1 [.string (s.extract f k)] rfl rfl (cell_one_new _ _ _) (fun x hx => by simp at hx; subst hx; rfl) (by unfold maxLen; omega) (by omega) (by have := hB.size; simp; omega) ?_; intro v' w3 hown' hgrow3 hnil3)
        have hB3 : Below w.heap.size w w3 := (hB.alloc hB.size _).grown hgrow3 (by have := hB.size; simp; omega) (fun k e => (hlt0 k e).1)
        go_roundw
        case rel => exact ⟨done ++ [s.extract f k], k + 1, k + 1, by go_num, by go_num, by omega, by omega, by simp; omega, by simpa using hown', hB3, HN2, fun j a b => by omega⟩
        case measure => simp [intOf]; omega
    · obtain rfl : k = s.size := by omega
      have hsp := words_end s f HS.out
      have HN2 : Hid (wordsB s = done ++ [s.extract f s.size]) := by show _ = _; rw [HN.out, hsp]
      clear hsp hlt
      have c1 : (0 : Int) ≤ ↑f := by omega
      have c2 : (↑f : Int) ≤ ↑s.size := by omega
      go_wp2_with (at_builtin; refine wpList_append_own _ rfl _ _ 79 rfl w.heap.size 9 i0 (.string ⟨#[]⟩) 1 16 Tryd.underlying79 hi hz0 hz1 hz2 rfl (by decide) _ _ _ rfl (hrow.alloc _) ⟨wr.heap.size, 0, none⟩ 1 1 [.string (s.extract f s.size)] rfl rfl (cell_one_new _ _ _) (fun x hx => by simp at hx; subst hx; rfl) (by unfold maxLen; omega) (by omega) (by have := hB.size; simp; omega) ?_; intro v' w3 hown' hgrow3 hnil3)
      have hB3 : Below w.heap.size w w3 := (hB.alloc hB.size _).grown hgrow3 (by have := hB.size; simp; omega) (fun k e => (hlt0 k e).1)
      go_ret
      refine ⟨?_, hB3⟩
      obtain ⟨g, cap, hv⟩ := ownsRow_succ hown'
      subst hv
      refine ⟨g, cap, ?_, ?_⟩
      · rw [HN2.out]; simp
      · rw [HN2.out]; simpa using hown'

end Go.Proofs.YtnmpbocnbcokeaaDoor

/-
  WALK: spec.CommandParse.
-/
namespace Go.Proofs.YtnmpbocnbcokeaaDoor
open Go.RowKit
set_option linter.unusedVariables false

theorem wordsL_short : ∀ (l : List UInt8) (x : List UInt8), x ∈ wordsL l → x.length ≤ l.length
  | [], x, h => by simp [wordsL] at h; subst h; simp
  | c :: r, x, h => by
    unfold wordsL at h
    split at h
    · rcases List.mem_cons.1 h with rfl | h
      · simp
      · have := wordsL_short r x h; simp; omega
    · split at h
      · rcases List.mem_singleton.1 h with rfl; simp
      · rename_i w ws hr
        rcases List.mem_cons.1 h with rfl | h
        · have := wordsL_short r w (by rw [hr]; simp)
          simp; omega
        · have := wordsL_short r x (by rw [hr]; exact List.mem_cons_of_mem _ h)
          simp; omega

theorem wordsB_short {s x : ByteArray} (h : x ∈ wordsB s) : x.size ≤ s.size := by
  unfold wordsB at h
  obtain ⟨w, hw, rfl⟩ := List.mem_map.1 h
  have := wordsL_short _ _ hw
  rw [Lib.size_eq s]
  show w.toArray.size ≤ _
  rw [List.size_toArray]
  exact this

theorem wordsB_pos (s : ByteArray) : 1 ≤ (wordsB s).length := by
  unfold wordsB
  rw [List.length_map]
  cases h : wordsL s.data.toList with
  | nil => exact absurd h (wordsL_ne _)
  | cons x r => simp

theorem parse_count {s : ByteArray} (h : (wordsB s).length ≠ 3) : parseC s = (zeroC, false) := by
  unfold parseC
  split
  · rename_i a b c e; rw [e] at h; exact absurd rfl h
  · rfl


set_option maxHeartbeats 1000000 in
set_option maxRecDepth 100000 in
theorem specCmdParse_count (s : ByteArray) (hs : s.size ≤ 2097152) (h3 : (wordsB s).length ≠ 3) (W : World) : Calls Tryd.prog 23 #[.string s] W (CmdPairPost (parseC s).1 (parseC s).2 W) := by
  have HR := Lib.hid (parse_count h3)
  obtain ⟨n, hn⟩ : ∃ n, (wordsB s).length = n := ⟨_, rfl⟩
  have HW := Lib.hid (fun W' => l11Words_c s hs W')
  have hb3 : ((n : Int) != 3) = true := by rw [hn] at h3; simp; omega
  have HN := Lib.hid hn
  clear h3 hn
  go_enter Tryd.func23, Tryd.ntmps23
  go_wp2_with fail
  refine (HW.out _).mono ?_
  rintro e W1 ⟨⟨g, cap, rfl, hrow⟩, hb1⟩
  have T1 := Lib.hid ((five_new W _ _ _ _ _ _).below hb1)
  have B1 := Lib.hid (below_next (below_box W _) hb1)
  rw [HN.out] at *
  clear hb1 hrow
  obtain ⟨c0, c1, c2, c3, c4, f0, f1, f2, f3, f4, -⟩ := T1.out
  go_wp2
  rw [HR.out]
  exact cmdpair_ret _ rfl rfl T1.out B1.out rfl rfl

theorem parse_three {s a b c : ByteArray} (h : wordsB s = [a, b, c]) {k1 v1 k2 v2 : Int} {p1 p2 : Bool} (h1 : parseR b = (k1, v1, p1)) (h2 : parseR c = (k2, v2, p2)) :
    parseC s = if (p1 && p2 && validC ⟨a, k1, v1, k2, v2⟩) = true then (⟨a, k1, v1, k2, v2⟩, true) else (zeroC, false) := by
  unfold parseC
  rw [h]
  simp only [h1, h2]

/-- What stands still while the command is put together. -/
def CPar (W : World) (n3 g n2 : Nat) (a : ByteArray) (k1 v1 k2 v2 : Int) (w' : World) : Prop :=
  w'.cell? ⟨g, 0, none⟩ = some (.string a) ∧ w'.cell? ⟨n2, 0, none⟩ = some (.int .i64 k1) ∧ w'.cell? ⟨n2, 1, none⟩ = some (.int .i64 v1) ∧ w'.cell? ⟨n3, 0, none⟩ = some (.int .i64 k2) ∧ w'.cell? ⟨n3, 1, none⟩ = some (.int .i64 v2) ∧
    Five w' W.heap.size (.string ⟨#[]⟩) (.int .i64 0) (.int .i64 0) (.int .i64 0) (.int .i64 0) ∧ Below W.heap.size W w'

theorem CPar.drew {W w' : World} {n3 g n2 : Nat} {a : ByteArray} {k1 v1 k2 v2 : Int} (h : CPar W n3 g n2 a k1 v1 k2 v2 w') : CPar W n3 g n2 a k1 v1 k2 v2 w'.drew :=
  ⟨h.1, h.2.1, h.2.2.1, h.2.2.2.1, h.2.2.2.2.1, h.2.2.2.2.2.1.drew, h.2.2.2.2.2.2.drew⟩

theorem CPar.next {W w' : World} {n3 g n2 : Nat} {a : ByteArray} {k1 v1 k2 v2 : Int} (h : CPar W n3 g n2 a k1 v1 k2 v2 w') (o : Obj) : CPar W n3 g n2 a k1 v1 k2 v2 (w'.alloc o) := by
  obtain ⟨h0, h1, h2, h3, h4, h5, h6⟩ := h
  have hb := below_box w' o
  exact ⟨cell_kept hb h0, cell_kept hb h1, cell_kept hb h2, cell_kept hb h3, cell_kept hb h4, h5.below hb, below_next h6 hb⟩

set_option maxHeartbeats 2000000 in
set_option maxRecDepth 100000 in
theorem specCmdParse_three (s : ByteArray) (hs : s.size ≤ 2097152) (a b c : ByteArray) (h3 : wordsB s = [a, b, c]) (W : World) : Calls Tryd.prog 23 #[.string s] W (CmdPairPost (parseC s).1 (parseC s).2 W) := by
  have hW := fun W' => l11Words_c s hs W'
  rw [h3] at hW
  have HW := Lib.hid hW
  have ha := wordsB_short (show a ∈ wordsB s by rw [h3]; simp)
  obtain ⟨⟨k1, v1, p1⟩, h1⟩ : ∃ r, parseR b = r := ⟨_, rfl⟩
  obtain ⟨⟨k2, v2, p2⟩, h2⟩ : ∃ r, parseR c = r := ⟨_, rfl⟩
  obtain ⟨vc, hvc⟩ : ∃ vc, validC ⟨a, k1, v1, k2, v2⟩ = vc := ⟨_, rfl⟩
  have HR := Lib.hid (parse_three h3 h1 h2)
  have H1 := Lib.hid (fun W' => show Calls Tryd.prog 58 #[.string b] W' (PairPost k1 v1 p1 W') by have := specParse_c b W'; unfold ParsePost at this; rw [h1] at this; exact this)
  have H2 := Lib.hid (fun W' => show Calls Tryd.prog 58 #[.string c] W' (PairPost k2 v2 p2 W') by have := specParse_c c W'; unfold ParsePost at this; rw [h2] at this; exact this)
  have HC := Lib.hid (fun W' => show Calls Tryd.prog 14 #[.agg #[.string a, .int .i64 k1, .int .i64 v1, .int .i64 k2, .int .i64 v2]] W' (BoolPost vc W') by rw [← hvc]; exact specCmdValid_c ⟨a, k1, v1, k2, v2⟩ (by show a.size ≤ _; omega) W')
  rw [hvc] at HR
  clear h3 h1 h2 hvc ha hW
  go_enter Tryd.func23, Tryd.ntmps23
  go_wp2_with fail
  refine (HW.out _).mono ?_
  rintro e W1 ⟨⟨g, cap, rfl, hrow⟩, hb1⟩
  have T1 := Lib.hid ((five_new W _ _ _ _ _ _).below hb1)
  have B1 := Lib.hid (below_next (below_box W _) hb1)
  have HO := Lib.hid hrow
  have d0 : W1.cell? ⟨g, 0, none⟩ = some (.string a) := (hrow.cellAt 0 (by simp)).trans rfl
  have d1 : W1.cell? ⟨g, 1, none⟩ = some (.string b) := (hrow.cellAt 1 (by simp)).trans rfl
  have d2 : W1.cell? ⟨g, 2, none⟩ = some (.string c) := (hrow.cellAt 2 (by simp)).trans rfl
  clear hb1 hrow
  go_wp2_with fail
  refine (H1.out _).mono ?_
  rintro e W2 ⟨rfl, hb2⟩
  have e0 := cell_kept hb2 d0
  have e2 := cell_kept hb2 d2
  have T2 := Lib.hid (T1.out.below hb2)
  have B2 := Lib.hid (below_next B1.out hb2)
  have e3 := fun o => cell_kept (below_box W2 o) e2
  clear hb2 d0 d1 d2 e2
  go_wp2_with fail
  refine (H2.out _).mono ?_
  rintro e W3 ⟨rfl, hb3⟩
  have hb3' := below_next (below_box W2 _) hb3
  have f0 := cell_kept hb3' e0
  have x0 := box_cell hb3 0
  have x1 := box_cell hb3 1
  simp at x0 x1
  have T3 := Lib.hid (T2.out.below hb3')
  have B3 := Lib.hid (below_next B2.out hb3')
  have y0 := fun o => cell_kept (below_box W3 o) f0
  have z0 := fun o => cell_kept (below_box W3 o) x0
  have z1 := fun o => cell_kept (below_box W3 o) x1
  have z2 : ∀ o : Obj, True := fun _ => trivial
  have HS0 : Hid (CPar W W3.heap.size g W2.heap.size a k1 v1 k2 v2 (W3.alloc (.cells #[.int .i64 k2, .int .i64 v2] 25))) :=
    ⟨y0 _, z0 _, z1 _, by rw [World.cell?_alloc_new]; rfl, by rw [World.cell?_alloc_new]; rfl, T3.out.alloc _, B3.out.alloc B3.out.size _⟩
  have HS1 := Lib.hid (HS0.out.next (.cells #[.string ⟨#[]⟩, .int .i64 0, .int .i64 0, .int .i64 0, .int .i64 0] 27))
  have HS2 := Lib.hid (HS0.out.next (.cells #[.string a, .int .i64 k1, .int .i64 v1, .int .i64 k2, .int .i64 v2] 27))
  clear hb3 hb3' e0 e3 f0 x0 x1 z2
  go_upto_region 6 with (fail)
  go_region_held3 (fun w' => w'.cell? ⟨g, 0, none⟩ = some (.string a) ∧ w'.cell? ⟨W2.heap.size, 0, none⟩ = some (.int .i64 k1) ∧ w'.cell? ⟨W2.heap.size, 1, none⟩ = some (.int .i64 v1) ∧ w'.cell? ⟨W3.heap.size, 0, none⟩ = some (.int .i64 k2) ∧ w'.cell? ⟨W3.heap.size, 1, none⟩ = some (.int .i64 v2) ∧ Five w' W.heap.size (.string ⟨#[]⟩) (.int .i64 0) (.int .i64 0) (.int .i64 0) (.int .i64 0) ∧ Below W.heap.size W w')
    (first | exact HS0.out.drew | exact HS1.out.drew | exact HS2.out.drew)
    (fail)
  rename_i hHeld
  have HF5 : Hid (Five ((W3.alloc (.cells #[.int .i64 k2, .int .i64 v2] 25)).alloc (.cells #[.string a, .int .i64 k1, .int .i64 v1, .int .i64 k2, .int .i64 v2] 27)).drew (W3.heap.size + 1) (.string a) (.int .i64 k1) (.int .i64 v1) (.int .i64 k2) (.int .i64 v2)) := by
    have := (five_new (W3.alloc (.cells #[.int .i64 k2, .int .i64 v2] 25)) (.string a) (.int .i64 k1) (.int .i64 v1) (.int .i64 k2) (.int .i64 v2) 27).drew
    have e : (W3.alloc (.cells #[.int .i64 k2, .int .i64 v2] 25)).heap.size = W3.heap.size + 1 := by simp
    rw [e] at this
    exact this
  have HT5 := Lib.hid HS2.out.drew.2.2.2.2.2.1
  have HB5 := Lib.hid HS2.out.drew.2.2.2.2.2.2
  clear hHeld HS0 HS1 HS2 y0 z0 z1 T3 B3 T1 B1 T2 B2 HO
  generalize ((W3.alloc (.cells #[.int .i64 k2, .int .i64 v2] 25)).alloc (.cells #[.string a, .int .i64 k1, .int .i64 v1, .int .i64 k2, .int .i64 v2] 27)).drew = W5 at HF5 HT5 HB5 ⊢
  generalize W3.heap.size + 1 = n4 at HF5 ⊢
  obtain ⟨c0, c1, c2, c3, c4, -⟩ := HF5.out
  obtain ⟨-, -, -, -, -, f0, f1, f2, f3, f4, -⟩ := HT5.out
  obtain ⟨t0, t1, t2, t3, t4, -⟩ := HT5.out
  cases p1 with
  | false =>
    clear c0 c1 c2 c3 c4
    go_wp2
    rw [HR.out]
    exact cmdpair_ret _ rfl rfl HT5.out HB5.out rfl rfl
  | true =>
    cases p2 with
    | false =>
      clear c0 c1 c2 c3 c4
      go_wp2
      rw [HR.out]
      exact cmdpair_ret _ rfl rfl HT5.out HB5.out rfl rfl
    | true =>
      clear f0 f1 f2 f3 f4 t0 t1 t2 t3 t4
      go_wp2_with fail
      refine (HC.out _).mono ?_
      rintro e W6 ⟨rfl, hb6⟩
      have T6 := Lib.hid (HT5.out.below hb6)
      have F6 := Lib.hid (HF5.out.below hb6)
      have B6 := Lib.hid (below_next HB5.out hb6)
      clear hb6 c0 c1 c2 c3 c4 HT5 HF5 HB5
      obtain ⟨t0, t1, t2, t3, t4, f0, f1, f2, f3, f4, -⟩ := T6.out
      cases vc with
      | false =>
        go_wp2
        rw [HR.out]
        exact cmdpair_ret _ rfl rfl T6.out B6.out rfl rfl
      | true =>
        obtain ⟨c0, c1, c2, c3, c4, -⟩ := F6.out
        go_wp2
        rw [HR.out]
        exact cmdpair_ret _ rfl rfl T6.out B6.out rfl rfl

theorem specCmdParse_c (s : ByteArray) (hs : s.size ≤ 2097152) (W : World) : Calls Tryd.prog 23 #[.string s] W (CmdPairPost (parseC s).1 (parseC s).2 W) := by
  by_cases h : (wordsB s).length = 3
  · match h' : wordsB s, h with
    | [a, b, c], _ => exact specCmdParse_three s hs a b c h' W
  · exact specCmdParse_count s hs h W

end Go.Proofs.YtnmpbocnbcokeaaDoor

/-
  WALKS: impl.CommandParse, over strings.SplitN.
-/
namespace Go.Proofs.YtnmpbocnbcokeaaDoor
open Go.RowKit
set_option linter.unusedVariables false

/-- internal/bytealg.MaxLen holds some int. -/
def MaxVar (w : World) : Prop := ∃ m, w.cell? ⟨2, 0, none⟩ = some (.int .i64 m)

theorem MaxVar.keep {w w' : World} (h : MaxVar w) (hb : Below w.heap.size w w') : MaxVar w' := by
  obtain ⟨m, h⟩ := h
  exact ⟨m, cell_kept hb h⟩

/-- What reading a command wants of the library's variables. -/
def ParseVars (w : World) : Prop := ErrVars w ∧ MaxVar w

theorem ParseVars.keep {w w' : World} (h : ParseVars w) (hb : Below w.heap.size w w') : ParseVars w' := ⟨h.1.keep hb, h.2.keep hb⟩

/-- What strings.SplitN(s, " ", 3) leaves: the pieces, in a block of its own. -/
def SplitPost (ps : List ByteArray) (W : World) (e : Ending) (w' : World) : Prop :=
  (∃ g cap, e = .returned (.slice (some ⟨g, 0, none⟩) ps.length cap) ∧ ∀ (j : Nat) x, ps[j]? = some x → w'.cell? ⟨g, j, none⟩ = some (.string x)) ∧ Below W.heap.size W w'

theorem splitN_c (s : ByteArray) (hs : s.size ≤ 2097152) (W : World) (hm : MaxVar W) :
    Calls Tryd.prog 53 #[.string s, .string ⟨#[32]⟩, .int .i64 3] W (SplitPost (piecesB s) W) := by
  obtain ⟨m, hm⟩ := hm
  have h := Any.strings_SplitN Sn3.lays147 (by kernel_rfl) s ⟨#[32]⟩ 3 m W (by omega) hm (by decide) (by omega) (by omega)
  refine Calls.mono (show Calls Tryd.prog 53 #[.string s, .string ⟨#[32]⟩, .int .i64 3] W _ from h) ?_
  rintro e w' ⟨rfl, rfl⟩
  refine ⟨⟨W.heap.size, min 3 (s.size + 1), rfl, fun j x hx => ?_⟩, below_box _ _⟩
  have hj : j < (piecesB s).length := by
    rcases Nat.lt_or_ge j (piecesB s).length with h' | h'
    · exact h'
    · rw [List.getElem?_eq_none h'] at hx; cases hx
  rw [World.cell?_alloc_at _ _ _ _ rfl]
  show (Lib.cellsOf (piecesB s) (min 3 (s.size + 1)))[j]? = _
  unfold Lib.cellsOf
  rw [List.getElem?_toArray, List.getElem?_append_left (by simpa using hj), List.getElem?_map, hx]
  rfl

set_option maxHeartbeats 1000000 in
set_option maxRecDepth 100000 in
theorem implCmdParse_count (s : ByteArray) (hs : s.size ≤ 2097152) (h3 : (piecesB s).length < 3) (hR : parseC s = (zeroC, false)) (W : World) (hE : ParseVars W) : Calls Tryd.prog 21 #[.string s] W (CmdPairPost (parseC s).1 (parseC s).2 W) := by
  have HR := Lib.hid hR
  have HE := Lib.hid hE
  obtain ⟨n, hn⟩ : ∃ n, (piecesB s).length = n := ⟨_, rfl⟩
  have HW := Lib.hid (fun W' hm => splitN_c s hs W' hm)
  have hb3 : (n : Int) < 3 := by omega
  have HN := Lib.hid hn
  clear h3 hn hE hR
  go_enter Tryd.func21, Tryd.ntmps21
  go_wp2_with fail
  refine (HW.out _ (HE.out.2.keep (below_box _ _))).mono ?_
  rintro e W1 ⟨⟨g, cap, rfl, hrow⟩, hb1⟩
  have T1 := Lib.hid ((five_new W _ _ _ _ _ _).below hb1)
  have B1 := Lib.hid (below_next (below_box W _) hb1)
  rw [HN.out] at *
  clear hb1 hrow
  obtain ⟨c0, c1, c2, c3, c4, f0, f1, f2, f3, f4, -⟩ := T1.out
  go_wp2
  rw [HR.out]
  exact cmdpair_ret _ rfl rfl T1.out B1.out rfl rfl

set_option maxHeartbeats 2000000 in
set_option maxRecDepth 100000 in
theorem implCmdParse_three (s : ByteArray) (hs : s.size ≤ 2097152) (a b c : ByteArray) (h3 : piecesB s = [a, b, c]) (ha : a.size ≤ s.size) (hb : b.size ≤ s.size) (hc : c.size ≤ s.size)
    (hR : parseC s = if ((parseR b).2.2 && (parseR c).2.2 && validC ⟨a, (parseR b).1, (parseR b).2.1, (parseR c).1, (parseR c).2.1⟩) = true then (⟨a, (parseR b).1, (parseR b).2.1, (parseR c).1, (parseR c).2.1⟩, true) else (zeroC, false))
    (W : World) (hE : ParseVars W) : Calls Tryd.prog 21 #[.string s] W (CmdPairPost (parseC s).1 (parseC s).2 W) := by
  have hW := fun W' hm => splitN_c s hs W' hm
  rw [h3] at hW
  have HW := Lib.hid hW
  have HE := Lib.hid hE
  obtain ⟨⟨k1, v1, p1⟩, h1⟩ : ∃ r, parseR b = r := ⟨_, rfl⟩
  obtain ⟨⟨k2, v2, p2⟩, h2⟩ : ∃ r, parseR c = r := ⟨_, rfl⟩
  obtain ⟨vc, hvc⟩ : ∃ vc, validC ⟨a, k1, v1, k2, v2⟩ = vc := ⟨_, rfl⟩
  rw [h1, h2] at hR
  simp only at hR
  have HR := Lib.hid hR
  have H1 := Lib.hid (fun W' hE => show Calls Tryd.prog 54 #[.string b] W' (PairPost k1 v1 p1 W') by have := implParse_c b (by omega) W' hE; unfold ParsePost at this; rw [h1] at this; exact this)
  have H2 := Lib.hid (fun W' hE => show Calls Tryd.prog 54 #[.string c] W' (PairPost k2 v2 p2 W') by have := implParse_c c (by omega) W' hE; unfold ParsePost at this; rw [h2] at this; exact this)
  have HC := Lib.hid (fun W' => show Calls Tryd.prog 24 #[.agg #[.string a, .int .i64 k1, .int .i64 v1, .int .i64 k2, .int .i64 v2]] W' (BoolPost vc W') by rw [← hvc]; exact implCmdValid_c ⟨a, k1, v1, k2, v2⟩ (by show a.size ≤ _; omega) W')
  rw [hvc] at HR
  clear h3 h1 h2 hvc ha hb hc hW hE hR
  go_enter Tryd.func21, Tryd.ntmps21
  go_wp2_with fail
  refine (HW.out _ (HE.out.2.keep (below_box _ _))).mono ?_
  rintro e W1 ⟨⟨g, cap, rfl, hrow⟩, hb1⟩
  have T1 := Lib.hid ((five_new W _ _ _ _ _ _).below hb1)
  have B1 := Lib.hid (below_next (below_box W _) hb1)
  have d0 : W1.cell? ⟨g, 0, none⟩ = some (.string a) := hrow 0 a rfl
  have d1 : W1.cell? ⟨g, 1, none⟩ = some (.string b) := hrow 1 b rfl
  have d2 : W1.cell? ⟨g, 2, none⟩ = some (.string c) := hrow 2 c rfl
  clear hb1 hrow
  go_wp2_with fail
  refine (H1.out _ (HE.out.1.keep B1.out)).mono ?_
  rintro e W2 ⟨rfl, hb2⟩
  have e0 := cell_kept hb2 d0
  have e2 := cell_kept hb2 d2
  have T2 := Lib.hid (T1.out.below hb2)
  have B2 := Lib.hid (below_next B1.out hb2)
  have e3 := fun o => cell_kept (below_box W2 o) e2
  clear hb2 d0 d1 d2 e2
  go_wp2_with fail
  refine (H2.out _ (HE.out.1.keep (B2.out.alloc B2.out.size _))).mono ?_
  rintro e W3 ⟨rfl, hb3⟩
  have hb3' := below_next (below_box W2 _) hb3
  have f0 := cell_kept hb3' e0
  have x0 := box_cell hb3 0
  have x1 := box_cell hb3 1
  simp at x0 x1
  have T3 := Lib.hid (T2.out.below hb3')
  have B3 := Lib.hid (below_next B2.out hb3')
  have y0 := fun o => cell_kept (below_box W3 o) f0
  have z0 := fun o => cell_kept (below_box W3 o) x0
  have z1 := fun o => cell_kept (below_box W3 o) x1
  have z2 : ∀ o : Obj, True := fun _ => trivial
  have HS0 : Hid (CPar W W3.heap.size g W2.heap.size a k1 v1 k2 v2 (W3.alloc (.cells #[.int .i64 k2, .int .i64 v2] 25))) :=
    ⟨y0 _, z0 _, z1 _, by rw [World.cell?_alloc_new]; rfl, by rw [World.cell?_alloc_new]; rfl, T3.out.alloc _, B3.out.alloc B3.out.size _⟩
  have HS1 := Lib.hid (HS0.out.next (.cells #[.string ⟨#[]⟩, .int .i64 0, .int .i64 0, .int .i64 0, .int .i64 0] 27))
  have HS2 := Lib.hid (HS0.out.next (.cells #[.string a, .int .i64 k1, .int .i64 v1, .int .i64 k2, .int .i64 v2] 27))
  clear hb3 hb3' e0 e3 f0 x0 x1 z2
  go_upto_region 6 with (fail)
  go_region_held3 (fun w' => w'.cell? ⟨g, 0, none⟩ = some (.string a) ∧ w'.cell? ⟨W2.heap.size, 0, none⟩ = some (.int .i64 k1) ∧ w'.cell? ⟨W2.heap.size, 1, none⟩ = some (.int .i64 v1) ∧ w'.cell? ⟨W3.heap.size, 0, none⟩ = some (.int .i64 k2) ∧ w'.cell? ⟨W3.heap.size, 1, none⟩ = some (.int .i64 v2) ∧ Five w' W.heap.size (.string ⟨#[]⟩) (.int .i64 0) (.int .i64 0) (.int .i64 0) (.int .i64 0) ∧ Below W.heap.size W w')
    (first | exact HS0.out.drew | exact HS1.out.drew | exact HS2.out.drew)
    (fail)
  rename_i hHeld
  have HF5 : Hid (Five ((W3.alloc (.cells #[.int .i64 k2, .int .i64 v2] 25)).alloc (.cells #[.string a, .int .i64 k1, .int .i64 v1, .int .i64 k2, .int .i64 v2] 27)).drew (W3.heap.size + 1) (.string a) (.int .i64 k1) (.int .i64 v1) (.int .i64 k2) (.int .i64 v2)) := by
    have := (five_new (W3.alloc (.cells #[.int .i64 k2, .int .i64 v2] 25)) (.string a) (.int .i64 k1) (.int .i64 v1) (.int .i64 k2) (.int .i64 v2) 27).drew
    have e : (W3.alloc (.cells #[.int .i64 k2, .int .i64 v2] 25)).heap.size = W3.heap.size + 1 := by simp
    rw [e] at this
    exact this
  have HT5 := Lib.hid HS2.out.drew.2.2.2.2.2.1
  have HB5 := Lib.hid HS2.out.drew.2.2.2.2.2.2
  clear hHeld HS0 HS1 HS2 y0 z0 z1 T3 B3 T1 B1 T2 B2
  generalize ((W3.alloc (.cells #[.int .i64 k2, .int .i64 v2] 25)).alloc (.cells #[.string a, .int .i64 k1, .int .i64 v1, .int .i64 k2, .int .i64 v2] 27)).drew = W5 at HF5 HT5 HB5 ⊢
  generalize W3.heap.size + 1 = n4 at HF5 ⊢
  obtain ⟨c0, c1, c2, c3, c4, -⟩ := HF5.out
  obtain ⟨-, -, -, -, -, f0, f1, f2, f3, f4, -⟩ := HT5.out
  obtain ⟨t0, t1, t2, t3, t4, -⟩ := HT5.out
  cases p1 with
  | false =>
    clear c0 c1 c2 c3 c4
    go_wp2
    rw [HR.out]
    exact cmdpair_ret _ rfl rfl HT5.out HB5.out rfl rfl
  | true =>
    cases p2 with
    | false =>
      clear c0 c1 c2 c3 c4
      go_wp2
      rw [HR.out]
      exact cmdpair_ret _ rfl rfl HT5.out HB5.out rfl rfl
    | true =>
      clear f0 f1 f2 f3 f4 t0 t1 t2 t3 t4
      go_wp2_with fail
      refine (HC.out _).mono ?_
      rintro e W6 ⟨rfl, hb6⟩
      have T6 := Lib.hid (HT5.out.below hb6)
      have F6 := Lib.hid (HF5.out.below hb6)
      have B6 := Lib.hid (below_next HB5.out hb6)
      clear hb6 c0 c1 c2 c3 c4 HT5 HF5 HB5
      obtain ⟨t0, t1, t2, t3, t4, f0, f1, f2, f3, f4, -⟩ := T6.out
      cases vc with
      | false =>
        go_wp2
        rw [HR.out]
        exact cmdpair_ret _ rfl rfl T6.out B6.out rfl rfl
      | true =>
        obtain ⟨c0, c1, c2, c3, c4, -⟩ := F6.out
        go_wp2
        rw [HR.out]
        exact cmdpair_ret _ rfl rfl T6.out B6.out rfl rfl

theorem implCmdParse_c (s : ByteArray) (hs : s.size ≤ 2097152) (W : World) (hE : ParseVars W) : Calls Tryd.prog 21 #[.string s] W (CmdPairPost (parseC s).1 (parseC s).2 W) := by
  rcases pieces_cases s with ⟨h3, hr⟩ | ⟨a, b, r, h3, ha, hb, hc, hr⟩
  · exact implCmdParse_count s hs h3 hr W hE
  · exact implCmdParse_three s hs a b r h3 ha hb hc hr W hE

/-- What the world's shape gives. -/
theorem maxInt_of {W : World} (h : W.ShapedOpen Tryd.prog) : MaxVar W := by
  exact cell_of_shapedOpen_int (P := Tryd.prog) (g := 2) (t := 3) (zero := #[.int .i64 0]) h (of_decide_eq_true (by kernel_rfl)) (by kernel_rfl) rfl (by kernel_rfl) (by kernel_rfl) Tryd.underlying3

end Go.Proofs.YtnmpbocnbcokeaaDoor

/-
  A command held against itself.
-/
namespace Go.Proofs.YtnmpbocnbcokeaaDoor
open Go.RowKit

theorem cmdEqS (p : ByteArray) (fk fv tk tv : Int) (w : World) : (binOp .eql 27 (.agg #[.string p, .int .i64 fk, .int .i64 fv, .int .i64 tk, .int .i64 tv]) (.agg #[.string p, .int .i64 fk, .int .i64 fv, .int .i64 tk, .int .i64 tv])).run Tryd.prog w = .ok (.bool true) w := by
  simp [binOp, go_sem, Op.equal, Op.maxDepth]

theorem cmdNeS (p : ByteArray) (fk fv tk tv : Int) (w : World) : (binOp .neq 27 (.agg #[.string p, .int .i64 fk, .int .i64 fv, .int .i64 tk, .int .i64 tv]) (.agg #[.string p, .int .i64 fk, .int .i64 fv, .int .i64 tk, .int .i64 tv])).run Tryd.prog w = .ok (.bool false) w := by
  simp [binOp, go_sem, Op.equal, Op.maxDepth]

end Go.Proofs.YtnmpbocnbcokeaaDoor

/-
  What the rows' lists of variables give: strconv's two sentinels hold some error.
-/
namespace Go.Proofs.YtnmpbocnbcokeaaDoor
open Go.RowKit Go.ChangeShapes Go.WideShapes

def isIface {H : Type} : DataW H → Bool
  | .iface _ _ => true
  | _ => false

theorem laidVars_mem {P : Program} {W : World} : ∀ (laid : List (String × DataW Unit)) (ps : List MemPlace), DataW.LaidVars P W laid ps → ∀ x ∈ laid,
    ∃ g t cs fuel p, P.globalNamed x.1 = some g ∧ (P.globals[g]?).map (·.type) = some t ∧ W.var? P x.1 = some cs ∧ DataW.trod (fun _ => ()) P W 0 (fun _ => true) false fuel t cs.toList = some (x.2, p)
  | [], ps, _, x, hx => by cases hx
  | (n, d) :: r, ps, h, x, hx => by
    obtain ⟨g, t, cs, fuel, p, q, h1, h2, h3, h4, h5, -⟩ := h
    rcases List.mem_cons.1 hx with rfl | hx
    · exact ⟨g, t, cs, fuel, p, h1, h2, h3, h4⟩
    · exact laidVars_mem r q h5 x hx

theorem laid_iface {P : Program} {W : World} {laid : List (String × DataW Unit)} {name : String} {g t : Nat} {ms : Array (String × TypeId)} (h : laidMet P laid W)
    (hf : (laid.find? (fun x => x.1 == name)).map (fun x => isIface x.2) = some true) (hg : P.globalNamed name = some g) (ht : (P.globals[g]?).map (·.type) = some t) (hu : P.underlying t = some (.interface ms)) :
    ∃ u v, W.cell? ⟨g, 0, none⟩ = some (.iface u v) := by
  obtain ⟨ps, hv, -, -⟩ := h
  cases hx : laid.find? (fun x => x.1 == name) with
  | none => rw [hx] at hf; cases hf
  | some x =>
    rw [hx] at hf
    have hn : x.1 = name := by simpa using List.find?_some hx
    obtain ⟨g', t', cs, fuel, p, h1, h2, h3, h4⟩ := laidVars_mem laid ps hv x (List.mem_of_find?_eq_some hx)
    subst hn
    obtain rfl := Option.some.inj (hg.symm.trans h1)
    obtain rfl := Option.some.inj (ht.symm.trans h2)
    obtain ⟨n, d⟩ := x
    cases d with
    | iface nm d =>
      obtain ⟨f', u, v, hcs, -, -⟩ := iface_of_trod hu h4
      refine ⟨u, v, ?_⟩
      have := World.var?_cell hg h3 0
      rw [this, ← Array.getElem?_toList, hcs]
      rfl
    | _ => simp [isIface] at hf

theorem errVars_of {W : World} {laid : List (String × DataW Unit)} (h : laidMetH Tryd.prog laid W) (hp : (laid.all fun x => x.2.handleName?.isNone) = true)
    (h1 : (laid.find? (fun x => x.1 == "strconv.ErrSyntax")).map (fun x => isIface x.2) = some true) (h2 : (laid.find? (fun x => x.1 == "strconv.ErrRange")).map (fun x => isIface x.2) = some true) : ErrVars W := by
  rw [MakeChecks.laidMetH_plain _ _ _ hp] at h
  obtain ⟨u1, v1, e1⟩ := laid_iface h h1 (g := 5) (t := 59) (by kernel_rfl) (by kernel_rfl) Tryd.underlying59
  obtain ⟨u2, v2, e2⟩ := laid_iface h h2 (g := 6) (t := 59) (by kernel_rfl) (by kernel_rfl) Tryd.underlying59
  exact ⟨⟨_, e1, .inr ⟨u1, v1, rfl⟩⟩, _, e2, .inr ⟨u2, v2, rfl⟩⟩

end Go.Proofs.YtnmpbocnbcokeaaDoor

/-
  WALKS: laws.toContent.
-/
namespace Go.Proofs.YtnmpbocnbcokeaaDoor
open Go.RowKit

set_option maxHeartbeats 400000 in
theorem toContent_c (k v : Int) (w : World) : Calls Tryd.prog 61 #[con k v] w (ConRet k v w) := by
  unfold con ConRet
  go_enter Tryd.func61, Tryd.ntmps61
  go_wp2
  refine bodyPost_ret (v := con k v) ?_ rfl ⟨rfl, ((below_box _ _).alloc (by simp) _).alloc (by simp; omega) _⟩
  simp [results, Tryd.f61, go_sem]

end Go.Proofs.YtnmpbocnbcokeaaDoor

/-
  WALKS: laws.toNode, laws.toNodeS, laws.szNodeS: lists of nodes that come from outside.
-/
namespace Go.Proofs.YtnmpbocnbcokeaaDoor
open Go.RowKit
set_option linter.unusedVariables false

/-- A node as a value. -/
abbrev nodeV (n : Nd) : Value := .agg #[.string n.p, .int .i64 n.k, .int .i64 n.v]

def NodeRet (n : Nd) (w : World) (e : Ending) (w' : World) : Prop := e = .returned (nodeV n) ∧ Below w.heap.size w w'

theorem node_results (s : Nat) (fn : Func) (hf : fn.results = #[.cell s 65]) (W : World) (g : Nat) (n : Nd) (tmps : Array Value) (ht : tmps[s]? = some (.pointer (some ⟨g, 0, none⟩)))
    (h : W.cell? ⟨g, 0, none⟩ = some (.string n.p) ∧ W.cell? ⟨g, 1, none⟩ = some (.int .i64 n.k) ∧ W.cell? ⟨g, 2, none⟩ = some (.int .i64 n.v)) : (results fn tmps).run Tryd.prog W = .ok (nodeV n) W := by
  obtain ⟨c0, c1, c2⟩ := h
  simp [results, hf, go_sem, ht, c0, c1, c2]

/-- A block of cells of the call's own. -/
def Blk (W : World) (g : Nat) (cs : Array Value) (t : TypeId) : Prop := W.heap[g]? = some (.cells cs t (0, 0))

theorem blk_new (W : World) (cs : Array Value) (t : TypeId) : Blk (W.alloc (.cells cs t)) W.heap.size cs t := World.alloc_heap_new _ _
theorem Blk.lt {W : World} {g : Nat} {cs : Array Value} {t : TypeId} (h : Blk W g cs t) : g < W.heap.size := by
  unfold Blk at h
  exact (Array.getElem?_eq_some_iff.1 h).1
theorem Blk.below {W W' : World} {g : Nat} {cs : Array Value} {t : TypeId} (h : Blk W g cs t) (hb : Below W.heap.size W W') : Blk W' g cs t := (hb.block g h.lt).trans h
theorem Blk.cell {W : World} {g : Nat} {cs : Array Value} {t : TypeId} (h : Blk W g cs t) (i : Nat) : W.cell? ⟨g, i, none⟩ = cs[i]? := cell_of_row W g i cs t (0, 0) h
theorem Blk.frozen {W : World} {g : Nat} {cs : Array Value} {t : TypeId} (h : Blk W g cs t) (i : Nat) : W.frozen? ⟨g, i, none⟩ = false := frozen_of_row W g i cs t h
theorem Blk.set {W : World} {g : Nat} {cs : Array Value} {t : TypeId} (h : Blk W g cs t) (i : Nat) (u : Value) : Blk (W.setCell ⟨g, i, none⟩ u) g (cs.setIfInBounds i u) t := heap_setCell_same W g i cs t u h
theorem Blk.setOther {W : World} {g : Nat} {cs : Array Value} {t : TypeId} (h : Blk W g cs t) (a : Addr) (u : Value) (ha : g ≠ a.block) : Blk (W.setCell a u) g cs t := (heap_setCell_other W a g u ha).trans h

set_option maxHeartbeats 1000000 in
theorem toNode_c (n : Nd) (w : World) : Calls Tryd.prog 60 #[nodeV n] w (NodeRet n w) := by
  obtain ⟨p, k, v⟩ := n
  have HT := Lib.hid (fun w => toContent_c k v w)
  unfold con at HT
  unfold nodeV
  go_enter Tryd.func60, Tryd.ntmps60
  go_wp2_with fail
  refine (HT.out _).mono ?_; rintro e W1 ⟨rfl, hb1⟩
  have hx : w.heap.size + 1 + 1 = ((w.alloc (.cells #[.string p, .int .i64 k, .int .i64 v] 88)).alloc (.cells #[.string ⟨#[]⟩, .int .i64 0, .int .i64 0] 65)).heap.size := by simp
  have K3 := Lib.hid (show Blk W1 (w.heap.size + 1 + 1) #[.string p, .int .i64 0, .int .i64 0] 65 by rw [hx]; exact (blk_new _ _ _).below hb1)
  have hy : w.heap.size + 1 = (w.alloc (.cells #[.string p, .int .i64 k, .int .i64 v] 88)).heap.size := by simp
  have K2 := Lib.hid (show Blk W1 (w.heap.size + 1) #[.string ⟨#[]⟩, .int .i64 0, .int .i64 0] 65 by rw [hy]; exact ((blk_new _ _ _).below (below_box _ _)).below hb1)
  have B1 := Lib.hid (below_next (below_box w _) (below_next (below_box _ _) (below_next (below_box _ _) hb1)))
  have s1 : W1.cell? ⟨w.heap.size + 1 + 1, 1, none⟩ = some (.int .i64 0) := K3.out.cell 1
  have s2 : W1.cell? ⟨w.heap.size + 1 + 1, 2, none⟩ = some (.int .i64 0) := K3.out.cell 2
  have s0 : W1.cell? ⟨w.heap.size + 1 + 1, 0, none⟩ = some (.string p) := K3.out.cell 0
  have z1 := K3.out.frozen 1
  have z2 := K3.out.frozen 2
  have r0 : W1.cell? ⟨w.heap.size + 1, 0, none⟩ = some (.string ⟨#[]⟩) := K2.out.cell 0
  have r1 : W1.cell? ⟨w.heap.size + 1, 1, none⟩ = some (.int .i64 0) := K2.out.cell 1
  have r2 : W1.cell? ⟨w.heap.size + 1, 2, none⟩ = some (.int .i64 0) := K2.out.cell 2
  have y0 := K2.out.frozen 0
  have y1 := K2.out.frozen 1
  have y2 := K2.out.frozen 2
  clear hb1 hx hy
  unfold con
  go_wp2
  have K4 := (((((K2.out.setOther ⟨w.heap.size + 1 + 1, 1, none⟩ (.int .i64 k) (by simp)).setOther ⟨w.heap.size + 1 + 1, 2, none⟩ (.int .i64 v) (by simp)).set 0 (.string p)).set 1 (.int .i64 k)).set 2 (.int .i64 v))
  refine bodyPost_ret (node_results 2 _ rfl _ (w.heap.size + 1) ⟨p, k, v⟩ _ rfl ⟨K4.cell 0, K4.cell 1, K4.cell 2⟩) rfl ⟨rfl, ?_⟩
  exact below_setCell (below_setCell (below_setCell (below_setCell (below_setCell B1.out _ _ (by simp; omega)) _ _ (by simp; omega)) _ _ (by simp)) _ _ (by simp)) _ _ (by simp)

theorem flatN_take_set : ∀ (ns : List Nd) (i : Nat) (n : Nd) (zs : List Value), ns[i]? = some n → 3 ≤ zs.length →
    (((flatN (ns.take i) ++ zs).set (i * 3) (.string n.p)).set (i * 3 + 1) (.int .i64 n.k)).set (i * 3 + 2) (.int .i64 n.v) = flatN (ns.take (i + 1)) ++ zs.drop 3 := by
  intro ns i n zs hn hz
  have hi := (List.getElem?_eq_some_iff.1 hn).1
  have hl : (flatN (ns.take i)).length = i * 3 := by rw [flatN_length, List.length_take]; omega
  rw [List.take_add_one, hn, flatN_append]
  match zs, hz with
  | a :: b :: c :: r, _ =>
    show _ = (flatN (ns.take i) ++ [.string n.p, .int .i64 n.k, .int .i64 n.v]) ++ r
    rw [List.set_append_right _ _ (by omega), hl, show i * 3 - i * 3 = 0 by omega]
    rw [List.set_append_right _ _ (by omega), hl, show i * 3 + 1 - i * 3 = 1 by omega]
    rw [List.set_append_right _ _ (by omega), hl, show i * 3 + 2 - i * 3 = 2 by omega]
    simp

theorem below_of_none {W w : World} (h : W.grownBy w none) : Below W.heap.size W w := ⟨h.os, h.tape, h.output, h.size, fun k hk => h.block k hk (by simp)⟩

theorem stored3 {W : World} {base : Nat} {e : TypeId} {g cap n : Nat} {xs : List Value} (h : W.ownsRow base e 3 (.slice (some ⟨g, 0, none⟩) n cap) n xs) (j : Nat) (u v x : Value) :
    (((W.setCell ⟨g, j, none⟩ u).setCell ⟨g, j + 1, none⟩ v).setCell ⟨g, j + 2, none⟩ x).ownsRow base e 3 (.slice (some ⟨g, 0, none⟩) n cap) n (((xs.set j u).set (j + 1) v).set (j + 2) x) :=
  ((((h.stored j u).1.stored (j + 1) v).1).stored (j + 2) x).1

def ToRel (ns : List Nd) (len : Nat) (W : World) (i : Value) (wr : World) : Prop :=
  ∃ (n : Nat) (zs : List Value), i = .int .i64 n ∧ n ≤ len ∧ zs.length = (len - n) * 3 ∧ wr.ownsRow W.heap.size 65 3 (.slice (some ⟨W.heap.size, 0, none⟩) len len) len (flatN (ns.take n) ++ zs) ∧ Hid (Below W.heap.size W wr)

set_option maxHeartbeats 2000000 in
set_option maxRecDepth 100000 in
theorem toNodeS_c (a : Option Addr) (len cap : Nat) (ns : List Nd) (hl : len ≤ 2097152) (W : World) (hN : NodesAt W a len ns) :
    Calls Tryd.prog 27 #[.slice a len cap] W fun e W' => OwnsNodes W.heap.size ns e W' ∧ Below W.heap.size W W' := by
  obtain ⟨i0, hi, hz0, hz1, hz2⟩ := info_parts infoNode
  have HN := Lib.hid hN
  have HE := Lib.hid hN.1
  have HT := Lib.hid (fun n w => toNode_c n w)
  have HL := Lib.hid hl
  clear hN
  go_enter Tryd.func27, Tryd.ntmps27
  go_wp2_with (refine wpList_make_full _ rfl _ _ 23 rfl W.heap.size 65 i0 (.agg #[.string ⟨#[]⟩, .int .i64 0, .int .i64 0]) 3 Tryd.underlying23 hi hz0 hz1 .i64 .i64 _ _ len rfl rfl rfl rfl (by rw [hz2]; omega) (by unfold maxLen; omega) (Nat.le_refl _) ?_; intro w1 hown1 hg1)
  have hb1 := below_of_none hg1
  clear hg1
  go_loopw [4] (fun i wr => ToRel ns len W i wr) (fun i _ => len - (intOf i).toNat)
  case atStart =>
    refine ⟨0, _, rfl, by omega, ?_, (by simpa [flatN_nil] using hown1), hb1⟩
    have := hown1.1
    omega
  case round =>
    obtain ⟨i, zs, rfl, hi1, hzl, hown, HB⟩ := hrel
    by_cases hlt : i < len
    · obtain ⟨b, off, n, rfl, hn, c0, c1, c2⟩ := (HN.out.keep HB.out).node hlt
      have hlt' : (i : Int) < len := by omega
      have HLT := Lib.hid hlt
      have HNN := Lib.hid hn
      have hz3 : 3 ≤ zs.length := by omega
      have HZ := Lib.hid (And.intro hzl hz3)
      obtain ⟨p, k, v⟩ := n
      have HTN := Lib.hid (fun w => HT.out ⟨p, k, v⟩ w)
      unfold nodeV NodeRet at HTN
      clear hi1 hlt hn hzl hz3 hown1
      go_wp2_with fail
      refine (HTN.out _).mono ?_; rintro e W2 ⟨rfl, hb2⟩
      have HO2 := Lib.hid (own_below hown hb2)
      have HB2 := Lib.hid (below_next HB.out hb2)
      clear hown hb2 c0 c1 c2
      have hll : (flatN (ns.take i)).length = i * 3 := by rw [flatN_length, List.length_take]; have := HE.out; have := HLT.out; omega
      have cell : ∀ j, j < 3 → ∃ u, W2.cell? ⟨W.heap.size, i * 3 + j, none⟩ = some u := by
        intro j hj
        have hx := HZ.out.1
        have hy := HLT.out
        rw [HO2.out.cellAt _ (by omega)]
        exact ⟨_, List.getElem?_eq_getElem (by rw [List.length_append, hll]; omega)⟩
      obtain ⟨u0, e0⟩ := cell 0 (by omega)
      replace e0 : W2.cell? ⟨W.heap.size, i * 3, none⟩ = some u0 := e0
      obtain ⟨u1, e1⟩ := cell 1 (by omega)
      obtain ⟨u2, e2⟩ := cell 2 (by omega)
      have y0 := HO2.out.frozenAt (i * 3)
      have y1 := HO2.out.frozenAt (i * 3 + 1)
      have y2 := HO2.out.frozenAt (i * 3 + 2)
      clear cell hll
      go_wp2
      have HS3 := stored3 HO2.out (i * 3) (.string p) (.int .i64 k) (.int .i64 v)
      rw [flatN_take_set ns i ⟨p, k, v⟩ zs HNN.out HZ.out.2] at HS3
      go_roundw
      case rel => exact ⟨i + 1, zs.drop 3, by go_num, by have := HLT.out; omega, by rw [List.length_drop]; have h1 := HZ.out.1; have h2 := HZ.out.2; have h3 := HLT.out; omega, HS3, below_setCell (below_setCell (below_setCell HB2.out _ _ (Nat.le_refl _)) _ _ (Nat.le_refl _)) _ _ (Nat.le_refl _)⟩
      case measure => have := HLT.out; simp [intOf]; omega
    · have hge : (len : Int) ≤ i := by omega
      have hz0' : zs = [] := List.eq_nil_of_length_eq_zero (by omega)
      subst hz0'
      rw [List.append_nil, List.take_of_length_le (by have := HE.out; omega)] at hown
      clear hi1 hlt
      go_wp2
      go_ret
      exact ⟨⟨_, rfl, by have h := HE.out; rw [h]; exact hown⟩, HB.out⟩

end Go.Proofs.YtnmpbocnbcokeaaDoor

/-
  WALKS: laws.szNode, laws.szNodeS: how much a list of nodes from outside holds.
-/
namespace Go.Proofs.YtnmpbocnbcokeaaDoor
open Go.RowKit
set_option linter.unusedVariables false

/-- What is left; if anything is, the text is of modest length. -/
def SzOne (n : Nd) (w : World) (e : Ending) (w' : World) : Prop := ∃ z : Int, e = .returned (.int .i64 z) ∧ -1 ≤ z ∧ z ≤ 1048576 ∧ (0 ≤ z → n.p.size ≤ 1048576) ∧ Below w.heap.size w w'

set_option maxHeartbeats 1000000 in
theorem szNode_c (n : Nd) (l : Int) (h0 : 0 ≤ l) (h1 : l ≤ 1048576) (hm : n.p.size ≤ maxLen) (w : World) : Calls Tryd.prog 59 #[nodeV n, .int .i64 l] w (SzOne n w) := by
  obtain ⟨p, k, v⟩ := n
  unfold nodeV
  have hm' : p.size ≤ 9223372036854775807 := Nat.le_trans (show p.size ≤ maxLen from hm) (by unfold maxLen; omega)
  obtain ⟨z, hz⟩ : ∃ z, l - (p.size : Int) = z := ⟨_, rfl⟩
  have hw : IntKind.i64.wrap (l - (p.size : Int)) = z := (IntWalk.i64_in _ (by omega)).trans hz
  by_cases hneg : z < 0
  · clear h0 h1 hm hm' hz
    go_enter Tryd.func59, Tryd.ntmps59
    go_wp2
    go_ret
    exact ⟨-1, rfl, by omega, by omega, fun h => absurd h (by omega), below_box _ _⟩
  · have hpos : 0 ≤ z := by omega
    have HF := Lib.hid (show z ≤ 1048576 ∧ p.size ≤ 1048576 by omega)
    clear h0 h1 hm hm' hz hneg
    go_enter Tryd.func59, Tryd.ntmps59
    go_wp2
    go_ret
    exact ⟨z, rfl, by omega, HF.out.1, fun _ => HF.out.2, below_box _ _⟩

/-- What is left; if anything is, the list and its texts are of modest length. -/
def SzAll (len : Nat) (ns : List Nd) (w : World) (e : Ending) (w' : World) : Prop := ∃ z : Int, e = .returned (.int .i64 z) ∧ (0 ≤ z → len ≤ 1048576 ∧ Short 1048576 ns) ∧ Below w.heap.size w w'

def SzRel (len : Nat) (ns : List Nd) (w : World) (l i : Value) (wr : World) : Prop :=
  ∃ (n : Nat) (z : Int), i = .int .i64 n ∧ n ≤ len ∧ l = .int .i64 z ∧ Hid (0 ≤ z ∧ z ≤ 1048576) ∧ Hid (∀ j m, j < n → ns[j]? = some m → m.p.size ≤ 1048576) ∧ Hid (Below w.heap.size w wr)

set_option maxHeartbeats 1000000 in
theorem szNodeS_c (a : Option Addr) (len cap : Nat) (ns : List Nd) (hlen : len ≤ maxLen) (hm : Short maxLen ns) (w : World) (hN : NodesAt w a len ns) :
    Calls Tryd.prog 25 #[.slice a len cap, .int .i64 1048576] w (SzAll len ns w) := by
  have HN := Lib.hid hN
  have HE := Lib.hid hN.1
  have HM := Lib.hid hm
  have hl : len ≤ 9223372036854775807 := Nat.le_trans hlen (by unfold maxLen; omega)
  have hw0 : IntKind.i64.wrap (1048576 - (len : Int)) = 1048576 - len := IntWalk.i64_in _ (by omega)
  clear hN hm hlen
  by_cases h : len ≤ 1048576
  · obtain ⟨z, hz⟩ : ∃ z, (1048576 : Int) - len = z := ⟨_, rfl⟩
    have hzp : 0 ≤ z := by omega
    have HZ := Lib.hid (show 0 ≤ z ∧ z ≤ 1048576 by omega)
    have hw := hw0.trans hz
    have HL := Lib.hid h
    have hl2 : (len : Int) ≤ 1048576 := by omega
    clear hz hl h hw0
    go_enter Tryd.func25, Tryd.ntmps25
    go_wp2
    clear hzp hw
    go_loopw [1, 5] (fun l i wr => SzRel len ns w l i wr) (fun _ i _ => len - (intOf i).toNat)
    case atStart => exact ⟨0, z, rfl, by omega, rfl, HZ, Lib.hid (fun j m h _ => absurd h (by omega)), Below.refl _ _⟩
    case round =>
      obtain ⟨i, l, rfl, hi, rfl, HLL, HP, HB⟩ := hrel
      by_cases hlt : i < len
      · obtain ⟨b, off, n, rfl, hn, c0, c1, c2⟩ := (HN.out.keep HB.out).node hlt
        have hlt' : (i : Int) < len := by omega
        have HO := Lib.hid (fun w => szNode_c n l HLL.out.1 HLL.out.2 (HM.out n (List.mem_of_getElem? hn)) w)
        have HNN := Lib.hid hn
        have HLT := Lib.hid hlt
        obtain ⟨p, k, v⟩ := n
        unfold nodeV at HO
        clear hi hlt hn
        go_wp2_with fail
        refine (HO.out _).mono ?_; rintro e W2 ⟨z2, rfl, hz0, hz1, hz2, hb2⟩
        have HB2 := Lib.hid (below_next HB.out hb2)
        clear c0 c1 c2 hb2
        by_cases hneg : z2 < 0
        · clear hz0 hz1 hz2
          go_wp2
          go_ret
          exact ⟨-1, rfl, fun h => absurd h (by omega), HB2.out⟩
        · have hpos : 0 ≤ z2 := by omega
          have HZ2 := Lib.hid (And.intro hpos (And.intro hz1 (hz2 hpos)))
          clear hz0 hz1 hz2 hneg
          go_wp2
          go_roundw
          case rel =>
            refine ⟨i + 1, z2, by go_num, by have := HLT.out; omega, rfl, ⟨HZ2.out.1, HZ2.out.2.1⟩, ?_, HB2⟩
            intro j m hj hm
            by_cases hji : j < i
            · exact HP.out j m hji hm
            · have : j = i := by omega
              subst this
              rw [HNN.out] at hm
              obtain rfl := Option.some.inj hm
              exact HZ2.out.2.2
          case measure => have := HLT.out; simp [intOf]; omega
      · have hge : (len : Int) ≤ i := by omega
        have HQ := Lib.hid (show len ≤ i by omega)
        clear hi hlt
        go_wp2
        go_ret
        exact ⟨l, rfl, fun _ => ⟨HL.out, fun n hn => by
          obtain ⟨j, hj⟩ := List.getElem?_of_mem hn
          exact HP.out j n (by have h1 := (List.getElem?_eq_some_iff.1 hj).1; have h2 := HE.out; have h3 := HQ.out; omega) hj⟩, HB.out⟩
  · have hz : (1048576 : Int) - len < 0 := by omega
    obtain ⟨z, hz'⟩ : ∃ z, (1048576 : Int) - len = z := ⟨_, rfl⟩
    have hw := hw0.trans hz'
    rw [hz'] at hz
    clear hz' hl h hw0
    go_enter Tryd.func25, Tryd.ntmps25
    go_wp2
    go_ret
    exact ⟨-1, rfl, fun h => absurd h (by omega), Below.refl _ _⟩

end Go.Proofs.YtnmpbocnbcokeaaDoor

/-
  WALKS: laws.szNodeS from whatever is left.
-/
namespace Go.Proofs.YtnmpbocnbcokeaaDoor
open Go.RowKit
set_option linter.unusedVariables false

/-- What is left; if anything is, the list and its texts are of modest length. -/
def SzAllG (len : Nat) (ns : List Nd) (w : World) (e : Ending) (w' : World) : Prop := ∃ z : Int, e = .returned (.int .i64 z) ∧ z ≤ 1048576 ∧ (0 ≤ z → len ≤ 1048576 ∧ Short 1048576 ns) ∧ Below w.heap.size w w'

set_option maxHeartbeats 1000000 in
theorem szNodeSG_c (l0 : Int) (hl0 : 0 ≤ l0) (hl1 : l0 ≤ 1048576) (a : Option Addr) (len cap : Nat) (ns : List Nd) (hlen : len ≤ maxLen) (hm : Short maxLen ns) (w : World) (hN : NodesAt w a len ns) :
    Calls Tryd.prog 25 #[.slice a len cap, .int .i64 l0] w (SzAllG len ns w) := by
  have HN := Lib.hid hN
  have HE := Lib.hid hN.1
  have HM := Lib.hid hm
  have hl : len ≤ 9223372036854775807 := Nat.le_trans hlen (by unfold maxLen; omega)
  have hw0 : IntKind.i64.wrap (l0 - (len : Int)) = l0 - len := IntWalk.i64_in _ (by omega)
  clear hN hm hlen
  by_cases h : (len : Int) ≤ l0
  · obtain ⟨z, hz⟩ : ∃ z, l0 - len = z := ⟨_, rfl⟩
    have hzp : 0 ≤ z := by omega
    have HZ := Lib.hid (show 0 ≤ z ∧ z ≤ 1048576 by omega)
    have hw := hw0.trans hz
    have HL := Lib.hid (show len ≤ 1048576 by omega)
    have hl2 : (len : Int) ≤ 1048576 := by omega
    clear hz hl h hw0
    go_enter Tryd.func25, Tryd.ntmps25
    go_wp2
    clear hzp hw
    go_loopw [1, 5] (fun l i wr => SzRel len ns w l i wr) (fun _ i _ => len - (intOf i).toNat)
    case atStart => exact ⟨0, z, rfl, by omega, rfl, HZ, Lib.hid (fun j m h _ => absurd h (by omega)), Below.refl _ _⟩
    case round =>
      obtain ⟨i, l, rfl, hi, rfl, HLL, HP, HB⟩ := hrel
      by_cases hlt : i < len
      · obtain ⟨b, off, n, rfl, hn, c0, c1, c2⟩ := (HN.out.keep HB.out).node hlt
        have hlt' : (i : Int) < len := by omega
        have HO := Lib.hid (fun w => szNode_c n l HLL.out.1 HLL.out.2 (HM.out n (List.mem_of_getElem? hn)) w)
        have HNN := Lib.hid hn
        have HLT := Lib.hid hlt
        obtain ⟨p, k, v⟩ := n
        unfold nodeV at HO
        clear hi hlt hn
        go_wp2_with fail
        refine (HO.out _).mono ?_; rintro e W2 ⟨z2, rfl, hz0, hz1, hz2, hb2⟩
        have HB2 := Lib.hid (below_next HB.out hb2)
        clear c0 c1 c2 hb2
        by_cases hneg : z2 < 0
        · clear hz0 hz1 hz2
          go_wp2
          go_ret
          exact ⟨-1, rfl, by omega, fun h => absurd h (by omega), HB2.out⟩
        · have hpos : 0 ≤ z2 := by omega
          have HZ2 := Lib.hid (And.intro hpos (And.intro hz1 (hz2 hpos)))
          clear hz0 hz1 hz2 hneg
          go_wp2
          go_roundw
          case rel =>
            refine ⟨i + 1, z2, by go_num, by have := HLT.out; omega, rfl, ⟨HZ2.out.1, HZ2.out.2.1⟩, ?_, HB2⟩
            intro j m hj hm
            by_cases hji : j < i
            · exact HP.out j m hji hm
            · have : j = i := by omega
              subst this
              rw [HNN.out] at hm
              obtain rfl := Option.some.inj hm
              exact HZ2.out.2.2
          case measure => have := HLT.out; simp [intOf]; omega
      · have hge : (len : Int) ≤ i := by omega
        have HQ := Lib.hid (show len ≤ i by omega)
        clear hi hlt
        go_wp2
        go_ret
        exact ⟨l, rfl, HLL.out.2, fun _ => ⟨HL.out, fun n hn => by
          obtain ⟨j, hj⟩ := List.getElem?_of_mem hn
          exact HP.out j n (by have h1 := (List.getElem?_eq_some_iff.1 hj).1; have h2 := HE.out; have h3 := HQ.out; omega) hj⟩, HB.out⟩
  · have hz : l0 - len < 0 := by omega
    obtain ⟨z, hz'⟩ : ∃ z, l0 - len = z := ⟨_, rfl⟩
    have hw := hw0.trans hz'
    rw [hz'] at hz
    clear hz' hl h hw0
    go_enter Tryd.func25, Tryd.ntmps25
    go_wp2
    go_ret
    exact ⟨-1, rfl, by omega, fun h => absurd h (by omega), Below.refl _ _⟩

end Go.Proofs.YtnmpbocnbcokeaaDoor

/-
  WALKS: laws.eqContent at equal contents.
-/
namespace Go.Proofs.YtnmpbocnbcokeaaDoor
open Go.RowKit

set_option maxHeartbeats 400000 in
theorem eqContent_c (k v : Int) (w : World) : Calls Tryd.prog 83 #[.agg #[.int .i64 k, .int .i64 v], .agg #[.int .i64 k, .int .i64 v]] w (BoolPost true w) := by
  go_enter Tryd.func83, Tryd.ntmps83
  go_wp2
  go_ret
  exact ⟨rfl, (below_box _ _).alloc (by simp) _⟩

end Go.Proofs.YtnmpbocnbcokeaaDoor

/-
  WALKS: commands in the exact laws: laws.toCommand, szCommand, eqCommand; spec.CommandUndo.
-/
namespace Go.Proofs.YtnmpbocnbcokeaaDoor
open Go.RowKit
set_option linter.unusedVariables false

/-- What is left; if anything is, the text is of modest length. -/
def SzCmd (c : Cmd) (w : World) (e : Ending) (w' : World) : Prop := ∃ z : Int, e = .returned (.int .i64 z) ∧ -1 ≤ z ∧ z ≤ 1048576 ∧ (0 ≤ z → c.p.size ≤ 1048576) ∧ Below w.heap.size w w'

set_option maxHeartbeats 1000000 in
theorem szCommand_c (c : Cmd) (l : Int) (h0 : 0 ≤ l) (h1 : l ≤ 1048576) (hm : c.p.size ≤ maxLen) (w : World) : Calls Tryd.prog 26 #[cmdV c, .int .i64 l] w (SzCmd c w) := by
  obtain ⟨p, fk, fv, tk, tv⟩ := c
  unfold cmdV
  have hm' : p.size ≤ 9223372036854775807 := Nat.le_trans (show p.size ≤ maxLen from hm) (by unfold maxLen; omega)
  obtain ⟨z, hz⟩ : ∃ z, l - (p.size : Int) = z := ⟨_, rfl⟩
  have hw : IntKind.i64.wrap (l - (p.size : Int)) = z := (IntWalk.i64_in _ (by omega)).trans hz
  by_cases hneg : z < 0
  · clear h0 h1 hm hm' hz
    go_enter Tryd.func26, Tryd.ntmps26
    go_wp2
    go_ret
    exact ⟨-1, rfl, by omega, by omega, fun h => absurd h (by omega), below_box _ _⟩
  · have hpos : 0 ≤ z := by omega
    have HF := Lib.hid (show z ≤ 1048576 ∧ p.size ≤ 1048576 by omega)
    clear h0 h1 hm hm' hz hneg
    go_enter Tryd.func26, Tryd.ntmps26
    go_wp2
    go_ret
    exact ⟨z, rfl, by omega, HF.out.1, fun _ => HF.out.2, below_box _ _⟩

theorem five_at {W : World} {n : Nat} (hn : n = W.heap.size) (a b c d e : Value) (t : TypeId) : Five (W.alloc (.cells #[a, b, c, d, e] t)) n a b c d e := by subst hn; exact five_new W a b c d e t

set_option maxHeartbeats 1000000 in
theorem toCommand_c (c : Cmd) (W : World) : Calls Tryd.prog 28 #[cmdV c] W (CmdPost c W) := by
  obtain ⟨p, fk, fv, tk, tv⟩ := c
  have HT := Lib.hid (fun k v w => toContent_c k v w)
  have HA := Lib.hid (((five_at (W := W) rfl (.string p) (.int .i64 fk) (.int .i64 fv) (.int .i64 tk) (.int .i64 tv) 47).alloc (.cells #[.string ⟨#[]⟩, .int .i64 0, .int .i64 0, .int .i64 0, .int .i64 0] 27)).alloc (.cells #[.string p, .int .i64 0, .int .i64 0, .int .i64 0, .int .i64 0] 27))
  have HB := Lib.hid ((five_at (W := W.alloc (.cells #[.string p, .int .i64 fk, .int .i64 fv, .int .i64 tk, .int .i64 tv] 47)) (n := W.heap.size + 1) (by simp) (.string ⟨#[]⟩) (.int .i64 0) (.int .i64 0) (.int .i64 0) (.int .i64 0) 27).alloc (.cells #[.string p, .int .i64 0, .int .i64 0, .int .i64 0, .int .i64 0] 27))
  have HC := Lib.hid (five_at (W := (W.alloc (.cells #[.string p, .int .i64 fk, .int .i64 fv, .int .i64 tk, .int .i64 tv] 47)).alloc (.cells #[.string ⟨#[]⟩, .int .i64 0, .int .i64 0, .int .i64 0, .int .i64 0] 27)) (n := W.heap.size + 1 + 1) (by simp) (.string p) (.int .i64 0) (.int .i64 0) (.int .i64 0) (.int .i64 0) 27)
  have HD := Lib.hid (below_next (below_next (below_box W (.cells #[.string p, .int .i64 fk, .int .i64 fv, .int .i64 tk, .int .i64 tv] 47)) (below_box _ (.cells #[.string ⟨#[]⟩, .int .i64 0, .int .i64 0, .int .i64 0, .int .i64 0] 27))) (below_box _ (.cells #[.string p, .int .i64 0, .int .i64 0, .int .i64 0, .int .i64 0] 27)))
  unfold cmdV
  unfold con at HT
  go_enter Tryd.func28, Tryd.ntmps28
  go_wp2_with fail
  refine (HT.out _ _ _).mono ?_
  rintro e W1 ⟨rfl, hb1⟩
  have A1 := Lib.hid (HA.out.below hb1)
  have R1 := Lib.hid (HB.out.below hb1)
  have O1 := Lib.hid (HC.out.below hb1)
  have B1 := Lib.hid (below_next HD.out hb1)
  clear HA HB HC HD hb1
  have A2 := Lib.hid ((A1.out.setOther (x := ⟨W.heap.size + 1 + 1, 1, none⟩) (v := .int .i64 fk) (by show W.heap.size + 1 + 1 ≠ _; omega)).setOther (x := ⟨W.heap.size + 1 + 1, 2, none⟩) (v := .int .i64 fv) (by show W.heap.size + 1 + 1 ≠ _; omega))
  have R2 := Lib.hid ((R1.out.setOther (x := ⟨W.heap.size + 1 + 1, 1, none⟩) (v := .int .i64 fk) (by show W.heap.size + 1 + 1 ≠ _; omega)).setOther (x := ⟨W.heap.size + 1 + 1, 2, none⟩) (v := .int .i64 fv) (by show W.heap.size + 1 + 1 ≠ _; omega))
  have O2 := Lib.hid ((O1.out.set1 (x := .int .i64 fk)).set2 (x := .int .i64 fv))
  have B2 := Lib.hid (below_setCell (below_setCell B1.out ⟨W.heap.size + 1 + 1, 1, none⟩ (.int .i64 fk) (by simp; omega)) ⟨W.heap.size + 1 + 1, 2, none⟩ (.int .i64 fv) (by simp; omega))
  obtain ⟨c0, c1, c2, c3, c4, f0, f1, f2, f3, f4, -⟩ := O1.out
  unfold con
  go_upto_region 4 with (fail)
  clear c0 c1 c2 c3 c4 f0 f1 f2 f3 f4 A1 R1 O1 B1
  generalize (W1.setCell ⟨W.heap.size + 1 + 1, 1, none⟩ (.int .i64 fk)).setCell ⟨W.heap.size + 1 + 1, 2, none⟩ (.int .i64 fv) = W2 at A2 R2 O2 B2 ⊢
  obtain ⟨-, -, -, a3, a4, -⟩ := A2.out
  go_wp2_with fail
  refine (HT.out _ _ _).mono ?_
  rintro e W3 ⟨rfl, hb3⟩
  have R3 := Lib.hid (R2.out.below hb3)
  have O3 := Lib.hid (O2.out.below hb3)
  have B3 := Lib.hid (below_next B2.out hb3)
  clear hb3 a3 a4 A2 R2 O2 B2
  have R4 := Lib.hid ((R3.out.setOther (x := ⟨W.heap.size + 1 + 1, 3, none⟩) (v := .int .i64 tk) (by show W.heap.size + 1 + 1 ≠ _; omega)).setOther (x := ⟨W.heap.size + 1 + 1, 4, none⟩) (v := .int .i64 tv) (by show W.heap.size + 1 + 1 ≠ _; omega))
  have O4 := Lib.hid ((O3.out.set3 (x := .int .i64 tk)).set4 (x := .int .i64 tv))
  have B4 := Lib.hid (below_setCell (below_setCell B3.out ⟨W.heap.size + 1 + 1, 3, none⟩ (.int .i64 tk) (by simp; omega)) ⟨W.heap.size + 1 + 1, 4, none⟩ (.int .i64 tv) (by simp; omega))
  obtain ⟨c0, c1, c2, c3, c4, f0, f1, f2, f3, f4, -⟩ := O3.out
  unfold con
  go_upto_region 5 with (fail)
  clear c0 c1 c2 c3 c4 f0 f1 f2 f3 f4 R3 O3 B3
  generalize (W3.setCell ⟨W.heap.size + 1 + 1, 3, none⟩ (.int .i64 tk)).setCell ⟨W.heap.size + 1 + 1, 4, none⟩ (.int .i64 tv) = W4 at R4 O4 B4 ⊢
  obtain ⟨c0, c1, c2, c3, c4, -⟩ := O4.out
  obtain ⟨r0, r1, r2, r3, r4, f0, f1, f2, f3, f4, -⟩ := R4.out
  go_wp2
  exact bodyPost_ret (cmd_results _ rfl _ (W.heap.size + 1) ⟨p, fk, fv, tk, tv⟩ _ rfl R4.out.setAll) rfl ⟨rfl, below_set5 B4.out (Nat.le_succ _)⟩

theorem undo_yes {c : Cmd} {vc : Bool} (h : validC c = vc) : undoC c = if vc = true then ⟨c.p, c.tk, c.tv, c.fk, c.fv⟩ else zeroC := by subst h; rfl

end Go.Proofs.YtnmpbocnbcokeaaDoor

/-
  A COMMAND FROM OUTSIDE: an argument laws.Command.
-/
namespace Go.Proofs.YtnmpbocnbcokeaaDoor
open Go.RowKit Go.Joins Go.ChangeShapes Go.WideShapes
set_option linter.unusedVariables false

theorem len3_parts {α : Type} : ∀ {l : List α}, l.length = 3 → ∃ a b c, l = [a, b, c]
  | [a, b, c], _ => ⟨a, b, c, rfl⟩
theorem len2_parts {α : Type} : ∀ {l : List α}, l.length = 2 → ∃ a b, l = [a, b]
  | [a, b], _ => ⟨a, b, rfl⟩
theorem len5_parts {α : Type} : ∀ {l : List α}, l.length = 5 → ∃ a b c d e, l = [a, b, c, d, e]
  | [a, b, c, d, e], _ => ⟨a, b, c, d, e, rfl⟩

section
variable {H : Type} {enc : TypeId × Value → H} {w : World} {base : Nat} {spare : Nat → Bool} {held : Bool}

theorem open_conCells {fuel : Nat} {c1 c2 : Value} {x : DataW H × List MemPlace} (h : DataW.trod enc Tryd.prog w base spare held fuel 45 [c1, c2] = some x) :
    ∃ k v : Int, c1 = .int .i64 k ∧ c2 = .int .i64 v := by
  obtain ⟨ys, m, _, _, _, hyl, hg⟩ := DataW.trod_struct Tryd.underlying45 h
  obtain ⟨y0, y1, rfl⟩ : ∃ y0 y1, ys = [y0, y1] := len2_parts hyl
  have h2 : DataW.trod enc Tryd.prog w base spare held m 3 (([c1, c2].drop 0).take (Tryd.prog.cellsOf 3)) = some y0 := hg 0 _ rfl
  have h3 : DataW.trod enc Tryd.prog w base spare held m 3 (([c1, c2].drop 1).take (Tryd.prog.cellsOf 3)) = some y1 := hg 1 _ rfl
  rw [(by kernel_rfl : Tryd.prog.cellsOf 3 = 1)] at h2
  rw [(by kernel_rfl : Tryd.prog.cellsOf 3 = 1)] at h3
  obtain ⟨k, hk, _⟩ := DataW.trod_int Tryd.underlying3 (show DataW.trod enc Tryd.prog w base spare held m 3 [c1] = some y0 from h2)
  obtain ⟨v, hv, _⟩ := DataW.trod_int Tryd.underlying3 (show DataW.trod enc Tryd.prog w base spare held m 3 [c2] = some y1 from h3)
  simp at hk hv
  exact ⟨k, v, hk, hv⟩

theorem open_cmdCells {fuel : Nat} {cs : List Value} {x : DataW H × List MemPlace} (h : DataW.trod enc Tryd.prog w base spare held fuel 47 cs = some x) :
    ∃ c : Cmd, cs = [.string c.p, .int .i64 c.fk, .int .i64 c.fv, .int .i64 c.tk, .int .i64 c.tv] ∧ c.p.size ≤ maxLen := by
  obtain ⟨xs, n, _, _, hl, hxl, hf⟩ := DataW.trod_struct Tryd.underlying47 h
  have hl5 : cs.length = 5 := hl.trans (by kernel_rfl)
  obtain ⟨c0, c1, c2, c3, c4, rfl⟩ := len5_parts hl5
  obtain ⟨x0, x1, x2, rfl⟩ : ∃ x0 x1 x2, xs = [x0, x1, x2] := len3_parts hxl
  have h0 : DataW.trod enc Tryd.prog w base spare held n 9 (([c0, c1, c2, c3, c4].drop 0).take (Tryd.prog.cellsOf 9)) = some x0 := hf 0 _ rfl
  have h1 : DataW.trod enc Tryd.prog w base spare held n 45 (([c0, c1, c2, c3, c4].drop 1).take (Tryd.prog.cellsOf 45)) = some x1 := hf 1 _ rfl
  have h2 : DataW.trod enc Tryd.prog w base spare held n 45 (([c0, c1, c2, c3, c4].drop 3).take (Tryd.prog.cellsOf 45)) = some x2 := hf 2 _ rfl
  rw [(by kernel_rfl : Tryd.prog.cellsOf 9 = 1)] at h0
  rw [(by kernel_rfl : Tryd.prog.cellsOf 45 = 2)] at h1
  rw [(by kernel_rfl : Tryd.prog.cellsOf 45 = 2)] at h2
  obtain ⟨s, hs, _, hsz⟩ := DataW.trod_string Tryd.underlying9 (show DataW.trod enc Tryd.prog w base spare held n 9 [c0] = some x0 from h0)
  obtain ⟨k1, v1, e1, e2⟩ := open_conCells (show DataW.trod enc Tryd.prog w base spare held n 45 [c1, c2] = some x1 from h1)
  obtain ⟨k2, v2, e3, e4⟩ := open_conCells (show DataW.trod enc Tryd.prog w base spare held n 45 [c3, c4] = some x2 from h2)
  simp at hs
  subst hs; subst e1; subst e2; subst e3; subst e4
  exact ⟨⟨s, k1, v1, k2, v2⟩, rfl, hsz⟩

set_option maxRecDepth 100000 in
theorem open_command {r : Reach} {b0 : Nat} {v : Value} {d : DataW H} {p : List MemPlace} (hv : Value.okWide Tryd.prog w r b0 47 v) (h : DataW.Trod enc Tryd.prog w base spare held 47 v d p) :
    ∃ c : Cmd, v = cmdV c ∧ c.p.size ≤ maxLen := by
  obtain ⟨cs, rfl, hsz⟩ := okWide_struct Tryd.underlying47 hv
  obtain ⟨fuel, hf⟩ := h
  obtain ⟨c, hc, hs⟩ := open_cmdCells (show DataW.trod enc Tryd.prog w base spare held fuel 47 cs.toList = some (d, p) from hf)
  refine ⟨c, ?_, hs⟩
  unfold cmdV
  rw [← Array.toArray_toList (xs := cs), hc]
end

end Go.Proofs.YtnmpbocnbcokeaaDoor

/-
  AN ARGUMENT THAT IS A LIST OF NODES, opened to its cells.
-/
namespace Go.Proofs.YtnmpbocnbcokeaaDoor
open Go.ChangeShapes Go.WideShapes Go.Deep

theorem len_three {α : Type} : ∀ {l : List α}, l.length = 3 → ∃ a b c, l = [a, b, c]
  | [a, b, c], _ => ⟨a, b, c, rfl⟩
theorem len_two {α : Type} : ∀ {l : List α}, l.length = 2 → ∃ a b, l = [a, b]
  | [a, b], _ => ⟨a, b, rfl⟩

theorem spot_none {w : World} {a : Addr} {v : Value} (h : w.cell? a = some v) : a.spot = none := by
  unfold World.cell? at h
  split at h
  · split at h
    · cases h
    · rename_i hs; simpa using hs
  · cases h

section
variable {H : Type} {enc : TypeId × Value → H} {w : World} {base : Nat} {spare : Nat → Bool} {held : Bool}

theorem open_node {fuel : Nat} {cs : List Value} {x : DataW H × List MemPlace} (h : DataW.trod enc Tryd.prog w base spare held fuel 88 cs = some x) :
    ∃ n : Nd, cs = [.string n.p, .int .i64 n.k, .int .i64 n.v] ∧ n.p.size ≤ maxLen := by
  obtain ⟨xs, n, _, _, hl, hxl, hf⟩ := DataW.trod_struct Tryd.underlying88 h
  have hl3 : cs.length = 3 := hl.trans (by kernel_rfl)
  obtain ⟨c0, c1, c2, rfl⟩ : ∃ c0 c1 c2, cs = [c0, c1, c2] := len_three hl3
  obtain ⟨x0, x1, rfl⟩ : ∃ x0 x1, xs = [x0, x1] := len_two hxl
  have h0 : DataW.trod enc Tryd.prog w base spare held n 9 (([c0, c1, c2].drop 0).take (Tryd.prog.cellsOf 9)) = some x0 := hf 0 _ rfl
  have h1 : DataW.trod enc Tryd.prog w base spare held n 45 (([c0, c1, c2].drop 1).take (Tryd.prog.cellsOf 45)) = some x1 := hf 1 _ rfl
  rw [(by kernel_rfl : Tryd.prog.cellsOf 9 = 1)] at h0
  rw [(by kernel_rfl : Tryd.prog.cellsOf 45 = 2)] at h1
  obtain ⟨s, hs, _, hsz⟩ := DataW.trod_string Tryd.underlying9 (show DataW.trod enc Tryd.prog w base spare held n 9 [c0] = some x0 from h0)
  obtain ⟨ys, m, _, _, _, hyl, hg⟩ := DataW.trod_struct Tryd.underlying45 (show DataW.trod enc Tryd.prog w base spare held n 45 [c1, c2] = some x1 from h1)
  obtain ⟨y0, y1, rfl⟩ : ∃ y0 y1, ys = [y0, y1] := len_two hyl
  have h2 : DataW.trod enc Tryd.prog w base spare held m 3 (([c1, c2].drop 0).take (Tryd.prog.cellsOf 3)) = some y0 := hg 0 _ rfl
  have h3 : DataW.trod enc Tryd.prog w base spare held m 3 (([c1, c2].drop 1).take (Tryd.prog.cellsOf 3)) = some y1 := hg 1 _ rfl
  rw [(by kernel_rfl : Tryd.prog.cellsOf 3 = 1)] at h2
  rw [(by kernel_rfl : Tryd.prog.cellsOf 3 = 1)] at h3
  obtain ⟨k, hk, _⟩ := DataW.trod_int Tryd.underlying3 (show DataW.trod enc Tryd.prog w base spare held m 3 [c1] = some y0 from h2)
  obtain ⟨v, hv, _⟩ := DataW.trod_int Tryd.underlying3 (show DataW.trod enc Tryd.prog w base spare held m 3 [c2] = some y1 from h3)
  simp at hs hk hv
  subst hs; subst hk; subst hv
  exact ⟨⟨s, k, v⟩, rfl, hsz⟩

theorem open_nodes {fuel : Nat} {a : Option Addr} {len cap : Nat} {x : DataW H × List MemPlace} (h : DataW.trod enc Tryd.prog w base spare held fuel 44 [.slice a len cap] = some x) :
    ∃ ns : List Nd, NodesAt w a len ns ∧ len ≤ maxLen ∧ Short maxLen ns := by
  rcases open_slice Tryd.underlying44 h with ⟨h0, _⟩ | ⟨ad, len', cap', m, n, D, Pl, hcs, _, hl, hm, hmm, _, hi⟩
  · simp at h0
    obtain ⟨rfl, rfl, rfl⟩ := h0
    exact ⟨[], ⟨rfl, .inl rfl⟩, by unfold maxLen; omega, fun n hn => by cases hn⟩
  · simp at hcs
    obtain ⟨rfl, rfl, rfl⟩ := hcs
    have hlm : len ≤ m := by rw [hmm]; split <;> omega
    have hel : ∀ i, i < len → ∃ nd : Nd, w.cell? (ad.add (i * 3)) = some (.string nd.p) ∧ w.cell? (ad.add (i * 3 + 1)) = some (.int .i64 nd.k) ∧ w.cell? (ad.add (i * 3 + 2)) = some (.int .i64 nd.v) ∧ nd.p.size ≤ maxLen := by
      intro i hil
      obtain ⟨cs, hc, ht⟩ := hi i (by omega)
      rw [show Tryd.prog.cellsOf 88 = 3 by kernel_rfl] at hc
      obtain ⟨nd, rfl, hsz⟩ := open_node ht
      obtain ⟨_, hcl, hat⟩ := World.cells?_some hc
      refine ⟨nd, ?_, ?_, ?_, hsz⟩
      · have := hat 0 (by omega)
        rw [Go.Deep.add_add] at this; exact this
      · have := hat 1 (by omega)
        rw [Go.Deep.add_add] at this; exact this
      · have := hat 2 (by omega)
        rw [Go.Deep.add_add] at this; exact this
    obtain ⟨f, hf⟩ : ∃ f : Nat → Nd, ∀ i, i < len → w.cell? (ad.add (i * 3)) = some (.string (f i).p) ∧ w.cell? (ad.add (i * 3 + 1)) = some (.int .i64 (f i).k) ∧ w.cell? (ad.add (i * 3 + 2)) = some (.int .i64 (f i).v) ∧ (f i).p.size ≤ maxLen :=
      ⟨fun i => if h : i < len then Classical.choose (hel i h) else ⟨⟨#[]⟩, 0, 0⟩, fun i hil => by
        simp only [dif_pos hil]
        exact Classical.choose_spec (hel i hil)⟩
    have hget : ∀ i n, ((List.range len).map f)[i]? = some n → i < len ∧ n = f i := by
      intro i n hn
      rw [List.getElem?_map] at hn
      by_cases hil : i < len
      · rw [List.getElem?_range hil] at hn
        exact ⟨hil, by simpa using hn.symm⟩
      · rw [List.getElem?_eq_none (by simpa using hil)] at hn; cases hn
    refine ⟨(List.range len).map f, ⟨by simp, ?_⟩, by omega, fun n hn => ?_⟩
    · by_cases h0 : len = 0
      · exact .inl h0
      · right
        have hsp := spot_none (hf 0 (by omega)).1
        obtain ⟨b, off, sp⟩ := ad
        have hsp' : sp = none := by
          simp [Addr.add] at hsp
          exact hsp
        subst hsp'
        have hadd : ∀ j, (⟨b, off, none⟩ : Addr).add j = ⟨b, off + j, none⟩ := fun j => by
          unfold Addr.add
          split
          · rename_i hj; rw [hj]; rfl
          · rfl
        refine ⟨b, off, rfl, fun i n hn => ?_⟩
        obtain ⟨hil, rfl⟩ := hget i n hn
        obtain ⟨c0, c1, c2, _⟩ := hf i hil
        rw [hadd] at c0 c1 c2
        exact ⟨c0, c1, c2⟩
    · obtain ⟨i, hi2⟩ := List.getElem?_of_mem hn
      obtain ⟨hil, rfl⟩ := hget i n hi2
      exact (hf i hil).2.2.2
end

end Go.Proofs.YtnmpbocnbcokeaaDoor

/-
  WALKS: laws.eqNode, laws.eqNodeS, at equal lists.
-/
namespace Go.Proofs.YtnmpbocnbcokeaaDoor
open Go.RowKit
set_option linter.unusedVariables false

set_option maxHeartbeats 1000000 in
theorem eqNode_c (n : Nd) (w : World) : Calls Tryd.prog 62 #[nodeV n, nodeV n] w (BoolPost true w) := by
  obtain ⟨p, k, v⟩ := n
  have HC := Lib.hid (fun w => eqContent_c k v w)
  unfold nodeV
  go_enter Tryd.func62, Tryd.ntmps62
  go_wp2_with fail
  refine (HC.out _).mono ?_
  rintro e W1 ⟨rfl, hb1⟩
  have HB := Lib.hid (below_next (below_next (below_box _ _) (below_box _ _)) hb1)
  clear hb1
  go_wp2
  go_ret
  exact ⟨rfl, HB.out⟩

def EqRel (len : Nat) (W : World) (i : Value) (wr : World) : Prop := ∃ n : Nat, i = .int .i64 n ∧ n ≤ len ∧ Hid (Below W.heap.size W wr)

set_option maxHeartbeats 2000000 in
set_option maxRecDepth 100000 in
theorem eqNodeS_c (a1 a2 : Option Addr) (len c1 c2 : Nat) (ns : List Nd) (hl : len ≤ 2097152) (W : World) (h1 : NodesAt W a1 len ns) (h2 : NodesAt W a2 len ns) :
    Calls Tryd.prog 29 #[.slice a1 len c1, .slice a2 len c2] W (BoolPost true W) := by
  have H1 := Lib.hid h1
  have H2 := Lib.hid h2
  have HC := Lib.hid (fun n w => eqNode_c n w)
  unfold nodeV at HC
  have hl' : (len : Int) ≤ 2097152 := by omega
  clear h1 h2
  go_enter Tryd.func29, Tryd.ntmps29
  go_wp2
  go_loopw [5] (fun i wr => EqRel len W i wr) (fun i _ => len - (intOf i).toNat)
  case atStart => exact ⟨0, rfl, by omega, Below.refl _ _⟩
  case round =>
    obtain ⟨i, rfl, hi, HB⟩ := hrel
    by_cases hlt : i < len
    · obtain ⟨b, off, n, HA1, hn1, c0, c1, c2⟩ := (H1.out.keep HB.out).node hlt
      obtain ⟨b', off', n', HA2, hn2, d0, d1, d2⟩ := (H2.out.keep HB.out).node hlt
      obtain rfl : n' = n := by rw [hn1] at hn2; exact (Option.some.inj hn2).symm
      have hlt' : (i : Int) < len := by omega
      have hil : (i : Int) ≤ 2097152 := by omega
      have HLT := Lib.hid hlt
      obtain rfl := HA1
      obtain rfl := HA2
      obtain ⟨p, k, v⟩ := n'
      simp only at c0 c1 c2 d0 d1 d2
      have HS0 := Lib.hid (show wr.drew.cell? ⟨b, off + i * 3, none⟩ = some (.string p) ∧ wr.drew.cell? ⟨b, off + i * 3 + 1, none⟩ = some (.int .i64 k) ∧ wr.drew.cell? ⟨b, off + i * 3 + 2, none⟩ = some (.int .i64 v) ∧
        wr.drew.cell? ⟨b', off' + i * 3, none⟩ = some (.string p) ∧ wr.drew.cell? ⟨b', off' + i * 3 + 1, none⟩ = some (.int .i64 k) ∧ wr.drew.cell? ⟨b', off' + i * 3 + 2, none⟩ = some (.int .i64 v) from ⟨c0, c1, c2, d0, d1, d2⟩)
      have HCX := Lib.hid (HC.out ⟨p, k, v⟩ wr.drew)
      clear hlt hi hn1 hn2
      go_upto_region 6 with (fail)
      refine wp_region_held_drew (S := (fun w' => w'.cell? ⟨b, off + i * 3, none⟩ = some (.string p) ∧ w'.cell? ⟨b, off + i * 3 + 1, none⟩ = some (.int .i64 k) ∧ w'.cell? ⟨b, off + i * 3 + 2, none⟩ = some (.int .i64 v) ∧ w'.cell? ⟨b', off' + i * 3, none⟩ = some (.string p) ∧ w'.cell? ⟨b', off' + i * 3 + 1, none⟩ = some (.int .i64 k) ∧ w'.cell? ⟨b', off' + i * 3 + 2, none⟩ = some (.int .i64 v))) (by kernel_rfl) HS0.out (fun hH => ?_)
      refine wpAnyH_take (i := 0) (oi := _) (v := ?_) rfl (by kernel_rfl) (by kernel_rfl) (by kernel_rfl) (fun _ _ _ h => h) (Or.inl ⟨by rfl, ?_⟩) (by assumption) ?_
      rotate_left
      · (intro w hSw; (try dsimp only at hSw); go_simp; try with_reducible rfl)
      try simp only [Act.put, List.getElem_toArray, List.getElem_cons_zero, List.setIfInBounds_toArray, List.set_cons_zero, List.set_cons_succ]
      refine wpAnyH_take (i := 1) (oi := _) (v := ?_) rfl (by kernel_rfl) (by kernel_rfl) (by kernel_rfl) (fun _ _ _ h => h) (Or.inl ⟨by rfl, ?_⟩) (by assumption) ?_
      rotate_left
      · (intro w hSw; (try dsimp only at hSw); go_simp; try with_reducible rfl)
      try simp only [Act.put, List.getElem_toArray, List.getElem_cons_zero, List.getElem_cons_succ, List.setIfInBounds_toArray, List.set_cons_zero, List.set_cons_succ]
      refine wpAnyH_take (i := 2) (oi := _) (v := ?_) rfl (by kernel_rfl) (by kernel_rfl) (by kernel_rfl) (fun _ _ _ h => h) (Or.inl ⟨by rfl, ?_⟩) (by assumption) ?_
      rotate_left
      · (intro w hSw; (try dsimp only at hSw); go_simp; try with_reducible rfl)
      try simp only [Act.put, List.getElem_toArray, List.getElem_cons_zero, List.getElem_cons_succ, List.setIfInBounds_toArray, List.set_cons_zero, List.set_cons_succ]
      refine wpAnyH_take (i := 3) (oi := _) (v := ?_) rfl (by kernel_rfl) (by kernel_rfl) (by kernel_rfl) (fun _ _ _ h => h) (Or.inl ⟨by rfl, ?_⟩) (by assumption) ?_
      rotate_left
      · (intro w hSw; (try dsimp only at hSw); go_simp; try with_reducible rfl)
      try simp only [Act.put, List.getElem_toArray, List.getElem_cons_zero, List.getElem_cons_succ, List.setIfInBounds_toArray, List.set_cons_zero, List.set_cons_succ]
      refine wpAnyH_take (i := 4) (oi := _) (v := ?_) rfl (by kernel_rfl) (by kernel_rfl) (by kernel_rfl) (fun _ _ _ h => h) (Or.inl ⟨by rfl, ?_⟩) (by assumption) ?_
      rotate_left
      · (intro w hSw; (try dsimp only at hSw); go_simp; try with_reducible rfl)
      try simp only [Act.put, List.getElem_toArray, List.getElem_cons_zero, List.getElem_cons_succ, List.setIfInBounds_toArray, List.set_cons_zero, List.set_cons_succ]
      refine wpAnyH_take (i := 5) (oi := _) (v := ?_) rfl (by kernel_rfl) (by kernel_rfl) (by kernel_rfl) (fun _ _ _ h => h) (Or.inl ⟨by rfl, ?_⟩) (by assumption) ?_
      rotate_left
      · (intro w hSw; (try dsimp only at hSw); go_simp; try with_reducible rfl)
      try simp only [Act.put, List.getElem_toArray, List.getElem_cons_zero, List.getElem_cons_succ, List.setIfInBounds_toArray, List.set_cons_zero, List.set_cons_succ]
      refine wpAnyH_take (i := 6) (oi := _) (v := ?_) rfl (by kernel_rfl) (by kernel_rfl) (by kernel_rfl) (fun _ _ _ h => h) (Or.inl ⟨by rfl, ?_⟩) (by assumption) ?_
      rotate_left
      · (intro w hSw; (try dsimp only at hSw); go_simp; try with_reducible rfl)
      try simp only [Act.put, List.getElem_toArray, List.getElem_cons_zero, List.getElem_cons_succ, List.setIfInBounds_toArray, List.set_cons_zero, List.set_cons_succ]
      refine wpAnyH_take (i := 7) (oi := _) (v := ?_) rfl (by kernel_rfl) (by kernel_rfl) (by kernel_rfl) (fun _ _ _ h => h) (Or.inl ⟨by rfl, ?_⟩) (by assumption) ?_
      rotate_left
      · (intro w hSw; (try dsimp only at hSw); go_simp; try with_reducible rfl)
      try simp only [Act.put, List.getElem_toArray, List.getElem_cons_zero, List.getElem_cons_succ, List.setIfInBounds_toArray, List.set_cons_zero, List.set_cons_succ]
      refine wpAnyH_ready (rs := [8]) (by kernel_rfl) (by simp) ?_
      refine AllReadyH.cons rfl (fun K hK => ?_) (AllReadyH.nil)
      go_simp
      go_at_call 62; (with_reducible refine (HCX.out).mono ?_); rintro e W7 ⟨rfl, hb7⟩
      refine hK.out _ _ ⟨cell_kept hb7 HS0.out.1, cell_kept hb7 HS0.out.2.1, cell_kept hb7 HS0.out.2.2.1, cell_kept hb7 HS0.out.2.2.2.1, cell_kept hb7 HS0.out.2.2.2.2.1, cell_kept hb7 HS0.out.2.2.2.2.2⟩ (fun hHeld => ?_)
      try simp only [Act.put, List.getElem_toArray, List.getElem_cons_zero, List.getElem_cons_succ, List.setIfInBounds_toArray, List.set_cons_zero, List.set_cons_succ]
      have H7 := Lib.hid (below_next (show Below W.heap.size W wr.drew from HB.out.drew) hb7)
      refine wpAnyH_take (i := 9) (oi := _) (v := ?_) rfl (by kernel_rfl) (by kernel_rfl) (by kernel_rfl) (fun _ _ _ h => h) (Or.inl ⟨by rfl, ?_⟩) (by assumption) ?_
      rotate_left
      · (intro w hSw; (try dsimp only at hSw); go_simp; try with_reducible rfl)
      try simp only [Act.put, List.getElem_toArray, List.getElem_cons_zero, List.getElem_cons_succ, List.setIfInBounds_toArray, List.set_cons_zero, List.set_cons_succ]
      refine wpAnyH_done (by kernel_rfl) ?_ _
      go_wp2
      go_roundw
      case rel => exact ⟨i + 1, by go_num, by have := HLT.out; omega, H7.out⟩
      case measure => have := HLT.out; simp [intOf]; omega
    · have hge : (len : Int) ≤ i := by omega
      clear hlt
      go_wp2
      go_ret
      exact ⟨rfl, HB.out⟩

end Go.Proofs.YtnmpbocnbcokeaaDoor

/-
  WALKS: laws.markText, markNodeS, markStringS, heldNodeS, heldStringS, eqStringS: what a test writes into memory of the program's, and finds again.
-/
namespace Go.Proofs.YtnmpbocnbcokeaaDoor
open Go.RowKit
set_option linter.unusedVariables false

/-- The digits of a number, ahead of a text. -/
def digs : Nat → Nat → ByteArray → ByteArray
  | 0, _, out => out
  | f + 1, k, out => if k = 0 then out else digs f (k / 10) (⟨#[UInt8.ofNat (48 + k % 10)]⟩ ++ out)

/-- The text of a mark. -/
def mtext (k : Nat) : ByteArray := ⟨#[109]⟩ ++ digs k k ⟨#[]⟩

theorem digs_zero (f : Nat) (out : ByteArray) : digs f 0 out = out := by cases f <;> simp [digs]
theorem digs_more : ∀ (f g k : Nat) (out : ByteArray), k ≤ f → k ≤ g → digs f k out = digs g k out
  | 0, g, k, out, h, _ => by rw [show k = 0 by omega, digs_zero, digs_zero]
  | f + 1, 0, k, out, _, h => by rw [show k = 0 by omega, digs_zero, digs_zero]
  | f + 1, g + 1, k, out, h1, h2 => by
    unfold digs
    split
    · rfl
    · exact digs_more f g _ _ (by omega) (by omega)
theorem digs_step {k : Nat} (out : ByteArray) (hk : 0 < k) : digs k k out = digs (k / 10) (k / 10) (⟨#[UInt8.ofNat (48 + k % 10)]⟩ ++ out) := by
  obtain ⟨f, rfl⟩ : ∃ f, k = f + 1 := ⟨k - 1, by omega⟩
  conv => lhs; unfold digs
  rw [if_neg (by omega)]
  exact digs_more _ _ _ _ (by omega) (by omega)

theorem convByte (w : World) (r : Nat) (hr : r ≤ 9) : (convert 22 9 (.slice (some ⟨w.heap.size, 0, none⟩) 1 1)).run Tryd.prog (w.alloc (.cells #[.int .u8 (48 + (r : Int))] 5)) =
    .ok (.string ⟨#[UInt8.ofNat (48 + r)]⟩) (w.alloc (.cells #[.int .u8 (48 + (r : Int))] 5)) := by
  rw [run_convert_bytes_string _ _ _ _ _ _ _ Tryd.underlying22 Tryd.underlying5 Tryd.underlying9, run_bytesToString _ _ _ _ [48 + (r : Int)] ?_]
  · simp only [List.foldl_cons, List.foldl_nil]
    have : (48 + (r : Int)).toNat = 48 + r := by omega
    rw [this]; rfl
  · simp [loadCells, go_sem, Addr.add]

def MarkRel (k0 : Nat) (W : World) (kv o : Value) (wr : World) : Prop :=
  ∃ (k : Nat) (out : ByteArray), kv = .int .i64 k ∧ o = .string out ∧ out.size + k ≤ k0 ∧ Hid (digs k k out = digs k0 k0 ⟨#[]⟩) ∧ Hid (Below W.heap.size W wr)

set_option maxHeartbeats 2000000 in
set_option maxRecDepth 100000 in
theorem markText_c (k0 : Nat) (h1 : 1 ≤ k0) (h2 : k0 ≤ 1099511627776) (W : World) :
    Calls Tryd.prog 63 #[.int .i64 k0] W fun e W' => e = .returned (.string (mtext k0)) ∧ Below W.heap.size W W' := by
  have hp : (0 : Int) < k0 := by omega
  go_enter Tryd.func63, Tryd.ntmps63
  go_wp2
  go_loopw [0, 3] (fun kv o wr => MarkRel k0 W kv o wr) (fun kv _ _ => (intOf kv).toNat)
  case atStart => exact ⟨k0, ⟨#[]⟩, rfl, rfl, by show 0 + k0 ≤ k0; omega, rfl, Below.refl _ _⟩
  case round =>
    obtain ⟨k, out, rfl, rfl, hsz, HD, HB⟩ := hrel
    by_cases hk : 0 < k
    · have hk' : (0 : Int) < k := by omega
      have hkm : (k : Int) ≤ 1099511627776 := by omega
      obtain ⟨r, hr⟩ : ∃ r, r = k % 10 := ⟨_, rfl⟩
      obtain ⟨q, hq⟩ : ∃ q, q = k / 10 := ⟨_, rfl⟩
      have hr0 : (k : Int).tmod 10 = (r : Int) := by rw [hr]; rfl
      have hq0 : (k : Int).tdiv 10 = (q : Int) := by rw [hq]; rfl
      have hr9 : (r : Int) ≤ 9 := by omega
      have hqk : q < k := by omega
      have hqm : (q : Int) ≤ 1099511627776 := by omega
      have HSZ := Lib.hid hsz
      have HQK := Lib.hid hqk
      have HDS := Lib.hid (show digs k k out = digs q q (⟨#[UInt8.ofNat (48 + r)]⟩ ++ out) by rw [hr, hq]; exact digs_step out hk)
      have hos : out.size ≤ 1099511627776 := by omega
      have hcv := convByte wr r (by omega)
      clear hk hsz hr hq hqk
      go_wp2
      have he : (48 + UInt8.ofNat r) = UInt8.ofNat (48 + r) := by rw [UInt8.ofNat_add]; rfl
      rw [he]
      go_roundw
      case rel =>
        refine ⟨q, ⟨#[UInt8.ofNat (48 + r)]⟩ ++ out, rfl, rfl, ?_, ?_, below_next HB.out (below_box _ _)⟩
        · rw [ByteArray.size_append]
          have h5 := HSZ.out
          have h6 := HQK.out
          show 1 + out.size + q ≤ k0
          omega
        · show _ = _
          rw [← HDS.out]; exact HD.out
      case measure => have := HQK.out; simp [intOf]; omega
    · have hk0 : k = 0 := by omega
      subst hk0
      have hos : out.size ≤ 1099511627776 := by omega
      have HE := Lib.hid (show ⟨#[109]⟩ ++ out = mtext k0 by unfold mtext; rw [← HD.out, digs_zero])
      clear hsz hk
      go_wp2
      refine bodyPost_ret (v := .string (⟨#[109]⟩ ++ out)) (by simp [results, Tryd.f63, go_sem]) rfl ⟨by rw [HE.out], HB.out⟩

/-! ## Lists of nodes -/

/-- The nodes that a test writes. -/
def markN (n : Nat) : List Nd := (List.range n).map (fun i => ⟨mtext (1 + 3 * i), 1 + 3 * (i : Int) + 1, 1 + 3 * (i : Int) + 1 + 1⟩)
theorem markN_len (n : Nat) : (markN n).length = n := by simp [markN]
theorem markN_get {n i : Nat} (h : i < n) : (markN n)[i]? = some ⟨mtext (1 + 3 * i), 1 + 3 * (i : Int) + 1, 1 + 3 * (i : Int) + 1 + 1⟩ := by
  unfold markN; rw [List.getElem?_map, List.getElem?_range h]; rfl

def MarkedRel (len base : Nat) (v : Value) (W : World) (kv i : Value) (wr : World) : Prop :=
  ∃ (n : Nat) (zs : List Value), i = .int .i64 n ∧ kv = .int .i64 (1 + 3 * (n : Int)) ∧ n ≤ len ∧ zs.length = (len - n) * 3 ∧ wr.ownsRow base 65 3 v len (flatN ((markN len).take n) ++ zs) ∧ Hid (W.grownBy wr v.ownBlock)

theorem _root_.Go.World.grownBy.set {A B : World} {g : Nat} {n cap : Nat} (h : A.grownBy B (Value.slice (some ⟨g, 0, none⟩) n cap).ownBlock) (g' i : Nat) (hg : g' = g) (u : Value) : A.grownBy (B.setCell ⟨g', i, none⟩ u) (Value.slice (some ⟨g, 0, none⟩) n cap).ownBlock := by
  subst hg
  exact ⟨h.os, h.tape, h.output, by (have hz : (B.setCell ⟨g', i, none⟩ u).heap.size = B.heap.size := by simp [World.setCell]); (rw [hz]); exact h.size, fun k hk hr => (Below.heap_setCell _ _ _ _ (fun e => hr (by rw [e]; rfl))).trans (h.block k hk hr)⟩

theorem grown_next {A B C : World} {row : Option Nat} (h : A.grownBy B row) (k : Below B.heap.size B C) : A.grownBy C row :=
  ⟨k.os.trans h.os, k.tape.trans h.tape, k.output.trans h.output, Nat.le_trans h.size k.size, fun i hi hr => (k.block i (by have := h.size; omega)).trans (h.block i hi hr)⟩

set_option maxHeartbeats 2000000 in
set_option maxRecDepth 100000 in
theorem markNodeS_c (v : Value) (base len : Nat) (xs : List Value) (hl : len ≤ 2097152) (W : World) (h : W.ownsRow base 65 3 v len xs) :
    Calls Tryd.prog 30 #[v, .int .i64 1] W fun e W' => e = .returned (.int .i64 (1 + 3 * (len : Int))) ∧ W.grownBy W' v.ownBlock ∧ W'.ownsRow base 65 3 v len (flatN (markN len)) := by
  have HX := Lib.hid h
  have hxl := h.1
  have HMT := Lib.hid (fun k (h1 : 1 ≤ k) (h2 : k ≤ 1099511627776) w => markText_c k h1 h2 w)
  obtain ⟨a, cap, hv⟩ : ∃ a cap, v = .slice a len cap := by
    rcases own_cases h with ⟨h1, h2⟩ | ⟨g, cap, h1⟩
    · exact ⟨none, 0, by rw [h1, h2]⟩
    · exact ⟨_, cap, h1⟩
  have hl' : (len : Int) ≤ 2097152 := by omega
  clear h
  subst hv
  go_enter Tryd.func30, Tryd.ntmps30
  go_wp2
  go_loopw [1, 5] (fun kv i wr => MarkedRel len base (.slice a len cap) W kv i wr) (fun _ i _ => len - (intOf i).toNat)
  case atStart => exact ⟨0, xs, rfl, rfl, by omega, by rw [hxl]; rfl, HX.out, ⟨rfl, rfl, rfl, Nat.le_refl _, fun _ _ _ => rfl⟩⟩
  case round =>
    obtain ⟨i, zs, rfl, rfl, hi, hzl, hown, HG⟩ := hrel
    by_cases hlt : i < len
    · have hlt' : (i : Int) < len := by omega
      have hil : (i : Int) ≤ 2097152 := by omega
      have HLT := Lib.hid hlt
      have HZ := Lib.hid (And.intro hzl (show 3 ≤ zs.length by omega))
      rcases own_cases hown with ⟨_, h2⟩ | ⟨g, cap', h2⟩
      · omega
      simp at h2
      obtain ⟨rfl, rfl⟩ := h2
      have HO := Lib.hid hown
      have HM := Lib.hid (show Calls Tryd.prog 63 #[.int .i64 (1 + 3 * (i : Int))] wr (fun e W' => e = .returned (.string (mtext (1 + 3 * i))) ∧ Below wr.heap.size wr W') by have := HMT.out (1 + 3 * i) (by omega) (by omega) wr; rwa [show ((1 + 3 * i : Nat) : Int) = 1 + 3 * (i : Int) by push_cast; rfl] at this)
      clear hi hlt hzl hown
      go_wp2_with fail
      refine HM.out.mono ?_
      rintro e W2 ⟨rfl, hb2⟩
      have HO2 := Lib.hid (own_below HO.out hb2)
      have HG2 := Lib.hid (grown_next HG.out hb2)
      have hll : (flatN ((markN len).take i)).length = i * 3 := by rw [flatN_length, List.length_take, markN_len]; have := HLT.out; omega
      have cell : ∀ j, j < 3 → ∃ u, W2.cell? ⟨g, i * 3 + j, none⟩ = some u := by
        intro j hj
        have hx := HZ.out.1
        have hy := HLT.out
        rw [HO2.out.cellAt _ (by omega)]
        exact ⟨_, List.getElem?_eq_getElem (by rw [List.length_append, hll]; omega)⟩
      obtain ⟨u0, e0⟩ := cell 0 (by omega)
      replace e0 : W2.cell? ⟨g, i * 3, none⟩ = some u0 := e0
      obtain ⟨u1, e1⟩ := cell 1 (by omega)
      obtain ⟨u2, e2⟩ := cell 2 (by omega)
      have y0 := HO2.out.frozenAt (i * 3)
      have y1 := HO2.out.frozenAt (i * 3 + 1)
      have y2 := HO2.out.frozenAt (i * 3 + 2)
      generalize hmt : mtext (1 + 3 * i) = mt
      have HMTX := Lib.hid hmt
      clear cell hll hb2 hmt
      go_wp2
      have HS3 := stored3 HO2.out (i * 3) (.string mt) (.int .i64 (1 + 3 * (i : Int) + 1)) (.int .i64 (1 + 3 * (i : Int) + 1 + 1))
      rw [← HMTX.out, flatN_take_set (markN len) i _ zs (markN_get HLT.out) HZ.out.2] at HS3
      go_roundw
      case rel =>
        refine ⟨i + 1, zs.drop 3, by push_cast; rfl, by rw [show 1 + 3 * ((i + 1 : Nat) : Int) = 1 + 3 * (i : Int) + 1 + 1 + 1 by omega], by have := HLT.out; omega, by rw [List.length_drop]; have h1 := HZ.out.1; have h2 := HZ.out.2; have h3 := HLT.out; omega, ?_, ?_⟩
        · rw [← HMTX.out]; exact HS3
        · exact ((HG2.out.set _ _ rfl _).set _ _ rfl _).set _ _ rfl _
      case measure => have := HLT.out; simp [intOf]; omega
    · have hge : (len : Int) ≤ i := by omega
      have hie : i = len := by omega
      have hz0' : zs = [] := List.eq_nil_of_length_eq_zero (by omega)
      subst hz0'
      subst hie
      rw [List.append_nil, List.take_of_length_le (by rw [markN_len]; omega)] at hown
      clear hi hlt
      go_wp2
      refine bodyPost_ret (v := .int .i64 (1 + 3 * (i : Int))) (by simp [results, Tryd.f30, go_sem]) rfl ⟨rfl, HG.out, hown⟩


def HeldRel (len st : Nat) (W : World) (kv i : Value) (wr : World) : Prop :=
  ∃ n : Nat, i = .int .i64 n ∧ kv = .int .i64 (1 + (st : Int) * (n : Int)) ∧ n ≤ len ∧ Hid (Below W.heap.size W wr)

set_option maxHeartbeats 2000000 in
set_option maxRecDepth 100000 in
theorem heldNodeS_c (a : Option Addr) (len cap : Nat) (hl : len ≤ 2097152) (W : World) (hN : NodesAt W a len (markN len)) :
    Calls Tryd.prog 31 #[.slice a len cap, .int .i64 1] W fun e W' => e = .returned (.int .i64 (1 + 3 * (len : Int))) ∧ Below W.heap.size W W' := by
  have HN := Lib.hid hN
  have HMT := Lib.hid (fun k (h1 : 1 ≤ k) (h2 : k ≤ 1099511627776) w => markText_c k h1 h2 w)
  have hl' : (len : Int) ≤ 2097152 := by omega
  clear hN
  go_enter Tryd.func31, Tryd.ntmps31
  go_wp2
  go_loopw [1, 5] (fun kv i wr => HeldRel len 3 W kv i wr) (fun _ i _ => len - (intOf i).toNat)
  case atStart => exact ⟨0, rfl, rfl, by omega, Below.refl _ _⟩
  case round =>
    obtain ⟨i, rfl, rfl, hi, HB⟩ := hrel
    by_cases hlt : i < len
    · obtain ⟨b, off, n, rfl, hn, c0, c1, c2⟩ := (HN.out.keep HB.out).node hlt
      have hlt' : (i : Int) < len := by omega
      have hil : (i : Int) ≤ 2097152 := by omega
      have HLT := Lib.hid hlt
      rw [markN_get hlt] at hn
      obtain rfl := Option.some.inj hn
      have HM := Lib.hid (show Calls Tryd.prog 63 #[.int .i64 (1 + 3 * (i : Int))] wr.drew (fun e W' => e = .returned (.string (mtext (1 + 3 * i))) ∧ Below wr.drew.heap.size wr.drew W') by have := HMT.out (1 + 3 * i) (by omega) (by omega) wr.drew; rwa [show ((1 + 3 * i : Nat) : Int) = 1 + 3 * (i : Int) by push_cast; rfl] at this)
      simp only at c0 c1 c2
      generalize hmt : mtext (1 + 3 * i) = mt at HM c0
      have HS0 := Lib.hid (show wr.drew.cell? ⟨b, off + i * 3, none⟩ = some (.string mt) ∧ wr.drew.cell? ⟨b, off + i * 3 + 1, none⟩ = some (.int .i64 (1 + 3 * (i : Int) + 1)) ∧ wr.drew.cell? ⟨b, off + i * 3 + 2, none⟩ = some (.int .i64 (1 + 3 * (i : Int) + 1 + 1)) from ⟨c0, c1, c2⟩)
      clear hlt hi hn hmt
      rw [show ((3 : Nat) : Int) = 3 from rfl]
      go_upto_region 4 with (fail)
      refine wp_region_held_drew (S := (fun w' => w'.cell? ⟨b, off + i * 3, none⟩ = some (.string mt) ∧ w'.cell? ⟨b, off + i * 3 + 1, none⟩ = some (.int .i64 (1 + 3 * (i : Int) + 1)) ∧ w'.cell? ⟨b, off + i * 3 + 2, none⟩ = some (.int .i64 (1 + 3 * (i : Int) + 1 + 1)))) (by kernel_rfl) HS0.out (fun hH => ?_)
      refine wpAnyH_take (i := 0) (oi := _) (v := ?_) rfl (by kernel_rfl) (by kernel_rfl) (by kernel_rfl) (fun _ _ _ h => h) (Or.inl ⟨by rfl, ?_⟩) (by assumption) ?_
      rotate_left
      · (intro w hSw; (try dsimp only at hSw); go_simp; try with_reducible rfl)
      try simp only [Act.put, List.getElem_toArray, List.getElem_cons_zero, List.setIfInBounds_toArray, List.set_cons_zero, List.set_cons_succ]
      refine wpAnyH_take (i := 1) (oi := _) (v := ?_) rfl (by kernel_rfl) (by kernel_rfl) (by kernel_rfl) (fun _ _ _ h => h) (Or.inl ⟨by rfl, ?_⟩) (by assumption) ?_
      rotate_left
      · (intro w hSw; (try dsimp only at hSw); go_simp; try with_reducible rfl)
      try simp only [Act.put, List.getElem_toArray, List.getElem_cons_zero, List.getElem_cons_succ, List.setIfInBounds_toArray, List.set_cons_zero, List.set_cons_succ]
      refine wpAnyH_take (i := 2) (oi := _) (v := ?_) rfl (by kernel_rfl) (by kernel_rfl) (by kernel_rfl) (fun _ _ _ h => h) (Or.inl ⟨by rfl, ?_⟩) (by assumption) ?_
      rotate_left
      · (intro w hSw; (try dsimp only at hSw); go_simp; try with_reducible rfl)
      try simp only [Act.put, List.getElem_toArray, List.getElem_cons_zero, List.getElem_cons_succ, List.setIfInBounds_toArray, List.set_cons_zero, List.set_cons_succ]
      refine wpAnyH_take (i := 3) (oi := _) (v := ?_) rfl (by kernel_rfl) (by kernel_rfl) (by kernel_rfl) (fun _ _ _ h => h) (Or.inl ⟨by rfl, ?_⟩) (by assumption) ?_
      rotate_left
      · (intro w hSw; (try dsimp only at hSw); go_simp; try with_reducible rfl)
      try simp only [Act.put, List.getElem_toArray, List.getElem_cons_zero, List.getElem_cons_succ, List.setIfInBounds_toArray, List.set_cons_zero, List.set_cons_succ]
      refine wpAnyH_take (i := 4) (oi := _) (v := ?_) rfl (by kernel_rfl) (by kernel_rfl) (by kernel_rfl) (fun _ _ _ h => h) (Or.inl ⟨by rfl, ?_⟩) (by assumption) ?_
      rotate_left
      · (intro w hSw; (try dsimp only at hSw); go_simp; try with_reducible rfl)
      try simp only [Act.put, List.getElem_toArray, List.getElem_cons_zero, List.getElem_cons_succ, List.setIfInBounds_toArray, List.set_cons_zero, List.set_cons_succ]
      refine wpAnyH_take (i := 5) (oi := _) (v := ?_) rfl (by kernel_rfl) (by kernel_rfl) (by kernel_rfl) (fun _ _ _ h => h) (Or.inl ⟨by rfl, ?_⟩) (by assumption) ?_
      rotate_left
      · (intro w hSw; (try dsimp only at hSw); go_simp; try with_reducible rfl)
      try simp only [Act.put, List.getElem_toArray, List.getElem_cons_zero, List.getElem_cons_succ, List.setIfInBounds_toArray, List.set_cons_zero, List.set_cons_succ]
      refine wpAnyH_ready (rs := [6]) (by kernel_rfl) (by simp) ?_
      refine AllReadyH.cons rfl (fun K hK => ?_) (AllReadyH.nil)
      go_simp
      go_at_call 63; (with_reducible refine (HM.out).mono ?_); rintro e W7 ⟨rfl, hb7⟩
      refine hK.out _ _ ⟨cell_kept hb7 HS0.out.1, cell_kept hb7 HS0.out.2.1, cell_kept hb7 HS0.out.2.2⟩ (fun hHeld => ?_)
      try simp only [Act.put, List.getElem_toArray, List.getElem_cons_zero, List.getElem_cons_succ, List.setIfInBounds_toArray, List.set_cons_zero, List.set_cons_succ]
      have H7 := Lib.hid (below_next (show Below W.heap.size W wr.drew from HB.out.drew) hb7)
      have v1 := cell_kept hb7 HS0.out.2.1
      have v2 := cell_kept hb7 HS0.out.2.2
      refine wpAnyH_take (i := 7) (oi := _) (v := ?_) rfl (by kernel_rfl) (by kernel_rfl) (by kernel_rfl) (fun _ _ _ h => h) (Or.inl ⟨by rfl, ?_⟩) (by assumption) ?_
      rotate_left
      · (intro w hSw; (try dsimp only at hSw); go_simp; try with_reducible rfl)
      try simp only [Act.put, List.getElem_toArray, List.getElem_cons_zero, List.getElem_cons_succ, List.setIfInBounds_toArray, List.set_cons_zero, List.set_cons_succ]
      refine wpAnyH_done (by kernel_rfl) ?_ _
      clear c0 c1 c2 hb7
      go_wp2
      go_roundw
      case rel => exact ⟨i + 1, by push_cast; rfl, by rw [show 1 + ((3 : Nat) : Int) * ((i + 1 : Nat) : Int) = 1 + 3 * (i : Int) + 1 + 1 + 1 by omega], by have := HLT.out; omega, H7.out⟩
      case measure => have := HLT.out; simp [intOf]; omega
    · have hge : (len : Int) ≤ i := by omega
      have hie : i = len := by omega
      subst hie
      clear hi hlt
      go_wp2
      refine bodyPost_ret (v := .int .i64 (1 + ((3 : Nat) : Int) * (i : Int))) (by simp [results, Tryd.f31, go_sem]) rfl ⟨rfl, HB.out⟩

/-! ## Lists of texts -/

def markS (n : Nat) : List ByteArray := (List.range n).map (fun i => mtext (1 + i))
theorem markS_len (n : Nat) : (markS n).length = n := by simp [markS]
theorem markS_get {n i : Nat} (h : i < n) : (markS n)[i]? = some (mtext (1 + i)) := by
  unfold markS; rw [List.getElem?_map, List.getElem?_range h]; rfl

def MarkedSRel (len base : Nat) (v : Value) (W : World) (kv i : Value) (wr : World) : Prop :=
  ∃ (n : Nat) (zs : List Value), i = .int .i64 n ∧ kv = .int .i64 (1 + (n : Int)) ∧ n ≤ len ∧ zs.length = len - n ∧ wr.ownsRow base 9 1 v len (((markS len).take n).map Value.string ++ zs) ∧ Hid (W.grownBy wr v.ownBlock)

theorem take_set_one {α : Type} (l : List α) (i : Nat) (x : α) (zs : List α) (h : l.length = i) (hz : 1 ≤ zs.length) : (l ++ zs).set i x = (l ++ [x]) ++ zs.drop 1 := by
  match zs, hz with
  | a :: r, _ =>
    rw [List.set_append_right _ _ (by omega), h, Nat.sub_self]
    simp

def HeldSRel (len : Nat) (W : World) (kv i : Value) (wr : World) : Prop :=
  ∃ n : Nat, i = .int .i64 n ∧ kv = .int .i64 (1 + (n : Int)) ∧ n ≤ len ∧ Hid (Below W.heap.size W wr)

end Go.Proofs.YtnmpbocnbcokeaaDoor
