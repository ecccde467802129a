/-
  WALKS: impl.CommandParse, over strings.SplitN.
-/
import Derived.Shelf.Strings.Split
import Derived.Shelf.Vars
import Derived.Test.YtnmpbocnbcokeabDoorNp
import Derived.Test.YtnmpbocnbcokeabDoorSp
import Derived.Test.YtnmpbocnbcokeabDoorIw
import Derived.Test.YtnmpbocnbcokeabDoorCp
import Derived.Test.YtnmpbocnbcokeabDoorCk
import Derived.Test.YtnmpbocnbcokeabDoorCq
namespace Go.Proofs.YtnmpbocnbcokeabDoor
open Go.RowKit
set_option linter.unusedVariables false

/-- internal/bytealg.MaxLen holds some int. -/
def MaxVar (w : World) : Prop := ∃ m, w.cell? ⟨0, 0, none⟩ = some (.int .i64 m)

theorem MaxVar.keep {w w' : World} (h : MaxVar w) (hb : Below w.heap.size w w') : MaxVar w' := by
  obtain ⟨m, h⟩ := h
  exact ⟨m, cell_kept hb h⟩

/-- What reading a command wants of the library's variables. -/
def ParseVars (w : World) : Prop := ErrVars w ∧ MaxVar w

theorem ParseVars.keep {w w' : World} (h : ParseVars w) (hb : Below w.heap.size w w') : ParseVars w' := ⟨h.1.keep hb, h.2.keep hb⟩

/-- What strings.SplitN(s, " ", 3) leaves: the pieces, in a block of its own. -/
def SplitPost (ps : List ByteArray) (W : World) (e : Ending) (w' : World) : Prop :=
  (∃ g cap, e = .returned (.slice (some ⟨g, 0, none⟩) ps.length cap) ∧ ∀ (j : Nat) x, ps[j]? = some x → w'.cell? ⟨g, j, none⟩ = some (.string x)) ∧ Below W.heap.size W w'

theorem splitN_c (s : ByteArray) (hs : s.size ≤ 2097152) (W : World) (hm : MaxVar W) :
    Calls Tryd.prog 10 #[.string s, .string ⟨#[32]⟩, .int .i64 3] W (SplitPost (piecesB s) W) := by
  obtain ⟨m, hm⟩ := hm
  have h := Any.strings_SplitN Sn3.lays147 (by kernel_rfl) s ⟨#[32]⟩ 3 m W (by omega) hm (by decide) (by omega) (by omega)
  refine Calls.mono (show Calls Tryd.prog 10 #[.string s, .string ⟨#[32]⟩, .int .i64 3] W _ from h) ?_
  rintro e w' ⟨rfl, rfl⟩
  refine ⟨⟨W.heap.size, min 3 (s.size + 1), rfl, fun j x hx => ?_⟩, below_box _ _⟩
  have hj : j < (piecesB s).length := by
    rcases Nat.lt_or_ge j (piecesB s).length with h' | h'
    · exact h'
    · rw [List.getElem?_eq_none h'] at hx; cases hx
  rw [World.cell?_alloc_at _ _ _ _ rfl]
  show (Lib.cellsOf (piecesB s) (min 3 (s.size + 1)))[j]? = _
  unfold Lib.cellsOf
  rw [List.getElem?_toArray, List.getElem?_append_left (by simpa using hj), List.getElem?_map, hx]
  rfl

set_option maxHeartbeats 1000000 in
set_option maxRecDepth 100000 in
theorem implCmdParse_count (s : ByteArray) (hs : s.size ≤ 2097152) (h3 : (piecesB s).length < 3) (hR : parseC s = (zeroC, false)) (W : World) (hE : ParseVars W) : Calls Tryd.prog 5 #[.string s] W (CmdPairPost (parseC s).1 (parseC s).2 W) := by
  have HR := Lib.hid hR
  have HE := Lib.hid hE
  obtain ⟨n, hn⟩ : ∃ n, (piecesB s).length = n := ⟨_, rfl⟩
  have HW := Lib.hid (fun W' hm => splitN_c s hs W' hm)
  have hb3 : (n : Int) < 3 := by omega
  have HN := Lib.hid hn
  clear h3 hn hE hR
  go_enter Tryd.func5, Tryd.ntmps5
  go_wp2_with fail
  refine (HW.out _ (HE.out.2.keep (below_box _ _))).mono ?_
  rintro e W1 ⟨⟨g, cap, rfl, hrow⟩, hb1⟩
  have T1 := Lib.hid ((five_new W _ _ _ _ _ _).below hb1)
  have B1 := Lib.hid (below_next (below_box W _) hb1)
  rw [HN.out] at *
  clear hb1 hrow
  obtain ⟨c0, c1, c2, c3, c4, f0, f1, f2, f3, f4, -⟩ := T1.out
  go_wp2
  rw [HR.out]
  exact cmdpair_ret _ rfl rfl T1.out B1.out rfl rfl

set_option maxHeartbeats 2000000 in
set_option maxRecDepth 100000 in
theorem implCmdParse_three (s : ByteArray) (hs : s.size ≤ 2097152) (a b c : ByteArray) (h3 : piecesB s = [a, b, c]) (ha : a.size ≤ s.size) (hb : b.size ≤ s.size) (hc : c.size ≤ s.size)
    (hR : parseC s = if ((parseR b).2.2 && (parseR c).2.2 && validC ⟨a, (parseR b).1, (parseR b).2.1, (parseR c).1, (parseR c).2.1⟩) = true then (⟨a, (parseR b).1, (parseR b).2.1, (parseR c).1, (parseR c).2.1⟩, true) else (zeroC, false))
    (W : World) (hE : ParseVars W) : Calls Tryd.prog 5 #[.string s] W (CmdPairPost (parseC s).1 (parseC s).2 W) := by
  have hW := fun W' hm => splitN_c s hs W' hm
  rw [h3] at hW
  have HW := Lib.hid hW
  have HE := Lib.hid hE
  obtain ⟨⟨k1, v1, p1⟩, h1⟩ : ∃ r, parseR b = r := ⟨_, rfl⟩
  obtain ⟨⟨k2, v2, p2⟩, h2⟩ : ∃ r, parseR c = r := ⟨_, rfl⟩
  obtain ⟨vc, hvc⟩ : ∃ vc, validC ⟨a, k1, v1, k2, v2⟩ = vc := ⟨_, rfl⟩
  rw [h1, h2] at hR
  simp only at hR
  have HR := Lib.hid hR
  have H1 := Lib.hid (fun W' hE => show Calls Tryd.prog 11 #[.string b] W' (PairPost k1 v1 p1 W') by have := implParse_c b (by omega) W' hE; unfold ParsePost at this; rw [h1] at this; exact this)
  have H2 := Lib.hid (fun W' hE => show Calls Tryd.prog 11 #[.string c] W' (PairPost k2 v2 p2 W') by have := implParse_c c (by omega) W' hE; unfold ParsePost at this; rw [h2] at this; exact this)
  have HC := Lib.hid (fun W' => show Calls Tryd.prog 12 #[.agg #[.string a, .int .i64 k1, .int .i64 v1, .int .i64 k2, .int .i64 v2]] W' (BoolPost vc W') by rw [← hvc]; exact implCmdValid_c ⟨a, k1, v1, k2, v2⟩ (by show a.size ≤ _; omega) W')
  rw [hvc] at HR
  clear h3 h1 h2 hvc ha hb hc hW hE hR
  go_enter Tryd.func5, Tryd.ntmps5
  go_wp2_with fail
  refine (HW.out _ (HE.out.2.keep (below_box _ _))).mono ?_
  rintro e W1 ⟨⟨g, cap, rfl, hrow⟩, hb1⟩
  have T1 := Lib.hid ((five_new W _ _ _ _ _ _).below hb1)
  have B1 := Lib.hid (below_next (below_box W _) hb1)
  have d0 : W1.cell? ⟨g, 0, none⟩ = some (.string a) := hrow 0 a rfl
  have d1 : W1.cell? ⟨g, 1, none⟩ = some (.string b) := hrow 1 b rfl
  have d2 : W1.cell? ⟨g, 2, none⟩ = some (.string c) := hrow 2 c rfl
  clear hb1 hrow
  go_wp2_with fail
  refine (H1.out _ (HE.out.1.keep B1.out)).mono ?_
  rintro e W2 ⟨rfl, hb2⟩
  have e0 := cell_kept hb2 d0
  have e2 := cell_kept hb2 d2
  have T2 := Lib.hid (T1.out.below hb2)
  have B2 := Lib.hid (below_next B1.out hb2)
  have e3 := fun o => cell_kept (below_box W2 o) e2
  clear hb2 d0 d1 d2 e2
  go_wp2_with fail
  refine (H2.out _ (HE.out.1.keep (B2.out.alloc B2.out.size _))).mono ?_
  rintro e W3 ⟨rfl, hb3⟩
  have hb3' := below_next (below_box W2 _) hb3
  have f0 := cell_kept hb3' e0
  have x0 := box_cell hb3 0
  have x1 := box_cell hb3 1
  simp at x0 x1
  have T3 := Lib.hid (T2.out.below hb3')
  have B3 := Lib.hid (below_next B2.out hb3')
  have y0 := fun o => cell_kept (below_box W3 o) f0
  have z0 := fun o => cell_kept (below_box W3 o) x0
  have z1 := fun o => cell_kept (below_box W3 o) x1
  have z2 : ∀ o : Obj, True := fun _ => trivial
  have HS0 : Hid (CPar W W3.heap.size g W2.heap.size a k1 v1 k2 v2 (W3.alloc (.cells #[.int .i64 k2, .int .i64 v2] 23))) :=
    ⟨y0 _, z0 _, z1 _, by rw [World.cell?_alloc_new]; rfl, by rw [World.cell?_alloc_new]; rfl, T3.out.alloc _, B3.out.alloc B3.out.size _⟩
  have HS1 := Lib.hid (HS0.out.next (.cells #[.string ⟨#[]⟩, .int .i64 0, .int .i64 0, .int .i64 0, .int .i64 0] 25))
  have HS2 := Lib.hid (HS0.out.next (.cells #[.string a, .int .i64 k1, .int .i64 v1, .int .i64 k2, .int .i64 v2] 25))
  clear hb3 hb3' e0 e3 f0 x0 x1 z2
  go_upto_region 6 with (fail)
  go_region_held3 (fun w' => w'.cell? ⟨g, 0, none⟩ = some (.string a) ∧ w'.cell? ⟨W2.heap.size, 0, none⟩ = some (.int .i64 k1) ∧ w'.cell? ⟨W2.heap.size, 1, none⟩ = some (.int .i64 v1) ∧ w'.cell? ⟨W3.heap.size, 0, none⟩ = some (.int .i64 k2) ∧ w'.cell? ⟨W3.heap.size, 1, none⟩ = some (.int .i64 v2) ∧ Five w' W.heap.size (.string ⟨#[]⟩) (.int .i64 0) (.int .i64 0) (.int .i64 0) (.int .i64 0) ∧ Below W.heap.size W w')
    (first | exact HS0.out.drew | exact HS1.out.drew | exact HS2.out.drew)
    (fail)
  rename_i hHeld
  have HF5 : Hid (Five ((W3.alloc (.cells #[.int .i64 k2, .int .i64 v2] 23)).alloc (.cells #[.string a, .int .i64 k1, .int .i64 v1, .int .i64 k2, .int .i64 v2] 25)).drew (W3.heap.size + 1) (.string a) (.int .i64 k1) (.int .i64 v1) (.int .i64 k2) (.int .i64 v2)) := by
    have := (five_new (W3.alloc (.cells #[.int .i64 k2, .int .i64 v2] 23)) (.string a) (.int .i64 k1) (.int .i64 v1) (.int .i64 k2) (.int .i64 v2) 25).drew
    have e : (W3.alloc (.cells #[.int .i64 k2, .int .i64 v2] 23)).heap.size = W3.heap.size + 1 := by simp
    rw [e] at this
    exact this
  have HT5 := Lib.hid HS2.out.drew.2.2.2.2.2.1
  have HB5 := Lib.hid HS2.out.drew.2.2.2.2.2.2
  clear hHeld HS0 HS1 HS2 y0 z0 z1 T3 B3 T1 B1 T2 B2
  generalize ((W3.alloc (.cells #[.int .i64 k2, .int .i64 v2] 23)).alloc (.cells #[.string a, .int .i64 k1, .int .i64 v1, .int .i64 k2, .int .i64 v2] 25)).drew = W5 at HF5 HT5 HB5 ⊢
  generalize W3.heap.size + 1 = n4 at HF5 ⊢
  obtain ⟨c0, c1, c2, c3, c4, -⟩ := HF5.out
  obtain ⟨-, -, -, -, -, f0, f1, f2, f3, f4, -⟩ := HT5.out
  obtain ⟨t0, t1, t2, t3, t4, -⟩ := HT5.out
  cases p1 with
  | false =>
    clear c0 c1 c2 c3 c4
    go_wp2
    rw [HR.out]
    exact cmdpair_ret _ rfl rfl HT5.out HB5.out rfl rfl
  | true =>
    cases p2 with
    | false =>
      clear c0 c1 c2 c3 c4
      go_wp2
      rw [HR.out]
      exact cmdpair_ret _ rfl rfl HT5.out HB5.out rfl rfl
    | true =>
      clear f0 f1 f2 f3 f4 t0 t1 t2 t3 t4
      go_wp2_with fail
      refine (HC.out _).mono ?_
      rintro e W6 ⟨rfl, hb6⟩
      have T6 := Lib.hid (HT5.out.below hb6)
      have F6 := Lib.hid (HF5.out.below hb6)
      have B6 := Lib.hid (below_next HB5.out hb6)
      clear hb6 c0 c1 c2 c3 c4 HT5 HF5 HB5
      obtain ⟨t0, t1, t2, t3, t4, f0, f1, f2, f3, f4, -⟩ := T6.out
      cases vc with
      | false =>
        go_wp2
        rw [HR.out]
        exact cmdpair_ret _ rfl rfl T6.out B6.out rfl rfl
      | true =>
        obtain ⟨c0, c1, c2, c3, c4, -⟩ := F6.out
        go_wp2
        rw [HR.out]
        exact cmdpair_ret _ rfl rfl T6.out B6.out rfl rfl

theorem implCmdParse_c (s : ByteArray) (hs : s.size ≤ 2097152) (W : World) (hE : ParseVars W) : Calls Tryd.prog 5 #[.string s] W (CmdPairPost (parseC s).1 (parseC s).2 W) := by
  rcases pieces_cases s with ⟨h3, hr⟩ | ⟨a, b, r, h3, ha, hb, hc, hr⟩
  · exact implCmdParse_count s hs h3 hr W hE
  · exact implCmdParse_three s hs a b r h3 ha hb hc hr W hE

/-- What the world's shape gives. -/
theorem maxInt_of {W : World} (h : W.ShapedOpen Tryd.prog) : MaxVar W := by
  exact cell_of_shapedOpen_int (P := Tryd.prog) (g := 0) (t := 3) (zero := #[.int .i64 0]) h (of_decide_eq_true (by kernel_rfl)) (by kernel_rfl) rfl (by kernel_rfl) (by kernel_rfl) Tryd.underlying3

end Go.Proofs.YtnmpbocnbcokeabDoor
