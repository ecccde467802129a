/-
  Texts of this proof, one behind the other: Rf, Rc, Rg, Tn, Co, Ia, Ct, Cu, Za.
-/
import Derived.Deep.RegionHeld3
import Derived.Laws.StructEq
import Derived.Deep.QuietTactic
import Derived.Maps.AppendAt
import Derived.OwnWalk
import Derived.Laws.OwnMore
import Derived.Laws.AppendOwnNone
import Derived.Shelf.LaysM
import Derived.Shelf.Strconv.Itoa3
import Derived.Test.YtohdpbalajjjiaaGreatChecked
import Derived.Laws.Concat
import Derived.Laws.BytesString
import Derived.Laws.Cells
import Derived.Deep.RegionWith
import Derived.Test.YtohdpbalajjjiaaGreatQ5
import Derived.Test.YtohdpbalajjjiaaGreatRa
import Derived.Test.YtohdpbalajjjiaaGreatQ11
import Derived.Test.YtohdpbalajjjiaaGreatTl
import Derived.Test.YtohdpbalajjjiaaGreatCv
import Derived.Test.YtohdpbalajjjiaaGreatQ1
/-
  WALKS: conflicts of the model, third part: spec.SafeOf, AgreedOf, LeftOf.
-/
namespace Go.Proofs.YtohdpbalajjjiaaGreat
open Go.RowKit
set_option linter.unusedVariables false

theorem rf_first : (0 : Nat) ≤ 0 := Nat.le_refl 0

theorem pick_in {f : Cmd → Bool} {cs : List Cmd} {n : Nat} {d : Cmd} (h : cs[n]? = some d) (hf : f d = true) : (cs.take (n + 1)).filter f = (cs.take n).filter f ++ [d] := by
  rw [filter_take h, if_pos hf]
theorem pick_out {f : Cmd → Bool} {cs : List Cmd} {n : Nat} {d : Cmd} (h : cs[n]? = some d) (hf : f d = false) : (cs.take (n + 1)).filter f = (cs.take n).filter f := by
  rw [filter_take h, if_neg (by rw [hf]; exact Bool.false_ne_true), List.append_nil]
theorem pickx_end {f : Cmd → Bool} {cs : List Cmd} {n : Nat} {ok : Bool} (h : n = 0 ∨ ok = true) (k : ok = false ∨ cs.length ≤ n) : (if ok = true then cs.filter f else []) = (cs.take n).filter f := by
  cases ok with
  | true =>
    rcases k with k | k
    · cases k
    · rw [if_pos rfl, List.take_of_length_le k]
  | false =>
    rcases h with h | h
    · rw [h]; rfl
    · cases h
theorem pick_len (f : Cmd → Bool) (cs : List Cmd) (n : Nat) : ((cs.take n).filter f).length ≤ n := by
  have h1 := List.length_filter_le f (cs.take n)
  have h2 := List.length_take_le n cs
  omega

/-- A loop that picks commands. -/
def PickRel (ok : Bool) (f : Cmd → Bool) (cs : List Cmd) (W : World) (o k : Value) (wr : World) : Prop :=
  ∃ n : Nat, k = .int .i64 n ∧ n ≤ cs.length ∧ Hid (n = 0 ∨ ok = true) ∧ wr.ownsRow W.heap.size 33 5 o ((cs.take n).filter f).length (flatC ((cs.take n).filter f)) ∧ Hid (Below W.heap.size W wr)

end Go.Proofs.YtohdpbalajjjiaaGreat

/-
  LISTS OF CONFLICTS: flat cells, two for each; append; a list that a test compares.
-/
namespace Go.Proofs.YtohdpbalajjjiaaGreat
open Go.RowKit
set_option linter.unusedVariables false

theorem rc_first : (0 : Nat) ≤ 0 := Nat.le_refl 0

abbrev Pr2 := Nat × Nat
def cells2 (x : Pr2) : List Value := [.int .i64 (x.1 : Nat), .int .i64 (x.2 : Nat)]
def flatX (xs : List Pr2) : List Value := xs.flatMap cells2
theorem flatX_append (a b : List Pr2) : flatX (a ++ b) = flatX a ++ flatX b := by unfold flatX; rw [List.flatMap_append]
theorem flatX_length (xs : List Pr2) : (flatX xs).length = xs.length * 2 := by
  induction xs with
  | nil => rfl
  | cons x r ih =>
    show (cells2 x ++ flatX r).length = _
    rw [List.length_append, ih, List.length_cons]
    show 2 + r.length * 2 = _
    omega
theorem flatX_cell1 (xs : List Pr2) : ∀ u ∈ flatX xs, u.oneCell' = true := by
  intro u hu
  unfold flatX at hu
  obtain ⟨x, _, hx⟩ := List.mem_flatMap.1 hu
  unfold cells2 at hx
  simp at hx
  rcases hx with rfl | rfl <;> rfl
theorem flatX_get : ∀ (xs : List Pr2) (i : Nat) (x : Pr2), xs[i]? = some x → (flatX xs)[i * 2]? = some (.int .i64 (x.1 : Nat)) ∧ (flatX xs)[i * 2 + 1]? = some (.int .i64 (x.2 : Nat))
  | [], i, x, h => by simp at h
  | y :: r, 0, x, h => by
    simp at h
    subst h
    exact ⟨rfl, rfl⟩
  | y :: r, i + 1, x, h => by
    obtain ⟨h1, h2⟩ := flatX_get r i x (by simpa using h)
    have e : flatX (y :: r) = .int .i64 (y.1 : Nat) :: .int .i64 (y.2 : Nat) :: flatX r := rfl
    rw [e, show (i + 1) * 2 = i * 2 + 1 + 1 by omega, show i * 2 + 1 + 1 + 1 = (i * 2 + 1) + 1 + 1 by omega]
    exact ⟨by rw [List.getElem?_cons_succ, List.getElem?_cons_succ]; exact h1, by rw [List.getElem?_cons_succ, List.getElem?_cons_succ]; exact h2⟩

/-- A list of conflicts, wherever it lies. -/
def ClashAt (W : World) (a : Option Addr) (len : Nat) (xs : List Pr2) : Prop :=
  xs.length = len ∧ (len = 0 ∨ ∃ b off, a = some ⟨b, off, none⟩ ∧ ∀ i x, xs[i]? = some x → W.cell? ⟨b, off + i * 2, none⟩ = some (.int .i64 (x.1 : Nat)) ∧ W.cell? ⟨b, off + i * 2 + 1, none⟩ = some (.int .i64 (x.2 : Nat)))
theorem ClashAt.keep {W W' : World} {a : Option Addr} {len : Nat} {xs : List Pr2} (h : ClashAt W a len xs) (hb : Below W.heap.size W W') : ClashAt W' a len xs := by
  obtain ⟨h1, h0 | ⟨b, off, ha, hc⟩⟩ := h
  · exact ⟨h1, .inl h0⟩
  · exact ⟨h1, .inr ⟨b, off, ha, fun i x hx => ⟨cell_kept hb (hc i x hx).1, cell_kept hb (hc i x hx).2⟩⟩⟩
theorem ClashAt.node {W : World} {a : Option Addr} {len : Nat} {xs : List Pr2} (h : ClashAt W a len xs) {i : Nat} (hi : i < len) :
    ∃ b off x, a = some ⟨b, off, none⟩ ∧ xs[i]? = some x ∧ W.cell? ⟨b, off + i * 2, none⟩ = some (.int .i64 (x.1 : Nat)) ∧ W.cell? ⟨b, off + i * 2 + 1, none⟩ = some (.int .i64 (x.2 : Nat)) := by
  obtain ⟨h1, h0 | ⟨b, off, ha, hc⟩⟩ := h
  · omega
  · obtain ⟨x, hx⟩ : ∃ x, xs[i]? = some x := ⟨_, List.getElem?_eq_getElem (by omega)⟩
    exact ⟨b, off, x, ha, hx, hc i x hx⟩
theorem clash_of_own {W : World} {base : Nat} {e : TypeId} {v : Value} {xs : List Pr2} (h : W.ownsRow base e 2 v xs.length (flatX xs)) : ∃ a cap, v = .slice a xs.length cap ∧ ClashAt W a xs.length xs := by
  rcases h.2 with ⟨rfl, h0⟩ | ⟨g, cap, cur, rfl, h1, h2, h3, h4, h5, h6⟩
  · exact ⟨none, 0, by rw [h0], rfl, .inl h0⟩
  · refine ⟨some ⟨g, 0, none⟩, cap, rfl, rfl, .inr ⟨g, 0, rfl, fun i x hx => ?_⟩⟩
    have hi := (List.getElem?_eq_some_iff.1 hx).1
    obtain ⟨f0, f1⟩ := flatX_get xs i x hx
    refine ⟨?_, ?_⟩
    · rw [Nat.zero_add, h.cellAt (i * 2) (by omega)]; exact f0
    · rw [Nat.zero_add, h.cellAt (i * 2 + 1) (by omega)]; exact f1

def ClashPost (xs : List Pr2) (W : World) (e : Ending) (w' : World) : Prop :=
  (∃ sl, e = .returned sl ∧ w'.ownsRow W.heap.size 35 2 sl xs.length (flatX xs)) ∧ Below W.heap.size W w'

theorem infoClash : (Tryz.prog.info? 35).map (fun i => (i.zero, i.size, i.bytes)) = some (some (.agg #[.int .i64 0, .int .i64 0]), 2, 16) := by kernel_rfl

theorem clash_lit (W : World) (x : Pr2) : ∀ j u, (flatX [x])[j]? = some u → (W.alloc (.cells #[.int .i64 (x.1 : Nat), .int .i64 (x.2 : Nat)] 35)).cell? ((⟨W.heap.size, 0, none⟩ : Addr).add j) = some u := by
  intro j u hj
  have e : flatX [x] = [.int .i64 (x.1 : Nat), .int .i64 (x.2 : Nat)] := rfl
  rw [e] at hj
  match j, hj with
  | 0, hj => simp at hj; subst hj; simp [Addr.add]
  | 1, hj => simp at hj; subst hj; simp [Addr.add]

/-- append(out, Clash{A: i, B: k}). -/
theorem wpList_append_clash {w : World} {ops : Array Oper} {rest : List Oper} {o : Oper} {a : Act} {Q : Exit → Act → World → Prop} (hgd : o.guard = none) (s x : Operand)
    (ho : o.op = .call { callee := .builtin .append, args := #[s, x], argTypes := #[27, 27] })
    (base : Nat) (v : Value) (acc : List Pr2) (hs : a.eval s = v) (hown : w.ownsRow base 35 2 v acc.length (flatX acc))
    (ad : Addr) (cap : Nat) (z : Pr2) (hx : a.eval x = .slice (some ad) 1 cap) (hi : ∀ j u, (flatX [z])[j]? = some u → w.cell? (ad.add j) = some u) (hlen : acc.length ≤ 2097152) (hb : base ≤ w.heap.size)
    (h : ∀ v3 w3, w3.ownsRow base 35 2 v3 (acc ++ [z]).length (flatX (acc ++ [z])) → w.grownBy w3 v.ownBlock → wpList Tryz.prog ops Q rest (a.put o.dst v3) w3) : wpList Tryz.prog ops Q (o :: rest) a w := by
  obtain ⟨i0, hi0, hz0, hz1, hz2⟩ := info_parts infoClash
  refine wpList_plain hgd fun K hK => ?_
  exact wp_append_own w s x 27 ho base 35 i0 (.agg #[.int .i64 0, .int .i64 0]) 2 16 Tryz.underlying27 hi0 hz0 hz1 hz2 rfl (by decide) v acc.length (flatX acc) hs hown ad 1 cap (flatX [z]) hx (by rw [flatX_length]; rfl) hi (flatX_cell1 _) (by unfold maxLen; omega) (by omega) hb fun v' w' h1 h2 _ => hK _ _ (h v' w' (by rw [flatX_append, List.length_append]; exact h1) h2)

end Go.Proofs.YtohdpbalajjjiaaGreat

/-
  WALKS: conflicts of the model, fourth part: spec.ClashesOf.
-/
namespace Go.Proofs.YtohdpbalajjjiaaGreat
open Go.RowKit
set_option linter.unusedVariables false

theorem rg_first : (0 : Nat) ≤ 0 := Nat.le_refl 0

theorem clash_end {cs ds : List Cmd} {n : Nat} {ok : Bool} (h : n = 0 ∨ ok = true) (k : ok = false ∨ cs.length ≤ n) : (if ok = true then rowsL ds cs 0 else []) = rowsL ds (cs.take n) 0 := by
  cases ok with
  | true =>
    rcases k with k | k
    · cases k
    · rw [if_pos rfl, List.take_of_length_le k]
  | false =>
    rcases h with h | h
    · rw [h]; rfl
    · cases h
theorem clash_bound {cs ds : List Cmd} {c : Cmd} {n m : Nat} (h1 : cs.length ≤ 1000) (h2 : ds.length ≤ 1000) : (rowsL ds (cs.take n) 0 ++ rowL c n (ds.take m) 0).length ≤ 2097151 := by
  rw [List.length_append]
  have k1 := rowsL_le ds (cs.take n) 0
  have k2 := rowL_le c n (ds.take m) 0
  have k3 : (cs.take n).length ≤ 1000 := by rw [List.length_take]; omega
  have k4 : (ds.take m).length ≤ 1000 := by rw [List.length_take]; omega
  have k5 : (cs.take n).length * ds.length ≤ 1000 * 1000 := Nat.mul_le_mul k3 h2
  omega

theorem ok_len {cs ds : List Cmd} (h : okL cs ds = true) : cs.length ≤ 1000 ∧ ds.length ≤ 1000 := by
  unfold okL at h
  rw [Bool.and_eq_true] at h
  have h1 := ((validL_iff cs).1 (canonV_iff.1 h.1).2.2).2
  have h2 := ((validL_iff ds).1 (canonV_iff.1 h.2).2.2).2
  omega

def ClashOut (ok : Bool) (cs ds : List Cmd) (W : World) (o i : Value) (wr : World) : Prop :=
  ∃ n : Nat, i = .int .i64 n ∧ n ≤ cs.length ∧ Hid (n = 0 ∨ ok = true) ∧ wr.ownsRow W.heap.size 35 2 o (rowsL ds (cs.take n) 0).length (flatX (rowsL ds (cs.take n) 0)) ∧ Hid (Below W.heap.size W wr)
def ClashIn (c : Cmd) (n : Nat) (cs ds : List Cmd) (W : World) (o k : Value) (wr : World) : Prop :=
  ∃ m : Nat, k = .int .i64 m ∧ m ≤ ds.length ∧ wr.ownsRow W.heap.size 35 2 o (rowsL ds (cs.take n) 0 ++ rowL c n (ds.take m) 0).length (flatX (rowsL ds (cs.take n) 0 ++ rowL c n (ds.take m) 0)) ∧ Hid (Below W.heap.size W wr)

set_option maxHeartbeats 4000000 in
set_option maxRecDepth 100000 in
theorem specClashes_c (a1 : Option Addr) (len1 cap1 : Nat) (cs : List Cmd) (a2 : Option Addr) (len2 cap2 : Nat) (ds : List Cmd) (hl1 : len1 ≤ 2000000) (hl2 : len2 ≤ 2000000) (hs1 : ShortC 2097152 cs) (hs2 : ShortC 2097152 ds) (W : World) (h1 : CmdsAt W a1 len1 cs) (h2 : CmdsAt W a2 len2 ds) :
    Calls Tryz.prog 16 #[.slice a1 len1 cap1, .slice a2 len2 cap2] W (ClashPost (clashesL cs ds) W) := by
  obtain ⟨ok, hok⟩ : ∃ x, okL cs ds = x := ⟨_, rfl⟩
  have HOK := Lib.hid (fun w (hb : Below W.heap.size W w) => show Calls Tryz.prog 28 #[.slice a1 len1 cap1, .slice a2 len2 cap2] w (BoolPost ok w) by rw [← hok]; exact specOk_c a1 len1 cap1 cs a2 len2 cap2 ds hl1 hl2 hs1 hs2 w (h1.keep hb) (h2.keep hb))
  have HMU := Lib.hid (fun c d w => specClash_c c d w)
  have HN1 := Lib.hid h1
  have HN2 := Lib.hid h2
  have HE := Lib.hid (show cs.length = len1 ∧ ds.length = len2 from ⟨h1.1, h2.1⟩)
  have HEB := Lib.hid (fun (h : ok = true) => ok_len (hok.trans h))
  have HR := Lib.hid (show clashesL cs ds = if ok = true then rowsL ds cs 0 else [] by unfold clashesL; rw [hok])
  have hl1' : (len1 : Int) ≤ 2000000 := by omega
  have hl2' : (len2 : Int) ≤ 2000000 := by omega
  clear hok h1 h2 hs1 hs2
  go_enter Tryz.func16, Tryz.ntmps16
  go_wp2
  go_loopw [5, 6, 7] (fun o i _ wr => ClashOut ok cs ds W o i wr) (fun _ i _ _ => len1 - (intOf i).toNat)
  case atStart => exact ⟨0, rfl, Nat.zero_le _, .inl rfl, World.ownsRow_lit (e := 35) (size := 2) W #[] 0 (Nat.le_refl _) (by simp [maxLen]) rfl, below_box _ _⟩
  case round =>
    obtain ⟨n, rfl, hn, HZ, hown, HB⟩ := hrel
    have HO := Lib.hid hown
    clear hown
    by_cases hlt : n < len1
    · have hlt' : (n : Int) < len1 := by omega
      have hw1 : IntKind.i64.wrap ((n : Int) + 1) = (n : Int) + 1 := IntWalk.i64_in _ (by omega)
      have HW := Lib.hid hw1
      have HLT := Lib.hid hlt
      obtain ⟨c, hc⟩ : ∃ c, cs[n]? = some c := ⟨_, List.getElem?_eq_getElem (by have := HE.out; omega)⟩
      have HC := Lib.hid hc
      clear hn hlt hc
      go_wp2_with fail
      refine (HOK.out _ HB.out).mono ?_
      rintro e W1 ⟨rfl, hb1⟩
      have HO1 := Lib.hid (own_below HO.out hb1)
      have HB1 := Lib.hid (below_next HB.out hb1)
      clear hb1
      cases ok with
      | false =>
        have HX := Lib.hid (HR.out.trans (clash_end HZ.out (.inl rfl)))
        go_wp2
        go_ret
        rw [HX.out]
        exact ⟨⟨_, rfl, HO1.out⟩, HB1.out⟩
      | true =>
        go_wp2_with fail
        go_loopw [5, 7] (fun o k wr => ClashIn c n cs ds W o k wr) (fun _ k _ => len2 - (intOf k).toNat)
        case atStart => exact ⟨0, rfl, Nat.zero_le _, by have := HO1.out; rwa [List.take_zero, show rowL c n [] 0 = [] from rfl, List.append_nil], HB1⟩
        case round =>
          obtain ⟨m, rfl, hm, hown2, HBI⟩ := hrel
          have HO2 := Lib.hid hown2
          clear hown2
          by_cases hmt : m < len2
          · have hmt' : (m : Int) < len2 := by omega
            have hwm : IntKind.i64.wrap ((m : Int) + 1) = (m : Int) + 1 := IntWalk.i64_in _ (by omega)
            have HMT := Lib.hid hmt
            obtain ⟨b, off, c2, rfl, hc2, d0, d1, d2, d3, d4⟩ := (HN1.out.keep HBI.out).node (i := n) HLT.out
            obtain ⟨b', off', d, rfl, hd, e0, e1, e2, e3, e4⟩ := (HN2.out.keep HBI.out).node (i := m) hmt
            obtain rfl := Option.some.inj (HC.out.symm.trans hc2)
            obtain ⟨mm, hmm⟩ : ∃ mm, clashC c d = mm := ⟨_, rfl⟩
            have HMC := Lib.hid (fun w => show Calls Tryz.prog 29 #[cmdV c, cmdV d] w (BoolPost mm w) by rw [← hmm]; exact HMU.out c d w)
            have HD := Lib.hid (And.intro hd hmm)
            have HXS := Lib.hid (clash_bound (cs := cs) (ds := ds) (c := c) (n := n) (m := m) (HEB.out (by first | rfl | trivial)).1 (HEB.out (by first | rfl | trivial)).2)
            have HRS := Lib.hid (show rowsL ds (cs.take n) 0 ++ rowL c n (ds.take (m + 1)) 0 = (rowsL ds (cs.take n) 0 ++ rowL c n (ds.take m) 0) ++ (if mm = true then [(n, m)] else []) by rw [row_take hd, hmm, List.append_assoc])
            obtain ⟨p, fk, fv, tk, tv⟩ := c
            obtain ⟨q, fk', fv', tk', tv'⟩ := d
            unfold cmdV at HMC
            simp only at d0 d1 d2 d3 d4 e0 e1 e2 e3 e4 HMC
            clear hm hmt hc2 hd hmm
            have HS0 := Lib.hid (show wr.drew.cell? ⟨b, off + n * 5, none⟩ = some (.string p) ∧ wr.drew.cell? ⟨b, off + n * 5 + 1, none⟩ = some (.int .i64 fk) ∧ wr.drew.cell? ⟨b, off + n * 5 + 2, none⟩ = some (.int .i64 fv) ∧ wr.drew.cell? ⟨b, off + n * 5 + 3, none⟩ = some (.int .i64 tk) ∧ wr.drew.cell? ⟨b, off + n * 5 + 4, none⟩ = some (.int .i64 tv) ∧ wr.drew.cell? ⟨b', off' + m * 5, none⟩ = some (.string q) ∧ wr.drew.cell? ⟨b', off' + m * 5 + 1, none⟩ = some (.int .i64 fk') ∧ wr.drew.cell? ⟨b', off' + m * 5 + 2, none⟩ = some (.int .i64 fv') ∧ wr.drew.cell? ⟨b', off' + m * 5 + 3, none⟩ = some (.int .i64 tk') ∧ wr.drew.cell? ⟨b', off' + m * 5 + 4, none⟩ = some (.int .i64 tv') ∧ Below wr.heap.size wr wr.drew from ⟨d0, d1, d2, d3, d4, e0, e1, e2, e3, e4, (Below.refl _ _).drew⟩)
            have HKP := Lib.hid (fun (u1 u2 : World) (h : u1.cell? ⟨b, off + n * 5, none⟩ = some (.string p) ∧ u1.cell? ⟨b, off + n * 5 + 1, none⟩ = some (.int .i64 fk) ∧ u1.cell? ⟨b, off + n * 5 + 2, none⟩ = some (.int .i64 fv) ∧ u1.cell? ⟨b, off + n * 5 + 3, none⟩ = some (.int .i64 tk) ∧ u1.cell? ⟨b, off + n * 5 + 4, none⟩ = some (.int .i64 tv) ∧ u1.cell? ⟨b', off' + m * 5, none⟩ = some (.string q) ∧ u1.cell? ⟨b', off' + m * 5 + 1, none⟩ = some (.int .i64 fk') ∧ u1.cell? ⟨b', off' + m * 5 + 2, none⟩ = some (.int .i64 fv') ∧ u1.cell? ⟨b', off' + m * 5 + 3, none⟩ = some (.int .i64 tk') ∧ u1.cell? ⟨b', off' + m * 5 + 4, none⟩ = some (.int .i64 tv') ∧ Below wr.heap.size wr u1) (hb : Below u1.heap.size u1 u2) => show u2.cell? ⟨b, off + n * 5, none⟩ = some (.string p) ∧ u2.cell? ⟨b, off + n * 5 + 1, none⟩ = some (.int .i64 fk) ∧ u2.cell? ⟨b, off + n * 5 + 2, none⟩ = some (.int .i64 fv) ∧ u2.cell? ⟨b, off + n * 5 + 3, none⟩ = some (.int .i64 tk) ∧ u2.cell? ⟨b, off + n * 5 + 4, none⟩ = some (.int .i64 tv) ∧ u2.cell? ⟨b', off' + m * 5, none⟩ = some (.string q) ∧ u2.cell? ⟨b', off' + m * 5 + 1, none⟩ = some (.int .i64 fk') ∧ u2.cell? ⟨b', off' + m * 5 + 2, none⟩ = some (.int .i64 fv') ∧ u2.cell? ⟨b', off' + m * 5 + 3, none⟩ = some (.int .i64 tk') ∧ u2.cell? ⟨b', off' + m * 5 + 4, none⟩ = some (.int .i64 tv') ∧ Below wr.heap.size wr u2 from ⟨cell_kept hb h.1, cell_kept hb h.2.1, cell_kept hb h.2.2.1, cell_kept hb h.2.2.2.1, cell_kept hb h.2.2.2.2.1, cell_kept hb h.2.2.2.2.2.1, cell_kept hb h.2.2.2.2.2.2.1, cell_kept hb h.2.2.2.2.2.2.2.1, cell_kept hb h.2.2.2.2.2.2.2.2.1, cell_kept hb h.2.2.2.2.2.2.2.2.2.1, below_next h.2.2.2.2.2.2.2.2.2.2 hb⟩)
            clear d0 d1 d2 d3 d4 e0 e1 e2 e3 e4
            go_upto_region 7 with (fail)
            go_region_held3 (fun w' => w'.cell? ⟨b, off + n * 5, none⟩ = some (.string p) ∧ w'.cell? ⟨b, off + n * 5 + 1, none⟩ = some (.int .i64 fk) ∧ w'.cell? ⟨b, off + n * 5 + 2, none⟩ = some (.int .i64 fv) ∧ w'.cell? ⟨b, off + n * 5 + 3, none⟩ = some (.int .i64 tk) ∧ w'.cell? ⟨b, off + n * 5 + 4, none⟩ = some (.int .i64 tv) ∧ w'.cell? ⟨b', off' + m * 5, none⟩ = some (.string q) ∧ w'.cell? ⟨b', off' + m * 5 + 1, none⟩ = some (.int .i64 fk') ∧ w'.cell? ⟨b', off' + m * 5 + 2, none⟩ = some (.int .i64 fv') ∧ w'.cell? ⟨b', off' + m * 5 + 3, none⟩ = some (.int .i64 tk') ∧ w'.cell? ⟨b', off' + m * 5 + 4, none⟩ = some (.int .i64 tv') ∧ Below wr.heap.size wr w')
              (first | exact HS0.out | exact HKP.out _ _ HS0.out hb7)
              (first | (go_at_call 29; (with_reducible refine (HMC.out _).mono ?_); rintro e W7 ⟨rfl, hb7⟩))
            rename_i hS
            have HO7 := Lib.hid (own_below HO2.out hS.2.2.2.2.2.2.2.2.2.2)
            have HB7 := Lib.hid (below_next HBI.out hS.2.2.2.2.2.2.2.2.2.2)
            clear hS
            cases mm with
            | true =>
              go_wp2_with (at_builtin; refine wpList_append_clash rfl _ _ rfl W.heap.size _ _ rfl (HO7.out.alloc _) _ _ (n, m) rfl (clash_lit _ (n, m)) (by have := HXS.out; omega) (by have := HB7.out.size; simp; omega) ?_; intro v4 w4 ho4 hg4; have HB9 := Lib.hid ((HB7.out.alloc HB7.out.size _).grown hg4 (by have := HB7.out.size; simp; omega) (fun k e => (HO7.out.lt k e).1)); clear hg4)
              go_roundw
              case rel => exact ⟨m + 1, by go_num, by have := HMT.out; have := HE.out; omega, by rw [HRS.out, if_pos rfl]; exact ho4, HB9⟩
              case measure => have := HMT.out; simp [intOf]; omega
            | false =>
              have HRS2 := Lib.hid (HRS.out.trans (by rw [if_neg Bool.false_ne_true, List.append_nil]))
              go_wp2
              go_roundw
              case rel => exact ⟨m + 1, by go_num, by have := HMT.out; have := HE.out; omega, by rw [HRS2.out]; exact HO7.out, HB7⟩
              case measure => have := HMT.out; simp [intOf]; omega
          · have hge : (len2 : Int) ≤ m := by omega
            have HL := Lib.hid (show rowsL ds (cs.take (n + 1)) 0 = rowsL ds (cs.take n) 0 ++ rowL c n (ds.take m) 0 by rw [rows_take HC.out, show ds.take m = ds from List.take_of_length_le (by have := HE.out; omega)])
            clear hm hmt
            have hw1 := HW.out
            go_wp2
            go_roundw
            case rel => exact ⟨n + 1, by go_num, by have := HLT.out; have := HE.out; omega, .inr rfl, by rw [HL.out]; exact HO2.out, HBI⟩
            case measure => have := HLT.out; simp [intOf]; omega
    · have hge : (len1 : Int) ≤ n := by omega
      have HX := Lib.hid (HR.out.trans (clash_end HZ.out (.inr (by have := HE.out; omega))))
      clear hn hlt
      go_wp2
      go_ret
      rw [HX.out]
      exact ⟨⟨_, rfl, HO.out⟩, HB.out⟩

end Go.Proofs.YtohdpbalajjjiaaGreat

/-
  WALKS: spec.TreeUnder.
-/
namespace Go.Proofs.YtohdpbalajjjiaaGreat
open Go.RowKit
set_option linter.unusedVariables false

/-- A list of texts that the call has made, and nothing that was there has turned. -/
def TextsPost (xs : List ByteArray) (W : World) (e : Ending) (w' : World) : Prop :=
  (∃ sl, e = .returned sl ∧ w'.ownsRow W.heap.size 9 1 sl xs.length (xs.map Value.string)) ∧ Below W.heap.size W w'

def undAcc (ns : List Nd) (p : ByteArray) (i : Nat) : List ByteArray := ((ns.take i).filter (fun n => undB p n.p)).map Nd.p

theorem undAcc_yes {ns : List Nd} {p : ByteArray} {i : Nat} {n : Nd} (hn : ns[i]? = some n) (h : undB p n.p = true) : undAcc ns p (i + 1) = undAcc ns p i ++ [n.p] := by
  unfold undAcc
  rw [List.take_add_one, hn]
  simp [List.filter_append, h]

theorem undAcc_no {ns : List Nd} {p : ByteArray} {i : Nat} {n : Nd} (hn : ns[i]? = some n) (h : undB p n.p = false) : undAcc ns p (i + 1) = undAcc ns p i := by
  unfold undAcc
  rw [List.take_add_one, hn]
  simp [List.filter_append, h]

theorem undAcc_len (ns : List Nd) (p : ByteArray) (i : Nat) : (undAcc ns p i).length ≤ i := by
  unfold undAcc
  rw [List.length_map]
  exact Nat.le_trans (List.length_filter_le _ _) (by rw [List.length_take]; omega)

def UnderRel (ns : List Nd) (p : ByteArray) (W : World) (o i : Value) (wr : World) : Prop :=
  ∃ n : Nat, i = .int .i64 n ∧ n ≤ ns.length ∧ wr.ownsRow W.heap.size 9 1 o (undAcc ns p n).length ((undAcc ns p n).map Value.string) ∧ Hid (Below W.heap.size W wr)

theorem under_none {ns : List Nd} {p : ByteArray} (h : (validT ns && vpB p) = false) : treeUnder ns p = [] := by unfold treeUnder; rw [h]; rfl

end Go.Proofs.YtohdpbalajjjiaaGreat

/-
  WALKS: contents: impl.contentOf, impl.ContentValid.
-/
namespace Go.Proofs.YtohdpbalajjjiaaGreat
open Go.RowKit
set_option linter.unusedVariables false

/-- What a content stands for, and whether it is one. -/
def conOf (k v : Int) : Value × Bool :=
  if k = 0 ∧ v = 0 then (.iface 94 (.agg #[]), true)
  else if k = 1 ∧ v = 0 then (.iface 95 (.agg #[]), true)
  else if k = 2 ∧ 0 ≤ v ∧ v ≤ 99 then (.iface 97 (.agg #[.int .i64 v]), true)
  else (.nilIface, false)

theorem conOf_valid (k v : Int) : (conOf k v).2 = validB k v := by
  unfold conOf validB
  split
  · rename_i h; simp [h]
  · split
    · rename_i h; simp [h]
    · split
      · rename_i h; simp [h]
      · rename_i h1 h2 h3
        symm
        apply decide_eq_false
        rintro (⟨h, h4 | h4⟩ | h)
        · exact h1 ⟨h4, h⟩
        · exact h2 ⟨h4, h⟩
        · exact h3 h

def ConPost (k v : Int) (w : World) (e : Ending) (w' : World) : Prop :=
  e = .returned (.tuple #[(conOf k v).1, .bool (conOf k v).2]) ∧ Below w.heap.size w w'

theorem con_post (k v : Int) (w : World) (r : Value × Bool) (h : conOf k v = r) (t : TypeId) : ConPost k v w (.returned (.tuple #[r.1, .bool r.2])) (w.alloc (.cells #[.int .i64 k, .int .i64 v] t)) := by
  subst h; exact ⟨rfl, below_box _ _⟩

set_option maxHeartbeats 400000 in
set_option maxRecDepth 100000 in
theorem contentOf_c (k v : Int) (w : World) : Calls Tryz.prog 37 #[con k v] w (ConPost k v w) := by
  unfold con
  by_cases h0 : k = 0
  · subst h0
    by_cases hv : v = 0
    · subst hv
      go_enter Tryz.func37, Tryz.ntmps37
      go_wp2
      go_ret2
      exact con_post _ _ _ (_, _) rfl _
    · have H := Lib.hid (show conOf 0 v = (.nilIface, false) by unfold conOf; simp [hv])
      go_enter Tryz.func37, Tryz.ntmps37
      go_wp2
      go_ret2
      exact con_post _ _ _ (_, _) H.out _
  · by_cases h1 : k = 1
    · subst h1
      clear h0
      by_cases hv : v = 0
      · subst hv
        go_enter Tryz.func37, Tryz.ntmps37
        go_wp2
        go_ret2
        exact con_post _ _ _ (_, _) rfl _
      · have H := Lib.hid (show conOf 1 v = (.nilIface, false) by unfold conOf; simp [hv])
        go_enter Tryz.func37, Tryz.ntmps37
        go_wp2
        go_ret2
        exact con_post _ _ _ (_, _) H.out _
    · by_cases h2 : k = 2
      · subst h2
        clear h0 h1
        by_cases hv : 0 ≤ v
        · by_cases hw : v ≤ 99
          · have H := Lib.hid (show conOf 2 v = (.iface 97 (.agg #[.int .i64 v]), true) by unfold conOf; simp [hv, hw])
            go_enter Tryz.func37, Tryz.ntmps37
            go_wp2
            go_ret2
            exact con_post _ _ _ (_, _) H.out _
          · have H := Lib.hid (show conOf 2 v = (.nilIface, false) by unfold conOf; simp [hw])
            have hw' : 99 < v := by omega
            clear hw
            go_enter Tryz.func37, Tryz.ntmps37
            go_wp2
            go_ret2
            exact con_post _ _ _ (_, _) H.out _
        · have H := Lib.hid (show conOf 2 v = (.nilIface, false) by unfold conOf; simp [hv])
          have hv' : v < 0 := by omega
          clear hv
          go_enter Tryz.func37, Tryz.ntmps37
          go_wp2
          go_ret2
          exact con_post _ _ _ (_, _) H.out _
      · have H := Lib.hid (show conOf k v = (.nilIface, false) by unfold conOf; simp [h0, h1, h2])
        go_enter Tryz.func37, Tryz.ntmps37
        go_wp2
        go_ret2
        exact con_post _ _ _ (_, _) H.out _

set_option maxHeartbeats 400000 in
set_option maxRecDepth 100000 in
theorem implValid_c (k v : Int) (w : World) : Calls Tryz.prog 36 #[con k v] w (BoolPost (validB k v) w) := by
  have H := Lib.hid (fun w => contentOf_c k v w)
  have HV := Lib.hid (conOf_valid k v)
  unfold con at H ⊢
  go_enter Tryz.func36, Tryz.ntmps36
  go_wp2_with fail
  refine (H.out _).mono ?_
  rintro e W1 ⟨rfl, hb⟩
  rw [HV.out]
  go_wp2
  go_ret
  exact ⟨rfl, below_next (below_box _ _) hb⟩

end Go.Proofs.YtohdpbalajjjiaaGreat

/-
  strconv.Itoa of a number below 100, by the library's contract, at this program's numbers.
-/
namespace Go.Proofs.YtohdpbalajjjiaaGreat
open Go.Shelf
def Ia.lays171_ren : Go.Shelf.Ren := ⟨fun | 171 => 128 | 243 => 129 | 246 => 130 | 283 => 131 | 284 => 132 | 285 => 133 | 286 => 134 | 129 => 136 | 317 => 135 | 318 => 137 | 319 => 138 | 320 => 139 | 337 => 140 | 338 => 141 | n => n, fun | 3 => 3 | 9 => 9 | 2 => 2 | 4 => 4 | 171 => 170 | 0 => 0 | 53 => 171 | 37 => 22 | 5 => 5 | 173 => 174 | 212 => 177 | 51 => 154 | 20 => 20 | 213 => 178 | 46 => 153 | 232 => 182 | 233 => 183 | n => n, fun | 17 => 1 | 18 => 2 | 19 => 3 | n => n⟩
theorem Ia.lays171 : Go.Proofs.Lays.n171 Tryz.prog Ia.lays171_ren := {
  mixed := by kernel_rfl
  f129 := Tryz.func136.trans (congrArg some (by kernel_rfl))
  f171 := Tryz.func128.trans (congrArg some (by kernel_rfl))
  f243 := Tryz.func129.trans (congrArg some (by kernel_rfl))
  f246 := Tryz.func130.trans (congrArg some (by kernel_rfl))
  f283 := Tryz.func131.trans (congrArg some (by kernel_rfl))
  f284 := Tryz.func132.trans (congrArg some (by kernel_rfl))
  f285 := Tryz.func133.trans (congrArg some (by kernel_rfl))
  f286 := Tryz.func134.trans (congrArg some (by kernel_rfl))
  f317 := Tryz.func135.trans (congrArg some (by kernel_rfl))
  f318 := Tryz.func137.trans (congrArg some (by kernel_rfl))
  f319 := Tryz.func138.trans (congrArg some (by kernel_rfl))
  f320 := Tryz.func139.trans (congrArg some (by kernel_rfl))
  f337 := Tryz.func140.trans (congrArg some (by kernel_rfl))
  f338 := Tryz.func141.trans (congrArg some (by kernel_rfl))
  t0 := Tryz.underlying0
  a0 := Tryz.isAgg0
  z0 := Tryz.sizeOf0
  v0 := Tryz.zeroValue0
  t2 := Tryz.underlying2
  a2 := Tryz.isAgg2
  z2 := Tryz.sizeOf2
  v2 := Tryz.zeroValue2
  t3 := Tryz.underlying3
  a3 := Tryz.isAgg3
  z3 := Tryz.sizeOf3
  v3 := Tryz.zeroValue3
  t4 := Tryz.underlying4
  a4 := Tryz.isAgg4
  z4 := Tryz.sizeOf4
  v4 := Tryz.zeroValue4
  t5 := Tryz.underlying5
  a5 := Tryz.isAgg5
  z5 := Tryz.sizeOf5
  v5 := Tryz.zeroValue5
  t9 := Tryz.underlying9
  a9 := Tryz.isAgg9
  z9 := Tryz.sizeOf9
  v9 := Tryz.zeroValue9
  t20 := Tryz.underlying20
  a20 := Tryz.isAgg20
  z20 := Tryz.sizeOf20
  v20 := Tryz.zeroValue20
  t37 := Tryz.underlying22
  a37 := Tryz.isAgg22
  z37 := Tryz.sizeOf22
  v37 := Tryz.zeroValue22
  t46 := Tryz.underlying153
  a46 := Tryz.isAgg153
  z46 := Tryz.sizeOf153
  v46 := Tryz.zeroValue153
  t51 := Tryz.underlying154
  a51 := Tryz.isAgg154
  z51 := Tryz.sizeOf154
  v51 := Tryz.zeroValue154
  t53 := Tryz.underlying171
  a53 := Tryz.isAgg171
  z53 := Tryz.sizeOf171
  v53 := Tryz.zeroValue171
  t171 := Tryz.underlying170
  a171 := Tryz.isAgg170
  z171 := Tryz.sizeOf170
  v171 := Tryz.zeroValue170
  t173 := Tryz.underlying174
  a173 := Tryz.isAgg174
  z173 := Tryz.sizeOf174
  v173 := Tryz.zeroValue174
  t212 := Tryz.underlying177
  a212 := Tryz.isAgg177
  z212 := Tryz.sizeOf177
  v212 := Tryz.zeroValue177
  t213 := Tryz.underlying178
  a213 := Tryz.isAgg178
  z213 := Tryz.sizeOf178
  t232 := Tryz.underlying182
  a232 := Tryz.isAgg182
  z232 := Tryz.sizeOf182
  v232 := Tryz.zeroValue182
  t233 := Tryz.underlying183
  a233 := Tryz.isAgg183
  z233 := Tryz.sizeOf183
  v233 := Tryz.zeroValue183
  g17 := by kernel_rfl
  g18 := by kernel_rfl
  g19 := by kernel_rfl }

theorem itoa_c (i : Nat) (hi : i < 100) (w : World) :
    Calls Tryz.prog 128 #[.int .i64 i] w fun e w' => e = .returned (.string ⟨(Lib.decDigits i).toArray⟩) ∧ w' = w := Any.strconv_Itoa_small Ia.lays171 i hi w
end Go.Proofs.YtohdpbalajjjiaaGreat

/-
  WALKS: the texts of contents: impl.ContentText, spec.l6Dec, spec.ContentText.
-/
namespace Go.Proofs.YtohdpbalajjjiaaGreat
open Go.RowKit
set_option linter.unusedVariables false

/-- The decimal of a number. -/
def decB (n : Nat) : ByteArray := ⟨(Lib.decDigits n).toArray⟩

theorem decB_small (n : Nat) (h : n < 10) : decB n = ⟨#[UInt8.ofNat (48 + n)]⟩ := by unfold decB; rw [Lib.decDigits_one h]
theorem decB_more (n : Nat) (h : ¬ n < 10) : decB n = decB (n / 10) ++ ⟨#[UInt8.ofNat (48 + n % 10)]⟩ := by
  unfold decB
  conv => lhs; rw [Lib.decDigits]
  rw [dif_neg h]
  apply ByteArray.ext
  simp [ByteArray.data_append]

theorem conv1 (W : World) (g : Nat) (x : Int) (h : W.cell? ⟨g, 0, none⟩ = some (.int .u8 x)) :
    (convert 22 9 (.slice (some ⟨g, 0, none⟩) 1 1)).run Tryz.prog W = .ok (.string ⟨#[UInt8.ofNat x.toNat]⟩) W := by
  rw [run_convert_bytes_string (e := 5) W _ _ _ _ _ Tryz.underlying22 Tryz.underlying5 Tryz.underlying9]
  refine (run_bytesToString W ⟨g, 0, none⟩ 1 1 [x] ?_).trans ?_
  · have hl := run_loadCells_list (P := Tryz.prog) (w := W) ⟨g, 0, none⟩ [.int .u8 x] (by
      intro j v hj
      match j, hj with
      | 0, hj => simp at hj; subst hj; simpa [Addr.add] using h)
    simpa using hl
  · rfl

theorem convN (W : World) (x : Int) (t : TypeId) :
    (convert 22 9 (.slice (some ⟨W.heap.size, 0, none⟩) 1 1)).run Tryz.prog (W.alloc (.cells #[.int .u8 x] t)) = .ok (.string ⟨#[UInt8.ofNat x.toNat]⟩) (W.alloc (.cells #[.int .u8 x] t)) :=
  conv1 _ _ _ (by rw [World.cell?_alloc_new]; rfl)

def decCell (n : Nat) : Obj := .cells #[.int .u8 (48 + (n : Int))] 5

set_option maxHeartbeats 400000 in
theorem l6Dec_small (n : Nat) (hn : n < 10) (w : World) : Calls Tryz.prog 51 #[.int .i64 n] w fun e w' => e = .returned (.string (decB n)) ∧ w' = w.alloc (decCell n) := by
  have hn' : (n : Int) < 10 := by omega
  have HC := fun W => convN W (48 + n) 5
  go_enter Tryz.func51, Tryz.ntmps51
  go_wp2
  go_ret
  rw [decB_small n hn]
  exact ⟨rfl, rfl⟩

def DecPost (n : Nat) (w : World) (e : Ending) (w' : World) : Prop := e = .returned (.string (decB n)) ∧ Below w.heap.size w w'

theorem dec_end {n : Nat} {s : ByteArray} {w w' : World} (h : decB n = s) (k : Below w.heap.size w w') : DecPost n w (.returned (.string s)) w' := ⟨by rw [h], k⟩

theorem below_two (w : World) (o1 o2 : Obj) : Below w.heap.size w ((w.drew.alloc o1).alloc o2) :=
  ((Below.refl w.heap.size w).drew.alloc (Nat.le_refl _) o1).alloc (by simp) o2

set_option maxHeartbeats 400000 in
set_option maxRecDepth 100000 in
theorem l6Dec_two (n : Nat) (hn : 10 ≤ n) (hn2 : n < 100) (w : World) : Calls Tryz.prog 51 #[.int .i64 n] w (DecPost n w) := by
  obtain ⟨a, b, rfl, ha, hb, ha1⟩ : ∃ a b, n = a * 10 + b ∧ a < 10 ∧ b < 10 ∧ 1 ≤ a := ⟨n / 10, n % 10, by omega, by omega, by omega, by omega⟩
  have q : IntKind.i64.wrap (((a * 10 + b : Nat) : Int).tdiv 10) = (a : Int) := by
    rw [Int.tdiv_eq_ediv_of_nonneg (by omega), IntWalk.i64_in _ (by omega)]; omega
  have r : ((a * 10 + b : Nat) : Int).tmod 10 = (b : Int) := by
    rw [Int.tmod_eq_emod_of_nonneg (by omega)]; omega
  have HI := Lib.hid (fun w => l6Dec_small a ha w)
  obtain ⟨dg, hdg, hdg1⟩ : ∃ dg : ByteArray, dg = ⟨#[UInt8.ofNat (48 + b)]⟩ ∧ dg.size ≤ 1 := ⟨_, rfl, Nat.le_refl _⟩
  have HC : ∀ W g, W.cell? ⟨g, 0, none⟩ = some (.int .u8 (48 + (b : Int))) → (convert 22 9 (.slice (some ⟨g, 0, none⟩) 1 1)).run Tryz.prog W = .ok (.string dg) W := by
    intro W g h
    rw [hdg]; exact conv1 W g (48 + b) h
  have hsa : (decB a).size ≤ 1 := by rw [decB_small a ha]; exact Nat.le_refl _
  have hn' : (10 : Int) ≤ ((a * 10 + b : Nat) : Int) := by omega
  have w1 : IntKind.i64.wrap (48 + (b : Int)) = 48 + (b : Int) := IntWalk.i64_in _ (by omega)
  have w2 : IntKind.u8.wrap (48 + (b : Int)) = 48 + (b : Int) := by show (48 + (b : Int)) % 256 = _; omega
  have HD := Lib.hid (show decB (a * 10 + b) = decB a ++ dg by rw [hdg, decB_more _ (by omega), show (a * 10 + b) / 10 = a by omega, show (a * 10 + b) % 10 = b by omega])
  clear hn hn2 ha hb ha1 hdg
  generalize ((a * 10 + b : Nat) : Int) = m at *
  go_enter Tryz.func51, Tryz.ntmps51
  go_wp2
  go_region_with (go_at_call 51; refine (HI.out _).mono ?_; rintro e W2 ⟨rfl, rfl⟩; unfold decCell)
  all_goals (go_wp2; go_ret; exact dec_end HD.out (below_two _ _ _))

/-- spec.l6Dec below a hundred. -/
theorem l6Dec_c (n : Nat) (hn : n < 100) (w : World) : Calls Tryz.prog 51 #[.int .i64 n] w (DecPost n w) := by
  by_cases h : n < 10
  · refine (l6Dec_small n h w).mono ?_
    rintro e W1 ⟨rfl, rfl⟩
    exact ⟨rfl, below_box _ _⟩
  · exact l6Dec_two n (by omega) hn w

theorem decB_size (n : Nat) (hn : n < 100) : (decB n).size ≤ 2 := by
  unfold decB
  rw [Lib.size_eq]
  show (Lib.decDigits n).length ≤ 2
  by_cases h : n < 10
  · rw [Lib.decDigits_one h]; simp
  · rw [Lib.decDigits_two h hn]; simp

/-- A text, and nothing that was there has turned. -/
def TextPost (s : ByteArray) (w : World) (e : Ending) (w' : World) : Prop := e = .returned (.string s) ∧ Below w.heap.size w w'

/-- The text of a content; empty if it is none. -/
def conText (k v : Int) : ByteArray :=
  if validB k v = true then (if k = 0 then ⟨#[45]⟩ else if k = 1 then ⟨#[100]⟩ else ⟨#[102]⟩ ++ decB v.toNat) else ⟨#[]⟩

theorem text_end {s t : ByteArray} {w w' : World} (h : t = s) (k : Below w.heap.size w w') : TextPost s w (.returned (.string t)) w' := ⟨by rw [h], k⟩

set_option maxHeartbeats 400000 in
theorem fileText_c (n : Nat) (hn : n < 100) (w : World) : Calls Tryz.prog 127 #[.agg #[.int .i64 n]] w (TextPost (⟨#[102]⟩ ++ decB n) w) := by
  have HI := Lib.hid (fun w => itoa_c n hn w)
  obtain ⟨s, hs, hl⟩ : ∃ s, s = decB n ∧ s.size ≤ 3 := ⟨_, rfl, by have := decB_size n hn; omega⟩
  have HS := Lib.hid hs
  have HI2 : Hid (∀ w, Calls Tryz.prog 128 #[.int .i64 n] w fun e w' => e = .returned (.string s) ∧ w' = w) := by rw [hs]; exact HI
  clear HI hn hs
  go_enter Tryz.func127, Tryz.ntmps127
  go_wp2_with fail
  refine (HI2.out _).mono ?_
  rintro e W2 ⟨rfl, rfl⟩
  go_wp2
  go_ret
  exact text_end (by rw [HS.out]) (below_box _ _)

theorem method_nothing (W : World) : (method 284 94 (.agg #[]) "loop.example/filereconciler/impl.text").run Tryz.prog W = .ok (125, .agg #[]) W := by kernel_rfl
theorem method_directory (W : World) : (method 284 95 (.agg #[]) "loop.example/filereconciler/impl.text").run Tryz.prog W = .ok (126, .agg #[]) W := by kernel_rfl
theorem method_file (v : Int) (W : World) : (method 284 97 (.agg #[.int .i64 v]) "loop.example/filereconciler/impl.text").run Tryz.prog W = .ok (127, .agg #[.int .i64 v]) W := by kernel_rfl

theorem conText_bad {k v : Int} (h : validB k v = false) : (⟨#[]⟩ : ByteArray) = conText k v := by unfold conText; rw [h]; rfl

set_option maxHeartbeats 400000 in
theorem implText_c (k v : Int) (w : World) : Calls Tryz.prog 21 #[con k v] w (TextPost (conText k v) w) := by
  have HC := Lib.hid (fun w => contentOf_c k v w)
  have HF := Lib.hid (fun n hn w => fileText_c n hn w)
  have HV := conOf_valid k v
  unfold con at HC ⊢
  by_cases h0 : k = 0 ∧ v = 0
  · obtain ⟨rfl, rfl⟩ := h0
    have M := Lib.hid (fun W => method_nothing W)
    clear HV
    go_enter Tryz.func21, Tryz.ntmps21
    go_wp2_with fail
    refine (HC.out _).mono ?_
    rintro e W2 ⟨rfl, hb2⟩
    rw [show conOf 0 0 = (.iface 94 (.agg #[]), true) from rfl]
    have m := M.out
    go_wp2
    go_ret
    exact text_end rfl (below_next (below_box _ _) (hb2.alloc hb2.size _))
  · by_cases h1 : k = 1 ∧ v = 0
    · obtain ⟨rfl, rfl⟩ := h1
      have M := Lib.hid (fun W => method_directory W)
      clear HV h0
      go_enter Tryz.func21, Tryz.ntmps21
      go_wp2_with fail
      refine (HC.out _).mono ?_
      rintro e W2 ⟨rfl, hb2⟩
      rw [show conOf 1 0 = (.iface 95 (.agg #[]), true) from rfl]
      have m := M.out
      go_wp2
      go_ret
      exact text_end rfl (below_next (below_box _ _) (hb2.alloc hb2.size _))
    · by_cases h2 : k = 2 ∧ 0 ≤ v ∧ v ≤ 99
      · obtain ⟨rfl, hv0, hv9⟩ := h2
        obtain ⟨n, rfl⟩ := Int.eq_ofNat_of_zero_le hv0
        have M := Lib.hid (fun W => method_file n W)
        have HT := Lib.hid (HF.out n (by omega))
        have HX := Lib.hid (show (⟨#[102]⟩ : ByteArray) ++ decB n = conText 2 n by
          have : validB 2 (n : Int) = true := by unfold validB; simp; omega
          unfold conText; rw [this]; rfl)
        have HO := Lib.hid (show conOf 2 (n : Int) = (.iface 97 (.agg #[.int .i64 n]), true) by unfold conOf; simp; omega)
        clear HV h0 h1 hv0 hv9
        go_enter Tryz.func21, Tryz.ntmps21
        go_wp2_with fail
        refine (HC.out _).mono ?_
        rintro e W2 ⟨rfl, hb2⟩
        rw [HO.out]
        have m := M.out
        go_wp2_with fail
        refine (HT.out _).mono ?_
        rintro e W3 ⟨rfl, hb3⟩
        rw [HX.out]
        clear m
        go_wp2
        go_ret
        exact text_end rfl (below_next (below_box _ _) (below_next hb2 hb3))
      · have HX := Lib.hid (conText_bad (k := k) (v := v) (by unfold validB; simp; omega))
        have HO := Lib.hid (show conOf k v = (.nilIface, false) by unfold conOf; rw [if_neg h0, if_neg h1, if_neg h2])
        clear HV h0 h1 h2
        go_enter Tryz.func21, Tryz.ntmps21
        go_wp2_with fail
        refine (HC.out _).mono ?_
        rintro e W2 ⟨rfl, hb2⟩
        rw [HO.out]
        go_wp2
        go_ret
        exact text_end HX.out (below_next (below_box _ _) hb2)

set_option maxHeartbeats 400000 in
theorem specText_c (k v : Int) (w : World) : Calls Tryz.prog 31 #[con k v] w (TextPost (conText k v) w) := by
  have HC := Lib.hid (fun w => specConValid_c k v w)
  have HF := Lib.hid (fun n hn w => l6Dec_c n hn w)
  unfold con at HC ⊢
  by_cases hv : validB k v = true
  · by_cases h0 : k = 0
    · subst h0
      have HX := Lib.hid (show (⟨#[45]⟩ : ByteArray) = conText 0 v by unfold conText; rw [hv]; rfl)
      rw [hv] at HC
      clear hv
      go_enter Tryz.func31, Tryz.ntmps31
      go_wp2_with fail
      refine (HC.out _).mono ?_
      rintro e W2 ⟨rfl, hb2⟩
      have c0 : W2.cell? ⟨w.heap.size, 0, none⟩ = some (.int .i64 0) := (hb2.cell (by simp)).trans (by rw [World.cell?_alloc_new]; rfl)
      go_wp2
      go_ret
      exact text_end HX.out (below_next (below_box _ _) hb2)
    · by_cases h1 : k = 1
      · subst h1
        have HX := Lib.hid (show (⟨#[100]⟩ : ByteArray) = conText 1 v by unfold conText; rw [hv]; rfl)
        rw [hv] at HC
        clear hv h0
        go_enter Tryz.func31, Tryz.ntmps31
        go_wp2_with fail
        refine (HC.out _).mono ?_
        rintro e W2 ⟨rfl, hb2⟩
        have c0 : W2.cell? ⟨w.heap.size, 0, none⟩ = some (.int .i64 1) := (hb2.cell (by simp)).trans (by rw [World.cell?_alloc_new]; rfl)
        go_wp2
        go_ret
        exact text_end HX.out (below_next (below_box _ _) hb2)
      · obtain ⟨rfl, n, rfl, hn⟩ : k = 2 ∧ ∃ n : Nat, v = n ∧ n < 100 := by
          have hv' := hv
          unfold validB at hv'
          simp [h0, h1] at hv'
          exact ⟨hv'.1, v.toNat, by omega, by omega⟩
        have HX := Lib.hid (show (⟨#[102]⟩ : ByteArray) ++ decB n = conText 2 n by unfold conText; rw [hv]; rfl)
        rw [hv] at HC
        obtain ⟨s, hs, hl⟩ : ∃ s, s = decB n ∧ s.size ≤ 3 := ⟨_, rfl, by have := decB_size n hn; omega⟩
        have HT := HF.out n hn
        unfold DecPost at HT
        rw [← hs] at HT HX
        have HT := Lib.hid HT
        clear hv h0 h1 HF hn hs
        go_enter Tryz.func31, Tryz.ntmps31
        go_wp2_with fail
        refine (HC.out _).mono ?_
        rintro e W2 ⟨rfl, hb2⟩
        have c0 : W2.cell? ⟨w.heap.size, 0, none⟩ = some (.int .i64 2) := (hb2.cell (by simp)).trans (by rw [World.cell?_alloc_new]; rfl)
        have c1 : W2.cell? ⟨w.heap.size, 1, none⟩ = some (.int .i64 n) := (hb2.cell (by simp)).trans (by rw [World.cell?_alloc_new]; rfl)
        go_wp2_with fail
        refine (HT.out _).mono ?_
        rintro e W3 ⟨rfl, hb3⟩
        clear c0 c1
        go_wp2
        go_ret
        exact text_end HX.out (below_next (below_box _ _) (below_next hb2 hb3))
  · have hv' : validB k v = false := by simpa using hv
    have HX := Lib.hid (conText_bad hv')
    rw [hv'] at HC
    clear hv hv'
    go_enter Tryz.func31, Tryz.ntmps31
    go_wp2_with fail
    refine (HC.out _).mono ?_
    rintro e W2 ⟨rfl, hb2⟩
    go_wp2
    go_ret
    exact text_end HX.out (below_next (below_box _ _) hb2)

theorem conText_empty (k v : Int) : (conText k v).toList.isEmpty = !validB k v := by
  unfold conText
  split
  · rename_i h
    rw [h]
    split
    · rw [Lib.toList_data]; rfl
    · split
      · rw [Lib.toList_data]; rfl
      · rw [Lib.toList_data, ByteArray.data_append]; simp
  · rename_i h
    have : validB k v = false := by simpa using h
    rw [this, Lib.toList_data]; rfl

end Go.Proofs.YtohdpbalajjjiaaGreat

/-
  TEXTS OF COMMANDS; WALK: spec.CommandText.
-/
namespace Go.Proofs.YtohdpbalajjjiaaGreat
open Go.RowKit
set_option linter.unusedVariables false

def blB : ByteArray := ⟨#[32]⟩

/-- spec.CommandText. -/
def textC (c : Cmd) : ByteArray := if validC c = true then c.p ++ blB ++ conText c.fk c.fv ++ blB ++ conText c.tk c.tv else ⟨#[]⟩

theorem conSize_le (k v : Int) : (conText k v).size ≤ 3 := by
  unfold conText
  split
  · rename_i h
    split
    · decide
    · split
      · decide
      · rename_i h0 h1
        have h' := h
        unfold validB at h'
        simp [h0, h1] at h'
        rw [ByteArray.size_append]
        have := decB_size v.toNat (by omega)
        show 1 + _ ≤ 3
        omega
  · decide

theorem textC_bad {c : Cmd} (h : validC c = false) : textC c = ⟨#[]⟩ := if_neg (by rw [h]; decide)
theorem textC_ok {c : Cmd} (h : validC c = true) : textC c = c.p ++ ⟨#[32]⟩ ++ conText c.fk c.fv ++ ⟨#[32]⟩ ++ conText c.tk c.tv := if_pos h

theorem pathB_size {p : ByteArray} (h : 1 ≤ depB p) : p.size ≤ 8 := by
  obtain ⟨w, hw, rfl⟩ := vpB_word (vp_of_depth h)
  show (Pm.pathOf w).length ≤ 8
  unfold Pm.pathOf
  split
  · simp
  · rw [Pm.flat_length]; have := hw.1; omega

theorem textC_size (c : Cmd) : (textC c).size ≤ 16 := by
  cases h : validC c with
  | false => rw [textC_bad h]; decide
  | true =>
    have h1 := pathB_size ((validC_iff c).1 h).1
    have h2 := conSize_le c.fk c.fv
    have h3 := conSize_le c.tk c.tv
    rw [textC_ok h]
    simp only [ByteArray.size_append]
    have e : (⟨#[32]⟩ : ByteArray).size = 1 := rfl
    rw [e]
    omega

set_option maxHeartbeats 2000000 in
set_option maxRecDepth 100000 in
theorem specCmdText_c (c : Cmd) (hp : c.p.size ≤ 2097152) (W : World) : Calls Tryz.prog 17 #[cmdV c] W (TextPost (textC c) W) := by
  obtain ⟨vc, hvc⟩ : ∃ vc, validC c = vc := ⟨_, rfl⟩
  have HC := Lib.hid (fun W' => show Calls Tryz.prog 30 #[cmdV c] W' (BoolPost vc W') by rw [← hvc]; exact specCmdValid_c c hp W')
  cases vc with
  | false =>
    have HR := Lib.hid (textC_bad hvc)
    clear hvc
    unfold cmdV at HC ⊢
    obtain ⟨p, fk, fv, tk, tv⟩ := c
    simp only at HC ⊢
    go_enter Tryz.func17, Tryz.ntmps17
    go_wp2_with fail
    refine (HC.out _).mono ?_
    rintro e W1 ⟨rfl, hb1⟩
    have B1 := Lib.hid (below_next (below_box W _) hb1)
    clear hb1
    go_wp2
    go_ret
    exact ⟨ret_str HR.out.symm, B1.out⟩
  | true =>
    have HR := Lib.hid (textC_ok hvc)
    have hz0 := pathB_size ((validC_iff c).1 hvc).1
    have HT1 := Lib.hid (fun W' => show Calls Tryz.prog 31 #[con c.fk c.fv] W' (TextPost (conText c.fk c.fv) W') from specText_c _ _ W')
    have HT2 := Lib.hid (fun W' => show Calls Tryz.prog 31 #[con c.tk c.tv] W' (TextPost (conText c.tk c.tv) W') from specText_c _ _ W')
    have hz1 := conSize_le c.fk c.fv
    have hz2 := conSize_le c.tk c.tv
    clear hvc
    unfold cmdV at HC ⊢
    obtain ⟨p, fk, fv, tk, tv⟩ := c
    unfold con at HT1 HT2
    simp only at HC HT1 HT2 HR hz0 hz1 hz2 ⊢
    generalize conText fk fv = t1 at HT1 HR hz1
    generalize conText tk tv = t2 at HT2 HR hz2
    have y1 : ¬ 9223372036854775807 < p.size + 1 := by omega
    have y2 : ¬ 9223372036854775807 < p.size + 1 + t1.size := by omega
    have y3 : ¬ 9223372036854775807 < p.size + 1 + t1.size + 1 := by omega
    have y4 : ¬ 9223372036854775807 < p.size + 1 + t1.size + 1 + t2.size := by omega
    clear hz0 hz1 hz2
    go_enter Tryz.func17, Tryz.ntmps17
    go_wp2_with fail
    refine (HC.out _).mono ?_
    rintro e W1 ⟨rfl, hb1⟩
    have q0 := box_cell hb1 0
    have q1 := box_cell hb1 1
    have q2 := box_cell hb1 2
    have q3 := box_cell hb1 3
    have q4 := box_cell hb1 4
    simp at q0 q1 q2 q3 q4
    have B1 := Lib.hid (below_next (below_box W _) hb1)
    have HS0 : Hid (W1.drew.cell? ⟨W.heap.size, 0, none⟩ = some (.string p) ∧ W1.drew.cell? ⟨W.heap.size, 1, none⟩ = some (.int .i64 fk) ∧ W1.drew.cell? ⟨W.heap.size, 2, none⟩ = some (.int .i64 fv) ∧ W1.drew.cell? ⟨W.heap.size, 3, none⟩ = some (.int .i64 tk) ∧ W1.drew.cell? ⟨W.heap.size, 4, none⟩ = some (.int .i64 tv) ∧ Below W.heap.size W W1.drew) :=
      ⟨q0, q1, q2, q3, q4, B1.out.drew⟩
    clear hb1 q0 q1 q2 q3 q4
    go_upto_region 3 with (fail)
    go_region_held3 (fun w' => w'.cell? ⟨W.heap.size, 0, none⟩ = some (.string p) ∧ w'.cell? ⟨W.heap.size, 1, none⟩ = some (.int .i64 fk) ∧ w'.cell? ⟨W.heap.size, 2, none⟩ = some (.int .i64 fv) ∧ w'.cell? ⟨W.heap.size, 3, none⟩ = some (.int .i64 tk) ∧ w'.cell? ⟨W.heap.size, 4, none⟩ = some (.int .i64 tv) ∧ Below W.heap.size W w')
      (first | exact HS0.out | exact keepCmd HS0.out hb5 | exact keepCmd (keepCmd HS0.out hb5) hb6)
      (first | (go_at_call 31; (with_reducible refine (HT1.out _).mono ?_); rintro e W5 ⟨rfl, hb5⟩) | (go_at_call 31; (with_reducible refine (HT2.out _).mono ?_); rintro e W6 ⟨rfl, hb6⟩))
    rename_i hS
    have HB := Lib.hid hS.2.2.2.2.2
    clear hS
    go_wp2
    go_ret
    exact ⟨ret_str HR.out.symm, HB.out⟩

end Go.Proofs.YtohdpbalajjjiaaGreat

/-
  TEXTS OF CONFLICTS: lines; WALK: spec.ClashText.
-/
namespace Go.Proofs.YtohdpbalajjjiaaGreat
open Go.RowKit
set_option linter.unusedVariables false

theorem za_first : (0 : Nat) ≤ 0 := Nat.le_refl 0

/-- One line. -/
def lineC (c d : Cmd) : ByteArray := textC c ++ ⟨#[32, 124, 32]⟩ ++ textC d ++ ⟨#[10]⟩
def lineAt (a b : List Cmd) (x : Nat × Nat) : ByteArray :=
  match a[x.1]?, b[x.2]? with
  | some c, some d => lineC c d
  | _, _ => ⟨#[]⟩
def linesL (a b : List Cmd) (xs : List (Nat × Nat)) : ByteArray := xs.foldl (fun s x => s ++ lineAt a b x) ⟨#[]⟩
/-- spec.ClashText. -/
def clashText (a b : List Cmd) : ByteArray := linesL a b (clashesL a b)

theorem lineAt_eq {a b : List Cmd} {x : Nat × Nat} {c d : Cmd} (h1 : a[x.1]? = some c) (h2 : b[x.2]? = some d) : lineAt a b x = lineC c d := by
  unfold lineAt; rw [h1, h2]
theorem lineC_size (c d : Cmd) : (lineC c d).size ≤ 36 := by
  have h1 := textC_size c
  have h2 := textC_size d
  unfold lineC
  simp only [ByteArray.size_append]
  have e : (⟨#[32, 124, 32]⟩ : ByteArray).size = 3 := rfl
  have e2 : (⟨#[10]⟩ : ByteArray).size = 1 := rfl
  rw [e, e2]
  omega
theorem lineAt_size (a b : List Cmd) (x : Nat × Nat) : (lineAt a b x).size ≤ 36 := by
  unfold lineAt
  split
  · exact lineC_size _ _
  · decide
theorem linesL_snoc (a b : List Cmd) (xs : List (Nat × Nat)) (x : Nat × Nat) : linesL a b (xs ++ [x]) = linesL a b xs ++ lineAt a b x := by
  unfold linesL; rw [List.foldl_append]; rfl
theorem linesL_size (a b : List Cmd) (xs : List (Nat × Nat)) : (linesL a b xs).size ≤ 36 * xs.length := by
  have h : ∀ (xs : List (Nat × Nat)) (s : ByteArray), (xs.foldl (fun s x => s ++ lineAt a b x) s).size ≤ s.size + 36 * xs.length := by
    intro xs
    induction xs with
    | nil => intro s; exact Nat.le_refl _
    | cons x r ih =>
      intro s
      have h1 := ih (s ++ lineAt a b x)
      have h2 := lineAt_size a b x
      rw [ByteArray.size_append] at h1
      rw [List.foldl_cons, List.length_cons]
      omega
  have := h xs ⟨#[]⟩
  have e : (⟨#[]⟩ : ByteArray).size = 0 := rfl
  rw [e, Nat.zero_add] at this
  exact this
theorem linesL_take {a b : List Cmd} {xs : List (Nat × Nat)} {n : Nat} {x : Nat × Nat} {c d : Cmd} (h : xs[n]? = some x) (h1 : a[x.1]? = some c) (h2 : b[x.2]? = some d) :
    linesL a b (xs.take (n + 1)) = linesL a b (xs.take n) ++ textC c ++ ⟨#[32, 124, 32]⟩ ++ textC d ++ ⟨#[10]⟩ := by
  have e : xs.take (n + 1) = xs.take n ++ [x] := by rw [List.take_add_one, h]; rfl
  rw [e, linesL_snoc, lineAt_eq h1 h2, lineC]
  simp only [ByteArray.append_assoc]
theorem clash_small (a b : List Cmd) : (clashesL a b).length ≤ 1000000 := by
  unfold clashesL
  split
  · rename_i h
    have h1 := ok_len h
    have h2 := rowsL_le b a 0
    have h3 : a.length * b.length ≤ 1000 * 1000 := Nat.mul_le_mul h1.1 h1.2
    omega
  · exact Nat.zero_le _
theorem clash_mem {a b : List Cmd} {n : Nat} {x : Nat × Nat} (h : (clashesL a b)[n]? = some x) : ∃ c d, a[x.1]? = some c ∧ b[x.2]? = some d ∧ clashC c d = true ∧ okL a b = true := by
  have hm := List.mem_of_getElem? h
  have hok : okL a b = true := by
    cases e : okL a b with
    | true => rfl
    | false => unfold clashesL at hm; rw [e] at hm; simp at hm
  obtain ⟨c, d, h1, h2, h3⟩ := (mem_clashes hok (x := x.1) (y := x.2)).1 hm
  exact ⟨c, d, h1, h2, h3, hok⟩

def ClashTextRelS (cs ds : List Cmd) (xs : List (Nat × Nat)) (W W1 : World) (o i : Value) (wr : World) : Prop :=
  ∃ n : Nat, i = .int .i64 n ∧ n ≤ xs.length ∧ o = .string (linesL cs ds (xs.take n)) ∧ Hid (Below W.heap.size W wr) ∧ Hid (Below W1.heap.size W1 wr)

set_option maxHeartbeats 4000000 in
set_option maxRecDepth 100000 in
theorem specClashText_c (a1 : Option Addr) (len1 cap1 : Nat) (cs : List Cmd) (a2 : Option Addr) (len2 cap2 : Nat) (ds : List Cmd) (hl1 : len1 ≤ 2000000) (hl2 : len2 ≤ 2000000) (hs1 : ShortC 2097152 cs) (hs2 : ShortC 2097152 ds) (W : World) (h1 : CmdsAt W a1 len1 cs) (h2 : CmdsAt W a2 len2 ds) :
    Calls Tryz.prog 7 #[.slice a1 len1 cap1, .slice a2 len2 cap2] W (TextPost (clashText cs ds) W) := by
  obtain ⟨xs, hxs⟩ : ∃ xs, clashesL cs ds = xs := ⟨_, rfl⟩
  have HCL := Lib.hid (fun w (hb : Below W.heap.size W w) => show Calls Tryz.prog 16 #[.slice a1 len1 cap1, .slice a2 len2 cap2] w (ClashPost xs w) by rw [← hxs]; exact specClashes_c a1 len1 cap1 cs a2 len2 cap2 ds hl1 hl2 hs1 hs2 w (h1.keep hb) (h2.keep hb))
  have HXL := Lib.hid (show xs.length ≤ 1000000 by rw [← hxs]; exact clash_small cs ds)
  have HXM := Lib.hid (show ∀ (n : Nat) (x : Nat × Nat), xs[n]? = some x → ∃ c d, cs[x.1]? = some c ∧ ds[x.2]? = some d from fun n x h => by rw [← hxs] at h; obtain ⟨c, d, e1, e2, _⟩ := clash_mem h; exact ⟨c, d, e1, e2⟩)
  have HN1 := Lib.hid h1
  have HN2 := Lib.hid h2
  have HS1 := Lib.hid hs1
  have HS2 := Lib.hid hs2
  have HE := Lib.hid (show cs.length = len1 ∧ ds.length = len2 from ⟨h1.1, h2.1⟩)
  have HRS := Lib.hid (show clashText cs ds = linesL cs ds xs by rw [← hxs]; rfl)
  have hl1' : (len1 : Int) ≤ 2000000 := by omega
  have hl2' : (len2 : Int) ≤ 2000000 := by omega
  clear h1 h2 hs1 hs2 hxs
  go_enter Tryz.func7, Tryz.ntmps7
  go_wp2_with fail
  refine (HCL.out _ (Below.refl _ _)).mono ?_
  rintro e W1 ⟨⟨sl, rfl, ho1⟩, hb1⟩
  obtain ⟨x0, xcap, rfl, hrow⟩ := clash_of_own ho1
  obtain ⟨nx, hnx⟩ : ∃ n, xs.length = n := ⟨_, rfl⟩
  rw [hnx] at hrow
  rw [hnx]
  have HNX := Lib.hid hnx
  have hnx' : (nx : Int) ≤ 1000000 := by have := HXL.out; omega
  have HROW := Lib.hid hrow
  have B1 := Lib.hid hb1
  clear ho1 hrow hb1 hnx
  go_wp2_with fail
  go_loopw [5, 7] (fun o i wr => ClashTextRelS cs ds xs W W1 o i wr) (fun _ i _ => nx - (intOf i).toNat)
  case atStart => exact ⟨0, rfl, Nat.zero_le _, rfl, B1, Below.refl _ _⟩
  case round =>
    obtain ⟨n, rfl, hn, rfl, HBE, HBW⟩ := hrel
    by_cases hlt : n < nx
    · have hlt' : (n : Int) < nx := by omega
      have hw1 : IntKind.i64.wrap ((n : Int) + 1) = (n : Int) + 1 := IntWalk.i64_in _ (by omega)
      have HLT := Lib.hid hlt
      obtain ⟨g, o0, y, rfl, hy, y1, y2⟩ := (HROW.out.keep HBW.out).node hlt
      obtain ⟨c, d, hc, hd⟩ := HXM.out n y hy
      obtain ⟨i1, i2⟩ := y
      simp only at hc hd y1 y2
      have hi1 : i1 < len1 := by have := (List.getElem?_eq_some_iff.1 hc).1; have := HE.out; omega
      have hi2 : i2 < len2 := by have := (List.getElem?_eq_some_iff.1 hd).1; have := HE.out; omega
      obtain ⟨b, off, c', rfl, hc', d0, d1, d2, d3, d4⟩ := (HN1.out.keep HBE.out).node (i := i1) hi1
      obtain ⟨b', off', d', rfl, hd', e0, e1, e2, e3, e4⟩ := (HN2.out.keep HBE.out).node (i := i2) hi2
      obtain rfl := Option.some.inj (hc.symm.trans hc')
      obtain rfl := Option.some.inj (hd.symm.trans hd')
      have HT1 := Lib.hid (fun w => specCmdText_c c (HS1.out.at hc) w)
      have HT2 := Lib.hid (fun w => specCmdText_c d (HS2.out.at hd) w)
      have HLN := Lib.hid (linesL_take (a := cs) (b := ds) hy hc hd)
      have z1 := textC_size c
      have z2 := textC_size d
      have z3 : (linesL cs ds (xs.take n)).size ≤ 36000000 := by have := linesL_size cs ds (xs.take n); have := HXL.out; rw [List.length_take] at *; omega
      obtain ⟨p, fk, fv, tk, tv⟩ := c
      obtain ⟨q, fk', fv', tk', tv'⟩ := d
      unfold cmdV at HT1 HT2
      simp only at d0 d1 d2 d3 d4 e0 e1 e2 e3 e4 HT1 HT2
      generalize textC ⟨p, fk, fv, tk, tv⟩ = tA at HT1 HLN z1
      generalize textC ⟨q, fk', fv', tk', tv'⟩ = tB at HT2 HLN z2
      generalize linesL cs ds (xs.take n) = sN at HLN z3 ⊢
      have y3 : ¬ 9223372036854775807 < sN.size + tA.size := by omega
      have y4 : ¬ 9223372036854775807 < sN.size + tA.size + 3 := by omega
      have y5 : ¬ 9223372036854775807 < sN.size + tA.size + 3 + tB.size := by omega
      have y6 : ¬ 9223372036854775807 < sN.size + tA.size + 3 + tB.size + 1 := by omega
      have q1 : (i1 : Int) < len1 := by omega
      have q2 : (i2 : Int) < len2 := by omega
      have HSA := Lib.hid (show wr.drew.cell? ⟨g, o0 + n * 2, none⟩ = some (.int .i64 i1) ∧ wr.drew.cell? ⟨g, o0 + n * 2 + 1, none⟩ = some (.int .i64 i2) ∧ wr.drew.cell? ⟨b, off + i1 * 5, none⟩ = some (.string p) ∧ wr.drew.cell? ⟨b, off + i1 * 5 + 1, none⟩ = some (.int .i64 fk) ∧ wr.drew.cell? ⟨b, off + i1 * 5 + 2, none⟩ = some (.int .i64 fv) ∧ wr.drew.cell? ⟨b, off + i1 * 5 + 3, none⟩ = some (.int .i64 tk) ∧ wr.drew.cell? ⟨b, off + i1 * 5 + 4, none⟩ = some (.int .i64 tv) ∧ wr.drew.cell? ⟨b', off' + i2 * 5, none⟩ = some (.string q) ∧ wr.drew.cell? ⟨b', off' + i2 * 5 + 1, none⟩ = some (.int .i64 fk') ∧ wr.drew.cell? ⟨b', off' + i2 * 5 + 2, none⟩ = some (.int .i64 fv') ∧ wr.drew.cell? ⟨b', off' + i2 * 5 + 3, none⟩ = some (.int .i64 tk') ∧ wr.drew.cell? ⟨b', off' + i2 * 5 + 4, none⟩ = some (.int .i64 tv') ∧ Below W.heap.size W wr.drew ∧ Below W1.heap.size W1 wr.drew from ⟨y1, y2, d0, d1, d2, d3, d4, e0, e1, e2, e3, e4, HBE.out.drew, HBW.out.drew⟩)
      have HKP := Lib.hid (fun (u1 u2 : World) (h : u1.cell? ⟨g, o0 + n * 2, none⟩ = some (.int .i64 i1) ∧ u1.cell? ⟨g, o0 + n * 2 + 1, none⟩ = some (.int .i64 i2) ∧ u1.cell? ⟨b, off + i1 * 5, none⟩ = some (.string p) ∧ u1.cell? ⟨b, off + i1 * 5 + 1, none⟩ = some (.int .i64 fk) ∧ u1.cell? ⟨b, off + i1 * 5 + 2, none⟩ = some (.int .i64 fv) ∧ u1.cell? ⟨b, off + i1 * 5 + 3, none⟩ = some (.int .i64 tk) ∧ u1.cell? ⟨b, off + i1 * 5 + 4, none⟩ = some (.int .i64 tv) ∧ u1.cell? ⟨b', off' + i2 * 5, none⟩ = some (.string q) ∧ u1.cell? ⟨b', off' + i2 * 5 + 1, none⟩ = some (.int .i64 fk') ∧ u1.cell? ⟨b', off' + i2 * 5 + 2, none⟩ = some (.int .i64 fv') ∧ u1.cell? ⟨b', off' + i2 * 5 + 3, none⟩ = some (.int .i64 tk') ∧ u1.cell? ⟨b', off' + i2 * 5 + 4, none⟩ = some (.int .i64 tv') ∧ Below W.heap.size W u1 ∧ Below W1.heap.size W1 u1) (hb : Below u1.heap.size u1 u2) => show u2.cell? ⟨g, o0 + n * 2, none⟩ = some (.int .i64 i1) ∧ u2.cell? ⟨g, o0 + n * 2 + 1, none⟩ = some (.int .i64 i2) ∧ u2.cell? ⟨b, off + i1 * 5, none⟩ = some (.string p) ∧ u2.cell? ⟨b, off + i1 * 5 + 1, none⟩ = some (.int .i64 fk) ∧ u2.cell? ⟨b, off + i1 * 5 + 2, none⟩ = some (.int .i64 fv) ∧ u2.cell? ⟨b, off + i1 * 5 + 3, none⟩ = some (.int .i64 tk) ∧ u2.cell? ⟨b, off + i1 * 5 + 4, none⟩ = some (.int .i64 tv) ∧ u2.cell? ⟨b', off' + i2 * 5, none⟩ = some (.string q) ∧ u2.cell? ⟨b', off' + i2 * 5 + 1, none⟩ = some (.int .i64 fk') ∧ u2.cell? ⟨b', off' + i2 * 5 + 2, none⟩ = some (.int .i64 fv') ∧ u2.cell? ⟨b', off' + i2 * 5 + 3, none⟩ = some (.int .i64 tk') ∧ u2.cell? ⟨b', off' + i2 * 5 + 4, none⟩ = some (.int .i64 tv') ∧ Below W.heap.size W u2 ∧ Below W1.heap.size W1 u2 from ⟨cell_kept hb h.1, cell_kept hb h.2.1, cell_kept hb h.2.2.1, cell_kept hb h.2.2.2.1, cell_kept hb h.2.2.2.2.1, cell_kept hb h.2.2.2.2.2.1, cell_kept hb h.2.2.2.2.2.2.1, cell_kept hb h.2.2.2.2.2.2.2.1, cell_kept hb h.2.2.2.2.2.2.2.2.1, cell_kept hb h.2.2.2.2.2.2.2.2.2.1, cell_kept hb h.2.2.2.2.2.2.2.2.2.2.1, cell_kept hb h.2.2.2.2.2.2.2.2.2.2.2.1, below_next h.2.2.2.2.2.2.2.2.2.2.2.2.1 hb, below_next h.2.2.2.2.2.2.2.2.2.2.2.2.2 hb⟩)
      clear z1 z2 z3 hi1 hi2 hc hd hc' hd' hy hn hlt d0 d1 d2 d3 d4 e0 e1 e2 e3 e4 y1 y2
      go_upto_region 6 with (fail)
      go_region_held3 (fun w' => w'.cell? ⟨g, o0 + n * 2, none⟩ = some (.int .i64 i1) ∧ w'.cell? ⟨g, o0 + n * 2 + 1, none⟩ = some (.int .i64 i2) ∧ w'.cell? ⟨b, off + i1 * 5, none⟩ = some (.string p) ∧ w'.cell? ⟨b, off + i1 * 5 + 1, none⟩ = some (.int .i64 fk) ∧ w'.cell? ⟨b, off + i1 * 5 + 2, none⟩ = some (.int .i64 fv) ∧ w'.cell? ⟨b, off + i1 * 5 + 3, none⟩ = some (.int .i64 tk) ∧ w'.cell? ⟨b, off + i1 * 5 + 4, none⟩ = some (.int .i64 tv) ∧ w'.cell? ⟨b', off' + i2 * 5, none⟩ = some (.string q) ∧ w'.cell? ⟨b', off' + i2 * 5 + 1, none⟩ = some (.int .i64 fk') ∧ w'.cell? ⟨b', off' + i2 * 5 + 2, none⟩ = some (.int .i64 fv') ∧ w'.cell? ⟨b', off' + i2 * 5 + 3, none⟩ = some (.int .i64 tk') ∧ w'.cell? ⟨b', off' + i2 * 5 + 4, none⟩ = some (.int .i64 tv') ∧ Below W.heap.size W w' ∧ Below W1.heap.size W1 w')
        (first | exact HSA.out | exact HKP.out _ _ HSA.out hb5 | exact HKP.out _ _ (HKP.out _ _ HSA.out hb5) hb6)
        (first
          | (go_at_call 17; (with_reducible refine (HT1.out _).mono ?_); rintro e W5 ⟨rfl, hb5⟩)
          | (go_at_call 17; (with_reducible refine (HT2.out _).mono ?_); rintro e W6 ⟨rfl, hb6⟩))
      rename_i hS
      have HE7 := Lib.hid hS.2.2.2.2.2.2.2.2.2.2.2.2.1
      have HW7 := Lib.hid hS.2.2.2.2.2.2.2.2.2.2.2.2.2
      clear hS
      go_wp2
      go_roundw
      case rel => exact ⟨n + 1, by go_num, by have := HLT.out; have := HNX.out; omega, by rw [HLN.out], HE7, HW7⟩
      case measure => have := HLT.out; simp [intOf]; omega
    · have hge : (nx : Int) ≤ n := by omega
      have HX := Lib.hid (show linesL cs ds xs = linesL cs ds (xs.take n) by rw [List.take_of_length_le (by have := HNX.out; omega)])
      clear hn hlt
      go_wp2
      go_ret
      exact ⟨ret_str (by rw [HRS.out, HX.out]), HBE.out⟩

end Go.Proofs.YtohdpbalajjjiaaGreat
