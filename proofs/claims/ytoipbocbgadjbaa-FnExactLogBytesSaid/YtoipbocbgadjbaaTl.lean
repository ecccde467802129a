/-
  WALKS: spec.l3Put.
-/
import Derived.Maps.AppendAt
import Derived.OwnWalk
import Derived.RangeFuncBox
import Derived.Laws.OwnMore
import Derived.Test.YtoipbocbgadjbaaTg
import Derived.Test.YtoipbocbgadjbaaPa
import Derived.Test.YtoipbocbgadjbaaPa
import Derived.Test.YtoipbocbgadjbaaPa
import Derived.Test.YtoipbocbgadjbaaPa
namespace Go.Proofs.Ytoipbocbgadjbaa
open Go.RowKit
set_option linter.unusedVariables false

theorem infoNode : (Try.prog.info? 99).map (fun i => (i.zero, i.size, i.bytes)) = some (some (.agg #[.string ⟨#[]⟩, .int .i64 0, .int .i64 0]), 3, 32) := by kernel_rfl

/-- The cells of a list of nodes. -/
def flatN (ns : List Nd) : List Value := ns.flatMap (fun n => [.string n.p, .int .i64 n.k, .int .i64 n.v])

theorem flatN_nil : flatN [] = [] := rfl
theorem flatN_append (a b : List Nd) : flatN (a ++ b) = flatN a ++ flatN b := by unfold flatN; rw [List.flatMap_append]
theorem flatN_one (n : Nd) : flatN [n] = [.string n.p, .int .i64 n.k, .int .i64 n.v] := rfl
theorem flatN_length (ns : List Nd) : (flatN ns).length = ns.length * 3 := by
  induction ns with
  | nil => rfl
  | cons n r ih =>
    have : flatN (n :: r) = [.string n.p, .int .i64 n.k, .int .i64 n.v] ++ flatN r := rfl
    rw [this, List.length_append, ih]
    simp; omega

theorem flatN_get : ∀ (ns : List Nd) (i : Nat) (n : Nd), ns[i]? = some n → (flatN ns)[i * 3]? = some (.string n.p) ∧ (flatN ns)[i * 3 + 1]? = some (.int .i64 n.k) ∧ (flatN ns)[i * 3 + 2]? = some (.int .i64 n.v)
  | [], i, n, h => by simp at h
  | m :: r, 0, n, h => by
    simp at h
    subst h
    exact ⟨rfl, rfl, rfl⟩
  | m :: r, i + 1, n, h => by
    have ih := flatN_get r i n (by simpa using h)
    have e : flatN (m :: r) = .string m.p :: .int .i64 m.k :: .int .i64 m.v :: flatN r := rfl
    rw [e, show (i + 1) * 3 = i * 3 + 3 by omega]
    exact ih

/-- A list of nodes that is owned reads as one. -/
theorem nodes_of_own {W : World} {base : Nat} {e : TypeId} {v : Value} {ns : List Nd} (h : W.ownsRow base e 3 v ns.length (flatN ns)) :
    ∃ a cap, v = .slice a ns.length cap ∧ NodesAt W a ns.length ns := by
  rcases h.2 with ⟨rfl, h0⟩ | ⟨g, cap, cur, rfl, h1, h2, h3, h4, h5, h6⟩
  · exact ⟨none, 0, by rw [h0], rfl, .inl h0⟩
  · refine ⟨some ⟨g, 0, none⟩, cap, rfl, rfl, .inr ⟨g, 0, rfl, fun i n hn => ?_⟩⟩
    have hi := (List.getElem?_eq_some_iff.1 hn).1
    obtain ⟨f0, f1, f2⟩ := flatN_get ns i n hn
    refine ⟨?_, ?_, ?_⟩
    · rw [Nat.zero_add, h.cellAt (i * 3) (by omega)]; exact f0
    · rw [Nat.zero_add, h.cellAt (i * 3 + 1) (by omega)]; exact f1
    · rw [Nat.zero_add, h.cellAt (i * 3 + 2) (by omega)]; exact f2

theorem cell_three_new (w : World) (x y z : Value) (t : TypeId) : ∀ j u, [x, y, z][j]? = some u → (w.alloc (.cells #[x, y, z] t)).cell? ((⟨w.heap.size, 0, none⟩ : Addr).add j) = some u := by
  intro j u hj
  match j, hj with
  | 0, hj => simp at hj; subst hj; simp [Addr.add]
  | 1, hj => simp at hj; subst hj; simp [Addr.add]
  | 2, hj => simp at hj; subst hj; simp [Addr.add]

theorem putGo_lt {p : ByteArray} {k v : Int} {n : Nd} {r : List Nd} (h : ltB p n.p = true) : putGo p k v false (n :: r) = ⟨p, k, v⟩ :: n :: putGo p k v true r := by
  conv => lhs; unfold putGo
  rw [if_pos ⟨rfl, h⟩, if_neg (fun e => ltB_ne h e.symm)]
theorem putGo_eq {p : ByteArray} {k v : Int} {n : Nd} {r : List Nd} (h : ltB p n.p = false) (e : n.p = p) : putGo p k v false (n :: r) = ⟨p, k, v⟩ :: putGo p k v true r := by
  conv => lhs; unfold putGo
  rw [if_neg (fun c => by rw [h] at c; cases c.2), if_pos e, if_neg (by simp)]
theorem putGo_ne {p : ByteArray} {k v : Int} {n : Nd} {r : List Nd} (h : ltB p n.p = false) (e : n.p ≠ p) : putGo p k v false (n :: r) = n :: putGo p k v false r := by
  conv => lhs; unfold putGo
  rw [if_neg (fun c => by rw [h] at c; cases c.2), if_neg e]
theorem putGo_deq {p : ByteArray} {k v : Int} {n : Nd} {r : List Nd} (e : n.p = p) : putGo p k v true (n :: r) = putGo p k v true r := by
  conv => lhs; unfold putGo
  rw [if_neg (by simp), if_pos e, if_pos rfl]
theorem putGo_dne {p : ByteArray} {k v : Int} {n : Nd} {r : List Nd} (e : n.p ≠ p) : putGo p k v true (n :: r) = n :: putGo p k v true r := by
  conv => lhs; unfold putGo
  rw [if_neg (by simp), if_neg e]

theorem drop_cons {ns : List Nd} {i : Nat} {n : Nd} (h : ns[i]? = some n) : ns.drop i = n :: ns.drop (i + 1) := by
  obtain ⟨h1, h2⟩ := List.getElem?_eq_some_iff.1 h
  rw [List.drop_eq_getElem_cons h1, h2]

theorem own_reader {W W' : World} {base B : Nat} {e : TypeId} {size n : Nat} {v : Value} {xs : List Value} (h : W.ownsRow base e size v n xs) (hB : B < base) (hg : W.grownBy W' (some B)) : W'.ownsRow base e size v n xs := by
  refine h.kept hg ?_
  cases hv : v.ownBlock with
  | none => exact .inl rfl
  | some k =>
    right
    have := (h.lt k hv).1
    simp; omega

theorem own_below {W W' : World} {base : Nat} {e : TypeId} {size n : Nat} {v : Value} {xs : List Value} (h : W.ownsRow base e size v n xs) (hg : Below W.heap.size W W') : W'.ownsRow base e size v n xs :=
  h.kept (below_grown hg) (by cases hv : v.ownBlock <;> simp)

/-- A list of nodes that the call has made. -/
def OwnsNodes (base : Nat) (ns : List Nd) (e : Ending) (w' : World) : Prop :=
  ∃ sl, e = .returned sl ∧ w'.ownsRow base 99 3 sl ns.length (flatN ns)

theorem NodesAt.at {W : World} {b off len : Nat} {ns : List Nd} {i : Nat} {n : Nd} (h : NodesAt W (some ⟨b, off, none⟩) len ns) (hn : ns[i]? = some n) :
    W.cell? ⟨b, off + i * 3, none⟩ = some (.string n.p) ∧ W.cell? ⟨b, off + i * 3 + 1, none⟩ = some (.int .i64 n.k) ∧ W.cell? ⟨b, off + i * 3 + 2, none⟩ = some (.int .i64 n.v) := by
  obtain ⟨h1, h0 | ⟨b', off', ha, hc⟩⟩ := h
  · have := (List.getElem?_eq_some_iff.1 hn).1; omega
  · simp at ha
    obtain ⟨rfl, rfl⟩ := ha
    exact hc i n hn

theorem own_mono {W : World} {b c : Nat} {e : TypeId} {size n : Nat} {v : Value} {xs : List Value} (h : W.ownsRow c e size v n xs) (hbc : b ≤ c) : W.ownsRow b e size v n xs := by
  obtain ⟨h1, h2 | ⟨g, cap, cur, h3, h4, h5⟩⟩ := h
  · exact ⟨h1, .inl h2⟩
  · exact ⟨h1, .inr ⟨g, cap, cur, h3, Nat.le_trans hbc h4, h5⟩⟩

theorem own_push {W : World} {b : Nat} {e : TypeId} {v : Value} {acc : List Nd} (x : Nd) (h : W.ownsRow b e 3 v (acc.length + 1) (flatN acc ++ [.string x.p, .int .i64 x.k, .int .i64 x.v])) : W.ownsRow b e 3 v (acc ++ [x]).length (flatN (acc ++ [x])) := by
  rw [flatN_append, flatN_one, List.length_append]; exact h

def PutPost (ns : List Nd) (p : ByteArray) (k v : Int) (W : World) (e : Ending) (w' : World) : Prop := OwnsNodes W.heap.size (putL ns p k v) e w' ∧ Below W.heap.size W w'

def PutRel (ns : List Nd) (p : ByteArray) (k v : Int) (W1 : World) (o dn i : Value) (wr : World) : Prop :=
  ∃ (acc : List Nd) (d : Bool) (n : Nat), dn = .bool d ∧ i = .int .i64 n ∧ n ≤ ns.length ∧ Hid (acc.length ≤ 2097154) ∧ Hid (acc.length ≤ n + 1 ∧ (d = false → acc.length ≤ n)) ∧ Hid (acc ++ putGo p k v d (ns.drop n) = putL ns p k v) ∧
    wr.ownsRow W1.heap.size 99 3 o acc.length (flatN acc) ∧ Hid (Below W1.heap.size W1 wr)

theorem put_end {ns acc : List Nd} {p : ByteArray} {k v : Int} {W W1 wr : World} {o : Value} (hW1 : W1 = W.alloc (.cells #[.int .i64 k, .int .i64 v] 24)) (hB : Below W1.heap.size W1 wr)
    (hP : acc = putL ns p k v) (h : wr.ownsRow W1.heap.size 99 3 o acc.length (flatN acc)) : PutPost ns p k v W (.returned o) wr := by
  subst hP
  have hs : W.heap.size ≤ W1.heap.size := by rw [hW1]; simp
  refine ⟨⟨o, rfl, own_mono h hs⟩, ?_⟩
  have : Below W.heap.size W W1 := by rw [hW1]; exact below_box _ _
  exact below_next this hB

set_option maxHeartbeats 2000000 in
set_option maxRecDepth 100000 in
theorem l3Put_c (a : Option Addr) (len cap : Nat) (ns : List Nd) (p : ByteArray) (k v : Int) (hl : len ≤ 2097152) (W : World) (hN : NodesAt W a len ns) :
    Calls Try.prog 73 #[.slice a len cap, .string p, .agg #[.int .i64 k, .int .i64 v]] W (PutPost ns p k v W) := by
  obtain ⟨i0, hi, hz0, hz1, hz2⟩ := info_parts infoNode
  have HN := Lib.hid hN
  have HE := Lib.hid hN.1
  have HL := Lib.hid hl
  clear hN
  go_enter Try.func73, Try.ntmps73
  go_wp2
  obtain ⟨W1, hW1⟩ : ∃ W1, W1 = W.alloc (.cells #[.int .i64 k, .int .i64 v] 24) := ⟨_, rfl⟩
  have HN1 := Lib.hid (show NodesAt W1 a len ns by rw [hW1]; exact HN.out.keep (below_box _ _))
  have HBX := Lib.hid (show W1.cell? ⟨W.heap.size, 0, none⟩ = some (.int .i64 k) ∧ W1.cell? ⟨W.heap.size, 1, none⟩ = some (.int .i64 v) by subst hW1; exact ⟨by rw [World.cell?_alloc_new]; rfl, by rw [World.cell?_alloc_new]; rfl⟩)
  have HW1 := Lib.hid hW1
  have hs1 : W.heap.size + 1 = W1.heap.size := by rw [hW1]; simp
  rw [← hW1, hs1]
  clear hW1 hs1
  go_loopw [7, 8, 9] (fun o d i wr => PutRel ns p k v W1 o d i wr) (fun _ _ i _ => len - (intOf i).toNat)
  case atStart => exact ⟨[], (k == 0), 0, rfl, rfl, by omega, by simp [Hid], by simp [Hid], rfl, World.ownsRow_lit (e := 99) (size := 3) W1 #[] 0 (Nat.le_refl _) (by simp [maxLen]) rfl, below_box _ _⟩
  case round =>
    obtain ⟨acc, d, i, rfl, rfl, hi1, HA, HA2, HP, hrow, HB⟩ := hrel
    have hlt0 := hrow.lt
    have q0 := cell_kept HB.out HBX.out.1
    have q1 := cell_kept HB.out HBX.out.2
    by_cases hlt : i < len
    · obtain ⟨b, off, n, rfl, hn, c0, c1, c2⟩ := (HN1.out.keep HB.out).node hlt
      have hlt' : (i : Int) < len := by omega
      have HD := Lib.hid (drop_cons hn)
      have HLT := Lib.hid hlt
      have HNN := Lib.hid hn
      clear hi1 hlt hn
      cases d with
      | false =>
        cases hltb : ltB p n.p with
        | true =>
          have hlb : Op.bytesLess p.toList n.p.toList = true := hltb
          have hne : (n.p.toList == p.toList) = false := toList_ne (fun e => ltB_ne hltb e.symm)
          have HP2 := Lib.hid (show (acc ++ [⟨p, k, v⟩] ++ [n]) ++ putGo p k v true (ns.drop (i + 1)) = putL ns p k v by rw [← HP.out, HD.out, putGo_lt hltb]; simp)
          clear hltb
          go_wp2_with (first | (at_builtin; refine wpList_append_own _ rfl _ _ 61 rfl W1.heap.size 99 i0 (.agg #[.string ⟨#[]⟩, .int .i64 0, .int .i64 0]) 3 32 Try.underlying61 hi hz0 hz1 hz2 rfl (by decide) _ _ _ rfl (hrow.alloc _) ⟨wr.heap.size, 0, none⟩ 1 1 [.string p, .int .i64 k, .int .i64 v] rfl rfl (cell_three_new _ _ _ _ _) (fun x hx => by simp at hx; rcases hx with rfl | rfl | rfl <;> rfl) (by unfold maxLen; have := HA.out; omega) (by have := HA.out; omega) (by have := HB.out.size; simp; omega) ?_; intro v3 w3 ho3 hg3 hn3; have B3 : Below W1.heap.size W1 w3 := (HB.out.alloc HB.out.size _).grown hg3 (by have := HB.out.size; simp; omega) (fun g e => (hlt0 g e).1); obtain ⟨d0, d1, d2⟩ := (HN1.out.keep B3).at HNN.out) | (at_builtin; refine wpList_append_own _ rfl _ _ 61 rfl W1.heap.size 99 i0 (.agg #[.string ⟨#[]⟩, .int .i64 0, .int .i64 0]) 3 32 Try.underlying61 hi hz0 hz1 hz2 rfl (by decide) _ _ _ rfl ((own_push (⟨p, k, v⟩ : Nd) ho3).alloc _) ⟨w3.heap.size, 0, none⟩ 1 1 [.string n.p, .int .i64 n.k, .int .i64 n.v] rfl rfl (cell_three_new _ _ _ _ _) (fun x hx => by simp at hx; rcases hx with rfl | rfl | rfl <;> rfl) (by unfold maxLen; have := HA.out; simp; omega) (by have := HA.out; simp; omega) (by have := B3.size; simp; omega) ?_; intro v4 w4 ho4 hg4 hn4))
          have B4 : Below W1.heap.size W1 w4 := (B3.alloc B3.size _).grown hg4 (by have := B3.size; simp; omega) (fun g e => ((own_push (⟨p, k, v⟩ : Nd) ho3).lt g e).1)
          go_roundw
          case rel => exact ⟨acc ++ [(⟨p, k, v⟩ : Nd)] ++ [n], true, i + 1, rfl, by go_num, by have := HE.out; have := HLT.out; omega, (by show (acc ++ [(⟨p, k, v⟩ : Nd)] ++ [n]).length ≤ _; have h5 := HA2.out; have h6 := HLT.out; have h7 := HL.out; simp at h5 ⊢; omega), (by show _ ∧ _; have h5 := HA2.out; simp at h5 ⊢; omega), HP2, own_push n ho4, B4⟩
          case measure => have := HLT.out; simp [intOf]; omega
        | false =>
          have hlb : Op.bytesLess p.toList n.p.toList = false := hltb
          by_cases he : n.p = p
          · have hne : (n.p.toList == p.toList) = true := by rw [he]; simp
            have HP2 := Lib.hid (show (acc ++ [⟨p, k, v⟩]) ++ putGo p k v true (ns.drop (i + 1)) = putL ns p k v by rw [← HP.out, HD.out, putGo_eq hltb he]; simp)
            clear hltb he
            go_wp2_with (at_builtin; refine wpList_append_own _ rfl _ _ 61 rfl W1.heap.size 99 i0 (.agg #[.string ⟨#[]⟩, .int .i64 0, .int .i64 0]) 3 32 Try.underlying61 hi hz0 hz1 hz2 rfl (by decide) _ _ _ rfl (hrow.alloc _) ⟨wr.heap.size, 0, none⟩ 1 1 [.string p, .int .i64 k, .int .i64 v] rfl rfl (cell_three_new _ _ _ _ _) (fun x hx => by simp at hx; rcases hx with rfl | rfl | rfl <;> rfl) (by unfold maxLen; have := HA.out; omega) (by have := HA.out; omega) (by have := HB.out.size; simp; omega) ?_; intro v3 w3 ho3 hg3 hn3)
            have B3 : Below W1.heap.size W1 w3 := (HB.out.alloc HB.out.size _).grown hg3 (by have := HB.out.size; simp; omega) (fun g e => (hlt0 g e).1)
            go_roundw
            case rel => exact ⟨acc ++ [(⟨p, k, v⟩ : Nd)], true, i + 1, rfl, by go_num, by have := HE.out; have := HLT.out; omega, (by show (acc ++ [(⟨p, k, v⟩ : Nd)]).length ≤ _; have h5 := HA2.out; have h6 := HLT.out; have h7 := HL.out; simp at h5 ⊢; omega), (by show _ ∧ _; have h5 := HA2.out; simp at h5 ⊢; omega), HP2, own_push (⟨p, k, v⟩ : Nd) ho3, B3⟩
            case measure => have := HLT.out; simp [intOf]; omega
          · have hne : (n.p.toList == p.toList) = false := toList_ne he
            have HP2 := Lib.hid (show (acc ++ [n]) ++ putGo p k v false (ns.drop (i + 1)) = putL ns p k v by rw [← HP.out, HD.out, putGo_ne hltb he]; simp)
            clear hltb he
            go_wp2_with (at_builtin; refine wpList_append_own _ rfl _ _ 61 rfl W1.heap.size 99 i0 (.agg #[.string ⟨#[]⟩, .int .i64 0, .int .i64 0]) 3 32 Try.underlying61 hi hz0 hz1 hz2 rfl (by decide) _ _ _ rfl (hrow.alloc _) ⟨wr.heap.size, 0, none⟩ 1 1 [.string n.p, .int .i64 n.k, .int .i64 n.v] rfl rfl (cell_three_new _ _ _ _ _) (fun x hx => by simp at hx; rcases hx with rfl | rfl | rfl <;> rfl) (by unfold maxLen; have := HA.out; omega) (by have := HA.out; omega) (by have := HB.out.size; simp; omega) ?_; intro v3 w3 ho3 hg3 hn3)
            have B3 : Below W1.heap.size W1 w3 := (HB.out.alloc HB.out.size _).grown hg3 (by have := HB.out.size; simp; omega) (fun g e => (hlt0 g e).1)
            go_roundw
            case rel => exact ⟨acc ++ [n], false, i + 1, rfl, by go_num, by have := HE.out; have := HLT.out; omega, (by show (acc ++ [n]).length ≤ _; have h5 := HA2.out; have h6 := HLT.out; have h7 := HL.out; simp at h5 ⊢; omega), (by show _ ∧ _; have h5 := HA2.out; simp at h5 ⊢; omega), HP2, own_push n ho3, B3⟩
            case measure => have := HLT.out; simp [intOf]; omega
      | true =>
        by_cases he : n.p = p
        · have hne : (n.p.toList == p.toList) = true := by rw [he]; simp
          have HP2 := Lib.hid (show acc ++ putGo p k v true (ns.drop (i + 1)) = putL ns p k v by rw [← HP.out, HD.out, putGo_deq he])
          clear he
          go_wp2
          go_roundw
          case rel => exact ⟨acc, true, i + 1, rfl, by go_num, by have := HE.out; have := HLT.out; omega, (by show (acc).length ≤ _; have h5 := HA2.out; have h6 := HLT.out; have h7 := HL.out; simp at h5 ⊢; omega), (by show _ ∧ _; have h5 := HA2.out; simp at h5 ⊢; omega), HP2, hrow, HB⟩
          case measure => have := HLT.out; simp [intOf]; omega
        · have hne : (n.p.toList == p.toList) = false := toList_ne he
          have HP2 := Lib.hid (show (acc ++ [n]) ++ putGo p k v true (ns.drop (i + 1)) = putL ns p k v by rw [← HP.out, HD.out, putGo_dne he]; simp)
          clear he
          go_wp2_with (at_builtin; refine wpList_append_own _ rfl _ _ 61 rfl W1.heap.size 99 i0 (.agg #[.string ⟨#[]⟩, .int .i64 0, .int .i64 0]) 3 32 Try.underlying61 hi hz0 hz1 hz2 rfl (by decide) _ _ _ rfl (hrow.alloc _) ⟨wr.heap.size, 0, none⟩ 1 1 [.string n.p, .int .i64 n.k, .int .i64 n.v] rfl rfl (cell_three_new _ _ _ _ _) (fun x hx => by simp at hx; rcases hx with rfl | rfl | rfl <;> rfl) (by unfold maxLen; have := HA.out; omega) (by have := HA.out; omega) (by have := HB.out.size; simp; omega) ?_; intro v3 w3 ho3 hg3 hn3)
          have B3 : Below W1.heap.size W1 w3 := (HB.out.alloc HB.out.size _).grown hg3 (by have := HB.out.size; simp; omega) (fun g e => (hlt0 g e).1)
          go_roundw
          case rel => exact ⟨acc ++ [n], true, i + 1, rfl, by go_num, by have := HE.out; have := HLT.out; omega, (by show (acc ++ [n]).length ≤ _; have h5 := HA2.out; have h6 := HLT.out; have h7 := HL.out; simp at h5 ⊢; omega), (by show _ ∧ _; have h5 := HA2.out; simp at h5 ⊢; omega), HP2, own_push n ho3, B3⟩
          case measure => have := HLT.out; simp [intOf]; omega
    · have hge : (len : Int) ≤ i := by omega
      have hdr : ns.drop i = [] := by rw [List.drop_eq_nil_iff]; have := HE.out; omega
      have HPX := HP.out
      rw [hdr] at HPX
      clear hi1 hlt hdr
      cases d with
      | false =>
        have HP2 := Lib.hid (show acc ++ [⟨p, k, v⟩] = putL ns p k v from HPX)
        clear HPX
        go_wp2_with (at_builtin; refine wpList_append_own _ rfl _ _ 61 rfl W1.heap.size 99 i0 (.agg #[.string ⟨#[]⟩, .int .i64 0, .int .i64 0]) 3 32 Try.underlying61 hi hz0 hz1 hz2 rfl (by decide) _ _ _ rfl (hrow.alloc _) ⟨wr.heap.size, 0, none⟩ 1 1 [.string p, .int .i64 k, .int .i64 v] rfl rfl (cell_three_new _ _ _ _ _) (fun x hx => by simp at hx; rcases hx with rfl | rfl | rfl <;> rfl) (by unfold maxLen; have := HA.out; omega) (by have := HA.out; omega) (by have := HB.out.size; simp; omega) ?_; intro v3 w3 ho3 hg3 hn3)
        have B3 : Below W1.heap.size W1 w3 := (HB.out.alloc HB.out.size _).grown hg3 (by have := HB.out.size; simp; omega) (fun g e => (hlt0 g e).1)
        go_ret
        exact put_end HW1.out B3 HP2.out (own_push (⟨p, k, v⟩ : Nd) ho3)
      | true =>
        have HP2 := Lib.hid (show acc = putL ns p k v by rw [← HPX]; simp [putGo])
        clear HPX
        go_wp2
        go_ret
        exact put_end HW1.out HB.out HP2.out hrow

end Go.Proofs.Ytoipbocbgadjbaa
