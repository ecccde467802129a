/-
  Texts of this proof, one behind the other: No, Sy, Tn, Fm, Fa, Fb, Fc, Fd, Sw, Ap, Sm, Sx, Pi, Co, Qr, Wa, Of, Ip, Iq, St, Sd.
-/
import Derived.Laws.AppendOwnNone
import Derived.Laws.Concat
import Derived.Laws.Runes
import Derived.Deep.Cut
import Derived.Laws.Cover1
import Derived.Maps.AppendAt
import Derived.OwnWalk
import Derived.Laws.OwnMore
import Derived.Deep.QuietTactic
import Derived.BigQuiet
import Derived.Laws.StructEq
import Derived.Sort.QuietIn
import Derived.RangeFuncCalls
import Derived.Sort.CutIn
import Derived.Deep.RegionHeld3
import Derived.Shelf.LaysM
import Derived.Shelf.Sort.Plain
import Derived.Shelf.Slices.CompactS
import Derived.Shelf.Slices.In.SortNone
import Derived.Sort.OwnSorted
import Derived.Test.YtmdidhlfpaganaaChecked
import Derived.Test.YtmdidhlfpaganaaK2
/-
  WALKS: the nodes behind a place (impl.place.nodes).
-/
namespace Go.Proofs.Ytmdidhlfpaganaa
open Go.RowKit
set_option linter.unusedVariables false

/-- What is behind one letter. -/
def part (F : List UInt8 → Int × Int) (d : Nat) (w : List UInt8) (c : UInt8) : List Nd := oneAt F (w ++ [c]) ++ lst F d (w ++ [c])
def accN (F : List UInt8 → Int × Int) (d : Nat) (w : List UInt8) (n : Nat) : List Nd := (letters.take n).flatMap (part F d w)

theorem accN_four (F : List UInt8 → Int × Int) (d : Nat) (w : List UInt8) : accN F d w 4 = lst F (d + 1) w := rfl

theorem lst_len (F : List UInt8 → Int × Int) : ∀ (d : Nat) (w : List UInt8), (lst F d w).length + 1 ≤ 8 ^ d
  | 0, _ => by simp [lst]
  | d + 1, w => by
    have ho : ∀ u, (oneAt F u).length ≤ 1 := fun u => by unfold oneAt; split <;> simp
    have h1 := lst_len F d (w ++ [97])
    have h2 := lst_len F d (w ++ [98])
    have h3 := lst_len F d (w ++ [99])
    have h4 := lst_len F d (w ++ [100])
    have o1 := ho (w ++ [97])
    have o2 := ho (w ++ [98])
    have o3 := ho (w ++ [99])
    have o4 := ho (w ++ [100])
    have e : (lst F (d + 1) w).length = ((oneAt F (w ++ [97])).length + (lst F d (w ++ [97])).length) + (((oneAt F (w ++ [98])).length + (lst F d (w ++ [98])).length) + (((oneAt F (w ++ [99])).length + (lst F d (w ++ [99])).length) + ((oneAt F (w ++ [100])).length + (lst F d (w ++ [100])).length))) := by
      rw [show lst F (d + 1) w = letters.flatMap (part F d w) from rfl]
      unfold letters
      simp only [List.flatMap_cons, List.flatMap_nil, List.length_append, List.length_nil, Nat.add_zero]
      unfold part
      simp only [List.length_append]
    rw [e, Nat.pow_succ]
    have : 1 ≤ 8 ^ d := Nat.one_le_pow _ _ (by omega)
    omega

theorem lst_le {F : List UInt8 → Int × Int} {d : Nat} (hd : d ≤ 4) (w : List UInt8) : (lst F d w).length ≤ 4096 := by
  have h := lst_len F d w
  have : 8 ^ d ≤ 8 ^ 4 := Nat.pow_le_pow_right (by omega) hd
  omega

theorem accN_le {F : List UInt8 → Int × Int} {d : Nat} (hd : d < 4) (w : List UInt8) (n : Nat) : (accN F d w n).length ≤ 4096 := by
  have h : (accN F d w n).length ≤ (lst F (d + 1) w).length := by
    unfold accN
    rw [show lst F (d + 1) w = (letters.take n ++ letters.drop n).flatMap (part F d w) by rw [List.take_append_drop]; rfl, List.flatMap_append, List.length_append]
    omega
  have := lst_le (F := F) (show d + 1 ≤ 4 by omega) w
  omega

theorem accN_next (F : List UInt8 → Int × Int) (d : Nat) (w : List UInt8) {n : Nat} (hn : n < 4) : accN F d w (n + 1) = accN F d w n ++ part F d w (UInt8.ofNat (97 + n)) := by
  rcases (by omega : n = 0 ∨ n = 1 ∨ n = 2 ∨ n = 3) with rfl | rfl | rfl | rfl <;> simp [accN, letters] <;> rfl

theorem oneAt_zero {F : List UInt8 → Int × Int} {u : List UInt8} (h : (F u).1 = 0) : oneAt F u = [] := if_pos h
theorem oneAt_some {F : List UInt8 → Int × Int} {u : List UInt8} (h : (F u).1 ≠ 0) : oneAt F u = [ndAt F u] := if_neg h

theorem none_down {W : World} {A : List UInt8 → Option Nat} {F : List UInt8 → Int × Int} (h : Trie W A F) {w : List UInt8} (hn : A w = none) : ∀ u, A (w ++ u) = none := by
  intro u
  generalize hl : u.length = n
  induction n generalizing u with
  | zero => rw [List.length_eq_zero_iff.1 hl, List.append_nil]; exact hn
  | succ n ih =>
    have hu : u ≠ [] := fun e => by rw [e] at hl; cases hl
    have e := List.dropLast_concat_getLast hu
    rw [← e, ← List.append_assoc]
    exact h.up _ _ (ih _ (by rw [List.length_dropLast, hl]; rfl))

theorem part_none {W : World} {A : List UInt8 → Option Nat} {F : List UInt8 → Int × Int} (h : Trie W A F) {w : List UInt8} (hw : Wrd w) {d : Nat} (hd : w.length + (d + 1) ≤ 4) {c : UInt8} (hc : Pm.letter c = true) (hn : A (w ++ [c]) = none) : part F d w c = [] := by
  have hz : ∀ u, Wrd (w ++ [c] ++ u) → F (w ++ [c] ++ u) = (0, 0) := fun u hu => h.nil _ hu (none_down h hn u)
  have hwc : ∀ u, u.length ≤ d → (∀ x ∈ u, Pm.letter x = true) → Wrd (w ++ [c] ++ u) := fun u hu hl => ⟨by simp; omega, fun x hx => by
    rcases List.mem_append.1 hx with hx | hx
    · rcases List.mem_append.1 hx with hx | hx
      · exact hw.2 x hx
      · rw [List.mem_singleton.1 hx]; exact hc
    · exact hl x hx⟩
  unfold part
  rw [oneAt_zero, List.nil_append, List.eq_nil_iff_forall_not_mem]
  · intro x hx
    obtain ⟨c', u, h1, h2, h3, _⟩ := mem_lst.1 hx
    rw [hz (c' :: u) (hwc _ (by rw [List.length_cons]; omega) h2)] at h3
    exact h3 rfl
  · have := hz [] (hwc [] (by simp) (by simp))
    rw [List.append_nil] at this
    rw [this]

theorem letter_nth {n : Nat} (hn : n < 4) : Pm.letter (UInt8.ofNat (97 + n)) = true := by
  rcases (by omega : n = 0 ∨ n = 1 ∨ n = 2 ∨ n = 3) with rfl | rfl | rfl | rfl <;> decide

set_option maxHeartbeats 1000000 in
set_option maxRecDepth 100000 in
theorem index4 (a0 a1 a2 a3 : Option Nat) (W : World) : (Instr.index 68 (.agg #[ptrTo a0, ptrTo a1, ptrTo a2, ptrTo a3]) (.int .i64 0)).run Try.prog W = .ok (ptrTo a0) W ∧ (Instr.index 68 (.agg #[ptrTo a0, ptrTo a1, ptrTo a2, ptrTo a3]) (.int .i64 1)).run Try.prog W = .ok (ptrTo a1) W
    ∧ (Instr.index 68 (.agg #[ptrTo a0, ptrTo a1, ptrTo a2, ptrTo a3]) (.int .i64 2)).run Try.prog W = .ok (ptrTo a2) W ∧ (Instr.index 68 (.agg #[ptrTo a0, ptrTo a1, ptrTo a2, ptrTo a3]) (.int .i64 3)).run Try.prog W = .ok (ptrTo a3) W := by
  have h : Try.prog.underlying 68 = some (.array 4 63) := by kernel_rfl
  refine ⟨?_, ?_, ?_, ?_⟩ <;> simp [Instr.index, asIntOf, run_underlying h, go_sem, ptrTo]

theorem indexKid (A : List UInt8 → Option Nat) (w : List UInt8) {n : Nat} (hn : n < 4) (W : World) :
    (Instr.index 68 (.agg #[ptrTo (A (w ++ [97])), ptrTo (A (w ++ [98])), ptrTo (A (w ++ [99])), ptrTo (A (w ++ [100]))]) (.int .i64 n)).run Try.prog W = .ok (ptrTo (A (w ++ [UInt8.ofNat (97 + n)]))) W := by
  obtain ⟨h0, h1, h2, h3⟩ := index4 (A (w ++ [97])) (A (w ++ [98])) (A (w ++ [99])) (A (w ++ [100])) W
  rcases (by omega : n = 0 ∨ n = 1 ∨ n = 2 ∨ n = 3) with rfl | rfl | rfl | rfl
  · exact h0
  · exact h1
  · exact h2
  · exact h3

theorem indexNone {n : Nat} (hn : n < 4) (W : World) :
    (Instr.index 68 (.agg #[.pointer none, .pointer none, .pointer none, .pointer none]) (.int .i64 n)).run Try.prog W = .ok (.pointer none) W := by
  obtain ⟨h0, h1, h2, h3⟩ := index4 none none none none W
  rcases (by omega : n = 0 ∨ n = 1 ∨ n = 2 ∨ n = 3) with rfl | rfl | rfl | rfl
  · exact h0
  · exact h1
  · exact h2
  · exact h3

theorem encode_nth {n : Nat} (hn : n < 4) : Utf8.encode (97 + (n : Int)) = ⟨#[UInt8.ofNat (97 + n)]⟩ := by
  rcases (by omega : n = 0 ∨ n = 1 ∨ n = 2 ∨ n = 3) with rfl | rfl | rfl | rfl <;> rfl

theorem flatN_one_cell (ns : List Nd) : ∀ u ∈ flatN ns, u.oneCell' = true := by
  intro u hu
  unfold flatN at hu
  obtain ⟨n, _, hn⟩ := List.mem_flatMap.1 hu
  simp at hn
  rcases hn with rfl | rfl | rfl <;> rfl

theorem own_cells {W : World} {base : Nat} {e : TypeId} {ns : List Nd} {g cap : Nat} (h : W.ownsRow base e 3 (.slice (some ⟨g, 0, none⟩) ns.length cap) ns.length (flatN ns)) :
    ∀ j u, (flatN ns)[j]? = some u → W.cell? ((⟨g, 0, none⟩ : Addr).add j) = some u := by
  intro j u hj
  have hl := flatN_length ns
  have hj' := (List.getElem?_eq_some_iff.1 hj).1
  have := h.cellAt j (by omega)
  have e2 : ((⟨g, 0, none⟩ : Addr).add j) = ⟨g, j, none⟩ := by
    unfold Addr.add
    split
    · rename_i h0; rw [h0]
    · simp
  rw [e2]
  exact this.trans hj

theorem own_join {W : World} {b : Nat} {e : TypeId} {v : Value} {acc more : List Nd} (h : W.ownsRow b e 3 v (acc.length + more.length) (flatN acc ++ flatN more)) : W.ownsRow b e 3 v (acc ++ more).length (flatN (acc ++ more)) := by
  rw [flatN_append, List.length_append]; exact h

theorem own_cases {W : World} {base : Nat} {e : TypeId} {size n : Nat} {v : Value} {xs : List Value} (h : W.ownsRow base e size v n xs) : (v = .slice none 0 0 ∧ n = 0) ∨ ∃ g cap, v = .slice (some ⟨g, 0, none⟩) n cap := by
  rcases h.2 with h | ⟨g, cap, _, h, _⟩
  · exact .inl h
  · exact .inr ⟨g, cap, h⟩

/-- What nodes returns. -/
def NodesPost (F : List UInt8 → Int × Int) (d : Nat) (w : List UInt8) (W : World) (e : Ending) (W' : World) : Prop := OwnsNodes W.heap.size (lst F d w) e W' ∧ Below W.heap.size W W'

def NodesRel (F : List UInt8 → Int × Int) (d : Nat) (w : List UInt8) (W : World) (o i : Value) (wr : World) : Prop :=
  ∃ n : Nat, i = .int .i64 n ∧ n ≤ 4 ∧ wr.ownsRow W.heap.size 42 3 o (accN F d w n).length (flatN (accN F d w n)) ∧ Hid (Below W.heap.size W wr)

set_option maxHeartbeats 2000000 in
set_option maxRecDepth 100000 in
theorem nodes_c (A : List UInt8 → Option Nat) (F : List UInt8 → Int × Int) (d : Nat) : ∀ (w : List UInt8) (b : Nat) (W : World), w.length + d = 4 → Trie W A F → A w = some b →
    Calls Try.prog 53 #[.pointer (some ⟨b, 0, none⟩), .string (pB w)] W (NodesPost F d w W) := by
  induction d with
  | zero =>
    intro w b W hwd hT hb
    have hw := hT.wrd w b hb
    have hnone : ∀ c, A (w ++ [c]) = none := fun c => by
      cases h : A (w ++ [c]) with
      | none => rfl
      | some x =>
        have := (hT.wrd _ _ h).1
        rw [List.length_append, List.length_singleton] at this
        omega
    have hc := fun W => trim_c hw W
    have hbeg := beg_eq w
    have hts : (if w = [] then (⟨#[]⟩ : ByteArray) else pB w).size ≤ 8 := by
      split
      · decide
      · show (Pm.pathOf w).length ≤ 8
        unfold Pm.pathOf
        split
        · simp
        · rw [Pm.flat_length]; omega
    generalize (if w = [] then (⟨#[]⟩ : ByteArray) else pB w) = tr at hc hbeg hts
    generalize hp : pB w = p at hc ⊢
    have c0 := hT.cell hb 2
    have c1 := hT.cell hb 3
    have c2 := hT.cell hb 4
    have c3 := hT.cell hb 5
    simp only [plc, hnone, ptrTo] at c0 c1 c2 c3
    simp at c0 c1 c2 c3
    have HT := Lib.hid hT
    clear hp hT hb
    go_enter Try.func53, Try.ntmps53
    go_wp2_with (go_at_call 82; refine (hc _).mono ?_; rintro e w' ⟨rfl, rfl⟩)
    go_loop [5, 17] (fun o i => o = .slice none 0 0 ∧ ∃ n : Nat, i = .int .i64 n ∧ n ≤ 4) (fun _ i => 4 - (intOf i).toNat)
    case atStart => exact ⟨rfl, 0, rfl, by omega⟩
    case round =>
      obtain ⟨rfl, n, rfl, hn⟩ := hrel
      by_cases h4 : n = 4
      · subst h4
        go_wp2
        refine bodyPost_ret (v := .slice none 0 0) (by simp [results, Try.f53, go_sem]) rfl ⟨⟨.slice none 0 0, rfl, World.ownsRow_nil _ _ _ _⟩, Below.refl _ _⟩
      · have hni : (n : Int) < 4 := by omega
        have hni0 : (0 : Int) ≤ n := by omega
        have hidx := fun W => indexNone (show n < 4 by omega) W
        go_wp2
        go_round
        case rel => exact ⟨rfl, n + 1, by push_cast; rfl, by omega⟩
        case measure => simp [intOf]; omega
  | succ d ih =>
  intro w b W hwd hT hb
  obtain ⟨i0, hi, hz0, hz1, hz2⟩ := info_parts infoNode
  have hw := hT.wrd w b hb
  have HT := Lib.hid hT
  have HB := Lib.hid hb
  have HI := Lib.hid ih
  have hc := fun W => trim_c hw W
  have hbeg := beg_eq w
  have hts : (if w = [] then (⟨#[]⟩ : ByteArray) else pB w).size ≤ 8 := by
    split
    · decide
    · show (Pm.pathOf w).length ≤ 8
      unfold Pm.pathOf
      split
      · simp
      · rw [Pm.flat_length]; omega
  have hbs : (begB w).size ≤ 9 := by rw [← hbeg, ByteArray.size_append]; show _ + 1 ≤ 9; omega
  generalize (if w = [] then (⟨#[]⟩ : ByteArray) else pB w) = tr at hc hbeg hts
  generalize hp : pB w = p at hc ⊢
  have c0 := hT.cell hb 2
  have c1 := hT.cell hb 3
  have c2 := hT.cell hb 4
  have c3 := hT.cell hb 5
  simp [plc] at c0 c1 c2 c3
  clear hp hT hb ih
  go_enter Try.func53, Try.ntmps53
  go_wp2_with (go_at_call 82; refine (hc _).mono ?_; rintro e w' ⟨rfl, rfl⟩)

  have HBS := Lib.hid hbs
  clear hbeg hts hbs hc
  go_loopw [5, 17] (fun o i wr => NodesRel F d w w' o i wr) (fun _ i _ => 4 - (intOf i).toNat)
  case atStart => exact ⟨0, rfl, by omega, World.ownsRow_nil _ _ _ _, Below.refl _ _⟩
  case round =>
    obtain ⟨n, rfl, hn, hown, hB⟩ := hrel
    by_cases h4 : n = 4
    · subst h4
      go_wp2
      refine bodyPost_ret (v := u5) (by simp [results, Try.f53, go_sem]) rfl ⟨⟨u5, rfl, ?_⟩, hB⟩
      rw [← accN_four]; exact hown
    · have hn4 : n < 4 := by omega
      have hni : (n : Int) < 4 := by omega
      have hni0 : (0 : Int) ≤ n := by omega
      have hidx := fun W => indexKid A w hn4 W
      cases hk : A (w ++ [UInt8.ofNat (97 + n)]) with
      | none =>
        have hidx2 := fun W => (hidx W).trans (show _ = Result.ok (.pointer none) W by rw [hk]; rfl)
        clear hidx
        go_wp2
        go_roundw
        case rel =>
          refine ⟨n + 1, by push_cast; rfl, by omega, ?_, hB⟩
          rw [accN_next F d w hn4, part_none HT.out hw (by omega) (letter_nth hn4) hk, List.append_nil]; exact hown
        case measure => simp [intOf]; omega
      | some b' =>
        have hidx2 := fun W => (hidx W).trans (show _ = Result.ok (.pointer (some ⟨b', 0, none⟩)) W by rw [hk]; rfl)
        clear hidx
        have HL1 := Lib.hid (accN_le (F := F) (d := d) (by omega) w n)
        have henc := encode_nth hn4
        have hname := begB_name w (UInt8.ofNat (97 + n))
        have hbs := HBS.out
        have hc1 : ((⟨#[UInt8.ofNat (97 + n)]⟩ : ByteArray)).size = 1 := rfl
        have hwr : IntKind.i32.wrap (97 + (n : Int)) = 97 + n := by rw [IntKind.wrap_i32]; omega
        have hlet := letter_nth hn4
        have HACC := Lib.hid (accN_next F d w hn4)
        obtain ⟨c, hc⟩ : ∃ c, c = UInt8.ofNat (97 + n) := ⟨_, rfl⟩
        rw [← hc] at henc hname hc1 hlet HACC hk
        have HC := Lib.hid hc
        clear hc
        go_upto_region 8 with (fail)
        have HK := Lib.hid hk
        have HB2 := Lib.hid (show Wrd (w ++ [c]) from HT.out.wrd _ _ hk)
        have k0 := (HT.out.below hB.out).cell hk 0
        have k1 := (HT.out.below hB.out).cell hk 1
        simp only [plc] at k0 k1
        obtain ⟨k, hkk⟩ : ∃ k, k = (F (w ++ [c])).1 := ⟨_, rfl⟩
        obtain ⟨v, hvv⟩ : ∃ v, v = (F (w ++ [c])).2 := ⟨_, rfl⟩
        rw [← hkk] at k0
        rw [← hvv] at k1
        have k0' : wr.cell? ⟨b', 0, none⟩ = some (.int .i64 k) := k0
        have k1' : wr.cell? ⟨b', 1, none⟩ = some (.int .i64 v) := k1
        have HL2 := Lib.hid (lst_le (F := F) (d := d) (by omega) (w ++ [c]))
        clear k0 k1 hk hc1 hbs henc hidx2 hwr
        clear hname
        have HO := Lib.hid hown
        have HCALL := Lib.hid (fun W1 (hT1 : Trie W1 A F) => HI.out (w ++ [c]) b' W1 (by rw [List.length_append, List.length_singleton]; omega) hT1 HK.out)
        by_cases hk0 : k = 0
        · have hkb : (k == 0) = true := by rw [hk0]; rfl
          have HPART := Lib.hid (show part F d w c = lst F d (w ++ [c]) by unfold part; rw [oneAt_zero (by rw [← hkk]; exact hk0)]; rfl)
          subst hk0
          clear hown hkk hvv

          go_wp2_with fail
          refine (HCALL.out _ (HT.out.below hB.out)).mono ?_
          rintro e W2 ⟨⟨sl, rfl, ho2⟩, hb2⟩
          have hoa := own_below HO.out hb2
          have hB2 : Below w'.heap.size w' W2 := below_next hB.out hb2
          have H2 := Lib.hid ho2
          rcases own_cases ho2 with ⟨rfl, hz⟩ | ⟨g, cap, rfl⟩
          · have hz' : lst F d (w ++ [c]) = [] := List.length_eq_zero_iff.1 hz
            clear ho2 hb2 hz
            go_wp2_with (at_builtin; refine wpList_append_own_none rfl _ _ 23 rfl w'.heap.size 42 i0 3 Try.underlying23 hi _ _ _ rfl hoa rfl ?_)
            go_roundw
            case rel =>
              refine ⟨n + 1, by push_cast; rfl, by omega, ?_, hB2⟩
              rw [HACC.out, HPART.out, hz', List.append_nil]
              exact hoa
            case measure => simp [intOf]; omega
          · clear ho2 hb2
            go_wp2_with (at_builtin; refine wpList_append_own _ rfl _ _ 23 rfl w'.heap.size 42 i0 (.agg #[.string ⟨#[]⟩, .int .i64 0, .int .i64 0]) 3 32 Try.underlying23 hi hz0 hz1 hz2 rfl (by decide) _ _ _ rfl hoa ⟨g, 0, none⟩ _ cap (flatN (lst F d (w ++ [c]))) rfl (flatN_length _) (own_cells H2.out) (flatN_one_cell _) (by unfold maxLen; have := HL1.out; have := HL2.out; simp at this ⊢; omega) (by have := HL1.out; have := HL2.out; simp at this ⊢; omega) hB2.size ?_; intro v4 w4 ho4 hg4 hn4)
            have B4 : Below w'.heap.size w' w4 := hB2.grown hg4 hB2.size (fun g e => (hoa.lt g e).1)
            go_roundw
            case rel =>
              refine ⟨n + 1, by push_cast; rfl, by omega, ?_, B4⟩
              rw [HACC.out, HPART.out]
              exact own_join ho4
            case measure => simp [intOf]; omega

        · have hkb : (k == 0) = false := by simpa using hk0
          have HPART := Lib.hid (show part F d w c = [(⟨pB (w ++ [c]), k, v⟩ : Nd)] ++ lst F d (w ++ [c]) by unfold part; rw [oneAt_some (by rw [← hkk]; exact hk0)]; unfold ndAt; rw [← hkk, ← hvv])
          have hlt0 := hown.lt
          clear hown hkk hvv
          generalize hq : pB (w ++ [c]) = q at HCALL HPART ⊢
          go_wp2_with (at_builtin; refine wpList_append_own _ rfl _ _ 23 rfl w'.heap.size 42 i0 (.agg #[.string ⟨#[]⟩, .int .i64 0, .int .i64 0]) 3 32 Try.underlying23 hi hz0 hz1 hz2 rfl (by decide) _ _ _ rfl (HO.out.alloc _) ⟨wr.heap.size, 0, none⟩ 1 1 [.string q, .int .i64 k, .int .i64 v] rfl rfl (cell_three_new _ _ _ _ _) (fun x hx => by simp at hx; rcases hx with rfl | rfl | rfl <;> rfl) (by unfold maxLen; have := HL1.out; omega) (by have := HL1.out; omega) (by have := hB.out.size; simp; omega) ?_; intro v3 w3 ho3 hg3 hn3)
          have B3 : Below w'.heap.size w' w3 := (hB.out.alloc hB.out.size _).grown hg3 (by have := hB.out.size; simp; omega) (fun g e => (hlt0 g e).1)
          go_wp2_with fail
          refine (HCALL.out _ (HT.out.below B3)).mono ?_
          rintro e W2 ⟨⟨sl, rfl, ho2⟩, hb2⟩
          have hoa := own_below (own_push (⟨q, k, v⟩ : Nd) ho3) hb2
          have hB2 : Below w'.heap.size w' W2 := below_next B3 hb2
          have H2 := Lib.hid ho2
          rcases own_cases ho2 with ⟨rfl, hz⟩ | ⟨g, cap, rfl⟩
          · have hz' : lst F d (w ++ [c]) = [] := List.length_eq_zero_iff.1 hz
            clear ho2 hb2 hz
            go_wp2_with (at_builtin; refine wpList_append_own_none rfl _ _ 23 rfl w'.heap.size 42 i0 3 Try.underlying23 hi _ _ _ rfl hoa rfl ?_)
            go_roundw
            case rel =>
              refine ⟨n + 1, by push_cast; rfl, by omega, ?_, hB2⟩
              rw [HACC.out, HPART.out, hz', List.append_nil]
              exact hoa
            case measure => simp [intOf]; omega
          · clear ho2 hb2
            go_wp2_with (at_builtin; refine wpList_append_own _ rfl _ _ 23 rfl w'.heap.size 42 i0 (.agg #[.string ⟨#[]⟩, .int .i64 0, .int .i64 0]) 3 32 Try.underlying23 hi hz0 hz1 hz2 rfl (by decide) _ _ _ rfl hoa ⟨g, 0, none⟩ _ cap (flatN (lst F d (w ++ [c]))) rfl (flatN_length _) (own_cells H2.out) (flatN_one_cell _) (by unfold maxLen; have h5 := HL1.out; have h6 := HL2.out; simp at h5 h6 ⊢; omega) (by have h5 := HL1.out; have h6 := HL2.out; simp at h5 h6 ⊢; omega) hB2.size ?_; intro v4 w4 ho4 hg4 hn4)
            have B4 : Below w'.heap.size w' w4 := hB2.grown hg4 hB2.size (fun g e => (hoa.lt g e).1)
            go_roundw
            case rel =>
              refine ⟨n + 1, by push_cast; rfl, by omega, ?_, B4⟩
              rw [HACC.out, HPART.out, ← List.append_assoc]
              exact own_join ho4
            case measure => simp [intOf]; omega


end Go.Proofs.Ytmdidhlfpaganaa

/-
  WALKS: spec.l91Near, DrawTreeSum, DrawTreeSums, DrawTreeChanged.
-/
namespace Go.Proofs.Ytmdidhlfpaganaa
open Go.RowKit
set_option linter.unusedVariables false

theorem vp_size {p : ByteArray} (h : vpB p = true) : p.size ≤ 8 := by
  obtain ⟨w, hw, rfl⟩ := vpB_word h
  show (Pm.pathOf w).length ≤ 8
  unfold Pm.pathOf
  split
  · simp
  · rw [Pm.flat_length]; have := hw.1; omega

def NearRel (N0 B p : Nat) (n : Int) (W : World) (o i : Value) (wr : World) : Prop :=
  ∃ (acc : List Nd) (j q : Nat), i = .int .i64 j ∧ (j : Int) ≤ n ∧ wr.ownsRow W.heap.size 42 3 o acc.length (flatN acc) ∧ Hid (acc.length ≤ 11) ∧ Hid (Short 64 acc) ∧ Hid (q ≤ p + 1 + 12 * j) ∧ RdAt N0 wr B q ∧ Hid (W.grownBy wr (some B))

set_option maxHeartbeats 2000000 in
set_option maxRecDepth 100000 in
/-- What is behind the copy and the first pick. -/
theorem near_copy (N0 B p base : Nat) (sl : Value) (ns : List Nd) (hlen : ns.length ≤ 11) (hs : Short 64 ns) (hb : B < base) (W : World) (hown : W.ownsRow base 42 3 sl ns.length (flatN ns)) (hp : p < 10000) (hR : RdAt N0 W B p) :
    Calls Try.prog 62 #[.pointer (some ⟨B, 0, none⟩), sl] W (TreeDraw N0 B p 64 11 100 W (fun _ => True)) := by
  obtain ⟨i0, hi, hz0, hz1, hz2⟩ := info_parts infoNode
  have HLT := Lib.hid hR.lt
  have HPK := Lib.hid (fun W1 hR1 => pick_c N0 B p 8 (by omega) (by omega) W1 (by omega) hR1)
  have HC := Lib.hid (fun q W hq hR => l91Content_c N0 B q W hq hR)
  have HIN := Lib.hid (fun q sl ns h1 h2 W1 h3 h4 h5 => l91In_c N0 B q W.heap.size sl ns h1 h2 HLT.out W1 h3 h4 h5)
  have HPP := Lib.hid hp
  have HSH := Lib.hid hs
  have HLN := Lib.hid hlen
  have HR0 := Lib.hid hR
  have HOW := Lib.hid hown
  clear hs hlen hp hR hb
  rcases own_cases hown with ⟨rfl, hz⟩ | ⟨g, cap, rfl⟩
  · have hns : ns = [] := List.length_eq_zero_iff.1 hz
    subst hns
    clear hown hz
    have HO4 := Lib.hid (World.ownsRow_lit (e := 42) (size := 3) W #[] 0 (Nat.le_refl _) (by simp [maxLen]) rfl)
    have HB4 := Lib.hid (below_box W (.cells #[] 42))
    go_enter Try.func62, Try.ntmps62
    go_wp2_with (at_builtin; refine wpList_append_own_none rfl _ _ 23 rfl W.heap.size 42 i0 3 Try.underlying23 hi _ _ _ rfl HO4.out rfl ?_)
    refine (HPK.out _ (HR0.out.keep HB4.out)).mono ?_; rintro e W1 ⟨r, rfl, r0, r1, hR1, hg1⟩
    have HO1 := Lib.hid (own_reader HO4.out HLT.out hg1)
    have HG1 := Lib.hid (grownBy_trans (grownBy_none (below_grown HB4.out) (some B)) hg1)
    have HRR := Lib.hid (And.intro r0 r1)
    have HR1 := Lib.hid hR1
    clear hg1 r0 r1 hR1
    go_wp2_with fail
    go_loopw [5, 7, 8, 9] (fun o i _ _ wr => NearRel N0 B p r W o i wr) (fun _ i _ _ _ => (r - intOf i).toNat)
    case atStart => exact ⟨[], 0, p + 1, rfl, HRR.out.1, HO1.out, HLN.out, HSH.out, (by show p + 1 ≤ _; omega), HR1.out, HG1.out⟩
    case round =>
      obtain ⟨acc, j, q, rfl, hj, hrow, HAL, HS, HQ, hRq, HG⟩ := hrel
      have HO := Lib.hid hrow
      by_cases hlt : (j : Int) < r
      · have HJ := Lib.hid hlt
        have HJ7 := Lib.hid (show (j : Int) ≤ 7 by have := HRR.out.2; omega)
        have hj7 : (j : Int) ≤ 7 := HJ7.out
        obtain ⟨ao, co, rfl, -⟩ := nodes_of_own hrow
        have HI := Lib.hid (HIN.out q _ acc (by have := HAL.out; omega) HS.out wr HO.out (by have := HQ.out; have := HPP.out; have := HJ7.out; omega) hRq)
        clear hj hrow hRq
        go_wp2_with fail
        refine HI.out.mono ?_; rintro e W2 ⟨s, q2, rfl, hss, hq2, hR2, hg2⟩
        have HO2 := Lib.hid (own_reader HO.out HLT.out hg2)
        have HQ2 := Lib.hid (And.intro hss hq2)
        clear hss hq2
        go_wp2_with fail
        refine (HC.out q2 _ (by have := HQ.out; have := HQ2.out.2; have := HPP.out; have := HJ7.out; omega) hR2).mono ?_; rintro e W3 ⟨k, v, q3, rfl, -, -, -, -, hq3, hR3, hg3⟩
        have hrow3 := own_reader HO2.out HLT.out hg3
        have HQ3 := Lib.hid hq3
        have HG3 := Lib.hid (grownBy_trans HG.out (grownBy_trans hg2 hg3))
        obtain ⟨ao', co', he, hNo⟩ := nodes_of_own hrow3
        cases he
        have HTP := Lib.hid (specTreePut_c ao acc.length co acc s k v (by have := HAL.out; omega) (fun n hn => by have := HS.out n hn; omega) (by have := HQ2.out.1; omega) W3 hNo)
        have HO3 := Lib.hid hrow3
        have HR3 := Lib.hid hR3
        clear hq3 hR2 hg2 hg3 hNo hrow3 hR3
        go_wp2_with fail
        refine HTP.out.mono ?_; rintro e W5 ⟨sl, out, b, rfl, hb, hown, hb4⟩
        have HR4 := Lib.hid (HR3.out.keep hb4)
        have HG4 := Lib.hid (grownBy_below HG3.out hb4)
        cases b with
        | true =>
          have hr : treePut acc s k v = some out := by
            rcases hb with ⟨-, h⟩ | ⟨h, -⟩
            · exact h
            · cases h
          obtain ⟨-, hd5, -, h5, h6⟩ := treePut_some hr
          have HL4 : Hid (out.length ≤ 11) := by show out.length ≤ 11; have := ((validT_iff _).1 h6).2.2; omega
          have HS4 : Hid (Short 64 out) := by show Short 64 out; rw [h5]; exact short_put HS.out (by have := vp_size (vp_of_depth hd5); omega)
          have hown4 := own_mono hown HG3.out.size
          clear hb hr h5 h6 hd5 hown hb4
          go_wp2
          go_roundw
          case rel => exact ⟨out, j + 1, q3, by push_cast; rfl, by have := HJ.out; omega, hown4, HL4, HS4, (by show q3 ≤ _; have h5 := HQ.out; have h6 := HQ3.out; have h7 := HQ2.out.2; omega), HR4.out, HG4⟩
          case measure => have := HJ.out; simp [intOf]; omega
        | false =>
          have hown4 := own_below HO3.out hb4
          clear hb hown hb4
          go_wp2
          go_roundw
          case rel => exact ⟨acc, j + 1, q3, by push_cast; rfl, by have := HJ.out; omega, hown4, HAL, HS, (by show q3 ≤ _; have h5 := HQ.out; have h6 := HQ3.out; have h7 := HQ2.out.2; omega), HR4.out, HG4⟩
          case measure => have := HJ.out; simp [intOf]; omega
      · have hge : r ≤ (j : Int) := by omega
        have HJ := Lib.hid hj
        have hR9 := hRq
        clear hj hrow hRq
        have HRq := Lib.hid hR9
        clear hR9
        go_wp2
        go_ret
        exact ⟨_, acc, q, rfl, HO.out, trivial, HAL.out, HS.out, by have h5 := HQ.out; have h6 := HJ.out; have h7 := HRR.out; omega, HRq.out, HG.out⟩
  · clear hown
    go_enter Try.func62, Try.ntmps62
    go_wp2_with (at_builtin; refine wpList_append_own _ rfl _ _ 23 rfl W.heap.size 42 i0 (.agg #[.string ⟨#[]⟩, .int .i64 0, .int .i64 0]) 3 32 Try.underlying23 hi hz0 hz1 hz2 rfl (by decide) _ _ _ rfl (World.ownsRow_lit (e := 42) (size := 3) W #[] 0 (Nat.le_refl _) (by simp [maxLen]) rfl) ⟨g, 0, none⟩ _ cap (flatN ns) rfl (flatN_length _) (own_cells (own_below HOW.out (below_box _ _))) (flatN_one_cell _) (by unfold maxLen; have := HLN.out; simp; omega) (by have := HLN.out; simp; omega) (by simp) ?_; intro v4 w4 ho4 hg4 hn4)
    rw [Nat.zero_add] at ho4
    have HO4 := Lib.hid (show w4.ownsRow W.heap.size 42 3 v4 ns.length (flatN ns) from ho4)
    have HB4 := Lib.hid ((below_box W (.cells #[] 42)).grown hg4 (by simp) (fun k e => by cases e; exact Nat.le_refl _))
    clear ho4 hg4 hn4
    refine (HPK.out _ (HR0.out.keep HB4.out)).mono ?_; rintro e W1 ⟨r, rfl, r0, r1, hR1, hg1⟩
    have HO1 := Lib.hid (own_reader HO4.out HLT.out hg1)
    have HG1 := Lib.hid (grownBy_trans (grownBy_none (below_grown HB4.out) (some B)) hg1)
    have HRR := Lib.hid (And.intro r0 r1)
    have HR1 := Lib.hid hR1
    clear hg1 r0 r1 hR1
    go_wp2_with fail
    go_loopw [5, 7, 8, 9] (fun o i _ _ wr => NearRel N0 B p r W o i wr) (fun _ i _ _ _ => (r - intOf i).toNat)
    case atStart => exact ⟨ns, 0, p + 1, rfl, HRR.out.1, HO1.out, HLN.out, HSH.out, (by show p + 1 ≤ _; omega), HR1.out, HG1.out⟩
    case round =>
      obtain ⟨acc, j, q, rfl, hj, hrow, HAL, HS, HQ, hRq, HG⟩ := hrel
      have HO := Lib.hid hrow
      by_cases hlt : (j : Int) < r
      · have HJ := Lib.hid hlt
        have HJ7 := Lib.hid (show (j : Int) ≤ 7 by have := HRR.out.2; omega)
        have hj7 : (j : Int) ≤ 7 := HJ7.out
        obtain ⟨ao, co, rfl, -⟩ := nodes_of_own hrow
        have HI := Lib.hid (HIN.out q _ acc (by have := HAL.out; omega) HS.out wr HO.out (by have := HQ.out; have := HPP.out; have := HJ7.out; omega) hRq)
        clear hj hrow hRq
        go_wp2_with fail
        refine HI.out.mono ?_; rintro e W2 ⟨s, q2, rfl, hss, hq2, hR2, hg2⟩
        have HO2 := Lib.hid (own_reader HO.out HLT.out hg2)
        have HQ2 := Lib.hid (And.intro hss hq2)
        clear hss hq2
        go_wp2_with fail
        refine (HC.out q2 _ (by have := HQ.out; have := HQ2.out.2; have := HPP.out; have := HJ7.out; omega) hR2).mono ?_; rintro e W3 ⟨k, v, q3, rfl, -, -, -, -, hq3, hR3, hg3⟩
        have hrow3 := own_reader HO2.out HLT.out hg3
        have HQ3 := Lib.hid hq3
        have HG3 := Lib.hid (grownBy_trans HG.out (grownBy_trans hg2 hg3))
        obtain ⟨ao', co', he, hNo⟩ := nodes_of_own hrow3
        cases he
        have HTP := Lib.hid (specTreePut_c ao acc.length co acc s k v (by have := HAL.out; omega) (fun n hn => by have := HS.out n hn; omega) (by have := HQ2.out.1; omega) W3 hNo)
        have HO3 := Lib.hid hrow3
        have HR3 := Lib.hid hR3
        clear hq3 hR2 hg2 hg3 hNo hrow3 hR3
        go_wp2_with fail
        refine HTP.out.mono ?_; rintro e W5 ⟨sl, out, b, rfl, hb, hown, hb4⟩
        have HR4 := Lib.hid (HR3.out.keep hb4)
        have HG4 := Lib.hid (grownBy_below HG3.out hb4)
        cases b with
        | true =>
          have hr : treePut acc s k v = some out := by
            rcases hb with ⟨-, h⟩ | ⟨h, -⟩
            · exact h
            · cases h
          obtain ⟨-, hd5, -, h5, h6⟩ := treePut_some hr
          have HL4 : Hid (out.length ≤ 11) := by show out.length ≤ 11; have := ((validT_iff _).1 h6).2.2; omega
          have HS4 : Hid (Short 64 out) := by show Short 64 out; rw [h5]; exact short_put HS.out (by have := vp_size (vp_of_depth hd5); omega)
          have hown4 := own_mono hown HG3.out.size
          clear hb hr h5 h6 hd5 hown hb4
          go_wp2
          go_roundw
          case rel => exact ⟨out, j + 1, q3, by push_cast; rfl, by have := HJ.out; omega, hown4, HL4, HS4, (by show q3 ≤ _; have h5 := HQ.out; have h6 := HQ3.out; have h7 := HQ2.out.2; omega), HR4.out, HG4⟩
          case measure => have := HJ.out; simp [intOf]; omega
        | false =>
          have hown4 := own_below HO3.out hb4
          clear hb hown hb4
          go_wp2
          go_roundw
          case rel => exact ⟨acc, j + 1, q3, by push_cast; rfl, by have := HJ.out; omega, hown4, HAL, HS, (by show q3 ≤ _; have h5 := HQ.out; have h6 := HQ3.out; have h7 := HQ2.out.2; omega), HR4.out, HG4⟩
          case measure => have := HJ.out; simp [intOf]; omega
      · have hge : r ≤ (j : Int) := by omega
        have HJ := Lib.hid hj
        have hR9 := hRq
        clear hj hrow hRq
        have HRq := Lib.hid hR9
        clear hR9
        go_wp2
        go_ret
        exact ⟨_, acc, q, rfl, HO.out, trivial, HAL.out, HS.out, by have h5 := HQ.out; have h6 := HJ.out; have h7 := HRR.out; omega, HRq.out, HG.out⟩

set_option maxHeartbeats 1000000 in
set_option maxRecDepth 100000 in
theorem drawTreeSum_c (a : Option Addr) (len cap : Nat) (zs : List Int) (W : World) (h : IsRow .u8 W a len cap zs) :
    Calls Try.prog 12 #[.slice a len cap] W (ListPathPost W) := by
  have HD := Lib.hid (drawTreeUnder_c a len cap zs W h)
  clear h
  go_enter Try.func12, Try.ntmps12
  go_wp2_with fail
  refine HD.out.mono ?_
  rintro e W1 ⟨sl, ns, s, rfl, hs, hd⟩
  have HX := Lib.hid (show ListPathPost W (.returned (.tuple #[sl, .string s])) W1 from ⟨sl, ns, s, rfl, hs, hd⟩)
  clear hs hd
  go_wp2
  go_ret2
  exact HX.out

set_option maxHeartbeats 1000000 in
set_option maxRecDepth 100000 in
theorem drawTreeSums_c (a : Option Addr) (len cap : Nat) (zs : List Int) (W : World) (h : IsRow .u8 W a len cap zs) :
    Calls Try.prog 18 #[.slice a len cap] W (ListPost W) := by
  have HO := Lib.hid (l6Open_c a len cap zs W h)
  have HA := Lib.hid (fun W1 hR => l91Any_c (W.heap.size + 1) W.heap.size 0 W1 (by omega) hR)
  clear h
  go_enter Try.func18, Try.ntmps18
  go_wp2_with fail
  refine HO.out.mono ?_; rintro e W1 ⟨rfl, hR, hB⟩
  go_wp2_with fail
  refine (HA.out _ hR).mono ?_; rintro e W2 ⟨sl, ns, q, rfl, hown, -, hl, hs, -, -, hg⟩
  have HX := Lib.hid (show ListPost W (.returned sl) W2 from ⟨sl, ns, rfl, own_mono hown hB.size, hl, hs, below_of_reader hB hg⟩)
  clear hown hl hs hg hR hB
  go_wp2
  go_ret
  exact HX.out

/-- Two drawn lists of nodes. -/
def TwoPost (W : World) (e : Ending) (W' : World) : Prop := ∃ s1 ns s2 ms, e = .returned (.tuple #[s1, s2]) ∧ Drawn W W' s1 ns ∧ Drawn W W' s2 ms

set_option maxHeartbeats 1000000 in
set_option maxRecDepth 100000 in
theorem drawTreeChanged_c (a : Option Addr) (len cap : Nat) (zs : List Int) (W : World) (h : IsRow .u8 W a len cap zs) :
    Calls Try.prog 23 #[.slice a len cap] W (TwoPost W) := by
  have HO := Lib.hid (l6Open_c a len cap zs W h)
  have HA := Lib.hid (fun p hp W1 hR => l91Any_c (W.heap.size + 1) W.heap.size p W1 hp hR)
  have HPK := Lib.hid (fun q W1 hq hR => pick_c (W.heap.size + 1) W.heap.size q 4 (by omega) (by omega) W1 hq hR)
  clear h
  go_enter Try.func23, Try.ntmps23
  go_wp2_with fail
  refine HO.out.mono ?_; rintro e W1 ⟨rfl, hR, hB⟩
  have HB1 := Lib.hid hB
  have HLT := Lib.hid hR.lt
  clear hB
  go_wp2_with fail
  refine (HA.out 0 (by omega) _ hR).mono ?_; rintro e W2 ⟨sl, ns, q, rfl, hown, -, hl, hs, hq, hR2, hg⟩
  have HLN := Lib.hid (And.intro hl hs)
  have HQ := Lib.hid hq
  have HG2 := Lib.hid hg
  have HO2 := Lib.hid hown
  clear hown hl hs hg hR hq
  go_wp2_with fail
  refine (HPK.out q _ (by have := HQ.out; omega) hR2).mono ?_; rintro e W3 ⟨r, rfl, r0, r1, hR3, hg3⟩
  have HO3 := Lib.hid (own_reader HO2.out HLT.out hg3)
  have HG3 := Lib.hid (grownBy_trans HG2.out hg3)
  clear hg3 hR2
  by_cases hr : r = 0
  · subst hr
    clear r0 r1
    go_wp2_with fail
    refine (HA.out (q + 1) (by have := HQ.out; omega) _ hR3).mono ?_; rintro e W4 ⟨s2, ms, q2, rfl, hown2, -, hl2, hs2, -, -, hg4⟩
    have HY := Lib.hid (show TwoPost W (.returned (.tuple #[sl, s2])) W4 from ⟨sl, ns, s2, ms, rfl,
      ⟨own_mono (own_reader HO3.out HLT.out hg4) HB1.out.size, HLN.out.1, HLN.out.2, below_of_reader HB1.out (grownBy_trans HG3.out hg4)⟩,
      ⟨own_mono hown2 (Nat.le_trans HB1.out.size HG3.out.size), hl2, hs2, below_of_reader HB1.out (grownBy_trans HG3.out hg4)⟩⟩)
    clear hown2 hl2 hs2 hg4 hR3
    go_wp2
    go_ret2
    exact HY.out
  · have hr' : (r == 0) = false := beq_eq_false_iff_ne.2 hr
    clear r0 r1 hr
    have HNR := Lib.hid (near_copy (W.heap.size + 1) W.heap.size (q + 1) W1.heap.size sl ns HLN.out.1 HLN.out.2 HLT.out W3 HO3.out (by have := HQ.out; omega) hR3)
    go_wp2_with fail
    refine HNR.out.mono ?_; rintro e W4 ⟨s2, ms, q2, rfl, hown2, -, hl2, hs2, -, -, hg4⟩
    have HY := Lib.hid (show TwoPost W (.returned (.tuple #[sl, s2])) W4 from ⟨sl, ns, s2, ms, rfl,
      ⟨own_mono (own_reader HO3.out HLT.out hg4) HB1.out.size, HLN.out.1, HLN.out.2, below_of_reader HB1.out (grownBy_trans HG3.out hg4)⟩,
      ⟨own_mono hown2 (Nat.le_trans HB1.out.size HG3.out.size), hl2, hs2, below_of_reader HB1.out (grownBy_trans HG3.out hg4)⟩⟩)
    clear hown2 hl2 hs2 hg4 hR3
    go_wp2
    go_ret2
    exact HY.out

end Go.Proofs.Ytmdidhlfpaganaa

/-
  WALKS: spec.TreeUnder.
-/
namespace Go.Proofs.Ytmdidhlfpaganaa
open Go.RowKit
set_option linter.unusedVariables false

/-- A list of texts that the call has made, and nothing that was there has turned. -/
def TextsPost (xs : List ByteArray) (W : World) (e : Ending) (w' : World) : Prop :=
  (∃ sl, e = .returned sl ∧ w'.ownsRow W.heap.size 9 1 sl xs.length (xs.map Value.string)) ∧ Below W.heap.size W w'

def undAcc (ns : List Nd) (p : ByteArray) (i : Nat) : List ByteArray := ((ns.take i).filter (fun n => undB p n.p)).map Nd.p

theorem undAcc_yes {ns : List Nd} {p : ByteArray} {i : Nat} {n : Nd} (hn : ns[i]? = some n) (h : undB p n.p = true) : undAcc ns p (i + 1) = undAcc ns p i ++ [n.p] := by
  unfold undAcc
  rw [List.take_add_one, hn]
  simp [List.filter_append, h]

theorem undAcc_no {ns : List Nd} {p : ByteArray} {i : Nat} {n : Nd} (hn : ns[i]? = some n) (h : undB p n.p = false) : undAcc ns p (i + 1) = undAcc ns p i := by
  unfold undAcc
  rw [List.take_add_one, hn]
  simp [List.filter_append, h]

theorem undAcc_len (ns : List Nd) (p : ByteArray) (i : Nat) : (undAcc ns p i).length ≤ i := by
  unfold undAcc
  rw [List.length_map]
  exact Nat.le_trans (List.length_filter_le _ _) (by rw [List.length_take]; omega)

def UnderRel (ns : List Nd) (p : ByteArray) (W : World) (o i : Value) (wr : World) : Prop :=
  ∃ n : Nat, i = .int .i64 n ∧ n ≤ ns.length ∧ wr.ownsRow W.heap.size 9 1 o (undAcc ns p n).length ((undAcc ns p n).map Value.string) ∧ Hid (Below W.heap.size W wr)

theorem under_none {ns : List Nd} {p : ByteArray} (h : (validT ns && vpB p) = false) : treeUnder ns p = [] := by unfold treeUnder; rw [h]; rfl

end Go.Proofs.Ytmdidhlfpaganaa

/-
  PLAIN MATHEMATICS OF FRAMES: bodies, their sums, frames, and what a scan finds.
-/
namespace Go.Proofs.Ytmdidhlfpaganaa

def byteOk (x : Int) : Bool := decide (0 ≤ x ∧ x ≤ 255)
def bodyOk (b : List Int) : Bool := b.all byteOk && decide (1 ≤ b.length ∧ b.length ≤ 16)
def sumStep (n x : Int) : Int := (31 * n + x) % 251
def sumB (b : List Int) : Int := b.foldl sumStep 7
def bodySum (b : List Int) : Int := if bodyOk b = true then sumB b else -1
def frame (b : List Int) : List Int := (b.length : Int) :: (b ++ [sumB b])
def frameOf (b : List Int) : List Int := if bodyOk b = true then frame b else []
def framesL (bs : List (List Int)) : List Int := bs.flatMap frame
def framesOf (bs : List (List Int)) : Option (List Int) := if (bs.all bodyOk && decide (bs.length ≤ 40)) = true then some (framesL bs) else none

theorem frame_length (b : List Int) : (frame b).length = b.length + 2 := by simp [frame]
theorem framesL_append (a b : List (List Int)) : framesL (a ++ b) = framesL a ++ framesL b := by unfold framesL; rw [List.flatMap_append]
theorem framesL_cons (b : List Int) (bs : List (List Int)) : framesL (b :: bs) = frame b ++ framesL bs := rfl
theorem framesL_one (b : List Int) : framesL [b] = frame b := by simp [framesL]

theorem bodyOk_len {b : List Int} (h : bodyOk b = true) : 1 ≤ b.length ∧ b.length ≤ 16 := by
  unfold bodyOk at h
  simp only [Bool.and_eq_true, decide_eq_true_eq] at h
  exact h.2
theorem bodyOk_byte {b : List Int} (h : bodyOk b = true) {x : Int} (hx : x ∈ b) : 0 ≤ x ∧ x ≤ 255 := by
  unfold bodyOk at h
  simp only [Bool.and_eq_true, List.all_eq_true] at h
  have := h.1 x hx
  unfold byteOk at this
  simpa using this

theorem sumStep_range (n x : Int) : 0 ≤ sumStep n x ∧ sumStep n x ≤ 250 := by unfold sumStep; omega
theorem foldl_range : ∀ (b : List Int) (n : Int), 0 ≤ n → n ≤ 250 → 0 ≤ b.foldl sumStep n ∧ b.foldl sumStep n ≤ 250
  | [], _, h1, h2 => ⟨h1, h2⟩
  | x :: r, n, _, _ => by
    obtain ⟨a, b⟩ := sumStep_range n x
    exact foldl_range r _ a b
theorem sumB_range (b : List Int) : 0 ≤ sumB b ∧ sumB b ≤ 250 := foldl_range b 7 (by omega) (by omega)

theorem foldl_inj : ∀ (b : List Int) (n m : Int), 0 ≤ n → n ≤ 250 → 0 ≤ m → m ≤ 250 → n ≠ m → b.foldl sumStep n ≠ b.foldl sumStep m
  | [], _, _, _, _, _, _, h => h
  | x :: r, n, m, h1, h2, h3, h4, h => by
    obtain ⟨a, b⟩ := sumStep_range n x
    obtain ⟨c, d⟩ := sumStep_range m x
    refine foldl_inj r _ _ a b c d ?_
    unfold sumStep
    omega

/-- A changed byte changes the sum. -/
theorem sum_changed {b : List Int} {k : Nat} {x y : Int} (hk : b[k]? = some x) (hxy : y = x + 1 ∨ y = x - 1) : sumB (b.set k y) ≠ sumB b := by
  have hl := (List.getElem?_eq_some_iff.1 hk).1
  have hx := (List.getElem?_eq_some_iff.1 hk).2
  have e1 : b = b.take k ++ x :: b.drop (k + 1) := by
    rw [← hx, List.getElem_cons_drop, List.take_append_drop]
  have e2 : b.set k y = b.take k ++ y :: b.drop (k + 1) := List.set_eq_take_append_cons_drop.trans (if_pos hl)
  rw [e2]
  conv => rhs; rw [e1]
  unfold sumB
  rw [List.foldl_append, List.foldl_append, List.foldl_cons, List.foldl_cons]
  obtain ⟨a, b'⟩ := foldl_range (b.take k) 7 (by omega) (by omega)
  generalize (b.take k).foldl sumStep 7 = n at a b'
  obtain ⟨p, q⟩ := sumStep_range n y
  obtain ⟨r, s⟩ := sumStep_range n x
  refine foldl_inj _ _ _ p q r s ?_
  unfold sumStep
  omega

/-! ## Scanning -/

/-- A whole frame at the beginning: its body. -/
def headOk (n : Int) (rest : List Int) : Bool :=
  decide (1 ≤ n ∧ n ≤ 16) && (decide (n.toNat + 1 ≤ rest.length) && (bodyOk (rest.take n.toNat) && decide (rest[n.toNat]? = some (sumB (rest.take n.toNat)))))

def scanF : Nat → List Int → List (List Int) × Nat
  | 0, _ => ([], 0)
  | _ + 1, [] => ([], 0)
  | f + 1, n :: rest => if headOk n rest = true then ((rest.take n.toNat) :: (scanF f (rest.drop (n.toNat + 1))).1, n.toNat + 2 + (scanF f (rest.drop (n.toNat + 1))).2) else ([], 0)

def scanL (l : List Int) : List (List Int) × Nat := scanF l.length l

theorem headOk_iff (n : Int) (rest : List Int) : headOk n rest = true ↔ (1 ≤ n ∧ n ≤ 16) ∧ n.toNat + 1 ≤ rest.length ∧ bodyOk (rest.take n.toNat) = true ∧ rest[n.toNat]? = some (sumB (rest.take n.toNat)) := by
  unfold headOk
  simp only [Bool.and_eq_true, decide_eq_true_eq]

theorem scanF_more : ∀ (f g : Nat) (l : List Int), l.length ≤ f → l.length ≤ g → scanF f l = scanF g l
  | 0, 0, _, _, _ => rfl
  | 0, g + 1, [], _, _ => rfl
  | f + 1, 0, [], _, _ => rfl
  | f + 1, g + 1, [], _, _ => rfl
  | f + 1, g + 1, n :: rest, h1, h2 => by
    unfold scanF
    have : scanF f (rest.drop (n.toNat + 1)) = scanF g (rest.drop (n.toNat + 1)) := scanF_more f g _ (by rw [List.length_drop]; simp at h1; omega) (by rw [List.length_drop]; simp at h2; omega)
    rw [this]

theorem scanL_cons (n : Int) (rest : List Int) : scanL (n :: rest) = if headOk n rest = true then ((rest.take n.toNat) :: (scanL (rest.drop (n.toNat + 1))).1, n.toNat + 2 + (scanL (rest.drop (n.toNat + 1))).2) else ([], 0) := by
  unfold scanL
  show scanF (rest.length + 1) (n :: rest) = _
  conv => lhs; unfold scanF
  rw [scanF_more rest.length (rest.drop (n.toNat + 1)).length _ (by rw [List.length_drop]; omega) (Nat.le_refl _)]

theorem scanL_nil : scanL [] = ([], 0) := rfl

theorem head_frame {b : List Int} (h : bodyOk b = true) (rest : List Int) : headOk (b.length : Int) (b ++ [sumB b] ++ rest) = true := by
  rw [headOk_iff]
  have hl := bodyOk_len h
  have e : (b.length : Int).toNat = b.length := by omega
  rw [e]
  have ht : (b ++ [sumB b] ++ rest).take b.length = b := by rw [List.append_assoc, List.take_left']; rfl
  refine ⟨by omega, by simp, by rw [ht]; exact h, ?_⟩
  rw [ht, List.append_assoc, List.getElem?_append_right (Nat.le_refl _)]
  simp

theorem scan_frame {b : List Int} (h : bodyOk b = true) (rest : List Int) : scanL (frame b ++ rest) = (b :: (scanL rest).1, b.length + 2 + (scanL rest).2) := by
  unfold frame
  rw [List.cons_append, scanL_cons, if_pos (head_frame h rest)]
  have e : (b.length : Int).toNat = b.length := by omega
  rw [e]
  have ht : (b ++ [sumB b] ++ rest).take b.length = b := by rw [List.append_assoc, List.take_left']; rfl
  have hd : (b ++ [sumB b] ++ rest).drop (b.length + 1) = rest := by
    rw [List.drop_left']; simp
  rw [ht, hd]

/-- What was framed is found. -/
theorem scan_frames : ∀ {bs : List (List Int)}, bs.all bodyOk = true → ∀ rest, scanL (framesL bs ++ rest) = (bs ++ (scanL rest).1, (framesL bs).length + (scanL rest).2)
  | [], _, rest => by simp [framesL]
  | b :: bs, h, rest => by
    simp only [List.all_cons, Bool.and_eq_true] at h
    rw [framesL_cons, List.append_assoc, scan_frame h.1, scan_frames h.2]
    simp [frame_length]
    omega

theorem scan_all {bs : List (List Int)} (h : bs.all bodyOk = true) : scanL (framesL bs) = (bs, (framesL bs).length) := by
  have := scan_frames h []
  rw [List.append_nil, scanL_nil] at this
  simpa using this

/-- A frame that lacks its last number is none. -/
theorem scan_torn {b : List Int} (h : bodyOk b = true) : scanL (frame b).dropLast = ([], 0) := by
  unfold frame
  have hl := bodyOk_len h
  have : ((b.length : Int) :: (b ++ [sumB b])).dropLast = (b.length : Int) :: b := by
    rw [← List.cons_append, List.dropLast_concat]
  rw [this, scanL_cons, if_neg]
  rw [headOk_iff]
  rintro ⟨_, h2, _⟩
  have e : (b.length : Int).toNat = b.length := by omega
  omega

theorem scan_torn_all {bs : List (List Int)} {b : List Int} (h : (bs ++ [b]).all bodyOk = true) : scanL (framesL (bs ++ [b])).dropLast = (bs, (framesL bs).length) := by
  simp only [List.all_append, Bool.and_eq_true, List.all_cons, List.all_nil, and_true] at h
  rw [framesL_append, framesL_one, List.dropLast_append_of_ne_nil (by simp [frame]), scan_frames h.1, scan_torn h.2]
  simp

/-- What is found was framed. -/
theorem scan_sound : ∀ (l : List Int), (scanL l).1.all bodyOk = true ∧ framesL (scanL l).1 = l.take (scanL l).2 ∧ (scanL l).2 ≤ l.length := by
  intro l
  generalize hn : l.length = m
  induction m using Nat.strongRecOn generalizing l with
  | ind m ih =>
    match l with
    | [] => exact ⟨rfl, rfl, by simp [scanL_nil]⟩
    | n :: rest =>
      rw [scanL_cons]
      by_cases h : headOk n rest = true
      · rw [if_pos h]
        obtain ⟨h1, h2, h3, h4⟩ := (headOk_iff _ _).1 h
        obtain ⟨i1, i2, i3⟩ := ih (rest.drop (n.toNat + 1)).length (by rw [List.length_drop]; simp at hn; omega) _ rfl
        have hdl : (rest.drop (n.toNat + 1)).length = rest.length - (n.toNat + 1) := List.length_drop
        have htl : (rest.take n.toNat).length = n.toNat := by rw [List.length_take]; omega
        have hfr : frame (rest.take n.toNat) = n :: rest.take (n.toNat + 1) := by
          unfold frame
          rw [htl, List.take_add_one, h4, show ((n.toNat : Nat) : Int) = n by omega]
          rfl
        refine ⟨by simp only [List.all_cons, Bool.and_eq_true]; exact ⟨h3, i1⟩, ?_, ?_⟩
        · show framesL (_ :: _) = _
          rw [framesL_cons, i2, hfr]
          show n :: (rest.take (n.toNat + 1) ++ _) = _
          have ej : n.toNat + 2 + (scanL (rest.drop (n.toNat + 1))).2 = (n.toNat + 1 + (scanL (rest.drop (n.toNat + 1))).2) + 1 := by omega
          rw [ej, List.take_succ_cons]
          congr 1
          generalize (scanL (rest.drop (n.toNat + 1))).2 = j
          exact (List.take_add (l := rest) (i := n.toNat + 1) (j := j)).symm
        · show n.toNat + 2 + _ ≤ m
          simp at hn
          omega
      · rw [if_neg h]
        exact ⟨rfl, rfl, Nat.zero_le _⟩

/-- Good frames stay good. -/
theorem scan_more (l : List Int) {b : List Int} (h : bodyOk b = true) : scanL (l.take (scanL l).2 ++ frame b) = ((scanL l).1 ++ [b], (scanL l).2 + b.length + 2) := by
  obtain ⟨h1, h2, h3⟩ := scan_sound l
  have hl : (framesL (scanL l).1).length = (scanL l).2 := by rw [h2, List.length_take]; omega
  rw [← h2, ← framesL_one b, ← framesL_append, scan_all (by rw [List.all_append, h1]; simp [h]), framesL_append, List.length_append, hl, framesL_one, frame_length]
  rfl

/-- A part of the numbers has a part of the bodies. -/
theorem scan_part : ∀ (l : List Int) (k : Nat), (scanL (l.take k)).2 ≤ k ∧ (scanL (l.take k)).2 ≤ (scanL l).2 ∧ (scanL (l.take k)).1 <+: (scanL l).1 := by
  intro l
  generalize hn : l.length = m
  induction m using Nat.strongRecOn generalizing l with
  | ind m ih =>
    intro k
    have hk : (scanL (l.take k)).2 ≤ k := Nat.le_trans (scan_sound (l.take k)).2.2 (by rw [List.length_take]; omega)
    refine ⟨hk, ?_⟩
    clear hk
    match l, k with
    | [], k => simp [scanL_nil]
    | n :: rest, 0 => simp [scanL_nil]
    | n :: rest, k + 1 =>
      rw [List.take_succ_cons, scanL_cons]
      by_cases h : headOk n (rest.take k) = true
      · obtain ⟨h1, h2, h3, h4⟩ := (headOk_iff _ _).1 h
        rw [List.length_take] at h2
        have e1 : (rest.take k).take n.toNat = rest.take n.toNat := by rw [List.take_take, Nat.min_eq_left (by omega)]
        have e2 : (rest.take k).drop (n.toNat + 1) = (rest.drop (n.toNat + 1)).take (k - (n.toNat + 1)) := by rw [List.drop_take]
        have e3 : (rest.take k)[n.toNat]? = rest[n.toNat]? := by rw [List.getElem?_take, if_pos (by omega)]
        have h' : headOk n rest = true := (headOk_iff _ _).2 ⟨h1, by omega, by rw [← e1]; exact h3, by rw [← e3, ← e1]; exact h4⟩
        rw [if_pos h, scanL_cons n rest, if_pos h', e1, e2]
        obtain ⟨_, i2, i3⟩ := ih (rest.drop (n.toNat + 1)).length (by rw [List.length_drop]; simp at hn; omega) _ rfl (k - (n.toNat + 1))
        refine ⟨by show _ + _ ≤ _ + _; omega, ?_⟩
        obtain ⟨t, ht⟩ := i3
        exact ⟨t, by show (_ :: _) ++ t = _ :: _; rw [List.cons_append, ht]⟩
      · rw [if_neg h]
        exact ⟨Nat.zero_le _, List.nil_prefix⟩

theorem framesOf_some {bs : List (List Int)} {out : List Int} (h : framesOf bs = some out) : bs.all bodyOk = true ∧ bs.length ≤ 40 ∧ out = framesL bs := by
  unfold framesOf at h
  split at h
  · rename_i hc
    simp only [Bool.and_eq_true, decide_eq_true_eq] at hc
    exact ⟨hc.1, hc.2, (Option.some.inj h).symm⟩
  · cases h

theorem framesOf_take {bs : List (List Int)} {out : List Int} (h : framesOf bs = some out) (k : Nat) : framesOf (bs.take k) = some (framesL (bs.take k)) ∧ framesOf (bs.drop k) = some (framesL (bs.drop k)) ∧ framesL (bs.take k) ++ framesL (bs.drop k) = out := by
  obtain ⟨h1, h2, h3⟩ := framesOf_some h
  have ha : ∀ c : List (List Int), (∀ x ∈ c, x ∈ bs) → c.all bodyOk = true := fun c hc => List.all_eq_true.2 fun x hx => List.all_eq_true.1 h1 x (hc x hx)
  refine ⟨?_, ?_, ?_⟩
  · unfold framesOf
    rw [ha _ (fun x hx => List.mem_of_mem_take hx), decide_eq_true (by rw [List.length_take]; omega)]; rfl
  · unfold framesOf
    rw [ha _ (fun x hx => List.mem_of_mem_drop hx), decide_eq_true (by rw [List.length_drop]; omega)]; rfl
  · rw [← framesL_append, List.take_append_drop, h3]

end Go.Proofs.Ytmdidhlfpaganaa

/-
  WALKS: lists of numbers; spec.l6In, l4Bytes, l4Body, l4Sum, BodySum.
-/
namespace Go.Proofs.Ytmdidhlfpaganaa
open Go.RowKit
set_option linter.unusedVariables false

/-- A list of numbers, wherever it lies. -/
def IntsAt (W : World) (a : Option Addr) (len : Nat) (zs : List Int) : Prop :=
  zs.length = len ∧ (len = 0 ∨ ∃ b off, a = some ⟨b, off, none⟩ ∧ ∀ i z, zs[i]? = some z → W.cell? ⟨b, off + i, none⟩ = some (.int .i64 z))

theorem IntsAt.keep {W W' : World} {a : Option Addr} {len : Nat} {zs : List Int} (h : IntsAt W a len zs) (hb : Below W.heap.size W W') : IntsAt W' a len zs := by
  obtain ⟨h1, h0 | ⟨b, off, ha, hc⟩⟩ := h
  · exact ⟨h1, .inl h0⟩
  · exact ⟨h1, .inr ⟨b, off, ha, fun i x hx => cell_kept hb (hc i x hx)⟩⟩

theorem IntsAt.at {W : World} {a : Option Addr} {len : Nat} {zs : List Int} (h : IntsAt W a len zs) {i : Nat} (hi : i < len) :
    ∃ b off z, a = some ⟨b, off, none⟩ ∧ zs[i]? = some z ∧ W.cell? ⟨b, off + i, none⟩ = some (.int .i64 z) := by
  obtain ⟨h1, h0 | ⟨b, off, ha, hc⟩⟩ := h
  · omega
  · obtain ⟨x, hx⟩ : ∃ x, zs[i]? = some x := ⟨_, List.getElem?_eq_getElem (by omega)⟩
    exact ⟨b, off, x, ha, hx, hc i x hx⟩

def intsV (zs : List Int) : List Value := zs.map (Value.int .i64)

theorem ints_of_own {W : World} {base : Nat} {e : TypeId} {v : Value} {zs : List Int} (h : W.ownsRow base e 1 v zs.length (intsV zs)) :
    ∃ a cap, v = .slice a zs.length cap ∧ IntsAt W a zs.length zs := by
  rcases h.2 with ⟨rfl, h0⟩ | ⟨g, cap, cur, rfl, h1, h2, h3, h4, h5, h6⟩
  · exact ⟨none, 0, by rw [h0], rfl, .inl h0⟩
  · refine ⟨some ⟨g, 0, none⟩, cap, rfl, rfl, .inr ⟨g, 0, rfl, fun i x hx => ?_⟩⟩
    have hi := (List.getElem?_eq_some_iff.1 hx).1
    rw [Nat.zero_add, h.cellAt i (by omega)]
    unfold intsV
    rw [List.getElem?_map, hx]; rfl

theorem retb {a b : Bool} (h : a = b) : Ending.returned (.bool a) = .returned (.bool b) := by rw [h]

set_option maxHeartbeats 400000 in
theorem l6In_c (n lo hi : Int) (w : World) : Calls Try.prog 85 #[.int .i64 n, .int .i64 lo, .int .i64 hi] w fun e w' => e = .returned (.bool (decide (lo ≤ n ∧ n ≤ hi))) ∧ w' = w := by
  by_cases h1 : lo ≤ n
  · by_cases h2 : n ≤ hi
    · have hr := Lib.hid (show true = decide (lo ≤ n ∧ n ≤ hi) from (decide_eq_true ⟨h1, h2⟩).symm)
      have d1 : decide (lo ≤ n) = true := decide_eq_true h1
      have d2 : decide (n ≤ hi) = true := decide_eq_true h2
      go_enter Try.func85, Try.ntmps85
      go_wp2
      go_ret
      exact ⟨retb hr.out, rfl⟩
    · have hr := Lib.hid (show false = decide (lo ≤ n ∧ n ≤ hi) from (decide_eq_false (fun h => h2 h.2)).symm)
      have d1 : decide (lo ≤ n) = true := decide_eq_true h1
      have d2 : decide (n ≤ hi) = false := decide_eq_false h2
      have h2' : hi < n := by omega
      clear h2
      go_enter Try.func85, Try.ntmps85
      go_wp2
      go_ret
      exact ⟨retb hr.out, rfl⟩
  · have hr := Lib.hid (show false = decide (lo ≤ n ∧ n ≤ hi) from (decide_eq_false (fun h => h1 h.1)).symm)
    have d1 : decide (lo ≤ n) = false := decide_eq_false h1
    have h1' : n < lo := by omega
    clear h1
    go_enter Try.func85, Try.ntmps85
    go_wp2
    go_ret
    exact ⟨retb hr.out, rfl⟩

def BytesRel (zs : List Int) (W : World) (i : Value) (wr : World) : Prop := ∃ n : Nat, i = .int .i64 n ∧ n ≤ zs.length ∧ Hid ((zs.take n).all byteOk = true) ∧ wr = W

theorem take_all {zs : List Int} {i : Nat} {z : Int} (h : zs[i]? = some z) : (zs.take (i + 1)).all byteOk = ((zs.take i).all byteOk && byteOk z) := by
  rw [List.take_add_one, h]
  simp [List.all_append]

theorem all_take_false {zs : List Int} {i : Nat} (h : (zs.take i).all byteOk = false) : zs.all byteOk = false := by
  rw [Bool.eq_false_iff] at h ⊢
  intro hc
  exact h (List.all_eq_true.2 fun x hx => List.all_eq_true.1 hc x (List.mem_of_mem_take hx))

def SumRel (zs : List Int) (W : World) (n i : Value) (wr : World) : Prop := ∃ k : Nat, i = .int .i64 k ∧ k ≤ zs.length ∧ n = .int .i64 (sumB (zs.take k)) ∧ wr = W

theorem sumB_next {zs : List Int} {i : Nat} {z : Int} (h : zs[i]? = some z) : sumB (zs.take (i + 1)) = (31 * sumB (zs.take i) + z) % 251 := by
  unfold sumB
  rw [List.take_add_one, h, List.foldl_append]
  rfl

end Go.Proofs.Ytmdidhlfpaganaa

/-
  WALKS: spec.FrameOf.
-/
namespace Go.Proofs.Ytmdidhlfpaganaa
open Go.RowKit
set_option linter.unusedVariables false

theorem infoInt : (Try.prog.info? 3).map (fun i => (i.zero, i.size, i.bytes)) = some (some (.int .i64 0), 1, 8) := by kernel_rfl

/-- A list of numbers that the call has made. -/
def OwnsInts (base : Nat) (zs : List Int) (e : Ending) (w' : World) : Prop := ∃ sl, e = .returned sl ∧ w'.ownsRow base 3 1 sl zs.length (intsV zs)

theorem intsV_append (a b : List Int) : intsV (a ++ b) = intsV a ++ intsV b := by unfold intsV; rw [List.map_append]
theorem intsV_length (a : List Int) : (intsV a).length = a.length := by unfold intsV; rw [List.length_map]
theorem intsV_cells (zs : List Int) : ∀ u ∈ intsV zs, u.oneCell' = true := by
  intro u hu
  unfold intsV at hu
  obtain ⟨z, _, rfl⟩ := List.mem_map.1 hu
  rfl

theorem own_join1 {W : World} {b : Nat} {e : TypeId} {v : Value} {acc more : List Int} (h : W.ownsRow b e 1 v (acc.length + more.length) (intsV acc ++ intsV more)) : W.ownsRow b e 1 v (acc ++ more).length (intsV (acc ++ more)) := by
  rw [intsV_append, List.length_append]; exact h

theorem own_below1 {W W' : World} {base : Nat} {e : TypeId} {size n : Nat} {v : Value} {xs : List Value} (h : W.ownsRow base e size v n xs) (hg : Below W.heap.size W W') : W'.ownsRow base e size v n xs :=
  h.kept (below_grown hg) (by cases hv : v.ownBlock <;> simp)

theorem own_mono1 {W : World} {b c : Nat} {e : TypeId} {size n : Nat} {v : Value} {xs : List Value} (h : W.ownsRow c e size v n xs) (hbc : b ≤ c) : W.ownsRow b e size v n xs := by
  obtain ⟨h1, h2 | ⟨g, cap, cur, h3, h4, h5⟩⟩ := h
  · exact ⟨h1, .inl h2⟩
  · exact ⟨h1, .inr ⟨g, cap, cur, h3, Nat.le_trans hbc h4, h5⟩⟩

theorem add_off (b off j : Nat) : ((⟨b, off, none⟩ : Addr).add j) = ⟨b, off + j, none⟩ := by
  unfold Addr.add
  split
  · rename_i h; rw [h]; rfl
  · rfl

theorem ints_cells {W : World} {b off len : Nat} {zs : List Int} (h : IntsAt W (some ⟨b, off, none⟩) len zs) : ∀ j u, (intsV zs)[j]? = some u → W.cell? ((⟨b, off, none⟩ : Addr).add j) = some u := by
  intro j u hj
  unfold intsV at hj
  rw [List.getElem?_map] at hj
  obtain ⟨z, hz, rfl⟩ := Option.map_eq_some_iff.1 hj
  obtain ⟨h1, h0 | ⟨b', off', ha, hc⟩⟩ := h
  · have := (List.getElem?_eq_some_iff.1 hz).1; omega
  · simp at ha
    obtain ⟨rfl, rfl⟩ := ha
    rw [add_off]; exact hc j z hz

theorem cell_int_new (w : World) (v : Value) (t : TypeId) : ∀ j u, [v][j]? = some u → (w.alloc (.cells #[v] t)).cell? ((⟨w.heap.size, 0, none⟩ : Addr).add j) = some u := by
  intro j u hj
  match j, hj with
  | 0, hj => simp at hj; subst hj; simp [Addr.add]

end Go.Proofs.Ytmdidhlfpaganaa

/-
  WALKS: lists of lists of numbers; spec.FramesOf.
-/
namespace Go.Proofs.Ytmdidhlfpaganaa
open Go.RowKit
set_option linter.unusedVariables false

/-- A list of lists of numbers, wherever it lies. -/
def TabAt (W : World) (a : Option Addr) (len : Nat) (bs : List (List Int)) : Prop :=
  bs.length = len ∧ (len = 0 ∨ ∃ b off, a = some ⟨b, off, none⟩ ∧ ∀ i z, bs[i]? = some z → ∃ ai ci, W.cell? ⟨b, off + i, none⟩ = some (.slice ai z.length ci) ∧ IntsAt W ai z.length z)

theorem TabAt.keep {W W' : World} {a : Option Addr} {len : Nat} {bs : List (List Int)} (h : TabAt W a len bs) (hb : Below W.heap.size W W') : TabAt W' a len bs := by
  obtain ⟨h1, h0 | ⟨b, off, ha, hc⟩⟩ := h
  · exact ⟨h1, .inl h0⟩
  · refine ⟨h1, .inr ⟨b, off, ha, fun i x hx => ?_⟩⟩
    obtain ⟨ai, ci, h2, h3⟩ := hc i x hx
    exact ⟨ai, ci, cell_kept hb h2, h3.keep hb⟩

theorem TabAt.at {W : World} {a : Option Addr} {len : Nat} {bs : List (List Int)} (h : TabAt W a len bs) {i : Nat} (hi : i < len) :
    ∃ b off z ai ci, a = some ⟨b, off, none⟩ ∧ bs[i]? = some z ∧ W.cell? ⟨b, off + i, none⟩ = some (.slice ai z.length ci) ∧ IntsAt W ai z.length z := by
  obtain ⟨h1, h0 | ⟨b, off, ha, hc⟩⟩ := h
  · omega
  · obtain ⟨x, hx⟩ : ∃ x, bs[i]? = some x := ⟨_, List.getElem?_eq_getElem (by omega)⟩
    obtain ⟨ai, ci, h2, h3⟩ := hc i x hx
    exact ⟨b, off, x, ai, ci, ha, hx, h2, h3⟩

/-- The lists are short. -/
def ShortT (m : Nat) (bs : List (List Int)) : Prop := ∀ b ∈ bs, b.length ≤ m

/-- A list of numbers or a failure. -/
def FPost (r : Option (List Int)) (W : World) (e : Ending) (w' : World) : Prop :=
  ∃ (sl : Value) (out : List Int) (b : Bool), e = .returned (.tuple #[sl, .bool b]) ∧ ((b = true ∧ r = some out) ∨ (b = false ∧ r = none ∧ out = [])) ∧ w'.ownsRow W.heap.size 3 1 sl out.length (intsV out) ∧ Below W.heap.size W w'

theorem framesL_len : ∀ {bs : List (List Int)}, bs.all bodyOk = true → (framesL bs).length ≤ 18 * bs.length
  | [], _ => by simp [framesL]
  | b :: bs, h => by
    simp only [List.all_cons, Bool.and_eq_true] at h
    have := bodyOk_len h.1
    have ih := framesL_len h.2
    rw [framesL_cons, List.length_append, frame_length, List.length_cons]
    omega

def FramesRel (bs : List (List Int)) (W1 : World) (o i : Value) (wr : World) : Prop :=
  ∃ n : Nat, i = .int .i64 n ∧ n ≤ bs.length ∧ Hid ((bs.take n).all bodyOk = true) ∧ wr.ownsRow W1.heap.size 3 1 o (framesL (bs.take n)).length (intsV (framesL (bs.take n))) ∧ Hid (Below W1.heap.size W1 wr)

theorem framesOf_none {bs : List (List Int)} {i : Nat} {z : List Int} (h : bs[i]? = some z) (hz : bodyOk z = false) : framesOf bs = none := by
  unfold framesOf
  rw [if_neg]
  intro hc
  simp only [Bool.and_eq_true] at hc
  have := List.all_eq_true.1 hc.1 z (List.mem_of_getElem? h)
  rw [hz] at this; cases this

theorem takeT_next {bs : List (List Int)} {i : Nat} {z : List Int} (h : bs[i]? = some z) : bs.take (i + 1) = bs.take i ++ [z] := by
  rw [List.take_add_one, h]; rfl

theorem own_casesT {W : World} {base : Nat} {e : TypeId} {size n : Nat} {v : Value} {xs : List Value} (h : W.ownsRow base e size v n xs) : (v = .slice none 0 0 ∧ n = 0) ∨ ∃ g cap, v = .slice (some ⟨g, 0, none⟩) n cap := by
  rcases h.2 with h | ⟨g, cap, _, h, _⟩
  · exact .inl h
  · exact .inr ⟨g, cap, h⟩

theorem own_cells1 {W : World} {base : Nat} {e : TypeId} {zs : List Int} {g cap : Nat} (h : W.ownsRow base e 1 (.slice (some ⟨g, 0, none⟩) zs.length cap) zs.length (intsV zs)) :
    ∀ j u, (intsV zs)[j]? = some u → W.cell? ((⟨g, 0, none⟩ : Addr).add j) = some u := by
  intro j u hj
  have hj' := (List.getElem?_eq_some_iff.1 hj).1
  rw [intsV_length] at hj'
  have := h.cellAt j (by omega)
  rw [add_off, Nat.zero_add, this]
  exact hj

end Go.Proofs.Ytmdidhlfpaganaa

/-
  WALKS: spec.FramesScan.
-/
namespace Go.Proofs.Ytmdidhlfpaganaa
open Go.RowKit
set_option linter.unusedVariables false

theorem infoInts : (Try.prog.info? 37).map (fun i => (i.zero, i.size, i.bytes)) = some (some (.slice none 0 0), 1, 24) := by kernel_rfl

/-- The lists in a table that the call has made: each owned, no two in one block. -/
def Inner (W : World) (base : Nat) (vs : List Value) (bs : List (List Int)) : Prop :=
  vs.length = bs.length ∧ (∀ (i : Nat) (z : List Int) (v : Value), bs[i]? = some z → vs[i]? = some v → W.ownsRow base 3 1 v z.length (intsV z)) ∧ vs.Pairwise (fun u v => ∀ k, u.ownBlock = some k → v.ownBlock ≠ some k)

theorem Inner.below {W W' : World} {base : Nat} {vs : List Value} {bs : List (List Int)} (h : Inner W base vs bs) (hb : Below W.heap.size W W') : Inner W' base vs bs :=
  ⟨h.1, fun i z v hz hv => own_below1 (h.2.1 i z v hz hv) hb, h.2.2⟩

/-- Two owned lists of different element types lie in different blocks. -/
theorem own_types {W : World} {b b' : Nat} {e e' : TypeId} {s s' n n' : Nat} {u v : Value} {xs ys : List Value} (h : W.ownsRow b e s u n xs) (h' : W.ownsRow b' e' s' v n' ys) (he : e ≠ e') : ∀ k, u.ownBlock = some k → v.ownBlock ≠ some k := by
  intro k h1 h2
  rcases h.2 with ⟨rfl, _⟩ | ⟨g, cap, cur, rfl, _, hg, _⟩
  · cases h1
  · rcases h'.2 with ⟨rfl, _⟩ | ⟨g', cap', cur', rfl, _, hg', _⟩
    · cases h2
    · have e1 : g = k := by simpa [Value.ownBlock] using h1
      have e2 : g' = k := by simpa [Value.ownBlock] using h2
      subst e1; subst e2
      rw [hg] at hg'
      cases hg'
      exact he rfl

theorem own_farT {W W' : World} {b : Nat} {e : TypeId} {size n : Nat} {v : Value} {xs : List Value} (h : W.ownsRow b e size v n xs) {row : Value} (hg : W.grownBy W' row.ownBlock) (hd : ∀ k, v.ownBlock = some k → row.ownBlock ≠ some k) : W'.ownsRow b e size v n xs := by
  refine h.kept hg ?_
  cases hv : v.ownBlock with
  | none => exact .inl rfl
  | some k => right; exact fun e => hd k hv e.symm

theorem Inner.grown {W W' : World} {base b n : Nat} {vs ys : List Value} {bs : List (List Int)} {o : Value} (h : Inner W base vs bs) (ho : W.ownsRow b 37 1 o n ys) (hg : W.grownBy W' o.ownBlock) : Inner W' base vs bs :=
  ⟨h.1, fun i z v hz hv => own_farT (h.2.1 i z v hz hv) hg (own_types (h.2.1 i z v hz hv) ho (by decide)), h.2.2⟩

theorem Inner.push {W : World} {base : Nat} {vs : List Value} {bs : List (List Int)} {v : Value} {z : List Int} (h : Inner W base vs bs) (hv : W.ownsRow base 3 1 v z.length (intsV z)) (hd : ∀ u ∈ vs, ∀ k, u.ownBlock = some k → v.ownBlock ≠ some k) : Inner W base (vs ++ [v]) (bs ++ [z]) := by
  obtain ⟨h1, h2, h3⟩ := h
  refine ⟨by simp [h1], fun i z' v' hz hv' => ?_, List.pairwise_append.2 ⟨h3, List.pairwise_singleton _ _, fun u hu w hw => by rw [List.mem_singleton.1 hw]; exact hd u hu⟩⟩
  by_cases hi : i < bs.length
  · rw [List.getElem?_append_left hi] at hz
    rw [List.getElem?_append_left (by omega)] at hv'
    exact h2 i z' v' hz hv'
  · have e1 : i = bs.length := by
      have := (List.getElem?_eq_some_iff.1 hz).1
      simp at this; omega
    subst e1
    rw [List.getElem?_append_right (Nat.le_refl _)] at hz
    rw [← h1, List.getElem?_append_right (Nat.le_refl _)] at hv'
    simp at hz hv'
    subst hz; subst hv'
    exact hv

/-- Every block of the lists in a table stands below the heap's end. -/
theorem Inner.lt {W : World} {base : Nat} {vs : List Value} {bs : List (List Int)} (h : Inner W base vs bs) : ∀ u ∈ vs, ∀ k, u.ownBlock = some k → k < W.heap.size := by
  intro u hu k hk
  obtain ⟨i, hi⟩ := List.getElem?_of_mem hu
  have hl := (List.getElem?_eq_some_iff.1 hi).1
  obtain ⟨z, hz⟩ : ∃ z, bs[i]? = some z := ⟨_, List.getElem?_eq_getElem (by have := h.1; omega)⟩
  exact ((h.2.1 i z u hz hi).lt k hk).2

/-- What a scan returns. -/
def ScanPost (r : List (List Int) × Nat) (W : World) (e : Ending) (w' : World) : Prop :=
  ∃ (sl : Value) (vs : List Value), e = .returned (.tuple #[sl, .int .i64 r.2]) ∧ w'.ownsRow W.heap.size 37 1 sl r.1.length vs ∧ Inner w' W.heap.size vs r.1 ∧ Below W.heap.size W w'

def ScanRel (zs : List Int) (W : World) (o p : Value) (wr : World) : Prop :=
  ∃ (n : Nat) (acc : List (List Int)) (vs : List Value), p = .int .i64 n ∧ n ≤ zs.length ∧ Hid (acc.length ≤ n) ∧ Hid (scanL zs = (acc ++ (scanL (zs.drop n)).1, n + (scanL (zs.drop n)).2)) ∧
    wr.ownsRow W.heap.size 37 1 o acc.length vs ∧ Hid (Inner wr W.heap.size vs acc) ∧ Hid (Below W.heap.size W wr)

theorem scan_end {zs : List Int} {n : Nat} {acc : List (List Int)} {vs : List Value} {W wr : World} {o : Value} (hs : scanL zs = (acc ++ (scanL (zs.drop n)).1, n + (scanL (zs.drop n)).2)) (he : scanL (zs.drop n) = ([], 0))
    (ho : wr.ownsRow W.heap.size 37 1 o acc.length vs) (hi : Inner wr W.heap.size vs acc) (hb : Below W.heap.size W wr) : ScanPost (scanL zs) W (.returned (.tuple #[o, .int .i64 n])) wr := by
  rw [he] at hs
  simp only [List.append_nil, Nat.add_zero] at hs
  rw [hs]
  exact ⟨o, vs, rfl, ho, hi, hb⟩

theorem drewN_below (W : World) (n : Nat) : Below W.heap.size W (W.drewN n) := by
  have e := (drewN_cell W n ⟨0, 0, none⟩).2.2
  exact ⟨rfl, rfl, rfl, by rw [e]; exact Nat.le_refl _, fun j _ => by rw [e]⟩

theorem drop_consI {zs : List Int} {n : Nat} {z : Int} (h : zs[n]? = some z) : zs.drop n = z :: zs.drop (n + 1) := by
  obtain ⟨h1, h2⟩ := List.getElem?_eq_some_iff.1 h
  rw [List.drop_eq_getElem_cons h1, h2]

theorem scan_stop {zs : List Int} {n : Nat} {z : Int} (h : zs[n]? = some z) (hh : headOk z (zs.drop (n + 1)) = false) : scanL (zs.drop n) = ([], 0) := by
  rw [drop_consI h, scanL_cons, if_neg (by rw [hh]; simp)]

theorem scan_go {zs : List Int} {n m : Nat} (h : zs[n]? = some (m : Int)) (hh : headOk (m : Int) (zs.drop (n + 1)) = true) {acc : List (List Int)} (hs : scanL zs = (acc ++ (scanL (zs.drop n)).1, n + (scanL (zs.drop n)).2)) :
    scanL zs = ((acc ++ [(zs.drop (n + 1)).take m]) ++ (scanL (zs.drop (n + m + 2))).1, (n + m + 2) + (scanL (zs.drop (n + m + 2))).2) := by
  rw [drop_consI h, scanL_cons, if_pos hh] at hs
  have e1 : (m : Int).toNat = m := by omega
  rw [e1, List.drop_drop, show n + 1 + (m + 1) = n + m + 2 by omega] at hs
  rw [hs]
  simp
  omega

end Go.Proofs.Ytmdidhlfpaganaa

/-
  WALKS: spec.l5Paths, TreeChanged.
-/
namespace Go.Proofs.Ytmdidhlfpaganaa
open Go.RowKit
set_option linter.unusedVariables false

theorem drop_cons' {α : Type} {l : List α} {n : Nat} {z : α} (h : l[n]? = some z) : l.drop n = z :: l.drop (n + 1) := by
  obtain ⟨h1, h2⟩ := List.getElem?_eq_some_iff.1 h
  rw [List.drop_eq_getElem_cons h1, h2]

theorem merge_left {a b : List Nd} {p q : Nat} {x : Nd} (hx : a[p]? = some x) (h : q = b.length ∨ ∃ y, b[q]? = some y ∧ ltB x.p y.p = true) : mergeP (a.drop p) (b.drop q) = x.p :: mergeP (a.drop (p + 1)) (b.drop q) := by
  rw [drop_cons' hx]
  rcases h with h | ⟨y, hy, hl⟩
  · rw [h, List.drop_length, mergeP_nil', mergeP_nil']; rfl
  · rw [drop_cons' hy, mergeP_cons, if_pos hl]

theorem merge_right {a b : List Nd} {p q : Nat} {y : Nd} (hy : b[q]? = some y) (h : p = a.length ∨ ∃ x, a[p]? = some x ∧ ltB x.p y.p = false ∧ ltB y.p x.p = true) : mergeP (a.drop p) (b.drop q) = y.p :: mergeP (a.drop p) (b.drop (q + 1)) := by
  rw [drop_cons' hy]
  rcases h with h | ⟨x, hx, hl, hr⟩
  · rw [h, List.drop_length, mergeP_nil, mergeP_nil]; rfl
  · rw [drop_cons' hx, mergeP_cons, if_neg (by rw [hl]; simp), if_pos hr]

theorem merge_both {a b : List Nd} {p q : Nat} {x y : Nd} (hx : a[p]? = some x) (hy : b[q]? = some y) (hl : ltB x.p y.p = false) (hr : ltB y.p x.p = false) : mergeP (a.drop p) (b.drop q) = x.p :: mergeP (a.drop (p + 1)) (b.drop (q + 1)) := by
  rw [drop_cons' hx, drop_cons' hy, mergeP_cons, if_neg (by rw [hl]; simp), if_neg (by rw [hr]; simp)]

theorem cell_str_new (w : World) (v : Value) (t : TypeId) : ∀ j u, [v][j]? = some u → (w.alloc (.cells #[v] t)).cell? ((⟨w.heap.size, 0, none⟩ : Addr).add j) = some u := cell_int_new w v t

theorem own_text {W : World} {b : Nat} {e : TypeId} {v : Value} {acc : List ByteArray} {x : ByteArray} (h : W.ownsRow b e 1 v (acc.length + 1) (acc.map Value.string ++ [.string x])) : W.ownsRow b e 1 v (acc ++ [x]).length ((acc ++ [x]).map Value.string) := by
  rw [List.map_append, List.length_append]; exact h

def MergeRel (a b : List Nd) (W : World) (o i k : Value) (wr : World) : Prop :=
  ∃ (p q : Nat) (done : List ByteArray), i = .int .i64 p ∧ k = .int .i64 q ∧ p ≤ a.length ∧ q ≤ b.length ∧ Hid (mergeP a b = done ++ mergeP (a.drop p) (b.drop q)) ∧ Hid (done.length ≤ p + q) ∧
    wr.ownsRow W.heap.size 9 1 o done.length (done.map Value.string) ∧ Hid (Below W.heap.size W wr)

set_option maxHeartbeats 4000000 in
set_option maxRecDepth 100000 in
theorem l5Paths_c (a1 : Option Addr) (len1 cap1 : Nat) (ns : List Nd) (a2 : Option Addr) (len2 cap2 : Nat) (ms : List Nd) (hl1 : len1 ≤ 1000) (hl2 : len2 ≤ 1000) (W : World) (h1 : NodesAt W a1 len1 ns) (h2 : NodesAt W a2 len2 ms) :
    Calls Try.prog 65 #[.slice a1 len1 cap1, .slice a2 len2 cap2] W (TextsPost (mergeP ns ms) W) := by
  obtain ⟨i0, hi, hz0, hz1, hz2⟩ := info_parts infoStr
  have H1 := Lib.hid h1
  have H2 := Lib.hid h2
  have HE1 := Lib.hid h1.1
  have HE2 := Lib.hid h2.1
  have hl1' : (len1 : Int) ≤ 1000 := by omega
  have hl2' : (len2 : Int) ≤ 1000 := by omega
  have HLL := Lib.hid (And.intro hl1 hl2)
  clear h1 h2 hl1 hl2
  go_enter Try.func65, Try.ntmps65
  go_wp2
  go_loopw [5, 6, 7] (fun o i k wr => MergeRel ns ms W o i k wr) (fun _ i k _ => (len1 - (intOf i).toNat) + (len2 - (intOf k).toNat))
  case atStart => exact ⟨0, 0, [], rfl, rfl, by omega, by omega, by simp [Hid], by simp [Hid], World.ownsRow_lit (e := 9) (size := 1) W #[] 0 (Nat.le_refl _) (by simp [maxLen]) rfl, below_box _ _⟩
  case round =>
    obtain ⟨p, q, done, rfl, rfl, hp, hq, HD, HDL, hown, HB⟩ := hrel
    rw [HE1.out] at hp
    rw [HE2.out] at hq
    have HO := Lib.hid hown
    have hpI : (p : Int) ≤ 1000 := by omega
    have hqI : (q : Int) ≤ 1000 := by omega
    clear hown
    by_cases hp1 : p < len1
    · have hp1' : (p : Int) < len1 := by omega
      obtain ⟨b1, off1, x, rfl, hx, x0, -, -⟩ := (H1.out.keep HB.out).node hp1
      by_cases hq1 : q < len2
      · have hq1' : (q : Int) < len2 := by omega
        have hqe : ((q : Int) == len2) = false := beq_eq_false_iff_ne.2 (by omega)
        have hpe : ((p : Int) == len1) = false := beq_eq_false_iff_ne.2 (by omega)
        obtain ⟨b2, off2, y, rfl, hy, y0, -, -⟩ := (H2.out.keep HB.out).node hq1
        have HPQ := Lib.hid (show p < ns.length ∧ q < ms.length ∧ ns.length = len1 ∧ ms.length = len2 ∧ len1 ≤ 1000 ∧ len2 ≤ 1000 by have := HE1.out; have := HE2.out; have := HLL.out; omega)
        cases hlt : ltB x.p y.p with
        | true =>
          have HS := Lib.hid (merge_left (b := ms) (q := q) hx (.inr ⟨y, hy, hlt⟩))
          have hlt' : Op.bytesLess x.p.toList y.p.toList = true := hlt
          clear hp hq hp1 hq1 hx hy hlt
          go_wp2_with fail
          go_quiet (fail)
          have HOQ := Lib.hid (own_below1 HO.out (drewN_below wr nq))
          have HBQ := Lib.hid (HB.out.trans ((drewN_below wr nq).mono HB.out.size))
          have x02 := cell_kept (drewN_below wr nq) x0
          have y02 := cell_kept (drewN_below wr nq) y0
          generalize wr.drewN nq = w6 at HOQ HBQ x02 y02 ⊢
          clear x0 y0
          go_wp2_with (at_builtin; refine wpList_append_own _ rfl _ _ 27 rfl W.heap.size 9 i0 (.string ⟨#[]⟩) 1 16 Try.underlying27 hi hz0 hz1 hz2 rfl (by decide) _ _ _ rfl (HOQ.out.alloc _) ⟨w6.heap.size, 0, none⟩ 1 1 [.string x.p] rfl rfl (cell_str_new _ _ _) (fun x hx => by simp at hx; subst hx; rfl) (by have := HDL.out; have := HPQ.out; unfold maxLen; omega) (by have := HDL.out; have := HPQ.out; omega) (by have := HBQ.out.size; simp; omega) ?_; intro v5 w5 ho5 hg5 hn5)
          have hlt0 := HOQ.out.lt
          have B5 : Below W.heap.size W w5 := (HBQ.out.alloc HBQ.out.size _).grown hg5 (by have := HBQ.out.size; simp; omega) (fun g e => (hlt0 g e).1)
          go_roundw
          case rel => exact ⟨p + 1, q, done ++ [x.p], by push_cast; rfl, rfl, by have := HPQ.out; omega, by have := HPQ.out; omega, by rw [List.append_assoc]; exact HD.out.trans (congrArg (done ++ ·) HS.out), by rw [List.length_append]; have := HDL.out; show done.length + 1 ≤ _; omega, own_text ho5, B5⟩
          case measure => have := HPQ.out; simp [intOf]; omega
        | false =>
          have hlt' : Op.bytesLess x.p.toList y.p.toList = false := hlt
          cases hgt : ltB y.p x.p with
          | true =>
            have HS := Lib.hid (merge_right (a := ns) (p := p) hy (.inr ⟨x, hx, hlt, hgt⟩))
            have hgt' : Op.bytesLess y.p.toList x.p.toList = true := hgt
            clear hp hq hp1 hq1 hx hy hlt hgt
            go_wp2_with fail
            go_quiet (fail)
            have HBn := Lib.hid (drewN_below wr nq)
            have x02 := cell_kept HBn.out x0
            have y02 := cell_kept HBn.out y0
            have HO1 := Lib.hid (own_below1 HO.out HBn.out)
            have HB1 := Lib.hid (HB.out.trans (HBn.out.mono HB.out.size))
            generalize wr.drewN nq = w4 at HO1 HB1 x02 y02 ⊢
            clear x0 y0 HBn nq
            go_wp2_with fail
            go_quiet (fail)
            have HOQ := Lib.hid (own_below1 HO1.out (drewN_below w4 nq))
            have HBQ := Lib.hid (HB1.out.trans ((drewN_below w4 nq).mono HB1.out.size))
            have x03 := cell_kept (drewN_below w4 nq) x02
            have y03 := cell_kept (drewN_below w4 nq) y02
            generalize w4.drewN nq = w6 at HOQ HBQ x03 y03 ⊢
            clear x02 y02
            go_wp2_with (at_builtin; refine wpList_append_own _ rfl _ _ 27 rfl W.heap.size 9 i0 (.string ⟨#[]⟩) 1 16 Try.underlying27 hi hz0 hz1 hz2 rfl (by decide) _ _ _ rfl (HOQ.out.alloc _) ⟨w6.heap.size, 0, none⟩ 1 1 [.string y.p] rfl rfl (cell_str_new _ _ _) (fun x hx => by simp at hx; subst hx; rfl) (by have := HDL.out; have := HPQ.out; unfold maxLen; omega) (by have := HDL.out; have := HPQ.out; omega) (by have := HBQ.out.size; simp; omega) ?_; intro v5 w5 ho5 hg5 hn5)
            have hlt0 := HOQ.out.lt
            have B5 : Below W.heap.size W w5 := (HBQ.out.alloc HBQ.out.size _).grown hg5 (by have := HBQ.out.size; simp; omega) (fun g e => (hlt0 g e).1)
            go_roundw
            case rel => exact ⟨p, q + 1, done ++ [y.p], rfl, by push_cast; rfl, by have := HPQ.out; omega, by have := HPQ.out; omega, by rw [List.append_assoc]; exact HD.out.trans (congrArg (done ++ ·) HS.out), by rw [List.length_append]; have := HDL.out; show done.length + 1 ≤ _; omega, own_text ho5, B5⟩
            case measure => have := HPQ.out; simp [intOf]; omega
          | false =>
            have HS := Lib.hid (merge_both hx hy hlt hgt)
            have hgt' : Op.bytesLess y.p.toList x.p.toList = false := hgt
            clear hp hq hp1 hq1 hx hy hlt hgt
            go_wp2_with fail
            go_quiet (fail)
            have HBn := Lib.hid (drewN_below wr nq)
            have x02 := cell_kept HBn.out x0
            have y02 := cell_kept HBn.out y0
            have HO1 := Lib.hid (own_below1 HO.out HBn.out)
            have HB1 := Lib.hid (HB.out.trans (HBn.out.mono HB.out.size))
            generalize wr.drewN nq = w4 at HO1 HB1 x02 y02 ⊢
            clear x0 y0 HBn nq
            go_wp2_with fail
            go_quiet (fail)
            have HOQ := Lib.hid (own_below1 HO1.out (drewN_below w4 nq))
            have HBQ := Lib.hid (HB1.out.trans ((drewN_below w4 nq).mono HB1.out.size))
            have x03 := cell_kept (drewN_below w4 nq) x02
            have y03 := cell_kept (drewN_below w4 nq) y02
            generalize w4.drewN nq = w6 at HOQ HBQ x03 y03 ⊢
            clear x02 y02
            go_wp2_with (at_builtin; refine wpList_append_own _ rfl _ _ 27 rfl W.heap.size 9 i0 (.string ⟨#[]⟩) 1 16 Try.underlying27 hi hz0 hz1 hz2 rfl (by decide) _ _ _ rfl (HOQ.out.alloc _) ⟨w6.heap.size, 0, none⟩ 1 1 [.string x.p] rfl rfl (cell_str_new _ _ _) (fun x hx => by simp at hx; subst hx; rfl) (by have := HDL.out; have := HPQ.out; unfold maxLen; omega) (by have := HDL.out; have := HPQ.out; omega) (by have := HBQ.out.size; simp; omega) ?_; intro v5 w5 ho5 hg5 hn5)
            have hlt0 := HOQ.out.lt
            have B5 : Below W.heap.size W w5 := (HBQ.out.alloc HBQ.out.size _).grown hg5 (by have := HBQ.out.size; simp; omega) (fun g e => (hlt0 g e).1)
            go_roundw
            case rel => exact ⟨p + 1, q + 1, done ++ [x.p], by push_cast; rfl, by push_cast; rfl, by have := HPQ.out; omega, by have := HPQ.out; omega, by rw [List.append_assoc]; exact HD.out.trans (congrArg (done ++ ·) HS.out), by rw [List.length_append]; have := HDL.out; show done.length + 1 ≤ _; omega, own_text ho5, B5⟩
            case measure => have := HPQ.out; simp [intOf]; omega
      · have hqe : ((q : Int) == len2) = true := by rw [show q = len2 by omega]; simp
        have HPQ := Lib.hid (show p < ns.length ∧ q ≤ ms.length ∧ ns.length = len1 ∧ ms.length = len2 ∧ len1 ≤ 1000 ∧ len2 ≤ 1000 by have := HE1.out; have := HE2.out; have := HLL.out; omega)
        have HS := Lib.hid (merge_left (b := ms) (q := q) hx (.inl (by have := HE2.out; omega)))
        clear hp hq hp1 hq1 hx
        go_wp2_with fail
        go_quiet (fail)
        have HOQ := Lib.hid (own_below1 HO.out (drewN_below wr nq))
        have HBQ := Lib.hid (HB.out.trans ((drewN_below wr nq).mono HB.out.size))
        have x02 := cell_kept (drewN_below wr nq) x0
        generalize wr.drewN nq = w6 at HOQ HBQ x02 ⊢
        clear x0
        go_wp2_with (at_builtin; refine wpList_append_own _ rfl _ _ 27 rfl W.heap.size 9 i0 (.string ⟨#[]⟩) 1 16 Try.underlying27 hi hz0 hz1 hz2 rfl (by decide) _ _ _ rfl (HOQ.out.alloc _) ⟨w6.heap.size, 0, none⟩ 1 1 [.string x.p] rfl rfl (cell_str_new _ _ _) (fun x hx => by simp at hx; subst hx; rfl) (by have := HDL.out; have := HPQ.out; unfold maxLen; omega) (by have := HDL.out; have := HPQ.out; omega) (by have := HBQ.out.size; simp; omega) ?_; intro v5 w5 ho5 hg5 hn5)
        have hlt0 := HOQ.out.lt
        have B5 : Below W.heap.size W w5 := (HBQ.out.alloc HBQ.out.size _).grown hg5 (by have := HBQ.out.size; simp; omega) (fun g e => (hlt0 g e).1)
        go_roundw
        case rel => exact ⟨p + 1, q, done ++ [x.p], by push_cast; rfl, rfl, by have := HPQ.out; omega, by have := HPQ.out; omega, by rw [List.append_assoc]; exact HD.out.trans (congrArg (done ++ ·) HS.out), by rw [List.length_append]; have := HDL.out; show done.length + 1 ≤ _; omega, own_text ho5, B5⟩
        case measure => have := HPQ.out; simp [intOf]; omega
    · have hpe : ((p : Int) == len1) = true := by rw [show p = len1 by omega]; simp
      have hpg : (len1 : Int) ≤ p := by omega
      by_cases hq1 : q < len2
      · have hq1' : (q : Int) < len2 := by omega
        have hqe : ((q : Int) == len2) = false := beq_eq_false_iff_ne.2 (by omega)
        obtain ⟨b2, off2, y, rfl, hy, y0, -, -⟩ := (H2.out.keep HB.out).node hq1
        have HPQ := Lib.hid (show p ≤ ns.length ∧ q < ms.length ∧ ns.length = len1 ∧ ms.length = len2 ∧ len1 ≤ 1000 ∧ len2 ≤ 1000 by have := HE1.out; have := HE2.out; have := HLL.out; omega)
        have HS := Lib.hid (merge_right (a := ns) (p := p) hy (.inl (by have := HE1.out; omega)))
        have hpd : decide (p < len1) = false := decide_eq_false hp1
        clear hp hq hp1 hq1 hy
        go_wp2_with fail
        go_quiet (fail)
        have HBn := Lib.hid (drewN_below wr nq)
        have y02 := cell_kept HBn.out y0
        have HO1 := Lib.hid (own_below1 HO.out HBn.out)
        have HB1 := Lib.hid (HB.out.trans (HBn.out.mono HB.out.size))
        generalize wr.drewN nq = w4 at HO1 HB1 y02 ⊢
        clear y0 HBn nq
        go_wp2_with fail
        go_quiet (fail)
        have HOQ := Lib.hid (own_below1 HO1.out (drewN_below w4 nq))
        have HBQ := Lib.hid (HB1.out.trans ((drewN_below w4 nq).mono HB1.out.size))
        have y03 := cell_kept (drewN_below w4 nq) y02
        generalize w4.drewN nq = w6 at HOQ HBQ y03 ⊢
        clear y02
        go_wp2_with (at_builtin; refine wpList_append_own _ rfl _ _ 27 rfl W.heap.size 9 i0 (.string ⟨#[]⟩) 1 16 Try.underlying27 hi hz0 hz1 hz2 rfl (by decide) _ _ _ rfl (HOQ.out.alloc _) ⟨w6.heap.size, 0, none⟩ 1 1 [.string y.p] rfl rfl (cell_str_new _ _ _) (fun x hx => by simp at hx; subst hx; rfl) (by have := HDL.out; have := HPQ.out; unfold maxLen; omega) (by have := HDL.out; have := HPQ.out; omega) (by have := HBQ.out.size; simp; omega) ?_; intro v5 w5 ho5 hg5 hn5)
        have hlt0 := HOQ.out.lt
        have B5 : Below W.heap.size W w5 := (HBQ.out.alloc HBQ.out.size _).grown hg5 (by have := HBQ.out.size; simp; omega) (fun g e => (hlt0 g e).1)
        go_roundw
        case rel => exact ⟨p, q + 1, done ++ [y.p], rfl, by push_cast; rfl, by have := HPQ.out; omega, by have := HPQ.out; omega, by rw [List.append_assoc]; exact HD.out.trans (congrArg (done ++ ·) HS.out), by rw [List.length_append]; have := HDL.out; show done.length + 1 ≤ _; omega, own_text ho5, B5⟩
        case measure => have := HPQ.out; simp [intOf]; omega
      · have hqg : (len2 : Int) ≤ q := by omega
        have HR := Lib.hid (show mergeP ns ms = done by
          have := HD.out
          rw [List.drop_eq_nil_of_le (by have := HE1.out; omega), List.drop_eq_nil_of_le (by have := HE2.out; omega), mergeP_nil] at this
          simpa using this)
        clear hp hq hp1 hq1
        go_wp2
        refine bodyPost_ret (v := u5) (by simp [results, Try.f65, go_sem]) rfl ?_
        rw [HR.out]
        exact ⟨⟨u5, rfl, HO.out⟩, HB.out⟩

end Go.Proofs.Ytmdidhlfpaganaa

/-
  append to a list of the call's own, and where the result lies: in the same block, or in a new one.
-/
namespace Go.Proofs.Ytmdidhlfpaganaa
open Go.RowKit
set_option linter.unusedVariables false

/-- The result's block is the old one or a new one. -/
def SameOrNew (w : World) (v v' : Value) : Prop := ∀ k, v'.ownBlock = some k → v.ownBlock = some k ∨ w.heap.size ≤ k

theorem append_where {P : Program} {w w' : World} {base n m c : Nat} {t ty e : TypeId} {i : TypeInfo} {z v v' : Value} {xs news : List Value} {a : Addr} (ht : P.underlying t = some (.slice e)) (hi : P.info? e = some i) (hz : i.zero = some z) (hs1 : i.size = 1)
    (hown : w.ownsRow base e 1 v n xs) (hl : news.length = m * 1) (hnews : ∀ j u, news[j]? = some u → w.cell? (a.add j) = some u) (h1 : ∀ u ∈ news, u.oneCell' = true) (h63 : n + m ≤ maxLen) (hbytes : (n + m) * i.bytes ≤ 140737488355328)
    (hr : (Builtin.append_ #[t, t] ty #[v, .slice (some a) m c]).run P w = .ok v' w') (h4 : v' = .slice none 0 0 ↔ v = .slice none 0 0 ∧ m = 0) : SameOrNew w v v' := by
  intro k hk
  have h63' : n + m ≤ 9223372036854775807 := by unfold maxLen at h63; omega
  rcases hown.2 with ⟨rfl, rfl⟩ | ⟨g, cap, cur, rfl, hbg, hg, hnc, hcm, hcs, htake⟩
  · by_cases hm : m = 0
    · rw [h4.2 ⟨rfl, hm⟩] at hk; cases hk
    · have hr2 := run_append_nil (P := P) w t ty e i z ht hi hz a m c news (by rw [hs1]; exact hl) hnews (by omega) (by omega) (by
        rw [Nat.zero_add] at hbytes; omega)
      rw [hr] at hr2
      injection hr2 with e1 _
      rw [e1] at hk
      simp [Value.ownBlock] at hk
      exact .inr (by omega)
  · by_cases hroom : n + m ≤ cap
    · have hr2 := run_append_room (P := P) w t ty e i ht hi g n cap cur hg a m c news (by rw [hs1]; exact hl) hnews h1 hroom (by rw [hs1, hl, hcs]; omega)
      rw [hr] at hr2
      injection hr2 with e1 _
      rw [e1] at hk
      exact .inl hk
    · have hr2 := run_append_grow (P := P) w t ty e i z ht hi hz ⟨g, 0, none⟩ n cap xs (by rw [hs1]; exact hown.1) (hown.cells (g := g) rfl) a m c news (by rw [hs1]; exact hl) hnews (by omega) (by omega) (growslice_fits (by omega) hbytes)
      rw [hr] at hr2
      injection hr2 with e1 _
      rw [e1] at hk
      simp [Value.ownBlock] at hk
      exact .inr (by omega)

theorem wpList_append_where {P : Program} {w : World} {ops : Array Oper} {rest : List Oper} {o : Oper} {a : Act} {Q : Exit → Act → World → Prop} (hgd : o.guard = none) (s x : Operand) (t : TypeId)
    (ho : o.op = .call { callee := .builtin .append, args := #[s, x], argTypes := #[t, t] })
    (base : Nat) (e : TypeId) (i : TypeInfo) (z : Value) (bytes : Nat) (ht : P.underlying t = some (.slice e)) (hi : P.info? e = some i) (hz : i.zero = some z)
    (hsize : i.size = 1) (hby : i.bytes = bytes) (hzs : z.cells.size = 1)
    (v : Value) (n : Nat) (xs : List Value) (hs : a.eval s = v) (hown : w.ownsRow base e 1 v n xs)
    (ad : Addr) (m c : Nat) (news : List Value) (hx : a.eval x = .slice (some ad) m c) (hl : news.length = m * 1) (hnews : ∀ j u, news[j]? = some u → w.cell? (ad.add j) = some u) (h1 : ∀ u ∈ news, u.oneCell' = true)
    (h63 : n + m ≤ maxLen) (hbytes : (n + m) * bytes ≤ 140737488355328) (hbase : base ≤ w.heap.size)
    (h : ∀ v' w', w'.ownsRow base e 1 v' (n + m) (xs ++ news) → w.grownBy w' v.ownBlock → SameOrNew w v v' → wpList P ops Q rest (a.put o.dst v') w') : wpList P ops Q (o :: rest) a w := by
  refine wpList_plain hgd fun K hK => ?_
  obtain ⟨v', w', hr, h2, h3, h4⟩ := run_append_own (P := P) w base t o.type e i z 1 bytes ht hi hz hsize hby hzs (by decide) v n xs hown ad m c news hl hnews h1 h63 hbytes hbase
  have h5 := append_where ht hi hz hsize hown hl hnews h1 h63 (by rw [hby]; exact hbytes) hr h4
  unfold Oper.wp execOp
  simp only [ho, resolve, invoke, builtin, Sem.run_bind, Sem.run_pure, Result.andThen_ok, List.map_toArray, List.map_cons, List.map_nil, hs, hx, hr]
  exact hK _ _ (h v' w' h2 h3 h5)

end Go.Proofs.Ytmdidhlfpaganaa

/-
  WALKS: laws.sameNodes, laws.sameTexts at equal lists.
-/
namespace Go.Proofs.Ytmdidhlfpaganaa
open Go.RowKit
set_option linter.unusedVariables false

/-- A list of texts in memory. -/
def TextsAt (W : World) (a : Option Addr) (len : Nat) (xs : List ByteArray) : Prop :=
  xs.length = len ∧ (len = 0 ∨ ∃ b off, a = some ⟨b, off, none⟩ ∧ ∀ i x, xs[i]? = some x → W.cell? ⟨b, off + i, none⟩ = some (.string x))

theorem TextsAt.keep {W W' : World} {a : Option Addr} {len : Nat} {xs : List ByteArray} (h : TextsAt W a len xs) (hb : Below W.heap.size W W') : TextsAt W' a len xs := by
  obtain ⟨h1, h0 | ⟨b, off, ha, hc⟩⟩ := h
  · exact ⟨h1, .inl h0⟩
  · exact ⟨h1, .inr ⟨b, off, ha, fun i x hx => cell_kept hb (hc i x hx)⟩⟩

theorem texts_of_own {W : World} {base : Nat} {e : TypeId} {v : Value} {xs : List ByteArray} (h : W.ownsRow base e 1 v xs.length (xs.map Value.string)) :
    ∃ a cap, v = .slice a xs.length cap ∧ TextsAt W a xs.length xs := by
  rcases h.2 with ⟨rfl, h0⟩ | ⟨g, cap, cur, rfl, h1, h2, h3, h4, h5, h6⟩
  · exact ⟨none, 0, by rw [h0], rfl, .inl h0⟩
  · refine ⟨some ⟨g, 0, none⟩, cap, rfl, rfl, .inr ⟨g, 0, rfl, fun i x hx => ?_⟩⟩
    have hi := (List.getElem?_eq_some_iff.1 hx).1
    rw [Nat.zero_add, h.cellAt i (by omega), List.getElem?_map, hx]
    rfl

theorem below_drewN {n : Nat} {W W' : World} (h : Below n W W') (k : Nat) : Below n W (W'.drewN k) := by
  have e := (drewN_cell W' k ⟨0, 0, none⟩).2.2
  exact ⟨h.os, h.tape, h.output, by rw [e]; exact h.size, fun j hj => by rw [e]; exact h.block j hj⟩

theorem TextsAt.node {W : World} {a : Option Addr} {len : Nat} {xs : List ByteArray} (h : TextsAt W a len xs) {i : Nat} (hi : i < len) :
    ∃ b off x, a = some ⟨b, off, none⟩ ∧ xs[i]? = some x ∧ W.cell? ⟨b, off + i, none⟩ = some (.string x) := by
  obtain ⟨h1, h0 | ⟨b, off, ha, hc⟩⟩ := h
  · omega
  · obtain ⟨x, hx⟩ : ∃ x, xs[i]? = some x := ⟨_, List.getElem?_eq_getElem (by omega)⟩
    exact ⟨b, off, x, ha, hx, hc i x hx⟩

set_option maxHeartbeats 1000000 in
theorem sameNodes_c (a1 a2 : Option Addr) (len c1 c2 : Nat) (ns : List Nd) (hl : len ≤ 2097152) (W : World) (h1 : NodesAt W a1 len ns) (h2 : NodesAt W a2 len ns) :
    Calls Try.prog 28 #[.slice a1 len c1, .slice a2 len c2] W (BoolPost true W) := by
  have H1 := Lib.hid h1
  have H2 := Lib.hid h2
  clear h1 h2
  go_enter Try.func28, Try.ntmps28
  go_wp2
  go_loopw [5] (fun i wr => ∃ n : Nat, i = .int .i64 n ∧ n ≤ len ∧ Hid (Below W.heap.size W wr)) (fun i _ => len - (intOf i).toNat)
  case atStart => exact ⟨0, rfl, by omega, Below.refl _ _⟩
  case round =>
    obtain ⟨i, rfl, hi, HB⟩ := hrel
    by_cases hlt : i < len
    · obtain ⟨b, off, n, rfl, hn, x0, x1, x2⟩ := (H1.out.keep HB.out).node hlt
      obtain ⟨b', off', n', rfl, hn', y0, y1, y2⟩ := (H2.out.keep HB.out).node hlt
      obtain rfl : n = n' := Option.some.inj (hn.symm.trans hn')
      have hlt' : (i : Int) < len := by omega
      have hi0 : (0 : Int) ≤ i := by omega
      have HLT := Lib.hid hlt
      clear hi hlt hn hn'
      go_wp2
      go_quiet (fail)
      have HB2 := Lib.hid (below_drewN HB.out nq)
      clear x0 x1 x2 y0 y1 y2
      go_wp2
      go_roundw
      case rel => exact ⟨i + 1, by go_num, by have := HLT.out; omega, HB2⟩
      case measure => have := HLT.out; simp [intOf]; omega
    · have hge : (len : Int) ≤ i := by omega
      clear hi hlt
      go_wp2
      go_ret
      exact ⟨rfl, HB.out⟩

set_option maxHeartbeats 1000000 in
theorem sameTexts_c (a1 a2 : Option Addr) (len c1 c2 : Nat) (ns : List ByteArray) (hl : len ≤ 2097152) (W : World) (h1 : TextsAt W a1 len ns) (h2 : TextsAt W a2 len ns) :
    Calls Try.prog 26 #[.slice a1 len c1, .slice a2 len c2] W (BoolPost true W) := by
  have H1 := Lib.hid h1
  have H2 := Lib.hid h2
  clear h1 h2
  go_enter Try.func26, Try.ntmps26
  go_wp2
  go_loopw [5] (fun i wr => ∃ n : Nat, i = .int .i64 n ∧ n ≤ len ∧ Hid (Below W.heap.size W wr)) (fun i _ => len - (intOf i).toNat)
  case atStart => exact ⟨0, rfl, by omega, Below.refl _ _⟩
  case round =>
    obtain ⟨i, rfl, hi, HB⟩ := hrel
    by_cases hlt : i < len
    · obtain ⟨b, off, n, rfl, hn, x0⟩ := (H1.out.keep HB.out).node hlt
      obtain ⟨b', off', n', rfl, hn', y0⟩ := (H2.out.keep HB.out).node hlt
      obtain rfl : n = n' := Option.some.inj (hn.symm.trans hn')
      have hlt' : (i : Int) < len := by omega
      have hi0 : (0 : Int) ≤ i := by omega
      have HLT := Lib.hid hlt
      clear hi hlt hn hn'
      go_wp2
      go_quiet (fail)
      have HB2 := Lib.hid (below_drewN HB.out nq)
      clear x0 y0
      go_wp2
      go_roundw
      case rel => exact ⟨i + 1, by go_num, by have := HLT.out; omega, HB2⟩
      case measure => have := HLT.out; simp [intOf]; omega
    · have hge : (len : Int) ≤ i := by omega
      clear hi hlt
      go_wp2
      go_ret
      exact ⟨rfl, HB.out⟩

end Go.Proofs.Ytmdidhlfpaganaa

/-
  WALKS: spec.TreeChanged.
-/
namespace Go.Proofs.Ytmdidhlfpaganaa
open Go.RowKit
set_option linter.unusedVariables false

theorem conNeq (k v k' v' : Int) (w : World) : (binOp .neq 31 (.agg #[.int .i64 k, .int .i64 v]) (.agg #[.int .i64 k', .int .i64 v'])).run Try.prog w = .ok (.bool (!(k == k' && v == v'))) w := by
  by_cases h : k = k'
  · subst h
    by_cases h2 : v = v'
    · subst h2
      simp [binOp, go_sem, Op.equal, Op.maxDepth]
    · have : (v == v') = false := beq_eq_false_iff_ne.2 h2
      simp [binOp, go_sem, Op.equal, Op.maxDepth, h2]
  · have : (k == k') = false := beq_eq_false_iff_ne.2 h
    simp [binOp, go_sem, Op.equal, Op.maxDepth, this]

theorem diff_bool (a b : List Nd) (p : ByteArray) {k v k' v' : Int} (h1 : getT a p = (k, v)) (h2 : getT b p = (k', v')) : diffB a b p = !(k == k' && v == v') := by
  unfold diffB
  rw [h1, h2]
  by_cases h : k = k' <;> by_cases g : v = v' <;> simp [h, g]

def chgAcc (ns ms : List Nd) (i : Nat) : List ByteArray := ((mergeP ns ms).take i).filter (diffB ns ms)

theorem chgAcc_yes {ns ms : List Nd} {i : Nat} {x : ByteArray} (hx : (mergeP ns ms)[i]? = some x) (h : diffB ns ms x = true) : chgAcc ns ms (i + 1) = chgAcc ns ms i ++ [x] := by
  unfold chgAcc
  rw [List.take_add_one, hx]
  simp [List.filter_append, h]
theorem chgAcc_no {ns ms : List Nd} {i : Nat} {x : ByteArray} (hx : (mergeP ns ms)[i]? = some x) (h : diffB ns ms x = false) : chgAcc ns ms (i + 1) = chgAcc ns ms i := by
  unfold chgAcc
  rw [List.take_add_one, hx]
  simp [List.filter_append, h]
theorem chgAcc_len (ns ms : List Nd) (i : Nat) : (chgAcc ns ms i).length ≤ i := by
  unfold chgAcc
  exact Nat.le_trans (List.length_filter_le _ _) (by rw [List.length_take]; omega)

def ChgRel (ns ms : List Nd) (W W2 : World) (s4 : Value) (ml : Nat) (o i : Value) (wr : World) : Prop :=
  ∃ n : Nat, i = .int .i64 n ∧ n ≤ ml ∧ Hid (wr.ownsRow W.heap.size 9 1 o (chgAcc ns ms n).length ((chgAcc ns ms n).map Value.string)) ∧ Hid (wr.ownsRow W2.heap.size 9 1 s4 ml ((mergeP ns ms).map Value.string)) ∧
    Hid (∀ k, o.ownBlock = some k → s4.ownBlock ≠ some k) ∧ Hid (Below W.heap.size W wr)

theorem texts_own {W : World} {base len c : Nat} {e : TypeId} {a : Option Addr} {zs : List ByteArray} (hz : zs.length = len) (h : W.ownsRow base e 1 (.slice a len c) len (zs.map Value.string)) : TextsAt W a len zs := by
  subst hz
  obtain ⟨a', c', he, hi⟩ := texts_of_own h
  cases he
  exact hi

set_option maxHeartbeats 4000000 in
set_option maxRecDepth 100000 in
theorem specTreeChanged_c (a1 : Option Addr) (len1 cap1 : Nat) (ns : List Nd) (a2 : Option Addr) (len2 cap2 : Nat) (ms : List Nd) (hl1 : len1 ≤ 2097152) (hl2 : len2 ≤ 2097152) (hs1 : Short 2097152 ns) (hs2 : Short 2097152 ms) (W : World) (h1 : NodesAt W a1 len1 ns) (h2 : NodesAt W a2 len2 ms) :
    Calls Try.prog 25 #[.slice a1 len1 cap1, .slice a2 len2 cap2] W (TextsPost (chgL ns ms) W) := by
  obtain ⟨i0, hi, hz0, hz1, hz2⟩ := info_parts infoStr
  obtain ⟨v1, hv1⟩ : ∃ v, validT ns = v := ⟨_, rfl⟩
  obtain ⟨v2, hv2⟩ : ∃ v, validT ms = v := ⟨_, rfl⟩
  have HV1 := Lib.hid (fun W' (hb : Below W.heap.size W W') => show Calls Try.prog 22 #[.slice a1 len1 cap1] W' (BoolPost v1 W') by rw [← hv1]; exact specTreeValid_c a1 len1 cap1 ns hl1 hs1 W' (h1.keep hb))
  have HV2 := Lib.hid (fun W' (hb : Below W.heap.size W W') => show Calls Try.prog 22 #[.slice a2 len2 cap2] W' (BoolPost v2 W') by rw [← hv2]; exact specTreeValid_c a2 len2 cap2 ms hl2 hs2 W' (h2.keep hb))
  have H1 := Lib.hid h1
  have H2 := Lib.hid h2
  have HL := Lib.hid (And.intro hl1 hl2)
  have HW1 := Lib.hid hv1
  have HW2 := Lib.hid hv2
  clear h1 h2 hs1 hs2 hl1 hl2 hv1 hv2
  go_enter Try.func25, Try.ntmps25
  have HO1 := Lib.hid (World.ownsRow_lit (e := 9) (size := 1) W #[] 0 (Nat.le_refl _) (by simp [maxLen]) rfl)
  go_wp2_with fail
  refine (HV1.out _ (below_box _ _)).mono ?_
  rintro e W1 ⟨rfl, hb1⟩
  have HO2 := Lib.hid (own_below1 HO1.out hb1)
  have HB1 := Lib.hid (below_next (below_box _ _) hb1)
  clear hb1
  cases v1 with
  | false =>
    have HR := Lib.hid (show chgL ns ms = [] by unfold chgL; rw [HW1.out]; rfl)
    go_wp2
    refine bodyPost_ret (v := .slice (some ⟨W.heap.size, 0, none⟩) 0 0) (by simp [results, Try.f25, go_sem]) rfl ?_
    rw [HR.out]
    exact ⟨⟨_, rfl, HO2.out⟩, HB1.out⟩
  | true =>
    go_wp2_with fail
    refine (HV2.out _ HB1.out).mono ?_
    rintro e W2 ⟨rfl, hb2⟩
    have HO3 := Lib.hid (own_below1 HO2.out hb2)
    have HB2 := Lib.hid (below_next HB1.out hb2)
    clear hb2
    cases v2 with
    | false =>
      have HR := Lib.hid (show chgL ns ms = [] by unfold chgL; rw [HW1.out, HW2.out]; rfl)
      go_wp2
      refine bodyPost_ret (v := .slice (some ⟨W.heap.size, 0, none⟩) 0 0) (by simp [results, Try.f25, go_sem]) rfl ?_
      rw [HR.out]
      exact ⟨⟨_, rfl, HO3.out⟩, HB2.out⟩
    | true =>
      have hln1 : len1 ≤ 10 := by have := ((validT_iff ns).1 HW1.out).2.2; have := H1.out.1; omega
      have hln2 : len2 ≤ 10 := by have := ((validT_iff ms).1 HW2.out).2.2; have := H2.out.1; omega
      have HP := Lib.hid (l5Paths_c a1 len1 cap1 ns a2 len2 cap2 ms (by omega) (by omega) W2 (H1.out.keep HB2.out) (H2.out.keep HB2.out))
      have HGA := Lib.hid (fun x W' (hb : Below W.heap.size W W') => l3Get_c a1 len1 cap1 ns x HL.out.1 W' (H1.out.keep hb))
      have HGB0 := Lib.hid (fun x W' (hb : Below W.heap.size W W') => l3Get_c a2 len2 cap2 ms x HL.out.2 W' (H2.out.keep hb))
      have HML := Lib.hid (show (mergeP ns ms).length ≤ 20 by have := mergeP_len _ ns ms (Nat.le_refl _); have := H1.out.1; have := H2.out.1; omega)
      clear hln1 hln2
      go_wp2_with fail
      refine HP.out.mono ?_
      rintro e W4 ⟨⟨s4, rfl, ho4⟩, hb4⟩
      obtain ⟨a4, c4, rfl, -⟩ := texts_of_own ho4
      have HDJ := Lib.hid (show ∀ k, (Value.slice (some ⟨W.heap.size, 0, none⟩) 0 0).ownBlock = some k → (Value.slice a4 (mergeP ns ms).length c4).ownBlock ≠ some k from fun k e1 e2 => by
        have h5 := (ho4.lt k e2).1
        simp [Value.ownBlock] at e1
        have := HO3.out.lt W.heap.size rfl
        omega)
      have HT4 := Lib.hid ho4
      have HO4 := Lib.hid (own_below1 HO3.out hb4)
      have HB4 := Lib.hid (below_next HB2.out hb4)
      obtain ⟨ml, hml⟩ : ∃ ml, (mergeP ns ms).length = ml := ⟨_, rfl⟩
      rw [hml] at HML HT4 HDJ ⊢
      have HME := Lib.hid hml
      have hml20 : (ml : Int) ≤ 20 := by have := HML.out; omega
      clear ho4 hb4 hml
      go_wp2_with fail
      go_loopw [5, 7] (fun o i wr => ChgRel ns ms W W2 (.slice a4 ml c4) ml o i wr) (fun _ i _ => ml - (intOf i).toNat)
      case atStart => exact ⟨0, rfl, by omega, by show World.ownsRow _ _ _ _ _ _ _; simpa [chgAcc] using HO4.out, HT4.out, HDJ.out, HB4.out⟩
      case round =>
        obtain ⟨i, rfl, hi2, HO, HT, HDO, HB⟩ := hrel
        by_cases hlt : i < ml
        · have hlt' : (i : Int) < ml := by omega
          have hil : (i : Int) ≤ 20 := by omega
          have HLT := Lib.hid hlt
          obtain ⟨b, off, x, he, hx, x0⟩ := (texts_own HME.out HT.out).node hlt
          subst he
          have HX := Lib.hid hx
          have HS0 := Lib.hid (show wr.drew.cell? ⟨b, off + i, none⟩ = some (.string x) from x0)
          obtain ⟨k1, v1, hg1⟩ : ∃ k v, getT ns x = (k, v) := ⟨_, _, rfl⟩
          obtain ⟨k2, v2, hg2⟩ : ∃ k v, getT ms x = (k, v) := ⟨_, _, rfl⟩
          have HBW := Lib.hid HB.out
          have HG1 := Lib.hid (show Calls Try.prog 59 #[.slice a1 len1 cap1, .string x] wr.drew (ConRet k1 v1 wr.drew) by have := HGA.out x wr.drew HBW.out.drew; rwa [hg1] at this)
          have HGB := Lib.hid (fun x' W' (hb : Below W.heap.size W W') => show x' = x → Calls Try.prog 59 #[.slice a2 len2 cap2, .string x'] W' (ConRet k2 v2 W') from fun e => by
            subst e; have := HGB0.out x' W' hb; rwa [hg2] at this)
          obtain ⟨dd, hdd⟩ : ∃ dd, diffB ns ms x = dd := ⟨_, rfl⟩
          have HDF := Lib.hid (show (!(k1 == k2 && v1 == v2)) = dd by rw [← hdd]; exact (diff_bool ns ms x hg1 hg2).symm)
          have HDD := Lib.hid hdd
          clear hlt hi2 hx hg1 hg2 hdd
          go_upto_region 8 with (fail)
          refine wp_region_held_drew (S := (fun w' => w'.cell? ⟨b, off + i, none⟩ = some (.string x))) (by kernel_rfl) HS0.out (fun hH => ?_)
          refine wpAnyH_take (i := 0) (oi := _) (v := ?_) rfl (by kernel_rfl) (by kernel_rfl) (by kernel_rfl) (fun _ _ _ h => h) (Or.inl ⟨by rfl, ?_⟩) (by assumption) ?_
          rotate_left
          · (intro w hSw; (try dsimp only at hSw); go_simp; try with_reducible rfl)
          try simp only [Act.put, List.getElem_toArray, List.getElem_cons_zero, List.setIfInBounds_toArray, List.set_cons_zero, List.set_cons_succ]
          refine wpAnyH_take (i := 1) (oi := _) (v := ?_) rfl (by kernel_rfl) (by kernel_rfl) (by kernel_rfl) (fun _ _ _ h => h) (Or.inl ⟨by rfl, ?_⟩) (by assumption) ?_
          rotate_left
          · (intro w hSw; (try dsimp only at hSw); go_simp; try with_reducible rfl)
          try simp only [Act.put, List.getElem_toArray, List.getElem_cons_zero, List.getElem_cons_succ, List.setIfInBounds_toArray, List.set_cons_zero, List.set_cons_succ]
          refine wpAnyH_take (i := 2) (oi := _) (v := ?_) rfl (by kernel_rfl) (by kernel_rfl) (by kernel_rfl) (fun _ _ _ h => h) (Or.inl ⟨by rfl, ?_⟩) (by assumption) ?_
          rotate_left
          · (intro w hSw; (try dsimp only at hSw); go_simp; try with_reducible rfl)
          try simp only [Act.put, List.getElem_toArray, List.getElem_cons_zero, List.getElem_cons_succ, List.setIfInBounds_toArray, List.set_cons_zero, List.set_cons_succ]
          refine wpAnyH_take (i := 3) (oi := _) (v := ?_) rfl (by kernel_rfl) (by kernel_rfl) (by kernel_rfl) (fun _ _ _ h => h) (Or.inl ⟨by rfl, ?_⟩) (by assumption) ?_
          rotate_left
          · (intro w hSw; (try dsimp only at hSw); go_simp; try with_reducible rfl)
          try simp only [Act.put, List.getElem_toArray, List.getElem_cons_zero, List.getElem_cons_succ, List.setIfInBounds_toArray, List.set_cons_zero, List.set_cons_succ]
          refine wpAnyH_take (i := 4) (oi := _) (v := ?_) rfl (by kernel_rfl) (by kernel_rfl) (by kernel_rfl) (fun _ _ _ h => h) (Or.inl ⟨by rfl, ?_⟩) (by assumption) ?_
          rotate_left
          · (intro w hSw; (try dsimp only at hSw); go_simp; try with_reducible rfl)
          try simp only [Act.put, List.getElem_toArray, List.getElem_cons_zero, List.getElem_cons_succ, List.setIfInBounds_toArray, List.set_cons_zero, List.set_cons_succ]
          refine wpAnyH_take (i := 6) (oi := _) (v := ?_) rfl (by kernel_rfl) (by kernel_rfl) (by kernel_rfl) (fun _ _ _ h => h) (Or.inl ⟨by rfl, ?_⟩) (by assumption) ?_
          rotate_left
          · (intro w hSw; (try dsimp only at hSw); go_simp; try with_reducible rfl)
          try simp only [Act.put, List.getElem_toArray, List.getElem_cons_zero, List.getElem_cons_succ, List.setIfInBounds_toArray, List.set_cons_zero, List.set_cons_succ]
          refine wpAnyH_take (i := 7) (oi := _) (v := ?_) rfl (by kernel_rfl) (by kernel_rfl) (by kernel_rfl) (fun _ _ _ h => h) (Or.inl ⟨by rfl, ?_⟩) (by assumption) ?_
          rotate_left
          · (intro w hSw; (try dsimp only at hSw); go_simp; try with_reducible rfl)
          try simp only [Act.put, List.getElem_toArray, List.getElem_cons_zero, List.getElem_cons_succ, List.setIfInBounds_toArray, List.set_cons_zero, List.set_cons_succ]
          refine wpAnyH_take (i := 8) (oi := _) (v := ?_) rfl (by kernel_rfl) (by kernel_rfl) (by kernel_rfl) (fun _ _ _ h => h) (Or.inl ⟨by rfl, ?_⟩) (by assumption) ?_
          rotate_left
          · (intro w hSw; (try dsimp only at hSw); go_simp; try with_reducible rfl)
          try simp only [Act.put, List.getElem_toArray, List.getElem_cons_zero, List.getElem_cons_succ, List.setIfInBounds_toArray, List.set_cons_zero, List.set_cons_succ]
          refine wpAnyH_take (i := 9) (oi := _) (v := ?_) rfl (by kernel_rfl) (by kernel_rfl) (by kernel_rfl) (fun _ _ _ h => h) (Or.inl ⟨by rfl, ?_⟩) (by assumption) ?_
          rotate_left
          · (intro w hSw; (try dsimp only at hSw); go_simp; try with_reducible rfl)
          try simp only [Act.put, List.getElem_toArray, List.getElem_cons_zero, List.getElem_cons_succ, List.setIfInBounds_toArray, List.set_cons_zero, List.set_cons_succ]
          refine wpAnyH_take (i := 10) (oi := _) (v := ?_) rfl (by kernel_rfl) (by kernel_rfl) (by kernel_rfl) (fun _ _ _ h => h) (Or.inl ⟨by rfl, ?_⟩) (by assumption) ?_
          rotate_left
          · (intro w hSw; (try dsimp only at hSw); go_simp; try with_reducible rfl)
          try simp only [Act.put, List.getElem_toArray, List.getElem_cons_zero, List.getElem_cons_succ, List.setIfInBounds_toArray, List.set_cons_zero, List.set_cons_succ]
          refine wpAnyH_ready (rs := [5]) (by kernel_rfl) (by simp) ?_
          refine AllReadyH.cons rfl (fun K hK => ?_) (AllReadyH.nil)
          go_simp
          go_at_call 59; (with_reducible refine (HG1.out).mono ?_); rintro e W5 ⟨rfl, hb5⟩
          refine hK.out _ _ (cell_kept hb5 HS0.out) (fun hHeld => ?_)
          try simp only [Act.put, List.getElem_toArray, List.getElem_cons_zero, List.getElem_cons_succ, List.setIfInBounds_toArray, List.set_cons_zero, List.set_cons_succ]
          have HC5 := Lib.hid (cell_kept hb5 HS0.out)
          have HB5 := Lib.hid (below_next (show Below W.heap.size W wr.drew from HB.out.drew) hb5)
          have HG2 := Lib.hid (HGB.out x W5 HB5.out rfl)
          unfold con
          refine wpAnyH_ready (rs := [11]) (by kernel_rfl) (by simp) ?_
          refine AllReadyH.cons rfl (fun K hK => ?_) (AllReadyH.nil)
          go_simp
          go_at_call 59; (with_reducible refine (HG2.out).mono ?_); rintro e W6 ⟨rfl, hb6⟩
          refine hK.out _ _ (cell_kept hb6 HC5.out) (fun hHeld => ?_)
          try simp only [Act.put, List.getElem_toArray, List.getElem_cons_zero, List.getElem_cons_succ, List.setIfInBounds_toArray, List.set_cons_zero, List.set_cons_succ]
          have HB6 := Lib.hid (below_next HB5.out hb6)
          have HC6 := Lib.hid (cell_kept hb6 HC5.out)
          unfold con
          have hne := fun w => (conNeq k1 v1 k2 v2 w).trans (show _ = Result.ok (Value.bool dd) w by rw [HDF.out])
          refine wpAnyH_take (i := 12) (oi := _) (v := ?_) rfl (by kernel_rfl) (by kernel_rfl) (by kernel_rfl) (fun _ _ _ h => h) (Or.inl ⟨by rfl, ?_⟩) (by assumption) ?_
          rotate_left
          · (intro w hSw; (try dsimp only at hSw); go_simp; try with_reducible rfl)
          try simp only [Act.put, List.getElem_toArray, List.getElem_cons_zero, List.getElem_cons_succ, List.setIfInBounds_toArray, List.set_cons_zero, List.set_cons_succ]
          refine wpAnyH_done (by kernel_rfl) ?_ _
          have HOW := Lib.hid (show wr.drew.ownsRow W.heap.size 9 1 u5 (chgAcc ns ms i).length ((chgAcc ns ms i).map Value.string) from HO.out)
          have HO6 := Lib.hid (own_below1 (own_below1 HOW.out hb5) hb6)
          have HTW := Lib.hid (show wr.drew.ownsRow W2.heap.size 9 1 (.slice (some ⟨b, off, none⟩) ml c4) ml ((mergeP ns ms).map Value.string) from HT.out)
          have HT6 := Lib.hid (own_below1 (own_below1 HTW.out hb5) hb6)
          have HTL := Lib.hid (fun k e => (HT6.out.lt k e).2)
          have hc6 := HC6.out
          clear hb5 hb6
          cases dd with
          | false =>
            have HN := Lib.hid (chgAcc_no HX.out HDD.out)
            go_wp2_with fail
            go_roundw
            case rel => exact ⟨i + 1, by push_cast; rfl, by have := HME.out; have := HLT.out; omega, by rw [HN.out]; exact HO6.out, HT6.out, HDO.out, HB6.out⟩
            case measure => have := HLT.out; simp [intOf]; omega
          | true =>
            have HY := Lib.hid (chgAcc_yes HX.out HDD.out)
            have HCL := Lib.hid (show (chgAcc ns ms i).length ≤ 20 by have := chgAcc_len ns ms i; have := HML.out; have := HLT.out; omega)
            have hlt0 := HO6.out.lt
            go_wp2_with (at_builtin; refine wpList_append_where rfl _ _ 27 rfl W.heap.size 9 i0 (.string ⟨#[]⟩) 16 Try.underlying27 hi hz0 hz1 hz2 rfl _ _ _ rfl (HO6.out.alloc _) ⟨W6.heap.size, 0, none⟩ 1 1 [.string x] rfl rfl (cell_str_new _ _ _) (fun x hx => by simp at hx; subst hx; rfl) (by have := HCL.out; unfold maxLen; omega) (by have := HCL.out; omega) (by have := HB6.out.size; simp; omega) ?_; intro v5 w5 ho5 hg5 hn5)
            have B5 : Below W.heap.size W w5 := (HB6.out.alloc HB6.out.size _).grown hg5 (by have := HB6.out.size; simp; omega) (fun g e => (hlt0 g e).1)
            have hT5 := own_farT (HT6.out.alloc (.cells #[.string x] 9)) hg5 (fun k e1 e2 => HDO.out k e2 e1)
            have hD5 : ∀ k, v5.ownBlock = some k → (Value.slice (some ⟨b, off, none⟩) ml c4).ownBlock ≠ some k := fun k e1 e2 => by
              rcases hn5 k e1 with e | e
              · exact HDO.out k e e2
              · have := HTL.out k e2
                simp at e
                omega
            go_roundw
            case rel => exact ⟨i + 1, by push_cast; rfl, by have := HME.out; have := HLT.out; omega, by rw [HY.out]; exact own_text ho5, hT5, hD5, B5⟩
            case measure => have := HLT.out; simp [intOf]; omega
        · have hge : (ml : Int) ≤ i := by omega
          have HR := Lib.hid (show chgAcc ns ms i = chgL ns ms by
            unfold chgAcc chgL
            rw [HW1.out, HW2.out, List.take_of_length_le (by have := HME.out; omega)]; rfl)
          clear hlt hi2
          go_wp2
          refine bodyPost_ret (v := u5) (by simp [results, Try.f25, go_sem]) rfl ?_
          rw [← HR.out]
          exact ⟨⟨u5, rfl, HO.out⟩, HB.out⟩

end Go.Proofs.Ytmdidhlfpaganaa

/-
  WALKS: impl.PathParent, impl.PathUnder.
-/
namespace Go.Proofs.Ytmdidhlfpaganaa
open Go.RowKit

set_option maxHeartbeats 400000 in
set_option maxRecDepth 100000 in
theorem slHasPrefix_c (s p : ByteArray) (w : World) :
    Calls Try.prog 83 #[.string s, .string p] w fun e w' => e = .returned (.bool (pfxB s p)) ∧ w' = w := by
  by_cases h : p.size ≤ s.size
  · obtain ⟨b, hb⟩ : ∃ b, ((s.extract 0 p.size).toList == p.toList) = b := ⟨_, rfl⟩
    have hv : Hid (pfxB s p = b) := by show _ = _; unfold pfxB; rw [decide_eq_true h, hb]; rfl
    have h1 : (p.size : Int) ≤ s.size := by omega
    have h2 : (0 : Int) ≤ p.size := by omega
    go_enter Try.func83, Try.ntmps83
    go_wp2
    go_ret
    exact ⟨ret_bool hv.out.symm, rfl⟩
  · have hv : Hid (pfxB s p = false) := by show _ = _; unfold pfxB; rw [decide_eq_false h]; rfl
    have h1 : (s.size : Int) < p.size := by omega
    clear h
    go_enter Try.func83, Try.ntmps83
    go_wp2
    go_ret
    exact ⟨ret_bool hv.out.symm, rfl⟩

set_option maxHeartbeats 400000 in
set_option maxRecDepth 100000 in
theorem hasPrefix_c (s p : ByteArray) (w : World) :
    Calls Try.prog 54 #[.string s, .string p] w fun e w' => e = .returned (.bool (pfxB s p)) ∧ w' = w := by
  have hc := fun w => slHasPrefix_c s p w
  go_enter Try.func54, Try.ntmps54
  go_wp2_with (go_at_call 83; refine (hc _).mono ?_; rintro e w' ⟨rfl, rfl⟩)
  go_ret
  exact ⟨rfl, rfl⟩

set_option maxHeartbeats 400000 in
set_option maxRecDepth 100000 in
theorem lastIndexRow_c (s : ByteArray) (m : Nat) (hs : s.size = m + 2) (hm : m ≤ 2097152) (h0 : ((s[m].toNat : Int) == 47) = true) (h1 : ((s[m + 1].toNat : Int) == 47) = false) (w : World) :
    Calls Try.prog 110 #[.string s, .int .u8 47] w fun e w' => e = .returned (.int .i64 m) ∧ w' = w := by
  go_enter Try.func110, Try.ntmps110
  go_wp2
  go_loop [5] (fun i => ∃ k : Nat, m ≤ k ∧ k ≤ m + 1 ∧ i = .int .i64 k) (fun i => (intOf i).toNat)
  case atStart => exact ⟨m + 1, by omega, by omega, by go_num⟩
  case round =>
    obtain ⟨k, hk1, hk2, rfl⟩ := hrel
    by_cases hk : k = m
    · subst hk
      go_wp2
      go_ret
      exact ⟨rfl, rfl⟩
    · obtain rfl : k = m + 1 := by omega
      go_wp2
      go_round
      case rel => exact ⟨m, by omega, by omega, by go_num⟩
      case measure => simp [intOf]

set_option maxHeartbeats 400000 in
set_option maxRecDepth 100000 in
theorem lastIndex_c (s : ByteArray) (m : Nat) (hs : s.size = m + 2) (hm : m ≤ 2097152) (h0 : ((s[m].toNat : Int) == 47) = true) (h1 : ((s[m + 1].toNat : Int) == 47) = false) (w : World) :
    Calls Try.prog 94 #[.string s, .int .u8 47] w fun e w' => e = .returned (.int .i64 m) ∧ w' = w := by
  have hc := fun w => lastIndexRow_c s m hs hm h0 h1 w
  have HC := Lib.hid hc
  clear hc h0 h1 hs
  go_enter Try.func94, Try.ntmps94
  go_wp2_with (go_at_call 110; refine (HC.out _).mono ?_; rintro e w' ⟨rfl, rfl⟩)
  go_ret
  exact ⟨rfl, rfl⟩

set_option maxHeartbeats 400000 in
set_option maxRecDepth 100000 in
/-- impl.PathParent, at every text of modest length. -/
theorem pathParent_c (s : ByteArray) (hs : s.size ≤ 2097152) (w : World) :
    Calls Try.prog 78 #[.string s] w fun e w' => e = .returned (.string (parentB s)) ∧ Below w.heap.size w w' := by
  obtain ⟨d, hd⟩ : ∃ d, Pm.depth s.data.toList = d := ⟨_, rfl⟩
  have hc : ∀ w, Calls Try.prog 50 #[.string s] w fun e w' => e = .returned (.int .i64 d) ∧ Below w.heap.size w w' := fun w => by rw [← hd]; exact pathDepth_c s (by omega) w
  have HC := Lib.hid hc
  clear hc
  by_cases h1 : d < 1
  · have hv : Hid (parentB s = ⟨#[]⟩) := by show _ = _; unfold parentB Pm.parent; rw [hd, if_pos h1]
    have hcs : d = -1 ∨ d = 0 := by
      rw [← hd] at h1 ⊢; unfold Pm.depth at h1 ⊢; split at h1 <;> simp_all <;> omega
    clear hd h1
    rcases hcs with rfl | rfl
    all_goals
      go_enter Try.func78, Try.ntmps78
      go_wp2_with (go_at_call 50; refine (HC.out _).mono ?_; rintro e w' ⟨rfl, hb⟩)
      go_ret
      exact ⟨ret_str hv.out.symm, hb⟩
  · obtain ⟨m, k1, k2, ⟨c, k3, k4⟩, k5, k6⟩ := Pm.last_facts s.data.toList (by omega)
    rw [hd] at k6
    have hsz : s.size = m + 2 := by rw [Lib.size_eq]; exact k1
    rw [← Lib.size_eq] at k5 k6
    by_cases h2 : d = 1
    · have hv : Hid (parentB s = ⟨#[47]⟩) := by show _ = _; unfold parentB; rw [k5, if_pos (k6.1 h2)]
      subst h2
      clear k1 k2 k3 k4 k5 k6 h1 hd hsz
      go_enter Try.func78, Try.ntmps78
      go_wp2_with (go_at_call 50; refine (HC.out _).mono ?_; rintro e w' ⟨rfl, hb⟩)
      go_ret
      exact ⟨ret_str hv.out.symm, hb⟩
    · have hv : Hid (parentB s = s.extract 0 m) := by
        show _ = _; unfold parentB; rw [k5, if_neg (fun h => h2 (k6.2 h)), Lib.extract_eq]; simp
      rw [Pm.byte_getElem? s m (by omega)] at k2
      rw [Pm.byte_getElem? s (m + 1) (by omega)] at k3
      have g0 : ((s[m].toNat : Int) == 47) = true := toNat_47 (by simpa using k2)
      have g1 : ((s[m + 1].toNat : Int) == 47) = false := toNat_not_47 (by rw [Option.some.inj k3]; exact k4)
      have hl := Lib.hid (fun w => lastIndex_c s m hsz (by omega) g0 g1 w)
      have e1 : (d == -1) = false := beq_eq_false_iff_ne.2 (by omega)
      have e2 : (d == 0) = false := beq_eq_false_iff_ne.2 (by omega)
      have e3 : (d == 1) = false := beq_eq_false_iff_ne.2 h2
      have b1 : (m : Int) ≤ s.size := by omega
      clear g0 g1 k1 k2 k3 k4 k5 k6 h1 hd hsz h2
      go_enter Try.func78, Try.ntmps78
      go_wp2_with (first | (go_at_call 50; refine (HC.out _).mono ?_; rintro e w' ⟨rfl, hb⟩) | (go_at_call 94; refine (hl.out _).mono ?_; rintro e w2 ⟨rfl, rfl⟩))
      go_ret
      exact ⟨ret_str hv.out.symm, hb⟩

set_option maxHeartbeats 400000 in
set_option maxRecDepth 100000 in
/-- impl.PathUnder, at every two texts of modest length. -/
theorem pathUnder_c (a b : ByteArray) (ha : a.size ≤ 2097152) (hb : b.size ≤ 2097152) (w : World) :
    Calls Try.prog 16 #[.string a, .string b] w fun e w' => e = .returned (.bool (underB a b)) ∧ Below w.heap.size w w' := by
  obtain ⟨da, hda⟩ : ∃ d, Pm.depth a.data.toList = d := ⟨_, rfl⟩
  obtain ⟨db, hdb⟩ : ∃ d, Pm.depth b.data.toList = d := ⟨_, rfl⟩
  have hu := Pm.under_impl a.data.toList b.data.toList
  rw [hda, hdb, ← pfxB_eq] at hu
  have hv : Hid (underB a b = (decide (0 ≤ da) && (decide (da < db) && pfxB b a))) := hu.symm
  have ca : ∀ w, Calls Try.prog 50 #[.string a] w fun e w' => e = .returned (.int .i64 da) ∧ Below w.heap.size w w' := fun w => by rw [← hda]; exact pathDepth_c a (by omega) w
  have cb : ∀ w, Calls Try.prog 50 #[.string b] w fun e w' => e = .returned (.int .i64 db) ∧ Below w.heap.size w w' := fun w => by rw [← hdb]; exact pathDepth_c b (by omega) w
  have CA := Lib.hid ca
  have CB := Lib.hid cb
  have CP := Lib.hid (fun w => hasPrefix_c b a w)
  clear ca cb hu hda hdb
  by_cases h0 : 0 ≤ da
  · by_cases h1 : da < db
    · have hv2 : Hid (underB a b = pfxB b a) := by show _ = _; rw [hv.out, decide_eq_true h0, decide_eq_true h1]; rfl
      go_enter Try.func16, Try.ntmps16
      go_wp2_with fail
      refine (CA.out _).mono ?_; rintro e w1 ⟨rfl, hb1⟩
      go_wp2_with fail
      refine (CB.out _).mono ?_; rintro e w2 ⟨rfl, hb2⟩
      go_wp2_with (go_at_call 54; refine (CP.out _).mono ?_; rintro e w' ⟨rfl, rfl⟩)
      go_ret
      exact ⟨ret_bool hv2.out.symm, hb1.trans (hb2.mono hb1.size)⟩
    · have hv2 : Hid (underB a b = false) := by show _ = _; rw [hv.out, decide_eq_true h0, decide_eq_false h1]; rfl
      have h1' : db ≤ da := by omega
      clear h1
      go_enter Try.func16, Try.ntmps16
      go_wp2_with fail
      refine (CA.out _).mono ?_; rintro e w1 ⟨rfl, hb1⟩
      go_wp2_with fail
      refine (CB.out _).mono ?_; rintro e w2 ⟨rfl, hb2⟩
      go_wp2
      go_ret
      exact ⟨ret_bool hv2.out.symm, hb1.trans (hb2.mono hb1.size)⟩
  · have hv2 : Hid (underB a b = false) := by show _ = _; rw [hv.out, decide_eq_false h0]; rfl
    have h1' : da < 0 := by omega
    clear h0
    go_enter Try.func16, Try.ntmps16
    go_wp2_with fail
    refine (CA.out _).mono ?_; rintro e w1 ⟨rfl, hb1⟩
    go_wp2_with fail
    refine (CB.out _).mono ?_; rintro e w2 ⟨rfl, hb2⟩
    go_wp2
    go_ret
    exact ⟨ret_bool hv2.out.symm, hb1.trans (hb2.mono hb1.size)⟩

end Go.Proofs.Ytmdidhlfpaganaa

/-
  WALKS: contents: impl.contentOf, impl.ContentValid.
-/
namespace Go.Proofs.Ytmdidhlfpaganaa
open Go.RowKit
set_option linter.unusedVariables false

/-- What a content stands for, and whether it is one. -/
def conOf (k v : Int) : Value × Bool :=
  if k = 0 ∧ v = 0 then (.iface 131 (.agg #[]), true)
  else if k = 1 ∧ v = 0 then (.iface 132 (.agg #[]), true)
  else if k = 2 ∧ 0 ≤ v ∧ v ≤ 99 then (.iface 134 (.agg #[.int .i64 v]), true)
  else (.nilIface, false)

theorem conOf_valid (k v : Int) : (conOf k v).2 = validB k v := by
  unfold conOf validB
  split
  · rename_i h; simp [h]
  · split
    · rename_i h; simp [h]
    · split
      · rename_i h; simp [h]
      · rename_i h1 h2 h3
        symm
        apply decide_eq_false
        rintro (⟨h, h4 | h4⟩ | h)
        · exact h1 ⟨h4, h⟩
        · exact h2 ⟨h4, h⟩
        · exact h3 h

def ConPost (k v : Int) (w : World) (e : Ending) (w' : World) : Prop :=
  e = .returned (.tuple #[(conOf k v).1, .bool (conOf k v).2]) ∧ Below w.heap.size w w'

theorem con_post (k v : Int) (w : World) (r : Value × Bool) (h : conOf k v = r) (t : TypeId) : ConPost k v w (.returned (.tuple #[r.1, .bool r.2])) (w.alloc (.cells #[.int .i64 k, .int .i64 v] t)) := by
  subst h; exact ⟨rfl, below_box _ _⟩

set_option maxHeartbeats 400000 in
set_option maxRecDepth 100000 in
theorem contentOf_c (k v : Int) (w : World) : Calls Try.prog 81 #[con k v] w (ConPost k v w) := by
  unfold con
  by_cases h0 : k = 0
  · subst h0
    by_cases hv : v = 0
    · subst hv
      go_enter Try.func81, Try.ntmps81
      go_wp2
      go_ret2
      exact con_post _ _ _ (_, _) rfl _
    · have H := Lib.hid (show conOf 0 v = (.nilIface, false) by unfold conOf; simp [hv])
      go_enter Try.func81, Try.ntmps81
      go_wp2
      go_ret2
      exact con_post _ _ _ (_, _) H.out _
  · by_cases h1 : k = 1
    · subst h1
      clear h0
      by_cases hv : v = 0
      · subst hv
        go_enter Try.func81, Try.ntmps81
        go_wp2
        go_ret2
        exact con_post _ _ _ (_, _) rfl _
      · have H := Lib.hid (show conOf 1 v = (.nilIface, false) by unfold conOf; simp [hv])
        go_enter Try.func81, Try.ntmps81
        go_wp2
        go_ret2
        exact con_post _ _ _ (_, _) H.out _
    · by_cases h2 : k = 2
      · subst h2
        clear h0 h1
        by_cases hv : 0 ≤ v
        · by_cases hw : v ≤ 99
          · have H := Lib.hid (show conOf 2 v = (.iface 134 (.agg #[.int .i64 v]), true) by unfold conOf; simp [hv, hw])
            go_enter Try.func81, Try.ntmps81
            go_wp2
            go_ret2
            exact con_post _ _ _ (_, _) H.out _
          · have H := Lib.hid (show conOf 2 v = (.nilIface, false) by unfold conOf; simp [hw])
            have hw' : 99 < v := by omega
            clear hw
            go_enter Try.func81, Try.ntmps81
            go_wp2
            go_ret2
            exact con_post _ _ _ (_, _) H.out _
        · have H := Lib.hid (show conOf 2 v = (.nilIface, false) by unfold conOf; simp [hv])
          have hv' : v < 0 := by omega
          clear hv
          go_enter Try.func81, Try.ntmps81
          go_wp2
          go_ret2
          exact con_post _ _ _ (_, _) H.out _
      · have H := Lib.hid (show conOf k v = (.nilIface, false) by unfold conOf; simp [h0, h1, h2])
        go_enter Try.func81, Try.ntmps81
        go_wp2
        go_ret2
        exact con_post _ _ _ (_, _) H.out _

set_option maxHeartbeats 400000 in
set_option maxRecDepth 100000 in
theorem implValid_c (k v : Int) (w : World) : Calls Try.prog 51 #[con k v] w (BoolPost (validB k v) w) := by
  have H := Lib.hid (fun w => contentOf_c k v w)
  have HV := Lib.hid (conOf_valid k v)
  unfold con at H ⊢
  go_enter Try.func51, Try.ntmps51
  go_wp2_with fail
  refine (H.out _).mono ?_
  rintro e W1 ⟨rfl, hb⟩
  rw [HV.out]
  go_wp2
  go_ret
  exact ⟨rfl, below_next (below_box _ _) hb⟩

end Go.Proofs.Ytmdidhlfpaganaa

/-
  A REGION THAT DRAWS ITS ORDER AND ONLY READS, within a round of a loop over a function: the law of the kit for activations, carried into a round.
-/
namespace Go.Proofs.Ytmdidhlfpaganaa
open Go.RowKit

theorem wpOpIn_round {F : Fence} {n : Nat} {P : Program} {ops : Array Oper} {Q : Exit → Act → World → Prop} {i : Nat} {K K' : Act → World → Prop} {a : Act} {w : World} (l : Nat) (hro : F.round = none)
    (hd : ∀ o, ops[i]? = some o → ∀ c, o.op ≠ .defer c) (hK : ∀ a w, K a w → K' a w) (h : wpOpIn F n P ops Q i K a w) : wpOpIn (F.inRound l) n P ops Q i K' a w := by
  have h := wpOpIn_mono hK h
  unfold wpOpIn at h ⊢
  cases ho : ops[i]? with
  | none => simp only [ho] at h ⊢; exact h
  | some o =>
    simp only [ho] at h ⊢
    split
    · rename_i hw
      rw [if_pos hw] at h
      refine ⟨h.1, ?_⟩
      have h2 := h.2
      rw [hro, Oper.semAt_none] at h2
      rw [Oper.semAt_eq _ _ _ (hd o ho)]
      exact h2
    · rename_i hw
      rw [if_neg hw] at h
      exact h

theorem wpAnyIn_round {F : Fence} {n : Nat} {P : Program} {ops : Array Oper} {Q : Exit → Act → World → Prop} {md : Region.Mode} (l : Nat) (hro : F.round = none)
    (hd : ∀ (i : Nat) (o : Oper), ops[i]? = some o → ∀ c, o.op ≠ .defer c) : ∀ (fuel : Nat) (listed : Array Bool) (a : Act) (w : World), wpAnyIn F n P md ops Q fuel listed a w → wpAnyIn (F.inRound l) n P md ops Q fuel listed a w
  | 0, _, _, _, h => h
  | fuel + 1, _, _, _, h => ⟨h.1, fun i hi => wpOpIn_round l hro (hd i) (fun a w => wpAnyIn_round l hro hd fuel _ a w) (h.2 i hi)⟩

def noDefer (o : Oper) : Bool := match o.op with
  | .defer _ => false
  | _ => true

theorem quiet_round {F : Fence} {n : Nat} {P : Program} {id : Nat} {Q : Exit → Act → World → Prop} {a : Act} {w : World} {ops : List Oper} (l : Nat) (hro : F.round = none) (hm : P.follows .mixedOrders = true) (hB : Region.lexB .any ops.toArray = true)
    (hd : ops.all noDefer = true)
    (h : wpQuietIn F n P ops.toArray (fun w' => ∃ n, w' = w.drewN n) (fun a' => ∀ w', (∃ n, w' = w.drewN n) → Q .normal a' w') ops a) : (Code.region id ops.toArray true).wpIn (F.inRound l) n P Q a w := by
  simp only [Region.lexB, Bool.and_eq_true] at hB
  have hd' : ∀ (i : Nat) (o : Oper), ops.toArray[i]? = some o → ∀ c, o.op ≠ .defer c := by
    intro i o ho c e
    have hm : o ∈ ops := by
      have := List.mem_of_getElem? (by simpa using ho : ops[i]? = some o)
      exact this
    have := List.all_eq_true.1 hd o hm
    unfold noDefer at this
    rw [e] at this
    cases this
  refine wpIn_region_any hm (wpAnyIn_round l hro hd' _ _ _ _ ?_)
  refine wpAnyIn_of_quiet (C := fun w' => ∃ n, w' = w.drewN n) (Q := fun a' => ∀ w', (∃ n, w' = w.drewN n) → Q .normal a' w') hro (fun _ w' hw' h => h w' hw') _ _ _ _ ⟨1, rfl⟩ ?_
  have := wpAnyQIn_lex (F := F) (n := n) (C := fun w' => ∃ n, w' = w.drewN n) (md := .any) hB.1 ops 0 (Array.replicate ops.toArray.size false) a (by simp) (by simpa using hB.2) h
  simpa using this

/-- A region that draws its order, within a round: walked as outside of it. -/
theorem region_round {F : Fence} {n : Nat} {P : Program} {id : Nat} {Q : Exit → Act → World → Prop} {a : Act} {w : World} {ops : List Oper} (l : Nat) (hro : F.round = none) (hm : P.follows .mixedOrders = true) (hd : ops.all noDefer = true)
    (h : wpAnyIn F n P .any ops.toArray Q ops.toArray.size (Array.replicate ops.toArray.size false) a w.drew) : (Code.region id ops.toArray true).wpIn (F.inRound l) n P Q a w := by
  have hd' : ∀ (i : Nat) (o : Oper), ops.toArray[i]? = some o → ∀ c, o.op ≠ .defer c := by
    intro i o ho c e
    have hm : o ∈ ops := by
      have := List.mem_of_getElem? (by simpa using ho : ops[i]? = some o)
      exact this
    have := List.all_eq_true.1 hd o hm
    unfold noDefer at this
    rw [e] at this
    cases this
  exact wpIn_region_any hm (wpAnyIn_round l hro hd' _ _ _ _ h)

end Go.Proofs.Ytmdidhlfpaganaa

/-
  WALKS: the place of a path (impl.place.at).
-/
namespace Go.Proofs.Ytmdidhlfpaganaa
open Go.RowKit Go.Shelf

attribute [local go_sem] Oper.semAt_some

/-- The letters among the parts. -/
def wd (pre : List ByteArray) : List UInt8 := pre.flatMap (fun x => if Pm.nameBB x = true then x.data.toList else [])

theorem wd_app (pre : List ByteArray) (x : ByteArray) : wd (pre ++ [x]) = wd pre ++ (if Pm.nameBB x = true then x.data.toList else []) := by
  unfold wd; rw [List.flatMap_append]; simp

theorem name_letter {x : ByteArray} (h : Pm.nameBB x = true) : ∃ c i, x = ⟨#[c]⟩ ∧ i < 4 ∧ c = UInt8.ofNat (97 + i) := by
  obtain ⟨⟨l⟩⟩ := x
  match l, h with
  | [c], h =>
    have h' : Pm.letter c = true := h
    have := (letter_iff c).1 h'
    simp only [letters, List.mem_cons, List.not_mem_nil, or_false] at this
    rcases this with rfl | rfl | rfl | rfl
    · exact ⟨97, 0, rfl, by omega, rfl⟩
    · exact ⟨98, 1, rfl, by omega, rfl⟩
    · exact ⟨99, 2, rfl, by omega, rfl⟩
    · exact ⟨100, 3, rfl, by omega, rfl⟩
  | [], h => cases h
  | _ :: _ :: _, h => cases h

theorem wd_len (pre : List ByteArray) : (wd pre).length ≤ pre.length := by
  induction pre with
  | nil => simp [wd]
  | cons x r ih =>
    have : wd (x :: r) = (if Pm.nameBB x = true then x.data.toList else []) ++ wd r := rfl
    rw [this, List.length_append, List.length_cons]
    split
    · rename_i h
      obtain ⟨c, i, rfl, _⟩ := name_letter h
      simp; omega
    · simp; omega

theorem parts_word {v : List UInt8} (h : Wrd v) : wd (Pm.partsB (pB v)) = v ∧ (Pm.partsB (pB v)).length ≤ 4 := by
  by_cases hn : v = []
  · subst hn; decide
  · have hp : Pm.partsB (pB v) = v.map fun x => ⟨#[x]⟩ := by
      unfold Pm.partsB
      rw [pB_list, Pm.parts_path v hn h.2, List.map_map]
      rfl
    rw [hp]
    refine ⟨?_, by rw [List.length_map]; exact h.1⟩
    have hv := h.2
    clear hn hp h
    induction v with
    | nil => rfl
    | cons c r ih =>
      have hc : Pm.nameBB ⟨#[c]⟩ = true := hv c (by simp)
      have : wd ((c :: r).map fun x => (⟨#[x]⟩ : ByteArray)) = (if Pm.nameBB ⟨#[c]⟩ = true then [c] else []) ++ wd (r.map fun x => ⟨#[x]⟩) := rfl
      rw [this, if_pos hc, ih (fun x hx => hv x (List.mem_cons_of_mem _ hx))]
      rfl

theorem pB_size {v : List UInt8} (h : Wrd v) : (pB v).size ≤ 8 := by
  show (Pm.pathOf v).length ≤ 8
  unfold Pm.pathOf
  split
  · simp
  · rw [Pm.flat_length]; have := h.1; omega

def AtPost (A : List UInt8 → Option Nat) (F : List UInt8 → Int × Int) (v : List UInt8) (w : World) (e : Ending) (w' : World) : Prop :=
  ∃ A' b, e = .returned (.pointer (some ⟨b, 0, none⟩)) ∧ A' v = some b ∧ Trie w' A' F ∧ Ext A A' w.heap.size ∧ Off A w.heap.size w w'

def AtI (A : List UInt8 → Option Nat) (F : List UInt8 → Int × Int) (w : World) (pre : List ByteArray) (W : World) : Prop :=
  w.heap.size + 2 ≤ W.heap.size ∧ ∃ A' b, A' (wd pre) = some b ∧ Trie W A' F ∧ Ext A A' (w.heap.size + 2) ∧ Off A w.heap.size w W ∧ Boxed W w.heap.size 63 (.pointer (some ⟨b, 0, none⟩))

theorem AtI.own (A : List UInt8 → Option Nat) (F : List UInt8 → Int × Int) (w : World) (B : Nat) (hB : w.heap.size ≤ B) : OwnFrom B (AtI A F w) := by
  rintro pre W W' row ⟨h0, A', b, h1, h2, h3, h4, h5⟩ hg hr
  refine ⟨Nat.le_trans h0 hg.size, A', b, h1, h2.kept fun u c hc => hg.block c (h2.lt hc) fun e => ?_, h3, ?_, ?_⟩
  · obtain ⟨_, o, ho, hoc⟩ := hr c e.symm
    rw [h2.cells u c hc] at ho
    cases ho; cases hoc
  · refine h4.trans ⟨hg.os, hg.tape, hg.output, hg.size, fun k hk _ => hg.block k (by have := h4.size; omega) fun e => ?_⟩
    have := (hr k e.symm).1; omega
  · refine h5.kept hg fun e => ?_
    obtain ⟨_, o, ho, hoc⟩ := hr _ e.symm
    rw [show W.heap[w.heap.size]? = _ from h5] at ho
    cases ho; cases hoc

theorem size_setC (W : World) (a : Addr) (v : Value) : (W.setCell a v).heap.size = W.heap.size := by simp [World.setCell]

theorem Boxed.past {W : World} {B : Nat} {t : TypeId} {v : Value} (h : Boxed W B t v) {b : Nat} (hb : B ≠ b) (i : Nat) (u : Value) : Boxed (W.setCell ⟨b, i, none⟩ u) B t v := by
  unfold Boxed at h ⊢
  rw [Below.heap_setCell _ _ _ _ hb]; exact h

theorem box_apart {A A' : List UInt8 → Option Nat} {F : List UInt8 → Int × Int} {w : World} (hT : Trie w A F) (h3 : Ext A A' (w.heap.size + 2)) {u : List UInt8} {c : Nat} (hc : A' u = some c) : c ≠ w.heap.size := fun e => by
  rcases (h3 u c).2 hc with q | q
  · have := hT.lt q; omega
  · omega

/-- A round that finds a place. -/
theorem at_found {A A' : List UInt8 → Option Nat} {F : List UInt8 → Int × Int} {w W : World} {pre : List ByteArray} {b b' : Nat} (hT : Trie w A F) (hz : w.heap.size + 2 ≤ W.heap.size) (h2 : Trie W A' F) (h3 : Ext A A' (w.heap.size + 2)) (h4 : Off A w.heap.size w W)
    (h5 : Boxed W w.heap.size 63 (.pointer (some ⟨b, 0, none⟩))) (hA : A' (wd pre) = some b') : AtI A F w pre (W.setCell ⟨w.heap.size, 0, none⟩ (.pointer (some ⟨b', 0, none⟩))) :=
  ⟨by rw [size_setC]; exact hz, A', b', hA, h2.kept fun u c hc => Below.heap_setCell _ _ _ _ (box_apart hT h3 hc), h3, h4.set (.inl (Nat.le_refl _)) _, h5.set _⟩

/-- A round that makes a place. -/
theorem at_made {A A' : List UInt8 → Option Nat} {F : List UInt8 → Int × Int} {w W : World} {pre : List ByteArray} {u : List UInt8} {c : UInt8} {i b : Nat} (hT : Trie w A F) (hz : w.heap.size + 2 ≤ W.heap.size) (h1 : A' u = some b) (h2 : Trie W A' F) (h3 : Ext A A' (w.heap.size + 2)) (h4 : Off A w.heap.size w W)
    (h5 : Boxed W w.heap.size 63 (.pointer (some ⟨b, 0, none⟩))) (hi : i < 4) (hc : c = UInt8.ofNat (97 + i)) (hl : u.length < 4) (hn : A' (u ++ [c]) = none) (hw : wd pre = u ++ [c]) :
    AtI A F w pre (((W.alloc (.cells #[.int .i64 0, .int .i64 0, .pointer none, .pointer none, .pointer none, .pointer none] 70)).setCell ⟨b, 2 + i, none⟩ (.pointer (some ⟨W.heap.size, 0, none⟩))).setCell ⟨w.heap.size, 0, none⟩ (.pointer (some ⟨W.heap.size, 0, none⟩))) := by
  have h3' : Ext A (addA A' (u ++ [c]) W.heap.size) (w.heap.size + 2) := h3.trans (ext_add hn hz)
  have hb := box_apart hT h3 h1
  obtain ⟨o, ho⟩ : ∃ o, o = (Obj.cells #[.int .i64 0, .int .i64 0, .pointer none, .pointer none, .pointer none, .pointer none] 70) := ⟨_, rfl⟩
  have hm := h2.make h1 i hi hc hl hn
  rw [← ho] at hm ⊢
  clear ho
  have hoff : Off A w.heap.size w ((W.alloc o).setCell ⟨b, 2 + i, none⟩ (.pointer (some ⟨W.heap.size, 0, none⟩))) := by
    refine (h4.new (by omega) _).set ?_ _
    rcases (h3 u b).2 h1 with q | q
    · exact .inr ⟨u, q⟩
    · exact .inl (by show w.heap.size ≤ b; omega)
  have hbox : Boxed ((W.alloc o).setCell ⟨b, 2 + i, none⟩ (.pointer (some ⟨W.heap.size, 0, none⟩))) w.heap.size 63 (.pointer (some ⟨b, 0, none⟩)) := Boxed.past (h5.alloc o) (fun e => hb e.symm) _ _
  have hsz : w.heap.size + 2 ≤ ((W.alloc o).setCell ⟨b, 2 + i, none⟩ (.pointer (some ⟨W.heap.size, 0, none⟩))).heap.size := by
    rw [size_setC, World.size_alloc]; omega
  have hself : addA A' (u ++ [c]) W.heap.size (wd pre) = some W.heap.size := by rw [hw]; exact if_pos rfl
  generalize (W.alloc o).setCell ⟨b, 2 + i, none⟩ (.pointer (some ⟨W.heap.size, 0, none⟩)) = W6 at hm hoff hbox hsz ⊢
  exact at_found hT hsz hm h3' hoff hbox hself

set_option maxRecDepth 100000 in
set_option maxHeartbeats 2000000 in
theorem at_in (A : List UInt8 → Option Nat) (F : List UInt8 → Int × Int) (v : List UInt8) (hv : Wrd v) (w : World) (hT : Trie w A F) (b0 : Nat) (h0 : A [] = some b0) :
    CallsIn Fence.wide 6 Try.prog 52 #[.pointer (some ⟨b0, 0, none⟩), .string (pB v)] w (AtPost A F v w) := by
  have hs := Nat.le_trans (pB_size hv) (show 8 ≤ 140737488355328 by omega)
  obtain ⟨hwd, hlen⟩ := parts_word hv
  obtain ⟨s, hsv⟩ : ∃ s, s = pB v := ⟨_, rfl⟩
  rw [← hsv] at hs hwd hlen ⊢
  have HT := Lib.hid hT
  have HV := Lib.hid hsv
  clear hsv hT
  refine callsIn_of_wp_marks Try.func52 rfl trivial ?_ rfl
  simp only [Try.ntmps52, List.size_toArray, List.length_cons, List.length_nil, Nat.reduceAdd, Nat.reduceSub, Array.replicate_succ, Array.replicate_zero, List.push_toArray, List.append_toArray, List.nil_append, List.cons_append]
  gi_wp2_with (refine ⟨trivial, ?_⟩; gi_at_call 79; refine (partsOf_in _ s _).mono ?_; rintro e w' ⟨rfl, rfl⟩)
  have b1 := Boxed.new w 63 (.pointer (some ⟨b0, 0, none⟩))
  have b2 := Boxed.new (w.alloc (.cells #[.pointer (some ⟨b0, 0, none⟩)] 63)) 9 (.string s)
  simp only [World.size_alloc] at b2
  have hB0 : Below w.heap.size w ((w.alloc (.cells #[.pointer (some ⟨b0, 0, none⟩)] 63)).alloc (.cells #[.string s] 9)) := ((Below.refl _ w).alloc (Nat.le_refl _) _).alloc (by simp) _
  refine wpIn_rangeFunc_ownG rfl (by omega) (gf := 95) (lb := #[.pointer (some ⟨w.heap.size + 1, 0, none⟩)]) rfl trivial (enters_of Try.func95 (by kernel_rfl) rfl)
    (partsOf_stops _ (by omega) (w.heap.size + 1) 0 s hs _ (by simp) b2.cell) belowK_t (belowK_b (Nat.zero_le _)) (Below.refl _ _) (fun _ => rfl)
    (AtI A F w) (fun _ _ _ => False)
    (AtI.own A F w _ (by simp; omega)) (fun _ _ _ _ _ h => h.elim)
    ⟨by simp, A, b0, h0, HT.out.below hB0, Ext.refl _ _, .of_below hB0, b1.alloc _⟩
    (fun x => { tmps := #[.pointer (some ⟨b0, 0, none⟩), .string s, .pointer (some ⟨w.heap.size, 0, none⟩), undef, .pointer none, .string x, undef, .string s, .func (.func 95) #[] #[.pointer (some ⟨w.heap.size + 1, 0, none⟩)], .string x, undef, undef, undef, undef, undef, undef, undef, undef, undef, undef, undef, undef, undef, undef, undef, undef, undef, undef, undef, undef, undef, undef], defers := [] }) ?assign ?body ?done ?stop
  case assign =>
    intro l x W K hK
    gi_wp2
    exact hK
  case body =>
    rintro l pre x W ⟨hz, A', b, h1, h2, h3, h4, h5⟩ hpl
    have HZ := Lib.hid hz
    clear hz
    have hc0 := h5.cell
    have hf0 := h5.frozen
    cases hx : Pm.nameBB x with
    | false =>
      have hn := fun w => name_no hx w
      have hw : Hid (wd (pre ++ [x]) = wd pre) := by show _ = _; rw [wd_app, hx]; simp
      clear hx
      gi_wp2_with (refine ⟨trivial, ?_⟩; gi_at_call 80; refine (CallsIn.inRound l (callsIn_wide.2 (hn _))).mono ?_; rintro e w' ⟨rfl, rfl⟩)
      exact ⟨(KeepsOthers.refl _).from _, Below.refl _ _, HZ.out, A', b, by rw [hw.out]; exact h1, h2, h3, h4, h5⟩
    | true =>
      have hn := fun w => name_yes hx w
      obtain ⟨c, i, hxc, hi, hc⟩ := name_letter hx
      have hw : Hid (wd (pre ++ [x]) = wd pre ++ [c]) := by show _ = _; rw [wd_app, hx, hxc]; rfl
      have HX := Lib.hid hxc
      have HC := Lib.hid hc
      clear hx hxc hc
      gi_wp2_with (refine ⟨trivial, ?_⟩; gi_at_call 80; refine (CallsIn.inRound l (callsIn_wide.2 (hn _))).mono ?_; rintro e w' ⟨rfl, rfl⟩)
      have hxc := HX.out
      subst hxc
      have hcv : (c.toNat : Int) = 97 + i := by
        rw [HC.out]
        rcases (by omega : i = 0 ∨ i = 1 ∨ i = 2 ∨ i = 3) with rfl | rfl | rfl | rfl <;> rfl
      have hwr : ((((⟨#[c]⟩ : ByteArray)[0]'(by simp [ByteArray.size])).toNat : Int) - 97) % 256 = i := by
        show ((c.toNat : Int) - 97) % 256 = i
        rw [hcv]; omega
      have hi0 : (0 : Int) ≤ i := by omega
      have hi4 : (i : Int) < 4 := by omega
      clear hcv
      refine quiet_round (F := Fence.wide) l rfl (by kernel_rfl) (by kernel_rfl) (by kernel_rfl) ?_
      repeat (gi_big_quiet_step (fail))
      refine wpQuietIn_nil ?_
      rintro _ ⟨nq, rfl⟩
      have h2' : Trie (w'.drewN nq) A' F := h2.kept fun _ _ _ => rfl
      have h4' : Off A w.heap.size w (w'.drewN nq) := h4.trans ⟨rfl, rfl, rfl, Nat.le_refl _, fun _ _ _ => rfl⟩
      have h5' : Boxed (w'.drewN nq) w.heap.size 63 (.pointer (some ⟨b, 0, none⟩)) := h5
      have hz' : w.heap.size + 2 ≤ (w'.drewN nq).heap.size := HZ.out
      clear HZ
      have hk0 : KeepsOthers w' (w'.drewN nq) := ⟨Nat.le_refl _, fun _ _ h _ => h⟩
      have hb0' : Below 0 w' (w'.drewN nq) := ⟨rfl, rfl, rfl, Nat.le_refl _, fun _ _ => rfl⟩
      clear h2 h4 h5 hc0 hf0
      generalize w'.drewN nq = W at h2' h4' h5' hk0 hb0' hz' ⊢
      have HZ := Lib.hid hz'
      clear hz'
      have hbw : b ≠ w.heap.size := fun e => by
        rcases (h3 (wd pre) b).2 h1 with q | q
        · have := HT.out.lt q; omega
        · omega
      have hlp : (wd pre).length < 4 := Nat.lt_of_le_of_lt (wd_len pre) (by omega)
      have hc2 : W.cell? ⟨b, 2 + i, none⟩ = some (ptrTo (A' (wd pre ++ [c]))) := by
        rw [h2'.cell h1, HC.out]
        rcases (by omega : i = 0 ∨ i = 1 ∨ i = 2 ∨ i = 3) with rfl | rfl | rfl | rfl <;> rfl
      have hf2 := h2'.frozen h1 (2 + i)
      have hc0 := h5'.cell
      have hf0 := h5'.frozen
      have H2 := Lib.hid h2'
      have H3 := Lib.hid h3
      have H4 := Lib.hid h4'
      have H5 := Lib.hid h5'
      have HK := Lib.hid hk0
      have HB := Lib.hid hb0'
      have H1 := Lib.hid h1
      clear h1 h2' h3 h4' h5' hk0 hb0' hwr hn
      cases hA : A' (wd pre ++ [c]) with
      | some b' =>
        rw [hA] at hc2
        have HA := Lib.hid hA
        clear hA
        unfold ptrTo at hc2
        simp only [Option.map_some] at hc2
        gi_wp2
        exact ⟨(HK.out.trans (KeepsOthers.setCell _ _ _)).from _, HB.out.setCell (Nat.zero_le _) _, at_found HT.out HZ.out H2.out H3.out H4.out H5.out (by rw [hw.out]; exact HA.out)⟩
      | none =>
        rw [hA] at hc2
        have HA := Lib.hid hA
        clear hA
        unfold ptrTo at hc2
        simp only [Option.map_none] at hc2
        have hbl := H2.out.lt H1.out
        have hnx : (W.alloc (.cells #[.int .i64 0, .int .i64 0, .pointer none, .pointer none, .pointer none, .pointer none] 70)).cell? ⟨b, 2 + i, none⟩ = some (.pointer none) := by
          rw [World.cell?_alloc_old _ _ _ (by simp; omega)]; exact hc2
        gi_upto_region 7 with (fail)
        obtain ⟨W6, hW6⟩ : ∃ W6, W6 = (W.alloc (.cells #[.int .i64 0, .int .i64 0, .pointer none, .pointer none, .pointer none, .pointer none] 70)).setCell ⟨b, 2 + i, none⟩ (.pointer (some ⟨W.heap.size, 0, none⟩)) := ⟨_, rfl⟩
        rw [← World.setCell_alloc_past _ _ _ _ hbl, ← hW6]
        have hc6 : W6.cell? ⟨b, 2 + i, none⟩ = some (.pointer (some ⟨W.heap.size, 0, none⟩)) := by
          rw [hW6]; exact World.cell?_setCell_same _ _ _ hnx
        have q6 : Boxed W6 w.heap.size 63 (.pointer (some ⟨b, 0, none⟩)) := by
          rw [hW6]; exact Boxed.past (H5.out.alloc _) (fun e => hbw e.symm) _ _
        have hc7 := q6.cell
        have hf7 := q6.frozen
        have HW6 := Lib.hid hW6
        clear hW6 q6 hc0 hf0 hc2 hf2 hnx
        gi_wp2
        rw [HW6.out]
        exact ⟨(((HK.out.trans (KeepsOthers.alloc _ _)).trans (KeepsOthers.setCell _ _ _)).trans (KeepsOthers.setCell _ _ _)).from _, ((HB.out.alloc (Nat.zero_le _) _).setCell (Nat.zero_le _) _).setCell (Nat.zero_le _) _,
          at_made HT.out HZ.out H1.out H2.out H3.out H4.out H5.out hi HC.out hlp HA.out hw.out⟩
  case done =>
    rintro D ys W hD rfl ⟨hz, A', b, h1, h2, h3, h4, h5⟩ hK
    have hc0 := h5.cell
    have HZ := Lib.hid hz
    have H1 := Lib.hid (show A' v = some b by rw [← hwd]; exact h1)
    have H2 := Lib.hid h2
    have H3 := Lib.hid h3
    have H4 := Lib.hid h4
    have H5 := Lib.hid h5
    clear h1 h2 h3 h4 h5 hz
    gi_wp2
    refine ⟨by simp, .inl ⟨_, _, rfl, run_takeDeferred hK, ?_⟩⟩
    have hD' : w.heap.size ≤ D := by simp at hD; omega
    have hne : ∀ u c, A' u = some c → c ≠ D := fun u c hc e => by
      have := H2.out.cells u c hc
      rw [e, hK] at this; cases this
    refine ⟨.pointer (some ⟨b, 0, none⟩), by simp [results, Try.f52, go_sem], A', b, rfl, H1.out, H2.out.kept (fun u c hc => World.putObj_heap_other (hne u c hc)), fun u c => ⟨(H3.out u c).1, fun e => ?_⟩, H4.out.trans ⟨rfl, rfl, rfl, by simp, fun k hk _ => World.putObj_heap_other (by omega)⟩⟩
    rcases (H3.out u c).2 e with q | q
    · exact .inl q
    · exact .inr (by omega)
  case stop =>
    rintro D c pre W hD hpre hf
    exact hf.elim

theorem at_c (A : List UInt8 → Option Nat) (F : List UInt8 → Int × Int) (v : List UInt8) (hv : Wrd v) (w : World) (hT : Trie w A F) (b0 : Nat) (h0 : A [] = some b0) :
    Calls Try.prog 52 #[.pointer (some ⟨b0, 0, none⟩), .string (pB v)] w (AtPost A F v w) := callsIn_wide.1 (at_in A F v hv w hT b0 h0)

end Go.Proofs.Ytmdidhlfpaganaa

/-
  WALKS: impl.treeOf.
-/
namespace Go.Proofs.Ytmdidhlfpaganaa
open Go.RowKit
set_option linter.unusedVariables false

def lastB (a : List Nd) : ByteArray := match a.getLast? with
  | none => rootB
  | some m => m.p

theorem next_iff (a : List Nd) (n : Nd) : Next a n ↔ vpB n.p = true ∧ ltB (lastB a) n.p = true ∧ validB n.k n.v = true ∧ n.k ≠ 0 ∧ (getT a (parB n.p)).1 = 1 := Iff.rfl

/-- What treeOf returns. -/
def RootPost (ns : List Nd) (W : World) (e : Ending) (W' : World) : Prop :=
  Below W.heap.size W W' ∧ ((validT ns = false ∧ e = .returned (.tuple #[.pointer none, .bool false])) ∨
    (validT ns = true ∧ ∃ A b, e = .returned (.tuple #[.pointer (some ⟨b, 0, none⟩), .bool true]) ∧ A [] = some b ∧ Trie W' A (Fof ns) ∧ ∀ u c, A u = some c → W.heap.size ≤ c))

def RootRel (ns : List Nd) (W : World) (l i : Value) (wr : World) : Prop :=
  ∃ (n : Nat) (A : List UInt8 → Option Nat), i = .int .i64 n ∧ n ≤ ns.length ∧ l = .string (lastB (ns.take n)) ∧ Hid (validT (ns.take n) = true) ∧ Hid (Trie wr A (Fof (ns.take n))) ∧ Hid (A [] = some W.heap.size) ∧
    Hid (∀ u c, A u = some c → W.heap.size ≤ c) ∧ Hid (Below W.heap.size W wr)

theorem of_bad {ns : List Nd} {W w' : World} (h : validT ns = false) (hB : Below W.heap.size W w') : RootPost ns W (.returned (.tuple #[.pointer none, .bool false])) w' := ⟨hB, .inl ⟨h, rfl⟩⟩

/-- A node that does not fit. -/
theorem not_next {ns : List Nd} {i : Nat} {n : Nd} (hn : ns[i]? = some n) (hl : ns.length ≤ 10) (hv : validT (ns.take i) = true) (h : ¬ Next (ns.take i) n) : validT ns = false := by
  rw [Bool.eq_false_iff]
  intro hc
  have h2 := valid_pre hc (i + 1)
  have hi := (List.getElem?_eq_some_iff.1 hn).1
  rw [List.take_add_one, hn] at h2
  exact h ((valid_step (by rw [List.length_take]; omega) hv).1 h2)

theorem take_next {ns : List Nd} {i : Nat} {n : Nd} (hn : ns[i]? = some n) : ns.take (i + 1) = ns.take i ++ [n] := by
  rw [List.take_add_one, hn]; rfl

theorem lastB_app (a : List Nd) (n : Nd) : lastB (a ++ [n]) = n.p := by
  unfold lastB; rw [List.getLast?_concat]

theorem leq_of (a b : ByteArray) : (Op.bytesLess a.toList b.toList || a.toList == b.toList) = !ltB b a := by
  cases h : ltB b a with
  | true =>
    have h1 : Op.bytesLess a.toList b.toList = false := ltB_asymm h
    have h2 : (a.toList == b.toList) = false := toList_ne (ltB_ne h).symm
    rw [h1, h2]; rfl
  | false =>
    by_cases h1 : ltB a b = true
    · rw [show Op.bytesLess a.toList b.toList = true from h1]; rfl
    · have e := ltB_tri (show ltB a b = false by simpa using h1) h
      subst e; simp

theorem above_last {a : List Nd} {p : ByteArray} (h : validT a = true) (h2 : ltB (lastB a) p = true) : ltB rootB p = true := by
  obtain ⟨ha, hg, _⟩ := (validT_iff a).1 h
  unfold lastB at h2
  cases hl : a.getLast? with
  | none => rw [hl] at h2; exact h2
  | some l =>
    rw [hl] at h2
    exact ltB_trans (root_lt (hg l (List.mem_of_getLast? hl)).1) h2

theorem box3_cell {w w' : World} {cs : Array Value} {t : TypeId} (hb : Below (w.alloc (.cells cs t)).heap.size (w.alloc (.cells cs t)) w') (i : Nat) : w'.cell? ⟨w.heap.size, i, none⟩ = cs[i]? := by
  rw [hb.cell (p := ⟨w.heap.size, i, none⟩) (by simp)]
  rw [World.cell?_alloc_new]

theorem off_cell {A : List UInt8 → Option Nat} {W W' : World} (h : Off A W.heap.size W W') {B : Nat} (hB : B < W.heap.size) (hA : ∀ u c, A u = some c → c < B) (i : Nat) : W'.cell? ⟨B, i, none⟩ = W.cell? ⟨B, i, none⟩ := by
  have := h.block B hB (fun u e => by have := hA u B e; omega)
  unfold World.cell?
  rw [this]

theorem ext_from {A A' : List UInt8 → Option Nat} {n m : Nat} (h : Ext A A' n) (hm : m ≤ n) (hA : ∀ u c, A u = some c → m ≤ c) : ∀ u c, A' u = some c → m ≤ c := fun u c e => by
  rcases (h u c).2 e with q | q
  · exact hA u c q
  · omega

/-- A box that no place is in. -/
def Away (A : List UInt8 → Option Nat) (B : Nat) : Prop := ∀ u, A u ≠ some B

theorem ext_box {A A' : List UInt8 → Option Nat} {n B : Nat} (h : Ext A A' n) (hB : B < n) (hA : ∀ u c, A u = some c → c < B) : Away A' B := fun u e => by
  rcases (h u B).2 e with q | q
  · have := hA u B q; omega
  · omega

theorem ext_away {A A' : List UInt8 → Option Nat} {n B : Nat} (h : Ext A A' n) (hB : B < n) (hA : Away A B) : Away A' B := fun u e => by
  rcases (h u B).2 e with q | q
  · exact hA u q
  · omega

theorem off_cell2 {A : List UInt8 → Option Nat} {W W' : World} (h : Off A W.heap.size W W') {B : Nat} (hB : B < W.heap.size) (hA : Away A B) (i : Nat) : W'.cell? ⟨B, i, none⟩ = W.cell? ⟨B, i, none⟩ := by
  have := h.block B hB hA
  unfold World.cell?
  rw [this]

theorem past2 {W : World} {B b : Nat} (h : B ≠ b) {x y : Value} {i : Nat} : ((W.setCell ⟨b, 0, none⟩ x).setCell ⟨b, 1, none⟩ y).cell? ⟨B, i, none⟩ = W.cell? ⟨B, i, none⟩ := by
  rw [World.cell?_setCell_other _ _ _ _ (fun e => h (congrArg Addr.block e).symm), World.cell?_setCell_other _ _ _ _ (fun e => h (congrArg Addr.block e).symm)]

/-- A node more: the tree, and its places. -/
theorem of_step {ns : List Nd} {i : Nat} {p : ByteArray} {k v : Int} (hn : ns[i]? = some ⟨p, k, v⟩) (hv : validT (ns.take i) = true) {w : List UInt8} (hw : Wrd w) (hne : w ≠ []) (hp : p = pB w) (hl : ltB (lastB (ns.take i)) p = true)
    (hc : validB k v = true) (hk : k ≠ 0) (hpar : (Fof (ns.take i) w.dropLast).1 = 1) (h10 : ns.length ≤ 10) {A : List UInt8 → Option Nat} {W : World} {b : Nat} (hT : Trie W A (Fof (ns.take i))) (hb : A w = some b) :
    validT (ns.take (i + 1)) = true ∧ Trie ((W.setCell ⟨b, 0, none⟩ (.int .i64 k)).setCell ⟨b, 1, none⟩ (.int .i64 v)) A (Fof (ns.take (i + 1))) := by
  have hi := (List.getElem?_eq_some_iff.1 hn).1
  have hN : Next (ns.take i) ⟨p, k, v⟩ := (next_iff _ _).2 ⟨by show vpB p = true; rw [hp]; exact vpB_pB hw, hl, hc, hk, by
    show (getT (ns.take i) (parB p)).1 = 1
    rw [hp, parB_pB hw hne]; exact hpar⟩
  have hA := (next_above hv hN).1
  rw [take_next hn]
  refine ⟨(valid_step (by rw [List.length_take]; omega) hv).2 hN, (hT.write hb k v).congr fun u hu => ?_⟩
  exact (Fof_app (n := ⟨p, k, v⟩) hw hne hp (fun m hm => ltB_ne (hA m hm)) hu).symm

set_option maxHeartbeats 4000000 in
set_option maxRecDepth 100000 in
theorem treeOf_c (a : Option Addr) (len cap : Nat) (ns : List Nd) (hl : len ≤ 2097152) (hs : Short 2097152 ns) (W : World) (hN : NodesAt W a len ns) :
    Calls Try.prog 49 #[.slice a len cap] W (RootPost ns W) := by
  have HE := Lib.hid hN.1
  have HN := Lib.hid hN
  have HS := Lib.hid hs
  clear hN hs
  by_cases h10 : 10 < len
  · have hbad := Lib.hid (show validT ns = false by
      rw [Bool.eq_false_iff]; intro h
      have := ((validT_iff ns).1 h).2.2
      have := HE.out; omega)
    have h10' : (10 : Int) < len := by omega
    clear h10
    go_enter Try.func49, Try.ntmps49
    go_wp2
    refine bodyPost_ret (v := .tuple #[.pointer none, .bool false]) (by simp [results, Try.f49, go_sem]) rfl (of_bad hbad.out (Below.refl _ _))
  · have h10' : (len : Int) ≤ 10 := by omega
    have HL := Lib.hid (show len ≤ 10 by omega)
    clear h10
    go_enter Try.func49, Try.ntmps49
    go_wp2
    go_loopw [5, 16] (fun l i wr => RootRel ns W l i wr) (fun _ i _ => len - (intOf i).toNat)
    case atStart =>
      refine ⟨0, fun w => if w = [] then some W.heap.size else none, rfl, by omega, rfl, (show validT [] = true by decide), Trie.new W, if_pos rfl, fun u c hc => ?_, below_box _ _⟩
      simp at hc; omega
    case round =>
      obtain ⟨i, A, rfl, hi, rfl, HV, HT, HA0, HA, HB⟩ := hrel
      by_cases hlt : i < len
      · obtain ⟨b, off, n, rfl, hn, c0, c1, c2⟩ := (HN.out.keep HB.out).node hlt
        have hlt' : (i : Int) < len := by omega
        have HLT := Lib.hid hlt
        have HNN := Lib.hid hn
        have hsz := HS.out n (List.mem_of_getElem? hn)
        have HP := Lib.hid (fun W1 => pathValid_c n.p (by omega) W1)
        obtain ⟨vp, hvp⟩ : ∃ vp, vpB n.p = vp := ⟨_, rfl⟩
        have HP := Lib.hid (fun W1 => show Calls Try.prog 43 #[.string n.p] W1 (BoolPost vp W1) by rw [← hvp]; exact pathValid_c n.p (by omega) W1)
        have HVP := Lib.hid hvp
        obtain ⟨lb, hlb⟩ : ∃ lb, lastB (ns.take i) = lb := ⟨_, rfl⟩
        rw [hlb]
        have HLB := Lib.hid hlb
        have HSZ := Lib.hid hsz
        obtain ⟨p, k, v⟩ := n
        clear hlt hn hi hsz hvp hlb
        simp only at HP HVP HSZ c0 c1 c2
        go_wp2_with fail
        refine (HP.out _).mono ?_
        rintro e W2 ⟨rfl, hb2⟩
        have q0 := box3_cell hb2 0
        have q1 := box3_cell hb2 1
        have q2 := box3_cell hb2 2
        simp at q0 q1 q2
        have HB2 := Lib.hid (below_next HB.out (below_next (below_box _ _) hb2))
        have HT2 := Lib.hid ((HT.out.below (below_box _ _)).below hb2)
        have hN2 : wr.heap.size < W2.heap.size := by have := hb2.size; simp at this; omega
        have HAN := Lib.hid (show ∀ u c, A u = some c → c < wr.heap.size from fun u c h => HT.out.lt h)
        clear c0 c1 c2 hb2
        cases vp with
        | false =>
          go_wp2
          refine bodyPost_ret (v := .tuple #[.pointer none, .bool false]) (by simp [results, Try.f49, go_sem]) rfl (of_bad (not_next HNN.out (by have := HE.out; have := HL.out; omega) HV.out (fun h => ?_)) HB2.out)
          have := h.1
          rw [show vpB p = false from HVP.out] at this; cases this
        | true =>
          obtain ⟨lq, hlq⟩ : ∃ lq, ltB lb p = lq := ⟨_, rfl⟩
          have hle := leq_of p lb
          rw [hlq] at hle
          have HLQ := Lib.hid hlq
          have HVC := Lib.hid (fun W1 => implValid_c k v W1)
          obtain ⟨vb, hvb⟩ : ∃ vb, validB k v = vb := ⟨_, rfl⟩
          rw [hvb] at HVC
          have HVB := Lib.hid hvb
          clear hlq hvb
          cases lq with
          | false =>
            go_wp2
            refine bodyPost_ret (v := .tuple #[.pointer none, .bool false]) (by simp [results, Try.f49, go_sem]) rfl (of_bad (not_next HNN.out (by have := HE.out; have := HL.out; omega) HV.out (fun h => ?_)) HB2.out)
            have := ((next_iff _ _).1 h).2.1
            rw [HLB.out, show ltB lb p = false from HLQ.out] at this; cases this
          | true =>
            go_wp2_with fail
            refine (HVC.out _).mono ?_
            rintro e W3 ⟨rfl, hb3⟩
            have r0 := cell_kept hb3 q0
            have r1 := cell_kept hb3 q1
            have r2 := cell_kept hb3 q2
            have HB3 := Lib.hid (below_next HB2.out hb3)
            have HT3 := Lib.hid (HT2.out.below hb3)
            have hN3 : wr.heap.size < W3.heap.size := by have := hb3.size; omega
            clear q0 q1 q2 hb3
            cases vb with
            | false =>
              go_wp2
              refine bodyPost_ret (v := .tuple #[.pointer none, .bool false]) (by simp [results, Try.f49, go_sem]) rfl (of_bad (not_next HNN.out (by have := HE.out; have := HL.out; omega) HV.out (fun h => ?_)) HB3.out)
              have := ((next_iff _ _).1 h).2.2.1
              rw [show validB k v = false from HVB.out] at this; cases this
            | true =>
              by_cases hk0 : k = 0
              · have hkb : (k == 0) = true := by rw [hk0]; rfl
                have HK0 := Lib.hid hk0
                clear hk0
                go_wp2
                refine bodyPost_ret (v := .tuple #[.pointer none, .bool false]) (by simp [results, Try.f49, go_sem]) rfl (of_bad (not_next HNN.out (by have := HE.out; have := HL.out; omega) HV.out (fun h => ?_)) HB3.out)
                exact ((next_iff _ _).1 h).2.2.2.1 HK0.out
              · have hkb : (k == 0) = false := by simpa using hk0
                have HK0 := Lib.hid hk0
                clear hk0
                obtain ⟨w, hw, hpw⟩ := vpB_word HVP.out
                have hne : w ≠ [] := by
                  rintro rfl
                  have hx := above_last HV.out (by rw [HLB.out]; exact HLQ.out)
                  rw [hpw, pB_root, ltB_irrefl] at hx; cases hx
                have HW := Lib.hid hw
                have HPW := Lib.hid hpw
                have HNE := Lib.hid hne
                have hpar : parentB p = pB w.dropLast := by rw [hpw]; exact parB_pB hw hne
                have HPP := Lib.hid (fun W1 => show Calls Try.prog 78 #[.string p] W1 (fun e w' => e = .returned (.string (pB w.dropLast)) ∧ Below W1.heap.size W1 w') by rw [← hpar]; exact pathParent_c p HSZ.out W1)
                clear hpar hw hpw hne
                go_wp2_with fail
                refine (HPP.out _).mono ?_
                rintro e W4 ⟨rfl, hb4⟩
                have s0 := cell_kept hb4 r0
                have s1 := cell_kept hb4 r1
                have s2 := cell_kept hb4 r2
                have HB4 := Lib.hid (below_next HB3.out hb4)
                have HT4 := Lib.hid (HT3.out.below hb4)
                have hN4 : wr.heap.size < W4.heap.size := by have := hb4.size; omega
                clear r0 r1 r2 hb4
                go_wp2_with fail
                refine (at_c A _ _ HW.out.dropLast _ HT4.out _ HA0.out).mono ?_
                rintro e W5 ⟨A5, b5, rfl, hb5, hT5, hX5, hO5⟩
                have hoff5 := hO5
                have u0 : W5.cell? ⟨wr.heap.size, 0, none⟩ = some (.string p) := (off_cell hO5 hN4 HAN.out 0).trans s0
                have u1 : W5.cell? ⟨wr.heap.size, 1, none⟩ = some (.int .i64 k) := (off_cell hO5 hN4 HAN.out 1).trans s1
                have u2 : W5.cell? ⟨wr.heap.size, 2, none⟩ = some (.int .i64 v) := (off_cell hO5 hN4 HAN.out 2).trans s2
                have HB5 := Lib.hid (HB4.out.trans (hO5.below HB4.out.size HA.out))
                have HA5 := Lib.hid (ext_from hX5 HB4.out.size HA.out)
                have HAN5 := Lib.hid (ext_box hX5 (show wr.heap.size < W4.heap.size from hN4) HAN.out)
                have HR5 := Lib.hid ((hX5 [] _).1 HA0.out)
                have HT5 := Lib.hid hT5
                have t0 := hT5.cell hb5 0
                have hN5 : wr.heap.size < W5.heap.size := by have := hO5.size; omega
                have HB5' := Lib.hid hb5
                obtain ⟨k5, hk5⟩ : ∃ k5, k5 = (Fof (ns.take i) w.dropLast).1 := ⟨_, rfl⟩
                have t0' : W5.cell? ⟨b5, 0, none⟩ = some (.int .i64 k5) := by rw [hk5]; exact t0
                have HK5 := Lib.hid hk5
                clear s0 s1 s2 hO5 hoff5 hX5 hT5 t0 hb5 hk5
                by_cases h1 : k5 = 1
                · have hkb1 : (k5 == 1) = true := by rw [h1]; rfl
                  have H1 := Lib.hid h1
                  clear h1
                  go_upto_region 14 with (fail)
                  have HS0 := Lib.hid (show W5.drew.cell? ⟨wr.heap.size, 0, none⟩ = some (.string p) ∧ W5.drew.cell? ⟨wr.heap.size, 1, none⟩ = some (.int .i64 k) ∧ W5.drew.cell? ⟨wr.heap.size, 2, none⟩ = some (.int .i64 v) from ⟨u0, u1, u2⟩)
                  have HAT := Lib.hid (show Calls Try.prog 52 #[.pointer (some ⟨W.heap.size, 0, none⟩), .string p] W5.drew (AtPost A5 (Fof (ns.take i)) w W5.drew) by
                    rw [HPW.out]; exact at_c A5 _ w HW.out W5.drew (HT5.out.kept (W' := W5.drew) fun _ _ _ => rfl) _ HR5.out)
                  refine wp_region_held_drew (S := (fun w' => w'.cell? ⟨wr.heap.size, 0, none⟩ = some (.string p) ∧ w'.cell? ⟨wr.heap.size, 1, none⟩ = some (.int .i64 k) ∧ w'.cell? ⟨wr.heap.size, 2, none⟩ = some (.int .i64 v))) (by kernel_rfl) HS0.out (fun hH => ?_)
                  refine wpAnyH_take (i := 0) (oi := _) (v := ?_) rfl (by kernel_rfl) (by kernel_rfl) (by kernel_rfl) (fun _ _ _ h => h) (Or.inl ⟨by rfl, ?_⟩) (by assumption) ?_
                  rotate_left
                  · (intro w hSw; (try dsimp only at hSw); go_simp; try with_reducible rfl)
                  try simp only [Act.put, List.getElem_toArray, List.getElem_cons_zero, List.setIfInBounds_toArray, List.set_cons_zero, List.set_cons_succ]
                  refine wpAnyH_take (i := 1) (oi := _) (v := ?_) rfl (by kernel_rfl) (by kernel_rfl) (by kernel_rfl) (fun _ _ _ h => h) (Or.inl ⟨by rfl, ?_⟩) (by assumption) ?_
                  rotate_left
                  · (intro w hSw; (try dsimp only at hSw); go_simp; try with_reducible rfl)
                  try simp only [Act.put, List.getElem_toArray, List.getElem_cons_zero, List.getElem_cons_succ, List.setIfInBounds_toArray, List.set_cons_zero, List.set_cons_succ]
                  refine wpAnyH_take (i := 2) (oi := _) (v := ?_) rfl (by kernel_rfl) (by kernel_rfl) (by kernel_rfl) (fun _ _ _ h => h) (Or.inl ⟨by rfl, ?_⟩) (by assumption) ?_
                  rotate_left
                  · (intro w hSw; (try dsimp only at hSw); go_simp; try with_reducible rfl)
                  try simp only [Act.put, List.getElem_toArray, List.getElem_cons_zero, List.getElem_cons_succ, List.setIfInBounds_toArray, List.set_cons_zero, List.set_cons_succ]
                  refine wpAnyH_take (i := 4) (oi := _) (v := ?_) rfl (by kernel_rfl) (by kernel_rfl) (by kernel_rfl) (fun _ _ _ h => h) (Or.inl ⟨by rfl, ?_⟩) (by assumption) ?_
                  rotate_left
                  · (intro w hSw; (try dsimp only at hSw); go_simp; try with_reducible rfl)
                  try simp only [Act.put, List.getElem_toArray, List.getElem_cons_zero, List.getElem_cons_succ, List.setIfInBounds_toArray, List.set_cons_zero, List.set_cons_succ]
                  refine wpAnyH_take (i := 5) (oi := _) (v := ?_) rfl (by kernel_rfl) (by kernel_rfl) (by kernel_rfl) (fun _ _ _ h => h) (Or.inl ⟨by rfl, ?_⟩) (by assumption) ?_
                  rotate_left
                  · (intro w hSw; (try dsimp only at hSw); go_simp; try with_reducible rfl)
                  try simp only [Act.put, List.getElem_toArray, List.getElem_cons_zero, List.getElem_cons_succ, List.setIfInBounds_toArray, List.set_cons_zero, List.set_cons_succ]
                  refine wpAnyH_ready (rs := [3]) (by kernel_rfl) (by simp) ?_
                  refine AllReadyH.cons rfl (fun K hK => ?_) (AllReadyH.nil)
                  go_simp
                  go_at_call 52; (with_reducible refine (HAT.out).mono ?_); rintro e W6 ⟨A6, b6, rfl, hb6, hT6, hX6, hO6⟩
                  refine hK.out _ _ ⟨(off_cell2 hO6 hN5 HAN5.out 0).trans u0, (off_cell2 hO6 hN5 HAN5.out 1).trans u1, (off_cell2 hO6 hN5 HAN5.out 2).trans u2⟩ (fun hHeld => ?_)
                  try simp only [Act.put, List.getElem_toArray, List.getElem_cons_zero, List.getElem_cons_succ, List.setIfInBounds_toArray, List.set_cons_zero, List.set_cons_succ]
                  have f60 := hT6.frozen hb6 0
                  have f61 := hT6.frozen hb6 1
                  have c60 := hT6.cell hb6 0
                  have c61 := hT6.cell hb6 1
                  simp only [plc, List.getElem?_toArray, List.getElem?_cons_zero, List.getElem?_cons_succ] at c60 c61
                  refine wpAnyH_take (i := 6) (oi := _) (v := ?_) rfl (by kernel_rfl) (by kernel_rfl) (by kernel_rfl) (fun _ _ _ h => h) (Or.inl ⟨by rfl, ?_⟩) (by assumption) ?_
                  rotate_left
                  · (intro w hSw; (try dsimp only at hSw); go_simp; try with_reducible rfl)
                  try simp only [Act.put, List.getElem_toArray, List.getElem_cons_zero, List.getElem_cons_succ, List.setIfInBounds_toArray, List.set_cons_zero, List.set_cons_succ]
                  refine wpAnyH_take (i := 7) (oi := _) (v := ?_) rfl (by kernel_rfl) (by kernel_rfl) (by kernel_rfl) (fun _ _ _ h => h) (Or.inl ⟨by rfl, ?_⟩) (by assumption) ?_
                  rotate_left
                  · (intro w hSw; (try dsimp only at hSw); go_simp; try with_reducible rfl)
                  try simp only [Act.put, List.getElem_toArray, List.getElem_cons_zero, List.getElem_cons_succ, List.setIfInBounds_toArray, List.set_cons_zero, List.set_cons_succ]
                  refine wpAnyH_ready (rs := [8]) (by kernel_rfl) (by simp) ?_
                  refine AllReadyH.cons rfl (fun K hK => ?_) (AllReadyH.nil)
                  go_simp
                  have hAw6 := ext_away hX6 (show wr.heap.size < W5.drew.heap.size from hN5) HAN5.out
                  have hnb : wr.heap.size ≠ b6 := fun e => hAw6 w (by rw [e]; exact hb6)
                  have HEND := Lib.hid (of_step (k := k) (v := v) HNN.out HV.out HW.out HNE.out HPW.out (by rw [HLB.out]; exact HLQ.out) HVB.out HK0.out (by have h7 := HK5.out; rw [H1.out] at h7; exact h7.symm) (by have := HE.out; have := HL.out; omega) hT6 hb6)
                  have HB6 := Lib.hid (show Below W.heap.size W ((W6.setCell ⟨b6, 0, none⟩ (.int .i64 k)).setCell ⟨b6, 1, none⟩ (.int .i64 v)) from
                    ((HB5.out.trans (show Below W.heap.size W5 W6 from ⟨hO6.os, hO6.tape, hO6.output, hO6.size, fun j hj => hO6.block j (by have := HB5.out.size; show j < W5.heap.size; omega) fun u e => by have := HA5.out u j e; omega⟩)).setCell (ext_from hX6 (show W.heap.size ≤ W5.drew.heap.size from HB5.out.size) HA5.out w b6 hb6) _).setCell (ext_from hX6 (show W.heap.size ≤ W5.drew.heap.size from HB5.out.size) HA5.out w b6 hb6) _)
                  have HA6 := Lib.hid (ext_from hX6 (show W.heap.size ≤ W5.drew.heap.size from HB5.out.size) HA5.out)
                  have HR6 := Lib.hid ((hX6 [] _).1 HR5.out)
                  have z0 : ((W6.setCell ⟨b6, 0, none⟩ (.int .i64 k)).setCell ⟨b6, 1, none⟩ (.int .i64 v)).cell? ⟨wr.heap.size, 0, none⟩ = some (.string p) := (past2 hnb).trans ((off_cell2 hO6 hN5 HAN5.out 0).trans u0)
                  refine hK.out _ _ ⟨z0, (past2 hnb).trans ((off_cell2 hO6 hN5 HAN5.out 1).trans u1), (past2 hnb).trans ((off_cell2 hO6 hN5 HAN5.out 2).trans u2)⟩ (fun hHeld => ?_)
                  try simp only [Act.put, List.getElem_toArray, List.getElem_cons_zero, List.getElem_cons_succ, List.setIfInBounds_toArray, List.set_cons_zero, List.set_cons_succ]
                  refine wpAnyH_done (by kernel_rfl) ?_ _
                  clear hK hO6 hX6 hT6 hb6 f60 f61 c60 c61 u0 u1 u2 t0'
                  generalize (W6.setCell ⟨b6, 0, none⟩ (.int .i64 k)).setCell ⟨b6, 1, none⟩ (.int .i64 v) = W7 at HEND HB6 z0 ⊢
                  go_wp2
                  go_roundw
                  case rel => exact ⟨i + 1, A6, by go_num, by have := HE.out; have := HLT.out; omega, by rw [take_next HNN.out, lastB_app], HEND.out.1, HEND.out.2, HR6.out, HA6.out, HB6.out⟩
                  case measure => have := HLT.out; simp [intOf]; omega
                · have hkb1 : (k5 == 1) = false := by simpa using h1
                  have H1 := Lib.hid h1
                  clear h1
                  go_wp2
                  refine bodyPost_ret (v := .tuple #[.pointer none, .bool false]) (by simp [results, Try.f49, go_sem]) rfl (of_bad (not_next HNN.out (by have := HE.out; have := HL.out; omega) HV.out (fun h => ?_)) HB5.out)
                  have := ((next_iff _ _).1 h).2.2.2.2
                  rw [show (⟨p, k, v⟩ : Nd).p = p from rfl, HPW.out, parB_pB HW.out HNE.out] at this
                  exact H1.out (HK5.out.trans this)
      · have hge : (len : Int) ≤ i := by omega
        have hieq : i = len := by have := HE.out; omega
        have htk : ns.take i = ns := List.take_of_length_le (by have := HE.out; omega)
        rw [htk] at HV HT
        go_wp2
        refine bodyPost_ret (v := .tuple #[.pointer (some ⟨W.heap.size, 0, none⟩), .bool true]) (by simp [results, Try.f49, go_sem]) rfl ⟨HB.out, .inr ⟨HV.out, A, W.heap.size, rfl, HA0.out, HT.out, HA.out⟩⟩

end Go.Proofs.Ytmdidhlfpaganaa

/-
  WALKS: impl.TreeValid, impl.TreeGet.
-/
namespace Go.Proofs.Ytmdidhlfpaganaa
open Go.RowKit
set_option linter.unusedVariables false

set_option maxHeartbeats 1000000 in
set_option maxRecDepth 100000 in
theorem implTreeValid_c (a : Option Addr) (len cap : Nat) (ns : List Nd) (hl : len ≤ 2097152) (hs : Short 2097152 ns) (W : World) (hN : NodesAt W a len ns) :
    Calls Try.prog 42 #[.slice a len cap] W (BoolPost (validT ns) W) := by
  have H := Lib.hid (treeOf_c a len cap ns hl hs W hN)
  clear hN hs
  go_enter Try.func42, Try.ntmps42
  go_wp2_with fail
  refine H.out.mono ?_
  rintro e W2 ⟨hB, ⟨hv, rfl⟩ | ⟨hv, A, b, rfl, _, _, _⟩⟩
  · have HV := Lib.hid hv
    clear hv
    go_wp2
    go_ret
    exact ⟨ret_bool HV.out.symm, hB⟩
  · have HV := Lib.hid hv
    clear hv
    go_wp2
    go_ret
    exact ⟨ret_bool HV.out.symm, hB⟩

theorem treeGet_bad {ns : List Nd} {p : ByteArray} (h : validT ns = false ∨ vpB p = false) : treeGet ns p = (0, 0) := by
  unfold treeGet
  rcases h with h | h <;> simp [h]

set_option maxHeartbeats 2000000 in
set_option maxRecDepth 100000 in
theorem implTreeGet_c (a : Option Addr) (len cap : Nat) (ns : List Nd) (p : ByteArray) (hl : len ≤ 2097152) (hs : Short 2097152 ns) (hp : p.size ≤ 2097152) (W : World) (hN : NodesAt W a len ns) :
    Calls Try.prog 17 #[.slice a len cap, .string p] W (ConRet (treeGet ns p).1 (treeGet ns p).2 W) := by
  have H := Lib.hid (fun W1 (hb : Below W.heap.size W W1) => treeOf_c a len cap ns hl hs W1 (hN.keep hb))
  have HS := Lib.hid hs
  have HN := Lib.hid hN
  obtain ⟨vp, hvp⟩ : ∃ vp, vpB p = vp := ⟨_, rfl⟩
  have HP := Lib.hid (fun W1 => show Calls Try.prog 43 #[.string p] W1 (BoolPost vp W1) by rw [← hvp]; exact pathValid_c p (by omega) W1)
  have HVP := Lib.hid hvp
  clear hN hs hvp
  go_enter Try.func17, Try.ntmps17
  go_wp2_with fail
  refine (H.out _ (below_box _ _)).mono ?_
  rintro e W2 ⟨hB, h⟩
  rcases h with ⟨hv, rfl⟩ | ⟨hv, A, b, rfl, hA0, hT, hA⟩
  · have HG := Lib.hid (treeGet_bad (p := p) (.inl hv))
    have T1 := Lib.hid ((two_new W _ _ _).below hB)
    have B1 := Lib.hid (below_next (below_box W _) hB)
    obtain ⟨g0, g1, f0, f1, -⟩ := T1.out
    clear hv hB
    go_wp2
    exact conS_set 4 _ rfl HG.out T1.out B1.out rfl
  · have HV := Lib.hid hv
    have HB1 := Lib.hid hB
    have HT := Lib.hid hT
    have HA := Lib.hid hA
    have HA0 := Lib.hid hA0
    clear hv hB hT hA hA0
    go_wp2_with fail
    refine (HP.out _).mono ?_
    rintro e W3 ⟨rfl, hb3⟩
    cases vp with
    | false =>
      have HG := Lib.hid (treeGet_bad (ns := ns) (p := p) (.inr HVP.out))
      have T1 := Lib.hid (((two_new W _ _ _).below HB1.out).below hb3)
      have B1 := Lib.hid (below_next (below_box W _) (below_next HB1.out hb3))
      obtain ⟨g0, g1, f0, f1, -⟩ := T1.out
      clear hb3
      go_wp2
      exact conS_set 4 _ rfl HG.out T1.out B1.out rfl
    | true =>
      obtain ⟨w, hw, hpw⟩ := vpB_word HVP.out
      have HG := Lib.hid (show treeGet ns p = ((Fof ns w).1, (Fof ns w).2) by rw [treeGet_eq HV.out HVP.out, hpw]; rfl)
      have HB3 := Lib.hid (below_next HB1.out hb3)
      have HAT := Lib.hid (show Calls Try.prog 52 #[.pointer (some ⟨b, 0, none⟩), .string p] W3 (AtPost A (Fof ns) w W3) by
        rw [hpw]; exact at_c A _ w hw W3 (HT.out.below hb3) _ HA0.out)
      clear hb3 hw hpw
      go_wp2_with fail
      refine HAT.out.mono ?_
      rintro e W4 ⟨A4, b4, rfl, hb4, hT4, hX4, hO4⟩
      have HB4 := Lib.hid (HB3.out.trans (hO4.below (m := (W.alloc (.cells #[.int .i64 0, .int .i64 0] 31)).heap.size) HB3.out.size HA.out))
      have T1 := Lib.hid ((two_new W _ _ _).below HB4.out)
      have B1 := Lib.hid (below_next (below_box W _) HB4.out)
      obtain ⟨g0, g1, f0, f1, -⟩ := T1.out
      have c0 := hT4.cell hb4 0
      have c1 := hT4.cell hb4 1
      have c0' : W4.cell? ⟨b4, 0, none⟩ = some (.int .i64 (Fof ns w).1) := c0
      have c1' : W4.cell? ⟨b4, 1, none⟩ = some (.int .i64 (Fof ns w).2) := c1
      clear hO4 hX4 hT4 hb4 c0 c1
      generalize (Fof ns w).1 = k at c0' HG
      generalize (Fof ns w).2 = v at c1' HG
      go_wp2
      exact conS_set 4 _ rfl HG.out T1.out B1.out rfl

end Go.Proofs.Ytmdidhlfpaganaa

/-
  WALKS: impl.TreePut.
-/
namespace Go.Proofs.Ytmdidhlfpaganaa
open Go.RowKit
set_option linter.unusedVariables false

theorem treePut_bad {ns : List Nd} {p : ByteArray} {k v : Int} (h : validT ns = false ∨ ¬ 1 ≤ depB p ∨ validB k v = false) : treePut ns p k v = none := by
  unfold treePut
  rcases h with h | h | h <;> simp [h]

theorem tput_nil {r : Option (List Nd)} {base : Nat} {W w : World} (hr : r = none) (hB : Below W.heap.size W w) : TPost r base W (.returned (.tuple #[.slice none 0 0, .bool false])) w :=
  ⟨_, [], false, rfl, .inr ⟨rfl, hr, rfl⟩, World.ownsRow_nil _ _ _ _, hB⟩

theorem lst_short {F : List UInt8 → Int × Int} : Short 8 (lst F 4 []) := by
  intro n hn
  obtain ⟨c, u, h1, h2, h3, rfl⟩ := mem_lst.1 hn
  exact pB_size (v := [] ++ c :: u) ⟨by rw [List.nil_append, List.length_cons]; omega, h2⟩

theorem Short.mono {m m' : Nat} {ns : List Nd} (h : Short m ns) (hm : m ≤ m') : Short m' ns := fun n hn => Nat.le_trans (h n hn) hm

set_option maxHeartbeats 4000000 in
set_option maxRecDepth 100000 in
theorem implTreePut_c (a : Option Addr) (len cap : Nat) (ns : List Nd) (p : ByteArray) (k v : Int) (hl : len ≤ 2097152) (hs : Short 2097152 ns) (hp : p.size ≤ 2097152) (W : World) (hN : NodesAt W a len ns) :
    Calls Try.prog 15 #[.slice a len cap, .string p, con k v] W (TPost (treePut ns p k v) W.heap.size W) := by
  have H := Lib.hid (fun W1 (hb : Below W.heap.size W W1) => treeOf_c a len cap ns hl hs W1 (hN.keep hb))
  obtain ⟨d, hd⟩ : ∃ d, depB p = d := ⟨_, rfl⟩
  have HP := Lib.hid (fun W1 => show Calls Try.prog 50 #[.string p] W1 (fun e w' => e = .returned (.int .i64 d) ∧ Below W1.heap.size W1 w') by rw [← hd]; exact pathDepth_c p (by omega) W1)
  have HD := Lib.hid hd
  have HVC := Lib.hid (fun W1 => implValid_c k v W1)
  obtain ⟨vb, hvb⟩ : ∃ vb, validB k v = vb := ⟨_, rfl⟩
  rw [hvb] at HVC
  have HVB := Lib.hid hvb
  clear hN hs hd hvb
  unfold con
  go_enter Try.func15, Try.ntmps15
  go_wp2_with fail
  refine (H.out _ (below_box _ _)).mono ?_
  rintro e W2 ⟨hB, h⟩
  have HB2 := Lib.hid (below_next (below_box W _) hB)
  have q0 := box_cell hB 0
  have q1 := box_cell hB 1
  simp at q0 q1
  rcases h with ⟨hv, rfl⟩ | ⟨hv, A, b, rfl, hA0, hT, hA⟩
  · have HG := Lib.hid (treePut_bad (p := p) (k := k) (v := v) (.inl hv))
    clear hv hB
    go_wp2
    refine bodyPost_ret (v := .tuple #[.slice none 0 0, .bool false]) (by simp [results, Try.f15, go_sem]) rfl (tput_nil HG.out HB2.out)
  · have HV := Lib.hid hv
    have HT := Lib.hid hT
    have HA := Lib.hid hA
    have HA0 := Lib.hid hA0
    have hlt2 : W.heap.size < W2.heap.size := by have := hB.size; simp at this; omega
    clear hv hB hT hA hA0
    go_wp2_with fail
    refine (HP.out _).mono ?_
    rintro e W3 ⟨rfl, hb3⟩
    have r0 := cell_kept hb3 q0
    have r1 := cell_kept hb3 q1
    have HB3 := Lib.hid (below_next HB2.out hb3)
    have HT3 := Lib.hid (HT.out.below hb3)
    have hlt3 : W.heap.size < W3.heap.size := by have := hb3.size; omega
    clear q0 q1 hb3
    by_cases hd1 : d ≤ 0
    · have HG := Lib.hid (treePut_bad (ns := ns) (p := p) (k := k) (v := v) (.inr (.inl (by rw [HD.out]; omega))))
      go_wp2
      refine bodyPost_ret (v := .tuple #[.slice none 0 0, .bool false]) (by simp [results, Try.f15, go_sem]) rfl (tput_nil HG.out HB3.out)
    · have hd0 : 0 < d := by omega
      have hdd : decide (d ≤ 0) = false := decide_eq_false hd1
      clear hd1
      go_wp2_with fail
      refine (HVC.out _).mono ?_
      rintro e W5 ⟨rfl, hb5⟩
      have u0 := cell_kept hb5 r0
      have u1 := cell_kept hb5 r1
      have HB5 := Lib.hid (below_next HB3.out hb5)
      have HT5 := Lib.hid (HT3.out.below hb5)
      have hN5 : W.heap.size < W5.heap.size := by have := hb5.size; omega
      clear r0 r1 hb5
      cases vb with
      | false =>
        have HG := Lib.hid (treePut_bad (ns := ns) (p := p) (k := k) (v := v) (.inr (.inr HVB.out)))
        go_wp2
        refine bodyPost_ret (v := .tuple #[.slice none 0 0, .bool false]) (by simp [results, Try.f15, go_sem]) rfl (tput_nil HG.out HB5.out)
      | true =>
        obtain ⟨w, hw, hpw⟩ := vpB_word (vp_of_depth (p := p) (by rw [HD.out]; omega))
        have HW := Lib.hid hw
        have HPW := Lib.hid hpw
        have HNE := Lib.hid ((word_depth hw).1 (by rw [← hpw, HD.out]; omega))
        have HAW := Lib.hid (show Away A W.heap.size from fun u e => by have := HA.out u _ e; rw [World.size_alloc] at this; omega)
        have HS0 := Lib.hid (show W5.drew.cell? ⟨W.heap.size, 0, none⟩ = some (.int .i64 k) ∧ W5.drew.cell? ⟨W.heap.size, 1, none⟩ = some (.int .i64 v) from ⟨u0, u1⟩)
        have HAT := Lib.hid (show Calls Try.prog 52 #[.pointer (some ⟨b, 0, none⟩), .string p] W5.drew (AtPost A (Fof ns) w W5.drew) by
          rw [hpw]; exact at_c A _ w hw W5.drew (HT5.out.kept (W' := W5.drew) fun _ _ _ => rfl) _ HA0.out)
        clear hw hpw
        go_upto_region 4 with (fail)
        refine wp_region_held_drew (S := (fun w' => w'.cell? ⟨W.heap.size, 0, none⟩ = some (.int .i64 k) ∧ w'.cell? ⟨W.heap.size, 1, none⟩ = some (.int .i64 v))) (by kernel_rfl) HS0.out (fun hH => ?_)
        refine wpAnyH_take (i := 0) (oi := _) (v := ?_) rfl (by kernel_rfl) (by kernel_rfl) (by kernel_rfl) (fun _ _ _ h => h) (Or.inl ⟨by rfl, ?_⟩) (by assumption) ?_
        rotate_left
        · (intro w hSw; (try dsimp only at hSw); go_simp; try with_reducible rfl)
        try simp only [Act.put, List.getElem_toArray, List.getElem_cons_zero, List.setIfInBounds_toArray, List.set_cons_zero, List.set_cons_succ]
        refine wpAnyH_take (i := 1) (oi := _) (v := ?_) rfl (by kernel_rfl) (by kernel_rfl) (by kernel_rfl) (fun _ _ _ h => h) (Or.inl ⟨by rfl, ?_⟩) (by assumption) ?_
        rotate_left
        · (intro w hSw; (try dsimp only at hSw); go_simp; try with_reducible rfl)
        try simp only [Act.put, List.getElem_toArray, List.getElem_cons_zero, List.getElem_cons_succ, List.setIfInBounds_toArray, List.set_cons_zero, List.set_cons_succ]
        refine wpAnyH_take (i := 3) (oi := _) (v := ?_) rfl (by kernel_rfl) (by kernel_rfl) (by kernel_rfl) (fun _ _ _ h => h) (Or.inl ⟨by rfl, ?_⟩) (by assumption) ?_
        rotate_left
        · (intro w hSw; (try dsimp only at hSw); go_simp; try with_reducible rfl)
        try simp only [Act.put, List.getElem_toArray, List.getElem_cons_zero, List.getElem_cons_succ, List.setIfInBounds_toArray, List.set_cons_zero, List.set_cons_succ]
        refine wpAnyH_ready (rs := [2]) (by kernel_rfl) (by simp) ?_
        refine AllReadyH.cons rfl (fun K hK => ?_) (AllReadyH.nil)
        go_simp
        go_at_call 52; (with_reducible refine (HAT.out).mono ?_); rintro e W6 ⟨A6, b6, rfl, hb6, hT6, hX6, hO6⟩
        refine hK.out _ _ ⟨(off_cell2 hO6 hN5 HAW.out 0).trans u0, (off_cell2 hO6 hN5 HAW.out 1).trans u1⟩ (fun hHeld => ?_)
        try simp only [Act.put, List.getElem_toArray, List.getElem_cons_zero, List.getElem_cons_succ, List.setIfInBounds_toArray, List.set_cons_zero, List.set_cons_succ]
        have f60 := hT6.frozen hb6 0
        have f61 := hT6.frozen hb6 1
        have c60 := hT6.cell hb6 0
        have c61 := hT6.cell hb6 1
        simp only [plc, List.getElem?_toArray, List.getElem?_cons_zero, List.getElem?_cons_succ] at c60 c61
        refine wpAnyH_take (i := 4) (oi := _) (v := ?_) rfl (by kernel_rfl) (by kernel_rfl) (by kernel_rfl) (fun _ _ _ h => h) (Or.inl ⟨by rfl, ?_⟩) (by assumption) ?_
        rotate_left
        · (intro w hSw; (try dsimp only at hSw); go_simp; try with_reducible rfl)
        try simp only [Act.put, List.getElem_toArray, List.getElem_cons_zero, List.getElem_cons_succ, List.setIfInBounds_toArray, List.set_cons_zero, List.set_cons_succ]
        refine wpAnyH_take (i := 5) (oi := _) (v := ?_) rfl (by kernel_rfl) (by kernel_rfl) (by kernel_rfl) (fun _ _ _ h => h) (Or.inl ⟨by rfl, ?_⟩) (by assumption) ?_
        rotate_left
        · (intro w hSw; (try dsimp only at hSw); go_simp; try with_reducible rfl)
        try simp only [Act.put, List.getElem_toArray, List.getElem_cons_zero, List.getElem_cons_succ, List.setIfInBounds_toArray, List.set_cons_zero, List.set_cons_succ]
        refine wpAnyH_ready (rs := [6]) (by kernel_rfl) (by simp) ?_
        refine AllReadyH.cons rfl (fun K hK => ?_) (AllReadyH.nil)
        go_simp
        have hnb : W.heap.size ≠ b6 := fun e => (ext_away hX6 (show W.heap.size < W5.drew.heap.size from hN5) HAW.out) w (by rw [e]; exact hb6)
        have hfrom := ext_from hX6 (show W.heap.size ≤ W5.drew.heap.size from HB5.out.size) (fun u c e => by have := HA.out u c e; rw [World.size_alloc] at this; omega)
        have HT7 := Lib.hid (hT6.write hb6 k v)
        have HB7 := Lib.hid (show Below W.heap.size W ((W6.setCell ⟨b6, 0, none⟩ (.int .i64 k)).setCell ⟨b6, 1, none⟩ (.int .i64 v)) from
          ((HB5.out.trans (show Below W.heap.size W5 W6 from ⟨hO6.os, hO6.tape, hO6.output, hO6.size, fun j hj => hO6.block j (by have := HB5.out.size; show j < W5.heap.size; omega) fun u e => by have := HA.out u j e; rw [World.size_alloc] at this; omega⟩)).setCell (hfrom w b6 hb6) _).setCell (hfrom w b6 hb6) _)
        have HR7 := Lib.hid ((hX6 [] _).1 HA0.out)
        refine hK.out _ _ ⟨(past2 hnb).trans ((off_cell2 hO6 hN5 HAW.out 0).trans u0), (past2 hnb).trans ((off_cell2 hO6 hN5 HAW.out 1).trans u1)⟩ (fun hHeld => ?_)
        try simp only [Act.put, List.getElem_toArray, List.getElem_cons_zero, List.getElem_cons_succ, List.setIfInBounds_toArray, List.set_cons_zero, List.set_cons_succ]
        refine wpAnyH_done (by kernel_rfl) ?_ _
        clear hK hO6 hX6 hT6 hb6 f60 f61 c60 c61 u0 u1 hfrom hHeld hnb
        generalize (W6.setCell ⟨b6, 0, none⟩ (.int .i64 k)).setCell ⟨b6, 1, none⟩ (.int .i64 v) = W7 at HT7 HB7 ⊢
        obtain ⟨out, hout⟩ : ∃ out, out = lst (setF (Fof ns) w (k, v)) 4 [] := ⟨_, rfl⟩
        have HOUT := Lib.hid (show out = putL ns p k v by rw [hout, HPW.out]; exact put_lst HV.out HW.out HNE.out k v)
        have HSH := Lib.hid (show Short 2097152 out by rw [hout]; exact lst_short.mono (by omega))
        have HLN := Lib.hid (show out.length ≤ 4096 by rw [hout]; exact lst_le (by omega) _)
        have HND := Lib.hid (nodes_c A6 _ 4 [] b W7 rfl HT7.out HR7.out)
        have HND2 := Lib.hid (show Calls Try.prog 53 #[.pointer (some ⟨b, 0, none⟩), .string ⟨#[47]⟩] W7 (fun e W' => OwnsNodes W7.heap.size out e W' ∧ Below W7.heap.size W7 W') by rw [hout]; exact HND.out)
        clear hout HND
        go_wp2_with fail
        refine HND2.out.mono ?_
        rintro e W8 ⟨⟨sl, rfl, ho8⟩, hb8⟩
        obtain ⟨a8, cap8, rfl, hn8⟩ := nodes_of_own ho8
        obtain ⟨vt, hvt⟩ : ∃ vt, validT out = vt := ⟨_, rfl⟩
        have HTV := Lib.hid (implTreeValid_c a8 out.length cap8 out (by have := HLN.out; omega) HSH.out W8 hn8)
        rw [hvt] at HTV
        have HVT := Lib.hid hvt
        have HO8 := Lib.hid ho8
        have HB8 := Lib.hid (below_next HB7.out hb8)
        clear ho8 hb8 hn8 hvt
        go_wp2_with fail
        refine HTV.out.mono ?_
        rintro e W9 ⟨rfl, hb9⟩
        have HO9 := Lib.hid (own_below HO8.out hb9)
        have HB9 := Lib.hid (below_next HB8.out hb9)
        clear hb9
        cases vt with
        | false =>
          have HG := Lib.hid (show treePut ns p k v = none by
            unfold treePut
            rw [← HOUT.out, show validT out = false from HVT.out]; simp)
          go_wp2
          refine bodyPost_ret (v := .tuple #[.slice none 0 0, .bool false]) (by simp [results, Try.f15, go_sem]) rfl (tput_nil HG.out HB9.out)
        | true =>
          have HG := Lib.hid (show treePut ns p k v = some out by
            unfold treePut
            rw [← HOUT.out, show validT out = true from HVT.out, show validT ns = true from HV.out, show validB k v = true from HVB.out, show decide (1 ≤ depB p) = true from decide_eq_true (by rw [HD.out]; omega)]; rfl)
          have hsz7 : W.heap.size ≤ W7.heap.size := HB7.out.size
          go_wp2
          refine bodyPost_ret (v := .tuple #[.slice a8 out.length cap8, .bool true]) (by simp [results, Try.f15, go_sem]) rfl ⟨_, out, true, rfl, .inl ⟨rfl, HG.out⟩, own_mono HO9.out hsz7, HB9.out⟩

end Go.Proofs.Ytmdidhlfpaganaa

/-
  slices.Sort and slices.Compact of texts, by the library's contracts, at this program's numbers.
-/
namespace Go.Proofs.Ytmdidhlfpaganaa
open Go.Shelf Go.RowKit
def So0.lays190_ren : Go.Shelf.Ren := ⟨fun | 190 => 63 | 125 => 87 | 258 => 86 | 128 => 108 | 129 => 109 | 302 => 99 | 303 => 100 | 304 => 101 | 305 => 102 | 306 => 103 | 307 => 104 | 308 => 105 | 309 => 106 | 310 => 107 | 333 => 114 | 329 => 115 | 330 => 116 | 334 => 117 | 335 => 118 | 336 => 119 | 344 => 121 | n => n, fun | 31 => 27 | 9 => 9 | 3 => 3 | 46 => 115 | 0 => 0 | 51 => 144 | 53 => 146 | 4 => 4 | 183 => 137 | 182 => 136 | 131 => 141 | 5 => 5 | 218 => 147 | 222 => 151 | 228 => 154 | 229 => 155 | n => n, fun | n => n⟩
theorem So0.lays190 : Go.Proofs.Lays.n190 Try.prog So0.lays190_ren := {
  mixed := by kernel_rfl
  f125 := Try.func87.trans (congrArg some (by kernel_rfl))
  f128 := Try.func108.trans (congrArg some (by kernel_rfl))
  f129 := Try.func109.trans (congrArg some (by kernel_rfl))
  f190 := Try.func63.trans (congrArg some (by kernel_rfl))
  f258 := Try.func86.trans (congrArg some (by kernel_rfl))
  f302 := Try.func99.trans (congrArg some (by kernel_rfl))
  f303 := Try.func100.trans (congrArg some (by kernel_rfl))
  f304 := Try.func101.trans (congrArg some (by kernel_rfl))
  f305 := Try.func102.trans (congrArg some (by kernel_rfl))
  f306 := Try.func103.trans (congrArg some (by kernel_rfl))
  f307 := Try.func104.trans (congrArg some (by kernel_rfl))
  f308 := Try.func105.trans (congrArg some (by kernel_rfl))
  f309 := Try.func106.trans (congrArg some (by kernel_rfl))
  f310 := Try.func107.trans (congrArg some (by kernel_rfl))
  f329 := Try.func115.trans (congrArg some (by kernel_rfl))
  f330 := Try.func116.trans (congrArg some (by kernel_rfl))
  f333 := Try.func114.trans (congrArg some (by kernel_rfl))
  f334 := Try.func117.trans (congrArg some (by kernel_rfl))
  f335 := Try.func118.trans (congrArg some (by kernel_rfl))
  f336 := Try.func119.trans (congrArg some (by kernel_rfl))
  f344 := Try.func121.trans (congrArg some (by kernel_rfl))
  t0 := Try.underlying0
  a0 := Try.isAgg0
  z0 := Try.sizeOf0
  v0 := Try.zeroValue0
  t3 := Try.underlying3
  a3 := Try.isAgg3
  z3 := Try.sizeOf3
  v3 := Try.zeroValue3
  t4 := Try.underlying4
  a4 := Try.isAgg4
  z4 := Try.sizeOf4
  v4 := Try.zeroValue4
  t5 := Try.underlying5
  a5 := Try.isAgg5
  z5 := Try.sizeOf5
  v5 := Try.zeroValue5
  t9 := Try.underlying9
  a9 := Try.isAgg9
  z9 := Try.sizeOf9
  v9 := Try.zeroValue9
  t31 := Try.underlying27
  a31 := Try.isAgg27
  z31 := Try.sizeOf27
  v31 := Try.zeroValue27
  t46 := Try.underlying115
  a46 := Try.isAgg115
  z46 := Try.sizeOf115
  v46 := Try.zeroValue115
  t51 := Try.underlying144
  a51 := Try.isAgg144
  z51 := Try.sizeOf144
  v51 := Try.zeroValue144
  t53 := Try.underlying146
  a53 := Try.isAgg146
  z53 := Try.sizeOf146
  v53 := Try.zeroValue146
  t131 := Try.underlying141
  a131 := Try.isAgg141
  z131 := Try.sizeOf141
  v131 := Try.zeroValue141
  t182 := Try.underlying136
  a182 := Try.isAgg136
  z182 := Try.sizeOf136
  v182 := Try.zeroValue136
  t183 := Try.underlying137
  a183 := Try.isAgg137
  z183 := Try.sizeOf137
  v183 := Try.zeroValue137
  t218 := Try.underlying147
  a218 := Try.isAgg147
  z218 := Try.sizeOf147
  v218 := Try.zeroValue147
  t222 := Try.underlying151
  a222 := Try.isAgg151
  z222 := Try.sizeOf151
  v222 := Try.zeroValue151
  t228 := Try.underlying154
  a228 := Try.isAgg154
  z228 := Try.sizeOf154
  v228 := Try.zeroValue154
  t229 := Try.underlying155
  a229 := Try.isAgg155
  z229 := Try.sizeOf155
  v229 := Try.zeroValue155 }
def So0.lays194_ren : Go.Shelf.Ren := ⟨fun | 194 => 64 | n => n, fun | 31 => 27 | 9 => 9 | 3 => 3 | 4 => 4 | 0 => 0 | n => n, fun | n => n⟩
theorem So0.lays194 : Go.Proofs.Lays.n194 Try.prog So0.lays194_ren := {
  mixed := by kernel_rfl
  f194 := Try.func64.trans (congrArg some (by kernel_rfl))
  t0 := Try.underlying0
  a0 := Try.isAgg0
  z0 := Try.sizeOf0
  v0 := Try.zeroValue0
  t3 := Try.underlying3
  a3 := Try.isAgg3
  z3 := Try.sizeOf3
  v3 := Try.zeroValue3
  t4 := Try.underlying4
  a4 := Try.isAgg4
  z4 := Try.sizeOf4
  v4 := Try.zeroValue4
  t9 := Try.underlying9
  a9 := Try.isAgg9
  z9 := Try.sizeOf9
  v9 := Try.zeroValue9
  t31 := Try.underlying27
  a31 := Try.isAgg27
  z31 := Try.sizeOf27
  v31 := Try.zeroValue27 }

end Go.Proofs.Ytmdidhlfpaganaa

/-
  WALKS: slices.Sort and slices.Compact of texts that the call owns.
-/
namespace Go.Proofs.Ytmdidhlfpaganaa
open Go.Shelf Go.RowKit Go.Sort
set_option linter.unusedVariables false

def bytesOf (xs : List ByteArray) : List (List UInt8) := xs.map (fun x => x.data.toList)
def textsOf (ss : List (List UInt8)) : List ByteArray := ss.map (fun s => ⟨s.toArray⟩)

theorem bytes_texts (ss : List (List UInt8)) : bytesOf (textsOf ss) = ss := by
  unfold bytesOf textsOf
  rw [List.map_map]
  have : ((fun x : ByteArray => x.data.toList) ∘ fun s : List UInt8 => (⟨s.toArray⟩ : ByteArray)) = id := rfl
  rw [this, List.map_id]

theorem texts_bytes (xs : List ByteArray) : textsOf (bytesOf xs) = xs := by
  unfold bytesOf textsOf
  rw [List.map_map]
  have : ((fun s : List UInt8 => (⟨s.toArray⟩ : ByteArray)) ∘ fun x : ByteArray => x.data.toList) = id := by
    funext x
    show (⟨x.data.toList.toArray⟩ : ByteArray) = x
    rw [Array.toArray_toList]
  rw [this, List.map_id]

theorem enc_bytes (xs : List ByteArray) : (bytesOf xs).map encStr = xs.map Value.string := by
  have h := texts_bytes xs
  conv => rhs; rw [← h]
  unfold textsOf
  rw [List.map_map]
  rfl

theorem enc_texts (ss : List (List UInt8)) : ss.map encStr = (textsOf ss).map Value.string := by rw [← enc_bytes, bytes_texts]

/-- Texts that do not descend. -/
def NotDesc (l : List ByteArray) : Prop := l.Pairwise (fun x y => ltB y x = false)

theorem sorted_notDesc (ss : List (List UInt8)) : NotDesc (textsOf (ss.mergeSort fun x y => decide (x ≤ y))) := by
  unfold NotDesc textsOf
  rw [List.pairwise_map]
  have h := List.pairwise_mergeSort (le := fun x y : List UInt8 => decide (x ≤ y)) (fun a b c h1 h2 => by
    rw [decide_eq_true_eq] at h1 h2 ⊢; exact List.le_trans h1 h2) (fun a b => by
    rw [Bool.or_eq_true, decide_eq_true_eq, decide_eq_true_eq]; exact List.le_total a b) ss
  refine h.imp fun {x y} hxy => ?_
  rw [decide_eq_true_eq] at hxy
  rw [Bool.eq_false_iff]
  intro hc
  have := (ltB_iff _ _).1 hc
  exact (List.not_lt.2 hxy) this

theorem sorted_mem (xs : List ByteArray) (p : ByteArray) : p ∈ textsOf ((bytesOf xs).mergeSort fun x y => decide (x ≤ y)) ↔ p ∈ xs := by
  conv => rhs; rw [← texts_bytes xs]
  unfold textsOf
  rw [List.mem_map, List.mem_map]
  simp only [List.mem_mergeSort]

/-- What slices.Sort leaves. -/
def SortPost (base : Nat) (v : Value) (xs : List ByteArray) (W : World) (e : Ending) (w' : World) : Prop :=
  e = .returned (.tuple #[]) ∧ ∃ ys, NotDesc ys ∧ ys.length = xs.length ∧ (∀ p, p ∈ ys ↔ p ∈ xs) ∧ w'.ownsRow base 9 1 v ys.length (ys.map Value.string) ∧ W.grownBy w' v.ownBlock

theorem sortS_c (base : Nat) (v : Value) (xs : List ByteArray) (hl : xs.length ≤ 2097152) (W : World) (ho : W.ownsRow base 9 1 v xs.length (xs.map Value.string)) :
    Calls Try.prog 63 #[v] W (SortPost base v xs W) := by
  rcases ho.2 with ⟨rfl, h0⟩ | ⟨g, cap, cur, rfl, hbase, hb, h1, h2, h3, h4⟩
  · have hx : xs = [] := List.length_eq_zero_iff.1 h0
    subst hx
    refine (Any.slices_Sort_string_none So0.lays190 none 0 W).mono ?_
    rintro e w' ⟨rfl, rfl⟩
    exact ⟨rfl, [], List.Pairwise.nil, rfl, fun _ => Iff.rfl, ho, ⟨rfl, rfl, rfl, Nat.le_refl _, fun _ _ _ => rfl⟩⟩
  · have hbl : (bytesOf xs).length = xs.length := by unfold bytesOf; rw [List.length_map]
    have hh : Holds encStr W g 0 (bytesOf xs).toArray := holds_of_block hb (by rw [hbl, enc_bytes]; simpa using h4)
    have hc := Any.slices_Sort_string So0.lays190 g 0 cap (bytesOf xs) W hh (Array.getElem?_eq_some_iff.1 hb).1 (by rw [hbl]; omega)
    rw [hbl] at hc
    refine Calls.mono hc ?_
    rintro e w' ⟨rfl, n, os, rfl⟩
    have hml : ((bytesOf xs).mergeSort fun x y => decide (x ≤ y)).length = (bytesOf xs).length := List.length_mergeSort _
    refine ⟨rfl, textsOf ((bytesOf xs).mergeSort fun x y => decide (x ≤ y)), sorted_notDesc _, by unfold textsOf; rw [List.length_map, hml, hbl], sorted_mem xs, ?_, grownBy_sorted _⟩
    have := ownsRow_sorted (n := n) (os := os) (e := 9) hml hbase hb (by rw [hbl]; exact h1) h2 h3
    rw [hbl, enc_texts] at this
    rw [show (textsOf ((bytesOf xs).mergeSort fun x y => decide (x ≤ y))).length = xs.length by unfold textsOf; rw [List.length_map, hml, hbl]]
    exact this

/-! ## Compact -/

theorem gem {ss : List (List UInt8)} {j : Nat} (hj : j < ss.length) : ss[j]! = ss[j] := by simp [hj]

theorem comp_mem (ss : List (List UInt8)) (s : List UInt8) : s ∈ Lib.compact ss ↔ s ∈ ss := by
  have hget : ∀ j, j < ss.length → ss.toArray[j]! = ss[j]! := fun j hj => by simp
  unfold Lib.compact Lib.compactUpTo
  rw [List.mem_map]
  constructor
  · rintro ⟨j, hj, rfl⟩
    rw [List.mem_filter, List.mem_range] at hj
    have := hj.1
    rw [hget j this, gem this]
    exact List.getElem_mem this
  · intro hs
    obtain ⟨j, hj, rfl⟩ := List.getElem_of_mem hs
    induction j with
    | zero => exact ⟨0, by rw [List.mem_filter, List.mem_range]; exact ⟨hj, by simp [Lib.keeps]⟩, by rw [hget 0 hj, gem hj]⟩
    | succ j ih =>
      by_cases hk : Lib.keeps ss.toArray (j + 1) = true
      · exact ⟨j + 1, by rw [List.mem_filter, List.mem_range]; exact ⟨hj, hk⟩, by rw [hget _ hj, gem hj]⟩
      · have hj' : j < ss.length := by omega
        have e : ss[j + 1] = ss[j] := by
          unfold Lib.keeps at hk
          rw [decide_eq_true_eq] at hk
          have h2 : ss.toArray[j + 1]! = ss.toArray[j]! := by
            refine Classical.byContradiction fun hne => hk (.inr ?_)
            rwa [Nat.add_sub_cancel]
          rw [hget _ hj, hget _ hj', gem hj, gem hj'] at h2
          exact h2
        rw [e]
        exact ih hj' (List.getElem_mem hj')

theorem comp_asc {xs : List ByteArray} (h : NotDesc xs) : AscP (textsOf (Lib.compact (bytesOf xs))) := by
  unfold AscP textsOf Lib.compact Lib.compactUpTo
  rw [List.pairwise_map, List.pairwise_map]
  have hbl : (bytesOf xs).length = xs.length := by unfold bytesOf; rw [List.length_map]
  have hget : ∀ j (hj : j < xs.length), (⟨((bytesOf xs).toArray[j]!).toArray⟩ : ByteArray) = xs[j] := fun j hj => by
    have : (bytesOf xs).toArray[j]! = xs[j].data.toList := by
      simp [bytesOf, hj]
    rw [this, Array.toArray_toList]
  have hp := List.pairwise_iff_getElem.1 h
  have hr : ((List.range (bytesOf xs).length).filter (Lib.keeps (bytesOf xs).toArray)).Pairwise (· < ·) := List.Pairwise.filter _ List.pairwise_lt_range
  refine hr.imp_of_mem fun {i j} hi hj hij => ?_
  rw [List.mem_filter, List.mem_range, hbl] at hi hj
  rw [hget i hi.1, hget j hj.1]
  have hk := hj.2
  unfold Lib.keeps at hk
  rw [decide_eq_true_eq] at hk
  have hj1 : j - 1 < xs.length := by omega
  have hne : xs[j] ≠ xs[j - 1] := by
    rcases hk with h0 | h0
    · omega
    · intro e
      apply h0
      have a1 : (bytesOf xs).toArray[j]! = xs[j].data.toList := by simp [bytesOf, hj.1]
      have a2 : (bytesOf xs).toArray[j - 1]! = xs[j - 1].data.toList := by simp [bytesOf, hj1]
      rw [a1, a2, e]
  have h1 : ltB xs[j - 1] xs[j] = true := by
    have h2 := hp (j - 1) j hj1 hj.1 (by omega)
    refine Classical.byContradiction fun hc => hne ?_
    exact (ltB_tri (by simpa using hc) h2).symm
  by_cases he : i = j - 1
  · subst he; exact h1
  · have h2 := hp i (j - 1) hi.1 hj1 (by omega)
    by_cases h3 : ltB xs[i] xs[j - 1] = true
    · exact ltB_trans h3 h1
    · have := ltB_tri (by simpa using h3) h2
      rw [this]; exact h1

/-- What slices.Compact leaves of texts that do not descend. -/
def CompPost (base : Nat) (ys : List ByteArray) (W : World) (e : Ending) (w' : World) : Prop :=
  ∃ v' zs, e = .returned v' ∧ AscP zs ∧ (∀ p, p ∈ zs ↔ p ∈ ys) ∧ w'.ownsRow base 9 1 v' zs.length (zs.map Value.string)

theorem comp_len (ss : List (List UInt8)) : (Lib.compact ss).length ≤ ss.length := by
  unfold Lib.compact Lib.compactUpTo
  rw [List.length_map]
  refine Nat.le_trans (List.length_filter_le _ _) ?_
  rw [List.length_range]; exact Nat.le_refl _

theorem compactS_c (base : Nat) (v : Value) (ys : List ByteArray) (hl : ys.length ≤ 2097152) (hd : NotDesc ys) (W : World) (ho : W.ownsRow base 9 1 v ys.length (ys.map Value.string)) :
    Calls Try.prog 64 #[v] W fun e w' => CompPost base ys W e w' ∧ W.grownBy w' v.ownBlock := by
  rcases ho.2 with ⟨rfl, h0⟩ | ⟨g, cap, cur, rfl, hbase, hb, h1, h2, h3, h4⟩
  · have hx : ys = [] := List.length_eq_zero_iff.1 h0
    subst hx
    refine (Any.slices_Compact_string_empty So0.lays194 none 0 W).mono ?_
    rintro e w' ⟨rfl, rfl⟩
    exact ⟨⟨_, [], rfl, List.Pairwise.nil, fun _ => Iff.rfl, ho⟩, ⟨rfl, rfl, rfl, Nat.le_refl _, fun _ _ _ => rfl⟩⟩
  · have hbl : (bytesOf ys).length = ys.length := by unfold bytesOf; rw [List.length_map]
    have hh : Holds encStr W g 0 (bytesOf ys).toArray := holds_of_block hb (by rw [hbl, enc_bytes]; simpa using h4)
    have hc := Any.slices_Compact_string So0.lays194 g 0 cap (bytesOf ys) W hh (by rw [hbl]; omega) (by rw [hbl]; exact h1)
    rw [hbl] at hc
    refine Calls.mono hc ?_
    rintro e w' ⟨rfl, n, rfl⟩
    obtain ⟨zs, hzs⟩ : ∃ zs, zs = Lib.compact (bytesOf ys) ++ List.replicate (ys.length - (Lib.compact (bytesOf ys)).length) [] := ⟨_, rfl⟩
    rw [← hzs]
    have hcl := comp_len (bytesOf ys)
    rw [hbl] at hcl
    have hzl : zs.length = (bytesOf ys).length := by rw [hzs, List.length_append, List.length_replicate, hbl]; omega
    have hrow := ownsRow_sorted (n := n) (os := #[]) (e := 9) hzl hbase hb (by rw [hbl]; exact h1) h2 h3
    have hgr := grownBy_sorted (w := W) (g := g) (n := n) (os := #[]) zs.toArray
    have hg0 : grow (putRow encStr (Sort.ahead W n) g 0 zs.toArray) #[] = putRow encStr (Sort.ahead W n) g 0 zs.toArray := by
      unfold grow
      simp
      rfl
    rw [hg0] at hrow hgr
    have htl : (textsOf (Lib.compact (bytesOf ys))).length = (Lib.compact (bytesOf ys)).length := by unfold textsOf; rw [List.length_map]
    refine ⟨⟨_, textsOf (Lib.compact (bytesOf ys)), rfl, comp_asc hd, fun p => ?_, ?_⟩, hgr⟩
    · conv => rhs; rw [← texts_bytes ys]
      unfold textsOf
      rw [List.mem_map, List.mem_map]
      simp only [comp_mem]
    · rw [htl, ← enc_texts]
      rcases hrow.2 with ⟨hv, _⟩ | ⟨g', cap', cur', hv, q1, q2, q3, q4, q5, q6⟩
      · cases hv
      · cases hv
        refine ⟨by rw [List.length_map, Nat.mul_one], .inr ⟨g, cap, cur', rfl, q1, q2, by omega, q4, q5, ?_⟩⟩
        rw [Nat.mul_one] at q6 ⊢
        rw [hbl] at q6
        have q7 : (cur'.toList.take ys.length).take (Lib.compact (bytesOf ys)).length = (zs.map encStr).take (Lib.compact (bytesOf ys)).length := by rw [q6]
        rw [List.take_take, Nat.min_eq_left hcl] at q7
        rw [q7, ← List.map_take, hzs, List.take_left]

end Go.Proofs.Ytmdidhlfpaganaa
