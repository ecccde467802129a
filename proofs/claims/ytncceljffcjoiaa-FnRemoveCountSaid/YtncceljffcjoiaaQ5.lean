/-
  Texts of this proof, one behind the other: Tx, No, Iq, Iu, En, Mk, Lm.
-/
import Derived.Laws.AppendOwnNone
import Derived.Laws.Concat
import Derived.Laws.Runes
import Derived.Deep.Cut
import Derived.Deep.RegionHeld3
import Derived.Laws.BytesString
import Derived.Laws.Cover1
import Derived.Test.YtncceljffcjoiaaSa
import Derived.Test.YtncceljffcjoiaaWd
import Derived.Test.YtncceljffcjoiaaTl
import Derived.Test.YtncceljffcjoiaaTr
import Derived.Test.YtncceljffcjoiaaQ2
import Derived.Test.YtncceljffcjoiaaTt
import Derived.Test.YtncceljffcjoiaaQ3
import Derived.Test.YtncceljffcjoiaaQ6
/-
  TEXTS OF PLACES: what stands ahead of a name (strings.TrimSuffix of a slash, and a slash).
-/
namespace Go.Proofs.Ytncceljffcjoiaa
open Go.RowKit

def begB (v : List UInt8) : ByteArray := if v = [] then ⟨#[47]⟩ else pB v ++ ⟨#[47]⟩

theorem begB_name (v : List UInt8) (c : UInt8) : begB v ++ ⟨#[c]⟩ = pB (v ++ [c]) := by
  unfold begB
  by_cases h : v = []
  · rw [if_pos h, h]; rfl
  · rw [if_neg h]
    apply ByteArray.ext
    apply Array.ext'
    simp only [ByteArray.data_append, Array.toList_append]
    rw [pB_list, pB_list]
    unfold Pm.pathOf
    rw [if_neg h, if_neg (by simp), Pm.flat_append, List.append_assoc]
    rfl

theorem pB_last {v : List UInt8} (hv : Wrd v) (hn : v ≠ []) : ∃ m c, (pB v).size = m + 1 ∧ ((pB v).extract m (m + 1)).toList = [c] ∧ c ≠ 47 := by
  have e := Pm.flat_last v hn
  have hs : (pB v).data.toList = Pm.flat v.dropLast ++ [47, v.getLast hn] := by
    rw [pB_list]; unfold Pm.pathOf; rw [if_neg hn]; exact e
  have hz : (pB v).size = (Pm.flat v.dropLast ++ [47, v.getLast hn]).length := by rw [← hs]; rfl
  refine ⟨(Pm.flat v.dropLast).length + 1, v.getLast hn, by rw [hz]; simp, ?_, Pm.letter_not_47 (hv.2 _ (List.getLast_mem hn))⟩
  rw [Lib.toList_data, ByteArray.data_extract, Array.toList_extract, hs]
  simp [List.extract_eq_take_drop]

set_option maxHeartbeats 400000 in
set_option maxRecDepth 100000 in
theorem hasSuffix_word {v : List UInt8} (hv : Wrd v) (hn : v ≠ []) (w : World) :
    Calls Try.prog 82 #[.string (pB v), .string ⟨#[47]⟩] w fun e w' => e = .returned (.bool false) ∧ w' = w := by
  obtain ⟨m, c, h1, h2, h3⟩ := pB_last hv hn
  have hmax : m ≤ 7 := by
    have : (pB v).size ≤ 8 := by
      show (Pm.pathOf v).length ≤ 8
      unfold Pm.pathOf; rw [if_neg hn, Pm.flat_length]; have := hv.1; omega
    omega
  obtain ⟨s, hs⟩ : ∃ s, s = pB v := ⟨_, rfl⟩
  rw [← hs] at h1 h2 ⊢
  clear hs
  have e1 : ((m : Int) + 1 - 1).toNat = m := by omega
  have e2 : (c == 47) = false := by simpa using h3
  have e3 : (1 : Int) ≤ m + 1 := by omega
  clear h3
  go_enter Try.func82, Try.ntmps82
  go_wp2
  go_ret
  exact ⟨rfl, rfl⟩

set_option maxHeartbeats 400000 in
set_option maxRecDepth 100000 in
theorem hasSuffix_root (w : World) :
    Calls Try.prog 82 #[.string ⟨#[47]⟩, .string ⟨#[47]⟩] w fun e w' => e = .returned (.bool true) ∧ w' = w := by
  have h : (((⟨#[47]⟩ : ByteArray).extract 0 1).toList == [47]) = true := by rw [Lib.toList_data]; rfl
  go_enter Try.func82, Try.ntmps82
  go_wp2
  go_ret
  exact ⟨rfl, rfl⟩

set_option maxHeartbeats 400000 in
set_option maxRecDepth 100000 in
theorem slTrim_c {v : List UInt8} (hv : Wrd v) (w : World) :
    Calls Try.prog 76 #[.string (pB v), .string ⟨#[47]⟩] w fun e w' => e = .returned (.string (if v = [] then ⟨#[]⟩ else pB v)) ∧ w' = w := by
  by_cases hn : v = []
  · subst hn
    rw [if_pos rfl]
    have hc := fun w => hasSuffix_root w
    show Calls Try.prog 76 #[.string ⟨#[47]⟩, .string ⟨#[47]⟩] w _
    go_enter Try.func76, Try.ntmps76
    go_wp2_with (go_at_call 82; refine (hc _).mono ?_; rintro e w' ⟨rfl, rfl⟩)
    go_ret
    exact ⟨rfl, rfl⟩
  · rw [if_neg hn]
    have hc := fun w => hasSuffix_word hv hn w
    generalize pB v = s at hc ⊢
    go_enter Try.func76, Try.ntmps76
    go_wp2_with (go_at_call 82; refine (hc _).mono ?_; rintro e w' ⟨rfl, rfl⟩)
    go_ret
    exact ⟨rfl, rfl⟩

set_option maxHeartbeats 400000 in
set_option maxRecDepth 100000 in
theorem trim_c {v : List UInt8} (hv : Wrd v) (w : World) :
    Calls Try.prog 57 #[.string (pB v), .string ⟨#[47]⟩] w fun e w' => e = .returned (.string (if v = [] then ⟨#[]⟩ else pB v)) ∧ w' = w := by
  have hc := fun w => slTrim_c hv w
  generalize pB v = s at hc ⊢
  generalize (if v = [] then (⟨#[]⟩ : ByteArray) else s) = t at hc ⊢
  go_enter Try.func57, Try.ntmps57
  go_wp2_with (go_at_call 76; refine (hc _).mono ?_; rintro e w' ⟨rfl, rfl⟩)
  go_ret
  exact ⟨rfl, rfl⟩

theorem beg_eq (v : List UInt8) : (if v = [] then (⟨#[]⟩ : ByteArray) else pB v) ++ ⟨#[47]⟩ = begB v := by
  unfold begB; split <;> rfl

end Go.Proofs.Ytncceljffcjoiaa

/-
  WALKS: the nodes behind a place (impl.place.nodes).
-/
namespace Go.Proofs.Ytncceljffcjoiaa
open Go.RowKit
set_option linter.unusedVariables false

/-- What is behind one letter. -/
def part (F : List UInt8 → Int × Int) (d : Nat) (w : List UInt8) (c : UInt8) : List Nd := oneAt F (w ++ [c]) ++ lst F d (w ++ [c])
def accN (F : List UInt8 → Int × Int) (d : Nat) (w : List UInt8) (n : Nat) : List Nd := (letters.take n).flatMap (part F d w)

theorem accN_four (F : List UInt8 → Int × Int) (d : Nat) (w : List UInt8) : accN F d w 4 = lst F (d + 1) w := rfl

theorem lst_len (F : List UInt8 → Int × Int) : ∀ (d : Nat) (w : List UInt8), (lst F d w).length + 1 ≤ 8 ^ d
  | 0, _ => by simp [lst]
  | d + 1, w => by
    have ho : ∀ u, (oneAt F u).length ≤ 1 := fun u => by unfold oneAt; split <;> simp
    have h1 := lst_len F d (w ++ [97])
    have h2 := lst_len F d (w ++ [98])
    have h3 := lst_len F d (w ++ [99])
    have h4 := lst_len F d (w ++ [100])
    have o1 := ho (w ++ [97])
    have o2 := ho (w ++ [98])
    have o3 := ho (w ++ [99])
    have o4 := ho (w ++ [100])
    have e : (lst F (d + 1) w).length = ((oneAt F (w ++ [97])).length + (lst F d (w ++ [97])).length) + (((oneAt F (w ++ [98])).length + (lst F d (w ++ [98])).length) + (((oneAt F (w ++ [99])).length + (lst F d (w ++ [99])).length) + ((oneAt F (w ++ [100])).length + (lst F d (w ++ [100])).length))) := by
      rw [show lst F (d + 1) w = letters.flatMap (part F d w) from rfl]
      unfold letters
      simp only [List.flatMap_cons, List.flatMap_nil, List.length_append, List.length_nil, Nat.add_zero]
      unfold part
      simp only [List.length_append]
    rw [e, Nat.pow_succ]
    have : 1 ≤ 8 ^ d := Nat.one_le_pow _ _ (by omega)
    omega

theorem lst_le {F : List UInt8 → Int × Int} {d : Nat} (hd : d ≤ 4) (w : List UInt8) : (lst F d w).length ≤ 4096 := by
  have h := lst_len F d w
  have : 8 ^ d ≤ 8 ^ 4 := Nat.pow_le_pow_right (by omega) hd
  omega

theorem accN_le {F : List UInt8 → Int × Int} {d : Nat} (hd : d < 4) (w : List UInt8) (n : Nat) : (accN F d w n).length ≤ 4096 := by
  have h : (accN F d w n).length ≤ (lst F (d + 1) w).length := by
    unfold accN
    rw [show lst F (d + 1) w = (letters.take n ++ letters.drop n).flatMap (part F d w) by rw [List.take_append_drop]; rfl, List.flatMap_append, List.length_append]
    omega
  have := lst_le (F := F) (show d + 1 ≤ 4 by omega) w
  omega

theorem accN_next (F : List UInt8 → Int × Int) (d : Nat) (w : List UInt8) {n : Nat} (hn : n < 4) : accN F d w (n + 1) = accN F d w n ++ part F d w (UInt8.ofNat (97 + n)) := by
  rcases (by omega : n = 0 ∨ n = 1 ∨ n = 2 ∨ n = 3) with rfl | rfl | rfl | rfl <;> simp [accN, letters] <;> rfl

theorem oneAt_zero {F : List UInt8 → Int × Int} {u : List UInt8} (h : (F u).1 = 0) : oneAt F u = [] := if_pos h
theorem oneAt_some {F : List UInt8 → Int × Int} {u : List UInt8} (h : (F u).1 ≠ 0) : oneAt F u = [ndAt F u] := if_neg h

theorem none_down {W : World} {A : List UInt8 → Option Nat} {F : List UInt8 → Int × Int} (h : Trie W A F) {w : List UInt8} (hn : A w = none) : ∀ u, A (w ++ u) = none := by
  intro u
  generalize hl : u.length = n
  induction n generalizing u with
  | zero => rw [List.length_eq_zero_iff.1 hl, List.append_nil]; exact hn
  | succ n ih =>
    have hu : u ≠ [] := fun e => by rw [e] at hl; cases hl
    have e := List.dropLast_concat_getLast hu
    rw [← e, ← List.append_assoc]
    exact h.up _ _ (ih _ (by rw [List.length_dropLast, hl]; rfl))

theorem part_none {W : World} {A : List UInt8 → Option Nat} {F : List UInt8 → Int × Int} (h : Trie W A F) {w : List UInt8} (hw : Wrd w) {d : Nat} (hd : w.length + (d + 1) ≤ 4) {c : UInt8} (hc : Pm.letter c = true) (hn : A (w ++ [c]) = none) : part F d w c = [] := by
  have hz : ∀ u, Wrd (w ++ [c] ++ u) → F (w ++ [c] ++ u) = (0, 0) := fun u hu => h.nil _ hu (none_down h hn u)
  have hwc : ∀ u, u.length ≤ d → (∀ x ∈ u, Pm.letter x = true) → Wrd (w ++ [c] ++ u) := fun u hu hl => ⟨by simp; omega, fun x hx => by
    rcases List.mem_append.1 hx with hx | hx
    · rcases List.mem_append.1 hx with hx | hx
      · exact hw.2 x hx
      · rw [List.mem_singleton.1 hx]; exact hc
    · exact hl x hx⟩
  unfold part
  rw [oneAt_zero, List.nil_append, List.eq_nil_iff_forall_not_mem]
  · intro x hx
    obtain ⟨c', u, h1, h2, h3, _⟩ := mem_lst.1 hx
    rw [hz (c' :: u) (hwc _ (by rw [List.length_cons]; omega) h2)] at h3
    exact h3 rfl
  · have := hz [] (hwc [] (by simp) (by simp))
    rw [List.append_nil] at this
    rw [this]

theorem letter_nth {n : Nat} (hn : n < 4) : Pm.letter (UInt8.ofNat (97 + n)) = true := by
  rcases (by omega : n = 0 ∨ n = 1 ∨ n = 2 ∨ n = 3) with rfl | rfl | rfl | rfl <;> decide

set_option maxHeartbeats 1000000 in
set_option maxRecDepth 100000 in
theorem index4 (a0 a1 a2 a3 : Option Nat) (W : World) : (Instr.index 92 (.agg #[ptrTo a0, ptrTo a1, ptrTo a2, ptrTo a3]) (.int .i64 0)).run Try.prog W = .ok (ptrTo a0) W ∧ (Instr.index 92 (.agg #[ptrTo a0, ptrTo a1, ptrTo a2, ptrTo a3]) (.int .i64 1)).run Try.prog W = .ok (ptrTo a1) W
    ∧ (Instr.index 92 (.agg #[ptrTo a0, ptrTo a1, ptrTo a2, ptrTo a3]) (.int .i64 2)).run Try.prog W = .ok (ptrTo a2) W ∧ (Instr.index 92 (.agg #[ptrTo a0, ptrTo a1, ptrTo a2, ptrTo a3]) (.int .i64 3)).run Try.prog W = .ok (ptrTo a3) W := by
  have h : Try.prog.underlying 92 = some (.array 4 55) := by kernel_rfl
  refine ⟨?_, ?_, ?_, ?_⟩ <;> simp [Instr.index, asIntOf, run_underlying h, go_sem, ptrTo]

theorem indexKid (A : List UInt8 → Option Nat) (w : List UInt8) {n : Nat} (hn : n < 4) (W : World) :
    (Instr.index 92 (.agg #[ptrTo (A (w ++ [97])), ptrTo (A (w ++ [98])), ptrTo (A (w ++ [99])), ptrTo (A (w ++ [100]))]) (.int .i64 n)).run Try.prog W = .ok (ptrTo (A (w ++ [UInt8.ofNat (97 + n)]))) W := by
  obtain ⟨h0, h1, h2, h3⟩ := index4 (A (w ++ [97])) (A (w ++ [98])) (A (w ++ [99])) (A (w ++ [100])) W
  rcases (by omega : n = 0 ∨ n = 1 ∨ n = 2 ∨ n = 3) with rfl | rfl | rfl | rfl
  · exact h0
  · exact h1
  · exact h2
  · exact h3

theorem indexNone {n : Nat} (hn : n < 4) (W : World) :
    (Instr.index 92 (.agg #[.pointer none, .pointer none, .pointer none, .pointer none]) (.int .i64 n)).run Try.prog W = .ok (.pointer none) W := by
  obtain ⟨h0, h1, h2, h3⟩ := index4 none none none none W
  rcases (by omega : n = 0 ∨ n = 1 ∨ n = 2 ∨ n = 3) with rfl | rfl | rfl | rfl
  · exact h0
  · exact h1
  · exact h2
  · exact h3

theorem encode_nth {n : Nat} (hn : n < 4) : Utf8.encode (97 + (n : Int)) = ⟨#[UInt8.ofNat (97 + n)]⟩ := by
  rcases (by omega : n = 0 ∨ n = 1 ∨ n = 2 ∨ n = 3) with rfl | rfl | rfl | rfl <;> rfl

theorem flatN_one_cell (ns : List Nd) : ∀ u ∈ flatN ns, u.oneCell' = true := by
  intro u hu
  unfold flatN at hu
  obtain ⟨n, _, hn⟩ := List.mem_flatMap.1 hu
  simp at hn
  rcases hn with rfl | rfl | rfl <;> rfl

theorem own_cells {W : World} {base : Nat} {e : TypeId} {ns : List Nd} {g cap : Nat} (h : W.ownsRow base e 3 (.slice (some ⟨g, 0, none⟩) ns.length cap) ns.length (flatN ns)) :
    ∀ j u, (flatN ns)[j]? = some u → W.cell? ((⟨g, 0, none⟩ : Addr).add j) = some u := by
  intro j u hj
  have hl := flatN_length ns
  have hj' := (List.getElem?_eq_some_iff.1 hj).1
  have := h.cellAt j (by omega)
  have e2 : ((⟨g, 0, none⟩ : Addr).add j) = ⟨g, j, none⟩ := by
    unfold Addr.add
    split
    · rename_i h0; rw [h0]
    · simp
  rw [e2]
  exact this.trans hj

theorem own_join {W : World} {b : Nat} {e : TypeId} {v : Value} {acc more : List Nd} (h : W.ownsRow b e 3 v (acc.length + more.length) (flatN acc ++ flatN more)) : W.ownsRow b e 3 v (acc ++ more).length (flatN (acc ++ more)) := by
  rw [flatN_append, List.length_append]; exact h

theorem own_cases {W : World} {base : Nat} {e : TypeId} {size n : Nat} {v : Value} {xs : List Value} (h : W.ownsRow base e size v n xs) : (v = .slice none 0 0 ∧ n = 0) ∨ ∃ g cap, v = .slice (some ⟨g, 0, none⟩) n cap := by
  rcases h.2 with h | ⟨g, cap, _, h, _⟩
  · exact .inl h
  · exact .inr ⟨g, cap, h⟩

/-- What nodes returns. -/
def NodesPost (F : List UInt8 → Int × Int) (d : Nat) (w : List UInt8) (W : World) (e : Ending) (W' : World) : Prop := OwnsNodes W.heap.size (lst F d w) e W' ∧ Below W.heap.size W W'

def NodesRel (F : List UInt8 → Int × Int) (d : Nat) (w : List UInt8) (W : World) (o i : Value) (wr : World) : Prop :=
  ∃ n : Nat, i = .int .i64 n ∧ n ≤ 4 ∧ wr.ownsRow W.heap.size 62 3 o (accN F d w n).length (flatN (accN F d w n)) ∧ Hid (Below W.heap.size W wr)

set_option maxHeartbeats 2000000 in
set_option maxRecDepth 100000 in
theorem nodes_c (A : List UInt8 → Option Nat) (F : List UInt8 → Int × Int) (d : Nat) : ∀ (w : List UInt8) (b : Nat) (W : World), w.length + d = 4 → Trie W A F → A w = some b →
    Calls Try.prog 32 #[.pointer (some ⟨b, 0, none⟩), .string (pB w)] W (NodesPost F d w W) := by
  induction d with
  | zero =>
    intro w b W hwd hT hb
    have hw := hT.wrd w b hb
    have hnone : ∀ c, A (w ++ [c]) = none := fun c => by
      cases h : A (w ++ [c]) with
      | none => rfl
      | some x =>
        have := (hT.wrd _ _ h).1
        rw [List.length_append, List.length_singleton] at this
        omega
    have hc := fun W => trim_c hw W
    have hbeg := beg_eq w
    have hts : (if w = [] then (⟨#[]⟩ : ByteArray) else pB w).size ≤ 8 := by
      split
      · decide
      · show (Pm.pathOf w).length ≤ 8
        unfold Pm.pathOf
        split
        · simp
        · rw [Pm.flat_length]; omega
    generalize (if w = [] then (⟨#[]⟩ : ByteArray) else pB w) = tr at hc hbeg hts
    generalize hp : pB w = p at hc ⊢
    have c0 := hT.cell hb 2
    have c1 := hT.cell hb 3
    have c2 := hT.cell hb 4
    have c3 := hT.cell hb 5
    simp only [plc, hnone, ptrTo] at c0 c1 c2 c3
    simp at c0 c1 c2 c3
    have HT := Lib.hid hT
    clear hp hT hb
    go_enter Try.func32, Try.ntmps32
    go_wp2_with (go_at_call 57; refine (hc _).mono ?_; rintro e w' ⟨rfl, rfl⟩)
    go_loop [5, 17] (fun o i => o = .slice none 0 0 ∧ ∃ n : Nat, i = .int .i64 n ∧ n ≤ 4) (fun _ i => 4 - (intOf i).toNat)
    case atStart => exact ⟨rfl, 0, rfl, by omega⟩
    case round =>
      obtain ⟨rfl, n, rfl, hn⟩ := hrel
      by_cases h4 : n = 4
      · subst h4
        go_wp2
        refine bodyPost_ret (v := .slice none 0 0) (by simp [results, Try.f32, go_sem]) rfl ⟨⟨.slice none 0 0, rfl, World.ownsRow_nil _ _ _ _⟩, Below.refl _ _⟩
      · have hni : (n : Int) < 4 := by omega
        have hni0 : (0 : Int) ≤ n := by omega
        have hidx := fun W => indexNone (show n < 4 by omega) W
        go_wp2
        go_round
        case rel => exact ⟨rfl, n + 1, by push_cast; rfl, by omega⟩
        case measure => simp [intOf]; omega
  | succ d ih =>
  intro w b W hwd hT hb
  obtain ⟨i0, hi, hz0, hz1, hz2⟩ := info_parts infoNode
  have hw := hT.wrd w b hb
  have HT := Lib.hid hT
  have HB := Lib.hid hb
  have HI := Lib.hid ih
  have hc := fun W => trim_c hw W
  have hbeg := beg_eq w
  have hts : (if w = [] then (⟨#[]⟩ : ByteArray) else pB w).size ≤ 8 := by
    split
    · decide
    · show (Pm.pathOf w).length ≤ 8
      unfold Pm.pathOf
      split
      · simp
      · rw [Pm.flat_length]; omega
  have hbs : (begB w).size ≤ 9 := by rw [← hbeg, ByteArray.size_append]; show _ + 1 ≤ 9; omega
  generalize (if w = [] then (⟨#[]⟩ : ByteArray) else pB w) = tr at hc hbeg hts
  generalize hp : pB w = p at hc ⊢
  have c0 := hT.cell hb 2
  have c1 := hT.cell hb 3
  have c2 := hT.cell hb 4
  have c3 := hT.cell hb 5
  simp [plc] at c0 c1 c2 c3
  clear hp hT hb ih
  go_enter Try.func32, Try.ntmps32
  go_wp2_with (go_at_call 57; refine (hc _).mono ?_; rintro e w' ⟨rfl, rfl⟩)

  have HBS := Lib.hid hbs
  clear hbeg hts hbs hc
  go_loopw [5, 17] (fun o i wr => NodesRel F d w w' o i wr) (fun _ i _ => 4 - (intOf i).toNat)
  case atStart => exact ⟨0, rfl, by omega, World.ownsRow_nil _ _ _ _, Below.refl _ _⟩
  case round =>
    obtain ⟨n, rfl, hn, hown, hB⟩ := hrel
    by_cases h4 : n = 4
    · subst h4
      go_wp2
      refine bodyPost_ret (v := u5) (by simp [results, Try.f32, go_sem]) rfl ⟨⟨u5, rfl, ?_⟩, hB⟩
      rw [← accN_four]; exact hown
    · have hn4 : n < 4 := by omega
      have hni : (n : Int) < 4 := by omega
      have hni0 : (0 : Int) ≤ n := by omega
      have hidx := fun W => indexKid A w hn4 W
      cases hk : A (w ++ [UInt8.ofNat (97 + n)]) with
      | none =>
        have hidx2 := fun W => (hidx W).trans (show _ = Result.ok (.pointer none) W by rw [hk]; rfl)
        clear hidx
        go_wp2
        go_roundw
        case rel =>
          refine ⟨n + 1, by push_cast; rfl, by omega, ?_, hB⟩
          rw [accN_next F d w hn4, part_none HT.out hw (by omega) (letter_nth hn4) hk, List.append_nil]; exact hown
        case measure => simp [intOf]; omega
      | some b' =>
        have hidx2 := fun W => (hidx W).trans (show _ = Result.ok (.pointer (some ⟨b', 0, none⟩)) W by rw [hk]; rfl)
        clear hidx
        have HL1 := Lib.hid (accN_le (F := F) (d := d) (by omega) w n)
        have henc := encode_nth hn4
        have hname := begB_name w (UInt8.ofNat (97 + n))
        have hbs := HBS.out
        have hc1 : ((⟨#[UInt8.ofNat (97 + n)]⟩ : ByteArray)).size = 1 := rfl
        have hwr : IntKind.i32.wrap (97 + (n : Int)) = 97 + n := by rw [IntKind.wrap_i32]; omega
        have hlet := letter_nth hn4
        have HACC := Lib.hid (accN_next F d w hn4)
        obtain ⟨c, hc⟩ : ∃ c, c = UInt8.ofNat (97 + n) := ⟨_, rfl⟩
        rw [← hc] at henc hname hc1 hlet HACC hk
        have HC := Lib.hid hc
        clear hc
        go_upto_region 8 with (fail)
        have HK := Lib.hid hk
        have HB2 := Lib.hid (show Wrd (w ++ [c]) from HT.out.wrd _ _ hk)
        have k0 := (HT.out.below hB.out).cell hk 0
        have k1 := (HT.out.below hB.out).cell hk 1
        simp only [plc] at k0 k1
        obtain ⟨k, hkk⟩ : ∃ k, k = (F (w ++ [c])).1 := ⟨_, rfl⟩
        obtain ⟨v, hvv⟩ : ∃ v, v = (F (w ++ [c])).2 := ⟨_, rfl⟩
        rw [← hkk] at k0
        rw [← hvv] at k1
        have k0' : wr.cell? ⟨b', 0, none⟩ = some (.int .i64 k) := k0
        have k1' : wr.cell? ⟨b', 1, none⟩ = some (.int .i64 v) := k1
        have HL2 := Lib.hid (lst_le (F := F) (d := d) (by omega) (w ++ [c]))
        clear k0 k1 hk hc1 hbs henc hidx2 hwr
        clear hname
        have HO := Lib.hid hown
        have HCALL := Lib.hid (fun W1 (hT1 : Trie W1 A F) => HI.out (w ++ [c]) b' W1 (by rw [List.length_append, List.length_singleton]; omega) hT1 HK.out)
        by_cases hk0 : k = 0
        · have hkb : (k == 0) = true := by rw [hk0]; rfl
          have HPART := Lib.hid (show part F d w c = lst F d (w ++ [c]) by unfold part; rw [oneAt_zero (by rw [← hkk]; exact hk0)]; rfl)
          subst hk0
          clear hown hkk hvv

          go_wp2_with fail
          refine (HCALL.out _ (HT.out.below hB.out)).mono ?_
          rintro e W2 ⟨⟨sl, rfl, ho2⟩, hb2⟩
          have hoa := own_below HO.out hb2
          have hB2 : Below w'.heap.size w' W2 := below_next hB.out hb2
          have H2 := Lib.hid ho2
          rcases own_cases ho2 with ⟨rfl, hz⟩ | ⟨g, cap, rfl⟩
          · have hz' : lst F d (w ++ [c]) = [] := List.length_eq_zero_iff.1 hz
            clear ho2 hb2 hz
            go_wp2_with (at_builtin; refine wpList_append_own_none rfl _ _ 23 rfl w'.heap.size 62 i0 3 Try.underlying23 hi _ _ _ rfl hoa rfl ?_)
            go_roundw
            case rel =>
              refine ⟨n + 1, by push_cast; rfl, by omega, ?_, hB2⟩
              rw [HACC.out, HPART.out, hz', List.append_nil]
              exact hoa
            case measure => simp [intOf]; omega
          · clear ho2 hb2
            go_wp2_with (at_builtin; refine wpList_append_own _ rfl _ _ 23 rfl w'.heap.size 62 i0 (.agg #[.string ⟨#[]⟩, .int .i64 0, .int .i64 0]) 3 32 Try.underlying23 hi hz0 hz1 hz2 rfl (by decide) _ _ _ rfl hoa ⟨g, 0, none⟩ _ cap (flatN (lst F d (w ++ [c]))) rfl (flatN_length _) (own_cells H2.out) (flatN_one_cell _) (by unfold maxLen; have := HL1.out; have := HL2.out; simp at this ⊢; omega) (by have := HL1.out; have := HL2.out; simp at this ⊢; omega) hB2.size ?_; intro v4 w4 ho4 hg4 hn4)
            have B4 : Below w'.heap.size w' w4 := hB2.grown hg4 hB2.size (fun g e => (hoa.lt g e).1)
            go_roundw
            case rel =>
              refine ⟨n + 1, by push_cast; rfl, by omega, ?_, B4⟩
              rw [HACC.out, HPART.out]
              exact own_join ho4
            case measure => simp [intOf]; omega

        · have hkb : (k == 0) = false := by simpa using hk0
          have HPART := Lib.hid (show part F d w c = [(⟨pB (w ++ [c]), k, v⟩ : Nd)] ++ lst F d (w ++ [c]) by unfold part; rw [oneAt_some (by rw [← hkk]; exact hk0)]; unfold ndAt; rw [← hkk, ← hvv])
          have hlt0 := hown.lt
          clear hown hkk hvv
          generalize hq : pB (w ++ [c]) = q at HCALL HPART ⊢
          go_wp2_with (at_builtin; refine wpList_append_own _ rfl _ _ 23 rfl w'.heap.size 62 i0 (.agg #[.string ⟨#[]⟩, .int .i64 0, .int .i64 0]) 3 32 Try.underlying23 hi hz0 hz1 hz2 rfl (by decide) _ _ _ rfl (HO.out.alloc _) ⟨wr.heap.size, 0, none⟩ 1 1 [.string q, .int .i64 k, .int .i64 v] rfl rfl (cell_three_new _ _ _ _ _) (fun x hx => by simp at hx; rcases hx with rfl | rfl | rfl <;> rfl) (by unfold maxLen; have := HL1.out; omega) (by have := HL1.out; omega) (by have := hB.out.size; simp; omega) ?_; intro v3 w3 ho3 hg3 hn3)
          have B3 : Below w'.heap.size w' w3 := (hB.out.alloc hB.out.size _).grown hg3 (by have := hB.out.size; simp; omega) (fun g e => (hlt0 g e).1)
          go_wp2_with fail
          refine (HCALL.out _ (HT.out.below B3)).mono ?_
          rintro e W2 ⟨⟨sl, rfl, ho2⟩, hb2⟩
          have hoa := own_below (own_push (⟨q, k, v⟩ : Nd) ho3) hb2
          have hB2 : Below w'.heap.size w' W2 := below_next B3 hb2
          have H2 := Lib.hid ho2
          rcases own_cases ho2 with ⟨rfl, hz⟩ | ⟨g, cap, rfl⟩
          · have hz' : lst F d (w ++ [c]) = [] := List.length_eq_zero_iff.1 hz
            clear ho2 hb2 hz
            go_wp2_with (at_builtin; refine wpList_append_own_none rfl _ _ 23 rfl w'.heap.size 62 i0 3 Try.underlying23 hi _ _ _ rfl hoa rfl ?_)
            go_roundw
            case rel =>
              refine ⟨n + 1, by push_cast; rfl, by omega, ?_, hB2⟩
              rw [HACC.out, HPART.out, hz', List.append_nil]
              exact hoa
            case measure => simp [intOf]; omega
          · clear ho2 hb2
            go_wp2_with (at_builtin; refine wpList_append_own _ rfl _ _ 23 rfl w'.heap.size 62 i0 (.agg #[.string ⟨#[]⟩, .int .i64 0, .int .i64 0]) 3 32 Try.underlying23 hi hz0 hz1 hz2 rfl (by decide) _ _ _ rfl hoa ⟨g, 0, none⟩ _ cap (flatN (lst F d (w ++ [c]))) rfl (flatN_length _) (own_cells H2.out) (flatN_one_cell _) (by unfold maxLen; have h5 := HL1.out; have h6 := HL2.out; simp at h5 h6 ⊢; omega) (by have h5 := HL1.out; have h6 := HL2.out; simp at h5 h6 ⊢; omega) hB2.size ?_; intro v4 w4 ho4 hg4 hn4)
            have B4 : Below w'.heap.size w' w4 := hB2.grown hg4 hB2.size (fun g e => (hoa.lt g e).1)
            go_roundw
            case rel =>
              refine ⟨n + 1, by push_cast; rfl, by omega, ?_, B4⟩
              rw [HACC.out, HPART.out, ← List.append_assoc]
              exact own_join ho4
            case measure => simp [intOf]; omega


end Go.Proofs.Ytncceljffcjoiaa

/-
  WALKS: impl.TreePut.
-/
namespace Go.Proofs.Ytncceljffcjoiaa
open Go.RowKit
set_option linter.unusedVariables false

theorem treePut_bad {ns : List Nd} {p : ByteArray} {k v : Int} (h : validT ns = false ∨ ¬ 1 ≤ depB p ∨ validB k v = false) : treePut ns p k v = none := by
  unfold treePut
  rcases h with h | h | h <;> simp [h]

theorem tput_nil {r : Option (List Nd)} {base : Nat} {W w : World} (hr : r = none) (hB : Below W.heap.size W w) : TPost r base W (.returned (.tuple #[.slice none 0 0, .bool false])) w :=
  ⟨_, [], false, rfl, .inr ⟨rfl, hr, rfl⟩, World.ownsRow_nil _ _ _ _, hB⟩

theorem lst_short {F : List UInt8 → Int × Int} : Short 8 (lst F 4 []) := by
  intro n hn
  obtain ⟨c, u, h1, h2, h3, rfl⟩ := mem_lst.1 hn
  exact pB_size (v := [] ++ c :: u) ⟨by rw [List.nil_append, List.length_cons]; omega, h2⟩

theorem Short.mono {m m' : Nat} {ns : List Nd} (h : Short m ns) (hm : m ≤ m') : Short m' ns := fun n hn => Nat.le_trans (h n hn) hm

end Go.Proofs.Ytncceljffcjoiaa

/-
  WALKS: impl.TreeUnder.
-/
namespace Go.Proofs.Ytncceljffcjoiaa
open Go.RowKit
set_option linter.unusedVariables false

theorem treeUnder_bad {ns : List Nd} {p : ByteArray} (h : validT ns = false ∨ vpB p = false) : treeUnder ns p = [] := by
  unfold treeUnder
  rcases h with h | h <;> simp [h]

theorem texts_nil {xs : List ByteArray} {W w : World} (h : xs = []) (hB : Below W.heap.size W w) : TextsPost xs W (.returned (.slice none 0 0)) w := by
  subst h; exact ⟨⟨_, rfl, World.ownsRow_nil _ _ _ _⟩, hB⟩

def pathVals (out : List Nd) (n : Nat) : List Value := ((out.take n).map Nd.p).map Value.string
theorem pathVals_next {out : List Nd} {n : Nat} {x : Nd} (h : out[n]? = some x) : pathVals out (n + 1) = pathVals out n ++ [.string x.p] := by
  unfold pathVals; rw [take_next h]; simp

/-- The loop that takes the paths. -/
def PathsRel (out : List Nd) (W : World) (W8 : World) (o i : Value) (wr : World) : Prop :=
  ∃ n : Nat, i = .int .i64 n ∧ n ≤ out.length ∧ wr.ownsRow W8.heap.size 9 1 o n (pathVals out n) ∧ Hid (Below W8.heap.size W8 wr)

set_option maxHeartbeats 4000000 in
set_option maxRecDepth 100000 in
theorem implTreeUnder_c (a : Option Addr) (len cap : Nat) (ns : List Nd) (p : ByteArray) (hl : len ≤ 2097152) (hs : Short 2097152 ns) (hp : p.size ≤ 2097152) (W : World) (hN : NodesAt W a len ns) :
    Calls Try.prog 10 #[.slice a len cap, .string p] W (TextsPost (treeUnder ns p) W) := by
  obtain ⟨i0, hi, hz0, hz1, hz2⟩ := info_parts infoStr
  have H := Lib.hid (treeOf_c a len cap ns hl hs W hN)
  obtain ⟨vp, hvp⟩ : ∃ vp, vpB p = vp := ⟨_, rfl⟩
  have HP := Lib.hid (fun W1 => show Calls Try.prog 30 #[.string p] W1 (BoolPost vp W1) by rw [← hvp]; exact pathValid_c p (by omega) W1)
  have HVP := Lib.hid hvp
  clear hN hs hvp
  go_enter Try.func10, Try.ntmps10
  go_wp2_with fail
  refine H.out.mono ?_
  rintro e W2 ⟨hB, h⟩
  rcases h with ⟨hv, rfl⟩ | ⟨hv, A, b, rfl, hA0, hT, hA⟩
  · have HG := Lib.hid (treeUnder_bad (p := p) (.inl hv))
    clear hv
    go_wp2
    refine bodyPost_ret (v := .slice none 0 0) (by simp [results, Try.f10, go_sem]) rfl (texts_nil HG.out hB)
  · have HV := Lib.hid hv
    have HB2 := Lib.hid hB
    have HT := Lib.hid hT
    have HA := Lib.hid hA
    have HA0 := Lib.hid hA0
    clear hv hB hT hA hA0
    go_wp2_with fail
    refine (HP.out _).mono ?_
    rintro e W3 ⟨rfl, hb3⟩
    have HB3 := Lib.hid (below_next HB2.out hb3)
    have HT3 := Lib.hid (HT.out.below hb3)
    clear hb3
    cases vp with
    | false =>
      have HG := Lib.hid (treeUnder_bad (ns := ns) (p := p) (.inr HVP.out))
      go_wp2
      refine bodyPost_ret (v := .slice none 0 0) (by simp [results, Try.f10, go_sem]) rfl (texts_nil HG.out HB3.out)
    | true =>
      obtain ⟨w, hw, hpw⟩ := vpB_word HVP.out
      have hwl : w.length + (4 - w.length) = 4 := by have := hw.1; omega
      have HG := Lib.hid (show treeUnder ns p = (lst (Fof ns) (4 - w.length) w).map Nd.p by
        rw [under_lst HV.out hw]
        unfold treeUnder
        rw [show validT ns = true from HV.out, show vpB p = true from HVP.out, hpw]; rfl)
      have HAT := Lib.hid (show Calls Try.prog 31 #[.pointer (some ⟨b, 0, none⟩), .string p] W3 (AtPost A (Fof ns) w W3) by
        rw [hpw]; exact at_c A _ w hw W3 HT3.out _ HA0.out)
      obtain ⟨out, hout⟩ : ∃ out, out = lst (Fof ns) (4 - w.length) w := ⟨_, rfl⟩
      rw [← hout] at HG
      have HND := Lib.hid (fun (A' : List UInt8 → Option Nat) (b' : Nat) (W' : World) (hT' : Trie W' A' (Fof ns)) (hb' : A' w = some b') =>
        show Calls Try.prog 32 #[.pointer (some ⟨b', 0, none⟩), .string p] W' (fun e W2 => OwnsNodes W'.heap.size out e W2 ∧ Below W'.heap.size W' W2) by
          rw [hpw, hout]; exact nodes_c A' _ (4 - w.length) w b' W' hwl hT' hb')
      have HLN := Lib.hid (show out.length ≤ 4096 by rw [hout]; exact lst_le (by omega) _)
      clear hw hpw hout hwl
      go_wp2_with fail
      refine HAT.out.mono ?_
      rintro e W4 ⟨A4, b4, rfl, hb4, hT4, hX4, hO4⟩
      have HB4 := Lib.hid (HB3.out.trans (hO4.below HB3.out.size HA.out))
      have HND4 := Lib.hid (HND.out A4 b4 W4 hT4 hb4)
      clear hO4 hX4 hT4 hb4 HND
      go_wp2_with fail
      refine HND4.out.mono ?_
      rintro e W8 ⟨⟨sl, rfl, ho8⟩, hb8⟩
      obtain ⟨a8, cap8, rfl, hn8⟩ := nodes_of_own ho8
      have HN8 := Lib.hid hn8
      have HB8 := Lib.hid (below_next HB4.out hb8)
      clear ho8 hb8 hn8
      go_wp2
      go_loopw [7, 28] (fun o i wr => PathsRel out W W8 o i wr) (fun _ i _ => out.length - (intOf i).toNat)
      case atStart => exact ⟨0, rfl, by omega, World.ownsRow_nil _ _ _ _, Below.refl _ _⟩
      case round =>
        obtain ⟨n, rfl, hn, hown, hB⟩ := hrel
        by_cases hlt : n < out.length
        · obtain ⟨g, off, x, rfl, hx, c0, c1, c2⟩ := (HN8.out.keep hB.out).node hlt
          have hlt' : (n : Int) < out.length := by omega
          have hlt0 := hown.lt
          have hn4096 : (n : Int) ≤ 4096 := by have := HLN.out; omega
          have HLT := Lib.hid hlt
          have HSTEP := Lib.hid (pathVals_next hx)
          have hsz8 := HB8.out.size
          have HO := Lib.hid hown
          clear hlt hn hx hown
          go_wp2_with (at_builtin; refine wpList_append_own _ rfl _ _ 35 rfl W8.heap.size 9 i0 (.string ⟨#[]⟩) 1 16 Try.underlying35 hi hz0 hz1 hz2 rfl (by decide) _ _ _ rfl ((HO.out.alloc _).alloc _) ⟨wr.heap.size + 1, 0, none⟩ 1 1 [.string x.p] rfl rfl (fun j u h => by have := cell_one_new (wr.alloc (.cells #[.string x.p, .int .i64 x.k, .int .i64 x.v] 62)) (.string x.p) 9 j u h; rw [World.size_alloc] at this; exact this) (fun y hy => by simp at hy; subst hy; rfl) (by unfold maxLen; have h5 := HLN.out; have h6 := HLT.out; omega) (by have h5 := HLN.out; have h6 := HLT.out; omega) (by have := hB.out.size; simp; omega) ?_; intro v3 w3 ho3 hg3 hn3)
          have B3 : Below W8.heap.size W8 w3 := ((hB.out.alloc hB.out.size _).alloc (by have := hB.out.size; simp; omega) _).grown hg3 (by have := hB.out.size; simp; omega) (fun g e => (hlt0 g e).1)
          go_roundw
          case rel => exact ⟨n + 1, by push_cast; rfl, by have := HLT.out; omega, by rw [HSTEP.out]; exact ho3, B3⟩
          case measure => have := HLT.out; simp [intOf]; omega
        · have hge : (out.length : Int) ≤ n := by omega
          have hnn : n = out.length := by omega
          subst hnn
          go_wp2
          refine bodyPost_ret (v := u7) (by simp [results, Try.f10, go_sem]) rfl ⟨⟨u7, rfl, ?_⟩, below_next HB8.out hB.out⟩
          rw [HG.out, List.length_map]
          unfold pathVals at hown
          rw [List.take_length] at hown
          exact own_mono hown HB8.out.size

end Go.Proofs.Ytncceljffcjoiaa

/-
  WALKS: laws.eqNode, laws.eqNodeS, at equal lists.
-/
namespace Go.Proofs.Ytncceljffcjoiaa
open Go.RowKit
set_option linter.unusedVariables false

set_option maxHeartbeats 1000000 in
theorem eqNode_c (n : Nd) (w : World) : Calls Try.prog 36 #[nodeV n, nodeV n] w (BoolPost true w) := by
  obtain ⟨p, k, v⟩ := n
  have HC := Lib.hid (fun w => eqContent_c k v w)
  unfold nodeV
  go_enter Try.func36, Try.ntmps36
  go_wp2_with fail
  refine (HC.out _).mono ?_
  rintro e W1 ⟨rfl, hb1⟩
  have HB := Lib.hid (below_next (below_next (below_box _ _) (below_box _ _)) hb1)
  clear hb1
  go_wp2
  go_ret
  exact ⟨rfl, HB.out⟩

def EqRel (len : Nat) (W : World) (i : Value) (wr : World) : Prop := ∃ n : Nat, i = .int .i64 n ∧ n ≤ len ∧ Hid (Below W.heap.size W wr)

set_option maxHeartbeats 2000000 in
set_option maxRecDepth 100000 in
theorem eqNodeS_c (a1 a2 : Option Addr) (len c1 c2 : Nat) (ns : List Nd) (hl : len ≤ 2097152) (W : World) (h1 : NodesAt W a1 len ns) (h2 : NodesAt W a2 len ns) :
    Calls Try.prog 14 #[.slice a1 len c1, .slice a2 len c2] W (BoolPost true W) := by
  have H1 := Lib.hid h1
  have H2 := Lib.hid h2
  have HC := Lib.hid (fun n w => eqNode_c n w)
  unfold nodeV at HC
  have hl' : (len : Int) ≤ 2097152 := by omega
  clear h1 h2
  go_enter Try.func14, Try.ntmps14
  go_wp2
  go_loopw [5] (fun i wr => EqRel len W i wr) (fun i _ => len - (intOf i).toNat)
  case atStart => exact ⟨0, rfl, by omega, Below.refl _ _⟩
  case round =>
    obtain ⟨i, rfl, hi, HB⟩ := hrel
    by_cases hlt : i < len
    · obtain ⟨b, off, n, HA1, hn1, c0, c1, c2⟩ := (H1.out.keep HB.out).node hlt
      obtain ⟨b', off', n', HA2, hn2, d0, d1, d2⟩ := (H2.out.keep HB.out).node hlt
      obtain rfl : n' = n := by rw [hn1] at hn2; exact (Option.some.inj hn2).symm
      have hlt' : (i : Int) < len := by omega
      have hil : (i : Int) ≤ 2097152 := by omega
      have HLT := Lib.hid hlt
      obtain rfl := HA1
      obtain rfl := HA2
      obtain ⟨p, k, v⟩ := n'
      simp only at c0 c1 c2 d0 d1 d2
      have HS0 := Lib.hid (show wr.drew.cell? ⟨b, off + i * 3, none⟩ = some (.string p) ∧ wr.drew.cell? ⟨b, off + i * 3 + 1, none⟩ = some (.int .i64 k) ∧ wr.drew.cell? ⟨b, off + i * 3 + 2, none⟩ = some (.int .i64 v) ∧
        wr.drew.cell? ⟨b', off' + i * 3, none⟩ = some (.string p) ∧ wr.drew.cell? ⟨b', off' + i * 3 + 1, none⟩ = some (.int .i64 k) ∧ wr.drew.cell? ⟨b', off' + i * 3 + 2, none⟩ = some (.int .i64 v) from ⟨c0, c1, c2, d0, d1, d2⟩)
      have HCX := Lib.hid (HC.out ⟨p, k, v⟩ wr.drew)
      clear hlt hi hn1 hn2
      go_upto_region 6 with (fail)
      refine wp_region_held_drew (S := (fun w' => w'.cell? ⟨b, off + i * 3, none⟩ = some (.string p) ∧ w'.cell? ⟨b, off + i * 3 + 1, none⟩ = some (.int .i64 k) ∧ w'.cell? ⟨b, off + i * 3 + 2, none⟩ = some (.int .i64 v) ∧ w'.cell? ⟨b', off' + i * 3, none⟩ = some (.string p) ∧ w'.cell? ⟨b', off' + i * 3 + 1, none⟩ = some (.int .i64 k) ∧ w'.cell? ⟨b', off' + i * 3 + 2, none⟩ = some (.int .i64 v))) (by kernel_rfl) HS0.out (fun hH => ?_)
      refine wpAnyH_take (i := 0) (oi := _) (v := ?_) rfl (by kernel_rfl) (by kernel_rfl) (by kernel_rfl) (fun _ _ _ h => h) (Or.inl ⟨by rfl, ?_⟩) (by assumption) ?_
      rotate_left
      · (intro w hSw; (try dsimp only at hSw); go_simp; try with_reducible rfl)
      try simp only [Act.put, List.getElem_toArray, List.getElem_cons_zero, List.setIfInBounds_toArray, List.set_cons_zero, List.set_cons_succ]
      refine wpAnyH_take (i := 1) (oi := _) (v := ?_) rfl (by kernel_rfl) (by kernel_rfl) (by kernel_rfl) (fun _ _ _ h => h) (Or.inl ⟨by rfl, ?_⟩) (by assumption) ?_
      rotate_left
      · (intro w hSw; (try dsimp only at hSw); go_simp; try with_reducible rfl)
      try simp only [Act.put, List.getElem_toArray, List.getElem_cons_zero, List.getElem_cons_succ, List.setIfInBounds_toArray, List.set_cons_zero, List.set_cons_succ]
      refine wpAnyH_take (i := 2) (oi := _) (v := ?_) rfl (by kernel_rfl) (by kernel_rfl) (by kernel_rfl) (fun _ _ _ h => h) (Or.inl ⟨by rfl, ?_⟩) (by assumption) ?_
      rotate_left
      · (intro w hSw; (try dsimp only at hSw); go_simp; try with_reducible rfl)
      try simp only [Act.put, List.getElem_toArray, List.getElem_cons_zero, List.getElem_cons_succ, List.setIfInBounds_toArray, List.set_cons_zero, List.set_cons_succ]
      refine wpAnyH_take (i := 3) (oi := _) (v := ?_) rfl (by kernel_rfl) (by kernel_rfl) (by kernel_rfl) (fun _ _ _ h => h) (Or.inl ⟨by rfl, ?_⟩) (by assumption) ?_
      rotate_left
      · (intro w hSw; (try dsimp only at hSw); go_simp; try with_reducible rfl)
      try simp only [Act.put, List.getElem_toArray, List.getElem_cons_zero, List.getElem_cons_succ, List.setIfInBounds_toArray, List.set_cons_zero, List.set_cons_succ]
      refine wpAnyH_take (i := 4) (oi := _) (v := ?_) rfl (by kernel_rfl) (by kernel_rfl) (by kernel_rfl) (fun _ _ _ h => h) (Or.inl ⟨by rfl, ?_⟩) (by assumption) ?_
      rotate_left
      · (intro w hSw; (try dsimp only at hSw); go_simp; try with_reducible rfl)
      try simp only [Act.put, List.getElem_toArray, List.getElem_cons_zero, List.getElem_cons_succ, List.setIfInBounds_toArray, List.set_cons_zero, List.set_cons_succ]
      refine wpAnyH_take (i := 5) (oi := _) (v := ?_) rfl (by kernel_rfl) (by kernel_rfl) (by kernel_rfl) (fun _ _ _ h => h) (Or.inl ⟨by rfl, ?_⟩) (by assumption) ?_
      rotate_left
      · (intro w hSw; (try dsimp only at hSw); go_simp; try with_reducible rfl)
      try simp only [Act.put, List.getElem_toArray, List.getElem_cons_zero, List.getElem_cons_succ, List.setIfInBounds_toArray, List.set_cons_zero, List.set_cons_succ]
      refine wpAnyH_take (i := 6) (oi := _) (v := ?_) rfl (by kernel_rfl) (by kernel_rfl) (by kernel_rfl) (fun _ _ _ h => h) (Or.inl ⟨by rfl, ?_⟩) (by assumption) ?_
      rotate_left
      · (intro w hSw; (try dsimp only at hSw); go_simp; try with_reducible rfl)
      try simp only [Act.put, List.getElem_toArray, List.getElem_cons_zero, List.getElem_cons_succ, List.setIfInBounds_toArray, List.set_cons_zero, List.set_cons_succ]
      refine wpAnyH_take (i := 7) (oi := _) (v := ?_) rfl (by kernel_rfl) (by kernel_rfl) (by kernel_rfl) (fun _ _ _ h => h) (Or.inl ⟨by rfl, ?_⟩) (by assumption) ?_
      rotate_left
      · (intro w hSw; (try dsimp only at hSw); go_simp; try with_reducible rfl)
      try simp only [Act.put, List.getElem_toArray, List.getElem_cons_zero, List.getElem_cons_succ, List.setIfInBounds_toArray, List.set_cons_zero, List.set_cons_succ]
      refine wpAnyH_ready (rs := [8]) (by kernel_rfl) (by simp) ?_
      refine AllReadyH.cons rfl (fun K hK => ?_) (AllReadyH.nil)
      go_simp
      go_at_call 36; (with_reducible refine (HCX.out).mono ?_); rintro e W7 ⟨rfl, hb7⟩
      refine hK.out _ _ ⟨cell_kept hb7 HS0.out.1, cell_kept hb7 HS0.out.2.1, cell_kept hb7 HS0.out.2.2.1, cell_kept hb7 HS0.out.2.2.2.1, cell_kept hb7 HS0.out.2.2.2.2.1, cell_kept hb7 HS0.out.2.2.2.2.2⟩ (fun hHeld => ?_)
      try simp only [Act.put, List.getElem_toArray, List.getElem_cons_zero, List.getElem_cons_succ, List.setIfInBounds_toArray, List.set_cons_zero, List.set_cons_succ]
      have H7 := Lib.hid (below_next (show Below W.heap.size W wr.drew from HB.out.drew) hb7)
      refine wpAnyH_take (i := 9) (oi := _) (v := ?_) rfl (by kernel_rfl) (by kernel_rfl) (by kernel_rfl) (fun _ _ _ h => h) (Or.inl ⟨by rfl, ?_⟩) (by assumption) ?_
      rotate_left
      · (intro w hSw; (try dsimp only at hSw); go_simp; try with_reducible rfl)
      try simp only [Act.put, List.getElem_toArray, List.getElem_cons_zero, List.getElem_cons_succ, List.setIfInBounds_toArray, List.set_cons_zero, List.set_cons_succ]
      refine wpAnyH_done (by kernel_rfl) ?_ _
      go_wp2
      go_roundw
      case rel => exact ⟨i + 1, by go_num, by have := HLT.out; omega, H7.out⟩
      case measure => have := HLT.out; simp [intOf]; omega
    · have hge : (len : Int) ≤ i := by omega
      clear hlt
      go_wp2
      go_ret
      exact ⟨rfl, HB.out⟩

end Go.Proofs.Ytncceljffcjoiaa

/-
  WALKS: laws.markText, markNodeS, markStringS, heldNodeS, heldStringS, eqStringS: what a test writes into memory of the program's, and finds again.
-/
namespace Go.Proofs.Ytncceljffcjoiaa
open Go.RowKit
set_option linter.unusedVariables false

/-- The digits of a number, ahead of a text. -/
def digs : Nat → Nat → ByteArray → ByteArray
  | 0, _, out => out
  | f + 1, k, out => if k = 0 then out else digs f (k / 10) (⟨#[UInt8.ofNat (48 + k % 10)]⟩ ++ out)

/-- The text of a mark. -/
def mtext (k : Nat) : ByteArray := ⟨#[109]⟩ ++ digs k k ⟨#[]⟩

theorem digs_zero (f : Nat) (out : ByteArray) : digs f 0 out = out := by cases f <;> simp [digs]
theorem digs_more : ∀ (f g k : Nat) (out : ByteArray), k ≤ f → k ≤ g → digs f k out = digs g k out
  | 0, g, k, out, h, _ => by rw [show k = 0 by omega, digs_zero, digs_zero]
  | f + 1, 0, k, out, _, h => by rw [show k = 0 by omega, digs_zero, digs_zero]
  | f + 1, g + 1, k, out, h1, h2 => by
    unfold digs
    split
    · rfl
    · exact digs_more f g _ _ (by omega) (by omega)
theorem digs_step {k : Nat} (out : ByteArray) (hk : 0 < k) : digs k k out = digs (k / 10) (k / 10) (⟨#[UInt8.ofNat (48 + k % 10)]⟩ ++ out) := by
  obtain ⟨f, rfl⟩ : ∃ f, k = f + 1 := ⟨k - 1, by omega⟩
  conv => lhs; unfold digs
  rw [if_neg (by omega)]
  exact digs_more _ _ _ _ (by omega) (by omega)

theorem convByte (w : World) (r : Nat) (hr : r ≤ 9) : (convert 22 9 (.slice (some ⟨w.heap.size, 0, none⟩) 1 1)).run Try.prog (w.alloc (.cells #[.int .u8 (48 + (r : Int))] 5)) =
    .ok (.string ⟨#[UInt8.ofNat (48 + r)]⟩) (w.alloc (.cells #[.int .u8 (48 + (r : Int))] 5)) := by
  rw [run_convert_bytes_string _ _ _ _ _ _ _ Try.underlying22 Try.underlying5 Try.underlying9, run_bytesToString _ _ _ _ [48 + (r : Int)] ?_]
  · simp only [List.foldl_cons, List.foldl_nil]
    have : (48 + (r : Int)).toNat = 48 + r := by omega
    rw [this]; rfl
  · simp [loadCells, go_sem, Addr.add]

def MarkRel (k0 : Nat) (W : World) (kv o : Value) (wr : World) : Prop :=
  ∃ (k : Nat) (out : ByteArray), kv = .int .i64 k ∧ o = .string out ∧ out.size + k ≤ k0 ∧ Hid (digs k k out = digs k0 k0 ⟨#[]⟩) ∧ Hid (Below W.heap.size W wr)

set_option maxHeartbeats 2000000 in
set_option maxRecDepth 100000 in
theorem markText_c (k0 : Nat) (h1 : 1 ≤ k0) (h2 : k0 ≤ 1099511627776) (W : World) :
    Calls Try.prog 37 #[.int .i64 k0] W fun e W' => e = .returned (.string (mtext k0)) ∧ Below W.heap.size W W' := by
  have hp : (0 : Int) < k0 := by omega
  go_enter Try.func37, Try.ntmps37
  go_wp2
  go_loopw [0, 3] (fun kv o wr => MarkRel k0 W kv o wr) (fun kv _ _ => (intOf kv).toNat)
  case atStart => exact ⟨k0, ⟨#[]⟩, rfl, rfl, by show 0 + k0 ≤ k0; omega, rfl, Below.refl _ _⟩
  case round =>
    obtain ⟨k, out, rfl, rfl, hsz, HD, HB⟩ := hrel
    by_cases hk : 0 < k
    · have hk' : (0 : Int) < k := by omega
      have hkm : (k : Int) ≤ 1099511627776 := by omega
      obtain ⟨r, hr⟩ : ∃ r, r = k % 10 := ⟨_, rfl⟩
      obtain ⟨q, hq⟩ : ∃ q, q = k / 10 := ⟨_, rfl⟩
      have hr0 : (k : Int).tmod 10 = (r : Int) := by rw [hr]; rfl
      have hq0 : (k : Int).tdiv 10 = (q : Int) := by rw [hq]; rfl
      have hr9 : (r : Int) ≤ 9 := by omega
      have hqk : q < k := by omega
      have hqm : (q : Int) ≤ 1099511627776 := by omega
      have HSZ := Lib.hid hsz
      have HQK := Lib.hid hqk
      have HDS := Lib.hid (show digs k k out = digs q q (⟨#[UInt8.ofNat (48 + r)]⟩ ++ out) by rw [hr, hq]; exact digs_step out hk)
      have hos : out.size ≤ 1099511627776 := by omega
      have hcv := convByte wr r (by omega)
      clear hk hsz hr hq hqk
      go_wp2
      have he : (48 + UInt8.ofNat r) = UInt8.ofNat (48 + r) := by rw [UInt8.ofNat_add]; rfl
      rw [he]
      go_roundw
      case rel =>
        refine ⟨q, ⟨#[UInt8.ofNat (48 + r)]⟩ ++ out, rfl, rfl, ?_, ?_, below_next HB.out (below_box _ _)⟩
        · rw [ByteArray.size_append]
          have h5 := HSZ.out
          have h6 := HQK.out
          show 1 + out.size + q ≤ k0
          omega
        · show _ = _
          rw [← HDS.out]; exact HD.out
      case measure => have := HQK.out; simp [intOf]; omega
    · have hk0 : k = 0 := by omega
      subst hk0
      have hos : out.size ≤ 1099511627776 := by omega
      have HE := Lib.hid (show ⟨#[109]⟩ ++ out = mtext k0 by unfold mtext; rw [← HD.out, digs_zero])
      clear hsz hk
      go_wp2
      refine bodyPost_ret (v := .string (⟨#[109]⟩ ++ out)) (by simp [results, Try.f37, go_sem]) rfl ⟨by rw [HE.out], HB.out⟩

/-! ## Lists of nodes -/

/-- The nodes that a test writes. -/
def markN (n : Nat) : List Nd := (List.range n).map (fun i => ⟨mtext (1 + 3 * i), 1 + 3 * (i : Int) + 1, 1 + 3 * (i : Int) + 1 + 1⟩)
theorem markN_len (n : Nat) : (markN n).length = n := by simp [markN]
theorem markN_get {n i : Nat} (h : i < n) : (markN n)[i]? = some ⟨mtext (1 + 3 * i), 1 + 3 * (i : Int) + 1, 1 + 3 * (i : Int) + 1 + 1⟩ := by
  unfold markN; rw [List.getElem?_map, List.getElem?_range h]; rfl

def MarkedRel (len base : Nat) (v : Value) (W : World) (kv i : Value) (wr : World) : Prop :=
  ∃ (n : Nat) (zs : List Value), i = .int .i64 n ∧ kv = .int .i64 (1 + 3 * (n : Int)) ∧ n ≤ len ∧ zs.length = (len - n) * 3 ∧ wr.ownsRow base 62 3 v len (flatN ((markN len).take n) ++ zs) ∧ Hid (W.grownBy wr v.ownBlock)

theorem _root_.Go.World.grownBy.set {A B : World} {g : Nat} {n cap : Nat} (h : A.grownBy B (Value.slice (some ⟨g, 0, none⟩) n cap).ownBlock) (g' i : Nat) (hg : g' = g) (u : Value) : A.grownBy (B.setCell ⟨g', i, none⟩ u) (Value.slice (some ⟨g, 0, none⟩) n cap).ownBlock := by
  subst hg
  exact ⟨h.os, h.tape, h.output, by (have hz : (B.setCell ⟨g', i, none⟩ u).heap.size = B.heap.size := by simp [World.setCell]); (rw [hz]); exact h.size, fun k hk hr => (Below.heap_setCell _ _ _ _ (fun e => hr (by rw [e]; rfl))).trans (h.block k hk hr)⟩

theorem grown_next {A B C : World} {row : Option Nat} (h : A.grownBy B row) (k : Below B.heap.size B C) : A.grownBy C row :=
  ⟨k.os.trans h.os, k.tape.trans h.tape, k.output.trans h.output, Nat.le_trans h.size k.size, fun i hi hr => (k.block i (by have := h.size; omega)).trans (h.block i hi hr)⟩

set_option maxHeartbeats 2000000 in
set_option maxRecDepth 100000 in
theorem markNodeS_c (v : Value) (base len : Nat) (xs : List Value) (hl : len ≤ 2097152) (W : World) (h : W.ownsRow base 62 3 v len xs) :
    Calls Try.prog 15 #[v, .int .i64 1] W fun e W' => e = .returned (.int .i64 (1 + 3 * (len : Int))) ∧ W.grownBy W' v.ownBlock ∧ W'.ownsRow base 62 3 v len (flatN (markN len)) := by
  have HX := Lib.hid h
  have hxl := h.1
  have HMT := Lib.hid (fun k (h1 : 1 ≤ k) (h2 : k ≤ 1099511627776) w => markText_c k h1 h2 w)
  obtain ⟨a, cap, hv⟩ : ∃ a cap, v = .slice a len cap := by
    rcases own_cases h with ⟨h1, h2⟩ | ⟨g, cap, h1⟩
    · exact ⟨none, 0, by rw [h1, h2]⟩
    · exact ⟨_, cap, h1⟩
  have hl' : (len : Int) ≤ 2097152 := by omega
  clear h
  subst hv
  go_enter Try.func15, Try.ntmps15
  go_wp2
  go_loopw [1, 5] (fun kv i wr => MarkedRel len base (.slice a len cap) W kv i wr) (fun _ i _ => len - (intOf i).toNat)
  case atStart => exact ⟨0, xs, rfl, rfl, by omega, by rw [hxl]; rfl, HX.out, ⟨rfl, rfl, rfl, Nat.le_refl _, fun _ _ _ => rfl⟩⟩
  case round =>
    obtain ⟨i, zs, rfl, rfl, hi, hzl, hown, HG⟩ := hrel
    by_cases hlt : i < len
    · have hlt' : (i : Int) < len := by omega
      have hil : (i : Int) ≤ 2097152 := by omega
      have HLT := Lib.hid hlt
      have HZ := Lib.hid (And.intro hzl (show 3 ≤ zs.length by omega))
      rcases own_cases hown with ⟨_, h2⟩ | ⟨g, cap', h2⟩
      · omega
      simp at h2
      obtain ⟨rfl, rfl⟩ := h2
      have HO := Lib.hid hown
      have HM := Lib.hid (show Calls Try.prog 37 #[.int .i64 (1 + 3 * (i : Int))] wr (fun e W' => e = .returned (.string (mtext (1 + 3 * i))) ∧ Below wr.heap.size wr W') by have := HMT.out (1 + 3 * i) (by omega) (by omega) wr; rwa [show ((1 + 3 * i : Nat) : Int) = 1 + 3 * (i : Int) by push_cast; rfl] at this)
      clear hi hlt hzl hown
      go_wp2_with fail
      refine HM.out.mono ?_
      rintro e W2 ⟨rfl, hb2⟩
      have HO2 := Lib.hid (own_below HO.out hb2)
      have HG2 := Lib.hid (grown_next HG.out hb2)
      have hll : (flatN ((markN len).take i)).length = i * 3 := by rw [flatN_length, List.length_take, markN_len]; have := HLT.out; omega
      have cell : ∀ j, j < 3 → ∃ u, W2.cell? ⟨g, i * 3 + j, none⟩ = some u := by
        intro j hj
        have hx := HZ.out.1
        have hy := HLT.out
        rw [HO2.out.cellAt _ (by omega)]
        exact ⟨_, List.getElem?_eq_getElem (by rw [List.length_append, hll]; omega)⟩
      obtain ⟨u0, e0⟩ := cell 0 (by omega)
      replace e0 : W2.cell? ⟨g, i * 3, none⟩ = some u0 := e0
      obtain ⟨u1, e1⟩ := cell 1 (by omega)
      obtain ⟨u2, e2⟩ := cell 2 (by omega)
      have y0 := HO2.out.frozenAt (i * 3)
      have y1 := HO2.out.frozenAt (i * 3 + 1)
      have y2 := HO2.out.frozenAt (i * 3 + 2)
      generalize hmt : mtext (1 + 3 * i) = mt
      have HMTX := Lib.hid hmt
      clear cell hll hb2 hmt
      go_wp2
      have HS3 := stored3 HO2.out (i * 3) (.string mt) (.int .i64 (1 + 3 * (i : Int) + 1)) (.int .i64 (1 + 3 * (i : Int) + 1 + 1))
      rw [← HMTX.out, flatN_take_set (markN len) i _ zs (markN_get HLT.out) HZ.out.2] at HS3
      go_roundw
      case rel =>
        refine ⟨i + 1, zs.drop 3, by push_cast; rfl, by rw [show 1 + 3 * ((i + 1 : Nat) : Int) = 1 + 3 * (i : Int) + 1 + 1 + 1 by omega], by have := HLT.out; omega, by rw [List.length_drop]; have h1 := HZ.out.1; have h2 := HZ.out.2; have h3 := HLT.out; omega, ?_, ?_⟩
        · rw [← HMTX.out]; exact HS3
        · exact ((HG2.out.set _ _ rfl _).set _ _ rfl _).set _ _ rfl _
      case measure => have := HLT.out; simp [intOf]; omega
    · have hge : (len : Int) ≤ i := by omega
      have hie : i = len := by omega
      have hz0' : zs = [] := List.eq_nil_of_length_eq_zero (by omega)
      subst hz0'
      subst hie
      rw [List.append_nil, List.take_of_length_le (by rw [markN_len]; omega)] at hown
      clear hi hlt
      go_wp2
      refine bodyPost_ret (v := .int .i64 (1 + 3 * (i : Int))) (by simp [results, Try.f15, go_sem]) rfl ⟨rfl, HG.out, hown⟩


def HeldRel (len st : Nat) (W : World) (kv i : Value) (wr : World) : Prop :=
  ∃ n : Nat, i = .int .i64 n ∧ kv = .int .i64 (1 + (st : Int) * (n : Int)) ∧ n ≤ len ∧ Hid (Below W.heap.size W wr)

def markS (n : Nat) : List ByteArray := (List.range n).map (fun i => mtext (1 + i))
theorem markS_len (n : Nat) : (markS n).length = n := by simp [markS]
theorem markS_get {n i : Nat} (h : i < n) : (markS n)[i]? = some (mtext (1 + i)) := by
  unfold markS; rw [List.getElem?_map, List.getElem?_range h]; rfl

def MarkedSRel (len base : Nat) (v : Value) (W : World) (kv i : Value) (wr : World) : Prop :=
  ∃ (n : Nat) (zs : List Value), i = .int .i64 n ∧ kv = .int .i64 (1 + (n : Int)) ∧ n ≤ len ∧ zs.length = len - n ∧ wr.ownsRow base 9 1 v len (((markS len).take n).map Value.string ++ zs) ∧ Hid (W.grownBy wr v.ownBlock)

theorem take_set_one {α : Type} (l : List α) (i : Nat) (x : α) (zs : List α) (h : l.length = i) (hz : 1 ≤ zs.length) : (l ++ zs).set i x = (l ++ [x]) ++ zs.drop 1 := by
  match zs, hz with
  | a :: r, _ =>
    rw [List.set_append_right _ _ (by omega), h, Nat.sub_self]
    simp

def HeldSRel (len : Nat) (W : World) (kv i : Value) (wr : World) : Prop :=
  ∃ n : Nat, i = .int .i64 n ∧ kv = .int .i64 (1 + (n : Int)) ∧ n ≤ len ∧ Hid (Below W.heap.size W wr)

end Go.Proofs.Ytncceljffcjoiaa

/-
  WALKS: laws.markCommandS (from any number on), laws.heldCommandS.
-/
namespace Go.Proofs.Ytncceljffcjoiaa
open Go.RowKit
set_option linter.unusedVariables false

/-- The commands that a test writes. -/
def markCK (k0 n : Nat) : List Cmd := (List.range n).map (fun i => ⟨mtext (k0 + 5 * i), (k0 : Int) + 5 * (i : Int) + 1, (k0 : Int) + 5 * (i : Int) + 1 + 1, (k0 : Int) + 5 * (i : Int) + 1 + 1 + 1, (k0 : Int) + 5 * (i : Int) + 1 + 1 + 1 + 1⟩)
theorem markCK_len (k0 n : Nat) : (markCK k0 n).length = n := by simp [markCK]
theorem markCK_get {k0 n i : Nat} (h : i < n) : (markCK k0 n)[i]? = some ⟨mtext (k0 + 5 * i), (k0 : Int) + 5 * (i : Int) + 1, (k0 : Int) + 5 * (i : Int) + 1 + 1, (k0 : Int) + 5 * (i : Int) + 1 + 1 + 1, (k0 : Int) + 5 * (i : Int) + 1 + 1 + 1 + 1⟩ := by
  unfold markCK; rw [List.getElem?_map, List.getElem?_range h]; rfl

def MarkedCRel (k0 len base : Nat) (v : Value) (W : World) (kv i : Value) (wr : World) : Prop :=
  ∃ (n : Nat) (zs : List Value), i = .int .i64 n ∧ kv = .int .i64 ((k0 : Int) + 5 * (n : Int)) ∧ n ≤ len ∧ zs.length = (len - n) * 5 ∧ wr.ownsRow base 33 5 v len (flatC ((markCK k0 len).take n) ++ zs) ∧ Hid (W.grownBy wr v.ownBlock)

set_option maxHeartbeats 4000000 in
set_option maxRecDepth 100000 in
theorem markCommandS_c (v : Value) (base len k0 : Nat) (hk1 : 1 ≤ k0) (hk2 : k0 ≤ 1000000000) (xs : List Value) (hl : len ≤ 2097152) (W : World) (h : W.ownsRow base 33 5 v len xs) :
    Calls Try.prog 16 #[v, .int .i64 k0] W fun e W' => e = .returned (.int .i64 ((k0 : Int) + 5 * (len : Int))) ∧ W.grownBy W' v.ownBlock ∧ W'.ownsRow base 33 5 v len (flatC (markCK k0 len)) := by
  have HX := Lib.hid h
  have hxl := h.1
  have HMT := Lib.hid (fun k (h1 : 1 ≤ k) (h2 : k ≤ 1099511627776) w => markText_c k h1 h2 w)
  obtain ⟨a, cap, hv⟩ : ∃ a cap, v = .slice a len cap := by
    rcases own_cases h with ⟨h1, h2⟩ | ⟨g, cap, h1⟩
    · exact ⟨none, 0, by rw [h1, h2]⟩
    · exact ⟨_, cap, h1⟩
  have hl' : (len : Int) ≤ 2097152 := by omega
  have hk2' : (k0 : Int) ≤ 1000000000 := by omega
  have hk1' : (1 : Int) ≤ k0 := by omega
  clear h
  subst hv
  go_enter Try.func16, Try.ntmps16
  go_wp2
  go_loopw [1, 5] (fun kv i wr => MarkedCRel k0 len base (.slice a len cap) W kv i wr) (fun _ i _ => len - (intOf i).toNat)
  case atStart => exact ⟨0, xs, rfl, by simp, by omega, by rw [hxl]; rfl, HX.out, ⟨rfl, rfl, rfl, Nat.le_refl _, fun _ _ _ => rfl⟩⟩
  case round =>
    obtain ⟨i, zs, rfl, rfl, hi, hzl, hown, HG⟩ := hrel
    by_cases hlt : i < len
    · have hlt' : (i : Int) < len := by omega
      have hil : (i : Int) ≤ 2097152 := by omega
      have HLT := Lib.hid hlt
      have HZ := Lib.hid (And.intro hzl (show 5 ≤ zs.length by omega))
      rcases own_cases hown with ⟨_, h2⟩ | ⟨g, cap', h2⟩
      · omega
      simp at h2
      obtain ⟨rfl, rfl⟩ := h2
      have HO := Lib.hid hown
      have HM := Lib.hid (show Calls Try.prog 37 #[.int .i64 ((k0 : Int) + 5 * (i : Int))] wr (fun e W' => e = .returned (.string (mtext (k0 + 5 * i))) ∧ Below wr.heap.size wr W') by have := HMT.out (k0 + 5 * i) (by omega) (by omega) wr; rwa [show ((k0 + 5 * i : Nat) : Int) = (k0 : Int) + 5 * (i : Int) by push_cast; rfl] at this)
      clear hi hlt hzl hown
      go_wp2_with fail
      refine HM.out.mono ?_
      rintro e W2 ⟨rfl, hb2⟩
      have HO2 := Lib.hid (own_below HO.out hb2)
      have HG2 := Lib.hid (grown_next HG.out hb2)
      have hll : (flatC ((markCK k0 len).take i)).length = i * 5 := by rw [flatC_length, List.length_take, markCK_len]; have := HLT.out; omega
      have cell : ∀ j, j < 5 → ∃ u, W2.cell? ⟨g, i * 5 + j, none⟩ = some u := by
        intro j hj
        have hx := HZ.out.1
        have hy := HLT.out
        rw [HO2.out.cellAt _ (by omega)]
        exact ⟨_, List.getElem?_eq_getElem (by rw [List.length_append, hll]; omega)⟩
      obtain ⟨u0, e0⟩ := cell 0 (by omega)
      replace e0 : W2.cell? ⟨g, i * 5, none⟩ = some u0 := e0
      obtain ⟨u1, e1⟩ := cell 1 (by omega)
      obtain ⟨u2, e2⟩ := cell 2 (by omega)
      obtain ⟨u3, e3⟩ := cell 3 (by omega)
      obtain ⟨u4, e4⟩ := cell 4 (by omega)
      have y0 := HO2.out.frozenAt (i * 5)
      have y1 := HO2.out.frozenAt (i * 5 + 1)
      have y2 := HO2.out.frozenAt (i * 5 + 2)
      have y3 := HO2.out.frozenAt (i * 5 + 3)
      have y4 := HO2.out.frozenAt (i * 5 + 4)
      generalize hmt : mtext (k0 + 5 * i) = mt
      have HMTX := Lib.hid hmt
      clear cell hll hb2 hmt
      go_wp2
      have HS3 := stored5 HO2.out (i * 5) (.string mt) (.int .i64 ((k0 : Int) + 5 * (i : Int) + 1)) (.int .i64 ((k0 : Int) + 5 * (i : Int) + 1 + 1)) (.int .i64 ((k0 : Int) + 5 * (i : Int) + 1 + 1 + 1)) (.int .i64 ((k0 : Int) + 5 * (i : Int) + 1 + 1 + 1 + 1))
      rw [← HMTX.out, flatC_take_set (markCK k0 len) i _ zs (markCK_get HLT.out) HZ.out.2] at HS3
      go_roundw
      case rel =>
        refine ⟨i + 1, zs.drop 5, by push_cast; rfl, by rw [show (k0 : Int) + 5 * ((i + 1 : Nat) : Int) = (k0 : Int) + 5 * (i : Int) + 1 + 1 + 1 + 1 + 1 by omega], by have := HLT.out; omega, by rw [List.length_drop]; have h1 := HZ.out.1; have h2 := HZ.out.2; have h3 := HLT.out; omega, ?_, ?_⟩
        · rw [← HMTX.out]; exact HS3
        · exact ((((HG2.out.set _ _ rfl _).set _ _ rfl _).set _ _ rfl _).set _ _ rfl _).set _ _ rfl _
      case measure => have := HLT.out; simp [intOf]; omega
    · have hge : (len : Int) ≤ i := by omega
      have hie : i = len := by omega
      have hz0' : zs = [] := List.eq_nil_of_length_eq_zero (by omega)
      subst hz0'
      subst hie
      rw [List.append_nil, List.take_of_length_le (by rw [markCK_len]; omega)] at hown
      clear hi hlt
      go_wp2
      refine bodyPost_ret (v := .int .i64 ((k0 : Int) + 5 * (i : Int))) (by simp [results, Try.f16, go_sem]) rfl ⟨rfl, HG.out, hown⟩

def HeldCRel (len : Nat) (W : World) (kv i : Value) (wr : World) : Prop :=
  ∃ n : Nat, i = .int .i64 n ∧ kv = .int .i64 (1 + 5 * (n : Int)) ∧ n ≤ len ∧ Hid (Below W.heap.size W wr)

set_option maxHeartbeats 4000000 in
set_option maxRecDepth 100000 in
theorem heldCommandS_c (a : Option Addr) (len cap : Nat) (hl : len ≤ 2097152) (W : World) (hN : CmdsAt W a len (markCK 1 len)) :
    Calls Try.prog 17 #[.slice a len cap, .int .i64 1] W fun e W' => e = .returned (.int .i64 (1 + 5 * (len : Int))) ∧ Below W.heap.size W W' := by
  have HN := Lib.hid hN
  have HMT := Lib.hid (fun k (h1 : 1 ≤ k) (h2 : k ≤ 1099511627776) w => markText_c k h1 h2 w)
  have hl' : (len : Int) ≤ 2097152 := by omega
  clear hN
  go_enter Try.func17, Try.ntmps17
  go_wp2
  go_loopw [1, 5] (fun kv i wr => HeldCRel len W kv i wr) (fun _ i _ => len - (intOf i).toNat)
  case atStart => exact ⟨0, rfl, rfl, by omega, Below.refl _ _⟩
  case round =>
    obtain ⟨i, rfl, rfl, hi, HB⟩ := hrel
    by_cases hlt : i < len
    · obtain ⟨b, off, n, rfl, hn, c0, c1, c2, c3, c4⟩ := (HN.out.keep HB.out).node hlt
      have hlt' : (i : Int) < len := by omega
      have hil : (i : Int) ≤ 2097152 := by omega
      have HLT := Lib.hid hlt
      rw [markCK_get hlt] at hn
      obtain rfl := Option.some.inj hn
      have HM := Lib.hid (show Calls Try.prog 37 #[.int .i64 (1 + 5 * (i : Int))] wr.drew (fun e W' => e = .returned (.string (mtext (1 + 5 * i))) ∧ Below wr.drew.heap.size wr.drew W') by have := HMT.out (1 + 5 * i) (by omega) (by omega) wr.drew; rwa [show ((1 + 5 * i : Nat) : Int) = 1 + 5 * (i : Int) by push_cast; rfl] at this)
      rw [show (((1 : Nat) : Int)) = 1 from rfl] at c1 c2 c3 c4
      simp only at c0 c1 c2 c3 c4
      generalize hmt : mtext (1 + 5 * i) = mt at HM c0
      have HS0 := Lib.hid (show wr.drew.cell? ⟨b, off + i * 5, none⟩ = some (.string mt) ∧ wr.drew.cell? ⟨b, off + i * 5 + 1, none⟩ = some (.int .i64 (1 + 5 * (i : Int) + 1)) ∧ wr.drew.cell? ⟨b, off + i * 5 + 2, none⟩ = some (.int .i64 (1 + 5 * (i : Int) + 1 + 1)) ∧ wr.drew.cell? ⟨b, off + i * 5 + 3, none⟩ = some (.int .i64 (1 + 5 * (i : Int) + 1 + 1 + 1)) ∧ wr.drew.cell? ⟨b, off + i * 5 + 4, none⟩ = some (.int .i64 (1 + 5 * (i : Int) + 1 + 1 + 1 + 1)) ∧ Below W.heap.size W wr.drew from ⟨c0, c1, c2, c3, c4, HB.out.drew⟩)
      have HKP := Lib.hid (fun (u1 u2 : World) (h : u1.cell? ⟨b, off + i * 5, none⟩ = some (.string mt) ∧ u1.cell? ⟨b, off + i * 5 + 1, none⟩ = some (.int .i64 (1 + 5 * (i : Int) + 1)) ∧ u1.cell? ⟨b, off + i * 5 + 2, none⟩ = some (.int .i64 (1 + 5 * (i : Int) + 1 + 1)) ∧ u1.cell? ⟨b, off + i * 5 + 3, none⟩ = some (.int .i64 (1 + 5 * (i : Int) + 1 + 1 + 1)) ∧ u1.cell? ⟨b, off + i * 5 + 4, none⟩ = some (.int .i64 (1 + 5 * (i : Int) + 1 + 1 + 1 + 1)) ∧ Below W.heap.size W u1) (hb : Below u1.heap.size u1 u2) => show u2.cell? ⟨b, off + i * 5, none⟩ = some (.string mt) ∧ u2.cell? ⟨b, off + i * 5 + 1, none⟩ = some (.int .i64 (1 + 5 * (i : Int) + 1)) ∧ u2.cell? ⟨b, off + i * 5 + 2, none⟩ = some (.int .i64 (1 + 5 * (i : Int) + 1 + 1)) ∧ u2.cell? ⟨b, off + i * 5 + 3, none⟩ = some (.int .i64 (1 + 5 * (i : Int) + 1 + 1 + 1)) ∧ u2.cell? ⟨b, off + i * 5 + 4, none⟩ = some (.int .i64 (1 + 5 * (i : Int) + 1 + 1 + 1 + 1)) ∧ Below W.heap.size W u2 from ⟨cell_kept hb h.1, cell_kept hb h.2.1, cell_kept hb h.2.2.1, cell_kept hb h.2.2.2.1, cell_kept hb h.2.2.2.2.1, below_next h.2.2.2.2.2 hb⟩)
      clear hlt hi hn hmt c0 c1 c2 c3 c4
      go_upto_region 4 with (fail)
      go_region_held3 (fun w' => w'.cell? ⟨b, off + i * 5, none⟩ = some (.string mt) ∧ w'.cell? ⟨b, off + i * 5 + 1, none⟩ = some (.int .i64 (1 + 5 * (i : Int) + 1)) ∧ w'.cell? ⟨b, off + i * 5 + 2, none⟩ = some (.int .i64 (1 + 5 * (i : Int) + 1 + 1)) ∧ w'.cell? ⟨b, off + i * 5 + 3, none⟩ = some (.int .i64 (1 + 5 * (i : Int) + 1 + 1 + 1)) ∧ w'.cell? ⟨b, off + i * 5 + 4, none⟩ = some (.int .i64 (1 + 5 * (i : Int) + 1 + 1 + 1 + 1)) ∧ Below W.heap.size W w')
        (first | exact HS0.out | exact HKP.out _ _ HS0.out hb7)
        (first | (go_at_call 37; (with_reducible refine (HM.out).mono ?_); rintro e W7 ⟨rfl, hb7⟩))
      rename_i hS
      obtain ⟨v0, v1, v2, v3, v4, hB7⟩ := hS
      have H7 := Lib.hid hB7
      clear hB7
      go_wp2
      go_roundw
      case rel => exact ⟨i + 1, by push_cast; rfl, by rw [show 1 + 5 * ((i + 1 : Nat) : Int) = 1 + 5 * (i : Int) + 1 + 1 + 1 + 1 + 1 by omega], by have := HLT.out; omega, H7.out⟩
      case measure => have := HLT.out; simp [intOf]; omega
    · have hge : (len : Int) ≤ i := by omega
      have hie : i = len := by omega
      subst hie
      clear hi hlt
      go_wp2
      refine bodyPost_ret (v := .int .i64 (1 + 5 * (i : Int))) (by simp [results, Try.f17, go_sem]) rfl ⟨rfl, HB.out⟩

end Go.Proofs.Ytncceljffcjoiaa
