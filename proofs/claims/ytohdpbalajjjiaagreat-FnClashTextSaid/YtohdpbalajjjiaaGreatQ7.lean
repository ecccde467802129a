/-
  Texts of this proof, one behind the other: Mr, Ms, Pi, Tf, Me, Qr, Tr, Wa, Of, Ip.
-/
import Derived.Deep.RegionHeld3
import Derived.Deep.Cut
import Derived.Sort.QuietIn
import Derived.RangeFuncCalls
import Derived.RangeFuncBox
import Derived.Sort.CutIn
import Derived.Laws.Cover1
import Derived.Test.YtohdpbalajjjiaaGreatMi
import Derived.Test.YtohdpbalajjjiaaGreatQ3
import Derived.Test.YtohdpbalajjjiaaGreatPa
import Derived.Test.YtohdpbalajjjiaaGreatSn
import Derived.Test.YtohdpbalajjjiaaGreatSa
import Derived.Test.YtohdpbalajjjiaaGreatBn
import Derived.Test.YtohdpbalajjjiaaGreatTa
import Derived.Test.YtohdpbalajjjiaaGreatWd
import Derived.Test.YtohdpbalajjjiaaGreatPd
import Derived.Test.YtohdpbalajjjiaaGreatQ6
import Derived.Test.YtohdpbalajjjiaaGreatTv
/-
  WALKS: moves of the model: spec.l13Remove, RemoveAll, l13Copy, CopyAll, MoveAll.
-/
namespace Go.Proofs.YtohdpbalajjjiaaGreat
open Go.RowKit
set_option linter.unusedVariables false

def remAcc (ns : List Nd) (p : ByteArray) (n : Nat) : List Cmd := ((ns.drop n).filter (fun x => subB p x.p)).reverse.map (fun n => ⟨n.p, n.k, n.v, 0, 0⟩)

theorem remAcc_yes {ns : List Nd} {p : ByteArray} {n : Nat} {x : Nd} (hn : ns[n]? = some x) (h : subB p x.p = true) : remAcc ns p n = remAcc ns p (n + 1) ++ [⟨x.p, x.k, x.v, 0, 0⟩] := by
  have hlt := (List.getElem?_eq_some_iff.1 hn).1
  unfold remAcc
  rw [List.drop_eq_getElem_cons hlt, (List.getElem?_eq_some_iff.1 hn).2]
  simp [h]

theorem remAcc_no {ns : List Nd} {p : ByteArray} {n : Nat} {x : Nd} (hn : ns[n]? = some x) (h : subB p x.p = false) : remAcc ns p n = remAcc ns p (n + 1) := by
  have hlt := (List.getElem?_eq_some_iff.1 hn).1
  unfold remAcc
  rw [List.drop_eq_getElem_cons hlt, (List.getElem?_eq_some_iff.1 hn).2]
  simp [h]

theorem remAcc_len (ns : List Nd) (p : ByteArray) (n : Nat) : (remAcc ns p n).length ≤ ns.length := by
  unfold remAcc
  rw [List.length_map, List.length_reverse]
  exact Nat.le_trans (List.length_filter_le _ _) (by rw [List.length_drop]; omega)

theorem sub_eq {p q : ByteArray} (h : q = p) : subB p q = true := by unfold subB; simp [h]
theorem sub_ne {ns : List Nd} {p : ByteArray} (hv : validT ns = true) (hp : vpB p = true) {n : Nd} (hn : n ∈ ns) (h : n.p ≠ p) : subB p n.p = l1uB p n.p := by
  have := underB_eq p n.p
  rw [show Pm.valid p.data.toList = true from hp, show Pm.valid n.p.data.toList = true from (good_path hv hn).2] at this
  unfold subB
  rw [decide_eq_false h, Bool.false_or]
  exact this

def RemRel (ns : List Nd) (p : ByteArray) (W : World) (o i : Value) (wr : World) : Prop :=
  ∃ (n : Nat) (z : Int), i = .int .i64 z ∧ z = (n : Int) - 1 ∧ n ≤ ns.length ∧ wr.ownsRow W.heap.size 33 5 o (remAcc ns p n).length (flatC (remAcc ns p n)) ∧ Hid (Below W.heap.size W wr)

/-- Commands that the call has made, and whether it succeeded. -/
def MovePost (r : List Cmd × Bool) (W : World) (e : Ending) (w' : World) : Prop :=
  ∃ sl, e = .returned (.tuple #[sl, .bool r.2]) ∧ w'.ownsRow W.heap.size 33 5 sl r.1.length (flatC r.1) ∧ Below W.heap.size W w'

theorem move_end {r : List Cmd × Bool} {W w' : World} {sl : Value} {out : List Cmd} {b : Bool} (h : r = (out, b)) (ho : w'.ownsRow W.heap.size 33 5 sl out.length (flatC out)) (hB : Below W.heap.size W w') : MovePost r W (.returned (.tuple #[sl, .bool b])) w' := by
  subst h
  exact ⟨sl, rfl, ho, hB⟩

theorem move_none {r : List Cmd × Bool} {W w : World} (h : r = ([], false)) (hB : Below W.heap.size W w) : MovePost r W (.returned (.tuple #[.slice (some ⟨w.heap.size, 0, none⟩) 0 0, .bool false])) (w.alloc (.cells #[] 33)) :=
  move_end h (World.ownsRow_lit (e := 33) (size := 5) w #[] 0 hB.size (by simp [maxLen]) rfl) (below_next hB (below_box _ _))

theorem removeAll_no {ns : List Nd} {p : ByteArray} (h : validT ns = false ∨ ¬ 1 ≤ depB p ∨ (getT ns p).1 = 0) : removeAll ns p = ([], false) := by
  unfold removeAll
  rw [if_neg]
  simp only [Bool.and_eq_true, decide_eq_true_eq]
  rintro ⟨⟨h1, h2⟩, h3⟩
  rcases h with h | h | h
  · rw [h] at h1; cases h1
  · exact h h2
  · exact h3 h

end Go.Proofs.YtohdpbalajjjiaaGreat

/-
  WALKS: moves of the model, second part: spec.l13Copy, CopyAll, MoveAll.
-/
namespace Go.Proofs.YtohdpbalajjjiaaGreat
open Go.RowKit
set_option linter.unusedVariables false

def cpAcc (ns : List Nd) (a b : ByteArray) (i : Nat) : List Cmd := copyL (ns.take i) a b

theorem cpAcc_yes {ns : List Nd} {a b : ByteArray} {n : Nat} {x : Nd} (hn : ns[n]? = some x) (h : subB a x.p = true) : cpAcc ns a b (n + 1) = cpAcc ns a b n ++ [⟨cpB a b x.p, 0, 0, x.k, x.v⟩] := by
  unfold cpAcc copyL
  rw [List.take_add_one, hn]
  simp [h]

theorem cpAcc_no {ns : List Nd} {a b : ByteArray} {n : Nat} {x : Nd} (hn : ns[n]? = some x) (h : subB a x.p = false) : cpAcc ns a b (n + 1) = cpAcc ns a b n := by
  unfold cpAcc copyL
  rw [List.take_add_one, hn]
  simp [h]

theorem cpAcc_len (ns : List Nd) (a b : ByteArray) (i : Nat) : (cpAcc ns a b i).length ≤ ns.length := by
  unfold cpAcc copyL
  rw [List.length_map]
  exact Nat.le_trans (List.length_filter_le _ _) (by rw [List.length_take]; omega)

/-- A path at or under another one is no shorter. -/
theorem sub_size {p q : ByteArray} (h : subB p q = true) : p.size ≤ q.size := by
  unfold subB at h
  rw [Bool.or_eq_true, decide_eq_true_eq] at h
  rcases h with rfl | h
  · exact Nat.le_refl _
  · obtain ⟨w, t, _, _, _, rfl, rfl⟩ := und_words h
    exact pB_size_le _ _

def CopyRel (ns : List Nd) (p b : ByteArray) (W : World) (o i : Value) (wr : World) : Prop :=
  ∃ n : Nat, i = .int .i64 n ∧ n ≤ ns.length ∧ wr.ownsRow W.heap.size 33 5 o (cpAcc ns p b n).length (flatC (cpAcc ns p b n)) ∧ Hid (Below W.heap.size W wr)

theorem vpSize {p : ByteArray} (h : vpB p = true) : p.size ≤ 8 := by
  obtain ⟨w, hw, rfl⟩ := vpB_word h
  show (Pm.pathOf w).length ≤ 8
  unfold Pm.pathOf
  split
  · simp
  · rw [Pm.flat_length]; have := hw.1; omega

theorem cpB_size (a b q : ByteArray) : (cpB a b q).size ≤ b.size + q.size := by
  unfold cpB
  rw [ByteArray.size_append, ByteArray.size_extract]
  omega

theorem copyL_short {ns : List Nd} {p b : ByteArray} (hv : validT ns = true) (hb : vpB b = true) : ShortC 16 (copyL ns p b) := by
  intro c hc
  obtain ⟨n, hn, rfl⟩ := List.mem_map.1 hc
  have h1 := vpSize hb
  have h2 := vpSize (good_path hv (List.mem_filter.1 hn).1).2
  have h3 := cpB_size p b n.p
  show (cpB p b n.p).size ≤ 16
  omega

theorem remL_short {m : Nat} {ns : List Nd} {p : ByteArray} (hs : Short m ns) : ShortC m (remL ns p) := by
  intro c hc
  obtain ⟨n, hn, rfl⟩ := List.mem_map.1 hc
  exact hs n (List.mem_filter.1 (List.mem_reverse.1 hn)).1

theorem moveL_short {m : Nat} {ns : List Nd} {p b : ByteArray} (hm : 16 ≤ m) (hv : validT ns = true) (hb : vpB b = true) (hs : Short m ns) : ShortC m (copyL ns p b ++ remL ns p) := by
  intro c hc
  rcases List.mem_append.1 hc with hc | hc
  · exact (copyL_short hv hb).mono hm c hc
  · exact remL_short hs c hc

theorem copyAll_no {ns : List Nd} {a b : ByteArray} (h : copyOk ns a b = false) : copyAll ns a b = ([], false) := by unfold copyAll; rw [if_neg (by rw [h]; decide)]
theorem copyAll_yes {ns : List Nd} {a b : ByteArray} (h : copyOk ns a b = true) : copyAll ns a b = (copyL ns a b, true) := by unfold copyAll; rw [if_pos h]
theorem moveAll_no {ns : List Nd} {a b : ByteArray} (h : copyOk ns a b = false) : moveAll ns a b = ([], false) := by unfold moveAll; rw [if_neg (by rw [h]; decide)]
theorem moveAll_yes {ns : List Nd} {a b : ByteArray} (h : copyOk ns a b = true) : moveAll ns a b = (copyL ns a b ++ remL ns a, true) := by unfold moveAll; rw [if_pos h]
theorem copyOk_not {ns : List Nd} {a b : ByteArray} (h : validT ns = true → 1 ≤ depB a → 1 ≤ depB b → (getT ns a).1 ≠ 0 → a ≠ b → undB a b = false → fitsL ns (copyL ns a b) = true → False) : copyOk ns a b = false := by
  rw [Bool.eq_false_iff]
  intro hc
  obtain ⟨h1, h2, h3, h4, h5, h6, h7⟩ := copyOk_iff.1 hc
  exact h h1 h2 h3 h4 h5 h6 h7

end Go.Proofs.YtohdpbalajjjiaaGreat

/-
  WALKS: impl.PathParent, impl.PathUnder.
-/
namespace Go.Proofs.YtohdpbalajjjiaaGreat
open Go.RowKit

set_option maxHeartbeats 400000 in
set_option maxRecDepth 100000 in
theorem slHasPrefix_c (s p : ByteArray) (w : World) :
    Calls Tryz.prog 97 #[.string s, .string p] w fun e w' => e = .returned (.bool (pfxB s p)) ∧ w' = w := by
  by_cases h : p.size ≤ s.size
  · obtain ⟨b, hb⟩ : ∃ b, ((s.extract 0 p.size).toList == p.toList) = b := ⟨_, rfl⟩
    have hv : Hid (pfxB s p = b) := by show _ = _; unfold pfxB; rw [decide_eq_true h, hb]; rfl
    have h1 : (p.size : Int) ≤ s.size := by omega
    have h2 : (0 : Int) ≤ p.size := by omega
    go_enter Tryz.func97, Tryz.ntmps97
    go_wp2
    go_ret
    exact ⟨ret_bool hv.out.symm, rfl⟩
  · have hv : Hid (pfxB s p = false) := by show _ = _; unfold pfxB; rw [decide_eq_false h]; rfl
    have h1 : (s.size : Int) < p.size := by omega
    clear h
    go_enter Tryz.func97, Tryz.ntmps97
    go_wp2
    go_ret
    exact ⟨ret_bool hv.out.symm, rfl⟩

set_option maxHeartbeats 400000 in
set_option maxRecDepth 100000 in
theorem hasPrefix_c (s p : ByteArray) (w : World) :
    Calls Tryz.prog 91 #[.string s, .string p] w fun e w' => e = .returned (.bool (pfxB s p)) ∧ w' = w := by
  have hc := fun w => slHasPrefix_c s p w
  go_enter Tryz.func91, Tryz.ntmps91
  go_wp2_with (go_at_call 97; refine (hc _).mono ?_; rintro e w' ⟨rfl, rfl⟩)
  go_ret
  exact ⟨rfl, rfl⟩

set_option maxHeartbeats 400000 in
set_option maxRecDepth 100000 in
/-- impl.PathUnder, at every two texts of modest length. -/
theorem pathUnder_c (a b : ByteArray) (ha : a.size ≤ 2097152) (hb : b.size ≤ 2097152) (w : World) :
    Calls Tryz.prog 74 #[.string a, .string b] w fun e w' => e = .returned (.bool (underB a b)) ∧ Below w.heap.size w w' := by
  obtain ⟨da, hda⟩ : ∃ d, Pm.depth a.data.toList = d := ⟨_, rfl⟩
  obtain ⟨db, hdb⟩ : ∃ d, Pm.depth b.data.toList = d := ⟨_, rfl⟩
  have hu := Pm.under_impl a.data.toList b.data.toList
  rw [hda, hdb, ← pfxB_eq] at hu
  have hv : Hid (underB a b = (decide (0 ≤ da) && (decide (da < db) && pfxB b a))) := hu.symm
  have ca : ∀ w, Calls Tryz.prog 35 #[.string a] w fun e w' => e = .returned (.int .i64 da) ∧ Below w.heap.size w w' := fun w => by rw [← hda]; exact pathDepth_c a (by omega) w
  have cb : ∀ w, Calls Tryz.prog 35 #[.string b] w fun e w' => e = .returned (.int .i64 db) ∧ Below w.heap.size w w' := fun w => by rw [← hdb]; exact pathDepth_c b (by omega) w
  have CA := Lib.hid ca
  have CB := Lib.hid cb
  have CP := Lib.hid (fun w => hasPrefix_c b a w)
  clear ca cb hu hda hdb
  by_cases h0 : 0 ≤ da
  · by_cases h1 : da < db
    · have hv2 : Hid (underB a b = pfxB b a) := by show _ = _; rw [hv.out, decide_eq_true h0, decide_eq_true h1]; rfl
      go_enter Tryz.func74, Tryz.ntmps74
      go_wp2_with fail
      refine (CA.out _).mono ?_; rintro e w1 ⟨rfl, hb1⟩
      go_wp2_with fail
      refine (CB.out _).mono ?_; rintro e w2 ⟨rfl, hb2⟩
      go_wp2_with (go_at_call 91; refine (CP.out _).mono ?_; rintro e w' ⟨rfl, rfl⟩)
      go_ret
      exact ⟨ret_bool hv2.out.symm, hb1.trans (hb2.mono hb1.size)⟩
    · have hv2 : Hid (underB a b = false) := by show _ = _; rw [hv.out, decide_eq_true h0, decide_eq_false h1]; rfl
      have h1' : db ≤ da := by omega
      clear h1
      go_enter Tryz.func74, Tryz.ntmps74
      go_wp2_with fail
      refine (CA.out _).mono ?_; rintro e w1 ⟨rfl, hb1⟩
      go_wp2_with fail
      refine (CB.out _).mono ?_; rintro e w2 ⟨rfl, hb2⟩
      go_wp2
      go_ret
      exact ⟨ret_bool hv2.out.symm, hb1.trans (hb2.mono hb1.size)⟩
  · have hv2 : Hid (underB a b = false) := by show _ = _; rw [hv.out, decide_eq_false h0]; rfl
    have h1' : da < 0 := by omega
    clear h0
    go_enter Tryz.func74, Tryz.ntmps74
    go_wp2_with fail
    refine (CA.out _).mono ?_; rintro e w1 ⟨rfl, hb1⟩
    go_wp2_with fail
    refine (CB.out _).mono ?_; rintro e w2 ⟨rfl, hb2⟩
    go_wp2
    go_ret
    exact ⟨ret_bool hv2.out.symm, hb1.trans (hb2.mono hb1.size)⟩

end Go.Proofs.YtohdpbalajjjiaaGreat

/-
  TEXTS: what stands behind a path that is a text's beginning (strings.TrimPrefix).
-/
namespace Go.Proofs.YtohdpbalajjjiaaGreat
open Go.RowKit
set_option linter.unusedVariables false

set_option maxHeartbeats 400000 in
set_option maxRecDepth 100000 in
theorem hasPrefix_yes (s p : ByteArray) (h : p.size ≤ s.size) (he : ((s.extract 0 p.size).toList == p.toList) = true) (w : World) :
    Calls Tryz.prog 97 #[.string s, .string p] w fun e w' => e = .returned (.bool true) ∧ w' = w := by
  have h1 : (p.size : Int) ≤ s.size := by omega
  clear h
  go_enter Tryz.func97, Tryz.ntmps97
  go_wp2
  go_ret
  exact ⟨rfl, rfl⟩

/-- A path at or under another one, which is not the root, begins with it. -/
theorem sub_prefix {p q : ByteArray} (hr : p ≠ rootB) (h : subB p q = true) : p.size ≤ q.size ∧ ((q.extract 0 p.size).toList == p.toList) = true := by
  unfold subB at h
  rw [Bool.or_eq_true, decide_eq_true_eq] at h
  rcases h with rfl | h
  · refine ⟨Nat.le_refl _, ?_⟩
    rw [ByteArray.extract_zero_size]
    simp
  · have := underB_eq p q
    have hu : underB p q = true := h
    rw [hu] at this
    have h3 : l1uB p q = true := by
      cases hh : l1uB p q with
      | true => rfl
      | false => rw [hh] at this; simp at this
    unfold l1uB at h3
    rw [Bool.or_eq_true, Bool.and_eq_true, Bool.and_eq_true, decide_eq_true_eq] at h3
    rcases h3 with ⟨h3, _⟩ | ⟨h3, h4⟩
    · refine absurd ?_ hr
      rw [beq_iff_eq, Lib.toList_data] at h3
      rw [← Lib.mk_data p, h3]; rfl
    · exact ⟨Nat.le_of_lt h3, h4⟩

end Go.Proofs.YtohdpbalajjjiaaGreat

/-
  PLAIN MATHEMATICS OF MOVES, fourth part: the program's way: a making of nodes, and its way back.
-/
namespace Go.Proofs.YtohdpbalajjjiaaGreat
set_option linter.unusedVariables false

/-- impl.makingOf. -/
def makeL (ns : List Nd) (a b : ByteArray) : List Cmd := if validT ns = true ∧ a ≠ rootB then copyL ns a b else []

theorem makeL_yes {ns : List Nd} {a : ByteArray} (b : ByteArray) (h : validT ns = true) (hr : a ≠ rootB) : makeL ns a b = copyL ns a b := if_pos ⟨h, hr⟩
theorem makeL_no {ns : List Nd} {a : ByteArray} (b : ByteArray) (h : validT ns = false ∨ a = rootB) : makeL ns a b = [] := by
  unfold makeL
  rw [if_neg]
  rintro ⟨h1, h2⟩
  rcases h with h | h
  · rw [h] at h1; cases h1
  · exact h2 h

/-- A tree that has a node at or under a path has one at the path. -/
theorem sub_here {ns : List Nd} {p : ByteArray} (hv : validT ns = true) (hr : p ≠ rootB) {n : Nd} (hn : n ∈ ns) (h : subB p n.p = true) : 1 ≤ depB p ∧ (getT ns p).1 ≠ 0 := by
  unfold subB at h
  rw [Bool.or_eq_true, decide_eq_true_eq] at h
  rcases h with rfl | h
  · refine ⟨(good_path hv hn).1, ?_⟩
    rw [getT_mem hv hn]
    exact (((validT_iff ns).1 hv).2.1 n hn).2.2.1
  · have hp := (und_depth h).1
    have hd : 1 ≤ depB p := by
      obtain ⟨w, hw, rfl⟩ := vpB_word hp
      rw [depB_pB hw]
      cases w with
      | nil => exact absurd rfl hr
      | cons => rw [List.length_cons]; omega
    refine ⟨hd, ?_⟩
    have hm : treeUnder ns p ≠ [] := by
      unfold treeUnder
      rw [hv, hp, if_pos (show (true && true) = true from rfl)]
      intro e
      have := List.map_eq_nil_iff.1 e
      have h2 : n ∈ ns.filter (fun n => undB p n.p) := List.mem_filter.2 ⟨hn, h⟩
      rw [this] at h2
      cases h2
    have := under_dir hm
    rw [treeGet_eq hv hp] at this
    rw [this]
    decide

theorem cpB_here {p q : ByteArray} (h1 : p.size ≤ q.size) (h2 : ((q.extract 0 p.size).toList == p.toList) = true) : cpB p p q = q := by
  have e : q.extract 0 p.size = p := by
    rw [beq_iff_eq, Lib.toList_data, Lib.toList_data] at h2
    rw [← Lib.mk_data (q.extract 0 p.size), h2, Lib.mk_data]
  unfold cpB
  conv => lhs; arg 1; rw [← e]
  rw [ByteArray.extract_append_extract]
  simp [Nat.max_eq_right h1]

theorem cpB_self (a b : ByteArray) : cpB a b a = b := by
  unfold cpB
  rw [ByteArray.extract_eq_empty_iff.2 (by omega)]
  simp

theorem copyL_valid {ns : List Nd} {p : ByteArray} (hv : validT ns = true) (hr : p ≠ rootB) : validL (copyL ns p p) = true := by
  refine (validL_iff _).2 ⟨fun c hc => ?_, by rw [copyL_len]; have := filter_len10 hv (fun n => subB p n.p); omega⟩
  obtain ⟨n, hn, rfl⟩ := List.mem_map.1 hc
  obtain ⟨hn, hs⟩ := List.mem_filter.1 hn
  obtain ⟨h1, h2⟩ := sub_prefix hr hs
  refine (validC_iff _).2 ⟨?_, (show validB 0 0 = true by decide), ?_, ?_⟩
  · show 1 ≤ depB (cpB p p n.p)
    rw [cpB_here h1 h2]
    exact (good_path hv hn).1
  · exact (((validT_iff ns).1 hv).2.1 n hn).2.1
  · intro e
    exact (((validT_iff ns).1 hv).2.1 n hn).2.2.1 (congrArg Prod.fst e).symm

theorem copyL_back {ns : List Nd} {p : ByteArray} (hv : validT ns = true) (hr : p ≠ rootB) : undoL (copyL ns p p) = remL ns p := by
  have hval := copyL_valid hv hr
  rw [undoL_ok hval]
  unfold copyL remL
  rw [← List.map_reverse, List.map_map]
  refine List.map_congr_left (fun n hn => ?_)
  obtain ⟨hm, hs⟩ := List.mem_filter.1 (List.mem_reverse.1 hn)
  obtain ⟨h1, h2⟩ := sub_prefix hr hs
  have hc : validC ⟨cpB p p n.p, 0, 0, n.k, n.v⟩ = true := ((validL_iff _).1 hval).1 _ (List.mem_map.2 ⟨n, List.mem_filter.2 ⟨hm, hs⟩, rfl⟩)
  show undoC ⟨cpB p p n.p, 0, 0, n.k, n.v⟩ = _
  unfold undoC
  rw [if_pos hc, cpB_here h1 h2]

theorem undoL_nil : undoL [] = [] := rfl

/-- RemoveAll, the program's way. -/
theorem make_remove (ns : List Nd) (p : ByteArray) : removeAll ns p = (undoL (makeL ns p p), decide (0 < (undoL (makeL ns p p)).length)) := by
  by_cases hv : validT ns = true
  · by_cases hr : p = rootB
    · rw [makeL_no p (.inr hr), undoL_nil, removeAll_no (.inr (.inl (by rw [hr, depB_rootB]; omega)))]
      rfl
    · rw [makeL_yes p hv hr, copyL_back hv hr]
      by_cases hg : 1 ≤ depB p ∧ (getT ns p).1 ≠ 0
      · rw [removeAll_ok hv hg.1 hg.2, decide_eq_true]
        rw [remL_len, sub_count1 hv hg.1 hg.2]
        omega
      · have he : remL ns p = [] := by
          have : ns.filter (fun n => subB p n.p) = [] := by
            rw [List.filter_eq_nil_iff]
            intro n hn hs
            exact hg (sub_here hv hr hn hs)
          unfold remL
          rw [this]; rfl
        rw [he, removeAll_no]
        · rfl
        · by_cases hd : 1 ≤ depB p
          · exact .inr (.inr (Decidable.byContradiction fun h => hg ⟨hd, h⟩))
          · exact .inr (.inl hd)
  · have hv' : validT ns = false := by simpa using hv
    rw [makeL_no p (.inl hv'), undoL_nil, removeAll_no (.inl hv')]
    rfl

/-- CopyAll, the program's way. -/
theorem make_copy {ns : List Nd} {a b : ByteArray} : copyOk ns a b = true ↔ a ≠ b ∧ undB a b = false ∧ makeL ns a b ≠ [] ∧ fitsL ns (makeL ns a b) = true := by
  constructor
  · intro h
    obtain ⟨h1, h2, h3, h4, h5, h6, h7⟩ := copyOk_iff.1 h
    have hr := dep_root h2
    refine ⟨h5, h6, ?_, ?_⟩
    · rw [makeL_yes b h1 hr]
      obtain ⟨n, hn, hnp⟩ := node_at hr h4
      intro e
      have : (⟨cpB a b n.p, 0, 0, n.k, n.v⟩ : Cmd) ∈ copyL ns a b := List.mem_map.2 ⟨n, List.mem_filter.2 ⟨hn, sub_eq hnp⟩, rfl⟩
      rw [e] at this
      cases this
    · rw [makeL_yes b h1 hr]; exact h7
  · rintro ⟨h5, h6, h8, h7⟩
    have hvr : validT ns = true ∧ a ≠ rootB := Decidable.byContradiction fun h => h8 (if_neg h)
    obtain ⟨h1, hr⟩ := hvr
    rw [makeL_yes b h1 hr] at h7 h8
    obtain ⟨c, hc⟩ := List.exists_mem_of_ne_nil _ h8
    obtain ⟨n, hn, -⟩ := List.mem_map.1 hc
    obtain ⟨hn, hs⟩ := List.mem_filter.1 hn
    obtain ⟨h2, h4⟩ := sub_here h1 hr hn hs
    obtain ⟨m, hm, hmp⟩ := node_at hr h4
    have hc2 : (⟨cpB a b m.p, 0, 0, m.k, m.v⟩ : Cmd) ∈ copyL ns a b := List.mem_map.2 ⟨m, List.mem_filter.2 ⟨hm, sub_eq hmp⟩, rfl⟩
    have h3 := ((validC_iff _).1 (((validL_iff _).1 (fitsL_iff.1 h7).2.1).1 _ hc2)).1
    have h3' : 1 ≤ depB (cpB a b m.p) := h3
    rw [hmp, cpB_self] at h3'
    exact copyOk_iff.2 ⟨h1, h2, h3', h4, h5, h6, h7⟩

theorem makeL_len {ns : List Nd} (a b : ByteArray) : (makeL ns a b).length ≤ 10 := by
  unfold makeL
  split
  · rename_i h
    rw [copyL_len]; exact filter_len10 h.1 _
  · exact Nat.zero_le _

/-- A copy's paths are hardly longer than its place. -/
theorem makeL_short {ns : List Nd} (a b : ByteArray) : ShortC (b.size + 8) (makeL ns a b) := by
  intro c hc
  unfold makeL at hc
  split at hc
  · rename_i h
    obtain ⟨n, hn, rfl⟩ := List.mem_map.1 hc
    have h2 := vpSize (good_path h.1 (List.mem_filter.1 hn).1).2
    have h3 := cpB_size a b n.p
    show (cpB a b n.p).size ≤ _
    omega
  · cases hc

end Go.Proofs.YtohdpbalajjjiaaGreat

/-
  A REGION THAT DRAWS ITS ORDER AND ONLY READS, within a round of a loop over a function: the law of the kit for activations, carried into a round.
-/
namespace Go.Proofs.YtohdpbalajjjiaaGreat
open Go.RowKit

theorem wpOpIn_round {F : Fence} {n : Nat} {P : Program} {ops : Array Oper} {Q : Exit → Act → World → Prop} {i : Nat} {K K' : Act → World → Prop} {a : Act} {w : World} (l : Nat) (hro : F.round = none)
    (hd : ∀ o, ops[i]? = some o → ∀ c, o.op ≠ .defer c) (hK : ∀ a w, K a w → K' a w) (h : wpOpIn F n P ops Q i K a w) : wpOpIn (F.inRound l) n P ops Q i K' a w := by
  have h := wpOpIn_mono hK h
  unfold wpOpIn at h ⊢
  cases ho : ops[i]? with
  | none => simp only [ho] at h ⊢; exact h
  | some o =>
    simp only [ho] at h ⊢
    split
    · rename_i hw
      rw [if_pos hw] at h
      refine ⟨h.1, ?_⟩
      have h2 := h.2
      rw [hro, Oper.semAt_none] at h2
      rw [Oper.semAt_eq _ _ _ (hd o ho)]
      exact h2
    · rename_i hw
      rw [if_neg hw] at h
      exact h

theorem wpAnyIn_round {F : Fence} {n : Nat} {P : Program} {ops : Array Oper} {Q : Exit → Act → World → Prop} {md : Region.Mode} (l : Nat) (hro : F.round = none)
    (hd : ∀ (i : Nat) (o : Oper), ops[i]? = some o → ∀ c, o.op ≠ .defer c) : ∀ (fuel : Nat) (listed : Array Bool) (a : Act) (w : World), wpAnyIn F n P md ops Q fuel listed a w → wpAnyIn (F.inRound l) n P md ops Q fuel listed a w
  | 0, _, _, _, h => h
  | fuel + 1, _, _, _, h => ⟨h.1, fun i hi => wpOpIn_round l hro (hd i) (fun a w => wpAnyIn_round l hro hd fuel _ a w) (h.2 i hi)⟩

def noDefer (o : Oper) : Bool := match o.op with
  | .defer _ => false
  | _ => true

theorem quiet_round {F : Fence} {n : Nat} {P : Program} {id : Nat} {Q : Exit → Act → World → Prop} {a : Act} {w : World} {ops : List Oper} (l : Nat) (hro : F.round = none) (hm : P.follows .mixedOrders = true) (hB : Region.lexB .any ops.toArray = true)
    (hd : ops.all noDefer = true)
    (h : wpQuietIn F n P ops.toArray (fun w' => ∃ n, w' = w.drewN n) (fun a' => ∀ w', (∃ n, w' = w.drewN n) → Q .normal a' w') ops a) : (Code.region id ops.toArray true).wpIn (F.inRound l) n P Q a w := by
  simp only [Region.lexB, Bool.and_eq_true] at hB
  have hd' : ∀ (i : Nat) (o : Oper), ops.toArray[i]? = some o → ∀ c, o.op ≠ .defer c := by
    intro i o ho c e
    have hm : o ∈ ops := by
      have := List.mem_of_getElem? (by simpa using ho : ops[i]? = some o)
      exact this
    have := List.all_eq_true.1 hd o hm
    unfold noDefer at this
    rw [e] at this
    cases this
  refine wpIn_region_any hm (wpAnyIn_round l hro hd' _ _ _ _ ?_)
  refine wpAnyIn_of_quiet (C := fun w' => ∃ n, w' = w.drewN n) (Q := fun a' => ∀ w', (∃ n, w' = w.drewN n) → Q .normal a' w') hro (fun _ w' hw' h => h w' hw') _ _ _ _ ⟨1, rfl⟩ ?_
  have := wpAnyQIn_lex (F := F) (n := n) (C := fun w' => ∃ n, w' = w.drewN n) (md := .any) hB.1 ops 0 (Array.replicate ops.toArray.size false) a (by simp) (by simpa using hB.2) h
  simpa using this

/-- A region that draws its order, within a round: walked as outside of it. -/
theorem region_round {F : Fence} {n : Nat} {P : Program} {id : Nat} {Q : Exit → Act → World → Prop} {a : Act} {w : World} {ops : List Oper} (l : Nat) (hro : F.round = none) (hm : P.follows .mixedOrders = true) (hd : ops.all noDefer = true)
    (h : wpAnyIn F n P .any ops.toArray Q ops.toArray.size (Array.replicate ops.toArray.size false) a w.drew) : (Code.region id ops.toArray true).wpIn (F.inRound l) n P Q a w := by
  have hd' : ∀ (i : Nat) (o : Oper), ops.toArray[i]? = some o → ∀ c, o.op ≠ .defer c := by
    intro i o ho c e
    have hm : o ∈ ops := by
      have := List.mem_of_getElem? (by simpa using ho : ops[i]? = some o)
      exact this
    have := List.all_eq_true.1 hd o hm
    unfold noDefer at this
    rw [e] at this
    cases this
  exact wpIn_region_any hm (wpAnyIn_round l hro hd' _ _ _ _ h)

end Go.Proofs.YtohdpbalajjjiaaGreat

/-
  TREES IN MEMORY: places, each with its content and the places behind it.
-/
namespace Go.Proofs.YtohdpbalajjjiaaGreat
open Go.RowKit

def ptrTo (o : Option Nat) : Value := .pointer (o.map fun b => ⟨b, 0, none⟩)

/-- The cells of the place of a word. -/
def plc (A : List UInt8 → Option Nat) (F : List UInt8 → Int × Int) (w : List UInt8) : Array Value :=
  #[.int .i64 (F w).1, .int .i64 (F w).2, ptrTo (A (w ++ [97])), ptrTo (A (w ++ [98])), ptrTo (A (w ++ [99])), ptrTo (A (w ++ [100]))]

/-- What a call that walks and extends the places keeps: all other blocks. -/
structure Off (A : List UInt8 → Option Nat) (n : Nat) (W W' : World) : Prop where
  os : W'.os = W.os
  tape : W'.tape = W.tape
  output : W'.output = W.output
  size : W.heap.size ≤ W'.heap.size
  block : ∀ k, k < n → (∀ w, A w ≠ some k) → W'.heap[k]? = W.heap[k]?

theorem Off.below {A : List UInt8 → Option Nat} {n m : Nat} {W W' : World} (h : Off A n W W') (hm : m ≤ n) (hA : ∀ w b, A w = some b → m ≤ b) : Below m W W' :=
  ⟨h.os, h.tape, h.output, h.size, fun k hk => h.block k (by omega) fun w e => by have := hA w k e; omega⟩

theorem Off.of_below {A : List UInt8 → Option Nat} {n : Nat} {W W' : World} (h : Below n W W') : Off A n W W' :=
  ⟨h.os, h.tape, h.output, h.size, fun k hk _ => h.block k hk⟩

theorem Off.trans {A : List UInt8 → Option Nat} {n : Nat} {W W1 W2 : World} (h : Off A n W W1) (k : Off A n W1 W2) : Off A n W W2 :=
  ⟨k.os.trans h.os, k.tape.trans h.tape, k.output.trans h.output, Nat.le_trans h.size k.size, fun j hj hA => (k.block j hj hA).trans (h.block j hj hA)⟩

theorem Off.set {A : List UInt8 → Option Nat} {n : Nat} {W W' : World} (h : Off A n W W') {p : Addr} (hp : n ≤ p.block ∨ ∃ w, A w = some p.block) (v : Value) : Off A n W (W'.setCell p v) :=
  h.trans ⟨rfl, rfl, rfl, by simp [World.setCell], fun k hk hA => Below.heap_setCell _ _ _ _ (by
    rintro rfl
    rcases hp with hp | ⟨w, hw⟩
    · omega
    · exact hA w hw)⟩

theorem Off.new {A : List UInt8 → Option Nat} {n : Nat} {W W' : World} (h : Off A n W W') (hn : n ≤ W'.heap.size) (o : Obj) : Off A n W (W'.alloc o) :=
  h.trans ⟨rfl, rfl, rfl, by simp, fun k hk _ => Below.heap_alloc _ _ _ (by omega)⟩

/-- The places that a call leaves: those that there were, and new ones. -/
def Ext (A A' : List UInt8 → Option Nat) (n : Nat) : Prop := ∀ w b, (A w = some b → A' w = some b) ∧ (A' w = some b → A w = some b ∨ n ≤ b)

theorem Ext.refl (A : List UInt8 → Option Nat) (n : Nat) : Ext A A n := fun _ _ => ⟨id, .inl⟩

theorem setCell_heap {W : World} {b : Nat} {c : Array Value} {t : TypeId} (h : W.heap[b]? = some (.cells c t)) (i : Nat) (v : Value) :
    (W.setCell ⟨b, i, none⟩ v).heap[b]? = some (.cells (c.setIfInBounds i v) t) := by
  simp only [World.setCell, Array.getElem?_modify, if_pos, h, Option.map_some]
  rfl

def addA (A : List UInt8 → Option Nat) (w : List UInt8) (b : Nat) : List UInt8 → Option Nat := fun u => if u = w then some b else A u

theorem app_one_inj {a b : List UInt8} {x y : UInt8} (h : a ++ [x] = b ++ [y]) : a = b ∧ x = y := by
  have := List.append_inj' h rfl
  exact ⟨this.1, by simpa using this.2⟩

theorem addA_kids {A : List UInt8 → Option Nat} {F : List UInt8 → Int × Int} {w u : List UInt8} {c : UInt8} {n : Nat} (h : u ≠ w) : plc (addA A (w ++ [c]) n) F u = plc A F u := by
  have : ∀ x, addA A (w ++ [c]) n (u ++ [x]) = A (u ++ [x]) := fun x => by
    unfold addA; exact if_neg fun e => h (app_one_inj e).1
  unfold plc; rw [this, this, this, this]

theorem ext_add {A : List UInt8 → Option Nat} {w : List UInt8} {n b : Nat} (hn : A w = none) (hb : n ≤ b) : Ext A (addA A w b) n := fun u c => by
  unfold addA
  refine ⟨fun h => ?_, fun h => ?_⟩
  · rw [if_neg (fun e => by rw [e, hn] at h; cases h)]; exact h
  · split at h
    · right; rw [← Option.some.inj h]; exact hb
    · exact .inl h

theorem Ext.trans {A B C : List UInt8 → Option Nat} {n : Nat} (h : Ext A B n) (k : Ext B C n) : Ext A C n := fun w b =>
  ⟨fun e => (k w b).1 ((h w b).1 e), fun e => by
    rcases (k w b).2 e with e | e
    · exact (h w b).2 e
    · exact .inr e⟩

end Go.Proofs.YtohdpbalajjjiaaGreat

/-
  WALKS: the place of a path (impl.place.at).
-/
namespace Go.Proofs.YtohdpbalajjjiaaGreat
open Go.RowKit Go.Shelf

attribute [local go_sem] Oper.semAt_some

/-- The letters among the parts. -/
def wd (pre : List ByteArray) : List UInt8 := pre.flatMap (fun x => if Pm.nameBB x = true then x.data.toList else [])

theorem wd_app (pre : List ByteArray) (x : ByteArray) : wd (pre ++ [x]) = wd pre ++ (if Pm.nameBB x = true then x.data.toList else []) := by
  unfold wd; rw [List.flatMap_append]; simp

theorem name_letter {x : ByteArray} (h : Pm.nameBB x = true) : ∃ c i, x = ⟨#[c]⟩ ∧ i < 4 ∧ c = UInt8.ofNat (97 + i) := by
  obtain ⟨⟨l⟩⟩ := x
  match l, h with
  | [c], h =>
    have h' : Pm.letter c = true := h
    have := (letter_iff c).1 h'
    simp only [letters, List.mem_cons, List.not_mem_nil, or_false] at this
    rcases this with rfl | rfl | rfl | rfl
    · exact ⟨97, 0, rfl, by omega, rfl⟩
    · exact ⟨98, 1, rfl, by omega, rfl⟩
    · exact ⟨99, 2, rfl, by omega, rfl⟩
    · exact ⟨100, 3, rfl, by omega, rfl⟩
  | [], h => cases h
  | _ :: _ :: _, h => cases h

theorem wd_len (pre : List ByteArray) : (wd pre).length ≤ pre.length := by
  induction pre with
  | nil => simp [wd]
  | cons x r ih =>
    have : wd (x :: r) = (if Pm.nameBB x = true then x.data.toList else []) ++ wd r := rfl
    rw [this, List.length_append, List.length_cons]
    split
    · rename_i h
      obtain ⟨c, i, rfl, _⟩ := name_letter h
      simp; omega
    · simp; omega

theorem parts_word {v : List UInt8} (h : Wrd v) : wd (Pm.partsB (pB v)) = v ∧ (Pm.partsB (pB v)).length ≤ 4 := by
  by_cases hn : v = []
  · subst hn; decide
  · have hp : Pm.partsB (pB v) = v.map fun x => ⟨#[x]⟩ := by
      unfold Pm.partsB
      rw [pB_list, Pm.parts_path v hn h.2, List.map_map]
      rfl
    rw [hp]
    refine ⟨?_, by rw [List.length_map]; exact h.1⟩
    have hv := h.2
    clear hn hp h
    induction v with
    | nil => rfl
    | cons c r ih =>
      have hc : Pm.nameBB ⟨#[c]⟩ = true := hv c (by simp)
      have : wd ((c :: r).map fun x => (⟨#[x]⟩ : ByteArray)) = (if Pm.nameBB ⟨#[c]⟩ = true then [c] else []) ++ wd (r.map fun x => ⟨#[x]⟩) := rfl
      rw [this, if_pos hc, ih (fun x hx => hv x (List.mem_cons_of_mem _ hx))]
      rfl

theorem pB_size {v : List UInt8} (h : Wrd v) : (pB v).size ≤ 8 := by
  show (Pm.pathOf v).length ≤ 8
  unfold Pm.pathOf
  split
  · simp
  · rw [Pm.flat_length]; have := h.1; omega

theorem size_setC (W : World) (a : Addr) (v : Value) : (W.setCell a v).heap.size = W.heap.size := by simp [World.setCell]

theorem Boxed.past {W : World} {B : Nat} {t : TypeId} {v : Value} (h : Boxed W B t v) {b : Nat} (hb : B ≠ b) (i : Nat) (u : Value) : Boxed (W.setCell ⟨b, i, none⟩ u) B t v := by
  unfold Boxed at h ⊢
  rw [Below.heap_setCell _ _ _ _ hb]; exact h

end Go.Proofs.YtohdpbalajjjiaaGreat

/-
  WALKS: impl.treeOf.
-/
namespace Go.Proofs.YtohdpbalajjjiaaGreat
open Go.RowKit
set_option linter.unusedVariables false

def lastB (a : List Nd) : ByteArray := match a.getLast? with
  | none => rootB
  | some m => m.p

theorem next_iff (a : List Nd) (n : Nd) : Next a n ↔ vpB n.p = true ∧ ltB (lastB a) n.p = true ∧ validB n.k n.v = true ∧ n.k ≠ 0 ∧ (getT a (parB n.p)).1 = 1 := Iff.rfl

/-- A node that does not fit. -/
theorem not_next {ns : List Nd} {i : Nat} {n : Nd} (hn : ns[i]? = some n) (hl : ns.length ≤ 10) (hv : validT (ns.take i) = true) (h : ¬ Next (ns.take i) n) : validT ns = false := by
  rw [Bool.eq_false_iff]
  intro hc
  have h2 := valid_pre hc (i + 1)
  have hi := (List.getElem?_eq_some_iff.1 hn).1
  rw [List.take_add_one, hn] at h2
  exact h ((valid_step (by rw [List.length_take]; omega) hv).1 h2)

theorem take_next {ns : List Nd} {i : Nat} {n : Nd} (hn : ns[i]? = some n) : ns.take (i + 1) = ns.take i ++ [n] := by
  rw [List.take_add_one, hn]; rfl

theorem lastB_app (a : List Nd) (n : Nd) : lastB (a ++ [n]) = n.p := by
  unfold lastB; rw [List.getLast?_concat]

theorem leq_of (a b : ByteArray) : (Op.bytesLess a.toList b.toList || a.toList == b.toList) = !ltB b a := by
  cases h : ltB b a with
  | true =>
    have h1 : Op.bytesLess a.toList b.toList = false := ltB_asymm h
    have h2 : (a.toList == b.toList) = false := toList_ne (ltB_ne h).symm
    rw [h1, h2]; rfl
  | false =>
    by_cases h1 : ltB a b = true
    · rw [show Op.bytesLess a.toList b.toList = true from h1]; rfl
    · have e := ltB_tri (show ltB a b = false by simpa using h1) h
      subst e; simp

theorem above_last {a : List Nd} {p : ByteArray} (h : validT a = true) (h2 : ltB (lastB a) p = true) : ltB rootB p = true := by
  obtain ⟨ha, hg, _⟩ := (validT_iff a).1 h
  unfold lastB at h2
  cases hl : a.getLast? with
  | none => rw [hl] at h2; exact h2
  | some l =>
    rw [hl] at h2
    exact ltB_trans (root_lt (hg l (List.mem_of_getLast? hl)).1) h2

theorem box3_cell {w w' : World} {cs : Array Value} {t : TypeId} (hb : Below (w.alloc (.cells cs t)).heap.size (w.alloc (.cells cs t)) w') (i : Nat) : w'.cell? ⟨w.heap.size, i, none⟩ = cs[i]? := by
  rw [hb.cell (p := ⟨w.heap.size, i, none⟩) (by simp)]
  rw [World.cell?_alloc_new]

theorem off_cell {A : List UInt8 → Option Nat} {W W' : World} (h : Off A W.heap.size W W') {B : Nat} (hB : B < W.heap.size) (hA : ∀ u c, A u = some c → c < B) (i : Nat) : W'.cell? ⟨B, i, none⟩ = W.cell? ⟨B, i, none⟩ := by
  have := h.block B hB (fun u e => by have := hA u B e; omega)
  unfold World.cell?
  rw [this]

theorem ext_from {A A' : List UInt8 → Option Nat} {n m : Nat} (h : Ext A A' n) (hm : m ≤ n) (hA : ∀ u c, A u = some c → m ≤ c) : ∀ u c, A' u = some c → m ≤ c := fun u c e => by
  rcases (h u c).2 e with q | q
  · exact hA u c q
  · omega

/-- A box that no place is in. -/
def Away (A : List UInt8 → Option Nat) (B : Nat) : Prop := ∀ u, A u ≠ some B

theorem ext_box {A A' : List UInt8 → Option Nat} {n B : Nat} (h : Ext A A' n) (hB : B < n) (hA : ∀ u c, A u = some c → c < B) : Away A' B := fun u e => by
  rcases (h u B).2 e with q | q
  · have := hA u B q; omega
  · omega

theorem ext_away {A A' : List UInt8 → Option Nat} {n B : Nat} (h : Ext A A' n) (hB : B < n) (hA : Away A B) : Away A' B := fun u e => by
  rcases (h u B).2 e with q | q
  · exact hA u q
  · omega

theorem off_cell2 {A : List UInt8 → Option Nat} {W W' : World} (h : Off A W.heap.size W W') {B : Nat} (hB : B < W.heap.size) (hA : Away A B) (i : Nat) : W'.cell? ⟨B, i, none⟩ = W.cell? ⟨B, i, none⟩ := by
  have := h.block B hB hA
  unfold World.cell?
  rw [this]

theorem past2 {W : World} {B b : Nat} (h : B ≠ b) {x y : Value} {i : Nat} : ((W.setCell ⟨b, 0, none⟩ x).setCell ⟨b, 1, none⟩ y).cell? ⟨B, i, none⟩ = W.cell? ⟨B, i, none⟩ := by
  rw [World.cell?_setCell_other _ _ _ _ (fun e => h (congrArg Addr.block e).symm), World.cell?_setCell_other _ _ _ _ (fun e => h (congrArg Addr.block e).symm)]

end Go.Proofs.YtohdpbalajjjiaaGreat

/-
  WALKS: impl.TreeValid, impl.TreeGet.
-/
namespace Go.Proofs.YtohdpbalajjjiaaGreat
open Go.RowKit
theorem treeGet_bad {ns : List Nd} {p : ByteArray} (h : validT ns = false ∨ vpB p = false) : treeGet ns p = (0, 0) := by
  unfold treeGet
  rcases h with h | h <;> simp [h]

end Go.Proofs.YtohdpbalajjjiaaGreat
