/-
  Texts of this proof, one behind the other: Mr, Ms, Pi, Tf, Me.
-/
import Derived.Deep.RegionHeld3
import Derived.Deep.Cut
import Derived.Test.YtdkpabnpobpdhaaMi
import Derived.Test.YtdkpabnpobpdhaaQ2
import Derived.Test.YtdkpabnpobpdhaaPa
import Derived.Test.YtdkpabnpobpdhaaSn
import Derived.Test.YtdkpabnpobpdhaaSa
/-
  WALKS: moves of the model: spec.l13Remove, RemoveAll, l13Copy, CopyAll, MoveAll.
-/
namespace Go.Proofs.Ytdkpabnpobpdhaa
open Go.RowKit
set_option linter.unusedVariables false

def remAcc (ns : List Nd) (p : ByteArray) (n : Nat) : List Cmd := ((ns.drop n).filter (fun x => subB p x.p)).reverse.map (fun n => ⟨n.p, n.k, n.v, 0, 0⟩)

theorem remAcc_yes {ns : List Nd} {p : ByteArray} {n : Nat} {x : Nd} (hn : ns[n]? = some x) (h : subB p x.p = true) : remAcc ns p n = remAcc ns p (n + 1) ++ [⟨x.p, x.k, x.v, 0, 0⟩] := by
  have hlt := (List.getElem?_eq_some_iff.1 hn).1
  unfold remAcc
  rw [List.drop_eq_getElem_cons hlt, (List.getElem?_eq_some_iff.1 hn).2]
  simp [h]

theorem remAcc_no {ns : List Nd} {p : ByteArray} {n : Nat} {x : Nd} (hn : ns[n]? = some x) (h : subB p x.p = false) : remAcc ns p n = remAcc ns p (n + 1) := by
  have hlt := (List.getElem?_eq_some_iff.1 hn).1
  unfold remAcc
  rw [List.drop_eq_getElem_cons hlt, (List.getElem?_eq_some_iff.1 hn).2]
  simp [h]

theorem remAcc_len (ns : List Nd) (p : ByteArray) (n : Nat) : (remAcc ns p n).length ≤ ns.length := by
  unfold remAcc
  rw [List.length_map, List.length_reverse]
  exact Nat.le_trans (List.length_filter_le _ _) (by rw [List.length_drop]; omega)

theorem sub_eq {p q : ByteArray} (h : q = p) : subB p q = true := by unfold subB; simp [h]
theorem sub_ne {ns : List Nd} {p : ByteArray} (hv : validT ns = true) (hp : vpB p = true) {n : Nd} (hn : n ∈ ns) (h : n.p ≠ p) : subB p n.p = l1uB p n.p := by
  have := underB_eq p n.p
  rw [show Pm.valid p.data.toList = true from hp, show Pm.valid n.p.data.toList = true from (good_path hv hn).2] at this
  unfold subB
  rw [decide_eq_false h, Bool.false_or]
  exact this

def RemRel (ns : List Nd) (p : ByteArray) (W : World) (o i : Value) (wr : World) : Prop :=
  ∃ (n : Nat) (z : Int), i = .int .i64 z ∧ z = (n : Int) - 1 ∧ n ≤ ns.length ∧ wr.ownsRow W.heap.size 26 5 o (remAcc ns p n).length (flatC (remAcc ns p n)) ∧ Hid (Below W.heap.size W wr)

/-- Commands that the call has made, and whether it succeeded. -/
def MovePost (r : List Cmd × Bool) (W : World) (e : Ending) (w' : World) : Prop :=
  ∃ sl, e = .returned (.tuple #[sl, .bool r.2]) ∧ w'.ownsRow W.heap.size 26 5 sl r.1.length (flatC r.1) ∧ Below W.heap.size W w'

theorem move_end {r : List Cmd × Bool} {W w' : World} {sl : Value} {out : List Cmd} {b : Bool} (h : r = (out, b)) (ho : w'.ownsRow W.heap.size 26 5 sl out.length (flatC out)) (hB : Below W.heap.size W w') : MovePost r W (.returned (.tuple #[sl, .bool b])) w' := by
  subst h
  exact ⟨sl, rfl, ho, hB⟩

theorem move_none {r : List Cmd × Bool} {W w : World} (h : r = ([], false)) (hB : Below W.heap.size W w) : MovePost r W (.returned (.tuple #[.slice (some ⟨w.heap.size, 0, none⟩) 0 0, .bool false])) (w.alloc (.cells #[] 26)) :=
  move_end h (World.ownsRow_lit (e := 26) (size := 5) w #[] 0 hB.size (by simp [maxLen]) rfl) (below_next hB (below_box _ _))

theorem removeAll_no {ns : List Nd} {p : ByteArray} (h : validT ns = false ∨ ¬ 1 ≤ depB p ∨ (getT ns p).1 = 0) : removeAll ns p = ([], false) := by
  unfold removeAll
  rw [if_neg]
  simp only [Bool.and_eq_true, decide_eq_true_eq]
  rintro ⟨⟨h1, h2⟩, h3⟩
  rcases h with h | h | h
  · rw [h] at h1; cases h1
  · exact h h2
  · exact h3 h

end Go.Proofs.Ytdkpabnpobpdhaa

/-
  WALKS: moves of the model, second part: spec.l13Copy, CopyAll, MoveAll.
-/
namespace Go.Proofs.Ytdkpabnpobpdhaa
open Go.RowKit
set_option linter.unusedVariables false

def cpAcc (ns : List Nd) (a b : ByteArray) (i : Nat) : List Cmd := copyL (ns.take i) a b

theorem cpAcc_yes {ns : List Nd} {a b : ByteArray} {n : Nat} {x : Nd} (hn : ns[n]? = some x) (h : subB a x.p = true) : cpAcc ns a b (n + 1) = cpAcc ns a b n ++ [⟨cpB a b x.p, 0, 0, x.k, x.v⟩] := by
  unfold cpAcc copyL
  rw [List.take_add_one, hn]
  simp [h]

theorem cpAcc_no {ns : List Nd} {a b : ByteArray} {n : Nat} {x : Nd} (hn : ns[n]? = some x) (h : subB a x.p = false) : cpAcc ns a b (n + 1) = cpAcc ns a b n := by
  unfold cpAcc copyL
  rw [List.take_add_one, hn]
  simp [h]

theorem cpAcc_len (ns : List Nd) (a b : ByteArray) (i : Nat) : (cpAcc ns a b i).length ≤ ns.length := by
  unfold cpAcc copyL
  rw [List.length_map]
  exact Nat.le_trans (List.length_filter_le _ _) (by rw [List.length_take]; omega)

/-- A path at or under another one is no shorter. -/
theorem sub_size {p q : ByteArray} (h : subB p q = true) : p.size ≤ q.size := by
  unfold subB at h
  rw [Bool.or_eq_true, decide_eq_true_eq] at h
  rcases h with rfl | h
  · exact Nat.le_refl _
  · obtain ⟨w, t, _, _, _, rfl, rfl⟩ := und_words h
    exact pB_size_le _ _

def CopyRel (ns : List Nd) (p b : ByteArray) (W : World) (o i : Value) (wr : World) : Prop :=
  ∃ n : Nat, i = .int .i64 n ∧ n ≤ ns.length ∧ wr.ownsRow W.heap.size 26 5 o (cpAcc ns p b n).length (flatC (cpAcc ns p b n)) ∧ Hid (Below W.heap.size W wr)

theorem vpSize {p : ByteArray} (h : vpB p = true) : p.size ≤ 8 := by
  obtain ⟨w, hw, rfl⟩ := vpB_word h
  show (Pm.pathOf w).length ≤ 8
  unfold Pm.pathOf
  split
  · simp
  · rw [Pm.flat_length]; have := hw.1; omega

theorem cpB_size (a b q : ByteArray) : (cpB a b q).size ≤ b.size + q.size := by
  unfold cpB
  rw [ByteArray.size_append, ByteArray.size_extract]
  omega

theorem copyL_short {ns : List Nd} {p b : ByteArray} (hv : validT ns = true) (hb : vpB b = true) : ShortC 16 (copyL ns p b) := by
  intro c hc
  obtain ⟨n, hn, rfl⟩ := List.mem_map.1 hc
  have h1 := vpSize hb
  have h2 := vpSize (good_path hv (List.mem_filter.1 hn).1).2
  have h3 := cpB_size p b n.p
  show (cpB p b n.p).size ≤ 16
  omega

theorem remL_short {m : Nat} {ns : List Nd} {p : ByteArray} (hs : Short m ns) : ShortC m (remL ns p) := by
  intro c hc
  obtain ⟨n, hn, rfl⟩ := List.mem_map.1 hc
  exact hs n (List.mem_filter.1 (List.mem_reverse.1 hn)).1

theorem moveL_short {m : Nat} {ns : List Nd} {p b : ByteArray} (hm : 16 ≤ m) (hv : validT ns = true) (hb : vpB b = true) (hs : Short m ns) : ShortC m (copyL ns p b ++ remL ns p) := by
  intro c hc
  rcases List.mem_append.1 hc with hc | hc
  · exact (copyL_short hv hb).mono hm c hc
  · exact remL_short hs c hc

theorem copyAll_no {ns : List Nd} {a b : ByteArray} (h : copyOk ns a b = false) : copyAll ns a b = ([], false) := by unfold copyAll; rw [if_neg (by rw [h]; decide)]
theorem copyAll_yes {ns : List Nd} {a b : ByteArray} (h : copyOk ns a b = true) : copyAll ns a b = (copyL ns a b, true) := by unfold copyAll; rw [if_pos h]
theorem moveAll_no {ns : List Nd} {a b : ByteArray} (h : copyOk ns a b = false) : moveAll ns a b = ([], false) := by unfold moveAll; rw [if_neg (by rw [h]; decide)]
theorem moveAll_yes {ns : List Nd} {a b : ByteArray} (h : copyOk ns a b = true) : moveAll ns a b = (copyL ns a b ++ remL ns a, true) := by unfold moveAll; rw [if_pos h]
theorem copyOk_not {ns : List Nd} {a b : ByteArray} (h : validT ns = true → 1 ≤ depB a → 1 ≤ depB b → (getT ns a).1 ≠ 0 → a ≠ b → undB a b = false → fitsL ns (copyL ns a b) = true → False) : copyOk ns a b = false := by
  rw [Bool.eq_false_iff]
  intro hc
  obtain ⟨h1, h2, h3, h4, h5, h6, h7⟩ := copyOk_iff.1 hc
  exact h h1 h2 h3 h4 h5 h6 h7

end Go.Proofs.Ytdkpabnpobpdhaa

/-
  WALKS: impl.PathParent, impl.PathUnder.
-/
namespace Go.Proofs.Ytdkpabnpobpdhaa
open Go.RowKit

set_option maxHeartbeats 400000 in
set_option maxRecDepth 100000 in
theorem slHasPrefix_c (s p : ByteArray) (w : World) :
    Calls Try.prog 88 #[.string s, .string p] w fun e w' => e = .returned (.bool (pfxB s p)) ∧ w' = w := by
  by_cases h : p.size ≤ s.size
  · obtain ⟨b, hb⟩ : ∃ b, ((s.extract 0 p.size).toList == p.toList) = b := ⟨_, rfl⟩
    have hv : Hid (pfxB s p = b) := by show _ = _; unfold pfxB; rw [decide_eq_true h, hb]; rfl
    have h1 : (p.size : Int) ≤ s.size := by omega
    have h2 : (0 : Int) ≤ p.size := by omega
    go_enter Try.func88, Try.ntmps88
    go_wp2
    go_ret
    exact ⟨ret_bool hv.out.symm, rfl⟩
  · have hv : Hid (pfxB s p = false) := by show _ = _; unfold pfxB; rw [decide_eq_false h]; rfl
    have h1 : (s.size : Int) < p.size := by omega
    clear h
    go_enter Try.func88, Try.ntmps88
    go_wp2
    go_ret
    exact ⟨ret_bool hv.out.symm, rfl⟩

set_option maxHeartbeats 400000 in
set_option maxRecDepth 100000 in
theorem hasPrefix_c (s p : ByteArray) (w : World) :
    Calls Try.prog 51 #[.string s, .string p] w fun e w' => e = .returned (.bool (pfxB s p)) ∧ w' = w := by
  have hc := fun w => slHasPrefix_c s p w
  go_enter Try.func51, Try.ntmps51
  go_wp2_with (go_at_call 88; refine (hc _).mono ?_; rintro e w' ⟨rfl, rfl⟩)
  go_ret
  exact ⟨rfl, rfl⟩

set_option maxHeartbeats 400000 in
set_option maxRecDepth 100000 in
theorem lastIndexRow_c (s : ByteArray) (m : Nat) (hs : s.size = m + 2) (hm : m ≤ 2097152) (h0 : ((s[m].toNat : Int) == 47) = true) (h1 : ((s[m + 1].toNat : Int) == 47) = false) (w : World) :
    Calls Try.prog 125 #[.string s, .int .u8 47] w fun e w' => e = .returned (.int .i64 m) ∧ w' = w := by
  go_enter Try.func125, Try.ntmps125
  go_wp2
  go_loop [5] (fun i => ∃ k : Nat, m ≤ k ∧ k ≤ m + 1 ∧ i = .int .i64 k) (fun i => (intOf i).toNat)
  case atStart => exact ⟨m + 1, by omega, by omega, by go_num⟩
  case round =>
    obtain ⟨k, hk1, hk2, rfl⟩ := hrel
    by_cases hk : k = m
    · subst hk
      go_wp2
      go_ret
      exact ⟨rfl, rfl⟩
    · obtain rfl : k = m + 1 := by omega
      go_wp2
      go_round
      case rel => exact ⟨m, by omega, by omega, by go_num⟩
      case measure => simp [intOf]

set_option maxHeartbeats 400000 in
set_option maxRecDepth 100000 in
theorem lastIndex_c (s : ByteArray) (m : Nat) (hs : s.size = m + 2) (hm : m ≤ 2097152) (h0 : ((s[m].toNat : Int) == 47) = true) (h1 : ((s[m + 1].toNat : Int) == 47) = false) (w : World) :
    Calls Try.prog 114 #[.string s, .int .u8 47] w fun e w' => e = .returned (.int .i64 m) ∧ w' = w := by
  have hc := fun w => lastIndexRow_c s m hs hm h0 h1 w
  have HC := Lib.hid hc
  clear hc h0 h1 hs
  go_enter Try.func114, Try.ntmps114
  go_wp2_with (go_at_call 125; refine (HC.out _).mono ?_; rintro e w' ⟨rfl, rfl⟩)
  go_ret
  exact ⟨rfl, rfl⟩

set_option maxHeartbeats 400000 in
set_option maxRecDepth 100000 in
/-- impl.PathParent, at every text of modest length. -/
theorem pathParent_c (s : ByteArray) (hs : s.size ≤ 2097152) (w : World) :
    Calls Try.prog 89 #[.string s] w fun e w' => e = .returned (.string (parentB s)) ∧ Below w.heap.size w w' := by
  obtain ⟨d, hd⟩ : ∃ d, Pm.depth s.data.toList = d := ⟨_, rfl⟩
  have hc : ∀ w, Calls Try.prog 50 #[.string s] w fun e w' => e = .returned (.int .i64 d) ∧ Below w.heap.size w w' := fun w => by rw [← hd]; exact pathDepth_c s (by omega) w
  have HC := Lib.hid hc
  clear hc
  by_cases h1 : d < 1
  · have hv : Hid (parentB s = ⟨#[]⟩) := by show _ = _; unfold parentB Pm.parent; rw [hd, if_pos h1]
    have hcs : d = -1 ∨ d = 0 := by
      rw [← hd] at h1 ⊢; unfold Pm.depth at h1 ⊢; split at h1 <;> simp_all <;> omega
    clear hd h1
    rcases hcs with rfl | rfl
    all_goals
      go_enter Try.func89, Try.ntmps89
      go_wp2_with (go_at_call 50; refine (HC.out _).mono ?_; rintro e w' ⟨rfl, hb⟩)
      go_ret
      exact ⟨ret_str hv.out.symm, hb⟩
  · obtain ⟨m, k1, k2, ⟨c, k3, k4⟩, k5, k6⟩ := Pm.last_facts s.data.toList (by omega)
    rw [hd] at k6
    have hsz : s.size = m + 2 := by rw [Lib.size_eq]; exact k1
    rw [← Lib.size_eq] at k5 k6
    by_cases h2 : d = 1
    · have hv : Hid (parentB s = ⟨#[47]⟩) := by show _ = _; unfold parentB; rw [k5, if_pos (k6.1 h2)]
      subst h2
      clear k1 k2 k3 k4 k5 k6 h1 hd hsz
      go_enter Try.func89, Try.ntmps89
      go_wp2_with (go_at_call 50; refine (HC.out _).mono ?_; rintro e w' ⟨rfl, hb⟩)
      go_ret
      exact ⟨ret_str hv.out.symm, hb⟩
    · have hv : Hid (parentB s = s.extract 0 m) := by
        show _ = _; unfold parentB; rw [k5, if_neg (fun h => h2 (k6.2 h)), Lib.extract_eq]; simp
      rw [Pm.byte_getElem? s m (by omega)] at k2
      rw [Pm.byte_getElem? s (m + 1) (by omega)] at k3
      have g0 : ((s[m].toNat : Int) == 47) = true := toNat_47 (by simpa using k2)
      have g1 : ((s[m + 1].toNat : Int) == 47) = false := toNat_not_47 (by rw [Option.some.inj k3]; exact k4)
      have hl := Lib.hid (fun w => lastIndex_c s m hsz (by omega) g0 g1 w)
      have e1 : (d == -1) = false := beq_eq_false_iff_ne.2 (by omega)
      have e2 : (d == 0) = false := beq_eq_false_iff_ne.2 (by omega)
      have e3 : (d == 1) = false := beq_eq_false_iff_ne.2 h2
      have b1 : (m : Int) ≤ s.size := by omega
      clear g0 g1 k1 k2 k3 k4 k5 k6 h1 hd hsz h2
      go_enter Try.func89, Try.ntmps89
      go_wp2_with (first | (go_at_call 50; refine (HC.out _).mono ?_; rintro e w' ⟨rfl, hb⟩) | (go_at_call 114; refine (hl.out _).mono ?_; rintro e w2 ⟨rfl, rfl⟩))
      go_ret
      exact ⟨ret_str hv.out.symm, hb⟩

set_option maxHeartbeats 400000 in
set_option maxRecDepth 100000 in
/-- impl.PathUnder, at every two texts of modest length. -/
theorem pathUnder_c (a b : ByteArray) (ha : a.size ≤ 2097152) (hb : b.size ≤ 2097152) (w : World) :
    Calls Try.prog 17 #[.string a, .string b] w fun e w' => e = .returned (.bool (underB a b)) ∧ Below w.heap.size w w' := by
  obtain ⟨da, hda⟩ : ∃ d, Pm.depth a.data.toList = d := ⟨_, rfl⟩
  obtain ⟨db, hdb⟩ : ∃ d, Pm.depth b.data.toList = d := ⟨_, rfl⟩
  have hu := Pm.under_impl a.data.toList b.data.toList
  rw [hda, hdb, ← pfxB_eq] at hu
  have hv : Hid (underB a b = (decide (0 ≤ da) && (decide (da < db) && pfxB b a))) := hu.symm
  have ca : ∀ w, Calls Try.prog 50 #[.string a] w fun e w' => e = .returned (.int .i64 da) ∧ Below w.heap.size w w' := fun w => by rw [← hda]; exact pathDepth_c a (by omega) w
  have cb : ∀ w, Calls Try.prog 50 #[.string b] w fun e w' => e = .returned (.int .i64 db) ∧ Below w.heap.size w w' := fun w => by rw [← hdb]; exact pathDepth_c b (by omega) w
  have CA := Lib.hid ca
  have CB := Lib.hid cb
  have CP := Lib.hid (fun w => hasPrefix_c b a w)
  clear ca cb hu hda hdb
  by_cases h0 : 0 ≤ da
  · by_cases h1 : da < db
    · have hv2 : Hid (underB a b = pfxB b a) := by show _ = _; rw [hv.out, decide_eq_true h0, decide_eq_true h1]; rfl
      go_enter Try.func17, Try.ntmps17
      go_wp2_with fail
      refine (CA.out _).mono ?_; rintro e w1 ⟨rfl, hb1⟩
      go_wp2_with fail
      refine (CB.out _).mono ?_; rintro e w2 ⟨rfl, hb2⟩
      go_wp2_with (go_at_call 51; refine (CP.out _).mono ?_; rintro e w' ⟨rfl, rfl⟩)
      go_ret
      exact ⟨ret_bool hv2.out.symm, hb1.trans (hb2.mono hb1.size)⟩
    · have hv2 : Hid (underB a b = false) := by show _ = _; rw [hv.out, decide_eq_true h0, decide_eq_false h1]; rfl
      have h1' : db ≤ da := by omega
      clear h1
      go_enter Try.func17, Try.ntmps17
      go_wp2_with fail
      refine (CA.out _).mono ?_; rintro e w1 ⟨rfl, hb1⟩
      go_wp2_with fail
      refine (CB.out _).mono ?_; rintro e w2 ⟨rfl, hb2⟩
      go_wp2
      go_ret
      exact ⟨ret_bool hv2.out.symm, hb1.trans (hb2.mono hb1.size)⟩
  · have hv2 : Hid (underB a b = false) := by show _ = _; rw [hv.out, decide_eq_false h0]; rfl
    have h1' : da < 0 := by omega
    clear h0
    go_enter Try.func17, Try.ntmps17
    go_wp2_with fail
    refine (CA.out _).mono ?_; rintro e w1 ⟨rfl, hb1⟩
    go_wp2_with fail
    refine (CB.out _).mono ?_; rintro e w2 ⟨rfl, hb2⟩
    go_wp2
    go_ret
    exact ⟨ret_bool hv2.out.symm, hb1.trans (hb2.mono hb1.size)⟩

end Go.Proofs.Ytdkpabnpobpdhaa

/-
  TEXTS: what stands behind a path that is a text's beginning (strings.TrimPrefix).
-/
namespace Go.Proofs.Ytdkpabnpobpdhaa
open Go.RowKit
set_option linter.unusedVariables false

set_option maxHeartbeats 400000 in
set_option maxRecDepth 100000 in
theorem hasPrefix_yes (s p : ByteArray) (h : p.size ≤ s.size) (he : ((s.extract 0 p.size).toList == p.toList) = true) (w : World) :
    Calls Try.prog 88 #[.string s, .string p] w fun e w' => e = .returned (.bool true) ∧ w' = w := by
  have h1 : (p.size : Int) ≤ s.size := by omega
  clear h
  go_enter Try.func88, Try.ntmps88
  go_wp2
  go_ret
  exact ⟨rfl, rfl⟩

/-- A path at or under another one, which is not the root, begins with it. -/
theorem sub_prefix {p q : ByteArray} (hr : p ≠ rootB) (h : subB p q = true) : p.size ≤ q.size ∧ ((q.extract 0 p.size).toList == p.toList) = true := by
  unfold subB at h
  rw [Bool.or_eq_true, decide_eq_true_eq] at h
  rcases h with rfl | h
  · refine ⟨Nat.le_refl _, ?_⟩
    rw [ByteArray.extract_zero_size]
    simp
  · have := underB_eq p q
    have hu : underB p q = true := h
    rw [hu] at this
    have h3 : l1uB p q = true := by
      cases hh : l1uB p q with
      | true => rfl
      | false => rw [hh] at this; simp at this
    unfold l1uB at h3
    rw [Bool.or_eq_true, Bool.and_eq_true, Bool.and_eq_true, decide_eq_true_eq] at h3
    rcases h3 with ⟨h3, _⟩ | ⟨h3, h4⟩
    · refine absurd ?_ hr
      rw [beq_iff_eq, Lib.toList_data] at h3
      rw [← Lib.mk_data p, h3]; rfl
    · exact ⟨Nat.le_of_lt h3, h4⟩

end Go.Proofs.Ytdkpabnpobpdhaa

/-
  PLAIN MATHEMATICS OF MOVES, fourth part: the program's way: a making of nodes, and its way back.
-/
namespace Go.Proofs.Ytdkpabnpobpdhaa
set_option linter.unusedVariables false

/-- impl.makingOf. -/
def makeL (ns : List Nd) (a b : ByteArray) : List Cmd := if validT ns = true ∧ a ≠ rootB then copyL ns a b else []

theorem makeL_yes {ns : List Nd} {a : ByteArray} (b : ByteArray) (h : validT ns = true) (hr : a ≠ rootB) : makeL ns a b = copyL ns a b := if_pos ⟨h, hr⟩
theorem makeL_no {ns : List Nd} {a : ByteArray} (b : ByteArray) (h : validT ns = false ∨ a = rootB) : makeL ns a b = [] := by
  unfold makeL
  rw [if_neg]
  rintro ⟨h1, h2⟩
  rcases h with h | h
  · rw [h] at h1; cases h1
  · exact h2 h

/-- A tree that has a node at or under a path has one at the path. -/
theorem sub_here {ns : List Nd} {p : ByteArray} (hv : validT ns = true) (hr : p ≠ rootB) {n : Nd} (hn : n ∈ ns) (h : subB p n.p = true) : 1 ≤ depB p ∧ (getT ns p).1 ≠ 0 := by
  unfold subB at h
  rw [Bool.or_eq_true, decide_eq_true_eq] at h
  rcases h with rfl | h
  · refine ⟨(good_path hv hn).1, ?_⟩
    rw [getT_mem hv hn]
    exact (((validT_iff ns).1 hv).2.1 n hn).2.2.1
  · have hp := (und_depth h).1
    have hd : 1 ≤ depB p := by
      obtain ⟨w, hw, rfl⟩ := vpB_word hp
      rw [depB_pB hw]
      cases w with
      | nil => exact absurd rfl hr
      | cons => rw [List.length_cons]; omega
    refine ⟨hd, ?_⟩
    have hm : treeUnder ns p ≠ [] := by
      unfold treeUnder
      rw [hv, hp, if_pos (show (true && true) = true from rfl)]
      intro e
      have := List.map_eq_nil_iff.1 e
      have h2 : n ∈ ns.filter (fun n => undB p n.p) := List.mem_filter.2 ⟨hn, h⟩
      rw [this] at h2
      cases h2
    have := under_dir hm
    rw [treeGet_eq hv hp] at this
    rw [this]
    decide

theorem cpB_here {p q : ByteArray} (h1 : p.size ≤ q.size) (h2 : ((q.extract 0 p.size).toList == p.toList) = true) : cpB p p q = q := by
  have e : q.extract 0 p.size = p := by
    rw [beq_iff_eq, Lib.toList_data, Lib.toList_data] at h2
    rw [← Lib.mk_data (q.extract 0 p.size), h2, Lib.mk_data]
  unfold cpB
  conv => lhs; arg 1; rw [← e]
  rw [ByteArray.extract_append_extract]
  simp [Nat.max_eq_right h1]

theorem cpB_self (a b : ByteArray) : cpB a b a = b := by
  unfold cpB
  rw [ByteArray.extract_eq_empty_iff.2 (by omega)]
  simp

theorem copyL_valid {ns : List Nd} {p : ByteArray} (hv : validT ns = true) (hr : p ≠ rootB) : validL (copyL ns p p) = true := by
  refine (validL_iff _).2 ⟨fun c hc => ?_, by rw [copyL_len]; have := filter_len10 hv (fun n => subB p n.p); omega⟩
  obtain ⟨n, hn, rfl⟩ := List.mem_map.1 hc
  obtain ⟨hn, hs⟩ := List.mem_filter.1 hn
  obtain ⟨h1, h2⟩ := sub_prefix hr hs
  refine (validC_iff _).2 ⟨?_, (show validB 0 0 = true by decide), ?_, ?_⟩
  · show 1 ≤ depB (cpB p p n.p)
    rw [cpB_here h1 h2]
    exact (good_path hv hn).1
  · exact (((validT_iff ns).1 hv).2.1 n hn).2.1
  · intro e
    exact (((validT_iff ns).1 hv).2.1 n hn).2.2.1 (congrArg Prod.fst e).symm

theorem copyL_back {ns : List Nd} {p : ByteArray} (hv : validT ns = true) (hr : p ≠ rootB) : undoL (copyL ns p p) = remL ns p := by
  have hval := copyL_valid hv hr
  rw [undoL_ok hval]
  unfold copyL remL
  rw [← List.map_reverse, List.map_map]
  refine List.map_congr_left (fun n hn => ?_)
  obtain ⟨hm, hs⟩ := List.mem_filter.1 (List.mem_reverse.1 hn)
  obtain ⟨h1, h2⟩ := sub_prefix hr hs
  have hc : validC ⟨cpB p p n.p, 0, 0, n.k, n.v⟩ = true := ((validL_iff _).1 hval).1 _ (List.mem_map.2 ⟨n, List.mem_filter.2 ⟨hm, hs⟩, rfl⟩)
  show undoC ⟨cpB p p n.p, 0, 0, n.k, n.v⟩ = _
  unfold undoC
  rw [if_pos hc, cpB_here h1 h2]

theorem undoL_nil : undoL [] = [] := rfl

/-- RemoveAll, the program's way. -/
theorem make_remove (ns : List Nd) (p : ByteArray) : removeAll ns p = (undoL (makeL ns p p), decide (0 < (undoL (makeL ns p p)).length)) := by
  by_cases hv : validT ns = true
  · by_cases hr : p = rootB
    · rw [makeL_no p (.inr hr), undoL_nil, removeAll_no (.inr (.inl (by rw [hr, depB_rootB]; omega)))]
      rfl
    · rw [makeL_yes p hv hr, copyL_back hv hr]
      by_cases hg : 1 ≤ depB p ∧ (getT ns p).1 ≠ 0
      · rw [removeAll_ok hv hg.1 hg.2, decide_eq_true]
        rw [remL_len, sub_count1 hv hg.1 hg.2]
        omega
      · have he : remL ns p = [] := by
          have : ns.filter (fun n => subB p n.p) = [] := by
            rw [List.filter_eq_nil_iff]
            intro n hn hs
            exact hg (sub_here hv hr hn hs)
          unfold remL
          rw [this]; rfl
        rw [he, removeAll_no]
        · rfl
        · by_cases hd : 1 ≤ depB p
          · exact .inr (.inr (Decidable.byContradiction fun h => hg ⟨hd, h⟩))
          · exact .inr (.inl hd)
  · have hv' : validT ns = false := by simpa using hv
    rw [makeL_no p (.inl hv'), undoL_nil, removeAll_no (.inl hv')]
    rfl

/-- CopyAll, the program's way. -/
theorem make_copy {ns : List Nd} {a b : ByteArray} : copyOk ns a b = true ↔ a ≠ b ∧ undB a b = false ∧ makeL ns a b ≠ [] ∧ fitsL ns (makeL ns a b) = true := by
  constructor
  · intro h
    obtain ⟨h1, h2, h3, h4, h5, h6, h7⟩ := copyOk_iff.1 h
    have hr := dep_root h2
    refine ⟨h5, h6, ?_, ?_⟩
    · rw [makeL_yes b h1 hr]
      obtain ⟨n, hn, hnp⟩ := node_at hr h4
      intro e
      have : (⟨cpB a b n.p, 0, 0, n.k, n.v⟩ : Cmd) ∈ copyL ns a b := List.mem_map.2 ⟨n, List.mem_filter.2 ⟨hn, sub_eq hnp⟩, rfl⟩
      rw [e] at this
      cases this
    · rw [makeL_yes b h1 hr]; exact h7
  · rintro ⟨h5, h6, h8, h7⟩
    have hvr : validT ns = true ∧ a ≠ rootB := Decidable.byContradiction fun h => h8 (if_neg h)
    obtain ⟨h1, hr⟩ := hvr
    rw [makeL_yes b h1 hr] at h7 h8
    obtain ⟨c, hc⟩ := List.exists_mem_of_ne_nil _ h8
    obtain ⟨n, hn, -⟩ := List.mem_map.1 hc
    obtain ⟨hn, hs⟩ := List.mem_filter.1 hn
    obtain ⟨h2, h4⟩ := sub_here h1 hr hn hs
    obtain ⟨m, hm, hmp⟩ := node_at hr h4
    have hc2 : (⟨cpB a b m.p, 0, 0, m.k, m.v⟩ : Cmd) ∈ copyL ns a b := List.mem_map.2 ⟨m, List.mem_filter.2 ⟨hm, sub_eq hmp⟩, rfl⟩
    have h3 := ((validC_iff _).1 (((validL_iff _).1 (fitsL_iff.1 h7).2.1).1 _ hc2)).1
    have h3' : 1 ≤ depB (cpB a b m.p) := h3
    rw [hmp, cpB_self] at h3'
    exact copyOk_iff.2 ⟨h1, h2, h3', h4, h5, h6, h7⟩

theorem makeL_len {ns : List Nd} (a b : ByteArray) : (makeL ns a b).length ≤ 10 := by
  unfold makeL
  split
  · rename_i h
    rw [copyL_len]; exact filter_len10 h.1 _
  · exact Nat.zero_le _

/-- A copy's paths are hardly longer than its place. -/
theorem makeL_short {ns : List Nd} (a b : ByteArray) : ShortC (b.size + 8) (makeL ns a b) := by
  intro c hc
  unfold makeL at hc
  split at hc
  · rename_i h
    obtain ⟨n, hn, rfl⟩ := List.mem_map.1 hc
    have h2 := vpSize (good_path h.1 (List.mem_filter.1 hn).1).2
    have h3 := cpB_size a b n.p
    show (cpB a b n.p).size ≤ _
    omega
  · cases hc

end Go.Proofs.Ytdkpabnpobpdhaa
