/-
  Texts of this proof, one behind the other: Tn, Co, Ia, Ct, Cu, Iw, Et, Eu, Tc, Eq, Cb, Lu.
-/
import Derived.Shelf.LaysM
import Derived.Shelf.Strconv.Itoa3
import Derived.Test.YtpjoahddbdmbpaaDoorChecked
import Derived.Laws.Concat
import Derived.Laws.BytesString
import Derived.Laws.Cells
import Derived.Deep.RegionWith
import Derived.RangeFuncBox
import Derived.RangeFuncFrom
import Derived.RangeFuncNested
import Derived.Test.YtpjoahddbdmbpaaDoorTl
import Derived.Test.YtpjoahddbdmbpaaDoorCv
import Derived.Test.YtpjoahddbdmbpaaDoorQ1
import Derived.Test.YtpjoahddbdmbpaaDoorCkq
import Derived.Test.YtpjoahddbdmbpaaDoorPd
import Derived.Test.YtpjoahddbdmbpaaDoorLcq
import Derived.Test.YtpjoahddbdmbpaaDoorQ3
/-
  WALKS: spec.TreeUnder.
-/
namespace Go.Proofs.YtpjoahddbdmbpaaDoor
open Go.RowKit
set_option linter.unusedVariables false

/-- A list of texts that the call has made, and nothing that was there has turned. -/
def TextsPost (xs : List ByteArray) (W : World) (e : Ending) (w' : World) : Prop :=
  (∃ sl, e = .returned sl ∧ w'.ownsRow W.heap.size 9 1 sl xs.length (xs.map Value.string)) ∧ Below W.heap.size W w'

def undAcc (ns : List Nd) (p : ByteArray) (i : Nat) : List ByteArray := ((ns.take i).filter (fun n => undB p n.p)).map Nd.p

theorem undAcc_yes {ns : List Nd} {p : ByteArray} {i : Nat} {n : Nd} (hn : ns[i]? = some n) (h : undB p n.p = true) : undAcc ns p (i + 1) = undAcc ns p i ++ [n.p] := by
  unfold undAcc
  rw [List.take_add_one, hn]
  simp [List.filter_append, h]

theorem undAcc_no {ns : List Nd} {p : ByteArray} {i : Nat} {n : Nd} (hn : ns[i]? = some n) (h : undB p n.p = false) : undAcc ns p (i + 1) = undAcc ns p i := by
  unfold undAcc
  rw [List.take_add_one, hn]
  simp [List.filter_append, h]

theorem undAcc_len (ns : List Nd) (p : ByteArray) (i : Nat) : (undAcc ns p i).length ≤ i := by
  unfold undAcc
  rw [List.length_map]
  exact Nat.le_trans (List.length_filter_le _ _) (by rw [List.length_take]; omega)

def UnderRel (ns : List Nd) (p : ByteArray) (W : World) (o i : Value) (wr : World) : Prop :=
  ∃ n : Nat, i = .int .i64 n ∧ n ≤ ns.length ∧ wr.ownsRow W.heap.size 9 1 o (undAcc ns p n).length ((undAcc ns p n).map Value.string) ∧ Hid (Below W.heap.size W wr)

theorem under_none {ns : List Nd} {p : ByteArray} (h : (validT ns && vpB p) = false) : treeUnder ns p = [] := by unfold treeUnder; rw [h]; rfl

end Go.Proofs.YtpjoahddbdmbpaaDoor

/-
  WALKS: contents: impl.contentOf, impl.ContentValid.
-/
namespace Go.Proofs.YtpjoahddbdmbpaaDoor
open Go.RowKit
set_option linter.unusedVariables false

/-- What a content stands for, and whether it is one. -/
def conOf (k v : Int) : Value × Bool :=
  if k = 0 ∧ v = 0 then (.iface 129 (.agg #[]), true)
  else if k = 1 ∧ v = 0 then (.iface 130 (.agg #[]), true)
  else if k = 2 ∧ 0 ≤ v ∧ v ≤ 99 then (.iface 132 (.agg #[.int .i64 v]), true)
  else (.nilIface, false)

theorem conOf_valid (k v : Int) : (conOf k v).2 = validB k v := by
  unfold conOf validB
  split
  · rename_i h; simp [h]
  · split
    · rename_i h; simp [h]
    · split
      · rename_i h; simp [h]
      · rename_i h1 h2 h3
        symm
        apply decide_eq_false
        rintro (⟨h, h4 | h4⟩ | h)
        · exact h1 ⟨h4, h⟩
        · exact h2 ⟨h4, h⟩
        · exact h3 h

def ConPost (k v : Int) (w : World) (e : Ending) (w' : World) : Prop :=
  e = .returned (.tuple #[(conOf k v).1, .bool (conOf k v).2]) ∧ Below w.heap.size w w'

theorem con_post (k v : Int) (w : World) (r : Value × Bool) (h : conOf k v = r) (t : TypeId) : ConPost k v w (.returned (.tuple #[r.1, .bool r.2])) (w.alloc (.cells #[.int .i64 k, .int .i64 v] t)) := by
  subst h; exact ⟨rfl, below_box _ _⟩

set_option maxHeartbeats 400000 in
set_option maxRecDepth 100000 in
theorem contentOf_c (k v : Int) (w : World) : Calls Tryd.prog 63 #[con k v] w (ConPost k v w) := by
  unfold con
  by_cases h0 : k = 0
  · subst h0
    by_cases hv : v = 0
    · subst hv
      go_enter Tryd.func63, Tryd.ntmps63
      go_wp2
      go_ret2
      exact con_post _ _ _ (_, _) rfl _
    · have H := Lib.hid (show conOf 0 v = (.nilIface, false) by unfold conOf; simp [hv])
      go_enter Tryd.func63, Tryd.ntmps63
      go_wp2
      go_ret2
      exact con_post _ _ _ (_, _) H.out _
  · by_cases h1 : k = 1
    · subst h1
      clear h0
      by_cases hv : v = 0
      · subst hv
        go_enter Tryd.func63, Tryd.ntmps63
        go_wp2
        go_ret2
        exact con_post _ _ _ (_, _) rfl _
      · have H := Lib.hid (show conOf 1 v = (.nilIface, false) by unfold conOf; simp [hv])
        go_enter Tryd.func63, Tryd.ntmps63
        go_wp2
        go_ret2
        exact con_post _ _ _ (_, _) H.out _
    · by_cases h2 : k = 2
      · subst h2
        clear h0 h1
        by_cases hv : 0 ≤ v
        · by_cases hw : v ≤ 99
          · have H := Lib.hid (show conOf 2 v = (.iface 132 (.agg #[.int .i64 v]), true) by unfold conOf; simp [hv, hw])
            go_enter Tryd.func63, Tryd.ntmps63
            go_wp2
            go_ret2
            exact con_post _ _ _ (_, _) H.out _
          · have H := Lib.hid (show conOf 2 v = (.nilIface, false) by unfold conOf; simp [hw])
            have hw' : 99 < v := by omega
            clear hw
            go_enter Tryd.func63, Tryd.ntmps63
            go_wp2
            go_ret2
            exact con_post _ _ _ (_, _) H.out _
        · have H := Lib.hid (show conOf 2 v = (.nilIface, false) by unfold conOf; simp [hv])
          have hv' : v < 0 := by omega
          clear hv
          go_enter Tryd.func63, Tryd.ntmps63
          go_wp2
          go_ret2
          exact con_post _ _ _ (_, _) H.out _
      · have H := Lib.hid (show conOf k v = (.nilIface, false) by unfold conOf; simp [h0, h1, h2])
        go_enter Tryd.func63, Tryd.ntmps63
        go_wp2
        go_ret2
        exact con_post _ _ _ (_, _) H.out _

set_option maxHeartbeats 400000 in
set_option maxRecDepth 100000 in
theorem implValid_c (k v : Int) (w : World) : Calls Tryd.prog 48 #[con k v] w (BoolPost (validB k v) w) := by
  have H := Lib.hid (fun w => contentOf_c k v w)
  have HV := Lib.hid (conOf_valid k v)
  unfold con at H ⊢
  go_enter Tryd.func48, Tryd.ntmps48
  go_wp2_with fail
  refine (H.out _).mono ?_
  rintro e W1 ⟨rfl, hb⟩
  rw [HV.out]
  go_wp2
  go_ret
  exact ⟨rfl, below_next (below_box _ _) hb⟩

end Go.Proofs.YtpjoahddbdmbpaaDoor

/-
  strconv.Itoa of a number below 100, by the library's contract, at this program's numbers.
-/
namespace Go.Proofs.YtpjoahddbdmbpaaDoor
open Go.Shelf
end Go.Proofs.YtpjoahddbdmbpaaDoor

/-
  WALKS: the texts of contents: impl.ContentText, spec.l6Dec, spec.ContentText.
-/
namespace Go.Proofs.YtpjoahddbdmbpaaDoor
open Go.RowKit
set_option linter.unusedVariables false

/-- The decimal of a number. -/
def decB (n : Nat) : ByteArray := ⟨(Lib.decDigits n).toArray⟩

theorem decB_small (n : Nat) (h : n < 10) : decB n = ⟨#[UInt8.ofNat (48 + n)]⟩ := by unfold decB; rw [Lib.decDigits_one h]
theorem decB_more (n : Nat) (h : ¬ n < 10) : decB n = decB (n / 10) ++ ⟨#[UInt8.ofNat (48 + n % 10)]⟩ := by
  unfold decB
  conv => lhs; rw [Lib.decDigits]
  rw [dif_neg h]
  apply ByteArray.ext
  simp [ByteArray.data_append]

theorem conv1 (W : World) (g : Nat) (x : Int) (h : W.cell? ⟨g, 0, none⟩ = some (.int .u8 x)) :
    (convert 22 9 (.slice (some ⟨g, 0, none⟩) 1 1)).run Tryd.prog W = .ok (.string ⟨#[UInt8.ofNat x.toNat]⟩) W := by
  rw [run_convert_bytes_string (e := 5) W _ _ _ _ _ Tryd.underlying22 Tryd.underlying5 Tryd.underlying9]
  refine (run_bytesToString W ⟨g, 0, none⟩ 1 1 [x] ?_).trans ?_
  · have hl := run_loadCells_list (P := Tryd.prog) (w := W) ⟨g, 0, none⟩ [.int .u8 x] (by
      intro j v hj
      match j, hj with
      | 0, hj => simp at hj; subst hj; simpa [Addr.add] using h)
    simpa using hl
  · rfl

theorem convN (W : World) (x : Int) (t : TypeId) :
    (convert 22 9 (.slice (some ⟨W.heap.size, 0, none⟩) 1 1)).run Tryd.prog (W.alloc (.cells #[.int .u8 x] t)) = .ok (.string ⟨#[UInt8.ofNat x.toNat]⟩) (W.alloc (.cells #[.int .u8 x] t)) :=
  conv1 _ _ _ (by rw [World.cell?_alloc_new]; rfl)

def decCell (n : Nat) : Obj := .cells #[.int .u8 (48 + (n : Int))] 5

def DecPost (n : Nat) (w : World) (e : Ending) (w' : World) : Prop := e = .returned (.string (decB n)) ∧ Below w.heap.size w w'

theorem dec_end {n : Nat} {s : ByteArray} {w w' : World} (h : decB n = s) (k : Below w.heap.size w w') : DecPost n w (.returned (.string s)) w' := ⟨by rw [h], k⟩

theorem below_two (w : World) (o1 o2 : Obj) : Below w.heap.size w ((w.drew.alloc o1).alloc o2) :=
  ((Below.refl w.heap.size w).drew.alloc (Nat.le_refl _) o1).alloc (by simp) o2

theorem decB_size (n : Nat) (hn : n < 100) : (decB n).size ≤ 2 := by
  unfold decB
  rw [Lib.size_eq]
  show (Lib.decDigits n).length ≤ 2
  by_cases h : n < 10
  · rw [Lib.decDigits_one h]; simp
  · rw [Lib.decDigits_two h hn]; simp

/-- A text, and nothing that was there has turned. -/
def TextPost (s : ByteArray) (w : World) (e : Ending) (w' : World) : Prop := e = .returned (.string s) ∧ Below w.heap.size w w'

/-- The text of a content; empty if it is none. -/
def conText (k v : Int) : ByteArray :=
  if validB k v = true then (if k = 0 then ⟨#[45]⟩ else if k = 1 then ⟨#[100]⟩ else ⟨#[102]⟩ ++ decB v.toNat) else ⟨#[]⟩

theorem text_end {s t : ByteArray} {w w' : World} (h : t = s) (k : Below w.heap.size w w') : TextPost s w (.returned (.string t)) w' := ⟨by rw [h], k⟩

theorem method_nothing (W : World) : (method 277 129 (.agg #[]) "loop.example/filereconciler/impl.text").run Tryd.prog W = .ok (114, .agg #[]) W := by kernel_rfl
theorem method_directory (W : World) : (method 277 130 (.agg #[]) "loop.example/filereconciler/impl.text").run Tryd.prog W = .ok (115, .agg #[]) W := by kernel_rfl
theorem method_file (v : Int) (W : World) : (method 277 132 (.agg #[.int .i64 v]) "loop.example/filereconciler/impl.text").run Tryd.prog W = .ok (116, .agg #[.int .i64 v]) W := by kernel_rfl

theorem conText_bad {k v : Int} (h : validB k v = false) : (⟨#[]⟩ : ByteArray) = conText k v := by unfold conText; rw [h]; rfl

theorem conText_empty (k v : Int) : (conText k v).toList.isEmpty = !validB k v := by
  unfold conText
  split
  · rename_i h
    rw [h]
    split
    · rw [Lib.toList_data]; rfl
    · split
      · rw [Lib.toList_data]; rfl
      · rw [Lib.toList_data, ByteArray.data_append]; simp
  · rename_i h
    have : validB k v = false := by simpa using h
    rw [this, Lib.toList_data]; rfl

end Go.Proofs.YtpjoahddbdmbpaaDoor

/-
  TEXTS OF COMMANDS; WALK: spec.CommandText.
-/
namespace Go.Proofs.YtpjoahddbdmbpaaDoor
open Go.RowKit
set_option linter.unusedVariables false

def blB : ByteArray := ⟨#[32]⟩

/-- spec.CommandText. -/
def textC (c : Cmd) : ByteArray := if validC c = true then c.p ++ blB ++ conText c.fk c.fv ++ blB ++ conText c.tk c.tv else ⟨#[]⟩

theorem conSize_le (k v : Int) : (conText k v).size ≤ 3 := by
  unfold conText
  split
  · rename_i h
    split
    · decide
    · split
      · decide
      · rename_i h0 h1
        have h' := h
        unfold validB at h'
        simp [h0, h1] at h'
        rw [ByteArray.size_append]
        have := decB_size v.toNat (by omega)
        show 1 + _ ≤ 3
        omega
  · decide

theorem textC_bad {c : Cmd} (h : validC c = false) : textC c = ⟨#[]⟩ := if_neg (by rw [h]; decide)
theorem textC_ok {c : Cmd} (h : validC c = true) : textC c = c.p ++ ⟨#[32]⟩ ++ conText c.fk c.fv ++ ⟨#[32]⟩ ++ conText c.tk c.tv := if_pos h

theorem pathB_size {p : ByteArray} (h : 1 ≤ depB p) : p.size ≤ 8 := by
  obtain ⟨w, hw, rfl⟩ := vpB_word (vp_of_depth h)
  show (Pm.pathOf w).length ≤ 8
  unfold Pm.pathOf
  split
  · simp
  · rw [Pm.flat_length]; have := hw.1; omega

theorem textC_size (c : Cmd) : (textC c).size ≤ 16 := by
  cases h : validC c with
  | false => rw [textC_bad h]; decide
  | true =>
    have h1 := pathB_size ((validC_iff c).1 h).1
    have h2 := conSize_le c.fk c.fv
    have h3 := conSize_le c.tk c.tv
    rw [textC_ok h]
    simp only [ByteArray.size_append]
    have e : (⟨#[32]⟩ : ByteArray).size = 1 := rfl
    rw [e]
    omega

end Go.Proofs.YtpjoahddbdmbpaaDoor

/-
  WALKS: commands of the program: impl.CommandValid, impl.CommandUndo, impl.CommandText.
-/
namespace Go.Proofs.YtpjoahddbdmbpaaDoor
open Go.RowKit
set_option linter.unusedVariables false

set_option maxHeartbeats 2000000 in
set_option maxRecDepth 100000 in
theorem implCmdValid_c (c : Cmd) (hp : c.p.size ≤ 2097152) (W : World) : Calls Tryd.prog 33 #[cmdV c] W (BoolPost (validC c) W) := by
  obtain ⟨dp, hdp⟩ : ∃ dp, depB c.p = dp := ⟨_, rfl⟩
  have HD := Lib.hid (fun w => show Calls Tryd.prog 47 #[.string c.p] w (fun e w' => e = .returned (.int .i64 dp) ∧ Below w.heap.size w w') by rw [← hdp]; exact pathDepth_c c.p (by omega) w)
  obtain ⟨b1, h1⟩ : ∃ b, validB c.fk c.fv = b := ⟨_, rfl⟩
  obtain ⟨b2, h2⟩ : ∃ b, validB c.tk c.tv = b := ⟨_, rfl⟩
  obtain ⟨dd, h3⟩ : ∃ b, (!sameFT c) = b := ⟨_, rfl⟩
  have HF := Lib.hid (fun w => show Calls Tryd.prog 48 #[con c.fk c.fv] w (BoolPost b1 w) by rw [← h1]; exact implValid_c _ _ w)
  have HT := Lib.hid (fun w => show Calls Tryd.prog 48 #[con c.tk c.tv] w (BoolPost b2 w) by rw [← h2]; exact implValid_c _ _ w)
  have hne := fun w' => (conNeQ c.fk c.fv c.tk c.tv w').trans (show _ = Result.ok (Value.bool dd) w' by rw [← h3]; rfl)
  have HV := Lib.hid (valid_parts (d := decide (1 ≤ dp)) (by rw [hdp]) h1 h2 h3)
  clear h1 h2 h3 hdp
  obtain ⟨p, fk, fv, tk, tv⟩ := c
  unfold cmdV
  unfold con at HF HT
  simp only at HD HF HT hne hp ⊢
  by_cases hd : 0 < dp
  · have hdd : decide (1 ≤ dp) = true := decide_eq_true (by omega)
    rw [hdd] at HV
    clear hdd
    go_enter Tryd.func33, Tryd.ntmps33
    go_wp2_with fail
    refine (HD.out _).mono ?_
    rintro e W1 ⟨rfl, hb1⟩
    have q1 := box_cell hb1 1
    have q2 := box_cell hb1 2
    have q3 := box_cell hb1 3
    have q4 := box_cell hb1 4
    simp at q1 q2 q3 q4
    have B1 := Lib.hid (below_next (below_box W _) hb1)
    clear hb1
    go_wp2_with fail
    refine (HF.out _).mono ?_
    rintro e W2 ⟨rfl, hb2⟩
    have r1 := cell_kept hb2 q1
    have r2 := cell_kept hb2 q2
    have r3 := cell_kept hb2 q3
    have r4 := cell_kept hb2 q4
    have B2 := Lib.hid (below_next B1.out hb2)
    clear hb2 q1 q2 q3 q4
    cases b1 with
    | false =>
      clear hne
      go_wp2
      go_ret
      exact ⟨ret_bool (by rw [HV.out]; rfl), B2.out⟩
    | true =>
      go_wp2_with fail
      refine (HT.out _).mono ?_
      rintro e W3 ⟨rfl, hb3⟩
      have s1 := cell_kept hb3 r1
      have s2 := cell_kept hb3 r2
      have s3 := cell_kept hb3 r3
      have s4 := cell_kept hb3 r4
      have B3 := Lib.hid (below_next B2.out hb3)
      clear hb3 r1 r2 r3 r4
      cases b2 with
      | false =>
        clear hne
        go_wp2
        go_ret
        exact ⟨ret_bool (by rw [HV.out]; rfl), B3.out⟩
      | true =>
        go_wp2
        go_ret
        exact ⟨ret_bool (by rw [HV.out]; rfl), B3.out⟩
  · have hdd : decide (1 ≤ dp) = false := decide_eq_false (by omega)
    rw [hdd] at HV
    clear hdd hne
    go_enter Tryd.func33, Tryd.ntmps33
    go_wp2_with fail
    refine (HD.out _).mono ?_
    rintro e W1 ⟨rfl, hb1⟩
    have B1 := Lib.hid (below_next (below_box W _) hb1)
    clear hb1
    go_wp2
    go_ret
    exact ⟨ret_bool (by rw [HV.out]; rfl), B1.out⟩

theorem five_atI {W : World} {n : Nat} (hn : n = W.heap.size) (a b c d e : Value) (t : TypeId) : Five (W.alloc (.cells #[a, b, c, d, e] t)) n a b c d e := by subst hn; exact five_new W a b c d e t

theorem undo_is {c : Cmd} {vc : Bool} (h : validC c = vc) : undoC c = if vc = true then ⟨c.p, c.tk, c.tv, c.fk, c.fv⟩ else zeroC := by subst h; rfl

end Go.Proofs.YtpjoahddbdmbpaaDoor

/-
  LOGS OF THE PROGRAM IN MEMORY: an entry is a command and the entry behind it.
-/
namespace Go.Proofs.YtpjoahddbdmbpaaDoor
open Go.RowKit
set_option linter.unusedVariables false

/-- The cells of an entry. -/
def entC (c : Cmd) (nx : Option Addr) : Array Value := #[.string c.p, .int .i64 c.fk, .int .i64 c.fv, .int .i64 c.tk, .int .i64 c.tv, .pointer nx]

/-- The entries from a pointer on, each of them in a block of its own from B on. -/
def EntAt (B : Nat) (W : World) : Option Addr → List Cmd → Prop
  | a, [] => a = none
  | a, c :: cs => ∃ b nx, a = some ⟨b, 0, none⟩ ∧ B ≤ b ∧ W.heap[b]? = some (.cells (entC c nx) 54 (0, 0)) ∧ EntAt B W nx cs

theorem EntAt.kept {B : Nat} {W W' : World} : ∀ {cs : List Cmd} {a : Option Addr}, EntAt B W a cs → (∀ b, B ≤ b → ∀ c t f, W.heap[b]? = some (.cells c t f) → W'.heap[b]? = W.heap[b]?) → EntAt B W' a cs
  | [], _, h, _ => h
  | _ :: _, _, ⟨b, nx, h1, h2, h3, h4⟩, hk => ⟨b, nx, h1, h2, (hk b h2 _ _ _ h3).trans h3, EntAt.kept h4 hk⟩

theorem ent_lt {W : World} {b : Nat} {o : Obj} (h : W.heap[b]? = some o) : b < W.heap.size := (Array.getElem?_eq_some_iff.1 h).1

theorem EntAt.keep {B : Nat} {W W' : World} {cs : List Cmd} {a : Option Addr} (h : EntAt B W a cs) (hb : Below W.heap.size W W') : EntAt B W' a cs :=
  h.kept fun b _ _ _ _ e => hb.block b (ent_lt e)

/-- A turn of a block that holds no cells. -/
theorem EntAt.own {B : Nat} {W W' : World} {row : Option Nat} {cs : List Cmd} {a : Option Addr} (h : EntAt B W a cs) (hg : W.grownBy W' row) (hr : ∀ r, row = some r → ∃ o : Obj, W.heap[r]? = some o ∧ o.isCells = false) : EntAt B W' a cs :=
  h.kept fun b _ c t f e => hg.block b (ent_lt e) fun q => by
    obtain ⟨o, ho, hc⟩ := hr b q.symm
    rw [e] at ho; cases ho; cases hc

/-- A store below. -/
theorem EntAt.set {B : Nat} {W : World} {cs : List Cmd} {a : Option Addr} (h : EntAt B W a cs) {p : Addr} (hp : p.block < B) (v : Value) : EntAt B (W.setCell p v) a cs :=
  h.kept fun b hb _ _ _ e => Below.heap_setCell _ _ _ _ (by omega)

theorem EntAt.alloc {B : Nat} {W : World} {cs : List Cmd} {a : Option Addr} (h : EntAt B W a cs) (o : Obj) : EntAt B (W.alloc o) a cs := h.keep (below_box _ _)

/-- An entry more. -/
theorem EntAt.push {B : Nat} {W : World} {cs : List Cmd} {a : Option Addr} (h : EntAt B W a cs) (hB : B ≤ W.heap.size) (c : Cmd) : EntAt B (W.alloc (.cells (entC c a) 54)) (some ⟨W.heap.size, 0, none⟩) (c :: cs) :=
  ⟨W.heap.size, a, rfl, hB, World.alloc_heap_new W _, h.alloc _⟩

theorem EntAt.low {B C : Nat} {W : World} (hBC : C ≤ B) : ∀ {cs : List Cmd} {a : Option Addr}, EntAt B W a cs → EntAt C W a cs
  | [], _, h => h
  | _ :: _, _, ⟨b, nx, h1, h2, h3, h4⟩ => ⟨b, nx, h1, Nat.le_trans hBC h2, h3, EntAt.low hBC h4⟩

/-- The cells of the first entry. -/
theorem EntAt.first {B : Nat} {W : World} {c : Cmd} {cs : List Cmd} {a : Option Addr} (h : EntAt B W a (c :: cs)) :
    ∃ b nx, a = some ⟨b, 0, none⟩ ∧ B ≤ b ∧ EntAt B W nx cs ∧ W.cell? ⟨b, 0, none⟩ = some (.string c.p) ∧ W.cell? ⟨b, 1, none⟩ = some (.int .i64 c.fk) ∧ W.cell? ⟨b, 2, none⟩ = some (.int .i64 c.fv) ∧ W.cell? ⟨b, 3, none⟩ = some (.int .i64 c.tk) ∧ W.cell? ⟨b, 4, none⟩ = some (.int .i64 c.tv) ∧ W.cell? ⟨b, 5, none⟩ = some (.pointer nx) := by
  obtain ⟨b, nx, h1, h2, h3, h4⟩ := h
  refine ⟨b, nx, h1, h2, h4, ?_, ?_, ?_, ?_, ?_, ?_⟩ <;> simp [World.cell?, h3, entC]

theorem EntAt.len {B : Nat} {W : World} : ∀ {xs ys : List Cmd} {a : Option Addr}, EntAt B W a xs → EntAt B W a ys → xs.length = ys.length
  | [], [], _, _, _ => rfl
  | [], _ :: _, _, h, ⟨_, _, k, _⟩ => by rw [show _ = none from h] at k; cases k
  | _ :: _, [], _, ⟨_, _, k, _⟩, h => by rw [show _ = none from h] at k; cases k
  | _ :: _, _ :: _, _, ⟨b, nx, h1, _, h3, h4⟩, ⟨b', nx', k1, _, k3, k4⟩ => by
    rw [h1] at k1
    cases k1
    rw [h3] at k3
    have e : nx = nx' := by
      have := Option.some.inj k3
      simp [entC] at this
      exact this.2.2.2.2.2
    subst e
    rw [List.length_cons, List.length_cons, EntAt.len h4 k4]

/-- How many entries there are from a pointer on. -/
theorem ent_count (B : Nat) : ∃ f : World → Value → Nat, ∀ W a cs, EntAt B W a cs → f W (.pointer a) = cs.length := by
  classical
  refine ⟨fun W v => if h : ∃ n : Nat, ∃ a cs, v = .pointer a ∧ EntAt B W a cs ∧ cs.length = n then Classical.choose h else 0, fun W a cs h => ?_⟩
  have hx : ∃ n : Nat, ∃ a' cs', (Value.pointer a) = .pointer a' ∧ EntAt B W a' cs' ∧ cs'.length = n := ⟨_, a, cs, rfl, h, rfl⟩
  show (if h : _ then _ else _) = _
  rw [dif_pos hx]
  obtain ⟨a', cs', e, h', hl⟩ := Classical.choose_spec hx
  cases e
  exact hl.symm.trans (h'.len h)

/-- A log that the call has made. -/
def EntPost (cs : List Cmd) (W : World) (e : Ending) (w' : World) : Prop := ∃ a, e = .returned (.pointer a) ∧ EntAt W.heap.size w' a cs ∧ Below W.heap.size W w'

end Go.Proofs.YtpjoahddbdmbpaaDoor

/-
  WALKS: impl.entry's undone and commands.
-/
namespace Go.Proofs.YtpjoahddbdmbpaaDoor
open Go.RowKit
set_option linter.unusedVariables false

def UndoneRel (B : Nat) (cs : List Cmd) (W : World) (e f : Value) (wr : World) : Prop :=
  ∃ (n : Nat) (x y : Option Addr), e = .pointer x ∧ f = .pointer y ∧ n ≤ cs.length ∧ Hid (EntAt B wr x (cs.drop n)) ∧ Hid (EntAt W.heap.size wr y ((cs.take n).reverse.map undoC)) ∧ Hid (Below W.heap.size W wr)

theorem undone_step {cs : List Cmd} {n : Nat} {c : Cmd} (hc : cs[n]? = some c) : (cs.take (n + 1)).reverse.map undoC = undoC c :: (cs.take n).reverse.map undoC := by
  rw [List.take_add_one, hc]
  simp

def CommandsRel (B : Nat) (cs : List Cmd) (W : World) (e l : Value) (wr : World) : Prop :=
  ∃ (n : Nat) (x : Option Addr), e = .pointer x ∧ n ≤ cs.length ∧ Hid (EntAt B W x (cs.drop n)) ∧ wr.ownsRow W.heap.size 31 5 l (cs.take n).length (flatC (cs.take n)) ∧ Hid (Below W.heap.size W wr)

end Go.Proofs.YtpjoahddbdmbpaaDoor

/-
  WALKS: laws.toContent.
-/
namespace Go.Proofs.YtpjoahddbdmbpaaDoor
open Go.RowKit

end Go.Proofs.YtpjoahddbdmbpaaDoor

/-
  WALKS: laws.eqContent at equal contents.
-/
namespace Go.Proofs.YtpjoahddbdmbpaaDoor
open Go.RowKit

end Go.Proofs.YtpjoahddbdmbpaaDoor

/-
  WALKS: commands in the exact laws: laws.toCommand, szCommand, eqCommand; spec.CommandUndo.
-/
namespace Go.Proofs.YtpjoahddbdmbpaaDoor
open Go.RowKit
set_option linter.unusedVariables false

/-- What is left; if anything is, the text is of modest length. -/
def SzCmd (c : Cmd) (w : World) (e : Ending) (w' : World) : Prop := ∃ z : Int, e = .returned (.int .i64 z) ∧ -1 ≤ z ∧ z ≤ 1048576 ∧ (0 ≤ z → c.p.size ≤ 1048576) ∧ Below w.heap.size w w'

theorem five_at {W : World} {n : Nat} (hn : n = W.heap.size) (a b c d e : Value) (t : TypeId) : Five (W.alloc (.cells #[a, b, c, d, e] t)) n a b c d e := by subst hn; exact five_new W a b c d e t

theorem undo_yes {c : Cmd} {vc : Bool} (h : validC c = vc) : undoC c = if vc = true then ⟨c.p, c.tk, c.tv, c.fk, c.fv⟩ else zeroC := by subst h; rfl

end Go.Proofs.YtpjoahddbdmbpaaDoor

/-
  WALK: spec.LogUndo.
-/
namespace Go.Proofs.YtpjoahddbdmbpaaDoor
open Go.RowKit
set_option linter.unusedVariables false

def UndoRelL (cs : List Cmd) (vl : Bool) (len : Nat) (W : World) (o i : Value) (wr : World) : Prop :=
  ∃ (n : Nat) (z : Int) (acc : List Cmd), i = .int .i64 z ∧ z = (n : Int) - 1 ∧ n ≤ len ∧ wr.ownsRow W.heap.size 31 5 o acc.length (flatC acc) ∧ Hid (acc = (cs.drop n).reverse.map undoC) ∧ Hid (vl = false → n = len) ∧ Hid (Below W.heap.size W wr)

theorem undo_out {cs acc : List Cmd} {vl : Bool} {n len : Nat} (hl : cs.length = len) (hv : validL cs = vl) (ha : acc = (cs.drop n).reverse.map undoC) (hn : vl = false → n = len) (h : vl = false ∨ n = 0) : undoL cs = acc := by
  subst ha
  cases vl with
  | false =>
    rw [undoL_bad hv, hn rfl, ← hl, List.drop_length]
    rfl
  | true =>
    rcases h with h | rfl
    · cases h
    · rw [undoL_ok hv, List.drop_zero]

end Go.Proofs.YtpjoahddbdmbpaaDoor
