/-
  Texts of this proof, one behind the other: Co, Of, Ip, Tn, Ia, Ct, Cu, Iw.
-/
import Derived.Laws.Cover1
import Derived.Deep.RegionHeld3
import Derived.Deep.Cut
import Derived.Shelf.LaysM
import Derived.Shelf.Strconv.Itoa3
import Derived.Test.YtpjoahddbdmbpaaGreatDoorChecked
import Derived.Laws.Concat
import Derived.Laws.BytesString
import Derived.Laws.Cells
import Derived.Deep.RegionWith
import Derived.Test.YtpjoahddbdmbpaaGreatDoorCv
import Derived.Test.YtpjoahddbdmbpaaGreatDoorQ4
import Derived.Test.YtpjoahddbdmbpaaGreatDoorTv
import Derived.Test.YtpjoahddbdmbpaaGreatDoorQ5
import Derived.Test.YtpjoahddbdmbpaaGreatDoorTl
import Derived.Test.YtpjoahddbdmbpaaGreatDoorCx
import Derived.Test.YtpjoahddbdmbpaaGreatDoorCk
import Derived.Test.YtpjoahddbdmbpaaGreatDoorPd
/-
  WALKS: contents: impl.contentOf, impl.ContentValid.
-/
namespace Go.Proofs.YtpjoahddbdmbpaaGreatDoor
open Go.RowKit
set_option linter.unusedVariables false

/-- What a content stands for, and whether it is one. -/
def conOf (k v : Int) : Value × Bool :=
  if k = 0 ∧ v = 0 then (.iface 131 (.agg #[]), true)
  else if k = 1 ∧ v = 0 then (.iface 132 (.agg #[]), true)
  else if k = 2 ∧ 0 ≤ v ∧ v ≤ 99 then (.iface 134 (.agg #[.int .i64 v]), true)
  else (.nilIface, false)

theorem conOf_valid (k v : Int) : (conOf k v).2 = validB k v := by
  unfold conOf validB
  split
  · rename_i h; simp [h]
  · split
    · rename_i h; simp [h]
    · split
      · rename_i h; simp [h]
      · rename_i h1 h2 h3
        symm
        apply decide_eq_false
        rintro (⟨h, h4 | h4⟩ | h)
        · exact h1 ⟨h4, h⟩
        · exact h2 ⟨h4, h⟩
        · exact h3 h

def ConPost (k v : Int) (w : World) (e : Ending) (w' : World) : Prop :=
  e = .returned (.tuple #[(conOf k v).1, .bool (conOf k v).2]) ∧ Below w.heap.size w w'

theorem con_post (k v : Int) (w : World) (r : Value × Bool) (h : conOf k v = r) (t : TypeId) : ConPost k v w (.returned (.tuple #[r.1, .bool r.2])) (w.alloc (.cells #[.int .i64 k, .int .i64 v] t)) := by
  subst h; exact ⟨rfl, below_box _ _⟩

set_option maxHeartbeats 400000 in
set_option maxRecDepth 100000 in
theorem contentOf_c (k v : Int) (w : World) : Calls Tryz.prog 56 #[con k v] w (ConPost k v w) := by
  unfold con
  by_cases h0 : k = 0
  · subst h0
    by_cases hv : v = 0
    · subst hv
      go_enter Tryz.func56, Tryz.ntmps56
      go_wp2
      go_ret2
      exact con_post _ _ _ (_, _) rfl _
    · have H := Lib.hid (show conOf 0 v = (.nilIface, false) by unfold conOf; simp [hv])
      go_enter Tryz.func56, Tryz.ntmps56
      go_wp2
      go_ret2
      exact con_post _ _ _ (_, _) H.out _
  · by_cases h1 : k = 1
    · subst h1
      clear h0
      by_cases hv : v = 0
      · subst hv
        go_enter Tryz.func56, Tryz.ntmps56
        go_wp2
        go_ret2
        exact con_post _ _ _ (_, _) rfl _
      · have H := Lib.hid (show conOf 1 v = (.nilIface, false) by unfold conOf; simp [hv])
        go_enter Tryz.func56, Tryz.ntmps56
        go_wp2
        go_ret2
        exact con_post _ _ _ (_, _) H.out _
    · by_cases h2 : k = 2
      · subst h2
        clear h0 h1
        by_cases hv : 0 ≤ v
        · by_cases hw : v ≤ 99
          · have H := Lib.hid (show conOf 2 v = (.iface 134 (.agg #[.int .i64 v]), true) by unfold conOf; simp [hv, hw])
            go_enter Tryz.func56, Tryz.ntmps56
            go_wp2
            go_ret2
            exact con_post _ _ _ (_, _) H.out _
          · have H := Lib.hid (show conOf 2 v = (.nilIface, false) by unfold conOf; simp [hw])
            have hw' : 99 < v := by omega
            clear hw
            go_enter Tryz.func56, Tryz.ntmps56
            go_wp2
            go_ret2
            exact con_post _ _ _ (_, _) H.out _
        · have H := Lib.hid (show conOf 2 v = (.nilIface, false) by unfold conOf; simp [hv])
          have hv' : v < 0 := by omega
          clear hv
          go_enter Tryz.func56, Tryz.ntmps56
          go_wp2
          go_ret2
          exact con_post _ _ _ (_, _) H.out _
      · have H := Lib.hid (show conOf k v = (.nilIface, false) by unfold conOf; simp [h0, h1, h2])
        go_enter Tryz.func56, Tryz.ntmps56
        go_wp2
        go_ret2
        exact con_post _ _ _ (_, _) H.out _

set_option maxHeartbeats 400000 in
set_option maxRecDepth 100000 in
theorem implValid_c (k v : Int) (w : World) : Calls Tryz.prog 32 #[con k v] w (BoolPost (validB k v) w) := by
  have H := Lib.hid (fun w => contentOf_c k v w)
  have HV := Lib.hid (conOf_valid k v)
  unfold con at H ⊢
  go_enter Tryz.func32, Tryz.ntmps32
  go_wp2_with fail
  refine (H.out _).mono ?_
  rintro e W1 ⟨rfl, hb⟩
  rw [HV.out]
  go_wp2
  go_ret
  exact ⟨rfl, below_next (below_box _ _) hb⟩

end Go.Proofs.YtpjoahddbdmbpaaGreatDoor

/-
  WALKS: impl.treeOf.
-/
namespace Go.Proofs.YtpjoahddbdmbpaaGreatDoor
open Go.RowKit
set_option linter.unusedVariables false

def lastB (a : List Nd) : ByteArray := match a.getLast? with
  | none => rootB
  | some m => m.p

theorem next_iff (a : List Nd) (n : Nd) : Next a n ↔ vpB n.p = true ∧ ltB (lastB a) n.p = true ∧ validB n.k n.v = true ∧ n.k ≠ 0 ∧ (getT a (parB n.p)).1 = 1 := Iff.rfl

/-- What treeOf returns. -/
def RootPost (ns : List Nd) (W : World) (e : Ending) (W' : World) : Prop :=
  Below W.heap.size W W' ∧ ((validT ns = false ∧ e = .returned (.tuple #[.pointer none, .bool false])) ∨
    (validT ns = true ∧ ∃ A b, e = .returned (.tuple #[.pointer (some ⟨b, 0, none⟩), .bool true]) ∧ A [] = some b ∧ Trie W' A (Fof ns) ∧ ∀ u c, A u = some c → W.heap.size ≤ c))

def RootRel (ns : List Nd) (W : World) (l i : Value) (wr : World) : Prop :=
  ∃ (n : Nat) (A : List UInt8 → Option Nat), i = .int .i64 n ∧ n ≤ ns.length ∧ l = .string (lastB (ns.take n)) ∧ Hid (validT (ns.take n) = true) ∧ Hid (Trie wr A (Fof (ns.take n))) ∧ Hid (A [] = some W.heap.size) ∧
    Hid (∀ u c, A u = some c → W.heap.size ≤ c) ∧ Hid (Below W.heap.size W wr)

theorem of_bad {ns : List Nd} {W w' : World} (h : validT ns = false) (hB : Below W.heap.size W w') : RootPost ns W (.returned (.tuple #[.pointer none, .bool false])) w' := ⟨hB, .inl ⟨h, rfl⟩⟩

/-- A node that does not fit. -/
theorem not_next {ns : List Nd} {i : Nat} {n : Nd} (hn : ns[i]? = some n) (hl : ns.length ≤ 10) (hv : validT (ns.take i) = true) (h : ¬ Next (ns.take i) n) : validT ns = false := by
  rw [Bool.eq_false_iff]
  intro hc
  have h2 := valid_pre hc (i + 1)
  have hi := (List.getElem?_eq_some_iff.1 hn).1
  rw [List.take_add_one, hn] at h2
  exact h ((valid_step (by rw [List.length_take]; omega) hv).1 h2)

theorem take_next {ns : List Nd} {i : Nat} {n : Nd} (hn : ns[i]? = some n) : ns.take (i + 1) = ns.take i ++ [n] := by
  rw [List.take_add_one, hn]; rfl

theorem lastB_app (a : List Nd) (n : Nd) : lastB (a ++ [n]) = n.p := by
  unfold lastB; rw [List.getLast?_concat]

theorem leq_of (a b : ByteArray) : (Op.bytesLess a.toList b.toList || a.toList == b.toList) = !ltB b a := by
  cases h : ltB b a with
  | true =>
    have h1 : Op.bytesLess a.toList b.toList = false := ltB_asymm h
    have h2 : (a.toList == b.toList) = false := toList_ne (ltB_ne h).symm
    rw [h1, h2]; rfl
  | false =>
    by_cases h1 : ltB a b = true
    · rw [show Op.bytesLess a.toList b.toList = true from h1]; rfl
    · have e := ltB_tri (show ltB a b = false by simpa using h1) h
      subst e; simp

theorem above_last {a : List Nd} {p : ByteArray} (h : validT a = true) (h2 : ltB (lastB a) p = true) : ltB rootB p = true := by
  obtain ⟨ha, hg, _⟩ := (validT_iff a).1 h
  unfold lastB at h2
  cases hl : a.getLast? with
  | none => rw [hl] at h2; exact h2
  | some l =>
    rw [hl] at h2
    exact ltB_trans (root_lt (hg l (List.mem_of_getLast? hl)).1) h2

theorem box3_cell {w w' : World} {cs : Array Value} {t : TypeId} (hb : Below (w.alloc (.cells cs t)).heap.size (w.alloc (.cells cs t)) w') (i : Nat) : w'.cell? ⟨w.heap.size, i, none⟩ = cs[i]? := by
  rw [hb.cell (p := ⟨w.heap.size, i, none⟩) (by simp)]
  rw [World.cell?_alloc_new]

theorem off_cell {A : List UInt8 → Option Nat} {W W' : World} (h : Off A W.heap.size W W') {B : Nat} (hB : B < W.heap.size) (hA : ∀ u c, A u = some c → c < B) (i : Nat) : W'.cell? ⟨B, i, none⟩ = W.cell? ⟨B, i, none⟩ := by
  have := h.block B hB (fun u e => by have := hA u B e; omega)
  unfold World.cell?
  rw [this]

theorem ext_from {A A' : List UInt8 → Option Nat} {n m : Nat} (h : Ext A A' n) (hm : m ≤ n) (hA : ∀ u c, A u = some c → m ≤ c) : ∀ u c, A' u = some c → m ≤ c := fun u c e => by
  rcases (h u c).2 e with q | q
  · exact hA u c q
  · omega

/-- A box that no place is in. -/
def Away (A : List UInt8 → Option Nat) (B : Nat) : Prop := ∀ u, A u ≠ some B

theorem ext_box {A A' : List UInt8 → Option Nat} {n B : Nat} (h : Ext A A' n) (hB : B < n) (hA : ∀ u c, A u = some c → c < B) : Away A' B := fun u e => by
  rcases (h u B).2 e with q | q
  · have := hA u B q; omega
  · omega

theorem ext_away {A A' : List UInt8 → Option Nat} {n B : Nat} (h : Ext A A' n) (hB : B < n) (hA : Away A B) : Away A' B := fun u e => by
  rcases (h u B).2 e with q | q
  · exact hA u q
  · omega

theorem off_cell2 {A : List UInt8 → Option Nat} {W W' : World} (h : Off A W.heap.size W W') {B : Nat} (hB : B < W.heap.size) (hA : Away A B) (i : Nat) : W'.cell? ⟨B, i, none⟩ = W.cell? ⟨B, i, none⟩ := by
  have := h.block B hB hA
  unfold World.cell?
  rw [this]

theorem past2 {W : World} {B b : Nat} (h : B ≠ b) {x y : Value} {i : Nat} : ((W.setCell ⟨b, 0, none⟩ x).setCell ⟨b, 1, none⟩ y).cell? ⟨B, i, none⟩ = W.cell? ⟨B, i, none⟩ := by
  rw [World.cell?_setCell_other _ _ _ _ (fun e => h (congrArg Addr.block e).symm), World.cell?_setCell_other _ _ _ _ (fun e => h (congrArg Addr.block e).symm)]

/-- A node more: the tree, and its places. -/
theorem of_step {ns : List Nd} {i : Nat} {p : ByteArray} {k v : Int} (hn : ns[i]? = some ⟨p, k, v⟩) (hv : validT (ns.take i) = true) {w : List UInt8} (hw : Wrd w) (hne : w ≠ []) (hp : p = pB w) (hl : ltB (lastB (ns.take i)) p = true)
    (hc : validB k v = true) (hk : k ≠ 0) (hpar : (Fof (ns.take i) w.dropLast).1 = 1) (h10 : ns.length ≤ 10) {A : List UInt8 → Option Nat} {W : World} {b : Nat} (hT : Trie W A (Fof (ns.take i))) (hb : A w = some b) :
    validT (ns.take (i + 1)) = true ∧ Trie ((W.setCell ⟨b, 0, none⟩ (.int .i64 k)).setCell ⟨b, 1, none⟩ (.int .i64 v)) A (Fof (ns.take (i + 1))) := by
  have hi := (List.getElem?_eq_some_iff.1 hn).1
  have hN : Next (ns.take i) ⟨p, k, v⟩ := (next_iff _ _).2 ⟨by show vpB p = true; rw [hp]; exact vpB_pB hw, hl, hc, hk, by
    show (getT (ns.take i) (parB p)).1 = 1
    rw [hp, parB_pB hw hne]; exact hpar⟩
  have hA := (next_above hv hN).1
  rw [take_next hn]
  refine ⟨(valid_step (by rw [List.length_take]; omega) hv).2 hN, (hT.write hb k v).congr fun u hu => ?_⟩
  exact (Fof_app (n := ⟨p, k, v⟩) hw hne hp (fun m hm => ltB_ne (hA m hm)) hu).symm

set_option maxHeartbeats 4000000 in
set_option maxRecDepth 100000 in
theorem treeOf_c (a : Option Addr) (len cap : Nat) (ns : List Nd) (hl : len ≤ 2097152) (hs : Short 2097152 ns) (W : World) (hN : NodesAt W a len ns) :
    Calls Tryz.prog 30 #[.slice a len cap] W (RootPost ns W) := by
  have HE := Lib.hid hN.1
  have HN := Lib.hid hN
  have HS := Lib.hid hs
  clear hN hs
  by_cases h10 : 10 < len
  · have hbad := Lib.hid (show validT ns = false by
      rw [Bool.eq_false_iff]; intro h
      have := ((validT_iff ns).1 h).2.2
      have := HE.out; omega)
    have h10' : (10 : Int) < len := by omega
    clear h10
    go_enter Tryz.func30, Tryz.ntmps30
    go_wp2
    refine bodyPost_ret (v := .tuple #[.pointer none, .bool false]) (by simp [results, Tryz.f30, go_sem]) rfl (of_bad hbad.out (Below.refl _ _))
  · have h10' : (len : Int) ≤ 10 := by omega
    have HL := Lib.hid (show len ≤ 10 by omega)
    clear h10
    go_enter Tryz.func30, Tryz.ntmps30
    go_wp2
    go_loopw [5, 16] (fun l i wr => RootRel ns W l i wr) (fun _ i _ => len - (intOf i).toNat)
    case atStart =>
      refine ⟨0, fun w => if w = [] then some W.heap.size else none, rfl, by omega, rfl, (show validT [] = true by decide), Trie.new W, if_pos rfl, fun u c hc => ?_, below_box _ _⟩
      simp at hc; omega
    case round =>
      obtain ⟨i, A, rfl, hi, rfl, HV, HT, HA0, HA, HB⟩ := hrel
      by_cases hlt : i < len
      · obtain ⟨b, off, n, rfl, hn, c0, c1, c2⟩ := (HN.out.keep HB.out).node hlt
        have hlt' : (i : Int) < len := by omega
        have HLT := Lib.hid hlt
        have HNN := Lib.hid hn
        have hsz := HS.out n (List.mem_of_getElem? hn)
        have HP := Lib.hid (fun W1 => pathValid_c n.p (by omega) W1)
        obtain ⟨vp, hvp⟩ : ∃ vp, vpB n.p = vp := ⟨_, rfl⟩
        have HP := Lib.hid (fun W1 => show Calls Tryz.prog 52 #[.string n.p] W1 (BoolPost vp W1) by rw [← hvp]; exact pathValid_c n.p (by omega) W1)
        have HVP := Lib.hid hvp
        obtain ⟨lb, hlb⟩ : ∃ lb, lastB (ns.take i) = lb := ⟨_, rfl⟩
        rw [hlb]
        have HLB := Lib.hid hlb
        have HSZ := Lib.hid hsz
        obtain ⟨p, k, v⟩ := n
        clear hlt hn hi hsz hvp hlb
        simp only at HP HVP HSZ c0 c1 c2
        go_wp2_with fail
        refine (HP.out _).mono ?_
        rintro e W2 ⟨rfl, hb2⟩
        have q0 := box3_cell hb2 0
        have q1 := box3_cell hb2 1
        have q2 := box3_cell hb2 2
        simp at q0 q1 q2
        have HB2 := Lib.hid (below_next HB.out (below_next (below_box _ _) hb2))
        have HT2 := Lib.hid ((HT.out.below (below_box _ _)).below hb2)
        have hN2 : wr.heap.size < W2.heap.size := by have := hb2.size; simp at this; omega
        have HAN := Lib.hid (show ∀ u c, A u = some c → c < wr.heap.size from fun u c h => HT.out.lt h)
        clear c0 c1 c2 hb2
        cases vp with
        | false =>
          go_wp2
          refine bodyPost_ret (v := .tuple #[.pointer none, .bool false]) (by simp [results, Tryz.f30, go_sem]) rfl (of_bad (not_next HNN.out (by have := HE.out; have := HL.out; omega) HV.out (fun h => ?_)) HB2.out)
          have := h.1
          rw [show vpB p = false from HVP.out] at this; cases this
        | true =>
          obtain ⟨lq, hlq⟩ : ∃ lq, ltB lb p = lq := ⟨_, rfl⟩
          have hle := leq_of p lb
          rw [hlq] at hle
          have HLQ := Lib.hid hlq
          have HVC := Lib.hid (fun W1 => implValid_c k v W1)
          obtain ⟨vb, hvb⟩ : ∃ vb, validB k v = vb := ⟨_, rfl⟩
          rw [hvb] at HVC
          have HVB := Lib.hid hvb
          clear hlq hvb
          cases lq with
          | false =>
            go_wp2
            refine bodyPost_ret (v := .tuple #[.pointer none, .bool false]) (by simp [results, Tryz.f30, go_sem]) rfl (of_bad (not_next HNN.out (by have := HE.out; have := HL.out; omega) HV.out (fun h => ?_)) HB2.out)
            have := ((next_iff _ _).1 h).2.1
            rw [HLB.out, show ltB lb p = false from HLQ.out] at this; cases this
          | true =>
            go_wp2_with fail
            refine (HVC.out _).mono ?_
            rintro e W3 ⟨rfl, hb3⟩
            have r0 := cell_kept hb3 q0
            have r1 := cell_kept hb3 q1
            have r2 := cell_kept hb3 q2
            have HB3 := Lib.hid (below_next HB2.out hb3)
            have HT3 := Lib.hid (HT2.out.below hb3)
            have hN3 : wr.heap.size < W3.heap.size := by have := hb3.size; omega
            clear q0 q1 q2 hb3
            cases vb with
            | false =>
              go_wp2
              refine bodyPost_ret (v := .tuple #[.pointer none, .bool false]) (by simp [results, Tryz.f30, go_sem]) rfl (of_bad (not_next HNN.out (by have := HE.out; have := HL.out; omega) HV.out (fun h => ?_)) HB3.out)
              have := ((next_iff _ _).1 h).2.2.1
              rw [show validB k v = false from HVB.out] at this; cases this
            | true =>
              by_cases hk0 : k = 0
              · have hkb : (k == 0) = true := by rw [hk0]; rfl
                have HK0 := Lib.hid hk0
                clear hk0
                go_wp2
                refine bodyPost_ret (v := .tuple #[.pointer none, .bool false]) (by simp [results, Tryz.f30, go_sem]) rfl (of_bad (not_next HNN.out (by have := HE.out; have := HL.out; omega) HV.out (fun h => ?_)) HB3.out)
                exact ((next_iff _ _).1 h).2.2.2.1 HK0.out
              · have hkb : (k == 0) = false := by simpa using hk0
                have HK0 := Lib.hid hk0
                clear hk0
                obtain ⟨w, hw, hpw⟩ := vpB_word HVP.out
                have hne : w ≠ [] := by
                  rintro rfl
                  have hx := above_last HV.out (by rw [HLB.out]; exact HLQ.out)
                  rw [hpw, pB_root, ltB_irrefl] at hx; cases hx
                have HW := Lib.hid hw
                have HPW := Lib.hid hpw
                have HNE := Lib.hid hne
                have hpar : parentB p = pB w.dropLast := by rw [hpw]; exact parB_pB hw hne
                have HPP := Lib.hid (fun W1 => show Calls Tryz.prog 53 #[.string p] W1 (fun e w' => e = .returned (.string (pB w.dropLast)) ∧ Below W1.heap.size W1 w') by rw [← hpar]; exact pathParent_c p HSZ.out W1)
                clear hpar hw hpw hne
                go_wp2_with fail
                refine (HPP.out _).mono ?_
                rintro e W4 ⟨rfl, hb4⟩
                have s0 := cell_kept hb4 r0
                have s1 := cell_kept hb4 r1
                have s2 := cell_kept hb4 r2
                have HB4 := Lib.hid (below_next HB3.out hb4)
                have HT4 := Lib.hid (HT3.out.below hb4)
                have hN4 : wr.heap.size < W4.heap.size := by have := hb4.size; omega
                clear r0 r1 r2 hb4
                go_wp2_with fail
                refine (at_c A _ _ HW.out.dropLast _ HT4.out _ HA0.out).mono ?_
                rintro e W5 ⟨A5, b5, rfl, hb5, hT5, hX5, hO5⟩
                have hoff5 := hO5
                have u0 : W5.cell? ⟨wr.heap.size, 0, none⟩ = some (.string p) := (off_cell hO5 hN4 HAN.out 0).trans s0
                have u1 : W5.cell? ⟨wr.heap.size, 1, none⟩ = some (.int .i64 k) := (off_cell hO5 hN4 HAN.out 1).trans s1
                have u2 : W5.cell? ⟨wr.heap.size, 2, none⟩ = some (.int .i64 v) := (off_cell hO5 hN4 HAN.out 2).trans s2
                have HB5 := Lib.hid (HB4.out.trans (hO5.below HB4.out.size HA.out))
                have HA5 := Lib.hid (ext_from hX5 HB4.out.size HA.out)
                have HAN5 := Lib.hid (ext_box hX5 (show wr.heap.size < W4.heap.size from hN4) HAN.out)
                have HR5 := Lib.hid ((hX5 [] _).1 HA0.out)
                have HT5 := Lib.hid hT5
                have t0 := hT5.cell hb5 0
                have hN5 : wr.heap.size < W5.heap.size := by have := hO5.size; omega
                have HB5' := Lib.hid hb5
                obtain ⟨k5, hk5⟩ : ∃ k5, k5 = (Fof (ns.take i) w.dropLast).1 := ⟨_, rfl⟩
                have t0' : W5.cell? ⟨b5, 0, none⟩ = some (.int .i64 k5) := by rw [hk5]; exact t0
                have HK5 := Lib.hid hk5
                clear s0 s1 s2 hO5 hoff5 hX5 hT5 t0 hb5 hk5
                by_cases h1 : k5 = 1
                · have hkb1 : (k5 == 1) = true := by rw [h1]; rfl
                  have H1 := Lib.hid h1
                  clear h1
                  go_upto_region 14 with (fail)
                  have HS0 := Lib.hid (show W5.drew.cell? ⟨wr.heap.size, 0, none⟩ = some (.string p) ∧ W5.drew.cell? ⟨wr.heap.size, 1, none⟩ = some (.int .i64 k) ∧ W5.drew.cell? ⟨wr.heap.size, 2, none⟩ = some (.int .i64 v) from ⟨u0, u1, u2⟩)
                  have HAT := Lib.hid (show Calls Tryz.prog 33 #[.pointer (some ⟨W.heap.size, 0, none⟩), .string p] W5.drew (AtPost A5 (Fof (ns.take i)) w W5.drew) by
                    rw [HPW.out]; exact at_c A5 _ w HW.out W5.drew (HT5.out.kept (W' := W5.drew) fun _ _ _ => rfl) _ HR5.out)
                  refine wp_region_held_drew (S := (fun w' => w'.cell? ⟨wr.heap.size, 0, none⟩ = some (.string p) ∧ w'.cell? ⟨wr.heap.size, 1, none⟩ = some (.int .i64 k) ∧ w'.cell? ⟨wr.heap.size, 2, none⟩ = some (.int .i64 v))) (by kernel_rfl) HS0.out (fun hH => ?_)
                  refine wpAnyH_take (i := 0) (oi := _) (v := ?_) rfl (by kernel_rfl) (by kernel_rfl) (by kernel_rfl) (fun _ _ _ h => h) (Or.inl ⟨by rfl, ?_⟩) (by assumption) ?_
                  rotate_left
                  · (intro w hSw; (try dsimp only at hSw); go_simp; try with_reducible rfl)
                  try simp only [Act.put, List.getElem_toArray, List.getElem_cons_zero, List.setIfInBounds_toArray, List.set_cons_zero, List.set_cons_succ]
                  refine wpAnyH_take (i := 1) (oi := _) (v := ?_) rfl (by kernel_rfl) (by kernel_rfl) (by kernel_rfl) (fun _ _ _ h => h) (Or.inl ⟨by rfl, ?_⟩) (by assumption) ?_
                  rotate_left
                  · (intro w hSw; (try dsimp only at hSw); go_simp; try with_reducible rfl)
                  try simp only [Act.put, List.getElem_toArray, List.getElem_cons_zero, List.getElem_cons_succ, List.setIfInBounds_toArray, List.set_cons_zero, List.set_cons_succ]
                  refine wpAnyH_take (i := 2) (oi := _) (v := ?_) rfl (by kernel_rfl) (by kernel_rfl) (by kernel_rfl) (fun _ _ _ h => h) (Or.inl ⟨by rfl, ?_⟩) (by assumption) ?_
                  rotate_left
                  · (intro w hSw; (try dsimp only at hSw); go_simp; try with_reducible rfl)
                  try simp only [Act.put, List.getElem_toArray, List.getElem_cons_zero, List.getElem_cons_succ, List.setIfInBounds_toArray, List.set_cons_zero, List.set_cons_succ]
                  refine wpAnyH_take (i := 4) (oi := _) (v := ?_) rfl (by kernel_rfl) (by kernel_rfl) (by kernel_rfl) (fun _ _ _ h => h) (Or.inl ⟨by rfl, ?_⟩) (by assumption) ?_
                  rotate_left
                  · (intro w hSw; (try dsimp only at hSw); go_simp; try with_reducible rfl)
                  try simp only [Act.put, List.getElem_toArray, List.getElem_cons_zero, List.getElem_cons_succ, List.setIfInBounds_toArray, List.set_cons_zero, List.set_cons_succ]
                  refine wpAnyH_take (i := 5) (oi := _) (v := ?_) rfl (by kernel_rfl) (by kernel_rfl) (by kernel_rfl) (fun _ _ _ h => h) (Or.inl ⟨by rfl, ?_⟩) (by assumption) ?_
                  rotate_left
                  · (intro w hSw; (try dsimp only at hSw); go_simp; try with_reducible rfl)
                  try simp only [Act.put, List.getElem_toArray, List.getElem_cons_zero, List.getElem_cons_succ, List.setIfInBounds_toArray, List.set_cons_zero, List.set_cons_succ]
                  refine wpAnyH_ready (rs := [3]) (by kernel_rfl) (by simp) ?_
                  refine AllReadyH.cons rfl (fun K hK => ?_) (AllReadyH.nil)
                  go_simp
                  go_at_call 33; (with_reducible refine (HAT.out).mono ?_); rintro e W6 ⟨A6, b6, rfl, hb6, hT6, hX6, hO6⟩
                  refine hK.out _ _ ⟨(off_cell2 hO6 hN5 HAN5.out 0).trans u0, (off_cell2 hO6 hN5 HAN5.out 1).trans u1, (off_cell2 hO6 hN5 HAN5.out 2).trans u2⟩ (fun hHeld => ?_)
                  try simp only [Act.put, List.getElem_toArray, List.getElem_cons_zero, List.getElem_cons_succ, List.setIfInBounds_toArray, List.set_cons_zero, List.set_cons_succ]
                  have f60 := hT6.frozen hb6 0
                  have f61 := hT6.frozen hb6 1
                  have c60 := hT6.cell hb6 0
                  have c61 := hT6.cell hb6 1
                  simp only [plc, List.getElem?_toArray, List.getElem?_cons_zero, List.getElem?_cons_succ] at c60 c61
                  refine wpAnyH_take (i := 6) (oi := _) (v := ?_) rfl (by kernel_rfl) (by kernel_rfl) (by kernel_rfl) (fun _ _ _ h => h) (Or.inl ⟨by rfl, ?_⟩) (by assumption) ?_
                  rotate_left
                  · (intro w hSw; (try dsimp only at hSw); go_simp; try with_reducible rfl)
                  try simp only [Act.put, List.getElem_toArray, List.getElem_cons_zero, List.getElem_cons_succ, List.setIfInBounds_toArray, List.set_cons_zero, List.set_cons_succ]
                  refine wpAnyH_take (i := 7) (oi := _) (v := ?_) rfl (by kernel_rfl) (by kernel_rfl) (by kernel_rfl) (fun _ _ _ h => h) (Or.inl ⟨by rfl, ?_⟩) (by assumption) ?_
                  rotate_left
                  · (intro w hSw; (try dsimp only at hSw); go_simp; try with_reducible rfl)
                  try simp only [Act.put, List.getElem_toArray, List.getElem_cons_zero, List.getElem_cons_succ, List.setIfInBounds_toArray, List.set_cons_zero, List.set_cons_succ]
                  refine wpAnyH_ready (rs := [8]) (by kernel_rfl) (by simp) ?_
                  refine AllReadyH.cons rfl (fun K hK => ?_) (AllReadyH.nil)
                  go_simp
                  have hAw6 := ext_away hX6 (show wr.heap.size < W5.drew.heap.size from hN5) HAN5.out
                  have hnb : wr.heap.size ≠ b6 := fun e => hAw6 w (by rw [e]; exact hb6)
                  have HEND := Lib.hid (of_step (k := k) (v := v) HNN.out HV.out HW.out HNE.out HPW.out (by rw [HLB.out]; exact HLQ.out) HVB.out HK0.out (by have h7 := HK5.out; rw [H1.out] at h7; exact h7.symm) (by have := HE.out; have := HL.out; omega) hT6 hb6)
                  have HB6 := Lib.hid (show Below W.heap.size W ((W6.setCell ⟨b6, 0, none⟩ (.int .i64 k)).setCell ⟨b6, 1, none⟩ (.int .i64 v)) from
                    ((HB5.out.trans (show Below W.heap.size W5 W6 from ⟨hO6.os, hO6.tape, hO6.output, hO6.size, fun j hj => hO6.block j (by have := HB5.out.size; show j < W5.heap.size; omega) fun u e => by have := HA5.out u j e; omega⟩)).setCell (ext_from hX6 (show W.heap.size ≤ W5.drew.heap.size from HB5.out.size) HA5.out w b6 hb6) _).setCell (ext_from hX6 (show W.heap.size ≤ W5.drew.heap.size from HB5.out.size) HA5.out w b6 hb6) _)
                  have HA6 := Lib.hid (ext_from hX6 (show W.heap.size ≤ W5.drew.heap.size from HB5.out.size) HA5.out)
                  have HR6 := Lib.hid ((hX6 [] _).1 HR5.out)
                  have z0 : ((W6.setCell ⟨b6, 0, none⟩ (.int .i64 k)).setCell ⟨b6, 1, none⟩ (.int .i64 v)).cell? ⟨wr.heap.size, 0, none⟩ = some (.string p) := (past2 hnb).trans ((off_cell2 hO6 hN5 HAN5.out 0).trans u0)
                  refine hK.out _ _ ⟨z0, (past2 hnb).trans ((off_cell2 hO6 hN5 HAN5.out 1).trans u1), (past2 hnb).trans ((off_cell2 hO6 hN5 HAN5.out 2).trans u2)⟩ (fun hHeld => ?_)
                  try simp only [Act.put, List.getElem_toArray, List.getElem_cons_zero, List.getElem_cons_succ, List.setIfInBounds_toArray, List.set_cons_zero, List.set_cons_succ]
                  refine wpAnyH_done (by kernel_rfl) ?_ _
                  clear hK hO6 hX6 hT6 hb6 f60 f61 c60 c61 u0 u1 u2 t0'
                  generalize (W6.setCell ⟨b6, 0, none⟩ (.int .i64 k)).setCell ⟨b6, 1, none⟩ (.int .i64 v) = W7 at HEND HB6 z0 ⊢
                  go_wp2
                  go_roundw
                  case rel => exact ⟨i + 1, A6, by go_num, by have := HE.out; have := HLT.out; omega, by rw [take_next HNN.out, lastB_app], HEND.out.1, HEND.out.2, HR6.out, HA6.out, HB6.out⟩
                  case measure => have := HLT.out; simp [intOf]; omega
                · have hkb1 : (k5 == 1) = false := by simpa using h1
                  have H1 := Lib.hid h1
                  clear h1
                  go_wp2
                  refine bodyPost_ret (v := .tuple #[.pointer none, .bool false]) (by simp [results, Tryz.f30, go_sem]) rfl (of_bad (not_next HNN.out (by have := HE.out; have := HL.out; omega) HV.out (fun h => ?_)) HB5.out)
                  have := ((next_iff _ _).1 h).2.2.2.2
                  rw [show (⟨p, k, v⟩ : Nd).p = p from rfl, HPW.out, parB_pB HW.out HNE.out] at this
                  exact H1.out (HK5.out.trans this)
      · have hge : (len : Int) ≤ i := by omega
        have hieq : i = len := by have := HE.out; omega
        have htk : ns.take i = ns := List.take_of_length_le (by have := HE.out; omega)
        rw [htk] at HV HT
        go_wp2
        refine bodyPost_ret (v := .tuple #[.pointer (some ⟨W.heap.size, 0, none⟩), .bool true]) (by simp [results, Tryz.f30, go_sem]) rfl ⟨HB.out, .inr ⟨HV.out, A, W.heap.size, rfl, HA0.out, HT.out, HA.out⟩⟩

end Go.Proofs.YtpjoahddbdmbpaaGreatDoor

/-
  WALKS: impl.TreeValid, impl.TreeGet.
-/
namespace Go.Proofs.YtpjoahddbdmbpaaGreatDoor
open Go.RowKit
set_option linter.unusedVariables false

set_option maxHeartbeats 1000000 in
set_option maxRecDepth 100000 in
theorem implTreeValid_c (a : Option Addr) (len cap : Nat) (ns : List Nd) (hl : len ≤ 2097152) (hs : Short 2097152 ns) (W : World) (hN : NodesAt W a len ns) :
    Calls Tryz.prog 35 #[.slice a len cap] W (BoolPost (validT ns) W) := by
  have H := Lib.hid (treeOf_c a len cap ns hl hs W hN)
  clear hN hs
  go_enter Tryz.func35, Tryz.ntmps35
  go_wp2_with fail
  refine H.out.mono ?_
  rintro e W2 ⟨hB, ⟨hv, rfl⟩ | ⟨hv, A, b, rfl, _, _, _⟩⟩
  · have HV := Lib.hid hv
    clear hv
    go_wp2
    go_ret
    exact ⟨ret_bool HV.out.symm, hB⟩
  · have HV := Lib.hid hv
    clear hv
    go_wp2
    go_ret
    exact ⟨ret_bool HV.out.symm, hB⟩

theorem treeGet_bad {ns : List Nd} {p : ByteArray} (h : validT ns = false ∨ vpB p = false) : treeGet ns p = (0, 0) := by
  unfold treeGet
  rcases h with h | h <;> simp [h]

set_option maxHeartbeats 2000000 in
set_option maxRecDepth 100000 in
theorem implTreeGet_c (a : Option Addr) (len cap : Nat) (ns : List Nd) (p : ByteArray) (hl : len ≤ 2097152) (hs : Short 2097152 ns) (hp : p.size ≤ 2097152) (W : World) (hN : NodesAt W a len ns) :
    Calls Tryz.prog 82 #[.slice a len cap, .string p] W (ConRet (treeGet ns p).1 (treeGet ns p).2 W) := by
  have H := Lib.hid (fun W1 (hb : Below W.heap.size W W1) => treeOf_c a len cap ns hl hs W1 (hN.keep hb))
  have HS := Lib.hid hs
  have HN := Lib.hid hN
  obtain ⟨vp, hvp⟩ : ∃ vp, vpB p = vp := ⟨_, rfl⟩
  have HP := Lib.hid (fun W1 => show Calls Tryz.prog 52 #[.string p] W1 (BoolPost vp W1) by rw [← hvp]; exact pathValid_c p (by omega) W1)
  have HVP := Lib.hid hvp
  clear hN hs hvp
  go_enter Tryz.func82, Tryz.ntmps82
  go_wp2_with fail
  refine (H.out _ (below_box _ _)).mono ?_
  rintro e W2 ⟨hB, h⟩
  rcases h with ⟨hv, rfl⟩ | ⟨hv, A, b, rfl, hA0, hT, hA⟩
  · have HG := Lib.hid (treeGet_bad (p := p) (.inl hv))
    have T1 := Lib.hid ((two_new W _ _ _).below hB)
    have B1 := Lib.hid (below_next (below_box W _) hB)
    obtain ⟨g0, g1, f0, f1, -⟩ := T1.out
    clear hv hB
    go_wp2
    exact conS_set 4 _ rfl HG.out T1.out B1.out rfl
  · have HV := Lib.hid hv
    have HB1 := Lib.hid hB
    have HT := Lib.hid hT
    have HA := Lib.hid hA
    have HA0 := Lib.hid hA0
    clear hv hB hT hA hA0
    go_wp2_with fail
    refine (HP.out _).mono ?_
    rintro e W3 ⟨rfl, hb3⟩
    cases vp with
    | false =>
      have HG := Lib.hid (treeGet_bad (ns := ns) (p := p) (.inr HVP.out))
      have T1 := Lib.hid (((two_new W _ _ _).below HB1.out).below hb3)
      have B1 := Lib.hid (below_next (below_box W _) (below_next HB1.out hb3))
      obtain ⟨g0, g1, f0, f1, -⟩ := T1.out
      clear hb3
      go_wp2
      exact conS_set 4 _ rfl HG.out T1.out B1.out rfl
    | true =>
      obtain ⟨w, hw, hpw⟩ := vpB_word HVP.out
      have HG := Lib.hid (show treeGet ns p = ((Fof ns w).1, (Fof ns w).2) by rw [treeGet_eq HV.out HVP.out, hpw]; rfl)
      have HB3 := Lib.hid (below_next HB1.out hb3)
      have HAT := Lib.hid (show Calls Tryz.prog 33 #[.pointer (some ⟨b, 0, none⟩), .string p] W3 (AtPost A (Fof ns) w W3) by
        rw [hpw]; exact at_c A _ w hw W3 (HT.out.below hb3) _ HA0.out)
      clear hb3 hw hpw
      go_wp2_with fail
      refine HAT.out.mono ?_
      rintro e W4 ⟨A4, b4, rfl, hb4, hT4, hX4, hO4⟩
      have HB4 := Lib.hid (HB3.out.trans (hO4.below (m := (W.alloc (.cells #[.int .i64 0, .int .i64 0] 34)).heap.size) HB3.out.size HA.out))
      have T1 := Lib.hid ((two_new W _ _ _).below HB4.out)
      have B1 := Lib.hid (below_next (below_box W _) HB4.out)
      obtain ⟨g0, g1, f0, f1, -⟩ := T1.out
      have c0 := hT4.cell hb4 0
      have c1 := hT4.cell hb4 1
      have c0' : W4.cell? ⟨b4, 0, none⟩ = some (.int .i64 (Fof ns w).1) := c0
      have c1' : W4.cell? ⟨b4, 1, none⟩ = some (.int .i64 (Fof ns w).2) := c1
      clear hO4 hX4 hT4 hb4 c0 c1
      generalize (Fof ns w).1 = k at c0' HG
      generalize (Fof ns w).2 = v at c1' HG
      go_wp2
      exact conS_set 4 _ rfl HG.out T1.out B1.out rfl

end Go.Proofs.YtpjoahddbdmbpaaGreatDoor

/-
  WALKS: spec.TreeUnder.
-/
namespace Go.Proofs.YtpjoahddbdmbpaaGreatDoor
open Go.RowKit
set_option linter.unusedVariables false

/-- A list of texts that the call has made, and nothing that was there has turned. -/
def TextsPost (xs : List ByteArray) (W : World) (e : Ending) (w' : World) : Prop :=
  (∃ sl, e = .returned sl ∧ w'.ownsRow W.heap.size 9 1 sl xs.length (xs.map Value.string)) ∧ Below W.heap.size W w'

def undAcc (ns : List Nd) (p : ByteArray) (i : Nat) : List ByteArray := ((ns.take i).filter (fun n => undB p n.p)).map Nd.p

theorem undAcc_yes {ns : List Nd} {p : ByteArray} {i : Nat} {n : Nd} (hn : ns[i]? = some n) (h : undB p n.p = true) : undAcc ns p (i + 1) = undAcc ns p i ++ [n.p] := by
  unfold undAcc
  rw [List.take_add_one, hn]
  simp [List.filter_append, h]

theorem undAcc_no {ns : List Nd} {p : ByteArray} {i : Nat} {n : Nd} (hn : ns[i]? = some n) (h : undB p n.p = false) : undAcc ns p (i + 1) = undAcc ns p i := by
  unfold undAcc
  rw [List.take_add_one, hn]
  simp [List.filter_append, h]

theorem undAcc_len (ns : List Nd) (p : ByteArray) (i : Nat) : (undAcc ns p i).length ≤ i := by
  unfold undAcc
  rw [List.length_map]
  exact Nat.le_trans (List.length_filter_le _ _) (by rw [List.length_take]; omega)

def UnderRel (ns : List Nd) (p : ByteArray) (W : World) (o i : Value) (wr : World) : Prop :=
  ∃ n : Nat, i = .int .i64 n ∧ n ≤ ns.length ∧ wr.ownsRow W.heap.size 9 1 o (undAcc ns p n).length ((undAcc ns p n).map Value.string) ∧ Hid (Below W.heap.size W wr)

theorem under_none {ns : List Nd} {p : ByteArray} (h : (validT ns && vpB p) = false) : treeUnder ns p = [] := by unfold treeUnder; rw [h]; rfl

end Go.Proofs.YtpjoahddbdmbpaaGreatDoor

/-
  strconv.Itoa of a number below 100, by the library's contract, at this program's numbers.
-/
namespace Go.Proofs.YtpjoahddbdmbpaaGreatDoor
open Go.Shelf
end Go.Proofs.YtpjoahddbdmbpaaGreatDoor

/-
  WALKS: the texts of contents: impl.ContentText, spec.l6Dec, spec.ContentText.
-/
namespace Go.Proofs.YtpjoahddbdmbpaaGreatDoor
open Go.RowKit
set_option linter.unusedVariables false

/-- The decimal of a number. -/
def decB (n : Nat) : ByteArray := ⟨(Lib.decDigits n).toArray⟩

theorem decB_small (n : Nat) (h : n < 10) : decB n = ⟨#[UInt8.ofNat (48 + n)]⟩ := by unfold decB; rw [Lib.decDigits_one h]
theorem decB_more (n : Nat) (h : ¬ n < 10) : decB n = decB (n / 10) ++ ⟨#[UInt8.ofNat (48 + n % 10)]⟩ := by
  unfold decB
  conv => lhs; rw [Lib.decDigits]
  rw [dif_neg h]
  apply ByteArray.ext
  simp [ByteArray.data_append]

theorem conv1 (W : World) (g : Nat) (x : Int) (h : W.cell? ⟨g, 0, none⟩ = some (.int .u8 x)) :
    (convert 22 9 (.slice (some ⟨g, 0, none⟩) 1 1)).run Tryz.prog W = .ok (.string ⟨#[UInt8.ofNat x.toNat]⟩) W := by
  rw [run_convert_bytes_string (e := 5) W _ _ _ _ _ Tryz.underlying22 Tryz.underlying5 Tryz.underlying9]
  refine (run_bytesToString W ⟨g, 0, none⟩ 1 1 [x] ?_).trans ?_
  · have hl := run_loadCells_list (P := Tryz.prog) (w := W) ⟨g, 0, none⟩ [.int .u8 x] (by
      intro j v hj
      match j, hj with
      | 0, hj => simp at hj; subst hj; simpa [Addr.add] using h)
    simpa using hl
  · rfl

theorem convN (W : World) (x : Int) (t : TypeId) :
    (convert 22 9 (.slice (some ⟨W.heap.size, 0, none⟩) 1 1)).run Tryz.prog (W.alloc (.cells #[.int .u8 x] t)) = .ok (.string ⟨#[UInt8.ofNat x.toNat]⟩) (W.alloc (.cells #[.int .u8 x] t)) :=
  conv1 _ _ _ (by rw [World.cell?_alloc_new]; rfl)

def decCell (n : Nat) : Obj := .cells #[.int .u8 (48 + (n : Int))] 5

def DecPost (n : Nat) (w : World) (e : Ending) (w' : World) : Prop := e = .returned (.string (decB n)) ∧ Below w.heap.size w w'

theorem dec_end {n : Nat} {s : ByteArray} {w w' : World} (h : decB n = s) (k : Below w.heap.size w w') : DecPost n w (.returned (.string s)) w' := ⟨by rw [h], k⟩

theorem below_two (w : World) (o1 o2 : Obj) : Below w.heap.size w ((w.drew.alloc o1).alloc o2) :=
  ((Below.refl w.heap.size w).drew.alloc (Nat.le_refl _) o1).alloc (by simp) o2

theorem decB_size (n : Nat) (hn : n < 100) : (decB n).size ≤ 2 := by
  unfold decB
  rw [Lib.size_eq]
  show (Lib.decDigits n).length ≤ 2
  by_cases h : n < 10
  · rw [Lib.decDigits_one h]; simp
  · rw [Lib.decDigits_two h hn]; simp

/-- A text, and nothing that was there has turned. -/
def TextPost (s : ByteArray) (w : World) (e : Ending) (w' : World) : Prop := e = .returned (.string s) ∧ Below w.heap.size w w'

/-- The text of a content; empty if it is none. -/
def conText (k v : Int) : ByteArray :=
  if validB k v = true then (if k = 0 then ⟨#[45]⟩ else if k = 1 then ⟨#[100]⟩ else ⟨#[102]⟩ ++ decB v.toNat) else ⟨#[]⟩

theorem text_end {s t : ByteArray} {w w' : World} (h : t = s) (k : Below w.heap.size w w') : TextPost s w (.returned (.string t)) w' := ⟨by rw [h], k⟩

theorem method_nothing (W : World) : (method 301 131 (.agg #[]) "loop.example/filereconciler/impl.text").run Tryz.prog W = .ok (132, .agg #[]) W := by kernel_rfl
theorem method_directory (W : World) : (method 301 132 (.agg #[]) "loop.example/filereconciler/impl.text").run Tryz.prog W = .ok (133, .agg #[]) W := by kernel_rfl
theorem method_file (v : Int) (W : World) : (method 301 134 (.agg #[.int .i64 v]) "loop.example/filereconciler/impl.text").run Tryz.prog W = .ok (134, .agg #[.int .i64 v]) W := by kernel_rfl

theorem conText_bad {k v : Int} (h : validB k v = false) : (⟨#[]⟩ : ByteArray) = conText k v := by unfold conText; rw [h]; rfl

theorem conText_empty (k v : Int) : (conText k v).toList.isEmpty = !validB k v := by
  unfold conText
  split
  · rename_i h
    rw [h]
    split
    · rw [Lib.toList_data]; rfl
    · split
      · rw [Lib.toList_data]; rfl
      · rw [Lib.toList_data, ByteArray.data_append]; simp
  · rename_i h
    have : validB k v = false := by simpa using h
    rw [this, Lib.toList_data]; rfl

end Go.Proofs.YtpjoahddbdmbpaaGreatDoor

/-
  TEXTS OF COMMANDS; WALK: spec.CommandText.
-/
namespace Go.Proofs.YtpjoahddbdmbpaaGreatDoor
open Go.RowKit
set_option linter.unusedVariables false

def blB : ByteArray := ⟨#[32]⟩

/-- spec.CommandText. -/
def textC (c : Cmd) : ByteArray := if validC c = true then c.p ++ blB ++ conText c.fk c.fv ++ blB ++ conText c.tk c.tv else ⟨#[]⟩

theorem conSize_le (k v : Int) : (conText k v).size ≤ 3 := by
  unfold conText
  split
  · rename_i h
    split
    · decide
    · split
      · decide
      · rename_i h0 h1
        have h' := h
        unfold validB at h'
        simp [h0, h1] at h'
        rw [ByteArray.size_append]
        have := decB_size v.toNat (by omega)
        show 1 + _ ≤ 3
        omega
  · decide

theorem textC_bad {c : Cmd} (h : validC c = false) : textC c = ⟨#[]⟩ := if_neg (by rw [h]; decide)
theorem textC_ok {c : Cmd} (h : validC c = true) : textC c = c.p ++ ⟨#[32]⟩ ++ conText c.fk c.fv ++ ⟨#[32]⟩ ++ conText c.tk c.tv := if_pos h

theorem pathB_size {p : ByteArray} (h : 1 ≤ depB p) : p.size ≤ 8 := by
  obtain ⟨w, hw, rfl⟩ := vpB_word (vp_of_depth h)
  show (Pm.pathOf w).length ≤ 8
  unfold Pm.pathOf
  split
  · simp
  · rw [Pm.flat_length]; have := hw.1; omega

theorem textC_size (c : Cmd) : (textC c).size ≤ 16 := by
  cases h : validC c with
  | false => rw [textC_bad h]; decide
  | true =>
    have h1 := pathB_size ((validC_iff c).1 h).1
    have h2 := conSize_le c.fk c.fv
    have h3 := conSize_le c.tk c.tv
    rw [textC_ok h]
    simp only [ByteArray.size_append]
    have e : (⟨#[32]⟩ : ByteArray).size = 1 := rfl
    rw [e]
    omega

end Go.Proofs.YtpjoahddbdmbpaaGreatDoor

/-
  WALKS: commands of the program: impl.CommandValid, impl.CommandUndo, impl.CommandText.
-/
namespace Go.Proofs.YtpjoahddbdmbpaaGreatDoor
open Go.RowKit
set_option linter.unusedVariables false

set_option maxHeartbeats 2000000 in
set_option maxRecDepth 100000 in
theorem implCmdValid_c (c : Cmd) (hp : c.p.size ≤ 2097152) (W : World) : Calls Tryz.prog 59 #[cmdV c] W (BoolPost (validC c) W) := by
  obtain ⟨dp, hdp⟩ : ∃ dp, depB c.p = dp := ⟨_, rfl⟩
  have HD := Lib.hid (fun w => show Calls Tryz.prog 31 #[.string c.p] w (fun e w' => e = .returned (.int .i64 dp) ∧ Below w.heap.size w w') by rw [← hdp]; exact pathDepth_c c.p (by omega) w)
  obtain ⟨b1, h1⟩ : ∃ b, validB c.fk c.fv = b := ⟨_, rfl⟩
  obtain ⟨b2, h2⟩ : ∃ b, validB c.tk c.tv = b := ⟨_, rfl⟩
  obtain ⟨dd, h3⟩ : ∃ b, (!sameFT c) = b := ⟨_, rfl⟩
  have HF := Lib.hid (fun w => show Calls Tryz.prog 32 #[con c.fk c.fv] w (BoolPost b1 w) by rw [← h1]; exact implValid_c _ _ w)
  have HT := Lib.hid (fun w => show Calls Tryz.prog 32 #[con c.tk c.tv] w (BoolPost b2 w) by rw [← h2]; exact implValid_c _ _ w)
  have hne := fun w' => (conNeQ c.fk c.fv c.tk c.tv w').trans (show _ = Result.ok (Value.bool dd) w' by rw [← h3]; rfl)
  have HV := Lib.hid (valid_parts (d := decide (1 ≤ dp)) (by rw [hdp]) h1 h2 h3)
  clear h1 h2 h3 hdp
  obtain ⟨p, fk, fv, tk, tv⟩ := c
  unfold cmdV
  unfold con at HF HT
  simp only at HD HF HT hne hp ⊢
  by_cases hd : 0 < dp
  · have hdd : decide (1 ≤ dp) = true := decide_eq_true (by omega)
    rw [hdd] at HV
    clear hdd
    go_enter Tryz.func59, Tryz.ntmps59
    go_wp2_with fail
    refine (HD.out _).mono ?_
    rintro e W1 ⟨rfl, hb1⟩
    have q1 := box_cell hb1 1
    have q2 := box_cell hb1 2
    have q3 := box_cell hb1 3
    have q4 := box_cell hb1 4
    simp at q1 q2 q3 q4
    have B1 := Lib.hid (below_next (below_box W _) hb1)
    clear hb1
    go_wp2_with fail
    refine (HF.out _).mono ?_
    rintro e W2 ⟨rfl, hb2⟩
    have r1 := cell_kept hb2 q1
    have r2 := cell_kept hb2 q2
    have r3 := cell_kept hb2 q3
    have r4 := cell_kept hb2 q4
    have B2 := Lib.hid (below_next B1.out hb2)
    clear hb2 q1 q2 q3 q4
    cases b1 with
    | false =>
      clear hne
      go_wp2
      go_ret
      exact ⟨ret_bool (by rw [HV.out]; rfl), B2.out⟩
    | true =>
      go_wp2_with fail
      refine (HT.out _).mono ?_
      rintro e W3 ⟨rfl, hb3⟩
      have s1 := cell_kept hb3 r1
      have s2 := cell_kept hb3 r2
      have s3 := cell_kept hb3 r3
      have s4 := cell_kept hb3 r4
      have B3 := Lib.hid (below_next B2.out hb3)
      clear hb3 r1 r2 r3 r4
      cases b2 with
      | false =>
        clear hne
        go_wp2
        go_ret
        exact ⟨ret_bool (by rw [HV.out]; rfl), B3.out⟩
      | true =>
        go_wp2
        go_ret
        exact ⟨ret_bool (by rw [HV.out]; rfl), B3.out⟩
  · have hdd : decide (1 ≤ dp) = false := decide_eq_false (by omega)
    rw [hdd] at HV
    clear hdd hne
    go_enter Tryz.func59, Tryz.ntmps59
    go_wp2_with fail
    refine (HD.out _).mono ?_
    rintro e W1 ⟨rfl, hb1⟩
    have B1 := Lib.hid (below_next (below_box W _) hb1)
    clear hb1
    go_wp2
    go_ret
    exact ⟨ret_bool (by rw [HV.out]; rfl), B1.out⟩

theorem five_atI {W : World} {n : Nat} (hn : n = W.heap.size) (a b c d e : Value) (t : TypeId) : Five (W.alloc (.cells #[a, b, c, d, e] t)) n a b c d e := by subst hn; exact five_new W a b c d e t

theorem undo_is {c : Cmd} {vc : Bool} (h : validC c = vc) : undoC c = if vc = true then ⟨c.p, c.tk, c.tv, c.fk, c.fv⟩ else zeroC := by subst h; rfl

end Go.Proofs.YtpjoahddbdmbpaaGreatDoor
