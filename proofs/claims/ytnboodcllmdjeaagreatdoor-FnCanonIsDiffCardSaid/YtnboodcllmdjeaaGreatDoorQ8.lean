/-
  Texts of this proof, one behind the other: St, Sd, Bk, Sk, Se, Fm, Fa, Fb, Ss, Sv, Is, Iu, Fc, Fd, Sw, Sx, Ic, Iv, Ng, Nh, Nj, Nk, Hk, Hl.
-/
import Derived.Shelf.LaysM
import Derived.Shelf.Sort.Plain
import Derived.Shelf.Slices.CompactS
import Derived.Shelf.Slices.In.SortNone
import Derived.Sort.OwnSorted
import Derived.Test.YtnboodcllmdjeaaGreatDoorChecked
import Derived.RangeFuncNested
import Derived.RangeFuncBound
import Derived.RangeFuncCalls
import Derived.RangeFuncLeaves
import Derived.OwnWalkIn
import Derived.TacticsInMore
import Derived.LoopNIn
import Derived.LoopIn
import Derived.Lib.HexFns2
import Derived.Laws.Cover1
import Derived.StillTailTactics
import Derived.Deep.RegionHeld3
import Derived.Deep.Cut
import Derived.Deep.RegionLaw
import Derived.WalkSmall
import Derived.Maps.AppendAt
import Derived.OwnWalk
import Derived.Laws.OwnMore
import Derived.Laws.AppendOwnNone
import Derived.Deep.QuietTactic
import Derived.BigQuiet
import Derived.Laws.StructEq
import Derived.Test.YtnboodcllmdjeaaGreatDoorQ7
import Derived.Test.YtnboodcllmdjeaaGreatDoorSu
import Derived.Test.YtnboodcllmdjeaaGreatDoorTa
import Derived.Test.YtnboodcllmdjeaaGreatDoorTl
import Derived.Test.YtnboodcllmdjeaaGreatDoorBn
import Derived.Test.YtnboodcllmdjeaaGreatDoorBq
import Derived.Test.YtnboodcllmdjeaaGreatDoorQ5
import Derived.Test.YtnboodcllmdjeaaGreatDoorTv
import Derived.Test.YtnboodcllmdjeaaGreatDoorCc
import Derived.Test.YtnboodcllmdjeaaGreatDoorQ10
import Derived.Test.YtnboodcllmdjeaaGreatDoorAp
import Derived.Test.YtnboodcllmdjeaaGreatDoorQ2
import Derived.Test.YtnboodcllmdjeaaGreatDoorQ4
import Derived.Test.YtnboodcllmdjeaaGreatDoorQ1
/-
  slices.Sort and slices.Compact of texts, by the library's contracts, at this program's numbers.
-/
namespace Go.Proofs.YtnboodcllmdjeaaGreatDoor
open Go.Shelf Go.RowKit
def So0.lays190_ren : Go.Shelf.Ren := ⟨fun | 190 => 61 | 125 => 89 | 258 => 88 | 128 => 111 | 129 => 112 | 302 => 102 | 303 => 103 | 304 => 104 | 305 => 105 | 306 => 106 | 307 => 107 | 308 => 108 | 309 => 109 | 310 => 110 | 333 => 120 | 329 => 121 | 330 => 122 | 334 => 123 | 335 => 124 | 336 => 125 | 344 => 129 | n => n, fun | 31 => 65 | 9 => 9 | 3 => 3 | 46 => 135 | 0 => 0 | 51 => 173 | 53 => 175 | 4 => 4 | 183 => 165 | 182 => 164 | 131 => 170 | 5 => 5 | 218 => 183 | 222 => 187 | 228 => 190 | 229 => 191 | n => n, fun | n => n⟩
theorem So0.lays190 : Go.Proofs.Lays.n190 Tryz.prog So0.lays190_ren := {
  mixed := by kernel_rfl
  f125 := Tryz.func89.trans (congrArg some (by kernel_rfl))
  f128 := Tryz.func111.trans (congrArg some (by kernel_rfl))
  f129 := Tryz.func112.trans (congrArg some (by kernel_rfl))
  f190 := Tryz.func61.trans (congrArg some (by kernel_rfl))
  f258 := Tryz.func88.trans (congrArg some (by kernel_rfl))
  f302 := Tryz.func102.trans (congrArg some (by kernel_rfl))
  f303 := Tryz.func103.trans (congrArg some (by kernel_rfl))
  f304 := Tryz.func104.trans (congrArg some (by kernel_rfl))
  f305 := Tryz.func105.trans (congrArg some (by kernel_rfl))
  f306 := Tryz.func106.trans (congrArg some (by kernel_rfl))
  f307 := Tryz.func107.trans (congrArg some (by kernel_rfl))
  f308 := Tryz.func108.trans (congrArg some (by kernel_rfl))
  f309 := Tryz.func109.trans (congrArg some (by kernel_rfl))
  f310 := Tryz.func110.trans (congrArg some (by kernel_rfl))
  f329 := Tryz.func121.trans (congrArg some (by kernel_rfl))
  f330 := Tryz.func122.trans (congrArg some (by kernel_rfl))
  f333 := Tryz.func120.trans (congrArg some (by kernel_rfl))
  f334 := Tryz.func123.trans (congrArg some (by kernel_rfl))
  f335 := Tryz.func124.trans (congrArg some (by kernel_rfl))
  f336 := Tryz.func125.trans (congrArg some (by kernel_rfl))
  f344 := Tryz.func129.trans (congrArg some (by kernel_rfl))
  t0 := Tryz.underlying0
  a0 := Tryz.isAgg0
  z0 := Tryz.sizeOf0
  v0 := Tryz.zeroValue0
  t3 := Tryz.underlying3
  a3 := Tryz.isAgg3
  z3 := Tryz.sizeOf3
  v3 := Tryz.zeroValue3
  t4 := Tryz.underlying4
  a4 := Tryz.isAgg4
  z4 := Tryz.sizeOf4
  v4 := Tryz.zeroValue4
  t5 := Tryz.underlying5
  a5 := Tryz.isAgg5
  z5 := Tryz.sizeOf5
  v5 := Tryz.zeroValue5
  t9 := Tryz.underlying9
  a9 := Tryz.isAgg9
  z9 := Tryz.sizeOf9
  v9 := Tryz.zeroValue9
  t31 := Tryz.underlying65
  a31 := Tryz.isAgg65
  z31 := Tryz.sizeOf65
  v31 := Tryz.zeroValue65
  t46 := Tryz.underlying135
  a46 := Tryz.isAgg135
  z46 := Tryz.sizeOf135
  v46 := Tryz.zeroValue135
  t51 := Tryz.underlying173
  a51 := Tryz.isAgg173
  z51 := Tryz.sizeOf173
  v51 := Tryz.zeroValue173
  t53 := Tryz.underlying175
  a53 := Tryz.isAgg175
  z53 := Tryz.sizeOf175
  v53 := Tryz.zeroValue175
  t131 := Tryz.underlying170
  a131 := Tryz.isAgg170
  z131 := Tryz.sizeOf170
  v131 := Tryz.zeroValue170
  t182 := Tryz.underlying164
  a182 := Tryz.isAgg164
  z182 := Tryz.sizeOf164
  v182 := Tryz.zeroValue164
  t183 := Tryz.underlying165
  a183 := Tryz.isAgg165
  z183 := Tryz.sizeOf165
  v183 := Tryz.zeroValue165
  t218 := Tryz.underlying183
  a218 := Tryz.isAgg183
  z218 := Tryz.sizeOf183
  v218 := Tryz.zeroValue183
  t222 := Tryz.underlying187
  a222 := Tryz.isAgg187
  z222 := Tryz.sizeOf187
  v222 := Tryz.zeroValue187
  t228 := Tryz.underlying190
  a228 := Tryz.isAgg190
  z228 := Tryz.sizeOf190
  v228 := Tryz.zeroValue190
  t229 := Tryz.underlying191
  a229 := Tryz.isAgg191
  z229 := Tryz.sizeOf191
  v229 := Tryz.zeroValue191 }
def So0.lays194_ren : Go.Shelf.Ren := ⟨fun | 194 => 62 | n => n, fun | 31 => 65 | 9 => 9 | 3 => 3 | 4 => 4 | 0 => 0 | n => n, fun | n => n⟩
theorem So0.lays194 : Go.Proofs.Lays.n194 Tryz.prog So0.lays194_ren := {
  mixed := by kernel_rfl
  f194 := Tryz.func62.trans (congrArg some (by kernel_rfl))
  t0 := Tryz.underlying0
  a0 := Tryz.isAgg0
  z0 := Tryz.sizeOf0
  v0 := Tryz.zeroValue0
  t3 := Tryz.underlying3
  a3 := Tryz.isAgg3
  z3 := Tryz.sizeOf3
  v3 := Tryz.zeroValue3
  t4 := Tryz.underlying4
  a4 := Tryz.isAgg4
  z4 := Tryz.sizeOf4
  v4 := Tryz.zeroValue4
  t9 := Tryz.underlying9
  a9 := Tryz.isAgg9
  z9 := Tryz.sizeOf9
  v9 := Tryz.zeroValue9
  t31 := Tryz.underlying65
  a31 := Tryz.isAgg65
  z31 := Tryz.sizeOf65
  v31 := Tryz.zeroValue65 }

end Go.Proofs.YtnboodcllmdjeaaGreatDoor

/-
  WALKS: slices.Sort and slices.Compact of texts that the call owns.
-/
namespace Go.Proofs.YtnboodcllmdjeaaGreatDoor
open Go.Shelf Go.RowKit Go.Sort
set_option linter.unusedVariables false

def bytesOf (xs : List ByteArray) : List (List UInt8) := xs.map (fun x => x.data.toList)
def textsOf (ss : List (List UInt8)) : List ByteArray := ss.map (fun s => ⟨s.toArray⟩)

theorem bytes_texts (ss : List (List UInt8)) : bytesOf (textsOf ss) = ss := by
  unfold bytesOf textsOf
  rw [List.map_map]
  have : ((fun x : ByteArray => x.data.toList) ∘ fun s : List UInt8 => (⟨s.toArray⟩ : ByteArray)) = id := rfl
  rw [this, List.map_id]

theorem texts_bytes (xs : List ByteArray) : textsOf (bytesOf xs) = xs := by
  unfold bytesOf textsOf
  rw [List.map_map]
  have : ((fun s : List UInt8 => (⟨s.toArray⟩ : ByteArray)) ∘ fun x : ByteArray => x.data.toList) = id := by
    funext x
    show (⟨x.data.toList.toArray⟩ : ByteArray) = x
    rw [Array.toArray_toList]
  rw [this, List.map_id]

theorem enc_bytes (xs : List ByteArray) : (bytesOf xs).map encStr = xs.map Value.string := by
  have h := texts_bytes xs
  conv => rhs; rw [← h]
  unfold textsOf
  rw [List.map_map]
  rfl

theorem enc_texts (ss : List (List UInt8)) : ss.map encStr = (textsOf ss).map Value.string := by rw [← enc_bytes, bytes_texts]

/-- Texts that do not descend. -/
def NotDesc (l : List ByteArray) : Prop := l.Pairwise (fun x y => ltB y x = false)

theorem sorted_notDesc (ss : List (List UInt8)) : NotDesc (textsOf (ss.mergeSort fun x y => decide (x ≤ y))) := by
  unfold NotDesc textsOf
  rw [List.pairwise_map]
  have h := List.pairwise_mergeSort (le := fun x y : List UInt8 => decide (x ≤ y)) (fun a b c h1 h2 => by
    rw [decide_eq_true_eq] at h1 h2 ⊢; exact List.le_trans h1 h2) (fun a b => by
    rw [Bool.or_eq_true, decide_eq_true_eq, decide_eq_true_eq]; exact List.le_total a b) ss
  refine h.imp fun {x y} hxy => ?_
  rw [decide_eq_true_eq] at hxy
  rw [Bool.eq_false_iff]
  intro hc
  have := (ltB_iff _ _).1 hc
  exact (List.not_lt.2 hxy) this

theorem sorted_mem (xs : List ByteArray) (p : ByteArray) : p ∈ textsOf ((bytesOf xs).mergeSort fun x y => decide (x ≤ y)) ↔ p ∈ xs := by
  conv => rhs; rw [← texts_bytes xs]
  unfold textsOf
  rw [List.mem_map, List.mem_map]
  simp only [List.mem_mergeSort]

/-- What slices.Sort leaves. -/
def SortPost (base : Nat) (v : Value) (xs : List ByteArray) (W : World) (e : Ending) (w' : World) : Prop :=
  e = .returned (.tuple #[]) ∧ ∃ ys, NotDesc ys ∧ ys.length = xs.length ∧ (∀ p, p ∈ ys ↔ p ∈ xs) ∧ w'.ownsRow base 9 1 v ys.length (ys.map Value.string) ∧ W.grownBy w' v.ownBlock

theorem sortS_c (base : Nat) (v : Value) (xs : List ByteArray) (hl : xs.length ≤ 2097152) (W : World) (ho : W.ownsRow base 9 1 v xs.length (xs.map Value.string)) :
    Calls Tryz.prog 61 #[v] W (SortPost base v xs W) := by
  rcases ho.2 with ⟨rfl, h0⟩ | ⟨g, cap, cur, rfl, hbase, hb, h1, h2, h3, h4⟩
  · have hx : xs = [] := List.length_eq_zero_iff.1 h0
    subst hx
    refine (Any.slices_Sort_string_none So0.lays190 none 0 W).mono ?_
    rintro e w' ⟨rfl, rfl⟩
    exact ⟨rfl, [], List.Pairwise.nil, rfl, fun _ => Iff.rfl, ho, ⟨rfl, rfl, rfl, Nat.le_refl _, fun _ _ _ => rfl⟩⟩
  · have hbl : (bytesOf xs).length = xs.length := by unfold bytesOf; rw [List.length_map]
    have hh : Holds encStr W g 0 (bytesOf xs).toArray := holds_of_block hb (by rw [hbl, enc_bytes]; simpa using h4)
    have hc := Any.slices_Sort_string So0.lays190 g 0 cap (bytesOf xs) W hh (Array.getElem?_eq_some_iff.1 hb).1 (by rw [hbl]; omega)
    rw [hbl] at hc
    refine Calls.mono hc ?_
    rintro e w' ⟨rfl, n, os, rfl⟩
    have hml : ((bytesOf xs).mergeSort fun x y => decide (x ≤ y)).length = (bytesOf xs).length := List.length_mergeSort _
    refine ⟨rfl, textsOf ((bytesOf xs).mergeSort fun x y => decide (x ≤ y)), sorted_notDesc _, by unfold textsOf; rw [List.length_map, hml, hbl], sorted_mem xs, ?_, grownBy_sorted _⟩
    have := ownsRow_sorted (n := n) (os := os) (e := 9) hml hbase hb (by rw [hbl]; exact h1) h2 h3
    rw [hbl, enc_texts] at this
    rw [show (textsOf ((bytesOf xs).mergeSort fun x y => decide (x ≤ y))).length = xs.length by unfold textsOf; rw [List.length_map, hml, hbl]]
    exact this

/-! ## Compact -/

theorem gem {ss : List (List UInt8)} {j : Nat} (hj : j < ss.length) : ss[j]! = ss[j] := by simp [hj]

theorem comp_mem (ss : List (List UInt8)) (s : List UInt8) : s ∈ Lib.compact ss ↔ s ∈ ss := by
  have hget : ∀ j, j < ss.length → ss.toArray[j]! = ss[j]! := fun j hj => by simp
  unfold Lib.compact Lib.compactUpTo
  rw [List.mem_map]
  constructor
  · rintro ⟨j, hj, rfl⟩
    rw [List.mem_filter, List.mem_range] at hj
    have := hj.1
    rw [hget j this, gem this]
    exact List.getElem_mem this
  · intro hs
    obtain ⟨j, hj, rfl⟩ := List.getElem_of_mem hs
    induction j with
    | zero => exact ⟨0, by rw [List.mem_filter, List.mem_range]; exact ⟨hj, by simp [Lib.keeps]⟩, by rw [hget 0 hj, gem hj]⟩
    | succ j ih =>
      by_cases hk : Lib.keeps ss.toArray (j + 1) = true
      · exact ⟨j + 1, by rw [List.mem_filter, List.mem_range]; exact ⟨hj, hk⟩, by rw [hget _ hj, gem hj]⟩
      · have hj' : j < ss.length := by omega
        have e : ss[j + 1] = ss[j] := by
          unfold Lib.keeps at hk
          rw [decide_eq_true_eq] at hk
          have h2 : ss.toArray[j + 1]! = ss.toArray[j]! := by
            refine Classical.byContradiction fun hne => hk (.inr ?_)
            rwa [Nat.add_sub_cancel]
          rw [hget _ hj, hget _ hj', gem hj, gem hj'] at h2
          exact h2
        rw [e]
        exact ih hj' (List.getElem_mem hj')

theorem comp_asc {xs : List ByteArray} (h : NotDesc xs) : AscP (textsOf (Lib.compact (bytesOf xs))) := by
  unfold AscP textsOf Lib.compact Lib.compactUpTo
  rw [List.pairwise_map, List.pairwise_map]
  have hbl : (bytesOf xs).length = xs.length := by unfold bytesOf; rw [List.length_map]
  have hget : ∀ j (hj : j < xs.length), (⟨((bytesOf xs).toArray[j]!).toArray⟩ : ByteArray) = xs[j] := fun j hj => by
    have : (bytesOf xs).toArray[j]! = xs[j].data.toList := by
      simp [bytesOf, hj]
    rw [this, Array.toArray_toList]
  have hp := List.pairwise_iff_getElem.1 h
  have hr : ((List.range (bytesOf xs).length).filter (Lib.keeps (bytesOf xs).toArray)).Pairwise (· < ·) := List.Pairwise.filter _ List.pairwise_lt_range
  refine hr.imp_of_mem fun {i j} hi hj hij => ?_
  rw [List.mem_filter, List.mem_range, hbl] at hi hj
  rw [hget i hi.1, hget j hj.1]
  have hk := hj.2
  unfold Lib.keeps at hk
  rw [decide_eq_true_eq] at hk
  have hj1 : j - 1 < xs.length := by omega
  have hne : xs[j] ≠ xs[j - 1] := by
    rcases hk with h0 | h0
    · omega
    · intro e
      apply h0
      have a1 : (bytesOf xs).toArray[j]! = xs[j].data.toList := by simp [bytesOf, hj.1]
      have a2 : (bytesOf xs).toArray[j - 1]! = xs[j - 1].data.toList := by simp [bytesOf, hj1]
      rw [a1, a2, e]
  have h1 : ltB xs[j - 1] xs[j] = true := by
    have h2 := hp (j - 1) j hj1 hj.1 (by omega)
    refine Classical.byContradiction fun hc => hne ?_
    exact (ltB_tri (by simpa using hc) h2).symm
  by_cases he : i = j - 1
  · subst he; exact h1
  · have h2 := hp i (j - 1) hi.1 hj1 (by omega)
    by_cases h3 : ltB xs[i] xs[j - 1] = true
    · exact ltB_trans h3 h1
    · have := ltB_tri (by simpa using h3) h2
      rw [this]; exact h1

/-- What slices.Compact leaves of texts that do not descend. -/
def CompPost (base : Nat) (ys : List ByteArray) (W : World) (e : Ending) (w' : World) : Prop :=
  ∃ v' zs, e = .returned v' ∧ AscP zs ∧ (∀ p, p ∈ zs ↔ p ∈ ys) ∧ w'.ownsRow base 9 1 v' zs.length (zs.map Value.string)

theorem comp_len (ss : List (List UInt8)) : (Lib.compact ss).length ≤ ss.length := by
  unfold Lib.compact Lib.compactUpTo
  rw [List.length_map]
  refine Nat.le_trans (List.length_filter_le _ _) ?_
  rw [List.length_range]; exact Nat.le_refl _

theorem compactS_c (base : Nat) (v : Value) (ys : List ByteArray) (hl : ys.length ≤ 2097152) (hd : NotDesc ys) (W : World) (ho : W.ownsRow base 9 1 v ys.length (ys.map Value.string)) :
    Calls Tryz.prog 62 #[v] W fun e w' => CompPost base ys W e w' ∧ W.grownBy w' v.ownBlock := by
  rcases ho.2 with ⟨rfl, h0⟩ | ⟨g, cap, cur, rfl, hbase, hb, h1, h2, h3, h4⟩
  · have hx : ys = [] := List.length_eq_zero_iff.1 h0
    subst hx
    refine (Any.slices_Compact_string_empty So0.lays194 none 0 W).mono ?_
    rintro e w' ⟨rfl, rfl⟩
    exact ⟨⟨_, [], rfl, List.Pairwise.nil, fun _ => Iff.rfl, ho⟩, ⟨rfl, rfl, rfl, Nat.le_refl _, fun _ _ _ => rfl⟩⟩
  · have hbl : (bytesOf ys).length = ys.length := by unfold bytesOf; rw [List.length_map]
    have hh : Holds encStr W g 0 (bytesOf ys).toArray := holds_of_block hb (by rw [hbl, enc_bytes]; simpa using h4)
    have hc := Any.slices_Compact_string So0.lays194 g 0 cap (bytesOf ys) W hh (by rw [hbl]; omega) (by rw [hbl]; exact h1)
    rw [hbl] at hc
    refine Calls.mono hc ?_
    rintro e w' ⟨rfl, n, rfl⟩
    obtain ⟨zs, hzs⟩ : ∃ zs, zs = Lib.compact (bytesOf ys) ++ List.replicate (ys.length - (Lib.compact (bytesOf ys)).length) [] := ⟨_, rfl⟩
    rw [← hzs]
    have hcl := comp_len (bytesOf ys)
    rw [hbl] at hcl
    have hzl : zs.length = (bytesOf ys).length := by rw [hzs, List.length_append, List.length_replicate, hbl]; omega
    have hrow := ownsRow_sorted (n := n) (os := #[]) (e := 9) hzl hbase hb (by rw [hbl]; exact h1) h2 h3
    have hgr := grownBy_sorted (w := W) (g := g) (n := n) (os := #[]) zs.toArray
    have hg0 : grow (putRow encStr (Sort.ahead W n) g 0 zs.toArray) #[] = putRow encStr (Sort.ahead W n) g 0 zs.toArray := by
      unfold grow
      simp
      rfl
    rw [hg0] at hrow hgr
    have htl : (textsOf (Lib.compact (bytesOf ys))).length = (Lib.compact (bytesOf ys)).length := by unfold textsOf; rw [List.length_map]
    refine ⟨⟨_, textsOf (Lib.compact (bytesOf ys)), rfl, comp_asc hd, fun p => ?_, ?_⟩, hgr⟩
    · conv => rhs; rw [← texts_bytes ys]
      unfold textsOf
      rw [List.mem_map, List.mem_map]
      simp only [comp_mem]
    · rw [htl, ← enc_texts]
      rcases hrow.2 with ⟨hv, _⟩ | ⟨g', cap', cur', hv, q1, q2, q3, q4, q5, q6⟩
      · cases hv
      · cases hv
        refine ⟨by rw [List.length_map, Nat.mul_one], .inr ⟨g, cap, cur', rfl, q1, q2, by omega, q4, q5, ?_⟩⟩
        rw [Nat.mul_one] at q6 ⊢
        rw [hbl] at q6
        have q7 : (cur'.toList.take ys.length).take (Lib.compact (bytesOf ys)).length = (zs.map encStr).take (Lib.compact (bytesOf ys)).length := by rw [q6]
        rw [List.take_take, Nat.min_eq_left hcl] at q7
        rw [q7, ← List.map_take, hzs, List.take_left]

end Go.Proofs.YtnboodcllmdjeaaGreatDoor

/-
  WALKS: slices.Backward over a list of nodes.
-/
namespace Go.Proofs.YtnboodcllmdjeaaGreatDoor
open Go.RowKit
set_option linter.unusedVariables false

attribute [local go_sem] Oper.semAt_some

/-- A node of a list, with its place. -/
structure Elt (ns : List Nd) where
  i : Nat
  n : Nd
  at_ : ns[i]? = some n

/-- The nodes ahead of a place, the last one first. -/
def backE (ns : List Nd) : (j : Nat) → j ≤ ns.length → List (Elt ns)
  | 0, _ => []
  | j + 1, h => ⟨j, ns[j], by simp⟩ :: backE ns j (by omega)

theorem backE_length (ns : List Nd) : ∀ (j : Nat) (h : j ≤ ns.length), (backE ns j h).length = j
  | 0, _ => rfl
  | j + 1, h => by show (backE ns j _).length + 1 = _; rw [backE_length ns j]

def ndV (n : Nd) : Value := .agg #[.string n.p, .int .i64 n.k, .int .i64 n.v]

/-- What a round keeps: what lay below, and the box of the list. -/
def BackK (n₀ Bn : Nat) (W W' : World) : Prop := Below n₀ W W' ∧ W'.heap[Bn]? = W.heap[Bn]?

theorem nodes_below {n₀ : Nat} {W W' : World} {a : Option Addr} {len : Nat} {ns : List Nd} (h : NodesAt W a len ns) (hl : ∀ b off, a = some ⟨b, off, none⟩ → len ≠ 0 → b < n₀) (hb : Below n₀ W W') : NodesAt W' a len ns := by
  obtain ⟨h1, h0 | ⟨b, off, ha, hc⟩⟩ := h
  · exact ⟨h1, .inl h0⟩
  · by_cases h0 : len = 0
    · exact ⟨h1, .inl h0⟩
    · have hbn := hl b off ha h0
      exact ⟨h1, .inr ⟨b, off, ha, fun i n hn => ⟨(hb.cell (p := ⟨b, _, none⟩) hbn).trans (hc i n hn).1, (hb.cell (p := ⟨b, _, none⟩) hbn).trans (hc i n hn).2.1, (hb.cell (p := ⟨b, _, none⟩) hbn).trans (hc i n hn).2.2⟩⟩⟩

theorem nodes_lt {W : World} {a : Option Addr} {len : Nat} {ns : List Nd} (h : NodesAt W a len ns) : ∀ b off, a = some ⟨b, off, none⟩ → len ≠ 0 → b < W.heap.size := by
  intro b off ha h0
  obtain ⟨b', off', n, ha', _, hc, _⟩ := h.node (i := 0) (by omega)
  rw [ha] at ha'
  cases ha'
  exact World.block_lt_of_cell? W _ hc

end Go.Proofs.YtnboodcllmdjeaaGreatDoor

/-
  PLAIN MATHEMATICS OF A STACK OF SUMS: nodes from the last to the first one; the paths that wait for their parent are on top.
-/
namespace Go.Proofs.YtnboodcllmdjeaaGreatDoor

/-- The number of a path's last letter. -/
def nameN (q : ByteArray) : Int := ((q.data.toList.getLast?.getD 97).toNat : Int) - 97

abbrev Stk := List (ByteArray × Int)

/-- The paths just behind p are taken off, one sum after the other. -/
def popL (p : ByteArray) : Int → Stk → Int × Stk
  | n, [] => (n, [])
  | n, x :: r => if parB x.1 = p then popL p ((31 * n + 7 * nameN x.1 + 100 * x.2 + 3) % 9973) r else (n, x :: r)

def stepNd (n : Nd) (a : List Int × Stk) : List Int × Stk :=
  ((popL n.p (baseW (n.k, n.v)) a.2).1 :: a.1, (n.p, (popL n.p (baseW (n.k, n.v)) a.2).1) :: (popL n.p (baseW (n.k, n.v)) a.2).2)

/-- The sums of a list of nodes, and the stack that is left. -/
def runSt (ns : List Nd) : List Int × Stk := ns.foldr stepNd ([], [])

theorem runSt_cons (n : Nd) (r : List Nd) : runSt (n :: r) = stepNd n (runSt r) := rfl

theorem runSt_length : ∀ ns : List Nd, (runSt ns).1.length = ns.length
  | [] => rfl
  | n :: r => by rw [runSt_cons]; show (runSt r).1.length + 1 = _; rw [runSt_length r]; rfl

/-! ## What is on a stack -/

def StkOk (S : Stk) : Prop := ∀ x ∈ S, vpB x.1 = true ∧ 0 ≤ x.2 ∧ x.2 ≤ 9972

theorem popL_ok {p : ByteArray} : ∀ {S : Stk} {n : Int}, StkOk S → 0 ≤ n ∧ n ≤ 9972 → StkOk (popL p n S).2 ∧ (0 ≤ (popL p n S).1 ∧ (popL p n S).1 ≤ 9972)
  | [], n, h, hn => ⟨h, hn⟩
  | x :: r, n, h, hn => by
    unfold popL
    split
    · exact popL_ok (fun y hy => h y (List.mem_cons_of_mem _ hy)) (by omega)
    · exact ⟨h, hn⟩

theorem popL_len {p : ByteArray} : ∀ {S : Stk} {n : Int}, (popL p n S).2.length ≤ S.length
  | [], n => Nat.le_refl _
  | x :: r, n => by
    unfold popL
    split
    · exact Nat.le_trans (popL_len (S := r)) (by simp)
    · exact Nat.le_refl _

/-- Nodes that a run can start from. -/
def NdsOk (ns : List Nd) : Prop := ∀ n ∈ ns, vpB n.p = true ∧ validB n.k n.v = true

theorem base_ok {k v : Int} (h : validB k v = true) : 0 ≤ baseW (k, v) ∧ baseW (k, v) ≤ 9972 := by
  have := base_range (c := (k, v)) h
  exact ⟨by omega, by omega⟩

theorem runSt_ok : ∀ {ns : List Nd}, NdsOk ns → StkOk (runSt ns).2 ∧ (runSt ns).2.length ≤ ns.length
  | [], _ => ⟨fun x hx => (by cases hx), Nat.le_refl _⟩
  | n :: r, h => by
    obtain ⟨h1, h2⟩ := runSt_ok (ns := r) fun m hm => h m (List.mem_cons_of_mem _ hm)
    obtain ⟨hp, hv⟩ := h n (by simp)
    obtain ⟨g1, g2⟩ := popL_ok (p := n.p) h1 (base_ok hv)
    rw [runSt_cons]
    refine ⟨fun x hx => ?_, ?_⟩
    · rcases List.mem_cons.1 hx with rfl | hx
      · exact ⟨hp, g2⟩
      · exact g1 x hx
    · show (popL _ _ _).2.length + 1 ≤ _
      have := popL_len (p := n.p) (S := (runSt r).2) (n := baseW (n.k, n.v))
      simp only [List.length_cons]; omega

theorem runSt_ok' {ns : List Nd} (h : NdsOk ns) (i : Nat) : StkOk (runSt (ns.drop i)).2 ∧ (runSt (ns.drop i)).2.length ≤ ns.length - i := by
  have := runSt_ok (ns := ns.drop i) fun m hm => h m (List.mem_of_mem_drop hm)
  rwa [List.length_drop] at this

/-! ## The run over a tree -/

def lt4 (k : Nat) : UInt8 := UInt8.ofNat (97 + k)

theorem lt4_letter {k : Nat} (h : k < 4) : Pm.letter (lt4 k) = true := by
  rcases (by omega : k = 0 ∨ k = 1 ∨ k = 2 ∨ k = 3) with rfl | rfl | rfl | rfl <;> decide

theorem lt4_name {k : Nat} (h : k < 4) : ((lt4 k).toNat : Int) - 97 = k := by
  rcases (by omega : k = 0 ∨ k = 1 ∨ k = 2 ∨ k = 3) with rfl | rfl | rfl | rfl <;> decide

theorem lt4_inj {j k : Nat} (hj : j < 4) (hk : k < 4) (h : lt4 j = lt4 k) : j = k := by
  have h1 := lt4_name hj
  have h2 := lt4_name hk
  rw [h] at h1
  omega

theorem Wrd.snoc {w : List UInt8} (hw : Wrd w) (hl : w.length < 4) {k : Nat} (hk : k < 4) : Wrd (w ++ [lt4 k]) :=
  ⟨by simp; omega, fun x hx => by
    rcases List.mem_append.1 hx with hx | hx
    · exact hw.2 x hx
    · rw [List.mem_singleton.1 hx]; exact lt4_letter hk⟩

theorem flat_last : ∀ (w : List UInt8) (c : UInt8), (Pm.flat (w ++ [c])).getLast? = some c
  | [], c => rfl
  | x :: w, c => by
    show (47 :: x :: Pm.flat (w ++ [c])).getLast? = some c
    have := flat_last w c
    rw [List.getLast?_cons, List.getLast?_cons, this]
    rfl

theorem name_word (w : List UInt8) {k : Nat} (hk : k < 4) : nameN (pB (w ++ [lt4 k])) = k := by
  unfold nameN
  rw [pB_list]
  unfold Pm.pathOf
  rw [if_neg (by simp), flat_last]
  exact lt4_name hk

def kidK (G : List UInt8 → Int × Int) (d : Nat) (w : List UInt8) (k : Nat) : Stk :=
  if (G (w ++ [lt4 k])).1 = 0 then [] else [(pB (w ++ [lt4 k]), sumW G d (w ++ [lt4 k]))]

def kids (G : List UInt8 → Int × Int) : Nat → List UInt8 → Stk
  | 0, _ => []
  | d + 1, w => (List.range 4).flatMap (kidK G d w)

def AwayW (w : List UInt8) (S : Stk) : Prop := ∀ x ∈ S, ∃ v, Wrd v ∧ v ≠ [] ∧ x.1 = pB v ∧ ¬ (w <+: v)

theorem popL_away {w : List UInt8} (hw : Wrd w) {S : Stk} (h : AwayW w S) (n : Int) : popL (pB w) n S = (n, S) := by
  cases S with
  | nil => rfl
  | cons x r =>
    obtain ⟨v, hv, hn, e, hp⟩ := h x (List.mem_cons_self ..)
    unfold popL
    rw [if_neg]
    rw [e, parB_pB hv hn]
    intro q
    have := pB_inj hv.dropLast hw q
    exact hp (by rw [← this]; exact List.dropLast_prefix v)

theorem popL_kids (G : List UInt8 → Int × Int) (d : Nat) {w : List UInt8} (hw : Wrd w) (hl : w.length < 4) {S : Stk} (h : AwayW w S) : ∀ (ks : List Nat), (∀ k ∈ ks, k < 4) → ∀ n,
    popL (pB w) n (ks.flatMap (kidK G d w) ++ S) = (ks.foldl (fun n k => if (G (w ++ [lt4 k])).1 = 0 then n else stepW (sumW G d (w ++ [lt4 k])) k n) n, S)
  | [], _, n => by simpa using popL_away hw h n
  | k :: ks, hk, n => by
    have ih := popL_kids G d hw hl h ks (fun j hj => hk j (List.mem_cons_of_mem _ hj))
    have hk4 := hk k (List.mem_cons_self ..)
    rw [List.flatMap_cons, List.foldl_cons]
    unfold kidK
    by_cases hz : (G (w ++ [lt4 k])).1 = 0
    · rw [if_pos hz, if_pos hz]
      exact ih n
    · rw [if_neg hz, if_neg hz]
      show popL (pB w) n ((pB (w ++ [lt4 k]), sumW G d (w ++ [lt4 k])) :: (ks.flatMap (kidK G d w) ++ S)) = _
      unfold popL
      rw [if_pos]
      · rw [name_word w hk4]
        exact ih _
      · show parB (pB (w ++ [lt4 k])) = pB w
        rw [parB_pB (hw.snoc hl hk4) (by simp), List.dropLast_concat]

theorem kids_none {G : List UInt8 → Int × Int} {d : Nat} {w : List UInt8} (h : d ≠ 0 → ∀ k, k < 4 → (G (w ++ [lt4 k])).1 = 0) : kids G d w = [] := by
  cases d with
  | zero => rfl
  | succ d =>
    show (List.range 4).flatMap (kidK G d w) = []
    rw [List.flatMap_eq_nil_iff]
    intro k hk
    unfold kidK
    rw [if_pos (h (by omega) k (List.mem_range.1 hk))]

/-- What is somewhere has a directory ahead of it. -/
def Grown (G : List UInt8 → Int × Int) : Prop := ∀ w k, k < 4 → Wrd w → w.length < 4 → (G (w ++ [lt4 k])).1 ≠ 0 → (G w).1 = 1

/-- One node above what is behind it. -/
theorem popL_node {G : List UInt8 → Int × Int} (hG : Grown G) {d : Nat} {w : List UInt8} (hw : Wrd w) (hd : w.length + d = 4) {S : Stk} (h : AwayW w S) :
    popL (pB w) (baseW (G w)) (kids G d w ++ S) = (sumW G d w, S) := by
  cases d with
  | zero => exact popL_away hw h _
  | succ d =>
    have hl : w.length < 4 := by omega
    have := popL_kids G d hw hl h (List.range 4) (fun k hk => List.mem_range.1 hk) (baseW (G w))
    rw [show kids G (d + 1) w = (List.range 4).flatMap (kidK G d w) from rfl, this]
    have hp : partW G d w 4 = sumW G (d + 1) w := by
      by_cases h1 : (G w).1 = 1
      · exact (sumW_part _ _ _ h1).symm
      · rw [sumW_file _ _ _ h1]
        exact partW_none _ _ _ (fun k hk => Classical.byContradiction fun hz => h1 (hG w k hk hw hl hz)) 4 (Nat.le_refl _)
    rw [← hp]; rfl

def sumN (G : List UInt8 → Int × Int) (n : Nd) : Int := sumW G (4 - (wordOf n.p).length) (wordOf n.p)

theorem sumN_at {G : List UInt8 → Int × Int} {w : List UInt8} (hw : Wrd w) {d : Nat} (hd : w.length + d = 4) : sumN G (ndAt G w) = sumW G d w := by
  unfold sumN
  show sumW G (4 - (wordOf (pB w)).length) (wordOf (pB w)) = _
  rw [wordOf_pB hw.2, show 4 - w.length = d by omega]

theorem awayW_snoc {w : List UInt8} {S : Stk} (h : AwayW w S) (c : UInt8) : AwayW (w ++ [c]) S := fun x hx => by
  obtain ⟨v, h1, h2, h3, h4⟩ := h x hx
  exact ⟨v, h1, h2, h3, fun q => h4 ((List.prefix_append w [c]).trans q)⟩

theorem awayW_app {w : List UInt8} {S T : Stk} (h : AwayW w S) (h' : AwayW w T) : AwayW w (S ++ T) := fun x hx => by
  rcases List.mem_append.1 hx with hx | hx
  · exact h x hx
  · exact h' x hx

theorem awayW_kid (G : List UInt8 → Int × Int) (d : Nat) {w : List UInt8} (hw : Wrd w) (hl : w.length < 4) {j : Nat} (hj : j < 4) (ks : List Nat) (hk : ∀ k ∈ ks, k < 4 ∧ k ≠ j) : AwayW (w ++ [lt4 j]) (ks.flatMap (kidK G d w)) := fun x hx => by
  obtain ⟨k, hk', hx⟩ := List.mem_flatMap.1 hx
  obtain ⟨hk4, hkj⟩ := hk k hk'
  unfold kidK at hx
  split at hx
  · cases hx
  · rw [List.mem_singleton] at hx
    subst hx
    refine ⟨w ++ [lt4 k], hw.snoc hl hk4, by simp, rfl, fun q => hkj ?_⟩
    have e := q.eq_of_length (by simp)
    have := List.append_cancel_left e
    simp only [List.cons.injEq, and_true] at this
    exact (lt4_inj hj hk4 this).symm

theorem lst_range (G : List UInt8 → Int × Int) (d : Nat) (w : List UInt8) : lst G (d + 1) w = (List.range 4).flatMap (fun k => oneAt G (w ++ [lt4 k]) ++ lst G d (w ++ [lt4 k])) := rfl

theorem run_lst {G : List UInt8 → Int × Int} (hG : Grown G) : ∀ (d : Nat) (w : List UInt8), Wrd w → w.length + d = 4 → ∀ (A : List Int) (S : Stk), AwayW w S →
    (lst G d w).foldr stepNd (A, S) = ((lst G d w).map (sumN G) ++ A, kids G d w ++ S)
  | 0, w, hw, hd, A, S, hS => rfl
  | d + 1, w, hw, hd, A, S, hS => by
    have hl : w.length < 4 := by omega
    have hone : ∀ k, k < 4 → ∀ (A : List Int) (S : Stk), AwayW (w ++ [lt4 k]) S →
        (oneAt G (w ++ [lt4 k]) ++ lst G d (w ++ [lt4 k])).foldr stepNd (A, S) = ((oneAt G (w ++ [lt4 k]) ++ lst G d (w ++ [lt4 k])).map (sumN G) ++ A, kidK G d w k ++ S) := by
      intro k hk A S hS
      have hw' := hw.snoc hl hk
      have hd' : (w ++ [lt4 k]).length + d = 4 := by simp; omega
      rw [List.foldr_append, run_lst hG d _ hw' hd' A S hS]
      unfold oneAt kidK
      by_cases hz : (G (w ++ [lt4 k])).1 = 0
      · rw [if_pos hz, if_pos hz, kids_none]
        · rfl
        · intro hd0 j hj
          refine Classical.byContradiction fun hc => ?_
          have := hG _ j hj hw' (by omega) hc
          rw [hz] at this; cases this
      · rw [if_neg hz, if_neg hz]
        show stepNd (ndAt G (w ++ [lt4 k])) _ = _
        unfold stepNd
        have e := popL_node hG hw' hd' hS
        show ((popL (pB (w ++ [lt4 k])) (baseW (G (w ++ [lt4 k]))) _).1 :: _, _) = _
        show ((popL (pB (w ++ [lt4 k])) (baseW (G (w ++ [lt4 k]))) (kids G d (w ++ [lt4 k]) ++ S)).1 :: _, (pB (w ++ [lt4 k]), (popL (pB (w ++ [lt4 k])) (baseW (G (w ++ [lt4 k]))) (kids G d (w ++ [lt4 k]) ++ S)).1) :: (popL (pB (w ++ [lt4 k])) (baseW (G (w ++ [lt4 k]))) (kids G d (w ++ [lt4 k]) ++ S)).2) = _
        rw [e, List.map_append, List.map_cons, List.map_nil, sumN_at hw' hd']
        rfl
    have hall : ∀ (ks : List Nat), (∀ k ∈ ks, k < 4) → ks.Nodup →
        (ks.flatMap (fun k => oneAt G (w ++ [lt4 k]) ++ lst G d (w ++ [lt4 k]))).foldr stepNd (A, S) = ((ks.flatMap (fun k => oneAt G (w ++ [lt4 k]) ++ lst G d (w ++ [lt4 k]))).map (sumN G) ++ A, ks.flatMap (kidK G d w) ++ S) := by
      intro ks
      induction ks with
      | nil => intro _ _; rfl
      | cons k ks ih =>
        intro hk hn
        obtain ⟨hn1, hn2⟩ := List.nodup_cons.1 hn
        have hk4 := hk k (by simp)
        rw [List.flatMap_cons, List.flatMap_cons, List.foldr_append, ih (fun j hj => hk j (List.mem_cons_of_mem _ hj)) hn2,
          hone k hk4 _ _ (awayW_app (awayW_kid G d hw hl hk4 ks fun j hj => ⟨hk j (List.mem_cons_of_mem _ hj), fun e => hn1 (e ▸ hj)⟩) (awayW_snoc hS _))]
        simp only [List.map_append, List.append_assoc]
    rw [lst_range]
    exact hall (List.range 4) (fun k hk => List.mem_range.1 hk) List.nodup_range

theorem grown_of {ns : List Nd} (h : validT ns = true) : Grown (Fof ns) := by
  intro w k hk hw hl hz
  have hw' := hw.snoc hl hk
  have hm := node_of h hw' (by simp) hz
  have g := (((validT_iff ns).1 h).2.1 _ hm).2.2.2
  rw [show (ndAt (Fof ns) (w ++ [lt4 k])).p = pB (w ++ [lt4 k]) from rfl, parB_pB hw' (by simp), List.dropLast_concat] at g
  exact g

theorem all_lst {ns : List Nd} (h : validT ns = true) : lst (Fof ns) 4 [] = ns := by
  have := under_lst h Wrd.nil
  rw [show 4 - ([] : List UInt8).length = 4 from rfl] at this
  rw [this, List.filter_eq_self]
  intro n hn
  obtain ⟨w, hw, hne, e, _⟩ := node_word h hn
  rw [e, undB_pB Wrd.nil hw, decide_eq_true_eq]
  refine ⟨List.nil_prefix, ?_⟩
  have : w.length ≠ 0 := fun e => hne (List.length_eq_zero_iff.1 e)
  simp; omega

/-- The program's sums of a tree. -/
theorem run_tree {ns : List Nd} (h : validT ns = true) : runSt ns = (ns.map (fun n => treeSum ns n.p), kids (Fof ns) 4 []) := by
  have := run_lst (grown_of h) 4 [] Wrd.nil rfl [] [] (fun x hx => by cases hx)
  rw [all_lst h, List.append_nil, List.append_nil] at this
  show ns.foldr stepNd ([], []) = _
  rw [this]
  congr 1
  refine List.map_congr_left fun n hn => ?_
  unfold treeSum
  rw [h, (good_path h hn).2]
  rfl

theorem run_root {ns : List Nd} (h : validT ns = true) : (runSt (⟨rootB, 1, 0⟩ :: ns)).1 = treeSum ns rootB :: ns.map (fun n => treeSum ns n.p) := by
  rw [runSt_cons, run_tree h]
  unfold stepNd
  show (popL (pB []) (baseW (1, 0)) (kids (Fof ns) 4 [])).1 :: _ = _
  have e := popL_node (grown_of h) (d := 4) Wrd.nil rfl (S := []) (fun x hx => by cases hx)
  rw [List.append_nil, Fof_root] at e
  rw [e]
  have := treeSum_word h Wrd.nil
  rw [pB_root] at this
  rw [this]
  rfl

theorem nds_ok {ns : List Nd} (h : validT ns = true) : NdsOk ns := fun n hn =>
  ⟨(good_path h hn).2, (((validT_iff ns).1 h).2.1 n hn).2.1⟩

theorem nds_root {ns : List Nd} (h : validT ns = true) : NdsOk (⟨rootB, 1, 0⟩ :: ns) := fun n hn => by
  rcases List.mem_cons.1 hn with rfl | hn
  · exact ⟨by decide, by decide⟩
  · exact nds_ok h n hn

/-- A path that is in no node has the sum of nothing. -/
theorem sum_missing {ns : List Nd} {p : ByteArray} (h : validT ns = true) (hv : vpB p = true) (hr : p ≠ rootB) (hm : ∀ n ∈ ns, n.p ≠ p) : treeSum ns p = 1 := by
  obtain ⟨w, hw, rfl⟩ := vpB_word hv
  have e : Fof ns w = (0, 0) := getT_none hr hm
  rw [treeSum_word h hw, sumW_file _ _ _ (by rw [e]; decide), e]
  rfl

end Go.Proofs.YtnboodcllmdjeaaGreatDoor

/-
  WALKS: the stack of paths: impl.contentSum, pathStack.top, pathStack.sum.
-/
namespace Go.Proofs.YtnboodcllmdjeaaGreatDoor
open Go.RowKit
set_option linter.unusedVariables false

/-- What a walk leaves that ends in a number. -/
def IntPost (n : Int) (W : World) (e : Ending) (w' : World) : Prop := e = .returned (.int .i64 n) ∧ Below W.heap.size W w'

/-- The cells of a stack, the lowest path first. -/
def flatS (st : Stk) : List Value := st.flatMap (fun x => [.string x.1, .int .i64 x.2])

theorem flatS_append (a b : Stk) : flatS (a ++ b) = flatS a ++ flatS b := by unfold flatS; rw [List.flatMap_append]
theorem flatS_one (x : ByteArray × Int) : flatS [x] = [.string x.1, .int .i64 x.2] := rfl
theorem flatS_length (st : Stk) : (flatS st).length = st.length * 2 := by
  induction st with
  | nil => rfl
  | cons n r ih =>
    have : flatS (n :: r) = [.string n.1, .int .i64 n.2] ++ flatS r := rfl
    rw [this, List.length_append, ih]
    simp; omega

/-- The path on top, or none. -/
def topQ (st : Stk) : ByteArray × Int := st.getLast?.getD (⟨#[]⟩, 0)

theorem topQ_nil : topQ [] = (⟨#[]⟩, 0) := rfl
theorem topQ_snoc (st : Stk) (x : ByteArray × Int) : topQ (st ++ [x]) = x := by unfold topQ; simp

def SumdRet (x : ByteArray × Int) (W : World) (e : Ending) (w' : World) : Prop := e = .returned (.agg #[.string x.1, .int .i64 x.2]) ∧ Below W.heap.size W w'

/-- What the stack's steps keep: all that lies below a base, but for the stack's own box; and whatever is no cells. -/
structure StkKept (B base : Nat) (W W' : World) : Prop where
  low : Below 0 W W'
  block : ∀ k, k < base → k ≠ B → W'.heap[k]? = W.heap[k]?
  others : KeepsOthers W W'

theorem StkKept.trans {B base : Nat} {W W1 W2 : World} (h : StkKept B base W W1) (k : StkKept B base W1 W2) : StkKept B base W W2 :=
  ⟨h.low.trans k.low, fun j hj hne => (k.block j hj hne).trans (h.block j hj hne), h.others.trans k.others⟩

theorem StkKept.of_below {B base : Nat} {W W' : World} (hb : base ≤ W.heap.size) (h : Below W.heap.size W W') : StkKept B base W W' :=
  ⟨h.mono (Nat.zero_le _), fun j hj _ => h.block j (by omega), ⟨h.size, fun k o hk _ => (h.block k (Array.getElem?_eq_some_iff.1 hk).1).trans hk⟩⟩

theorem StkKept.set {B base : Nat} (W : World) (i : Nat) (v : Value) : StkKept B base W (W.setCell ⟨B, i, none⟩ v) :=
  ⟨⟨rfl, rfl, rfl, by simp [World.setCell], fun k hk => absurd hk (Nat.not_lt_zero _)⟩, fun j _ hne => Below.heap_setCell _ _ _ _ hne, KeepsOthers.setCell _ _ _⟩

theorem StkKept.cell {B base : Nat} {W W' : World} (h : StkKept B base W W') {p : Addr} (hp : p.block < base) (hne : p.block ≠ B) {v : Value} (hc : W.cell? p = some v) : W'.cell? p = some v :=
  (World.cell?_of_block (h.block _ hp hne)).trans hc

/-- How many paths a stack has. -/
def lenAt (W : World) (B : Nat) : Nat := match W.cell? ⟨B, 0, none⟩ with
  | some (.slice _ n _) => n
  | _ => 0

theorem vpB_size8 {p : ByteArray} (h : vpB p = true) : p.size ≤ 8 := by
  obtain ⟨w, hw, rfl⟩ := vpB_word h
  exact pB_size hw

theorem topQ_size {stk : Stk} (h : StkOk stk) : (topQ stk).1.size ≤ 8 := by
  rcases List.eq_nil_or_concat stk with rfl | ⟨st', x, rfl⟩
  · decide
  · rw [List.concat_eq_append] at *
    rw [topQ_snoc]
    exact vpB_size8 (h x (by simp)).1

/-- The last letter of a path whose parent is one. -/
theorem path_last {q p : ByteArray} (hq : vpB q = true) (hp : vpB p = true) (h : parB q = p) : ∃ (j kx : Nat) (hj : j < q.size), q.size = j + 1 ∧ kx ≤ 3 ∧ (q[j].toNat : Int) = 97 + kx ∧ nameN q = kx ∧ j ≤ 8 := by
  obtain ⟨w, hw, rfl⟩ := vpB_word hq
  have hsz := pB_size hw
  rcases List.eq_nil_or_concat w with rfl | ⟨v, c, rfl⟩
  · rw [← h] at hp; exact absurd hp (by decide)
  · rw [List.concat_eq_append] at *
    have hc := hw.2 c (by simp)
    obtain ⟨kx, hk, rfl⟩ : ∃ kx, kx < 4 ∧ c = lt4 kx := by
      have := (letter_iff c).1 hc
      simp only [letters, List.mem_cons, List.not_mem_nil, or_false] at this
      rcases this with rfl | rfl | rfl | rfl
      · exact ⟨0, by omega, rfl⟩
      · exact ⟨1, by omega, rfl⟩
      · exact ⟨2, by omega, rfl⟩
      · exact ⟨3, by omega, rfl⟩
    have hl : (pB (v ++ [lt4 kx])).data.toList.getLast? = some (lt4 kx) := by
      rw [pB_list]; unfold Pm.pathOf; rw [if_neg (by simp), flat_last]
    have h1 : 1 ≤ (pB (v ++ [lt4 kx])).size := by
      rw [Lib.size_eq]
      cases hd : (pB (v ++ [lt4 kx])).data.toList with
      | nil => rw [hd] at hl; cases hl
      | cons => simp
    refine ⟨(pB (v ++ [lt4 kx])).size - 1, kx, by omega, by omega, by omega, ?_, name_word v hk, by omega⟩
    have e : (pB (v ++ [lt4 kx])).data.toList[(pB (v ++ [lt4 kx])).size - 1]? = some (lt4 kx) := by
      rw [Lib.size_eq, ← List.getLast?_eq_getElem?]; exact hl
    rw [Pm.byte_getElem? _ _ (by omega)] at e
    have := lt4_name hk
    rw [Option.some.inj e]
    omega

theorem StkKept.drew {B base : Nat} {W W' : World} (h : StkKept B base W W') : StkKept B base W W'.drew := ⟨h.low.drew, h.block, h.others.trans ⟨Nat.le_refl _, fun _ _ h _ => h⟩⟩

theorem StkKept.setFar {B base : Nat} (W : World) {c : Nat} (h : base ≤ c) (i : Nat) (v : Value) : StkKept B base W (W.setCell ⟨c, i, none⟩ v) :=
  ⟨⟨rfl, rfl, rfl, by simp [World.setCell], fun k hk => absurd hk (Nat.not_lt_zero _)⟩, fun j hj _ => Below.heap_setCell _ _ _ _ (by show j ≠ c; omega), KeepsOthers.setCell _ _ _⟩

theorem StkKept.grown {B base : Nat} {W W' : World} {e : TypeId} {size n : Nat} {v : Value} {xs : List Value} (h : W.ownsRow base e size v n xs) (hb : base ≤ W.heap.size) (hg : W.grownBy W' v.ownBlock) : StkKept B base W W' := by
  refine ⟨⟨hg.os, hg.tape, hg.output, hg.size, fun k hk => absurd hk (Nat.not_lt_zero _)⟩, fun k hk _ => ?_, KeepsOthers.of_grownBy hg fun j o hj ho => ?_⟩
  · exact hg.block k (by omega) fun e => by have := (h.lt k e.symm).1; omega
  · rcases h.2 with ⟨rfl, _⟩ | ⟨g, cap, cur, rfl, h1, h2, _⟩
    · cases hj
    · simp [Value.ownBlock] at hj
      subst hj
      rw [h2] at ho; cases ho; rfl

theorem flatS_snoc (stk : Stk) (p : ByteArray) (m : Int) : flatS (stk ++ [(p, m)]) = flatS stk ++ [.string p, .int .i64 m] := by rw [flatS_append]; rfl

theorem parB_empty {p : ByteArray} (hp : vpB p = true) : parB ⟨#[]⟩ ≠ p := by
  intro e
  rw [← e] at hp
  exact absurd hp (by decide)

end Go.Proofs.YtnboodcllmdjeaaGreatDoor

/-
  PLAIN MATHEMATICS OF FRAMES: bodies, their sums, frames, and what a scan finds.
-/
namespace Go.Proofs.YtnboodcllmdjeaaGreatDoor

def byteOk (x : Int) : Bool := decide (0 ≤ x ∧ x ≤ 255)
def bodyOk (b : List Int) : Bool := b.all byteOk && decide (1 ≤ b.length ∧ b.length ≤ 16)
def sumStep (n x : Int) : Int := (31 * n + x) % 251
def sumB (b : List Int) : Int := b.foldl sumStep 7
def bodySum (b : List Int) : Int := if bodyOk b = true then sumB b else -1
def frame (b : List Int) : List Int := (b.length : Int) :: (b ++ [sumB b])
def frameOf (b : List Int) : List Int := if bodyOk b = true then frame b else []
def framesL (bs : List (List Int)) : List Int := bs.flatMap frame
def framesOf (bs : List (List Int)) : Option (List Int) := if (bs.all bodyOk && decide (bs.length ≤ 40)) = true then some (framesL bs) else none

theorem frame_length (b : List Int) : (frame b).length = b.length + 2 := by simp [frame]
theorem framesL_append (a b : List (List Int)) : framesL (a ++ b) = framesL a ++ framesL b := by unfold framesL; rw [List.flatMap_append]
theorem framesL_cons (b : List Int) (bs : List (List Int)) : framesL (b :: bs) = frame b ++ framesL bs := rfl
theorem framesL_one (b : List Int) : framesL [b] = frame b := by simp [framesL]

theorem bodyOk_len {b : List Int} (h : bodyOk b = true) : 1 ≤ b.length ∧ b.length ≤ 16 := by
  unfold bodyOk at h
  simp only [Bool.and_eq_true, decide_eq_true_eq] at h
  exact h.2
theorem bodyOk_byte {b : List Int} (h : bodyOk b = true) {x : Int} (hx : x ∈ b) : 0 ≤ x ∧ x ≤ 255 := by
  unfold bodyOk at h
  simp only [Bool.and_eq_true, List.all_eq_true] at h
  have := h.1 x hx
  unfold byteOk at this
  simpa using this

theorem sumStep_range (n x : Int) : 0 ≤ sumStep n x ∧ sumStep n x ≤ 250 := by unfold sumStep; omega
theorem foldl_range : ∀ (b : List Int) (n : Int), 0 ≤ n → n ≤ 250 → 0 ≤ b.foldl sumStep n ∧ b.foldl sumStep n ≤ 250
  | [], _, h1, h2 => ⟨h1, h2⟩
  | x :: r, n, _, _ => by
    obtain ⟨a, b⟩ := sumStep_range n x
    exact foldl_range r _ a b
theorem sumB_range (b : List Int) : 0 ≤ sumB b ∧ sumB b ≤ 250 := foldl_range b 7 (by omega) (by omega)

theorem foldl_inj : ∀ (b : List Int) (n m : Int), 0 ≤ n → n ≤ 250 → 0 ≤ m → m ≤ 250 → n ≠ m → b.foldl sumStep n ≠ b.foldl sumStep m
  | [], _, _, _, _, _, _, h => h
  | x :: r, n, m, h1, h2, h3, h4, h => by
    obtain ⟨a, b⟩ := sumStep_range n x
    obtain ⟨c, d⟩ := sumStep_range m x
    refine foldl_inj r _ _ a b c d ?_
    unfold sumStep
    omega

/-- A changed byte changes the sum. -/
theorem sum_changed {b : List Int} {k : Nat} {x y : Int} (hk : b[k]? = some x) (hxy : y = x + 1 ∨ y = x - 1) : sumB (b.set k y) ≠ sumB b := by
  have hl := (List.getElem?_eq_some_iff.1 hk).1
  have hx := (List.getElem?_eq_some_iff.1 hk).2
  have e1 : b = b.take k ++ x :: b.drop (k + 1) := by
    rw [← hx, List.getElem_cons_drop, List.take_append_drop]
  have e2 : b.set k y = b.take k ++ y :: b.drop (k + 1) := List.set_eq_take_append_cons_drop.trans (if_pos hl)
  rw [e2]
  conv => rhs; rw [e1]
  unfold sumB
  rw [List.foldl_append, List.foldl_append, List.foldl_cons, List.foldl_cons]
  obtain ⟨a, b'⟩ := foldl_range (b.take k) 7 (by omega) (by omega)
  generalize (b.take k).foldl sumStep 7 = n at a b'
  obtain ⟨p, q⟩ := sumStep_range n y
  obtain ⟨r, s⟩ := sumStep_range n x
  refine foldl_inj _ _ _ p q r s ?_
  unfold sumStep
  omega

/-! ## Scanning -/

/-- A whole frame at the beginning: its body. -/
def headOk (n : Int) (rest : List Int) : Bool :=
  decide (1 ≤ n ∧ n ≤ 16) && (decide (n.toNat + 1 ≤ rest.length) && (bodyOk (rest.take n.toNat) && decide (rest[n.toNat]? = some (sumB (rest.take n.toNat)))))

def scanF : Nat → List Int → List (List Int) × Nat
  | 0, _ => ([], 0)
  | _ + 1, [] => ([], 0)
  | f + 1, n :: rest => if headOk n rest = true then ((rest.take n.toNat) :: (scanF f (rest.drop (n.toNat + 1))).1, n.toNat + 2 + (scanF f (rest.drop (n.toNat + 1))).2) else ([], 0)

def scanL (l : List Int) : List (List Int) × Nat := scanF l.length l

theorem headOk_iff (n : Int) (rest : List Int) : headOk n rest = true ↔ (1 ≤ n ∧ n ≤ 16) ∧ n.toNat + 1 ≤ rest.length ∧ bodyOk (rest.take n.toNat) = true ∧ rest[n.toNat]? = some (sumB (rest.take n.toNat)) := by
  unfold headOk
  simp only [Bool.and_eq_true, decide_eq_true_eq]

theorem scanF_more : ∀ (f g : Nat) (l : List Int), l.length ≤ f → l.length ≤ g → scanF f l = scanF g l
  | 0, 0, _, _, _ => rfl
  | 0, g + 1, [], _, _ => rfl
  | f + 1, 0, [], _, _ => rfl
  | f + 1, g + 1, [], _, _ => rfl
  | f + 1, g + 1, n :: rest, h1, h2 => by
    unfold scanF
    have : scanF f (rest.drop (n.toNat + 1)) = scanF g (rest.drop (n.toNat + 1)) := scanF_more f g _ (by rw [List.length_drop]; simp at h1; omega) (by rw [List.length_drop]; simp at h2; omega)
    rw [this]

theorem scanL_cons (n : Int) (rest : List Int) : scanL (n :: rest) = if headOk n rest = true then ((rest.take n.toNat) :: (scanL (rest.drop (n.toNat + 1))).1, n.toNat + 2 + (scanL (rest.drop (n.toNat + 1))).2) else ([], 0) := by
  unfold scanL
  show scanF (rest.length + 1) (n :: rest) = _
  conv => lhs; unfold scanF
  rw [scanF_more rest.length (rest.drop (n.toNat + 1)).length _ (by rw [List.length_drop]; omega) (Nat.le_refl _)]

theorem scanL_nil : scanL [] = ([], 0) := rfl

theorem head_frame {b : List Int} (h : bodyOk b = true) (rest : List Int) : headOk (b.length : Int) (b ++ [sumB b] ++ rest) = true := by
  rw [headOk_iff]
  have hl := bodyOk_len h
  have e : (b.length : Int).toNat = b.length := by omega
  rw [e]
  have ht : (b ++ [sumB b] ++ rest).take b.length = b := by rw [List.append_assoc, List.take_left']; rfl
  refine ⟨by omega, by simp, by rw [ht]; exact h, ?_⟩
  rw [ht, List.append_assoc, List.getElem?_append_right (Nat.le_refl _)]
  simp

theorem scan_frame {b : List Int} (h : bodyOk b = true) (rest : List Int) : scanL (frame b ++ rest) = (b :: (scanL rest).1, b.length + 2 + (scanL rest).2) := by
  unfold frame
  rw [List.cons_append, scanL_cons, if_pos (head_frame h rest)]
  have e : (b.length : Int).toNat = b.length := by omega
  rw [e]
  have ht : (b ++ [sumB b] ++ rest).take b.length = b := by rw [List.append_assoc, List.take_left']; rfl
  have hd : (b ++ [sumB b] ++ rest).drop (b.length + 1) = rest := by
    rw [List.drop_left']; simp
  rw [ht, hd]

/-- What was framed is found. -/
theorem scan_frames : ∀ {bs : List (List Int)}, bs.all bodyOk = true → ∀ rest, scanL (framesL bs ++ rest) = (bs ++ (scanL rest).1, (framesL bs).length + (scanL rest).2)
  | [], _, rest => by simp [framesL]
  | b :: bs, h, rest => by
    simp only [List.all_cons, Bool.and_eq_true] at h
    rw [framesL_cons, List.append_assoc, scan_frame h.1, scan_frames h.2]
    simp [frame_length]
    omega

theorem scan_all {bs : List (List Int)} (h : bs.all bodyOk = true) : scanL (framesL bs) = (bs, (framesL bs).length) := by
  have := scan_frames h []
  rw [List.append_nil, scanL_nil] at this
  simpa using this

/-- A frame that lacks its last number is none. -/
theorem scan_torn {b : List Int} (h : bodyOk b = true) : scanL (frame b).dropLast = ([], 0) := by
  unfold frame
  have hl := bodyOk_len h
  have : ((b.length : Int) :: (b ++ [sumB b])).dropLast = (b.length : Int) :: b := by
    rw [← List.cons_append, List.dropLast_concat]
  rw [this, scanL_cons, if_neg]
  rw [headOk_iff]
  rintro ⟨_, h2, _⟩
  have e : (b.length : Int).toNat = b.length := by omega
  omega

theorem scan_torn_all {bs : List (List Int)} {b : List Int} (h : (bs ++ [b]).all bodyOk = true) : scanL (framesL (bs ++ [b])).dropLast = (bs, (framesL bs).length) := by
  simp only [List.all_append, Bool.and_eq_true, List.all_cons, List.all_nil, and_true] at h
  rw [framesL_append, framesL_one, List.dropLast_append_of_ne_nil (by simp [frame]), scan_frames h.1, scan_torn h.2]
  simp

/-- What is found was framed. -/
theorem scan_sound : ∀ (l : List Int), (scanL l).1.all bodyOk = true ∧ framesL (scanL l).1 = l.take (scanL l).2 ∧ (scanL l).2 ≤ l.length := by
  intro l
  generalize hn : l.length = m
  induction m using Nat.strongRecOn generalizing l with
  | ind m ih =>
    match l with
    | [] => exact ⟨rfl, rfl, by simp [scanL_nil]⟩
    | n :: rest =>
      rw [scanL_cons]
      by_cases h : headOk n rest = true
      · rw [if_pos h]
        obtain ⟨h1, h2, h3, h4⟩ := (headOk_iff _ _).1 h
        obtain ⟨i1, i2, i3⟩ := ih (rest.drop (n.toNat + 1)).length (by rw [List.length_drop]; simp at hn; omega) _ rfl
        have hdl : (rest.drop (n.toNat + 1)).length = rest.length - (n.toNat + 1) := List.length_drop
        have htl : (rest.take n.toNat).length = n.toNat := by rw [List.length_take]; omega
        have hfr : frame (rest.take n.toNat) = n :: rest.take (n.toNat + 1) := by
          unfold frame
          rw [htl, List.take_add_one, h4, show ((n.toNat : Nat) : Int) = n by omega]
          rfl
        refine ⟨by simp only [List.all_cons, Bool.and_eq_true]; exact ⟨h3, i1⟩, ?_, ?_⟩
        · show framesL (_ :: _) = _
          rw [framesL_cons, i2, hfr]
          show n :: (rest.take (n.toNat + 1) ++ _) = _
          have ej : n.toNat + 2 + (scanL (rest.drop (n.toNat + 1))).2 = (n.toNat + 1 + (scanL (rest.drop (n.toNat + 1))).2) + 1 := by omega
          rw [ej, List.take_succ_cons]
          congr 1
          generalize (scanL (rest.drop (n.toNat + 1))).2 = j
          exact (List.take_add (l := rest) (i := n.toNat + 1) (j := j)).symm
        · show n.toNat + 2 + _ ≤ m
          simp at hn
          omega
      · rw [if_neg h]
        exact ⟨rfl, rfl, Nat.zero_le _⟩

/-- Good frames stay good. -/
theorem scan_more (l : List Int) {b : List Int} (h : bodyOk b = true) : scanL (l.take (scanL l).2 ++ frame b) = ((scanL l).1 ++ [b], (scanL l).2 + b.length + 2) := by
  obtain ⟨h1, h2, h3⟩ := scan_sound l
  have hl : (framesL (scanL l).1).length = (scanL l).2 := by rw [h2, List.length_take]; omega
  rw [← h2, ← framesL_one b, ← framesL_append, scan_all (by rw [List.all_append, h1]; simp [h]), framesL_append, List.length_append, hl, framesL_one, frame_length]
  rfl

/-- A part of the numbers has a part of the bodies. -/
theorem scan_part : ∀ (l : List Int) (k : Nat), (scanL (l.take k)).2 ≤ k ∧ (scanL (l.take k)).2 ≤ (scanL l).2 ∧ (scanL (l.take k)).1 <+: (scanL l).1 := by
  intro l
  generalize hn : l.length = m
  induction m using Nat.strongRecOn generalizing l with
  | ind m ih =>
    intro k
    have hk : (scanL (l.take k)).2 ≤ k := Nat.le_trans (scan_sound (l.take k)).2.2 (by rw [List.length_take]; omega)
    refine ⟨hk, ?_⟩
    clear hk
    match l, k with
    | [], k => simp [scanL_nil]
    | n :: rest, 0 => simp [scanL_nil]
    | n :: rest, k + 1 =>
      rw [List.take_succ_cons, scanL_cons]
      by_cases h : headOk n (rest.take k) = true
      · obtain ⟨h1, h2, h3, h4⟩ := (headOk_iff _ _).1 h
        rw [List.length_take] at h2
        have e1 : (rest.take k).take n.toNat = rest.take n.toNat := by rw [List.take_take, Nat.min_eq_left (by omega)]
        have e2 : (rest.take k).drop (n.toNat + 1) = (rest.drop (n.toNat + 1)).take (k - (n.toNat + 1)) := by rw [List.drop_take]
        have e3 : (rest.take k)[n.toNat]? = rest[n.toNat]? := by rw [List.getElem?_take, if_pos (by omega)]
        have h' : headOk n rest = true := (headOk_iff _ _).2 ⟨h1, by omega, by rw [← e1]; exact h3, by rw [← e3, ← e1]; exact h4⟩
        rw [if_pos h, scanL_cons n rest, if_pos h', e1, e2]
        obtain ⟨_, i2, i3⟩ := ih (rest.drop (n.toNat + 1)).length (by rw [List.length_drop]; simp at hn; omega) _ rfl (k - (n.toNat + 1))
        refine ⟨by show _ + _ ≤ _ + _; omega, ?_⟩
        obtain ⟨t, ht⟩ := i3
        exact ⟨t, by show (_ :: _) ++ t = _ :: _; rw [List.cons_append, ht]⟩
      · rw [if_neg h]
        exact ⟨Nat.zero_le _, List.nil_prefix⟩

theorem framesOf_some {bs : List (List Int)} {out : List Int} (h : framesOf bs = some out) : bs.all bodyOk = true ∧ bs.length ≤ 40 ∧ out = framesL bs := by
  unfold framesOf at h
  split at h
  · rename_i hc
    simp only [Bool.and_eq_true, decide_eq_true_eq] at hc
    exact ⟨hc.1, hc.2, (Option.some.inj h).symm⟩
  · cases h

theorem framesOf_take {bs : List (List Int)} {out : List Int} (h : framesOf bs = some out) (k : Nat) : framesOf (bs.take k) = some (framesL (bs.take k)) ∧ framesOf (bs.drop k) = some (framesL (bs.drop k)) ∧ framesL (bs.take k) ++ framesL (bs.drop k) = out := by
  obtain ⟨h1, h2, h3⟩ := framesOf_some h
  have ha : ∀ c : List (List Int), (∀ x ∈ c, x ∈ bs) → c.all bodyOk = true := fun c hc => List.all_eq_true.2 fun x hx => List.all_eq_true.1 h1 x (hc x hx)
  refine ⟨?_, ?_, ?_⟩
  · unfold framesOf
    rw [ha _ (fun x hx => List.mem_of_mem_take hx), decide_eq_true (by rw [List.length_take]; omega)]; rfl
  · unfold framesOf
    rw [ha _ (fun x hx => List.mem_of_mem_drop hx), decide_eq_true (by rw [List.length_drop]; omega)]; rfl
  · rw [← framesL_append, List.take_append_drop, h3]

end Go.Proofs.YtnboodcllmdjeaaGreatDoor

/-
  WALKS: lists of numbers; spec.l6In, l4Bytes, l4Body, l4Sum, BodySum.
-/
namespace Go.Proofs.YtnboodcllmdjeaaGreatDoor
open Go.RowKit
set_option linter.unusedVariables false

/-- A list of numbers, wherever it lies. -/
def IntsAt (W : World) (a : Option Addr) (len : Nat) (zs : List Int) : Prop :=
  zs.length = len ∧ (len = 0 ∨ ∃ b off, a = some ⟨b, off, none⟩ ∧ ∀ i z, zs[i]? = some z → W.cell? ⟨b, off + i, none⟩ = some (.int .i64 z))

theorem IntsAt.keep {W W' : World} {a : Option Addr} {len : Nat} {zs : List Int} (h : IntsAt W a len zs) (hb : Below W.heap.size W W') : IntsAt W' a len zs := by
  obtain ⟨h1, h0 | ⟨b, off, ha, hc⟩⟩ := h
  · exact ⟨h1, .inl h0⟩
  · exact ⟨h1, .inr ⟨b, off, ha, fun i x hx => cell_kept hb (hc i x hx)⟩⟩

theorem IntsAt.at {W : World} {a : Option Addr} {len : Nat} {zs : List Int} (h : IntsAt W a len zs) {i : Nat} (hi : i < len) :
    ∃ b off z, a = some ⟨b, off, none⟩ ∧ zs[i]? = some z ∧ W.cell? ⟨b, off + i, none⟩ = some (.int .i64 z) := by
  obtain ⟨h1, h0 | ⟨b, off, ha, hc⟩⟩ := h
  · omega
  · obtain ⟨x, hx⟩ : ∃ x, zs[i]? = some x := ⟨_, List.getElem?_eq_getElem (by omega)⟩
    exact ⟨b, off, x, ha, hx, hc i x hx⟩

def intsV (zs : List Int) : List Value := zs.map (Value.int .i64)

theorem ints_of_own {W : World} {base : Nat} {e : TypeId} {v : Value} {zs : List Int} (h : W.ownsRow base e 1 v zs.length (intsV zs)) :
    ∃ a cap, v = .slice a zs.length cap ∧ IntsAt W a zs.length zs := by
  rcases h.2 with ⟨rfl, h0⟩ | ⟨g, cap, cur, rfl, h1, h2, h3, h4, h5, h6⟩
  · exact ⟨none, 0, by rw [h0], rfl, .inl h0⟩
  · refine ⟨some ⟨g, 0, none⟩, cap, rfl, rfl, .inr ⟨g, 0, rfl, fun i x hx => ?_⟩⟩
    have hi := (List.getElem?_eq_some_iff.1 hx).1
    rw [Nat.zero_add, h.cellAt i (by omega)]
    unfold intsV
    rw [List.getElem?_map, hx]; rfl

theorem retb {a b : Bool} (h : a = b) : Ending.returned (.bool a) = .returned (.bool b) := by rw [h]

set_option maxHeartbeats 400000 in
theorem l6In_c (n lo hi : Int) (w : World) : Calls Tryz.prog 91 #[.int .i64 n, .int .i64 lo, .int .i64 hi] w fun e w' => e = .returned (.bool (decide (lo ≤ n ∧ n ≤ hi))) ∧ w' = w := by
  by_cases h1 : lo ≤ n
  · by_cases h2 : n ≤ hi
    · have hr := Lib.hid (show true = decide (lo ≤ n ∧ n ≤ hi) from (decide_eq_true ⟨h1, h2⟩).symm)
      have d1 : decide (lo ≤ n) = true := decide_eq_true h1
      have d2 : decide (n ≤ hi) = true := decide_eq_true h2
      go_enter Tryz.func91, Tryz.ntmps91
      go_wp2
      go_ret
      exact ⟨retb hr.out, rfl⟩
    · have hr := Lib.hid (show false = decide (lo ≤ n ∧ n ≤ hi) from (decide_eq_false (fun h => h2 h.2)).symm)
      have d1 : decide (lo ≤ n) = true := decide_eq_true h1
      have d2 : decide (n ≤ hi) = false := decide_eq_false h2
      have h2' : hi < n := by omega
      clear h2
      go_enter Tryz.func91, Tryz.ntmps91
      go_wp2
      go_ret
      exact ⟨retb hr.out, rfl⟩
  · have hr := Lib.hid (show false = decide (lo ≤ n ∧ n ≤ hi) from (decide_eq_false (fun h => h1 h.1)).symm)
    have d1 : decide (lo ≤ n) = false := decide_eq_false h1
    have h1' : n < lo := by omega
    clear h1
    go_enter Tryz.func91, Tryz.ntmps91
    go_wp2
    go_ret
    exact ⟨retb hr.out, rfl⟩

def BytesRel (zs : List Int) (W : World) (i : Value) (wr : World) : Prop := ∃ n : Nat, i = .int .i64 n ∧ n ≤ zs.length ∧ Hid ((zs.take n).all byteOk = true) ∧ wr = W

theorem take_all {zs : List Int} {i : Nat} {z : Int} (h : zs[i]? = some z) : (zs.take (i + 1)).all byteOk = ((zs.take i).all byteOk && byteOk z) := by
  rw [List.take_add_one, h]
  simp [List.all_append]

theorem all_take_false {zs : List Int} {i : Nat} (h : (zs.take i).all byteOk = false) : zs.all byteOk = false := by
  rw [Bool.eq_false_iff] at h ⊢
  intro hc
  exact h (List.all_eq_true.2 fun x hx => List.all_eq_true.1 hc x (List.mem_of_mem_take hx))

def SumRel (zs : List Int) (W : World) (n i : Value) (wr : World) : Prop := ∃ k : Nat, i = .int .i64 k ∧ k ≤ zs.length ∧ n = .int .i64 (sumB (zs.take k)) ∧ wr = W

theorem sumB_next {zs : List Int} {i : Nat} {z : Int} (h : zs[i]? = some z) : sumB (zs.take (i + 1)) = (31 * sumB (zs.take i) + z) % 251 := by
  unfold sumB
  rw [List.take_add_one, h, List.foldl_append]
  rfl

end Go.Proofs.YtnboodcllmdjeaaGreatDoor

/-
  WALKS: spec.FrameOf.
-/
namespace Go.Proofs.YtnboodcllmdjeaaGreatDoor
open Go.RowKit
set_option linter.unusedVariables false

theorem infoInt : (Tryz.prog.info? 3).map (fun i => (i.zero, i.size, i.bytes)) = some (some (.int .i64 0), 1, 8) := by kernel_rfl

/-- A list of numbers that the call has made. -/
def OwnsInts (base : Nat) (zs : List Int) (e : Ending) (w' : World) : Prop := ∃ sl, e = .returned sl ∧ w'.ownsRow base 3 1 sl zs.length (intsV zs)

theorem intsV_append (a b : List Int) : intsV (a ++ b) = intsV a ++ intsV b := by unfold intsV; rw [List.map_append]
theorem intsV_length (a : List Int) : (intsV a).length = a.length := by unfold intsV; rw [List.length_map]
theorem intsV_cells (zs : List Int) : ∀ u ∈ intsV zs, u.oneCell' = true := by
  intro u hu
  unfold intsV at hu
  obtain ⟨z, _, rfl⟩ := List.mem_map.1 hu
  rfl

theorem own_join1 {W : World} {b : Nat} {e : TypeId} {v : Value} {acc more : List Int} (h : W.ownsRow b e 1 v (acc.length + more.length) (intsV acc ++ intsV more)) : W.ownsRow b e 1 v (acc ++ more).length (intsV (acc ++ more)) := by
  rw [intsV_append, List.length_append]; exact h

theorem own_below1 {W W' : World} {base : Nat} {e : TypeId} {size n : Nat} {v : Value} {xs : List Value} (h : W.ownsRow base e size v n xs) (hg : Below W.heap.size W W') : W'.ownsRow base e size v n xs :=
  h.kept (below_grown hg) (by cases hv : v.ownBlock <;> simp)

theorem own_mono1 {W : World} {b c : Nat} {e : TypeId} {size n : Nat} {v : Value} {xs : List Value} (h : W.ownsRow c e size v n xs) (hbc : b ≤ c) : W.ownsRow b e size v n xs := by
  obtain ⟨h1, h2 | ⟨g, cap, cur, h3, h4, h5⟩⟩ := h
  · exact ⟨h1, .inl h2⟩
  · exact ⟨h1, .inr ⟨g, cap, cur, h3, Nat.le_trans hbc h4, h5⟩⟩

theorem add_off (b off j : Nat) : ((⟨b, off, none⟩ : Addr).add j) = ⟨b, off + j, none⟩ := by
  unfold Addr.add
  split
  · rename_i h; rw [h]; rfl
  · rfl

theorem ints_cells {W : World} {b off len : Nat} {zs : List Int} (h : IntsAt W (some ⟨b, off, none⟩) len zs) : ∀ j u, (intsV zs)[j]? = some u → W.cell? ((⟨b, off, none⟩ : Addr).add j) = some u := by
  intro j u hj
  unfold intsV at hj
  rw [List.getElem?_map] at hj
  obtain ⟨z, hz, rfl⟩ := Option.map_eq_some_iff.1 hj
  obtain ⟨h1, h0 | ⟨b', off', ha, hc⟩⟩ := h
  · have := (List.getElem?_eq_some_iff.1 hz).1; omega
  · simp at ha
    obtain ⟨rfl, rfl⟩ := ha
    rw [add_off]; exact hc j z hz

theorem cell_int_new (w : World) (v : Value) (t : TypeId) : ∀ j u, [v][j]? = some u → (w.alloc (.cells #[v] t)).cell? ((⟨w.heap.size, 0, none⟩ : Addr).add j) = some u := by
  intro j u hj
  match j, hj with
  | 0, hj => simp at hj; subst hj; simp [Addr.add]

end Go.Proofs.YtnboodcllmdjeaaGreatDoor

/-
  WALKS: impl.sumsOf.
-/
namespace Go.Proofs.YtnboodcllmdjeaaGreatDoor
open Go.RowKit
set_option linter.unusedVariables false

attribute [local go_sem] Oper.semAt_some

/-- One round: a sum is written, and the stack moves on. -/
def stepB {ns : List Nd} (a : List Int × Stk) (x : Elt ns) : List Int × Stk :=
  (a.1.set x.i (popL x.n.p (baseW (x.n.k, x.n.v)) a.2).1, (x.n.p, (popL x.n.p (baseW (x.n.k, x.n.v)) a.2).1) :: (popL x.n.p (baseW (x.n.k, x.n.v)) a.2).2)

theorem set_last (j : Nat) (r : Int) (A : List Int) : (List.replicate (j + 1) (0 : Int) ++ A).set j r = List.replicate j 0 ++ r :: A := by
  rw [List.replicate_succ', List.append_assoc, List.set_append_right _ _ (by simp)]
  simp

theorem fold_back (ns : List Nd) : ∀ (j : Nat) (h : j ≤ ns.length), (backE ns j h).foldl stepB (List.replicate j 0 ++ (runSt (ns.drop j)).1, (runSt (ns.drop j)).2) = runSt ns
  | 0, _ => by simp [backE]
  | j + 1, h => by
    have hd : ns.drop j = ns[j] :: ns.drop (j + 1) := List.drop_eq_getElem_cons (by omega)
    have e : runSt (ns.drop j) = stepNd ns[j] (runSt (ns.drop (j + 1))) := by rw [hd, runSt_cons]
    have ih := fold_back ns j (by omega)
    rw [e] at ih
    show List.foldl stepB (stepB _ ⟨j, ns[j], _⟩) (backE ns j _) = _
    unfold stepB
    simp only
    rw [set_last]
    exact ih

theorem fold_all (ns : List Nd) : (backE ns ns.length (Nat.le_refl _)).foldl stepB (List.replicate ns.length 0, []) = runSt ns := by
  have := fold_back ns ns.length (Nat.le_refl _)
  rw [List.drop_length] at this
  simpa [runSt] using this

theorem infoInt3 : (Tryz.prog.info? 3).map (fun i => (i.zero, i.size, i.bytes)) = some (some (.int .i64 0), 1, 8) := by kernel_rfl

theorem made_row (W : World) (len : Nat) (hm : len ≤ maxLen) : (W.alloc (.cells (madeCells #[.int .i64 0] len) 3)).ownsRow W.heap.size 3 1 (.slice (some ⟨W.heap.size, 0, none⟩) len len) len (intsV (List.replicate len 0)) := by
  refine ⟨by rw [intsV_length, List.length_replicate, Nat.mul_one], .inr ⟨W.heap.size, len, _, rfl, Nat.le_refl _, World.alloc_heap_new W _, Nat.le_refl _, hm, by rw [size_madeCells, Nat.mul_one], ?_⟩⟩
  rw [Nat.mul_one, List.take_of_length_le (by rw [Array.length_toList, size_madeCells]; omega)]
  unfold madeCells intsV
  rw [List.map_replicate, List.eq_replicate_iff]
  refine ⟨by simp, fun v hv => ?_⟩
  simp [Nat.mod_one] at hv
  exact hv.2.symm

theorem StkKept.row {B base : Nat} {W W' : World} (h : StkKept B base W W') {g0 b0 n cap size : Nat} {e : TypeId} {xs : List Value} (hg : g0 < base) (hne : g0 ≠ B) (ho : W.ownsRow b0 e size (.slice (some ⟨g0, 0, none⟩) n cap) n xs) : W'.ownsRow b0 e size (.slice (some ⟨g0, 0, none⟩) n cap) n xs := by
  refine ⟨ho.1, ?_⟩
  rcases ho.2 with ⟨h0, _⟩ | ⟨g, cap', cur, hv, h1, h2, h3⟩
  · cases h0
  · cases hv
    exact .inr ⟨g0, cap, cur, rfl, h1, (h.block g0 hg hne).trans h2, h3⟩

theorem intsV_set (zs : List Int) (i : Nat) (r : Int) : (intsV zs).set i (.int .i64 r) = intsV (zs.set i r) := by unfold intsV; rw [List.map_set]

/-- The loop's variable lies in a box of its own. -/
def NdBox {ns : List Nd} (B0 : Nat) (tm : Nat → Elt ns → Array Value) (x : Elt ns) (a' : Act) (W : World) : Prop :=
  ∃ Bx, B0 ≤ Bx ∧ W.heap[Bx]? = some (.cells #[.string x.n.p, .int .i64 x.n.k, .int .i64 x.n.v] 53 (0, 0)) ∧ a' = { tmps := tm Bx x, defers := [] }

theorem NdBox.own {ns : List Nd} (B0 : Nat) (tm : Nat → Elt ns → Array Value) (x : Elt ns) (a' : Act) : Own (fun (_ : Unit) W => NdBox B0 tm x a' W) := by
  rintro _ A B row ⟨Bx, h0, h1, h2⟩ hg hr
  refine ⟨Bx, h0, (hg.block Bx (Array.getElem?_eq_some_iff.1 h1).1 fun e => ?_).trans h1, h2⟩
  obtain ⟨o, ho, hc⟩ := hr _ e.symm
  rw [h1] at ho; cases ho; cases hc

end Go.Proofs.YtnboodcllmdjeaaGreatDoor

/-
  WALKS: spec.l5Sum, TreeSum, TreeSums.
-/
namespace Go.Proofs.YtnboodcllmdjeaaGreatDoor
open Go.RowKit
set_option linter.unusedVariables false

theorem convLetter (w : World) (c : Nat) : (convert 22 9 (.slice (some ⟨w.heap.size, 0, none⟩) 1 1)).run Tryz.prog (w.alloc (.cells #[.int .u8 (97 + (c : Int))] 5)) =
    .ok (.string ⟨#[UInt8.ofNat (97 + c)]⟩) (w.alloc (.cells #[.int .u8 (97 + (c : Int))] 5)) := by
  rw [run_convert_bytes_string _ _ _ _ _ _ _ Tryz.underlying22 Tryz.underlying5 Tryz.underlying9, run_bytesToString _ _ _ _ [97 + (c : Int)] ?_]
  · simp only [List.foldl_cons, List.foldl_nil]
    have : (97 + (c : Int)).toNat = 97 + c := by omega
    rw [this]; rfl
  · simp [loadCells, go_sem, Addr.add]

theorem pB_len {v : List UInt8} : (pB v).size ≤ 2 * v.length + 1 := by
  show (Pm.pathOf v).length ≤ _
  unfold Pm.pathOf
  split
  · simp
  · rw [Pm.flat_length]; omega

theorem mk_app (x y : ByteArray) : (x ++ y).data.toList = x.data.toList ++ y.data.toList := by simp [ByteArray.data_append]

theorem child_root (c : UInt8) : (⟨#[47]⟩ : ByteArray) ++ ⟨#[c]⟩ = pB [c] := by
  rw [← Lib.mk_data ((⟨#[47]⟩ : ByteArray) ++ ⟨#[c]⟩), mk_app]; rfl

theorem child_path {w : List UInt8} (hw : w ≠ []) (c : UInt8) : pB w ++ ⟨#[47]⟩ ++ ⟨#[c]⟩ = pB (w ++ [c]) := by
  rw [← Lib.mk_data (pB w ++ ⟨#[47]⟩ ++ ⟨#[c]⟩), mk_app, mk_app, pB_list]
  unfold pB Pm.pathOf
  rw [if_neg hw, if_neg (by simp), Pm.flat_append]
  simp [Pm.flat]

/-- What a sum's walk leaves: a number. -/
def NumPost (n : Int) (W : World) (e : Ending) (w' : World) : Prop := e = .returned (.int .i64 n) ∧ Below W.heap.size W w'

def L5Rel (G : List UInt8 → Int × Int) (d : Nat) (w : List UInt8) (W : World) (n k : Value) (wr : World) : Prop :=
  ∃ m : Nat, k = .int .i64 m ∧ m ≤ 4 ∧ n = .int .i64 (partW G d w m) ∧ Hid (Below W.heap.size W wr)

theorem letter_ofNat {k : Nat} (hk : k < 4) : Pm.letter (UInt8.ofNat (97 + k)) = true := by
  rcases (by omega : k = 0 ∨ k = 1 ∨ k = 2 ∨ k = 3) with rfl | rfl | rfl | rfl <;> decide

theorem word_next {w : List UInt8} (hw : Wrd w) (h : w.length < 4) {k : Nat} (hk : k < 4) : Wrd (w ++ [UInt8.ofNat (97 + k)]) :=
  ⟨by rw [List.length_append]; show w.length + 1 ≤ 4; omega, fun x hx => by
    rcases List.mem_append.1 hx with hx | hx
    · exact hw.2 x hx
    · rw [List.mem_singleton.1 hx]; exact letter_ofNat hk⟩

def SumsRel (ns : List Nd) (W1 : World) (o i : Value) (wr : World) : Prop :=
  ∃ n : Nat, i = .int .i64 n ∧ n ≤ ns.length ∧ Hid (validT ns = true ∨ n = 0) ∧ wr.ownsRow W1.heap.size 3 1 o ((ns.take n).map (fun x => treeSum ns x.p)).length (intsV ((ns.take n).map (fun x => treeSum ns x.p))) ∧ Hid (Below W1.heap.size W1 wr)

end Go.Proofs.YtnboodcllmdjeaaGreatDoor

/-
  WALKS: impl.TreeSums, impl.TreeSum.
-/
namespace Go.Proofs.YtnboodcllmdjeaaGreatDoor
open Go.RowKit
set_option linter.unusedVariables false

theorem sums_valid {ns : List Nd} (h : validT ns = true) : (runSt ns).1 = treeSums ns := by
  rw [run_tree h]
  unfold treeSums
  rw [if_pos h]

theorem sums_bad {ns : List Nd} (h : validT ns = false) : treeSums ns = [] := by
  unfold treeSums
  rw [if_neg (by rw [h]; decide)]

theorem root_map {ns : List Nd} (h : validT ns = true) : (runSt (⟨rootB, 1, 0⟩ :: ns)).1 = (⟨rootB, 1, 0⟩ :: ns : List Nd).map (fun n => treeSum ns n.p) := by
  rw [run_root h]; rfl

theorem rows_two (W : World) {a1 a2 : Option Addr} {l1 c1 l2 c2 : Nat} {n1 n2 : List Nd} (h1 : NodesAt W a1 l1 n1) (h2 : NodesAt W a2 l2 n2) (t : TypeId) :
    RowsAt (W.alloc (.cells #[.slice a1 l1 c1, .slice a2 l2 c2] t)) W.heap.size 0 [⟨a1, l1, c1, n1⟩, ⟨a2, l2, c2, n2⟩] := by
  intro i r hr
  have hb := below_box W (.cells #[.slice a1 l1 c1, .slice a2 l2 c2] t)
  match i, hr with
  | 0, hr =>
    simp at hr; subst hr
    exact ⟨by simp, h1.keep hb⟩
  | 1, hr =>
    simp at hr; subst hr
    exact ⟨by simp, h2.keep hb⟩
  | i + 2, hr => simp at hr

theorem one_node (W : World) (p : ByteArray) (k v : Int) (t : TypeId) : NodesAt (W.alloc (.cells #[.string p, .int .i64 k, .int .i64 v] t)) (some ⟨W.heap.size, 0, none⟩) 1 [⟨p, k, v⟩] := by
  refine ⟨rfl, .inr ⟨W.heap.size, 0, rfl, fun i n hn => ?_⟩⟩
  match i, hn with
  | 0, hn => simp at hn; subst hn; simp
  | i + 1, hn => simp at hn

theorem look_sum {ns L : List Nd} (hL : L = ⟨rootB, 1, 0⟩ :: ns) (hv : validT ns = true) {i : Nat} {m : Nd} (hm : L[i]? = some m) {z : Int} (hz : (runSt L).1[i]? = some z) : z = treeSum ns m.p := by
  subst hL
  rw [root_map hv, List.getElem?_map, hm] at hz
  exact (Option.some.inj hz).symm

theorem look_miss {ns L : List Nd} {p : ByteArray} (hL : L = ⟨rootB, 1, 0⟩ :: ns) (hv : validT ns = true) (hp : vpB p = true) (h : ∀ j m, j < L.length → L[j]? = some m → m.p ≠ p) : treeSum ns p = 1 := by
  have hm : ∀ m ∈ L, m.p ≠ p := fun m hm => by
    obtain ⟨j, hj⟩ := List.getElem?_of_mem hm
    exact h j m (List.getElem?_eq_some_iff.1 hj).1 hj
  subst hL
  refine sum_missing hv hp (fun e => hm ⟨rootB, 1, 0⟩ (by simp) e.symm) fun n hn => hm n (by simp [hn])

def LookRel (L : List Nd) (p : ByteArray) (W : World) (i : Value) (wr : World) : Prop := ∃ n : Nat, i = .int .i64 n ∧ n ≤ L.length ∧ Hid (∀ j m, j < n → L[j]? = some m → m.p ≠ p) ∧ W = wr

theorem sum_bad {ns : List Nd} {p : ByteArray} (h : validT ns = false ∨ vpB p = false) : treeSum ns p = -1 := by
  unfold treeSum
  rcases h with h | h <;> simp [h]

end Go.Proofs.YtnboodcllmdjeaaGreatDoor

/-
  WALKS: impl.TreeUnder.
-/
namespace Go.Proofs.YtnboodcllmdjeaaGreatDoor
open Go.RowKit
set_option linter.unusedVariables false

theorem treeUnder_bad {ns : List Nd} {p : ByteArray} (h : validT ns = false ∨ vpB p = false) : treeUnder ns p = [] := by
  unfold treeUnder
  rcases h with h | h <;> simp [h]

theorem texts_nil {xs : List ByteArray} {W w : World} (h : xs = []) (hB : Below W.heap.size W w) : TextsPost xs W (.returned (.slice none 0 0)) w := by
  subst h; exact ⟨⟨_, rfl, World.ownsRow_nil _ _ _ _⟩, hB⟩

def pathVals (out : List Nd) (n : Nat) : List Value := ((out.take n).map Nd.p).map Value.string
theorem pathVals_next {out : List Nd} {n : Nat} {x : Nd} (h : out[n]? = some x) : pathVals out (n + 1) = pathVals out n ++ [.string x.p] := by
  unfold pathVals; rw [take_next h]; simp

/-- The loop that takes the paths. -/
def PathsRel (out : List Nd) (W : World) (W8 : World) (o i : Value) (wr : World) : Prop :=
  ∃ n : Nat, i = .int .i64 n ∧ n ≤ out.length ∧ wr.ownsRow W8.heap.size 9 1 o n (pathVals out n) ∧ Hid (Below W8.heap.size W8 wr)

end Go.Proofs.YtnboodcllmdjeaaGreatDoor

/-
  WALKS: lists of lists of numbers; spec.FramesOf.
-/
namespace Go.Proofs.YtnboodcllmdjeaaGreatDoor
open Go.RowKit
set_option linter.unusedVariables false

/-- A list of lists of numbers, wherever it lies. -/
def TabAt (W : World) (a : Option Addr) (len : Nat) (bs : List (List Int)) : Prop :=
  bs.length = len ∧ (len = 0 ∨ ∃ b off, a = some ⟨b, off, none⟩ ∧ ∀ i z, bs[i]? = some z → ∃ ai ci, W.cell? ⟨b, off + i, none⟩ = some (.slice ai z.length ci) ∧ IntsAt W ai z.length z)

theorem TabAt.keep {W W' : World} {a : Option Addr} {len : Nat} {bs : List (List Int)} (h : TabAt W a len bs) (hb : Below W.heap.size W W') : TabAt W' a len bs := by
  obtain ⟨h1, h0 | ⟨b, off, ha, hc⟩⟩ := h
  · exact ⟨h1, .inl h0⟩
  · refine ⟨h1, .inr ⟨b, off, ha, fun i x hx => ?_⟩⟩
    obtain ⟨ai, ci, h2, h3⟩ := hc i x hx
    exact ⟨ai, ci, cell_kept hb h2, h3.keep hb⟩

theorem TabAt.at {W : World} {a : Option Addr} {len : Nat} {bs : List (List Int)} (h : TabAt W a len bs) {i : Nat} (hi : i < len) :
    ∃ b off z ai ci, a = some ⟨b, off, none⟩ ∧ bs[i]? = some z ∧ W.cell? ⟨b, off + i, none⟩ = some (.slice ai z.length ci) ∧ IntsAt W ai z.length z := by
  obtain ⟨h1, h0 | ⟨b, off, ha, hc⟩⟩ := h
  · omega
  · obtain ⟨x, hx⟩ : ∃ x, bs[i]? = some x := ⟨_, List.getElem?_eq_getElem (by omega)⟩
    obtain ⟨ai, ci, h2, h3⟩ := hc i x hx
    exact ⟨b, off, x, ai, ci, ha, hx, h2, h3⟩

/-- The lists are short. -/
def ShortT (m : Nat) (bs : List (List Int)) : Prop := ∀ b ∈ bs, b.length ≤ m

/-- A list of numbers or a failure. -/
def FPost (r : Option (List Int)) (W : World) (e : Ending) (w' : World) : Prop :=
  ∃ (sl : Value) (out : List Int) (b : Bool), e = .returned (.tuple #[sl, .bool b]) ∧ ((b = true ∧ r = some out) ∨ (b = false ∧ r = none ∧ out = [])) ∧ w'.ownsRow W.heap.size 3 1 sl out.length (intsV out) ∧ Below W.heap.size W w'

theorem framesL_len : ∀ {bs : List (List Int)}, bs.all bodyOk = true → (framesL bs).length ≤ 18 * bs.length
  | [], _ => by simp [framesL]
  | b :: bs, h => by
    simp only [List.all_cons, Bool.and_eq_true] at h
    have := bodyOk_len h.1
    have ih := framesL_len h.2
    rw [framesL_cons, List.length_append, frame_length, List.length_cons]
    omega

def FramesRel (bs : List (List Int)) (W1 : World) (o i : Value) (wr : World) : Prop :=
  ∃ n : Nat, i = .int .i64 n ∧ n ≤ bs.length ∧ Hid ((bs.take n).all bodyOk = true) ∧ wr.ownsRow W1.heap.size 3 1 o (framesL (bs.take n)).length (intsV (framesL (bs.take n))) ∧ Hid (Below W1.heap.size W1 wr)

theorem framesOf_none {bs : List (List Int)} {i : Nat} {z : List Int} (h : bs[i]? = some z) (hz : bodyOk z = false) : framesOf bs = none := by
  unfold framesOf
  rw [if_neg]
  intro hc
  simp only [Bool.and_eq_true] at hc
  have := List.all_eq_true.1 hc.1 z (List.mem_of_getElem? h)
  rw [hz] at this; cases this

theorem takeT_next {bs : List (List Int)} {i : Nat} {z : List Int} (h : bs[i]? = some z) : bs.take (i + 1) = bs.take i ++ [z] := by
  rw [List.take_add_one, h]; rfl

theorem own_casesT {W : World} {base : Nat} {e : TypeId} {size n : Nat} {v : Value} {xs : List Value} (h : W.ownsRow base e size v n xs) : (v = .slice none 0 0 ∧ n = 0) ∨ ∃ g cap, v = .slice (some ⟨g, 0, none⟩) n cap := by
  rcases h.2 with h | ⟨g, cap, _, h, _⟩
  · exact .inl h
  · exact .inr ⟨g, cap, h⟩

theorem own_cells1 {W : World} {base : Nat} {e : TypeId} {zs : List Int} {g cap : Nat} (h : W.ownsRow base e 1 (.slice (some ⟨g, 0, none⟩) zs.length cap) zs.length (intsV zs)) :
    ∀ j u, (intsV zs)[j]? = some u → W.cell? ((⟨g, 0, none⟩ : Addr).add j) = some u := by
  intro j u hj
  have hj' := (List.getElem?_eq_some_iff.1 hj).1
  rw [intsV_length] at hj'
  have := h.cellAt j (by omega)
  rw [add_off, Nat.zero_add, this]
  exact hj

end Go.Proofs.YtnboodcllmdjeaaGreatDoor

/-
  WALKS: spec.FramesScan.
-/
namespace Go.Proofs.YtnboodcllmdjeaaGreatDoor
open Go.RowKit
set_option linter.unusedVariables false

theorem infoInts : (Tryz.prog.info? 144).map (fun i => (i.zero, i.size, i.bytes)) = some (some (.slice none 0 0), 1, 24) := by kernel_rfl

/-- The lists in a table that the call has made: each owned, no two in one block. -/
def Inner (W : World) (base : Nat) (vs : List Value) (bs : List (List Int)) : Prop :=
  vs.length = bs.length ∧ (∀ (i : Nat) (z : List Int) (v : Value), bs[i]? = some z → vs[i]? = some v → W.ownsRow base 3 1 v z.length (intsV z)) ∧ vs.Pairwise (fun u v => ∀ k, u.ownBlock = some k → v.ownBlock ≠ some k)

theorem Inner.below {W W' : World} {base : Nat} {vs : List Value} {bs : List (List Int)} (h : Inner W base vs bs) (hb : Below W.heap.size W W') : Inner W' base vs bs :=
  ⟨h.1, fun i z v hz hv => own_below1 (h.2.1 i z v hz hv) hb, h.2.2⟩

/-- Two owned lists of different element types lie in different blocks. -/
theorem own_types {W : World} {b b' : Nat} {e e' : TypeId} {s s' n n' : Nat} {u v : Value} {xs ys : List Value} (h : W.ownsRow b e s u n xs) (h' : W.ownsRow b' e' s' v n' ys) (he : e ≠ e') : ∀ k, u.ownBlock = some k → v.ownBlock ≠ some k := by
  intro k h1 h2
  rcases h.2 with ⟨rfl, _⟩ | ⟨g, cap, cur, rfl, _, hg, _⟩
  · cases h1
  · rcases h'.2 with ⟨rfl, _⟩ | ⟨g', cap', cur', rfl, _, hg', _⟩
    · cases h2
    · have e1 : g = k := by simpa [Value.ownBlock] using h1
      have e2 : g' = k := by simpa [Value.ownBlock] using h2
      subst e1; subst e2
      rw [hg] at hg'
      cases hg'
      exact he rfl

theorem own_farT {W W' : World} {b : Nat} {e : TypeId} {size n : Nat} {v : Value} {xs : List Value} (h : W.ownsRow b e size v n xs) {row : Value} (hg : W.grownBy W' row.ownBlock) (hd : ∀ k, v.ownBlock = some k → row.ownBlock ≠ some k) : W'.ownsRow b e size v n xs := by
  refine h.kept hg ?_
  cases hv : v.ownBlock with
  | none => exact .inl rfl
  | some k => right; exact fun e => hd k hv e.symm

theorem Inner.grown {W W' : World} {base b n : Nat} {vs ys : List Value} {bs : List (List Int)} {o : Value} (h : Inner W base vs bs) (ho : W.ownsRow b 144 1 o n ys) (hg : W.grownBy W' o.ownBlock) : Inner W' base vs bs :=
  ⟨h.1, fun i z v hz hv => own_farT (h.2.1 i z v hz hv) hg (own_types (h.2.1 i z v hz hv) ho (by decide)), h.2.2⟩

theorem Inner.push {W : World} {base : Nat} {vs : List Value} {bs : List (List Int)} {v : Value} {z : List Int} (h : Inner W base vs bs) (hv : W.ownsRow base 3 1 v z.length (intsV z)) (hd : ∀ u ∈ vs, ∀ k, u.ownBlock = some k → v.ownBlock ≠ some k) : Inner W base (vs ++ [v]) (bs ++ [z]) := by
  obtain ⟨h1, h2, h3⟩ := h
  refine ⟨by simp [h1], fun i z' v' hz hv' => ?_, List.pairwise_append.2 ⟨h3, List.pairwise_singleton _ _, fun u hu w hw => by rw [List.mem_singleton.1 hw]; exact hd u hu⟩⟩
  by_cases hi : i < bs.length
  · rw [List.getElem?_append_left hi] at hz
    rw [List.getElem?_append_left (by omega)] at hv'
    exact h2 i z' v' hz hv'
  · have e1 : i = bs.length := by
      have := (List.getElem?_eq_some_iff.1 hz).1
      simp at this; omega
    subst e1
    rw [List.getElem?_append_right (Nat.le_refl _)] at hz
    rw [← h1, List.getElem?_append_right (Nat.le_refl _)] at hv'
    simp at hz hv'
    subst hz; subst hv'
    exact hv

/-- Every block of the lists in a table stands below the heap's end. -/
theorem Inner.lt {W : World} {base : Nat} {vs : List Value} {bs : List (List Int)} (h : Inner W base vs bs) : ∀ u ∈ vs, ∀ k, u.ownBlock = some k → k < W.heap.size := by
  intro u hu k hk
  obtain ⟨i, hi⟩ := List.getElem?_of_mem hu
  have hl := (List.getElem?_eq_some_iff.1 hi).1
  obtain ⟨z, hz⟩ : ∃ z, bs[i]? = some z := ⟨_, List.getElem?_eq_getElem (by have := h.1; omega)⟩
  exact ((h.2.1 i z u hz hi).lt k hk).2

/-- What a scan returns. -/
def ScanPost (r : List (List Int) × Nat) (W : World) (e : Ending) (w' : World) : Prop :=
  ∃ (sl : Value) (vs : List Value), e = .returned (.tuple #[sl, .int .i64 r.2]) ∧ w'.ownsRow W.heap.size 144 1 sl r.1.length vs ∧ Inner w' W.heap.size vs r.1 ∧ Below W.heap.size W w'

def ScanRel (zs : List Int) (W : World) (o p : Value) (wr : World) : Prop :=
  ∃ (n : Nat) (acc : List (List Int)) (vs : List Value), p = .int .i64 n ∧ n ≤ zs.length ∧ Hid (acc.length ≤ n) ∧ Hid (scanL zs = (acc ++ (scanL (zs.drop n)).1, n + (scanL (zs.drop n)).2)) ∧
    wr.ownsRow W.heap.size 144 1 o acc.length vs ∧ Hid (Inner wr W.heap.size vs acc) ∧ Hid (Below W.heap.size W wr)

theorem scan_end {zs : List Int} {n : Nat} {acc : List (List Int)} {vs : List Value} {W wr : World} {o : Value} (hs : scanL zs = (acc ++ (scanL (zs.drop n)).1, n + (scanL (zs.drop n)).2)) (he : scanL (zs.drop n) = ([], 0))
    (ho : wr.ownsRow W.heap.size 144 1 o acc.length vs) (hi : Inner wr W.heap.size vs acc) (hb : Below W.heap.size W wr) : ScanPost (scanL zs) W (.returned (.tuple #[o, .int .i64 n])) wr := by
  rw [he] at hs
  simp only [List.append_nil, Nat.add_zero] at hs
  rw [hs]
  exact ⟨o, vs, rfl, ho, hi, hb⟩

theorem drewN_below (W : World) (n : Nat) : Below W.heap.size W (W.drewN n) := by
  have e := (drewN_cell W n ⟨0, 0, none⟩).2.2
  exact ⟨rfl, rfl, rfl, by rw [e]; exact Nat.le_refl _, fun j _ => by rw [e]⟩

theorem drop_consI {zs : List Int} {n : Nat} {z : Int} (h : zs[n]? = some z) : zs.drop n = z :: zs.drop (n + 1) := by
  obtain ⟨h1, h2⟩ := List.getElem?_eq_some_iff.1 h
  rw [List.drop_eq_getElem_cons h1, h2]

theorem scan_stop {zs : List Int} {n : Nat} {z : Int} (h : zs[n]? = some z) (hh : headOk z (zs.drop (n + 1)) = false) : scanL (zs.drop n) = ([], 0) := by
  rw [drop_consI h, scanL_cons, if_neg (by rw [hh]; simp)]

theorem scan_go {zs : List Int} {n m : Nat} (h : zs[n]? = some (m : Int)) (hh : headOk (m : Int) (zs.drop (n + 1)) = true) {acc : List (List Int)} (hs : scanL zs = (acc ++ (scanL (zs.drop n)).1, n + (scanL (zs.drop n)).2)) :
    scanL zs = ((acc ++ [(zs.drop (n + 1)).take m]) ++ (scanL (zs.drop (n + m + 2))).1, (n + m + 2) + (scanL (zs.drop (n + m + 2))).2) := by
  rw [drop_consI h, scanL_cons, if_pos hh] at hs
  have e1 : (m : Int).toNat = m := by omega
  rw [e1, List.drop_drop, show n + 1 + (m + 1) = n + m + 2 by omega] at hs
  rw [hs]
  simp
  omega

end Go.Proofs.YtnboodcllmdjeaaGreatDoor

/-
  WALKS: spec.l5Paths, TreeChanged.
-/
namespace Go.Proofs.YtnboodcllmdjeaaGreatDoor
open Go.RowKit
set_option linter.unusedVariables false

theorem drop_cons' {α : Type} {l : List α} {n : Nat} {z : α} (h : l[n]? = some z) : l.drop n = z :: l.drop (n + 1) := by
  obtain ⟨h1, h2⟩ := List.getElem?_eq_some_iff.1 h
  rw [List.drop_eq_getElem_cons h1, h2]

theorem merge_left {a b : List Nd} {p q : Nat} {x : Nd} (hx : a[p]? = some x) (h : q = b.length ∨ ∃ y, b[q]? = some y ∧ ltB x.p y.p = true) : mergeP (a.drop p) (b.drop q) = x.p :: mergeP (a.drop (p + 1)) (b.drop q) := by
  rw [drop_cons' hx]
  rcases h with h | ⟨y, hy, hl⟩
  · rw [h, List.drop_length, mergeP_nil', mergeP_nil']; rfl
  · rw [drop_cons' hy, mergeP_cons, if_pos hl]

theorem merge_right {a b : List Nd} {p q : Nat} {y : Nd} (hy : b[q]? = some y) (h : p = a.length ∨ ∃ x, a[p]? = some x ∧ ltB x.p y.p = false ∧ ltB y.p x.p = true) : mergeP (a.drop p) (b.drop q) = y.p :: mergeP (a.drop p) (b.drop (q + 1)) := by
  rw [drop_cons' hy]
  rcases h with h | ⟨x, hx, hl, hr⟩
  · rw [h, List.drop_length, mergeP_nil, mergeP_nil]; rfl
  · rw [drop_cons' hx, mergeP_cons, if_neg (by rw [hl]; simp), if_pos hr]

theorem merge_both {a b : List Nd} {p q : Nat} {x y : Nd} (hx : a[p]? = some x) (hy : b[q]? = some y) (hl : ltB x.p y.p = false) (hr : ltB y.p x.p = false) : mergeP (a.drop p) (b.drop q) = x.p :: mergeP (a.drop (p + 1)) (b.drop (q + 1)) := by
  rw [drop_cons' hx, drop_cons' hy, mergeP_cons, if_neg (by rw [hl]; simp), if_neg (by rw [hr]; simp)]

theorem cell_str_new (w : World) (v : Value) (t : TypeId) : ∀ j u, [v][j]? = some u → (w.alloc (.cells #[v] t)).cell? ((⟨w.heap.size, 0, none⟩ : Addr).add j) = some u := cell_int_new w v t

theorem own_text {W : World} {b : Nat} {e : TypeId} {v : Value} {acc : List ByteArray} {x : ByteArray} (h : W.ownsRow b e 1 v (acc.length + 1) (acc.map Value.string ++ [.string x])) : W.ownsRow b e 1 v (acc ++ [x]).length ((acc ++ [x]).map Value.string) := by
  rw [List.map_append, List.length_append]; exact h

def MergeRel (a b : List Nd) (W : World) (o i k : Value) (wr : World) : Prop :=
  ∃ (p q : Nat) (done : List ByteArray), i = .int .i64 p ∧ k = .int .i64 q ∧ p ≤ a.length ∧ q ≤ b.length ∧ Hid (mergeP a b = done ++ mergeP (a.drop p) (b.drop q)) ∧ Hid (done.length ≤ p + q) ∧
    wr.ownsRow W.heap.size 9 1 o done.length (done.map Value.string) ∧ Hid (Below W.heap.size W wr)

set_option maxHeartbeats 4000000 in
set_option maxRecDepth 100000 in
theorem l5Paths_c (a1 : Option Addr) (len1 cap1 : Nat) (ns : List Nd) (a2 : Option Addr) (len2 cap2 : Nat) (ms : List Nd) (hl1 : len1 ≤ 1000) (hl2 : len2 ≤ 1000) (W : World) (h1 : NodesAt W a1 len1 ns) (h2 : NodesAt W a2 len2 ms) :
    Calls Tryz.prog 67 #[.slice a1 len1 cap1, .slice a2 len2 cap2] W (TextsPost (mergeP ns ms) W) := by
  obtain ⟨i0, hi, hz0, hz1, hz2⟩ := info_parts infoStr
  have H1 := Lib.hid h1
  have H2 := Lib.hid h2
  have HE1 := Lib.hid h1.1
  have HE2 := Lib.hid h2.1
  have hl1' : (len1 : Int) ≤ 1000 := by omega
  have hl2' : (len2 : Int) ≤ 1000 := by omega
  have HLL := Lib.hid (And.intro hl1 hl2)
  clear h1 h2 hl1 hl2
  go_enter Tryz.func67, Tryz.ntmps67
  go_wp2
  go_loopw [5, 6, 7] (fun o i k wr => MergeRel ns ms W o i k wr) (fun _ i k _ => (len1 - (intOf i).toNat) + (len2 - (intOf k).toNat))
  case atStart => exact ⟨0, 0, [], rfl, rfl, by omega, by omega, by simp [Hid], by simp [Hid], World.ownsRow_lit (e := 9) (size := 1) W #[] 0 (Nat.le_refl _) (by simp [maxLen]) rfl, below_box _ _⟩
  case round =>
    obtain ⟨p, q, done, rfl, rfl, hp, hq, HD, HDL, hown, HB⟩ := hrel
    rw [HE1.out] at hp
    rw [HE2.out] at hq
    have HO := Lib.hid hown
    have hpI : (p : Int) ≤ 1000 := by omega
    have hqI : (q : Int) ≤ 1000 := by omega
    clear hown
    by_cases hp1 : p < len1
    · have hp1' : (p : Int) < len1 := by omega
      obtain ⟨b1, off1, x, rfl, hx, x0, -, -⟩ := (H1.out.keep HB.out).node hp1
      by_cases hq1 : q < len2
      · have hq1' : (q : Int) < len2 := by omega
        have hqe : ((q : Int) == len2) = false := beq_eq_false_iff_ne.2 (by omega)
        have hpe : ((p : Int) == len1) = false := beq_eq_false_iff_ne.2 (by omega)
        obtain ⟨b2, off2, y, rfl, hy, y0, -, -⟩ := (H2.out.keep HB.out).node hq1
        have HPQ := Lib.hid (show p < ns.length ∧ q < ms.length ∧ ns.length = len1 ∧ ms.length = len2 ∧ len1 ≤ 1000 ∧ len2 ≤ 1000 by have := HE1.out; have := HE2.out; have := HLL.out; omega)
        cases hlt : ltB x.p y.p with
        | true =>
          have HS := Lib.hid (merge_left (b := ms) (q := q) hx (.inr ⟨y, hy, hlt⟩))
          have hlt' : Op.bytesLess x.p.toList y.p.toList = true := hlt
          clear hp hq hp1 hq1 hx hy hlt
          go_wp2_with fail
          go_quiet (fail)
          have HOQ := Lib.hid (own_below1 HO.out (drewN_below wr nq))
          have HBQ := Lib.hid (HB.out.trans ((drewN_below wr nq).mono HB.out.size))
          have x02 := cell_kept (drewN_below wr nq) x0
          have y02 := cell_kept (drewN_below wr nq) y0
          generalize wr.drewN nq = w6 at HOQ HBQ x02 y02 ⊢
          clear x0 y0
          go_wp2_with (at_builtin; refine wpList_append_own _ rfl _ _ 65 rfl W.heap.size 9 i0 (.string ⟨#[]⟩) 1 16 Tryz.underlying65 hi hz0 hz1 hz2 rfl (by decide) _ _ _ rfl (HOQ.out.alloc _) ⟨w6.heap.size, 0, none⟩ 1 1 [.string x.p] rfl rfl (cell_str_new _ _ _) (fun x hx => by simp at hx; subst hx; rfl) (by have := HDL.out; have := HPQ.out; unfold maxLen; omega) (by have := HDL.out; have := HPQ.out; omega) (by have := HBQ.out.size; simp; omega) ?_; intro v5 w5 ho5 hg5 hn5)
          have hlt0 := HOQ.out.lt
          have B5 : Below W.heap.size W w5 := (HBQ.out.alloc HBQ.out.size _).grown hg5 (by have := HBQ.out.size; simp; omega) (fun g e => (hlt0 g e).1)
          go_roundw
          case rel => exact ⟨p + 1, q, done ++ [x.p], by push_cast; rfl, rfl, by have := HPQ.out; omega, by have := HPQ.out; omega, by rw [List.append_assoc]; exact HD.out.trans (congrArg (done ++ ·) HS.out), by rw [List.length_append]; have := HDL.out; show done.length + 1 ≤ _; omega, own_text ho5, B5⟩
          case measure => have := HPQ.out; simp [intOf]; omega
        | false =>
          have hlt' : Op.bytesLess x.p.toList y.p.toList = false := hlt
          cases hgt : ltB y.p x.p with
          | true =>
            have HS := Lib.hid (merge_right (a := ns) (p := p) hy (.inr ⟨x, hx, hlt, hgt⟩))
            have hgt' : Op.bytesLess y.p.toList x.p.toList = true := hgt
            clear hp hq hp1 hq1 hx hy hlt hgt
            go_wp2_with fail
            go_quiet (fail)
            have HBn := Lib.hid (drewN_below wr nq)
            have x02 := cell_kept HBn.out x0
            have y02 := cell_kept HBn.out y0
            have HO1 := Lib.hid (own_below1 HO.out HBn.out)
            have HB1 := Lib.hid (HB.out.trans (HBn.out.mono HB.out.size))
            generalize wr.drewN nq = w4 at HO1 HB1 x02 y02 ⊢
            clear x0 y0 HBn nq
            go_wp2_with fail
            go_quiet (fail)
            have HOQ := Lib.hid (own_below1 HO1.out (drewN_below w4 nq))
            have HBQ := Lib.hid (HB1.out.trans ((drewN_below w4 nq).mono HB1.out.size))
            have x03 := cell_kept (drewN_below w4 nq) x02
            have y03 := cell_kept (drewN_below w4 nq) y02
            generalize w4.drewN nq = w6 at HOQ HBQ x03 y03 ⊢
            clear x02 y02
            go_wp2_with (at_builtin; refine wpList_append_own _ rfl _ _ 65 rfl W.heap.size 9 i0 (.string ⟨#[]⟩) 1 16 Tryz.underlying65 hi hz0 hz1 hz2 rfl (by decide) _ _ _ rfl (HOQ.out.alloc _) ⟨w6.heap.size, 0, none⟩ 1 1 [.string y.p] rfl rfl (cell_str_new _ _ _) (fun x hx => by simp at hx; subst hx; rfl) (by have := HDL.out; have := HPQ.out; unfold maxLen; omega) (by have := HDL.out; have := HPQ.out; omega) (by have := HBQ.out.size; simp; omega) ?_; intro v5 w5 ho5 hg5 hn5)
            have hlt0 := HOQ.out.lt
            have B5 : Below W.heap.size W w5 := (HBQ.out.alloc HBQ.out.size _).grown hg5 (by have := HBQ.out.size; simp; omega) (fun g e => (hlt0 g e).1)
            go_roundw
            case rel => exact ⟨p, q + 1, done ++ [y.p], rfl, by push_cast; rfl, by have := HPQ.out; omega, by have := HPQ.out; omega, by rw [List.append_assoc]; exact HD.out.trans (congrArg (done ++ ·) HS.out), by rw [List.length_append]; have := HDL.out; show done.length + 1 ≤ _; omega, own_text ho5, B5⟩
            case measure => have := HPQ.out; simp [intOf]; omega
          | false =>
            have HS := Lib.hid (merge_both hx hy hlt hgt)
            have hgt' : Op.bytesLess y.p.toList x.p.toList = false := hgt
            clear hp hq hp1 hq1 hx hy hlt hgt
            go_wp2_with fail
            go_quiet (fail)
            have HBn := Lib.hid (drewN_below wr nq)
            have x02 := cell_kept HBn.out x0
            have y02 := cell_kept HBn.out y0
            have HO1 := Lib.hid (own_below1 HO.out HBn.out)
            have HB1 := Lib.hid (HB.out.trans (HBn.out.mono HB.out.size))
            generalize wr.drewN nq = w4 at HO1 HB1 x02 y02 ⊢
            clear x0 y0 HBn nq
            go_wp2_with fail
            go_quiet (fail)
            have HOQ := Lib.hid (own_below1 HO1.out (drewN_below w4 nq))
            have HBQ := Lib.hid (HB1.out.trans ((drewN_below w4 nq).mono HB1.out.size))
            have x03 := cell_kept (drewN_below w4 nq) x02
            have y03 := cell_kept (drewN_below w4 nq) y02
            generalize w4.drewN nq = w6 at HOQ HBQ x03 y03 ⊢
            clear x02 y02
            go_wp2_with (at_builtin; refine wpList_append_own _ rfl _ _ 65 rfl W.heap.size 9 i0 (.string ⟨#[]⟩) 1 16 Tryz.underlying65 hi hz0 hz1 hz2 rfl (by decide) _ _ _ rfl (HOQ.out.alloc _) ⟨w6.heap.size, 0, none⟩ 1 1 [.string x.p] rfl rfl (cell_str_new _ _ _) (fun x hx => by simp at hx; subst hx; rfl) (by have := HDL.out; have := HPQ.out; unfold maxLen; omega) (by have := HDL.out; have := HPQ.out; omega) (by have := HBQ.out.size; simp; omega) ?_; intro v5 w5 ho5 hg5 hn5)
            have hlt0 := HOQ.out.lt
            have B5 : Below W.heap.size W w5 := (HBQ.out.alloc HBQ.out.size _).grown hg5 (by have := HBQ.out.size; simp; omega) (fun g e => (hlt0 g e).1)
            go_roundw
            case rel => exact ⟨p + 1, q + 1, done ++ [x.p], by push_cast; rfl, by push_cast; rfl, by have := HPQ.out; omega, by have := HPQ.out; omega, by rw [List.append_assoc]; exact HD.out.trans (congrArg (done ++ ·) HS.out), by rw [List.length_append]; have := HDL.out; show done.length + 1 ≤ _; omega, own_text ho5, B5⟩
            case measure => have := HPQ.out; simp [intOf]; omega
      · have hqe : ((q : Int) == len2) = true := by rw [show q = len2 by omega]; simp
        have HPQ := Lib.hid (show p < ns.length ∧ q ≤ ms.length ∧ ns.length = len1 ∧ ms.length = len2 ∧ len1 ≤ 1000 ∧ len2 ≤ 1000 by have := HE1.out; have := HE2.out; have := HLL.out; omega)
        have HS := Lib.hid (merge_left (b := ms) (q := q) hx (.inl (by have := HE2.out; omega)))
        clear hp hq hp1 hq1 hx
        go_wp2_with fail
        go_quiet (fail)
        have HOQ := Lib.hid (own_below1 HO.out (drewN_below wr nq))
        have HBQ := Lib.hid (HB.out.trans ((drewN_below wr nq).mono HB.out.size))
        have x02 := cell_kept (drewN_below wr nq) x0
        generalize wr.drewN nq = w6 at HOQ HBQ x02 ⊢
        clear x0
        go_wp2_with (at_builtin; refine wpList_append_own _ rfl _ _ 65 rfl W.heap.size 9 i0 (.string ⟨#[]⟩) 1 16 Tryz.underlying65 hi hz0 hz1 hz2 rfl (by decide) _ _ _ rfl (HOQ.out.alloc _) ⟨w6.heap.size, 0, none⟩ 1 1 [.string x.p] rfl rfl (cell_str_new _ _ _) (fun x hx => by simp at hx; subst hx; rfl) (by have := HDL.out; have := HPQ.out; unfold maxLen; omega) (by have := HDL.out; have := HPQ.out; omega) (by have := HBQ.out.size; simp; omega) ?_; intro v5 w5 ho5 hg5 hn5)
        have hlt0 := HOQ.out.lt
        have B5 : Below W.heap.size W w5 := (HBQ.out.alloc HBQ.out.size _).grown hg5 (by have := HBQ.out.size; simp; omega) (fun g e => (hlt0 g e).1)
        go_roundw
        case rel => exact ⟨p + 1, q, done ++ [x.p], by push_cast; rfl, rfl, by have := HPQ.out; omega, by have := HPQ.out; omega, by rw [List.append_assoc]; exact HD.out.trans (congrArg (done ++ ·) HS.out), by rw [List.length_append]; have := HDL.out; show done.length + 1 ≤ _; omega, own_text ho5, B5⟩
        case measure => have := HPQ.out; simp [intOf]; omega
    · have hpe : ((p : Int) == len1) = true := by rw [show p = len1 by omega]; simp
      have hpg : (len1 : Int) ≤ p := by omega
      by_cases hq1 : q < len2
      · have hq1' : (q : Int) < len2 := by omega
        have hqe : ((q : Int) == len2) = false := beq_eq_false_iff_ne.2 (by omega)
        obtain ⟨b2, off2, y, rfl, hy, y0, -, -⟩ := (H2.out.keep HB.out).node hq1
        have HPQ := Lib.hid (show p ≤ ns.length ∧ q < ms.length ∧ ns.length = len1 ∧ ms.length = len2 ∧ len1 ≤ 1000 ∧ len2 ≤ 1000 by have := HE1.out; have := HE2.out; have := HLL.out; omega)
        have HS := Lib.hid (merge_right (a := ns) (p := p) hy (.inl (by have := HE1.out; omega)))
        have hpd : decide (p < len1) = false := decide_eq_false hp1
        clear hp hq hp1 hq1 hy
        go_wp2_with fail
        go_quiet (fail)
        have HBn := Lib.hid (drewN_below wr nq)
        have y02 := cell_kept HBn.out y0
        have HO1 := Lib.hid (own_below1 HO.out HBn.out)
        have HB1 := Lib.hid (HB.out.trans (HBn.out.mono HB.out.size))
        generalize wr.drewN nq = w4 at HO1 HB1 y02 ⊢
        clear y0 HBn nq
        go_wp2_with fail
        go_quiet (fail)
        have HOQ := Lib.hid (own_below1 HO1.out (drewN_below w4 nq))
        have HBQ := Lib.hid (HB1.out.trans ((drewN_below w4 nq).mono HB1.out.size))
        have y03 := cell_kept (drewN_below w4 nq) y02
        generalize w4.drewN nq = w6 at HOQ HBQ y03 ⊢
        clear y02
        go_wp2_with (at_builtin; refine wpList_append_own _ rfl _ _ 65 rfl W.heap.size 9 i0 (.string ⟨#[]⟩) 1 16 Tryz.underlying65 hi hz0 hz1 hz2 rfl (by decide) _ _ _ rfl (HOQ.out.alloc _) ⟨w6.heap.size, 0, none⟩ 1 1 [.string y.p] rfl rfl (cell_str_new _ _ _) (fun x hx => by simp at hx; subst hx; rfl) (by have := HDL.out; have := HPQ.out; unfold maxLen; omega) (by have := HDL.out; have := HPQ.out; omega) (by have := HBQ.out.size; simp; omega) ?_; intro v5 w5 ho5 hg5 hn5)
        have hlt0 := HOQ.out.lt
        have B5 : Below W.heap.size W w5 := (HBQ.out.alloc HBQ.out.size _).grown hg5 (by have := HBQ.out.size; simp; omega) (fun g e => (hlt0 g e).1)
        go_roundw
        case rel => exact ⟨p, q + 1, done ++ [y.p], rfl, by push_cast; rfl, by have := HPQ.out; omega, by have := HPQ.out; omega, by rw [List.append_assoc]; exact HD.out.trans (congrArg (done ++ ·) HS.out), by rw [List.length_append]; have := HDL.out; show done.length + 1 ≤ _; omega, own_text ho5, B5⟩
        case measure => have := HPQ.out; simp [intOf]; omega
      · have hqg : (len2 : Int) ≤ q := by omega
        have HR := Lib.hid (show mergeP ns ms = done by
          have := HD.out
          rw [List.drop_eq_nil_of_le (by have := HE1.out; omega), List.drop_eq_nil_of_le (by have := HE2.out; omega), mergeP_nil] at this
          simpa using this)
        clear hp hq hp1 hq1
        go_wp2
        refine bodyPost_ret (v := u5) (by simp [results, Tryz.f67, go_sem]) rfl ?_
        rw [HR.out]
        exact ⟨⟨u5, rfl, HO.out⟩, HB.out⟩

end Go.Proofs.YtnboodcllmdjeaaGreatDoor

/-
  WALKS: spec.TreeChanged.
-/
namespace Go.Proofs.YtnboodcllmdjeaaGreatDoor
open Go.RowKit
set_option linter.unusedVariables false

theorem conNeq (k v k' v' : Int) (w : World) : (binOp .neq 43 (.agg #[.int .i64 k, .int .i64 v]) (.agg #[.int .i64 k', .int .i64 v'])).run Tryz.prog w = .ok (.bool (!(k == k' && v == v'))) w := by
  by_cases h : k = k'
  · subst h
    by_cases h2 : v = v'
    · subst h2
      simp [binOp, go_sem, Op.equal, Op.maxDepth]
    · have : (v == v') = false := beq_eq_false_iff_ne.2 h2
      simp [binOp, go_sem, Op.equal, Op.maxDepth, h2]
  · have : (k == k') = false := beq_eq_false_iff_ne.2 h
    simp [binOp, go_sem, Op.equal, Op.maxDepth, this]

theorem diff_bool (a b : List Nd) (p : ByteArray) {k v k' v' : Int} (h1 : getT a p = (k, v)) (h2 : getT b p = (k', v')) : diffB a b p = !(k == k' && v == v') := by
  unfold diffB
  rw [h1, h2]
  by_cases h : k = k' <;> by_cases g : v = v' <;> simp [h, g]

def chgAcc (ns ms : List Nd) (i : Nat) : List ByteArray := ((mergeP ns ms).take i).filter (diffB ns ms)

theorem chgAcc_yes {ns ms : List Nd} {i : Nat} {x : ByteArray} (hx : (mergeP ns ms)[i]? = some x) (h : diffB ns ms x = true) : chgAcc ns ms (i + 1) = chgAcc ns ms i ++ [x] := by
  unfold chgAcc
  rw [List.take_add_one, hx]
  simp [List.filter_append, h]
theorem chgAcc_no {ns ms : List Nd} {i : Nat} {x : ByteArray} (hx : (mergeP ns ms)[i]? = some x) (h : diffB ns ms x = false) : chgAcc ns ms (i + 1) = chgAcc ns ms i := by
  unfold chgAcc
  rw [List.take_add_one, hx]
  simp [List.filter_append, h]
theorem chgAcc_len (ns ms : List Nd) (i : Nat) : (chgAcc ns ms i).length ≤ i := by
  unfold chgAcc
  exact Nat.le_trans (List.length_filter_le _ _) (by rw [List.length_take]; omega)

def ChgRel (ns ms : List Nd) (W W2 : World) (s4 : Value) (ml : Nat) (o i : Value) (wr : World) : Prop :=
  ∃ n : Nat, i = .int .i64 n ∧ n ≤ ml ∧ Hid (wr.ownsRow W.heap.size 9 1 o (chgAcc ns ms n).length ((chgAcc ns ms n).map Value.string)) ∧ Hid (wr.ownsRow W2.heap.size 9 1 s4 ml ((mergeP ns ms).map Value.string)) ∧
    Hid (∀ k, o.ownBlock = some k → s4.ownBlock ≠ some k) ∧ Hid (Below W.heap.size W wr)

theorem texts_own {W : World} {base len c : Nat} {e : TypeId} {a : Option Addr} {zs : List ByteArray} (hz : zs.length = len) (h : W.ownsRow base e 1 (.slice a len c) len (zs.map Value.string)) : TextsAt W a len zs := by
  subst hz
  obtain ⟨a', c', he, hi⟩ := texts_of_own h
  cases he
  exact hi

set_option maxHeartbeats 4000000 in
set_option maxRecDepth 100000 in
theorem specTreeChanged_c (a1 : Option Addr) (len1 cap1 : Nat) (ns : List Nd) (a2 : Option Addr) (len2 cap2 : Nat) (ms : List Nd) (hl1 : len1 ≤ 2097152) (hl2 : len2 ≤ 2097152) (hs1 : Short 2097152 ns) (hs2 : Short 2097152 ms) (W : World) (h1 : NodesAt W a1 len1 ns) (h2 : NodesAt W a2 len2 ms) :
    Calls Tryz.prog 37 #[.slice a1 len1 cap1, .slice a2 len2 cap2] W (TextsPost (chgL ns ms) W) := by
  obtain ⟨i0, hi, hz0, hz1, hz2⟩ := info_parts infoStr
  obtain ⟨v1, hv1⟩ : ∃ v, validT ns = v := ⟨_, rfl⟩
  obtain ⟨v2, hv2⟩ : ∃ v, validT ms = v := ⟨_, rfl⟩
  have HV1 := Lib.hid (fun W' (hb : Below W.heap.size W W') => show Calls Tryz.prog 36 #[.slice a1 len1 cap1] W' (BoolPost v1 W') by rw [← hv1]; exact specTreeValid_c a1 len1 cap1 ns hl1 hs1 W' (h1.keep hb))
  have HV2 := Lib.hid (fun W' (hb : Below W.heap.size W W') => show Calls Tryz.prog 36 #[.slice a2 len2 cap2] W' (BoolPost v2 W') by rw [← hv2]; exact specTreeValid_c a2 len2 cap2 ms hl2 hs2 W' (h2.keep hb))
  have H1 := Lib.hid h1
  have H2 := Lib.hid h2
  have HL := Lib.hid (And.intro hl1 hl2)
  have HW1 := Lib.hid hv1
  have HW2 := Lib.hid hv2
  clear h1 h2 hs1 hs2 hl1 hl2 hv1 hv2
  go_enter Tryz.func37, Tryz.ntmps37
  have HO1 := Lib.hid (World.ownsRow_lit (e := 9) (size := 1) W #[] 0 (Nat.le_refl _) (by simp [maxLen]) rfl)
  go_wp2_with fail
  refine (HV1.out _ (below_box _ _)).mono ?_
  rintro e W1 ⟨rfl, hb1⟩
  have HO2 := Lib.hid (own_below1 HO1.out hb1)
  have HB1 := Lib.hid (below_next (below_box _ _) hb1)
  clear hb1
  cases v1 with
  | false =>
    have HR := Lib.hid (show chgL ns ms = [] by unfold chgL; rw [HW1.out]; rfl)
    go_wp2
    refine bodyPost_ret (v := .slice (some ⟨W.heap.size, 0, none⟩) 0 0) (by simp [results, Tryz.f37, go_sem]) rfl ?_
    rw [HR.out]
    exact ⟨⟨_, rfl, HO2.out⟩, HB1.out⟩
  | true =>
    go_wp2_with fail
    refine (HV2.out _ HB1.out).mono ?_
    rintro e W2 ⟨rfl, hb2⟩
    have HO3 := Lib.hid (own_below1 HO2.out hb2)
    have HB2 := Lib.hid (below_next HB1.out hb2)
    clear hb2
    cases v2 with
    | false =>
      have HR := Lib.hid (show chgL ns ms = [] by unfold chgL; rw [HW1.out, HW2.out]; rfl)
      go_wp2
      refine bodyPost_ret (v := .slice (some ⟨W.heap.size, 0, none⟩) 0 0) (by simp [results, Tryz.f37, go_sem]) rfl ?_
      rw [HR.out]
      exact ⟨⟨_, rfl, HO3.out⟩, HB2.out⟩
    | true =>
      have hln1 : len1 ≤ 10 := by have := ((validT_iff ns).1 HW1.out).2.2; have := H1.out.1; omega
      have hln2 : len2 ≤ 10 := by have := ((validT_iff ms).1 HW2.out).2.2; have := H2.out.1; omega
      have HP := Lib.hid (l5Paths_c a1 len1 cap1 ns a2 len2 cap2 ms (by omega) (by omega) W2 (H1.out.keep HB2.out) (H2.out.keep HB2.out))
      have HGA := Lib.hid (fun x W' (hb : Below W.heap.size W W') => l3Get_c a1 len1 cap1 ns x HL.out.1 W' (H1.out.keep hb))
      have HGB0 := Lib.hid (fun x W' (hb : Below W.heap.size W W') => l3Get_c a2 len2 cap2 ms x HL.out.2 W' (H2.out.keep hb))
      have HML := Lib.hid (show (mergeP ns ms).length ≤ 20 by have := mergeP_len _ ns ms (Nat.le_refl _); have := H1.out.1; have := H2.out.1; omega)
      clear hln1 hln2
      go_wp2_with fail
      refine HP.out.mono ?_
      rintro e W4 ⟨⟨s4, rfl, ho4⟩, hb4⟩
      obtain ⟨a4, c4, rfl, -⟩ := texts_of_own ho4
      have HDJ := Lib.hid (show ∀ k, (Value.slice (some ⟨W.heap.size, 0, none⟩) 0 0).ownBlock = some k → (Value.slice a4 (mergeP ns ms).length c4).ownBlock ≠ some k from fun k e1 e2 => by
        have h5 := (ho4.lt k e2).1
        simp [Value.ownBlock] at e1
        have := HO3.out.lt W.heap.size rfl
        omega)
      have HT4 := Lib.hid ho4
      have HO4 := Lib.hid (own_below1 HO3.out hb4)
      have HB4 := Lib.hid (below_next HB2.out hb4)
      obtain ⟨ml, hml⟩ : ∃ ml, (mergeP ns ms).length = ml := ⟨_, rfl⟩
      rw [hml] at HML HT4 HDJ ⊢
      have HME := Lib.hid hml
      have hml20 : (ml : Int) ≤ 20 := by have := HML.out; omega
      clear ho4 hb4 hml
      go_wp2_with fail
      go_loopw [5, 7] (fun o i wr => ChgRel ns ms W W2 (.slice a4 ml c4) ml o i wr) (fun _ i _ => ml - (intOf i).toNat)
      case atStart => exact ⟨0, rfl, by omega, by show World.ownsRow _ _ _ _ _ _ _; simpa [chgAcc] using HO4.out, HT4.out, HDJ.out, HB4.out⟩
      case round =>
        obtain ⟨i, rfl, hi2, HO, HT, HDO, HB⟩ := hrel
        by_cases hlt : i < ml
        · have hlt' : (i : Int) < ml := by omega
          have hil : (i : Int) ≤ 20 := by omega
          have HLT := Lib.hid hlt
          obtain ⟨b, off, x, he, hx, x0⟩ := (texts_own HME.out HT.out).node hlt
          subst he
          have HX := Lib.hid hx
          have HS0 := Lib.hid (show wr.drew.cell? ⟨b, off + i, none⟩ = some (.string x) from x0)
          obtain ⟨k1, v1, hg1⟩ : ∃ k v, getT ns x = (k, v) := ⟨_, _, rfl⟩
          obtain ⟨k2, v2, hg2⟩ : ∃ k v, getT ms x = (k, v) := ⟨_, _, rfl⟩
          have HBW := Lib.hid HB.out
          have HG1 := Lib.hid (show Calls Tryz.prog 38 #[.slice a1 len1 cap1, .string x] wr.drew (ConRet k1 v1 wr.drew) by have := HGA.out x wr.drew HBW.out.drew; rwa [hg1] at this)
          have HGB := Lib.hid (fun x' W' (hb : Below W.heap.size W W') => show x' = x → Calls Tryz.prog 38 #[.slice a2 len2 cap2, .string x'] W' (ConRet k2 v2 W') from fun e => by
            subst e; have := HGB0.out x' W' hb; rwa [hg2] at this)
          obtain ⟨dd, hdd⟩ : ∃ dd, diffB ns ms x = dd := ⟨_, rfl⟩
          have HDF := Lib.hid (show (!(k1 == k2 && v1 == v2)) = dd by rw [← hdd]; exact (diff_bool ns ms x hg1 hg2).symm)
          have HDD := Lib.hid hdd
          clear hlt hi2 hx hg1 hg2 hdd
          go_upto_region 8 with (fail)
          refine wp_region_held_drew (S := (fun w' => w'.cell? ⟨b, off + i, none⟩ = some (.string x))) (by kernel_rfl) HS0.out (fun hH => ?_)
          refine wpAnyH_take (i := 0) (oi := _) (v := ?_) rfl (by kernel_rfl) (by kernel_rfl) (by kernel_rfl) (fun _ _ _ h => h) (Or.inl ⟨by rfl, ?_⟩) (by assumption) ?_
          rotate_left
          · (intro w hSw; (try dsimp only at hSw); go_simp; try with_reducible rfl)
          try simp only [Act.put, List.getElem_toArray, List.getElem_cons_zero, List.setIfInBounds_toArray, List.set_cons_zero, List.set_cons_succ]
          refine wpAnyH_take (i := 1) (oi := _) (v := ?_) rfl (by kernel_rfl) (by kernel_rfl) (by kernel_rfl) (fun _ _ _ h => h) (Or.inl ⟨by rfl, ?_⟩) (by assumption) ?_
          rotate_left
          · (intro w hSw; (try dsimp only at hSw); go_simp; try with_reducible rfl)
          try simp only [Act.put, List.getElem_toArray, List.getElem_cons_zero, List.getElem_cons_succ, List.setIfInBounds_toArray, List.set_cons_zero, List.set_cons_succ]
          refine wpAnyH_take (i := 2) (oi := _) (v := ?_) rfl (by kernel_rfl) (by kernel_rfl) (by kernel_rfl) (fun _ _ _ h => h) (Or.inl ⟨by rfl, ?_⟩) (by assumption) ?_
          rotate_left
          · (intro w hSw; (try dsimp only at hSw); go_simp; try with_reducible rfl)
          try simp only [Act.put, List.getElem_toArray, List.getElem_cons_zero, List.getElem_cons_succ, List.setIfInBounds_toArray, List.set_cons_zero, List.set_cons_succ]
          refine wpAnyH_take (i := 3) (oi := _) (v := ?_) rfl (by kernel_rfl) (by kernel_rfl) (by kernel_rfl) (fun _ _ _ h => h) (Or.inl ⟨by rfl, ?_⟩) (by assumption) ?_
          rotate_left
          · (intro w hSw; (try dsimp only at hSw); go_simp; try with_reducible rfl)
          try simp only [Act.put, List.getElem_toArray, List.getElem_cons_zero, List.getElem_cons_succ, List.setIfInBounds_toArray, List.set_cons_zero, List.set_cons_succ]
          refine wpAnyH_take (i := 4) (oi := _) (v := ?_) rfl (by kernel_rfl) (by kernel_rfl) (by kernel_rfl) (fun _ _ _ h => h) (Or.inl ⟨by rfl, ?_⟩) (by assumption) ?_
          rotate_left
          · (intro w hSw; (try dsimp only at hSw); go_simp; try with_reducible rfl)
          try simp only [Act.put, List.getElem_toArray, List.getElem_cons_zero, List.getElem_cons_succ, List.setIfInBounds_toArray, List.set_cons_zero, List.set_cons_succ]
          refine wpAnyH_take (i := 6) (oi := _) (v := ?_) rfl (by kernel_rfl) (by kernel_rfl) (by kernel_rfl) (fun _ _ _ h => h) (Or.inl ⟨by rfl, ?_⟩) (by assumption) ?_
          rotate_left
          · (intro w hSw; (try dsimp only at hSw); go_simp; try with_reducible rfl)
          try simp only [Act.put, List.getElem_toArray, List.getElem_cons_zero, List.getElem_cons_succ, List.setIfInBounds_toArray, List.set_cons_zero, List.set_cons_succ]
          refine wpAnyH_take (i := 7) (oi := _) (v := ?_) rfl (by kernel_rfl) (by kernel_rfl) (by kernel_rfl) (fun _ _ _ h => h) (Or.inl ⟨by rfl, ?_⟩) (by assumption) ?_
          rotate_left
          · (intro w hSw; (try dsimp only at hSw); go_simp; try with_reducible rfl)
          try simp only [Act.put, List.getElem_toArray, List.getElem_cons_zero, List.getElem_cons_succ, List.setIfInBounds_toArray, List.set_cons_zero, List.set_cons_succ]
          refine wpAnyH_take (i := 8) (oi := _) (v := ?_) rfl (by kernel_rfl) (by kernel_rfl) (by kernel_rfl) (fun _ _ _ h => h) (Or.inl ⟨by rfl, ?_⟩) (by assumption) ?_
          rotate_left
          · (intro w hSw; (try dsimp only at hSw); go_simp; try with_reducible rfl)
          try simp only [Act.put, List.getElem_toArray, List.getElem_cons_zero, List.getElem_cons_succ, List.setIfInBounds_toArray, List.set_cons_zero, List.set_cons_succ]
          refine wpAnyH_take (i := 9) (oi := _) (v := ?_) rfl (by kernel_rfl) (by kernel_rfl) (by kernel_rfl) (fun _ _ _ h => h) (Or.inl ⟨by rfl, ?_⟩) (by assumption) ?_
          rotate_left
          · (intro w hSw; (try dsimp only at hSw); go_simp; try with_reducible rfl)
          try simp only [Act.put, List.getElem_toArray, List.getElem_cons_zero, List.getElem_cons_succ, List.setIfInBounds_toArray, List.set_cons_zero, List.set_cons_succ]
          refine wpAnyH_take (i := 10) (oi := _) (v := ?_) rfl (by kernel_rfl) (by kernel_rfl) (by kernel_rfl) (fun _ _ _ h => h) (Or.inl ⟨by rfl, ?_⟩) (by assumption) ?_
          rotate_left
          · (intro w hSw; (try dsimp only at hSw); go_simp; try with_reducible rfl)
          try simp only [Act.put, List.getElem_toArray, List.getElem_cons_zero, List.getElem_cons_succ, List.setIfInBounds_toArray, List.set_cons_zero, List.set_cons_succ]
          refine wpAnyH_ready (rs := [5]) (by kernel_rfl) (by simp) ?_
          refine AllReadyH.cons rfl (fun K hK => ?_) (AllReadyH.nil)
          go_simp
          go_at_call 38; (with_reducible refine (HG1.out).mono ?_); rintro e W5 ⟨rfl, hb5⟩
          refine hK.out _ _ (cell_kept hb5 HS0.out) (fun hHeld => ?_)
          try simp only [Act.put, List.getElem_toArray, List.getElem_cons_zero, List.getElem_cons_succ, List.setIfInBounds_toArray, List.set_cons_zero, List.set_cons_succ]
          have HC5 := Lib.hid (cell_kept hb5 HS0.out)
          have HB5 := Lib.hid (below_next (show Below W.heap.size W wr.drew from HB.out.drew) hb5)
          have HG2 := Lib.hid (HGB.out x W5 HB5.out rfl)
          unfold con
          refine wpAnyH_ready (rs := [11]) (by kernel_rfl) (by simp) ?_
          refine AllReadyH.cons rfl (fun K hK => ?_) (AllReadyH.nil)
          go_simp
          go_at_call 38; (with_reducible refine (HG2.out).mono ?_); rintro e W6 ⟨rfl, hb6⟩
          refine hK.out _ _ (cell_kept hb6 HC5.out) (fun hHeld => ?_)
          try simp only [Act.put, List.getElem_toArray, List.getElem_cons_zero, List.getElem_cons_succ, List.setIfInBounds_toArray, List.set_cons_zero, List.set_cons_succ]
          have HB6 := Lib.hid (below_next HB5.out hb6)
          have HC6 := Lib.hid (cell_kept hb6 HC5.out)
          unfold con
          have hne := fun w => (conNeq k1 v1 k2 v2 w).trans (show _ = Result.ok (Value.bool dd) w by rw [HDF.out])
          refine wpAnyH_take (i := 12) (oi := _) (v := ?_) rfl (by kernel_rfl) (by kernel_rfl) (by kernel_rfl) (fun _ _ _ h => h) (Or.inl ⟨by rfl, ?_⟩) (by assumption) ?_
          rotate_left
          · (intro w hSw; (try dsimp only at hSw); go_simp; try with_reducible rfl)
          try simp only [Act.put, List.getElem_toArray, List.getElem_cons_zero, List.getElem_cons_succ, List.setIfInBounds_toArray, List.set_cons_zero, List.set_cons_succ]
          refine wpAnyH_done (by kernel_rfl) ?_ _
          have HOW := Lib.hid (show wr.drew.ownsRow W.heap.size 9 1 u5 (chgAcc ns ms i).length ((chgAcc ns ms i).map Value.string) from HO.out)
          have HO6 := Lib.hid (own_below1 (own_below1 HOW.out hb5) hb6)
          have HTW := Lib.hid (show wr.drew.ownsRow W2.heap.size 9 1 (.slice (some ⟨b, off, none⟩) ml c4) ml ((mergeP ns ms).map Value.string) from HT.out)
          have HT6 := Lib.hid (own_below1 (own_below1 HTW.out hb5) hb6)
          have HTL := Lib.hid (fun k e => (HT6.out.lt k e).2)
          have hc6 := HC6.out
          clear hb5 hb6
          cases dd with
          | false =>
            have HN := Lib.hid (chgAcc_no HX.out HDD.out)
            go_wp2_with fail
            go_roundw
            case rel => exact ⟨i + 1, by push_cast; rfl, by have := HME.out; have := HLT.out; omega, by rw [HN.out]; exact HO6.out, HT6.out, HDO.out, HB6.out⟩
            case measure => have := HLT.out; simp [intOf]; omega
          | true =>
            have HY := Lib.hid (chgAcc_yes HX.out HDD.out)
            have HCL := Lib.hid (show (chgAcc ns ms i).length ≤ 20 by have := chgAcc_len ns ms i; have := HML.out; have := HLT.out; omega)
            have hlt0 := HO6.out.lt
            go_wp2_with (at_builtin; refine wpList_append_where rfl _ _ 65 rfl W.heap.size 9 i0 (.string ⟨#[]⟩) 16 Tryz.underlying65 hi hz0 hz1 hz2 rfl _ _ _ rfl (HO6.out.alloc _) ⟨W6.heap.size, 0, none⟩ 1 1 [.string x] rfl rfl (cell_str_new _ _ _) (fun x hx => by simp at hx; subst hx; rfl) (by have := HCL.out; unfold maxLen; omega) (by have := HCL.out; omega) (by have := HB6.out.size; simp; omega) ?_; intro v5 w5 ho5 hg5 hn5)
            have B5 : Below W.heap.size W w5 := (HB6.out.alloc HB6.out.size _).grown hg5 (by have := HB6.out.size; simp; omega) (fun g e => (hlt0 g e).1)
            have hT5 := own_farT (HT6.out.alloc (.cells #[.string x] 9)) hg5 (fun k e1 e2 => HDO.out k e2 e1)
            have hD5 : ∀ k, v5.ownBlock = some k → (Value.slice (some ⟨b, off, none⟩) ml c4).ownBlock ≠ some k := fun k e1 e2 => by
              rcases hn5 k e1 with e | e
              · exact HDO.out k e e2
              · have := HTL.out k e2
                simp at e
                omega
            go_roundw
            case rel => exact ⟨i + 1, by push_cast; rfl, by have := HME.out; have := HLT.out; omega, by rw [HY.out]; exact own_text ho5, hT5, hD5, B5⟩
            case measure => have := HLT.out; simp [intOf]; omega
        · have hge : (ml : Int) ≤ i := by omega
          have HR := Lib.hid (show chgAcc ns ms i = chgL ns ms by
            unfold chgAcc chgL
            rw [HW1.out, HW2.out, List.take_of_length_le (by have := HME.out; omega)]; rfl)
          clear hlt hi2
          go_wp2
          refine bodyPost_ret (v := u5) (by simp [results, Tryz.f37, go_sem]) rfl ?_
          rw [← HR.out]
          exact ⟨⟨u5, rfl, HO.out⟩, HB.out⟩

end Go.Proofs.YtnboodcllmdjeaaGreatDoor

/-
  WALKS: impl.TreeChanged.
-/
namespace Go.Proofs.YtnboodcllmdjeaaGreatDoor
open Go.RowKit
set_option linter.unusedVariables false

/-- Two trees in memory that share no place. -/
structure TwoT (base : Nat) (ns ms : List Nd) (r1 r2 : Nat) (W : World) (A1 A2 : List UInt8 → Option Nat) : Prop where
  t1 : Trie W A1 (Fof ns)
  t2 : Trie W A2 (Fof ms)
  a1 : A1 [] = some r1
  a2 : A2 [] = some r2
  far : ∀ u w b, A1 u = some b → A2 w ≠ some b
  lo1 : ∀ u b, A1 u = some b → base ≤ b
  lo2 : ∀ u b, A2 u = some b → base ≤ b

/-- What a step keeps: all below a base, and all cells that are no places. -/
structure KeptP (base : Nat) (W W' : World) : Prop where
  low : Below base W W'
  typ : ∀ (k : Nat) (cs : Array Value) (t : TypeId) (fr : Nat × Nat), W.heap[k]? = some (.cells cs t fr) → t ≠ 98 → W'.heap[k]? = W.heap[k]?

theorem KeptP.trans {base : Nat} {W W1 W2 : World} (h : KeptP base W W1) (k : KeptP base W1 W2) : KeptP base W W2 :=
  ⟨h.low.trans k.low, fun j cs t fr hj ht => (k.typ j cs t fr ((h.typ j cs t fr hj ht).trans hj) ht).trans (h.typ j cs t fr hj ht)⟩

theorem KeptP.row {base b0 : Nat} {W W' : World} (h : KeptP base W W') {e : TypeId} {size n : Nat} {v : Value} {xs : List Value} (ho : W.ownsRow b0 e size v n xs) (he : e ≠ 98) : W'.ownsRow b0 e size v n xs := by
  refine ⟨ho.1, ?_⟩
  rcases ho.2 with h0 | ⟨g, cap, cur, hv, h1, h2, h3⟩
  · exact .inl h0
  · exact .inr ⟨g, cap, cur, hv, h1, (h.typ g cur e (0, 0) h2 he).trans h2, h3⟩

theorem KeptP.cell {base : Nat} {W W' : World} (h : KeptP base W W') {k : Nat} {cs : Array Value} {t : TypeId} (hk : W.heap[k]? = some (.cells cs t (0, 0))) (ht : t ≠ 98) (i : Nat) : W'.cell? ⟨k, i, none⟩ = W.cell? ⟨k, i, none⟩ :=
  World.cell?_of_block (h.typ k cs t (0, 0) hk ht)

theorem KeptP.of_below {base : Nat} {W W' : World} (hb : base ≤ W.heap.size) (h : Below W.heap.size W W') : KeptP base W W' :=
  ⟨h.mono hb, fun k cs t fr hk _ => h.block k (Array.getElem?_eq_some_iff.1 hk).1⟩

theorem KeptP.of_off {base : Nat} {A : List UInt8 → Option Nat} {F : List UInt8 → Int × Int} {W W' : World} (hT : Trie W A F) (hb : base ≤ W.heap.size) (hA : ∀ u c, A u = some c → base ≤ c) (h : Off A W.heap.size W W') : KeptP base W W' :=
  ⟨h.below hb hA, fun k cs t fr hk ht => h.block k (Array.getElem?_eq_some_iff.1 hk).1 fun u e => by
    have := hT.cells u k e
    rw [hk] at this
    cases this
    exact ht rfl⟩

theorem TwoT.below {base : Nat} {ns ms : List Nd} {r1 r2 : Nat} {W W' : World} {A1 A2 : List UInt8 → Option Nat} (h : TwoT base ns ms r1 r2 W A1 A2) (hb : Below W.heap.size W W') : TwoT base ns ms r1 r2 W' A1 A2 :=
  ⟨h.t1.below hb, h.t2.below hb, h.a1, h.a2, h.far, h.lo1, h.lo2⟩

/-- An append to a row of another type. -/
theorem TwoT.grown {base b0 : Nat} {ns ms : List Nd} {r1 r2 : Nat} {W W' : World} {A1 A2 : List UInt8 → Option Nat} (h : TwoT base ns ms r1 r2 W A1 A2) {e : TypeId} {size n : Nat} {v : Value} {xs : List Value} (ho : W.ownsRow b0 e size v n xs) (he : e ≠ 98)
    (hg : W.grownBy W' v.ownBlock) : TwoT base ns ms r1 r2 W' A1 A2 := by
  have hne : ∀ (A : List UInt8 → Option Nat) (F : List UInt8 → Int × Int), Trie W A F → ∀ u b, A u = some b → some b ≠ v.ownBlock := by
    intro A F hT u b hb e1
    rcases ho.2 with ⟨rfl, _⟩ | ⟨g, cap, cur, rfl, _, h2, _⟩
    · cases e1
    · simp [Value.ownBlock] at e1
      subst e1
      have := hT.cells u b hb
      rw [h2] at this
      cases this
      exact he rfl
  exact ⟨h.t1.kept fun u b hb => hg.block b (h.t1.lt hb) (hne _ _ h.t1 u b hb), h.t2.kept fun u b hb => hg.block b (h.t2.lt hb) (hne _ _ h.t2 u b hb), h.a1, h.a2, h.far, h.lo1, h.lo2⟩

/-- A row is kept while another one of another type grows. -/
theorem row_apart {W W' : World} {b1 b2 : Nat} {e1 e2 : TypeId} {s1 s2 n1 n2 : Nat} {v1 v2 : Value} {x1 x2 : List Value} (h1 : W.ownsRow b1 e1 s1 v1 n1 x1) (h2 : W.ownsRow b2 e2 s2 v2 n2 x2) (he : e1 ≠ e2) (hg : W.grownBy W' v2.ownBlock) : W'.ownsRow b1 e1 s1 v1 n1 x1 := by
  refine h1.kept hg ?_
  rcases h1.2 with ⟨rfl, _⟩ | ⟨g, cap, cur, rfl, _, q1, _⟩
  · exact .inl rfl
  · right
    intro e
    rcases h2.2 with ⟨rfl, _⟩ | ⟨g', cap', cur', rfl, _, q2, _⟩
    · cases e
    · simp [Value.ownBlock] at e
      subst e
      rw [q1] at q2
      cases q2
      exact he rfl

/-- The place of a path in the one tree or in the other one. -/
def FoundP (base : Nat) (ns ms : List Nd) (r1 r2 : Nat) (fst : Bool) (w : List UInt8) (c : Int × Int) (A1 A2 : List UInt8 → Option Nat) (W : World) (e : Ending) (W' : World) : Prop :=
  ∃ A1' A2' b, e = .returned (.pointer (some ⟨b, 0, none⟩)) ∧ TwoT base ns ms r1 r2 W' A1' A2' ∧ KeptP base W W' ∧ W'.cell? ⟨b, 0, none⟩ = some (.int .i64 c.1) ∧ W'.cell? ⟨b, 1, none⟩ = some (.int .i64 c.2) ∧
    (fst = true → A1' w = some b) ∧ (fst = false → A1' = A1)

theorem trie_two {W : World} {A : List UInt8 → Option Nat} {F : List UInt8 → Int × Int} (h : Trie W A F) {w : List UInt8} {b : Nat} (hb : A w = some b) {c : Int × Int} (hc : F w = c) : W.cell? ⟨b, 0, none⟩ = some (.int .i64 c.1) ∧ W.cell? ⟨b, 1, none⟩ = some (.int .i64 c.2) := by
  subst hc
  exact ⟨h.cell hb 0, h.cell hb 1⟩

theorem at_first {base : Nat} {ns ms : List Nd} {r1 r2 : Nat} {w : List UInt8} (hw : Wrd w) {c : Int × Int} (hc : Fof ns w = c) {A1 A2 : List UInt8 → Option Nat} {W : World} (h : TwoT base ns ms r1 r2 W A1 A2) (hb : base ≤ W.heap.size) :
    Calls Tryz.prog 60 #[.pointer (some ⟨r1, 0, none⟩), .string (pB w)] W (FoundP base ns ms r1 r2 true w c A1 A2 W) := by
  refine (at_c A1 (Fof ns) w hw W h.t1 r1 h.a1).mono ?_
  rintro e W' ⟨A', b, rfl, hb', hT', hX, hO⟩
  obtain ⟨c0, c1⟩ := trie_two hT' hb' hc
  refine ⟨A', A2, b, rfl, ⟨hT', h.t2.kept fun u x hx => hO.block x (h.t2.lt hx) fun u' e' => h.far u' u x e' hx, (hX [] r1).1 h.a1, h.a2, fun u v x hx hv => ?_, ext_from hX hb h.lo1, h.lo2⟩, .of_off h.t1 hb h.lo1 hO, c0, c1, fun _ => hb', fun e => (by cases e)⟩
  rcases (hX u x).2 hx with q | q
  · exact h.far u v x q hv
  · have := h.t2.lt hv; omega

theorem at_second {base : Nat} {ns ms : List Nd} {r1 r2 : Nat} {w : List UInt8} (hw : Wrd w) {c : Int × Int} (hc : Fof ms w = c) {A1 A2 : List UInt8 → Option Nat} {W : World} (h : TwoT base ns ms r1 r2 W A1 A2) (hb : base ≤ W.heap.size) :
    Calls Tryz.prog 60 #[.pointer (some ⟨r2, 0, none⟩), .string (pB w)] W (FoundP base ns ms r1 r2 false w c A1 A2 W) := by
  refine (at_c A2 (Fof ms) w hw W h.t2 r2 h.a2).mono ?_
  rintro e W' ⟨A', b, rfl, hb', hT', hX, hO⟩
  obtain ⟨c0, c1⟩ := trie_two hT' hb' hc
  refine ⟨A1, A', b, rfl, ⟨h.t1.kept fun u x hx => hO.block x (h.t1.lt hx) fun u' e' => h.far u u' x hx e', hT', h.a1, (hX [] r2).1 h.a2, fun u v x hx hv => ?_, h.lo1, ext_from hX hb h.lo2⟩, .of_off h.t2 hb h.lo2 hO, c0, c1, fun e => (by cases e), fun _ => rfl⟩
  rcases (hX v x).2 hv with q | q
  · exact h.far u v x hx q
  · have := h.t1.lt hx; omega

/-! ## The paths that differ -/

def difL (ns ms L : List Nd) : List ByteArray := (L.filter (fun m => diffB ns ms m.p)).map Nd.p

theorem difL_yes {ns ms L : List Nd} {i : Nat} {m : Nd} (hm : L[i]? = some m) (h : diffB ns ms m.p = true) : difL ns ms (L.take (i + 1)) = difL ns ms (L.take i) ++ [m.p] := by
  unfold difL
  rw [List.take_add_one, hm, List.filter_append, List.map_append]
  simp [h]

theorem difL_no {ns ms L : List Nd} {i : Nat} {m : Nd} (hm : L[i]? = some m) (h : diffB ns ms m.p = false) : difL ns ms (L.take (i + 1)) = difL ns ms (L.take i) := by
  unfold difL
  rw [List.take_add_one, hm, List.filter_append, List.map_append]
  simp [h]

theorem difL_len (ns ms L : List Nd) (i : Nat) : (difL ns ms (L.take i)).length ≤ i := by
  unfold difL
  rw [List.length_map]
  exact Nat.le_trans (List.length_filter_le _ _) (by rw [List.length_take]; omega)

theorem chg_eq {ns ms : List Nd} (h1 : validT ns = true) (h2 : validT ms = true) {zs : List ByteArray} (ha : AscP zs) (hm : ∀ p, p ∈ zs ↔ p ∈ difL ns ms (ns ++ ms)) : zs = chgL ns ms := by
  refine ascP_ext ha chg_asc fun p => ?_
  rw [hm]
  unfold chgL difL
  rw [h1, h2]
  simp only [Bool.and_self, if_true, List.mem_map, List.mem_filter, List.mem_append]
  rw [mergeP_mem _ ns ms (Nat.le_refl _)]
  constructor
  · rintro ⟨m, ⟨hm | hm, hd⟩, rfl⟩
    · exact ⟨.inl ⟨m, hm, rfl⟩, hd⟩
    · exact ⟨.inr ⟨m, hm, rfl⟩, hd⟩
  · rintro ⟨⟨m, hm, rfl⟩ | ⟨m, hm, rfl⟩, hd⟩
    · exact ⟨m, ⟨.inl hm, hd⟩, rfl⟩
    · exact ⟨m, ⟨.inr hm, hd⟩, rfl⟩

theorem chg_bad {ns ms : List Nd} (h : validT ns = false ∨ validT ms = false) : chgL ns ms = [] := by
  unfold chgL
  rcases h with h | h <;> simp [h]

def DifRel (ns ms L : List Nd) (r1 r2 : Nat) (sL : Value) (W : World) (o i : Value) (wr : World) : Prop :=
  ∃ (n : Nat) (A1 A2 : List UInt8 → Option Nat), i = .int .i64 n ∧ n ≤ L.length ∧ Hid (wr.ownsRow W.heap.size 9 1 o (difL ns ms (L.take n)).length ((difL ns ms (L.take n)).map Value.string)) ∧
    Hid (TwoT W.heap.size ns ms r1 r2 wr A1 A2) ∧ Hid (wr.ownsRow W.heap.size 53 3 sL L.length (flatN L)) ∧ Hid (Below W.heap.size W wr)

set_option maxHeartbeats 2000000 in
set_option maxRecDepth 100000 in
theorem implTreeChanged_c (a1 : Option Addr) (len1 cap1 : Nat) (ns : List Nd) (a2 : Option Addr) (len2 cap2 : Nat) (ms : List Nd) (hl1 : len1 ≤ 2097152) (hl2 : len2 ≤ 2097152) (hs1 : Short 2097152 ns) (hs2 : Short 2097152 ms) (W : World) (h1 : NodesAt W a1 len1 ns) (h2 : NodesAt W a2 len2 ms) :
    Calls Tryz.prog 34 #[.slice a1 len1 cap1, .slice a2 len2 cap2] W (TextsPost (chgL ns ms) W) := by
  obtain ⟨i0, hi, hz0, hz1, hz2⟩ := info_parts infoStr
  have HT1 := Lib.hid (treeOf_c a1 len1 cap1 ns hl1 hs1 W h1)
  have HT2 := Lib.hid (fun W' (hb : Below W.heap.size W W') => treeOf_c a2 len2 cap2 ms hl2 hs2 W' (h2.keep hb))
  have H1 := Lib.hid h1
  have H2 := Lib.hid h2
  clear h1 h2 hs1 hs2
  go_enter Tryz.func34, Tryz.ntmps34
  go_wp2_with fail
  refine HT1.out.mono ?_
  rintro e W1 ⟨hB1, h1⟩
  have HB1 := Lib.hid hB1
  have HT2' := Lib.hid (HT2.out W1 hB1)
  rcases h1 with ⟨hv1, rfl⟩ | ⟨hv1, A1, b1, rfl, hA10, hT1, hA1⟩
  · have HG := Lib.hid (chg_bad (ms := ms) (.inl hv1))
    clear hv1 hB1
    go_wp2_with fail
    refine HT2'.out.mono ?_
    rintro e W2 ⟨hB2, h2⟩
    have HB2 := Lib.hid (below_next HB1.out hB2)
    clear hB2
    rcases h2 with ⟨hv2, rfl⟩ | ⟨hv2, A2, b2, rfl, hA20, hT2, hA2⟩
    · clear hv2
      go_wp2
      refine bodyPost_ret (v := .slice none 0 0) (by simp [results, Tryz.f34, go_sem]) rfl (texts_nil HG.out HB2.out)
    · clear hv2 hA20 hT2 hA2
      go_wp2
      refine bodyPost_ret (v := .slice none 0 0) (by simp [results, Tryz.f34, go_sem]) rfl (texts_nil HG.out HB2.out)
  · have HV1 := Lib.hid hv1
    have HX1 := Lib.hid (And.intro hA10 (And.intro hT1 hA1))
    clear hv1 hA10 hT1 hA1 hB1
    go_wp2_with fail
    refine HT2'.out.mono ?_
    rintro e W2 ⟨hB2, h2⟩
    have HB2 := Lib.hid (below_next HB1.out hB2)
    have HB2' := Lib.hid hB2
    clear hB2
    rcases h2 with ⟨hv2, rfl⟩ | ⟨hv2, A2, b2, rfl, hA20, hT2, hA2⟩
    · have HG := Lib.hid (chg_bad (ns := ns) (.inr hv2))
      clear hv2
      go_wp2
      refine bodyPost_ret (v := .slice none 0 0) (by simp [results, Tryz.f34, go_sem]) rfl (texts_nil HG.out HB2.out)
    · have HV2 := Lib.hid hv2
      have HTT := Lib.hid (show TwoT W.heap.size ns ms b1 b2 W2 A1 A2 from ⟨HX1.out.2.1.below HB2'.out, hT2, HX1.out.1, hA20, fun u w b hu hw => by
        have := HX1.out.2.1.lt hu
        have := hA2 w b hw
        omega, HX1.out.2.2, fun u b hb => Nat.le_trans HB1.out.size (hA2 u b hb)⟩)
      clear hv2 hA20 hT2 hA2 HX1
      go_wp2_with fail
      have hL1 := ((validT_iff ns).1 HV1.out).2.2
      have hL2 := ((validT_iff ms).1 HV2.out).2.2
      obtain ⟨L, hL⟩ : ∃ L : List Nd, L = ns ++ ms := ⟨_, rfl⟩
      have HLL := Lib.hid hL
      have hLl : L.length ≤ 20 := by rw [hL, List.length_append]; omega
      have HR := Lib.hid (rows_two (c1 := cap1) (c2 := cap2) W2 (H1.out.keep HB2.out) (H2.out.keep HB2.out) 23)
      have HB3 := Lib.hid (below_next HB2.out (below_box W2 (.cells #[.slice a1 len1 cap1, .slice a2 len2 cap2] 23)))
      have HTT3 := Lib.hid (HTT.out.below (below_box W2 (.cells #[.slice a1 len1 cap1, .slice a2 len2 cap2] 23)))
      generalize W2.alloc (.cells #[.slice a1 len1 cap1, .slice a2 len2 cap2] 23) = W3 at HR HB3 HTT3 ⊢
      have HC := Lib.hid (show Calls Tryz.prog 59 #[.slice (some ⟨W2.heap.size, 0, none⟩) 2 2] W3 (fun e W' => OwnsNodes W3.heap.size L e W' ∧ Below W3.heap.size W3 W') by
        have e : allN [⟨a1, len1, cap1, ns⟩, ⟨a2, len2, cap2, ms⟩] = L := by rw [hL]; simp [allN]
        have := concatN_c W2.heap.size 0 2 [⟨a1, len1, cap1, ns⟩, ⟨a2, len2, cap2, ms⟩] (by simp) (by rw [e]; omega) W3 HR.out
        rw [e] at this
        exact this)
      have HOK := Lib.hid (show NdsOk L by
        rw [hL]
        intro n hn
        rcases List.mem_append.1 hn with hn | hn
        · exact nds_ok HV1.out n hn
        · exact nds_ok HV2.out n hn)
      have HLN := Lib.hid hLl
      clear hL hL1 hL2
      refine HC.out.mono ?_
      rintro e W4 ⟨⟨sL, rfl, ho4⟩, hb4⟩
      obtain ⟨aL, cL, rfl, hn4⟩ := nodes_of_own ho4
      have HO4 := Lib.hid (own_mono ho4 HB3.out.size)
      have HB4 := Lib.hid (below_next HB3.out hb4)
      have HTT4 := Lib.hid (HTT3.out.below hb4)
      clear ho4 hb4 hn4
      go_wp2_with fail
      go_loopw [9, 33] (fun o i wr => DifRel ns ms L b1 b2 (.slice aL L.length cL) W o i wr) (fun _ i _ => L.length - (intOf i).toNat)
      case atStart => exact ⟨0, A1, A2, rfl, by omega, World.ownsRow_nil _ _ _ _, HTT4.out, HO4.out, HB4.out⟩
      case round =>
        obtain ⟨i, B1, B2, rfl, hi1, HO, HTR, HLR, HB⟩ := hrel
        by_cases hlt : i < L.length
        · obtain ⟨aL', cL', heq, hnL⟩ := nodes_of_own HLR.out
          simp only [Value.slice.injEq, true_and] at heq
          obtain ⟨rfl, rfl⟩ := heq
          obtain ⟨b, off, m, rfl, hm, c0, c1, c2⟩ := hnL.node hlt
          have hlt' : (i : Int) < L.length := by omega
          have hi20 : (i : Int) ≤ 20 := by omega
          have HLT := Lib.hid hlt
          have HM := Lib.hid hm
          obtain ⟨p, k, v⟩ := m
          simp only at c0 c1 c2
          obtain ⟨w, hw, hpw⟩ := vpB_word (HOK.out _ (List.mem_of_getElem? hm)).1
          simp only at hpw
          obtain ⟨⟨k1, v1⟩, hk1⟩ : ∃ c, Fof ns w = c := ⟨_, rfl⟩
          obtain ⟨⟨k2, v2⟩, hk2⟩ : ∃ c, Fof ms w = c := ⟨_, rfl⟩
          obtain ⟨dd, hdd⟩ : ∃ dd, diffB ns ms p = dd := ⟨_, rfl⟩
          have HDD := Lib.hid hdd
          have hne := fun w' => (conNeq k1 v1 k2 v2 w').trans (show _ = Result.ok (Value.bool dd) w' by
            rw [← hdd, diff_bool ns ms p (k := k1) (v := v1) (k' := k2) (v' := v2) (by rw [hpw]; exact hk1) (by rw [hpw]; exact hk2)])
          have HW := Lib.hid hw
          have HPW := Lib.hid hpw
          have HK := Lib.hid (And.intro hk1 hk2)
          have hbw := HB.out.size
          have HT9 := Lib.hid (show TwoT W.heap.size ns ms b1 b2 (wr.alloc (.cells #[.string p, .int .i64 k, .int .i64 v] 53)).drew B1 B2 from
            let h := HTR.out.below (below_box wr (.cells #[.string p, .int .i64 k, .int .i64 v] 53)); ⟨⟨h.t1.wrd, h.t1.root, h.t1.inj, h.t1.up, h.t1.nil, h.t1.cells⟩, ⟨h.t2.wrd, h.t2.root, h.t2.inj, h.t2.up, h.t2.nil, h.t2.cells⟩, h.a1, h.a2, h.far, h.lo1, h.lo2⟩)
          have HBX := Lib.hid (show (wr.alloc (.cells #[.string p, .int .i64 k, .int .i64 v] 53)).drew.heap[wr.heap.size]? = some (.cells #[.string p, .int .i64 k, .int .i64 v] 53 (0, 0)) from World.alloc_heap_new wr _)
          have HS9 := Lib.hid (show W.heap.size ≤ (wr.alloc (.cells #[.string p, .int .i64 k, .int .i64 v] 53)).drew.heap.size by show _ ≤ (wr.alloc _).heap.size; rw [World.size_alloc]; omega)
          have HAT1 := Lib.hid (show Calls Tryz.prog 60 #[.pointer (some ⟨b1, 0, none⟩), .string p] (wr.alloc (.cells #[.string p, .int .i64 k, .int .i64 v] 53)).drew (FoundP W.heap.size ns ms b1 b2 true w (k1, v1) B1 B2 (wr.alloc (.cells #[.string p, .int .i64 k, .int .i64 v] 53)).drew) by
            rw [hpw]; rw [hpw] at HT9 HS9; exact at_first hw hk1 HT9.out HS9.out)
          have HAT2 := Lib.hid (fun (W' : World) (C1 C2 : List UInt8 → Option Nat) (hT : TwoT W.heap.size ns ms b1 b2 W' C1 C2) (hs : W.heap.size ≤ W'.heap.size) =>
            show Calls Tryz.prog 60 #[.pointer (some ⟨b2, 0, none⟩), .string p] W' (FoundP W.heap.size ns ms b1 b2 false w (k2, v2) C1 C2 W') by rw [hpw]; exact at_second hw hk2 hT hs)
          have HN0 := Lib.hid (show 53 ≠ 98 by decide)
          clear hlt hi1 hm hw hpw hk1 hk2 hdd hnL
          go_upto_region 9 with (fail)
          have HS0 : Hid ((wr.alloc (.cells #[.string p, .int .i64 k, .int .i64 v] 53)).drew.cell? ⟨wr.heap.size, 0, none⟩ = some (.string p)) := by
            show (wr.alloc _).cell? _ = _
            simp
          refine wp_region_held_drew (S := (fun w' => w'.cell? ⟨wr.heap.size, 0, none⟩ = some (.string p))) (by kernel_rfl) HS0.out (fun hH => ?_)
          refine wpAnyH_take (i := 0) (oi := _) (v := ?_) rfl (by kernel_rfl) (by kernel_rfl) (by kernel_rfl) (fun _ _ _ h => h) (Or.inl ⟨by rfl, ?hy1⟩) (by assumption) ?_
          case hy1 => (intro w hSw; (try dsimp only at hSw); go_simp; try with_reducible rfl)
          try simp only [Act.put, List.getElem_toArray, List.getElem_cons_zero, List.setIfInBounds_toArray, List.set_cons_zero, List.set_cons_succ]
          refine wpAnyH_take (i := 1) (oi := _) (v := ?_) rfl (by kernel_rfl) (by kernel_rfl) (by kernel_rfl) (fun _ _ _ h => h) (Or.inl ⟨by rfl, ?hy2⟩) (by assumption) ?_
          case hy2 => (intro w hSw; (try dsimp only at hSw); go_simp; try with_reducible rfl)
          try simp only [Act.put, List.getElem_toArray, List.getElem_cons_zero, List.getElem_cons_succ, List.setIfInBounds_toArray, List.set_cons_zero, List.set_cons_succ]
          refine wpAnyH_take (i := 2) (oi := _) (v := ?_) rfl (by kernel_rfl) (by kernel_rfl) (by kernel_rfl) (fun _ _ _ h => h) (Or.inl ⟨by rfl, ?hy3⟩) (by assumption) ?_
          case hy3 => (intro w hSw; (try dsimp only at hSw); go_simp; try with_reducible rfl)
          try simp only [Act.put, List.getElem_toArray, List.getElem_cons_zero, List.getElem_cons_succ, List.setIfInBounds_toArray, List.set_cons_zero, List.set_cons_succ]
          refine wpAnyH_take (i := 7) (oi := _) (v := ?_) rfl (by kernel_rfl) (by kernel_rfl) (by kernel_rfl) (fun _ _ _ h => h) (Or.inl ⟨by rfl, ?hy4⟩) (by assumption) ?_
          case hy4 => (intro w hSw; (try dsimp only at hSw); go_simp; try with_reducible rfl)
          try simp only [Act.put, List.getElem_toArray, List.getElem_cons_zero, List.getElem_cons_succ, List.setIfInBounds_toArray, List.set_cons_zero, List.set_cons_succ]
          refine wpAnyH_take (i := 8) (oi := _) (v := ?_) rfl (by kernel_rfl) (by kernel_rfl) (by kernel_rfl) (fun _ _ _ h => h) (Or.inl ⟨by rfl, ?hy5⟩) (by assumption) ?_
          case hy5 => (intro w hSw; (try dsimp only at hSw); go_simp; try with_reducible rfl)
          try simp only [Act.put, List.getElem_toArray, List.getElem_cons_zero, List.getElem_cons_succ, List.setIfInBounds_toArray, List.set_cons_zero, List.set_cons_succ]
          refine wpAnyH_take (i := 9) (oi := _) (v := ?_) rfl (by kernel_rfl) (by kernel_rfl) (by kernel_rfl) (fun _ _ _ h => h) (Or.inl ⟨by rfl, ?hy6⟩) (by assumption) ?_
          case hy6 => (intro w hSw; (try dsimp only at hSw); go_simp; try with_reducible rfl)
          try simp only [Act.put, List.getElem_toArray, List.getElem_cons_zero, List.getElem_cons_succ, List.setIfInBounds_toArray, List.set_cons_zero, List.set_cons_succ]
          refine wpAnyH_ready (rs := [3]) (by kernel_rfl) (by simp) ?_
          refine AllReadyH.cons rfl (fun K hK => ?_) AllReadyH.nil
          go_simp
          (go_at_call 60; (with_reducible refine (HAT1.out).mono ?_); rintro e W6 ⟨C1, C2, b6, rfl, hT6, hK6, c60, c61, hf6, -⟩; have hs6 := Nat.le_trans HS9.out hK6.low.size; have hf6' := hf6 rfl)
          refine hK.out _ _ ((hK6.cell HBX.out HN0.out 0).trans HS0.out) (fun hHeld => ?_)
          try simp only [Act.put, List.getElem_toArray, List.getElem_cons_zero, List.getElem_cons_succ, List.setIfInBounds_toArray, List.set_cons_zero, List.set_cons_succ]
          refine wpAnyH_take (i := 4) (oi := _) (v := ?_) rfl (by kernel_rfl) (by kernel_rfl) (by kernel_rfl) (fun _ _ _ h => h) (Or.inl ⟨by rfl, ?hy7⟩) (by assumption) ?_
          case hy7 => (intro w hSw; (try dsimp only at hSw); go_simp; try with_reducible rfl)
          try simp only [Act.put, List.getElem_toArray, List.getElem_cons_zero, List.getElem_cons_succ, List.setIfInBounds_toArray, List.set_cons_zero, List.set_cons_succ]
          refine wpAnyH_take (i := 5) (oi := _) (v := ?_) rfl (by kernel_rfl) (by kernel_rfl) (by kernel_rfl) (fun _ _ _ h => h) (Or.inl ⟨by rfl, ?hy8⟩) (by assumption) ?_
          case hy8 => (intro w hSw; (try dsimp only at hSw); go_simp; try with_reducible rfl)
          try simp only [Act.put, List.getElem_toArray, List.getElem_cons_zero, List.getElem_cons_succ, List.setIfInBounds_toArray, List.set_cons_zero, List.set_cons_succ]
          refine wpAnyH_ready (rs := [6, 10]) (by kernel_rfl) (by simp) ?_
          refine AllReadyH.cons rfl (fun K hK => ?_) (AllReadyH.cons rfl (fun K hK => ?_) AllReadyH.nil)
          go_simp
          refine hK.out _ _ ((hK6.cell HBX.out HN0.out 0).trans HS0.out) (fun hHeld => ?_)
          try simp only [Act.put, List.getElem_toArray, List.getElem_cons_zero, List.getElem_cons_succ, List.setIfInBounds_toArray, List.set_cons_zero, List.set_cons_succ]
          refine wpAnyH_ready (rs := [10]) (by kernel_rfl) (by simp) ?_
          refine AllReadyH.cons rfl (fun K hK => ?_) AllReadyH.nil
          go_simp
          (go_at_call 60; (with_reducible refine (HAT2.out _ _ _ hT6 hs6).mono ?_); rintro e W7 ⟨D1, D2, b7, rfl, hT7, hK7, c70, c71, -, hf7⟩; have e7 := hf7 rfl; have z60 := (trie_two hT7.t1 (by rw [e7]; exact hf6') HK.out.1).1; have z61 := (trie_two hT7.t1 (by rw [e7]; exact hf6') HK.out.1).2)
          refine hK.out _ _ ((hK7.cell ((hK6.typ _ _ _ _ HBX.out HN0.out).trans HBX.out) HN0.out 0).trans ((hK6.cell HBX.out HN0.out 0).trans HS0.out)) (fun hHeld => ?_)
          try simp only [Act.put, List.getElem_toArray, List.getElem_cons_zero, List.getElem_cons_succ, List.setIfInBounds_toArray, List.set_cons_zero, List.set_cons_succ]
          refine wpAnyH_take (i := 11) (oi := _) (v := ?_) rfl (by kernel_rfl) (by kernel_rfl) (by kernel_rfl) (fun _ _ _ h => h) (Or.inl ⟨by rfl, ?hy9⟩) (by assumption) ?_
          case hy9 => (intro w hSw; (try dsimp only at hSw); go_simp; try with_reducible rfl)
          try simp only [Act.put, List.getElem_toArray, List.getElem_cons_zero, List.getElem_cons_succ, List.setIfInBounds_toArray, List.set_cons_zero, List.set_cons_succ]
          refine wpAnyH_take (i := 12) (oi := _) (v := ?_) rfl (by kernel_rfl) (by kernel_rfl) (by kernel_rfl) (fun _ _ _ h => h) (Or.inl ⟨by rfl, ?hy10⟩) (by assumption) ?_
          case hy10 => (intro w hSw; (try dsimp only at hSw); go_simp; try with_reducible rfl)
          try simp only [Act.put, List.getElem_toArray, List.getElem_cons_zero, List.getElem_cons_succ, List.setIfInBounds_toArray, List.set_cons_zero, List.set_cons_succ]
          refine wpAnyH_ready (rs := [13]) (by kernel_rfl) (by simp) ?_
          refine AllReadyH.cons rfl (fun K hK => ?_) AllReadyH.nil
          go_simp
          refine hK.out _ _ ((hK7.cell ((hK6.typ _ _ _ _ HBX.out HN0.out).trans HBX.out) HN0.out 0).trans ((hK6.cell HBX.out HN0.out 0).trans HS0.out)) (fun hHeld => ?_)
          try simp only [Act.put, List.getElem_toArray, List.getElem_cons_zero, List.getElem_cons_succ, List.setIfInBounds_toArray, List.set_cons_zero, List.set_cons_succ]
          refine wpAnyH_take (i := 14) (oi := _) (v := ?_) rfl (by kernel_rfl) (by kernel_rfl) (by kernel_rfl) (fun _ _ _ h => h) (Or.inl ⟨by rfl, ?hy11⟩) (by assumption) ?_
          case hy11 => (intro w hSw; (try dsimp only at hSw); go_simp; try with_reducible rfl)
          try simp only [Act.put, List.getElem_toArray, List.getElem_cons_zero, List.getElem_cons_succ, List.setIfInBounds_toArray, List.set_cons_zero, List.set_cons_succ]
          refine wpAnyH_done (by kernel_rfl) ?_ _
          rotate_left
          go_simp
          (go_at_call 60; (with_reducible refine (HAT2.out _ _ _ hT6 hs6).mono ?_); rintro e W7 ⟨D1, D2, b7, rfl, hT7, hK7, c70, c71, -, hf7⟩; have e7 := hf7 rfl; have z60 := (trie_two hT7.t1 (by rw [e7]; exact hf6') HK.out.1).1; have z61 := (trie_two hT7.t1 (by rw [e7]; exact hf6') HK.out.1).2)
          refine hK.out _ _ ((hK7.cell ((hK6.typ _ _ _ _ HBX.out HN0.out).trans HBX.out) HN0.out 0).trans ((hK6.cell HBX.out HN0.out 0).trans HS0.out)) (fun hHeld => ?_)
          try simp only [Act.put, List.getElem_toArray, List.getElem_cons_zero, List.getElem_cons_succ, List.setIfInBounds_toArray, List.set_cons_zero, List.set_cons_succ]
          refine wpAnyH_take (i := 11) (oi := _) (v := ?_) rfl (by kernel_rfl) (by kernel_rfl) (by kernel_rfl) (fun _ _ _ h => h) (Or.inl ⟨by rfl, ?hy12⟩) (by assumption) ?_
          case hy12 => (intro w hSw; (try dsimp only at hSw); go_simp; try with_reducible rfl)
          try simp only [Act.put, List.getElem_toArray, List.getElem_cons_zero, List.getElem_cons_succ, List.setIfInBounds_toArray, List.set_cons_zero, List.set_cons_succ]
          refine wpAnyH_take (i := 12) (oi := _) (v := ?_) rfl (by kernel_rfl) (by kernel_rfl) (by kernel_rfl) (fun _ _ _ h => h) (Or.inl ⟨by rfl, ?hy13⟩) (by assumption) ?_
          case hy13 => (intro w hSw; (try dsimp only at hSw); go_simp; try with_reducible rfl)
          try simp only [Act.put, List.getElem_toArray, List.getElem_cons_zero, List.getElem_cons_succ, List.setIfInBounds_toArray, List.set_cons_zero, List.set_cons_succ]
          refine wpAnyH_ready (rs := [6, 13]) (by kernel_rfl) (by simp) ?_
          refine AllReadyH.cons rfl (fun K hK => ?_) (AllReadyH.cons rfl (fun K hK => ?_) AllReadyH.nil)
          go_simp
          refine hK.out _ _ ((hK7.cell ((hK6.typ _ _ _ _ HBX.out HN0.out).trans HBX.out) HN0.out 0).trans ((hK6.cell HBX.out HN0.out 0).trans HS0.out)) (fun hHeld => ?_)
          try simp only [Act.put, List.getElem_toArray, List.getElem_cons_zero, List.getElem_cons_succ, List.setIfInBounds_toArray, List.set_cons_zero, List.set_cons_succ]
          refine wpAnyH_ready (rs := [13]) (by kernel_rfl) (by simp) ?_
          refine AllReadyH.cons rfl (fun K hK => ?_) AllReadyH.nil
          go_simp
          refine hK.out _ _ ((hK7.cell ((hK6.typ _ _ _ _ HBX.out HN0.out).trans HBX.out) HN0.out 0).trans ((hK6.cell HBX.out HN0.out 0).trans HS0.out)) (fun hHeld => ?_)
          try simp only [Act.put, List.getElem_toArray, List.getElem_cons_zero, List.getElem_cons_succ, List.setIfInBounds_toArray, List.set_cons_zero, List.set_cons_succ]
          refine wpAnyH_take (i := 14) (oi := _) (v := ?_) rfl (by kernel_rfl) (by kernel_rfl) (by kernel_rfl) (fun _ _ _ h => h) (Or.inl ⟨by rfl, ?hy14⟩) (by assumption) ?_
          case hy14 => (intro w hSw; (try dsimp only at hSw); go_simp; try with_reducible rfl)
          try simp only [Act.put, List.getElem_toArray, List.getElem_cons_zero, List.getElem_cons_succ, List.setIfInBounds_toArray, List.set_cons_zero, List.set_cons_succ]
          refine wpAnyH_done (by kernel_rfl) ?_ _
          rotate_left
          go_simp
          refine hK.out _ _ ((hK7.cell ((hK6.typ _ _ _ _ HBX.out HN0.out).trans HBX.out) HN0.out 0).trans ((hK6.cell HBX.out HN0.out 0).trans HS0.out)) (fun hHeld => ?_)
          try simp only [Act.put, List.getElem_toArray, List.getElem_cons_zero, List.getElem_cons_succ, List.setIfInBounds_toArray, List.set_cons_zero, List.set_cons_succ]
          refine wpAnyH_ready (rs := [6]) (by kernel_rfl) (by simp) ?_
          refine AllReadyH.cons rfl (fun K hK => ?_) AllReadyH.nil
          go_simp
          refine hK.out _ _ ((hK7.cell ((hK6.typ _ _ _ _ HBX.out HN0.out).trans HBX.out) HN0.out 0).trans ((hK6.cell HBX.out HN0.out 0).trans HS0.out)) (fun hHeld => ?_)
          try simp only [Act.put, List.getElem_toArray, List.getElem_cons_zero, List.getElem_cons_succ, List.setIfInBounds_toArray, List.set_cons_zero, List.set_cons_succ]
          refine wpAnyH_take (i := 14) (oi := _) (v := ?_) rfl (by kernel_rfl) (by kernel_rfl) (by kernel_rfl) (fun _ _ _ h => h) (Or.inl ⟨by rfl, ?hy15⟩) (by assumption) ?_
          case hy15 => (intro w hSw; (try dsimp only at hSw); go_simp; try with_reducible rfl)
          try simp only [Act.put, List.getElem_toArray, List.getElem_cons_zero, List.getElem_cons_succ, List.setIfInBounds_toArray, List.set_cons_zero, List.set_cons_succ]
          refine wpAnyH_done (by kernel_rfl) ?_ _
          all_goals
            have hKP := hK6.trans hK7
            have HO7 := Lib.hid (hKP.row (show (wr.alloc (.cells #[.string p, .int .i64 k, .int .i64 v] 53)).drew.ownsRow W.heap.size 9 1 u9 _ _ from HO.out.alloc _) (by decide))
            have HL7 := Lib.hid (hKP.row (show (wr.alloc (.cells #[.string p, .int .i64 k, .int .i64 v] 53)).drew.ownsRow W.heap.size 53 3 (.slice (some ⟨b, off, none⟩) L.length cL) L.length (flatN L) from HLR.out.alloc _) (by decide))
            have HT7 := Lib.hid hT7
            have HB7 := Lib.hid (show Below W.heap.size W W7 from (HB.out.trans ((below_box wr (.cells #[.string p, .int .i64 k, .int .i64 v] 53)).mono hbw)).trans (show Below W.heap.size (wr.alloc (.cells #[.string p, .int .i64 k, .int .i64 v] 53)) W7 from ⟨hKP.low.os, hKP.low.tape, hKP.low.output, hKP.low.size, hKP.low.block⟩))
            have hc7 : W7.cell? ⟨wr.heap.size, 0, none⟩ = some (.string p) := (hKP.cell HBX.out HN0.out 0).trans HS0.out
            have hlt0 := HO7.out.lt
            have hdl := difL_len ns ms L i
            have HDL := Lib.hid hdl
            clear hKP hK6 hK7 hT6 hT7 c60 c61 c70 c71 hf6 hf7 hf6' e7 z60 z61 hs6 hdl
            cases dd with
            | false =>
              have HNX := Lib.hid (difL_no (ns := ns) (ms := ms) HM.out HDD.out)
              clear c0 c1 c2 hlt0
              go_wp2
              go_roundw
              case rel => exact ⟨i + 1, D1, D2, by push_cast; rfl, by have := HLT.out; omega, by rw [HNX.out]; exact HO7.out, HT7.out, HL7.out, HB7.out⟩
              case measure => have := HLT.out; simp [intOf]; omega
            | true =>
              have HNX := Lib.hid (difL_yes (ns := ns) (ms := ms) HM.out HDD.out)
              have hsz7 := HB7.out.size
              clear c0 c1 c2
              go_wp2_with (at_builtin; refine wpList_append_own _ rfl _ _ 65 rfl W.heap.size 9 i0 (.string ⟨#[]⟩) 1 16 Tryz.underlying65 hi hz0 hz1 hz2 rfl (by decide) _ _ _ rfl (HO7.out.alloc _) ⟨W7.heap.size, 0, none⟩ 1 1 [.string p] rfl rfl (cell_one_new W7 (.string p) 9) (fun y hy => by simp at hy; subst hy; rfl) (by unfold maxLen; have h5 := HDL.out; have h6 := HLT.out; have h7 := HLN.out; omega) (by have h5 := HDL.out; have h6 := HLT.out; have h7 := HLN.out; omega) (by simp; omega) ?_; intro v3 w3 ho3 hg3 hn3)
              have B3 : Below W.heap.size W w3 := (HB7.out.alloc hsz7 _).grown hg3 (by simp; omega) (fun g e => (hlt0 g e).1)
              have HO7' := Lib.hid (HO7.out.alloc (.cells #[.string p] 9))
              have HT3 := Lib.hid ((HT7.out.below (below_box W7 (.cells #[.string p] 9))).grown HO7'.out (by decide) hg3)
              have HL3 := Lib.hid (row_apart (HL7.out.alloc (.cells #[.string p] 9)) HO7'.out (by decide) hg3)
              go_roundw
              case rel => exact ⟨i + 1, D1, D2, by push_cast; rfl, by have := HLT.out; omega, by rw [HNX.out, List.length_append, List.map_append]; exact ho3, HT3.out, HL3.out, B3⟩
              case measure => have := HLT.out; simp [intOf]; omega
        · have hieq : i = L.length := by omega
          subst hieq
          rw [List.take_length] at HO
          have hge : (L.length : Int) ≤ L.length := by omega
          have hdl : (difL ns ms L).length ≤ 20 := by have := difL_len ns ms L L.length; rw [List.take_length] at this; omega
          have HSO := Lib.hid (sortS_c W.heap.size u9 (difL ns ms L) (by omega) wr HO.out)
          have HDL := Lib.hid hdl
          have hlt0 := HO.out.lt
          clear hlt hi1 hdl
          go_wp2_with fail
          refine HSO.out.mono ?_
          rintro e W8 ⟨rfl, ys, hd8, hl8, hm8, ho8, hg8⟩
          have B8 := Lib.hid (show Below W.heap.size W W8 from HB.out.grown hg8 HB.out.size (fun g e => (hlt0 g e).1))
          have HCO := Lib.hid (compactS_c W.heap.size u9 ys (by have := HDL.out; omega) hd8 W8 ho8)
          have hlt8 := ho8.lt
          have HM8 := Lib.hid hm8
          clear hd8 hl8 hm8 ho8 hg8 hlt0
          go_wp2_with fail
          refine HCO.out.mono ?_
          rintro e W9 ⟨⟨v9, zs, rfl, ha9, hm9, ho9⟩, hg9⟩
          have B9 := Lib.hid (show Below W.heap.size W W9 from B8.out.grown hg9 B8.out.size (fun g e => (hlt8 g e).1))
          have HEQ := Lib.hid (chg_eq HV1.out HV2.out ha9 (fun p => by rw [hm9 p, HM8.out p, HLL.out]))
          have HO9 := Lib.hid ho9
          clear ha9 hm9 ho9 hg9 hlt8
          go_wp2
          refine bodyPost_ret (v := v9) (by simp [results, Tryz.f34, go_sem]) rfl ⟨⟨v9, rfl, ?_⟩, B9.out⟩
          rw [← HEQ.out]
          exact HO9.out

end Go.Proofs.YtnboodcllmdjeaaGreatDoor

/-
  The program's three functions of stage 5, for the laws.
-/
namespace Go.Proofs.YtnboodcllmdjeaaGreatDoor
end Go.Proofs.YtnboodcllmdjeaaGreatDoor

/-
  WALKS: canonical logs of the model, second part: spec.l14Put, l14Sort.
-/
namespace Go.Proofs.YtnboodcllmdjeaaGreatDoor
open Go.RowKit
set_option linter.unusedVariables false

def PutKRel (c : Cmd) (cs : List Cmd) (W0 : World) (o k i : Value) (wr : World) : Prop :=
  ∃ (n : Nat) (acc : List Cmd) (dn : Bool), k = .bool dn ∧ i = .int .i64 n ∧ n ≤ cs.length ∧ wr.ownsRow W0.heap.size 45 5 o acc.length (flatC acc) ∧ Hid (putMid c cs n dn acc) ∧ Hid (Below W0.heap.size W0 wr)

set_option maxHeartbeats 4000000 in
set_option maxRecDepth 100000 in
theorem specPut_c (a : Option Addr) (len cap : Nat) (cs : List Cmd) (c : Cmd) (hl : len ≤ 2000000) (W : World) (hN : CmdsAt W a len cs) :
    Calls Tryz.prog 68 #[.slice a len cap, cmdV c] W (CmdsPost (putK c cs) W) := by
  have HE := Lib.hid hN.1
  have HL := Lib.hid hl
  have hl' : (len : Int) ≤ 2000000 := by omega
  have HCL := Lib.hid (show cs.length ≤ 2000000 by have := hN.1; omega)
  have HBX := Lib.hid (fun d w => specBefore_c c d w)
  obtain ⟨p, fk, fv, tk, tv⟩ := c
  have hN0 := hN.keep (below_box W (.cells #[.string p, .int .i64 fk, .int .i64 fv, .int .i64 tk, .int .i64 tv] 45))
  have hA0 := five_new W (.string p) (.int .i64 fk) (.int .i64 fv) (.int .i64 tk) (.int .i64 tv) 45
  have hB0 := below_box W (.cells #[.string p, .int .i64 fk, .int .i64 fv, .int .i64 tk, .int .i64 tv] 45)
  have hZ0 : (W.alloc (.cells #[.string p, .int .i64 fk, .int .i64 fv, .int .i64 tk, .int .i64 tv] 45)).heap.size = W.heap.size + 1 := by simp
  clear hN hl
  unfold cmdV
  go_enter Tryz.func68, Tryz.ntmps68
  go_wp2
  generalize W.alloc (.cells #[.string p, .int .i64 fk, .int .i64 fv, .int .i64 tk, .int .i64 tv] 45) = W0 at hN0 hA0 hB0 hZ0 ⊢
  have HN := Lib.hid hN0
  have HA := Lib.hid hA0
  have HB0 := Lib.hid hB0
  have HZ := Lib.hid hZ0
  clear hN0 hA0 hB0 hZ0
  go_loopw [5, 6, 7] (fun o k i wr => PutKRel ⟨p, fk, fv, tk, tv⟩ cs W0 o k i wr) (fun _ _ i _ => len - (intOf i).toNat)
  case atStart => exact ⟨0, [], false, rfl, rfl, Nat.zero_le _, (by have := World.ownsRow_lit (e := 45) (size := 5) W0 #[] 0 (Nat.le_refl _) (by simp [maxLen]) rfl; rw [HZ.out] at this ⊢; exact this), put_mid0 _ _, below_box _ _⟩
  case round =>
    obtain ⟨n, acc, dn, rfl, rfl, hn, hown, HM, HB⟩ := hrel
    obtain ⟨a0, a1, a2, a3, a4, -⟩ := HA.out
    have HO := Lib.hid hown
    have HAL := Lib.hid (put_mid_len HM.out)
    by_cases hlt : n < len
    · have hlt' : (n : Int) < len := by omega
      have hw1 : IntKind.i64.wrap ((n : Int) + 1) = (n : Int) + 1 := IntWalk.i64_in _ (by omega)
      have HLT := Lib.hid hlt
      obtain ⟨b, off, d, rfl, hd, d0, d1, d2, d3, d4⟩ := HN.out.node hlt
      have HD := Lib.hid hd
      obtain ⟨bb, hbb⟩ : ∃ bb, befC ⟨p, fk, fv, tk, tv⟩ d = bb := ⟨_, rfl⟩
      have HBF := Lib.hid (fun w => show Calls Tryz.prog 92 #[cmdV ⟨p, fk, fv, tk, tv⟩, cmdV d] w (BoolPost bb w) by rw [← hbb]; exact HBX.out d w)
      have HBB := Lib.hid hbb
      obtain ⟨q, fk', fv', tk', tv'⟩ := d
      unfold cmdV at HBF
      simp only at d0 d1 d2 d3 d4 HBF
      have HS0 : Hid (Below W0.heap.size W0 wr.drew) := HB.out.drew
      clear hn hlt hd hown hbb
      cases dn with
      | true =>
        have HM2 := Lib.hid (put_mid_on HD.out HM.out)
        go_upto_region 6 with (fail)
        refine wp_region_held_drew (S := (fun w' => Below W0.heap.size W0 w')) (by kernel_rfl) HS0.out (fun hH => ?_)
        refine wpAnyH_take (i := 0) (oi := _) (v := ?_) rfl (by kernel_rfl) (by kernel_rfl) (by kernel_rfl) (fun _ _ _ h => h) (Or.inl ⟨by rfl, ?_⟩) (by assumption) ?_
        rotate_left
        · (intro w hSw; have s0 := cell_kept hSw a0; have s1 := cell_kept hSw a1; have s2 := cell_kept hSw a2; have s3 := cell_kept hSw a3; have s4 := cell_kept hSw a4; have r0 := cell_kept hSw d0; have r1 := cell_kept hSw d1; have r2 := cell_kept hSw d2; have r3 := cell_kept hSw d3; have r4 := cell_kept hSw d4; go_simp; try with_reducible rfl)
        try simp only [Act.put, List.getElem_toArray, List.getElem_cons_zero, List.setIfInBounds_toArray, List.set_cons_zero, List.set_cons_succ]
        refine wpAnyH_take (i := 1) (oi := _) (v := ?_) rfl (by kernel_rfl) (by kernel_rfl) (by kernel_rfl) (fun _ _ _ h => h) (Or.inl ⟨by rfl, ?_⟩) (by assumption) ?_
        rotate_left
        · (intro w hSw; have s0 := cell_kept hSw a0; have s1 := cell_kept hSw a1; have s2 := cell_kept hSw a2; have s3 := cell_kept hSw a3; have s4 := cell_kept hSw a4; have r0 := cell_kept hSw d0; have r1 := cell_kept hSw d1; have r2 := cell_kept hSw d2; have r3 := cell_kept hSw d3; have r4 := cell_kept hSw d4; go_simp; try with_reducible rfl)
        try simp only [Act.put, List.getElem_toArray, List.getElem_cons_zero, List.getElem_cons_succ, List.setIfInBounds_toArray, List.set_cons_zero, List.set_cons_succ]
        refine wpAnyH_take (i := 2) (oi := _) (v := ?_) rfl (by kernel_rfl) (by kernel_rfl) (by kernel_rfl) (fun _ _ _ h => h) (Or.inl ⟨by rfl, ?_⟩) (by assumption) ?_
        rotate_left
        · (intro w hSw; have s0 := cell_kept hSw a0; have s1 := cell_kept hSw a1; have s2 := cell_kept hSw a2; have s3 := cell_kept hSw a3; have s4 := cell_kept hSw a4; have r0 := cell_kept hSw d0; have r1 := cell_kept hSw d1; have r2 := cell_kept hSw d2; have r3 := cell_kept hSw d3; have r4 := cell_kept hSw d4; go_simp; try with_reducible rfl)
        try simp only [Act.put, List.getElem_toArray, List.getElem_cons_zero, List.getElem_cons_succ, List.setIfInBounds_toArray, List.set_cons_zero, List.set_cons_succ]
        first | refine wpAnyH_take (i := 3) (oi := _) (v := undef) rfl (by kernel_rfl) (by kernel_rfl) (by kernel_rfl) (fun _ _ _ h => h) (Or.inr ⟨by rfl, rfl⟩) (by assumption) ?_ | (refine wpAnyH_ready (rs := [3]) (by kernel_rfl) (by simp) ?_; refine AllReadyH.cons rfl (fun K hK => ?_) (AllReadyH.nil); rw [if_neg (by decide)]; refine hK.out _ _ (by assumption) (fun hHeld => ?_))
        try simp only [Act.put, List.getElem_toArray, List.getElem_cons_zero, List.getElem_cons_succ, List.setIfInBounds_toArray, List.set_cons_zero, List.set_cons_succ]
        first | refine wpAnyH_take (i := 4) (oi := _) (v := undef) rfl (by kernel_rfl) (by kernel_rfl) (by kernel_rfl) (fun _ _ _ h => h) (Or.inr ⟨by rfl, rfl⟩) (by assumption) ?_ | (refine wpAnyH_ready (rs := [4]) (by kernel_rfl) (by simp) ?_; refine AllReadyH.cons rfl (fun K hK => ?_) (AllReadyH.nil); rw [if_neg (by decide)]; refine hK.out _ _ (by assumption) (fun hHeld => ?_))
        try simp only [Act.put, List.getElem_toArray, List.getElem_cons_zero, List.getElem_cons_succ, List.setIfInBounds_toArray, List.set_cons_zero, List.set_cons_succ]
        first | refine wpAnyH_take (i := 5) (oi := _) (v := undef) rfl (by kernel_rfl) (by kernel_rfl) (by kernel_rfl) (fun _ _ _ h => h) (Or.inr ⟨by rfl, rfl⟩) (by assumption) ?_ | (refine wpAnyH_ready (rs := [5]) (by kernel_rfl) (by simp) ?_; refine AllReadyH.cons rfl (fun K hK => ?_) (AllReadyH.nil); rw [if_neg (by decide)]; refine hK.out _ _ (by assumption) (fun hHeld => ?_))
        try simp only [Act.put, List.getElem_toArray, List.getElem_cons_zero, List.getElem_cons_succ, List.setIfInBounds_toArray, List.set_cons_zero, List.set_cons_succ]
        first | refine wpAnyH_take (i := 6) (oi := _) (v := undef) rfl (by kernel_rfl) (by kernel_rfl) (by kernel_rfl) (fun _ _ _ h => h) (Or.inr ⟨by rfl, rfl⟩) (by assumption) ?_ | (refine wpAnyH_ready (rs := [6]) (by kernel_rfl) (by simp) ?_; refine AllReadyH.cons rfl (fun K hK => ?_) (AllReadyH.nil); rw [if_neg (by decide)]; refine hK.out _ _ (by assumption) (fun hHeld => ?_))
        try simp only [Act.put, List.getElem_toArray, List.getElem_cons_zero, List.getElem_cons_succ, List.setIfInBounds_toArray, List.set_cons_zero, List.set_cons_succ]
        first | refine wpAnyH_take (i := 7) (oi := _) (v := undef) rfl (by kernel_rfl) (by kernel_rfl) (by kernel_rfl) (fun _ _ _ h => h) (Or.inr ⟨by rfl, rfl⟩) (by assumption) ?_ | (refine wpAnyH_ready (rs := [7]) (by kernel_rfl) (by simp) ?_; refine AllReadyH.cons rfl (fun K hK => ?_) (AllReadyH.nil); rw [if_neg (by decide)]; refine hK.out _ _ (by assumption) (fun hHeld => ?_))
        try simp only [Act.put, List.getElem_toArray, List.getElem_cons_zero, List.getElem_cons_succ, List.setIfInBounds_toArray, List.set_cons_zero, List.set_cons_succ]
        first | refine wpAnyH_take (i := 8) (oi := _) (v := undef) rfl (by kernel_rfl) (by kernel_rfl) (by kernel_rfl) (fun _ _ _ h => h) (Or.inr ⟨by rfl, rfl⟩) (by assumption) ?_ | (refine wpAnyH_ready (rs := [8]) (by kernel_rfl) (by simp) ?_; refine AllReadyH.cons rfl (fun K hK => ?_) (AllReadyH.nil); rw [if_neg (by decide)]; refine hK.out _ _ (by assumption) (fun hHeld => ?_))
        try simp only [Act.put, List.getElem_toArray, List.getElem_cons_zero, List.getElem_cons_succ, List.setIfInBounds_toArray, List.set_cons_zero, List.set_cons_succ]
        refine wpAnyH_take (i := 9) (oi := _) (v := ?_) rfl (by kernel_rfl) (by kernel_rfl) (by kernel_rfl) (fun _ _ _ h => h) (Or.inl ⟨by rfl, ?_⟩) (by assumption) ?_
        rotate_left
        · (intro w hSw; have s0 := cell_kept hSw a0; have s1 := cell_kept hSw a1; have s2 := cell_kept hSw a2; have s3 := cell_kept hSw a3; have s4 := cell_kept hSw a4; have r0 := cell_kept hSw d0; have r1 := cell_kept hSw d1; have r2 := cell_kept hSw d2; have r3 := cell_kept hSw d3; have r4 := cell_kept hSw d4; go_simp; try with_reducible rfl)
        try simp only [Act.put, List.getElem_toArray, List.getElem_cons_zero, List.getElem_cons_succ, List.setIfInBounds_toArray, List.set_cons_zero, List.set_cons_succ]
        refine wpAnyH_done (by kernel_rfl) ?_ _
        have HO1 := Lib.hid (show wr.drew.ownsRow W0.heap.size _ _ _ _ _ from HO.out)
        generalize wr.drew = Wd at HS0 HO1 ⊢
        have e0 := cell_kept HS0.out d0
        have e1 := cell_kept HS0.out d1
        have e2 := cell_kept HS0.out d2
        have e3 := cell_kept HS0.out d3
        have e4 := cell_kept HS0.out d4
        clear a0 a1 a2 a3 a4 d0 d1 d2 d3 d4
        go_wp2_with (at_builtin; refine wpList_append_cmds rfl _ _ rfl W0.heap.size _ acc rfl (World.ownsRow.alloc (show Wd.ownsRow W0.heap.size _ _ _ _ _ from HO1.out) _) _ _ _ [(⟨q, fk', fv', tk', tv'⟩ : Cmd)] rfl (cmds_lit Wd (⟨q, fk', fv', tk', tv'⟩ : Cmd)) (by have := HAL.out; have := HCL.out; simp; omega) (by have := HS0.out.size; simp; omega) ?_; intro v4 w4 ho4 hg4; have HB4 := Lib.hid ((HS0.out.alloc HS0.out.size _).grown hg4 (by have := HS0.out.size; simp; omega) (fun k e => (HO1.out.lt k e).1)); clear hg4)
        go_roundw
        case rel => exact ⟨n + 1, _, true, rfl, by go_num, by have := HLT.out; have := HE.out; omega, ho4, HM2, HB4⟩
        case measure => have := HLT.out; simp [intOf]; omega
      | false =>
        go_upto_region 6 with (fail)
        refine wp_region_held_drew (S := (fun w' => Below W0.heap.size W0 w')) (by kernel_rfl) HS0.out (fun hH => ?_)
        refine wpAnyH_take (i := 0) (oi := _) (v := ?_) rfl (by kernel_rfl) (by kernel_rfl) (by kernel_rfl) (fun _ _ _ h => h) (Or.inl ⟨by rfl, ?_⟩) (by assumption) ?_
        rotate_left
        · (intro w hSw; have s0 := cell_kept hSw a0; have s1 := cell_kept hSw a1; have s2 := cell_kept hSw a2; have s3 := cell_kept hSw a3; have s4 := cell_kept hSw a4; have r0 := cell_kept hSw d0; have r1 := cell_kept hSw d1; have r2 := cell_kept hSw d2; have r3 := cell_kept hSw d3; have r4 := cell_kept hSw d4; go_simp; try with_reducible rfl)
        try simp only [Act.put, List.getElem_toArray, List.getElem_cons_zero, List.setIfInBounds_toArray, List.set_cons_zero, List.set_cons_succ]
        refine wpAnyH_take (i := 1) (oi := _) (v := ?_) rfl (by kernel_rfl) (by kernel_rfl) (by kernel_rfl) (fun _ _ _ h => h) (Or.inl ⟨by rfl, ?_⟩) (by assumption) ?_
        rotate_left
        · (intro w hSw; have s0 := cell_kept hSw a0; have s1 := cell_kept hSw a1; have s2 := cell_kept hSw a2; have s3 := cell_kept hSw a3; have s4 := cell_kept hSw a4; have r0 := cell_kept hSw d0; have r1 := cell_kept hSw d1; have r2 := cell_kept hSw d2; have r3 := cell_kept hSw d3; have r4 := cell_kept hSw d4; go_simp; try with_reducible rfl)
        try simp only [Act.put, List.getElem_toArray, List.getElem_cons_zero, List.getElem_cons_succ, List.setIfInBounds_toArray, List.set_cons_zero, List.set_cons_succ]
        refine wpAnyH_take (i := 2) (oi := _) (v := ?_) rfl (by kernel_rfl) (by kernel_rfl) (by kernel_rfl) (fun _ _ _ h => h) (Or.inl ⟨by rfl, ?_⟩) (by assumption) ?_
        rotate_left
        · (intro w hSw; have s0 := cell_kept hSw a0; have s1 := cell_kept hSw a1; have s2 := cell_kept hSw a2; have s3 := cell_kept hSw a3; have s4 := cell_kept hSw a4; have r0 := cell_kept hSw d0; have r1 := cell_kept hSw d1; have r2 := cell_kept hSw d2; have r3 := cell_kept hSw d3; have r4 := cell_kept hSw d4; go_simp; try with_reducible rfl)
        try simp only [Act.put, List.getElem_toArray, List.getElem_cons_zero, List.getElem_cons_succ, List.setIfInBounds_toArray, List.set_cons_zero, List.set_cons_succ]
        refine wpAnyH_take (i := 3) (oi := _) (v := ?_) rfl (by kernel_rfl) (by kernel_rfl) (by kernel_rfl) (fun _ _ _ h => h) (Or.inl ⟨by rfl, ?_⟩) (by assumption) ?_
        rotate_left
        · (intro w hSw; have s0 := cell_kept hSw a0; have s1 := cell_kept hSw a1; have s2 := cell_kept hSw a2; have s3 := cell_kept hSw a3; have s4 := cell_kept hSw a4; have r0 := cell_kept hSw d0; have r1 := cell_kept hSw d1; have r2 := cell_kept hSw d2; have r3 := cell_kept hSw d3; have r4 := cell_kept hSw d4; go_simp; try with_reducible rfl)
        try simp only [Act.put, List.getElem_toArray, List.getElem_cons_zero, List.getElem_cons_succ, List.setIfInBounds_toArray, List.set_cons_zero, List.set_cons_succ]
        refine wpAnyH_take (i := 4) (oi := _) (v := ?_) rfl (by kernel_rfl) (by kernel_rfl) (by kernel_rfl) (fun _ _ _ h => h) (Or.inl ⟨by rfl, ?_⟩) (by assumption) ?_
        rotate_left
        · (intro w hSw; have s0 := cell_kept hSw a0; have s1 := cell_kept hSw a1; have s2 := cell_kept hSw a2; have s3 := cell_kept hSw a3; have s4 := cell_kept hSw a4; have r0 := cell_kept hSw d0; have r1 := cell_kept hSw d1; have r2 := cell_kept hSw d2; have r3 := cell_kept hSw d3; have r4 := cell_kept hSw d4; go_simp; try with_reducible rfl)
        try simp only [Act.put, List.getElem_toArray, List.getElem_cons_zero, List.getElem_cons_succ, List.setIfInBounds_toArray, List.set_cons_zero, List.set_cons_succ]
        refine wpAnyH_take (i := 5) (oi := _) (v := ?_) rfl (by kernel_rfl) (by kernel_rfl) (by kernel_rfl) (fun _ _ _ h => h) (Or.inl ⟨by rfl, ?_⟩) (by assumption) ?_
        rotate_left
        · (intro w hSw; have s0 := cell_kept hSw a0; have s1 := cell_kept hSw a1; have s2 := cell_kept hSw a2; have s3 := cell_kept hSw a3; have s4 := cell_kept hSw a4; have r0 := cell_kept hSw d0; have r1 := cell_kept hSw d1; have r2 := cell_kept hSw d2; have r3 := cell_kept hSw d3; have r4 := cell_kept hSw d4; go_simp; try with_reducible rfl)
        try simp only [Act.put, List.getElem_toArray, List.getElem_cons_zero, List.getElem_cons_succ, List.setIfInBounds_toArray, List.set_cons_zero, List.set_cons_succ]
        refine wpAnyH_take (i := 6) (oi := _) (v := ?_) rfl (by kernel_rfl) (by kernel_rfl) (by kernel_rfl) (fun _ _ _ h => h) (Or.inl ⟨by rfl, ?_⟩) (by assumption) ?_
        rotate_left
        · (intro w hSw; have s0 := cell_kept hSw a0; have s1 := cell_kept hSw a1; have s2 := cell_kept hSw a2; have s3 := cell_kept hSw a3; have s4 := cell_kept hSw a4; have r0 := cell_kept hSw d0; have r1 := cell_kept hSw d1; have r2 := cell_kept hSw d2; have r3 := cell_kept hSw d3; have r4 := cell_kept hSw d4; go_simp; try with_reducible rfl)
        try simp only [Act.put, List.getElem_toArray, List.getElem_cons_zero, List.getElem_cons_succ, List.setIfInBounds_toArray, List.set_cons_zero, List.set_cons_succ]
        refine wpAnyH_take (i := 7) (oi := _) (v := ?_) rfl (by kernel_rfl) (by kernel_rfl) (by kernel_rfl) (fun _ _ _ h => h) (Or.inl ⟨by rfl, ?_⟩) (by assumption) ?_
        rotate_left
        · (intro w hSw; have s0 := cell_kept hSw a0; have s1 := cell_kept hSw a1; have s2 := cell_kept hSw a2; have s3 := cell_kept hSw a3; have s4 := cell_kept hSw a4; have r0 := cell_kept hSw d0; have r1 := cell_kept hSw d1; have r2 := cell_kept hSw d2; have r3 := cell_kept hSw d3; have r4 := cell_kept hSw d4; go_simp; try with_reducible rfl)
        try simp only [Act.put, List.getElem_toArray, List.getElem_cons_zero, List.getElem_cons_succ, List.setIfInBounds_toArray, List.set_cons_zero, List.set_cons_succ]
        refine wpAnyH_ready (rs := [8]) (by kernel_rfl) (by simp) ?_
        refine AllReadyH.cons rfl (fun K hK => ?_) (AllReadyH.nil)
        go_simp
        go_at_call 92; (with_reducible refine (HBF.out _).mono ?_); rintro e WA ⟨rfl, hbA⟩
        refine hK.out _ _ (below_next HS0.out hbA) (fun hHeld => ?_)
        try simp only [Act.put, List.getElem_toArray, List.getElem_cons_zero, List.getElem_cons_succ, List.setIfInBounds_toArray, List.set_cons_zero, List.set_cons_succ]
        refine wpAnyH_take (i := 9) (oi := _) (v := ?_) rfl (by kernel_rfl) (by kernel_rfl) (by kernel_rfl) (fun _ _ _ h => h) (Or.inl ⟨by rfl, ?_⟩) (by assumption) ?_
        rotate_left
        · (intro w hSw; have s0 := cell_kept hSw a0; have s1 := cell_kept hSw a1; have s2 := cell_kept hSw a2; have s3 := cell_kept hSw a3; have s4 := cell_kept hSw a4; have r0 := cell_kept hSw d0; have r1 := cell_kept hSw d1; have r2 := cell_kept hSw d2; have r3 := cell_kept hSw d3; have r4 := cell_kept hSw d4; go_simp; try with_reducible rfl)
        try simp only [Act.put, List.getElem_toArray, List.getElem_cons_zero, List.getElem_cons_succ, List.setIfInBounds_toArray, List.set_cons_zero, List.set_cons_succ]
        refine wpAnyH_done (by kernel_rfl) ?_ _
        have HBA := Lib.hid (below_next HS0.out hbA)
        have HOA := Lib.hid (own_below (show wr.drew.ownsRow W0.heap.size _ _ _ _ _ from HO.out) hbA)
        have e0 := cell_kept HBA.out d0
        have e1 := cell_kept HBA.out d1
        have e2 := cell_kept HBA.out d2
        have e3 := cell_kept HBA.out d3
        have e4 := cell_kept HBA.out d4
        have g0 := cell_kept HBA.out a0
        have g1 := cell_kept HBA.out a1
        have g2 := cell_kept HBA.out a2
        have g3 := cell_kept HBA.out a3
        have g4 := cell_kept HBA.out a4
        clear a0 a1 a2 a3 a4 hbA
        cases bb with
        | false =>
          have HM2 := Lib.hid (put_mid_no HD.out HM.out HBB.out)
          clear d0 d1 d2 d3 d4
          go_wp2_with (at_builtin; refine wpList_append_cmds rfl _ _ rfl W0.heap.size _ acc rfl (World.ownsRow.alloc (show WA.ownsRow W0.heap.size _ _ _ _ _ from HOA.out) _) _ _ _ [(⟨q, fk', fv', tk', tv'⟩ : Cmd)] rfl (cmds_lit WA (⟨q, fk', fv', tk', tv'⟩ : Cmd)) (by have := HAL.out; have := HCL.out; simp; omega) (by have := HBA.out.size; simp; omega) ?_; intro v4 w4 ho4 hg4; have HB4 := Lib.hid ((HBA.out.alloc HBA.out.size _).grown hg4 (by have := HBA.out.size; simp; omega) (fun k e => (HOA.out.lt k e).1)); clear hg4)
          go_roundw
          case rel => exact ⟨n + 1, _, false, rfl, by go_num, by have := HLT.out; have := HE.out; omega, ho4, HM2, HB4⟩
          case measure => have := HLT.out; simp [intOf]; omega
        | true =>
          have HM2 := Lib.hid (put_mid_now HD.out HM.out HBB.out)
          go_wp2_with (first | (at_builtin; refine wpList_append_cmds rfl _ _ rfl W0.heap.size _ acc rfl (World.ownsRow.alloc (show WA.ownsRow W0.heap.size _ _ _ _ _ from HOA.out) _) _ _ _ [(⟨p, fk, fv, tk, tv⟩ : Cmd)] rfl (cmds_lit WA (⟨p, fk, fv, tk, tv⟩ : Cmd)) (by have := HAL.out; have := HCL.out; simp; omega) (by have := HBA.out.size; simp; omega) ?_; intro v4 w4 ho4 hg4; have HB4 := Lib.hid ((HBA.out.alloc HBA.out.size _).grown hg4 (by have := HBA.out.size; simp; omega) (fun k e => (HOA.out.lt k e).1)); have HO4 := Lib.hid ho4; clear hg4 ho4 e0 e1 e2 e3 e4 g0 g1 g2 g3 g4; have e0 := cell_kept HB4.out d0; have e1 := cell_kept HB4.out d1; have e2 := cell_kept HB4.out d2; have e3 := cell_kept HB4.out d3; have e4 := cell_kept HB4.out d4) | (at_builtin; refine wpList_append_cmds rfl _ _ rfl W0.heap.size _ (acc ++ [(⟨p, fk, fv, tk, tv⟩ : Cmd)]) rfl (World.ownsRow.alloc (show w4.ownsRow W0.heap.size _ _ _ _ _ from HO4.out) _) _ _ _ [(⟨q, fk', fv', tk', tv'⟩ : Cmd)] rfl (cmds_lit w4 (⟨q, fk', fv', tk', tv'⟩ : Cmd)) (by have := HAL.out; have := HCL.out; simp; omega) (by have := HB4.out.size; simp; omega) ?_; intro v5 w5 ho5 hg5; have HB5 := Lib.hid ((HB4.out.alloc HB4.out.size _).grown hg5 (by have := HB4.out.size; simp; omega) (fun k e => (HO4.out.lt k e).1)); clear hg5))
          go_roundw
          case rel => exact ⟨n + 1, _, true, rfl, by go_num, by have := HLT.out; have := HE.out; omega, ho5, HM2, HB5⟩
          case measure => have := HLT.out; simp [intOf]; omega
    · have hge : (len : Int) ≤ n := by omega
      have hie : n = cs.length := by have := HE.out; omega
      subst hie
      clear hn hlt hown
      cases dn with
      | true =>
        have HX := Lib.hid (put_end_yes HM.out)
        go_wp2
        go_ret
        exact ⟨⟨_, rfl, by rw [← HX.out]; exact own_mono HO.out HB0.out.size⟩, HB0.out.trans (HB.out.mono HB0.out.size)⟩
      | false =>
        have HX := Lib.hid (put_end_no HM.out)
        have g0 := cell_kept HB.out a0
        have g1 := cell_kept HB.out a1
        have g2 := cell_kept HB.out a2
        have g3 := cell_kept HB.out a3
        have g4 := cell_kept HB.out a4
        clear a0 a1 a2 a3 a4
        go_wp2_with (at_builtin; refine wpList_append_cmds rfl _ _ rfl W0.heap.size _ acc rfl (World.ownsRow.alloc (show wr.ownsRow W0.heap.size _ _ _ _ _ from HO.out) _) _ _ _ [(⟨p, fk, fv, tk, tv⟩ : Cmd)] rfl (cmds_lit wr (⟨p, fk, fv, tk, tv⟩ : Cmd)) (by have := HAL.out; have := HCL.out; simp; omega) (by have := HB.out.size; simp; omega) ?_; intro v4 w4 ho4 hg4; have HB4 := Lib.hid ((HB.out.alloc HB.out.size _).grown hg4 (by have := HB.out.size; simp; omega) (fun k e => (HO.out.lt k e).1)); clear hg4)
        go_ret
        exact ⟨⟨_, rfl, by rw [← HX.out]; exact own_mono ho4 HB0.out.size⟩, HB0.out.trans (HB4.out.mono HB0.out.size)⟩

set_option maxHeartbeats 2000000 in
set_option maxRecDepth 100000 in
theorem specSort_c (a : Option Addr) (len cap : Nat) (cs : List Cmd) (hl : len ≤ 2000000) (W : World) (hN : CmdsAt W a len cs) :
    Calls Tryz.prog 39 #[.slice a len cap] W (CmdsPost (sortK cs) W) := by
  have HN := Lib.hid hN
  have HE := Lib.hid hN.1
  have HL := Lib.hid hl
  have hl' : (len : Int) ≤ 2000000 := by omega
  have HP := Lib.hid (fun a len cap cs c h W hN => specPut_c a len cap cs c h W hN)
  clear hN hl
  go_enter Tryz.func39, Tryz.ntmps39
  go_wp2
  go_loopw [3, 4] (fun o i wr => ∃ n : Nat, i = .int .i64 n ∧ n ≤ len ∧ wr.ownsRow W.heap.size 45 5 o (sortMid cs n).length (flatC (sortMid cs n)) ∧ Hid (Below W.heap.size W wr)) (fun _ i _ => len - (intOf i).toNat)
  case atStart => exact ⟨0, rfl, Nat.zero_le _, World.ownsRow_lit (e := 45) (size := 5) W #[] 0 (Nat.le_refl _) (by simp [maxLen]) rfl, below_box _ _⟩
  case round =>
    obtain ⟨n, rfl, hn, hown, HB⟩ := hrel
    by_cases hlt : n < len
    · have hlt' : (n : Int) < len := by omega
      have hw1 : IntKind.i64.wrap ((n : Int) + 1) = (n : Int) + 1 := IntWalk.i64_in _ (by omega)
      have HLT := Lib.hid hlt
      obtain ⟨b, off, d, rfl, hd, d0, d1, d2, d3, d4⟩ := (HN.out.keep HB.out).node hlt
      have HS := Lib.hid (sort_next hd)
      obtain ⟨ao, co, rfl, hco⟩ := cmds_of_own hown
      have HPP := Lib.hid (HP.out ao (sortMid cs n).length co (sortMid cs n) d (by have := sort_mid_len cs n; have := HL.out; omega) wr hco)
      obtain ⟨q, fk', fv', tk', tv'⟩ := d
      unfold cmdV at HPP
      simp only at d0 d1 d2 d3 d4 HPP
      clear hn hlt hd hown hco
      go_wp2_with fail
      refine HPP.out.mono ?_
      rintro e W2 ⟨⟨sl, rfl, ho⟩, hb2⟩
      have HO := Lib.hid (own_mono ho HB.out.size)
      have HB2 := Lib.hid (below_next HB.out hb2)
      clear ho hb2 d0 d1 d2 d3 d4
      rw [← HS.out] at HO
      go_wp2
      go_roundw
      case rel => exact ⟨n + 1, by go_num, by have := HLT.out; omega, HO.out, HB2⟩
      case measure => have := HLT.out; simp [intOf]; omega
    · have hge : (len : Int) ≤ n := by omega
      have hie : n = cs.length := by have := HE.out; omega
      subst hie
      have HX := Lib.hid (sort_mid_all cs)
      have HO := Lib.hid hown
      clear hn hlt hown
      go_wp2
      go_ret
      exact ⟨⟨_, rfl, by rw [← HX.out]; exact HO.out⟩, HB.out⟩

end Go.Proofs.YtnboodcllmdjeaaGreatDoor

/-
  WALKS: canonical logs of the model, third part: spec.CanonValid.
-/
namespace Go.Proofs.YtnboodcllmdjeaaGreatDoor
open Go.RowKit
end Go.Proofs.YtnboodcllmdjeaaGreatDoor

/-
  WALKS: canonical logs of the model, fourth part: spec.LogCanon, CanonJoin.
-/
namespace Go.Proofs.YtnboodcllmdjeaaGreatDoor
open Go.RowKit
set_option linter.unusedVariables false

def CanRel (cs : List Cmd) (W : World) (o i : Value) (wr : World) : Prop :=
  ∃ (n : Nat) (out : List Cmd), i = .int .i64 n ∧ n ≤ cs.length ∧ wr.ownsRow W.heap.size 45 5 o out.length (flatC out) ∧ Hid (midK cs n = some out) ∧ Hid (Below W.heap.size W wr)

def ChRel (cs : List Cmd) (W : World) (c : Cmd) (n X : Nat) (o : Value) (out : List Cmd) (k : Value) (wr : World) : Prop :=
  ∃ (m : Nat) (d : Cmd), k = .int .i64 m ∧ m ≤ cs.length ∧ d.p = c.p ∧ Hid (Five wr X (.string d.p) (.int .i64 d.fk) (.int .i64 d.fv) (.int .i64 d.tk) (.int .i64 d.tv)) ∧ Hid (chainK c (cs.drop (n + 1)) = chainK d (cs.drop m)) ∧ Hid (wr.ownsRow W.heap.size 45 5 o out.length (flatC out)) ∧ Hid (Below W.heap.size W wr)

theorem own_away {W : World} {base : Nat} {e : TypeId} {size n : Nat} {v : Value} {xs : List Value} (h : W.ownsRow base e size v n xs) {X : Nat} (hX : ∀ k, v.ownBlock = some k → k < X) (o : Nat) (u : Value) : (W.setCell ⟨X, o, none⟩ u).ownsRow base e size v n xs := by
  refine h.kept (row := some X) ⟨rfl, rfl, rfl, by simp [World.setCell], fun k _ hk => Below.heap_setCell _ _ _ _ (fun e => hk (by rw [e]))⟩ ?_
  cases hv : v.ownBlock with
  | none => exact .inl rfl
  | some k => right; exact fun e => by have := hX k hv; cases e; omega

end Go.Proofs.YtnboodcllmdjeaaGreatDoor

/-
  WALKS: canonical logs of the model, fifth part: spec.CanonDiff.
-/
namespace Go.Proofs.YtnboodcllmdjeaaGreatDoor
open Go.RowKit
set_option linter.unusedVariables false

theorem append_where5 {P : Program} {w w' : World} {base n m c : Nat} {t ty e : TypeId} {i : TypeInfo} {z v v' : Value} {xs news : List Value} {a : Addr} (ht : P.underlying t = some (.slice e)) (hi : P.info? e = some i) (hz : i.zero = some z) (hs1 : i.size = 5)
    (hown : w.ownsRow base e 5 v n xs) (hl : news.length = m * 5) (hnews : ∀ j u, news[j]? = some u → w.cell? (a.add j) = some u) (h1 : ∀ u ∈ news, u.oneCell' = true) (h63 : n + m ≤ maxLen) (hbytes : (n + m) * i.bytes ≤ 140737488355328)
    (hr : (Builtin.append_ #[t, t] ty #[v, .slice (some a) m c]).run P w = .ok v' w') (h4 : v' = .slice none 0 0 ↔ v = .slice none 0 0 ∧ m = 0) : SameOrNew w v v' := by
  intro k hk
  have h63' : n + m ≤ 9223372036854775807 := by unfold maxLen at h63; omega
  rcases hown.2 with ⟨rfl, rfl⟩ | ⟨g, cap, cur, rfl, hbg, hg, hnc, hcm, hcs, htake⟩
  · by_cases hm : m = 0
    · rw [h4.2 ⟨rfl, hm⟩] at hk; cases hk
    · have hr2 := run_append_nil (P := P) w t ty e i z ht hi hz a m c news (by rw [hs1]; exact hl) hnews (by omega) (by omega) (by
        rw [Nat.zero_add] at hbytes; omega)
      rw [hr] at hr2
      injection hr2 with e1 _
      rw [e1] at hk
      simp [Value.ownBlock] at hk
      exact .inr (by omega)
  · by_cases hroom : n + m ≤ cap
    · have hr2 := run_append_room (P := P) w t ty e i ht hi g n cap cur hg a m c news (by rw [hs1]; exact hl) hnews h1 hroom (by rw [hs1, hl, hcs]; omega)
      rw [hr] at hr2
      injection hr2 with e1 _
      rw [e1] at hk
      exact .inl hk
    · have hr2 := run_append_grow (P := P) w t ty e i z ht hi hz ⟨g, 0, none⟩ n cap xs (by rw [hs1]; exact hown.1) (hown.cells (g := g) rfl) a m c news (by rw [hs1]; exact hl) hnews (by omega) (by omega) (growslice_fits (by omega) hbytes)
      rw [hr] at hr2
      injection hr2 with e1 _
      rw [e1] at hk
      simp [Value.ownBlock] at hk
      exact .inr (by omega)

theorem wp_append_where5 {P : Program} {w : World} {o : Oper} {a : Act} {K : Act → World → Prop} {Q : Exit → Act → World → Prop} (s x : Operand) (t : TypeId)
    (ho : o.op = .call { callee := .builtin .append, args := #[s, x], argTypes := #[t, t] })
    (base : Nat) (e : TypeId) (i : TypeInfo) (z : Value) (bytes : Nat) (ht : P.underlying t = some (.slice e)) (hi : P.info? e = some i) (hz : i.zero = some z)
    (hsize : i.size = 5) (hby : i.bytes = bytes) (hzs : z.cells.size = 5)
    (v : Value) (n : Nat) (xs : List Value) (hs : a.eval s = v) (hown : w.ownsRow base e 5 v n xs)
    (ad : Addr) (m c : Nat) (news : List Value) (hx : a.eval x = .slice (some ad) m c) (hl : news.length = m * 5) (hnews : ∀ j u, news[j]? = some u → w.cell? (ad.add j) = some u) (h1 : ∀ u ∈ news, u.oneCell' = true)
    (h63 : n + m ≤ maxLen) (hbytes : (n + m) * bytes ≤ 140737488355328) (hbase : base ≤ w.heap.size)
    (h : ∀ v' w', w'.ownsRow base e 5 v' (n + m) (xs ++ news) → w.grownBy w' v.ownBlock → SameOrNew w v v' → K (a.put o.dst v') w') : o.wp P a w K Q := by
  obtain ⟨v', w', hr, h2, h3, h4⟩ := run_append_own (P := P) w base t o.type e i z 5 bytes ht hi hz hsize hby hzs (by decide) v n xs hown ad m c news hl hnews h1 h63 hbytes hbase
  have h5 := append_where5 ht hi hz hsize hown hl hnews h1 h63 (by rw [hby]; exact hbytes) hr h4
  unfold Oper.wp execOp
  simp only [ho, resolve, invoke, builtin, Sem.run_bind, Sem.run_pure, Result.andThen_ok, List.map_toArray, List.map_cons, List.map_nil, hs, hx, hr]
  exact h v' w' h2 h3 h5

theorem TextsAt.drew2 {W : World} {a : Option Addr} {len : Nat} {xs : List ByteArray} (h : TextsAt W a len xs) : TextsAt W.drew a len xs := h

/-- No block of the texts is this one. -/
def FarT (a : Option Addr) (len : Nat) (v : Value) : Prop := ∀ k, v.ownBlock = some k → ∀ b off, a = some ⟨b, off, none⟩ → len ≠ 0 → k ≠ b

theorem texts_far {W W' : World} {a : Option Addr} {len : Nat} {xs : List ByteArray} {v : Value} (h : TextsAt W a len xs) (hg : W.grownBy W' v.ownBlock) (hf : FarT a len v) : TextsAt W' a len xs := by
  obtain ⟨h1, h0 | ⟨b, off, ha, hc⟩⟩ := h
  · exact ⟨h1, .inl h0⟩
  · by_cases h0 : len = 0
    · exact ⟨h1, .inl h0⟩
    · refine ⟨h1, .inr ⟨b, off, ha, fun i x hx => ?_⟩⟩
      have hcell := hc i x hx
      have hlt := World.block_lt_of_cell? W _ hcell
      exact (World.cell?_of_block (hg.block b hlt (fun e => hf b e.symm b off ha h0 rfl))).trans hcell

theorem away_next {w : World} {a : Option Addr} {len : Nat} {v v' : Value} (h : FarT a len v) (hn : SameOrNew w v v') (hb : ∀ b off, a = some ⟨b, off, none⟩ → len ≠ 0 → b < w.heap.size) : FarT a len v' := by
  intro k hk b off ha h0 e
  rcases hn k hk with h1 | h1
  · exact h k h1 b off ha h0 e
  · have := hb b off ha h0; omega

def dfAcc (ns ms : List Nd) (n : Nat) : List Cmd := ((chgL ns ms).take n).map (diffC ns ms)

theorem df_next {ns ms : List Nd} {n : Nat} {q : ByteArray} (h : (chgL ns ms)[n]? = some q) : dfAcc ns ms (n + 1) = dfAcc ns ms n ++ [diffC ns ms q] := by
  unfold dfAcc
  rw [take_push h, List.map_append]
  rfl

theorem df_len {ns ms : List Nd} (h1 : validT ns = true) (h2 : validT ms = true) (n : Nat) : (dfAcc ns ms n).length ≤ 20 := by
  unfold dfAcc
  rw [List.length_map, List.length_take]
  have := chg_bound h1 h2
  omega

theorem texts_lt {W : World} {a : Option Addr} {len : Nat} {xs : List ByteArray} (h : TextsAt W a len xs) : ∀ b off, a = some ⟨b, off, none⟩ → len ≠ 0 → b < W.heap.size := by
  intro b off ha h0
  obtain ⟨b', off', x, ha', _, hc⟩ := h.node (i := 0) (by omega)
  rw [ha] at ha'
  cases ha'
  exact World.block_lt_of_cell? W _ hc

end Go.Proofs.YtnboodcllmdjeaaGreatDoor

/-
  WALKS: impl.CanonDiff.
-/
namespace Go.Proofs.YtnboodcllmdjeaaGreatDoor
open Go.RowKit
set_option linter.unusedVariables false

theorem chg_path {ns ms : List Nd} (h1 : validT ns = true) (h2 : validT ms = true) {i : Nat} {q : ByteArray} (hq : (chgL ns ms)[i]? = some q) : vpB q = true ∧ q.size ≤ 8 := by
  have hv := vp_of_depth (diff_dep h1 h2 ((chg_mem h1 h2 q).1 (List.mem_of_getElem? hq)))
  refine ⟨hv, ?_⟩
  obtain ⟨w, hw, rfl⟩ := vpB_word hv
  exact pB_size hw

theorem diff_short {ns ms : List Nd} (h1 : validT ns = true) (h2 : validT ms = true) : ShortC 2097152 (diffL ns ms) := fun c hc => by
  have := vp_of_depth (diff_dep h1 h2 ((diff_mem h1 h2 c).1 hc).1)
  obtain ⟨w, hw, e⟩ := vpB_word this
  rw [e]
  exact Nat.le_trans (pB_size hw) (by omega)

theorem df_all {ns ms : List Nd} : dfAcc ns ms (chgL ns ms).length = diffL ns ms := by
  unfold dfAcc diffL
  rw [List.take_length]

theorem canonDiff_yes {ns ms : List Nd} (h1 : validT ns = true) (h2 : validT ms = true) : canonDiff ns ms = logCanon (diffL ns ms) := by
  rw [diff_canon h1 h2]
  unfold canonDiff
  rw [h1, h2]
  rfl

def DfRel (ns ms : List Nd) (x3 : Option Addr) (W W3 : World) (o i : Value) (wr : World) : Prop :=
  ∃ n : Nat, i = .int .i64 n ∧ n ≤ (chgL ns ms).length ∧ wr.ownsRow W3.heap.size 45 5 o (dfAcc ns ms n).length (flatC (dfAcc ns ms n)) ∧ Hid (Below W3.heap.size W3 wr)

set_option maxHeartbeats 1000000 in
set_option maxRecDepth 100000 in
theorem implCanonDiff_c (a1 : Option Addr) (len1 cap1 : Nat) (ns : List Nd) (a2 : Option Addr) (len2 cap2 : Nat) (ms : List Nd) (hl1 : len1 ≤ 2097152) (hl2 : len2 ≤ 2097152) (hs1 : Short 2097152 ns) (hs2 : Short 2097152 ms) (W : World) (h1 : NodesAt W a1 len1 ns) (h2 : NodesAt W a2 len2 ms) :
    Calls Tryz.prog 15 #[.slice a1 len1 cap1, .slice a2 len2 cap2] W (MovePost (canonDiff ns ms) W) := by
  obtain ⟨v1, hv1⟩ : ∃ v, validT ns = v := ⟨_, rfl⟩
  obtain ⟨v2, hv2⟩ : ∃ v, validT ms = v := ⟨_, rfl⟩
  have HV1 := Lib.hid (show Calls Tryz.prog 26 #[.slice a1 len1 cap1] W (BoolPost v1 W) by rw [← hv1]; exact implTreeValid_c a1 len1 cap1 ns hl1 hs1 W h1)
  have HV2 := Lib.hid (fun W' (hb : Below W.heap.size W W') => show Calls Tryz.prog 26 #[.slice a2 len2 cap2] W' (BoolPost v2 W') by rw [← hv2]; exact implTreeValid_c a2 len2 cap2 ms hl2 hs2 W' (h2.keep hb))
  have HTC := Lib.hid (fun W' (hb : Below W.heap.size W W') => implTreeChanged_c a1 len1 cap1 ns a2 len2 cap2 ms hl1 hl2 hs1 hs2 W' (h1.keep hb) (h2.keep hb))
  have HG1 := Lib.hid (fun q (hq : q.size ≤ 2097152) W' (hb : Below W.heap.size W W') => implTreeGet_c a1 len1 cap1 ns q hl1 hs1 hq W' (h1.keep hb))
  have HG2 := Lib.hid (fun q (hq : q.size ≤ 2097152) W' (hb : Below W.heap.size W W') => implTreeGet_c a2 len2 cap2 ms q hl2 hs2 hq W' (h2.keep hb))
  have HW1 := Lib.hid hv1
  have HW2 := Lib.hid hv2
  clear h1 h2 hs1 hs2 hl1 hl2 hv1 hv2
  go_enter Tryz.func15, Tryz.ntmps15
  go_wp2_with fail
  refine HV1.out.mono ?_
  rintro e W1 ⟨rfl, hb1⟩
  have B1 := Lib.hid hb1
  clear hb1
  cases v1 with
  | false =>
    have HX := Lib.hid (show canonDiff ns ms = ([], false) by unfold canonDiff; rw [HW1.out]; rfl)
    go_wp2
    go_ret2
    exact move_end HX.out (World.ownsRow_nil _ _ _ _) B1.out
  | true =>
    go_wp2_with fail
    refine (HV2.out _ B1.out).mono ?_
    rintro e W2 ⟨rfl, hb2⟩
    have B2 := Lib.hid (below_next B1.out hb2)
    clear hb2
    cases v2 with
    | false =>
      have HX := Lib.hid (show canonDiff ns ms = ([], false) by unfold canonDiff; rw [HW1.out, HW2.out]; rfl)
      go_wp2
      go_ret2
      exact move_end HX.out (World.ownsRow_nil _ _ _ _) B2.out
    | true =>
      go_wp2_with fail
      refine (HTC.out _ B2.out).mono ?_
      rintro e W3 ⟨⟨s3, rfl, ho3⟩, hb3⟩
      obtain ⟨x3, p3, rfl, ht3⟩ := texts_of_own ho3
      have B3 := Lib.hid (below_next B2.out hb3)
      have HT3 := Lib.hid ht3
      have HL20 := Lib.hid (chg_bound HW1.out HW2.out)
      have HDL := Lib.hid (fun n => df_len HW1.out HW2.out n)
      obtain ⟨L, hL⟩ : ∃ L, (chgL ns ms).length = L := ⟨_, rfl⟩
      rw [hL] at HT3 ⊢
      have HLL := Lib.hid hL
      have hL20 : L ≤ 20 := by rw [← hL]; exact HL20.out
      clear ho3 hb3 ht3 hL
      go_wp2
      go_loopw [6, 21] (fun o i wr => DfRel ns ms x3 W W3 o i wr) (fun _ i _ => L - (intOf i).toNat)
      case atStart => exact ⟨0, rfl, Nat.zero_le _, World.ownsRow_nil _ _ _ _, Below.refl _ _⟩
      case round =>
        obtain ⟨n, rfl, hn, hown, HB⟩ := hrel
        have HO := Lib.hid hown
        rw [HLL.out] at hn
        clear hown
        by_cases hlt : n < L
        · have hlt' : (n : Int) < L := by omega
          obtain ⟨b, off, q, rfl, hq, y0⟩ := (HT3.out.keep HB.out).node hlt
          have HLT := Lib.hid hlt
          have HX := Lib.hid hq
          have HPQ := Lib.hid (chg_path HW1.out HW2.out hq)
          obtain ⟨k1, u1, hg1⟩ : ∃ k v, getT ns q = (k, v) := ⟨_, _, rfl⟩
          obtain ⟨k2, u2, hg2⟩ : ∃ k v, getT ms q = (k, v) := ⟨_, _, rfl⟩
          have HST := Lib.hid (show dfAcc ns ms (n + 1) = dfAcc ns ms n ++ [⟨q, k1, u1, k2, u2⟩] by rw [df_next hq]; unfold diffC; rw [hg1, hg2])
          have HGA := Lib.hid (fun W' (hb : Below W.heap.size W W') => show Calls Tryz.prog 35 #[.slice a1 len1 cap1, .string q] W' (ConRet k1 u1 W') by have := HG1.out q (by have := HPQ.out.2; omega) W' hb; rwa [treeGet_eq HW1.out HPQ.out.1, hg1] at this)
          have HGB := Lib.hid (fun W' (hb : Below W.heap.size W W') => show Calls Tryz.prog 35 #[.slice a2 len2 cap2, .string q] W' (ConRet k2 u2 W') by have := HG2.out q (by have := HPQ.out.2; omega) W' hb; rwa [treeGet_eq HW2.out HPQ.out.1, hg2] at this)
          have HBW := Lib.hid (show Below W.heap.size W wr from B3.out.trans (HB.out.mono B3.out.size))
          clear hn hlt hq hg1 hg2
          go_wp2_with fail
          refine (HGA.out _ HBW.out).mono ?_
          rintro e W4 ⟨rfl, hb4⟩
          have HO4 := Lib.hid (own_below HO.out hb4)
          have HB4 := Lib.hid (And.intro (below_next HBW.out hb4) (HB.out.trans (hb4.mono HB.out.size)))
          clear hb4 y0
          go_wp2_with fail
          refine (HGB.out _ HB4.out.1).mono ?_
          rintro e W5 ⟨rfl, hb5⟩
          have HO5 := Lib.hid (own_below HO4.out hb5)
          have HB5 := Lib.hid (HB4.out.2.trans (hb5.mono HB4.out.2.size))
          clear hb5
          unfold con
          go_wp2_with (at_builtin; refine wpList_append_cmds rfl _ _ rfl W3.heap.size _ (dfAcc ns ms n) rfl (HO5.out.alloc _) _ _ _ [(⟨q, k1, u1, k2, u2⟩ : Cmd)] rfl (cmds_lit W5 ⟨q, k1, u1, k2, u2⟩) (by have := HDL.out n; simp; omega) (by have := HB5.out.size; simp; omega) ?_; intro v6 w6 ho6 hg6)
          have HB6 := Lib.hid ((HB5.out.alloc HB5.out.size _).grown hg6 (by have := HB5.out.size; rw [World.size_alloc]; omega) (fun k e => (HO5.out.lt k e).1))
          rw [← HST.out] at ho6
          clear hg6
          go_roundw
          case rel => exact ⟨n + 1, by go_num, by have := HLT.out; have := HLL.out; omega, ho6, HB6⟩
          case measure => have := HLT.out; simp [intOf]; omega
        · have hnl : n = L := by omega
          subst hnl
          have HO9 := HO.out
          rw [show dfAcc ns ms n = diffL ns ms by rw [← HLL.out]; exact df_all] at HO9
          obtain ⟨xs, hxs⟩ : ∃ xs, diffL ns ms = xs := ⟨_, rfl⟩
          rw [hxs] at HO9
          have HXS := Lib.hid hxs
          obtain ⟨a9, cap9, rfl, hA9⟩ := cmds_of_own HO9
          obtain ⟨out, ok, hr⟩ : ∃ out ok, logCanon xs = (out, ok) := ⟨_, _, rfl⟩
          have HR := Lib.hid (show canonDiff ns ms = (out, ok) by rw [canonDiff_yes HW1.out HW2.out, hxs]; exact hr)
          have HXL : xs.length ≤ 20 := by rw [← hxs]; unfold diffL; rw [List.length_map]; exact HL20.out
          have HLC := Lib.hid (show Calls Tryz.prog 12 #[.slice a9 xs.length cap9] wr (MovePost (out, ok) wr) by
            have := logCanon_c a9 xs.length cap9 xs (by omega) (by rw [← hxs]; exact diff_short HW1.out HW2.out) wr hA9
            rwa [hr] at this)
          have HBW := Lib.hid (show Below W.heap.size W wr from B3.out.trans (HB.out.mono B3.out.size))
          clear hr hxs HXL HO9 hA9 hlt hn
          go_wp2_with fail
          refine HLC.out.mono ?_
          rintro e W9 ⟨sl, rfl, ho, hb⟩
          have HO9 := Lib.hid ho
          have HB9 := Lib.hid (And.intro (below_next HBW.out hb) HBW.out.size)
          clear ho hb
          go_wp2
          go_ret2
          exact move_end HR.out (own_lower HO9.out HB9.out.2) HB9.out.1

end Go.Proofs.YtnboodcllmdjeaaGreatDoor

/-
  WALKS: spec.CanonDiff.
-/
namespace Go.Proofs.YtnboodcllmdjeaaGreatDoor
open Go.RowKit
set_option linter.unusedVariables false

theorem df_end {L n b off : Nat} {xs : List ByteArray} {q : ByteArray} {W wr WD w4 : World} {u v4 : Value} {o : Obj} (hT : TextsAt wr (some ⟨b, off, none⟩) L xs) (hK : FarT (some ⟨b, off, none⟩) L u) (hlt : ∀ b' off', (some ⟨b, off, none⟩ : Option Addr) = some ⟨b', off', none⟩ → L ≠ 0 → b' < wr.heap.size)
    (hB9 : Below wr.heap.size wr WD) (hc : (WD.alloc o).cell? ⟨b, off + n, none⟩ = some (.string q)) (hn : n < L) (hBW : Below W.heap.size W WD) (hlow : ∀ k, u.ownBlock = some k → W.heap.size ≤ k) (hg : (WD.alloc o).grownBy w4 u.ownBlock) (hs : SameOrNew (WD.alloc o) u v4) :
    Hid (Below W.heap.size W w4 ∧ w4.cell? ⟨b, off + n, none⟩ = some (.string q)) ∧ Hid (TextsAt w4 (some ⟨b, off, none⟩) L xs) ∧ Hid (FarT (some ⟨b, off, none⟩) L v4) := by
  have hL : L ≠ 0 := by omega
  have hTA : TextsAt (WD.alloc o) (some ⟨b, off, none⟩) L xs := (hT.keep hB9).keep (below_box WD o)
  have hT4 := texts_far hTA hg hK
  refine ⟨⟨(hBW.alloc hBW.size o).grown hg (by have := hBW.size; rw [World.size_alloc]; omega) hlow, ?_⟩, hT4, away_next hK hs (fun b' off' e h0 => by have := hlt b' off' e h0; have := hB9.size; rw [World.size_alloc]; omega)⟩
  exact (World.cell?_of_block (hg.block b (World.block_lt_of_cell? _ _ hc) (fun e => hK b e.symm b off rfl hL rfl))).trans hc

set_option maxHeartbeats 2000000 in
set_option maxRecDepth 100000 in
theorem specCanonDiff_c (a1 : Option Addr) (len1 cap1 : Nat) (ns : List Nd) (a2 : Option Addr) (len2 cap2 : Nat) (ms : List Nd) (hl1 : len1 ≤ 2097152) (hl2 : len2 ≤ 2097152) (hs1 : Short 2097152 ns) (hs2 : Short 2097152 ms) (W : World) (h1 : NodesAt W a1 len1 ns) (h2 : NodesAt W a2 len2 ms) :
    Calls Tryz.prog 16 #[.slice a1 len1 cap1, .slice a2 len2 cap2] W (MovePost (canonDiff ns ms) W) := by
  obtain ⟨i0, hi, hz0, hz1, hz2⟩ := info_parts infoCmd
  obtain ⟨v1, hv1⟩ : ∃ v, validT ns = v := ⟨_, rfl⟩
  obtain ⟨v2, hv2⟩ : ∃ v, validT ms = v := ⟨_, rfl⟩
  have HV1 := Lib.hid (fun W' (hb : Below W.heap.size W W') => show Calls Tryz.prog 36 #[.slice a1 len1 cap1] W' (BoolPost v1 W') by rw [← hv1]; exact specTreeValid_c a1 len1 cap1 ns hl1 hs1 W' (h1.keep hb))
  have HV2 := Lib.hid (fun W' (hb : Below W.heap.size W W') => show Calls Tryz.prog 36 #[.slice a2 len2 cap2] W' (BoolPost v2 W') by rw [← hv2]; exact specTreeValid_c a2 len2 cap2 ms hl2 hs2 W' (h2.keep hb))
  have HTC := Lib.hid (fun W' (hb : Below W.heap.size W W') => specTreeChanged_c a1 len1 cap1 ns a2 len2 cap2 ms hl1 hl2 hs1 hs2 W' (h1.keep hb) (h2.keep hb))
  have HG1 := Lib.hid (fun q W' (hb : Below W.heap.size W W') => l3Get_c a1 len1 cap1 ns q hl1 W' (h1.keep hb))
  have HG2 := Lib.hid (fun q W' (hb : Below W.heap.size W W') => l3Get_c a2 len2 cap2 ms q hl2 W' (h2.keep hb))
  have HW1 := Lib.hid hv1
  have HW2 := Lib.hid hv2
  have HO0 := Lib.hid (show (W.alloc (.cells #[] 45)).ownsRow W.heap.size 45 5 (.slice (some ⟨W.heap.size, 0, none⟩) 0 0) ([] : List Cmd).length (flatC []) from World.ownsRow_lit (e := 45) (size := 5) W #[] 0 (Nat.le_refl _) (by simp [maxLen]) rfl)
  clear h1 h2 hs1 hs2 hl1 hl2 hv1 hv2
  go_enter Tryz.func16, Tryz.ntmps16
  go_wp2_with fail
  refine (HV1.out _ (below_box _ _)).mono ?_
  rintro e W1 ⟨rfl, hb1⟩
  have B1 := Lib.hid (below_next (below_box W _) hb1)
  have HO1 := Lib.hid (own_below HO0.out hb1)
  clear hb1
  cases v1 with
  | false =>
    have HX := Lib.hid (show canonDiff ns ms = ([], false) by unfold canonDiff; rw [HW1.out]; rfl)
    go_wp2
    go_ret2
    exact move_end HX.out HO1.out B1.out
  | true =>
    go_wp2_with fail
    refine (HV2.out _ B1.out).mono ?_
    rintro e W2 ⟨rfl, hb2⟩
    have B2 := Lib.hid (below_next B1.out hb2)
    have HO2 := Lib.hid (own_below HO1.out hb2)
    clear hb2
    cases v2 with
    | false =>
      have HX := Lib.hid (show canonDiff ns ms = ([], false) by unfold canonDiff; rw [HW1.out, HW2.out]; rfl)
      go_wp2
      go_ret2
      exact move_end HX.out HO2.out B2.out
    | true =>
      go_wp2_with fail
      refine (HTC.out _ B2.out).mono ?_
      rintro e W3 ⟨⟨s3, rfl, ho3⟩, hb3⟩
      obtain ⟨x3, p3, rfl, ht3⟩ := texts_of_own ho3
      have B3 := Lib.hid (below_next B2.out hb3)
      have HO3 := Lib.hid (own_below HO2.out hb3)
      have HT3 := Lib.hid ht3
      have HK3 : Hid (FarT x3 (chgL ns ms).length (.slice (some ⟨W.heap.size, 0, none⟩) 0 0)) := by
        intro k hk b off ha h0 e
        cases hk
        subst ha
        have h4 := (ho3.lt b rfl).1
        have h5 := (HO2.out.lt W.heap.size rfl).2
        have e2 : W.heap.size = b := e
        omega
      have HL20 := Lib.hid (chg_bound HW1.out HW2.out)
      have HDL := Lib.hid (fun n => df_len HW1.out HW2.out n)
      clear ho3 hb3 ht3
      go_wp2_with fail
      go_loopw [6, 8] (fun o i wr => ∃ n : Nat, i = .int .i64 n ∧ n ≤ (chgL ns ms).length ∧ wr.ownsRow W.heap.size 45 5 o (dfAcc ns ms n).length (flatC (dfAcc ns ms n)) ∧ Hid (FarT x3 (chgL ns ms).length o) ∧ Hid (TextsAt wr x3 (chgL ns ms).length (chgL ns ms)) ∧ Hid (Below W.heap.size W wr)) (fun _ i _ => (chgL ns ms).length - (intOf i).toNat)
      case atStart => exact ⟨0, rfl, Nat.zero_le _, HO3.out, HK3, HT3, B3⟩
      case round =>
        obtain ⟨n, rfl, hn, hown, HOK, HT, HB⟩ := hrel
        by_cases hlt : n < (chgL ns ms).length
        · have hlt' : (n : Int) < (chgL ns ms).length := by omega
          have hw1 : IntKind.i64.wrap ((n : Int) + 1) = (n : Int) + 1 := IntWalk.i64_in _ (by have := HL20.out; omega)
          have HLT := Lib.hid hlt
          have HTL := Lib.hid (texts_lt HT.out)
          obtain ⟨b, off, q, rfl, hq, y0⟩ := HT.out.node hlt
          have HX := Lib.hid hq
          obtain ⟨k1, v1, hg1⟩ : ∃ k v, getT ns q = (k, v) := ⟨_, _, rfl⟩
          obtain ⟨k2, v2, hg2⟩ : ∃ k v, getT ms q = (k, v) := ⟨_, _, rfl⟩
          have HGA := Lib.hid (fun W' (hb : Below W.heap.size W W') => show Calls Tryz.prog 38 #[.slice a1 len1 cap1, .string q] W' (ConRet k1 v1 W') by have := HG1.out q W' hb; rwa [hg1] at this)
          have HGB := Lib.hid (fun W' (hb : Below W.heap.size W W') => show Calls Tryz.prog 38 #[.slice a2 len2 cap2, .string q] W' (ConRet k2 v2 W') by have := HG2.out q W' hb; rwa [hg2] at this)
          have HST := Lib.hid (show dfAcc ns ms (n + 1) = dfAcc ns ms n ++ [⟨q, k1, v1, k2, v2⟩] by rw [df_next hq]; unfold diffC; rw [hg1, hg2])
          have HAL := Lib.hid (HDL.out n)
          have HO := Lib.hid hown
          have HS0 : Hid (Below W.heap.size W wr.drew ∧ wr.drew.cell? ⟨b, off + n, none⟩ = some (.string q)) := ⟨HB.out.drew, y0⟩
          clear hn hlt hq hg1 hg2 hown
          go_upto_region 8 with (fail)
          have HOW : Hid (wr.drew.ownsRow W.heap.size 45 5 u6 (dfAcc ns ms n).length (flatC (dfAcc ns ms n))) := row_drew HO.out
          have HKP : Hid (∀ w1 w2 : World, (Below W.heap.size W w1 ∧ w1.cell? ⟨b, off + n, none⟩ = some (.string q)) → Below w1.heap.size w1 w2 → (Below W.heap.size W w2 ∧ w2.cell? ⟨b, off + n, none⟩ = some (.string q))) := fun w1 w2 h hb => ⟨below_next h.1 hb, cell_kept hb h.2⟩
          clear y0
          unfold con at HGA HGB
          go_region_held3 (fun w' => Below W.heap.size W w' ∧ w'.cell? ⟨b, off + n, none⟩ = some (.string q))
            (first | exact HS0.out | exact hS4.out | exact HS9.out | exact HSA.out | exact HSB.out | exact HKP.out _ _ (by assumption) (below_box _ _))
            (first
              | (go_at_call 38; (with_reducible refine (HGA.out _ HS0.out.1).mono ?_); rintro e WA ⟨rfl, hbA⟩; have HSA := Lib.hid (HKP.out _ _ HS0.out hbA); have HBA := Lib.hid (show Below wr.heap.size wr WA from below_next (Below.refl _ _).drew hbA); have HOA := Lib.hid (own_below HOW.out hbA); clear hbA)
              | (go_at_call 38; (with_reducible refine (HGB.out _ HSA.out.1).mono ?_); rintro e WD ⟨rfl, hbD⟩; have HS9 := Lib.hid (HKP.out _ _ HSA.out hbD); have HB9 := Lib.hid (below_next HBA.out hbD); have HO9 := Lib.hid (own_below HOA.out hbD); clear hbD)
              | (go_at_call 38; (with_reducible refine (HGB.out _ HS0.out.1).mono ?_); rintro e WB ⟨rfl, hbB⟩; have HSB := Lib.hid (HKP.out _ _ HS0.out hbB); have HBB := Lib.hid (show Below wr.heap.size wr WB from below_next (Below.refl _ _).drew hbB); have HOB := Lib.hid (own_below HOW.out hbB); clear hbB)
              | (go_at_call 38; (with_reducible refine (HGA.out _ HSB.out.1).mono ?_); rintro e WD ⟨rfl, hbD⟩; have HS9 := Lib.hid (HKP.out _ _ HSB.out hbD); have HB9 := Lib.hid (below_next HBB.out hbD); have HO9 := Lib.hid (own_below HOB.out hbD); clear hbD)
              | (rw [if_pos (by rfl)]; refine wp_append_where5 _ _ 24 rfl W.heap.size 45 i0 (.agg #[.string ⟨#[]⟩, .int .i64 0, .int .i64 0, .int .i64 0, .int .i64 0]) 48 Tryz.underlying24 hi hz0 hz1 hz2 rfl u6 (dfAcc ns ms n).length (flatC (dfAcc ns ms n)) rfl (HO9.out.alloc _) ⟨WD.heap.size, 0, none⟩ 1 1 (flatC [(⟨q, k1, v1, k2, v2⟩ : Cmd)]) rfl rfl (cmds_cells (cmds_lit WD ⟨q, k1, v1, k2, v2⟩)) (flatC_cell1 _) (by have := HAL.out; unfold maxLen; omega) (by have := HAL.out; omega) (by have := HS9.out.1.size; rw [World.size_alloc]; omega) ?_; intro v4 w4 ho4 hg4 hn4; obtain ⟨hS4, HT4, HK4⟩ := df_end HT.out HOK.out HTL.out HB9.out (HKP.out _ _ HS9.out (below_box _ _)).2 HLT.out HS9.out.1 (fun k e => (HO9.out.lt k e).1) hg4 hn4))
          all_goals
            have ho4' : w4.ownsRow W.heap.size 45 5 v4 (dfAcc ns ms (n + 1)).length (flatC (dfAcc ns ms (n + 1))) := by rw [HST.out, flatC_append, List.length_append]; exact ho4
            clear ho4 hg4 hn4
            go_wp2
            go_roundw
            case rel => exact ⟨n + 1, by go_num, HLT.out, ho4', HK4, HT4, hS4.out.1⟩
            case measure => have := HLT.out; simp [intOf]; omega
        · have hnl : n = (chgL ns ms).length := by omega
          subst hnl
          have HO9 := hown
          rw [df_all] at HO9
          obtain ⟨xs, hxs⟩ : ∃ xs, diffL ns ms = xs := ⟨_, rfl⟩
          rw [hxs] at HO9
          obtain ⟨a9, cap9, rfl, hA9⟩ := cmds_of_own HO9
          have HR := Lib.hid (show canonDiff ns ms = (sortK xs, true) by rw [canonDiff_yes HW1.out HW2.out, diff_canon HW1.out HW2.out, hxs])
          have HXL : xs.length ≤ 20 := by rw [← hxs]; unfold diffL; rw [List.length_map]; exact HL20.out
          have HLC := Lib.hid (specSort_c a9 xs.length cap9 xs (by omega) wr hA9)
          clear hown HXL HO9 hA9 hlt hn
          go_wp2_with fail
          refine HLC.out.mono ?_
          rintro e W9 ⟨⟨sl, rfl, ho⟩, hb⟩
          have HO9 := Lib.hid ho
          have HB9 := Lib.hid (And.intro (below_next HB.out hb) HB.out.size)
          clear ho hb
          go_wp2
          go_ret2
          exact move_end HR.out (own_lower HO9.out HB9.out.2) HB9.out.1

end Go.Proofs.YtnboodcllmdjeaaGreatDoor
