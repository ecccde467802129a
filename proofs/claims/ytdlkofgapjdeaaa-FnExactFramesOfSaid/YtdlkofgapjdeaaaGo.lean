/-
  What the exact laws of frames use: tables that survive changes elsewhere.
-/
import Derived.Test.YtdlkofgapjdeaaaFl
import Derived.Test.YtdlkofgapjdeaaaGn
namespace Go.Proofs.Ytdlkofgapjdeaaa
open Go.RowKit
set_option linter.unusedVariables false

/-- An owned list of numbers, as it lies. -/
theorem ints_own {W : World} {base len c : Nat} {e : TypeId} {a : Option Addr} {zs : List Int} (hz : zs.length = len) (h : W.ownsRow base e 1 (.slice a len c) len (intsV zs)) : IntsAt W a len zs := by
  subst hz
  obtain ⟨a', c', he, hi⟩ := ints_of_own h
  cases he
  exact hi

/-- An owned table, as it lies. -/
theorem tab_own {W : World} {base len c : Nat} {e : TypeId} {a : Option Addr} {vs : List Value} {bs : List (List Int)} (hz : bs.length = len) (h : W.ownsRow base e 1 (.slice a len c) len vs) (hi : Inner W base vs bs) : TabAt W a len bs := by
  subst hz
  obtain ⟨a', c', he, ht⟩ := tab_of_own h hi
  cases he
  exact ht

theorem Inner.ge {W : World} {base : Nat} {vs : List Value} {bs : List (List Int)} (h : Inner W base vs bs) : ∀ u ∈ vs, ∀ k, u.ownBlock = some k → base ≤ k := by
  intro u hu k hk
  obtain ⟨i, hi⟩ := List.getElem?_of_mem hu
  have hl := (List.getElem?_eq_some_iff.1 hi).1
  obtain ⟨z, hz⟩ : ∃ z, bs[i]? = some z := ⟨_, List.getElem?_eq_getElem (by have := h.1; omega)⟩
  exact ((h.2.1 i z u hz hi).lt k hk).1

/-- A list elsewhere changes. -/
theorem Inner.far {W W' : World} {base : Nat} {vs : List Value} {bs : List (List Int)} {row : Value} (h : Inner W base vs bs) (hg : W.grownBy W' row.ownBlock) (hd : ∀ u ∈ vs, ∀ k, u.ownBlock = some k → row.ownBlock ≠ some k) : Inner W' base vs bs :=
  ⟨h.1, fun i z v hz hv => own_farT (h.2.1 i z v hz hv) hg (hd v (List.mem_of_getElem? hv)), h.2.2⟩

/-- The lists of another table change. -/
theorem own_apart {W W' : World} {b : Nat} {e : TypeId} {size n : Nat} {v : Value} {xs ws : List Value} (h : W.ownsRow b e size v n xs) (hg : GrownT W W' ws) (hd : ∀ u ∈ ws, ∀ k, u.ownBlock = some k → v.ownBlock ≠ some k) : W'.ownsRow b e size v n xs := by
  refine ⟨h.1, ?_⟩
  rcases h.2 with hn | ⟨g, cap, cur, rfl, hb, hgg, rest⟩
  · exact .inl hn
  · refine .inr ⟨g, cap, cur, rfl, hb, ?_, rest⟩
    rw [hg.2.2.2.2 g (Array.getElem?_eq_some_iff.1 hgg).1 (fun u hu e => hd u hu g e rfl)]
    exact hgg

theorem Inner.apart {W W' : World} {base : Nat} {vs ws : List Value} {bs : List (List Int)} (h : Inner W base vs bs) (hg : GrownT W W' ws) (hd : ∀ v ∈ vs, ∀ u ∈ ws, ∀ k, u.ownBlock = some k → v.ownBlock ≠ some k) : Inner W' base vs bs :=
  ⟨h.1, fun i z v hz hv => own_apart (h.2.1 i z v hz hv) hg (hd v (List.mem_of_getElem? hv)), h.2.2⟩

theorem Below.apart {A W W' : World} {ws : List Value} (h : Below A.heap.size A W) (hg : GrownT W W' ws) (hd : ∀ u ∈ ws, ∀ k, u.ownBlock = some k → A.heap.size ≤ k) : Below A.heap.size A W' :=
  h.trans ⟨hg.1, hg.2.1, hg.2.2.1, hg.2.2.2.1, fun k hk => hg.2.2.2.2 k (Nat.lt_of_lt_of_le hk h.size) (fun u hu e => by have := hd u hu k e; omega)⟩

theorem total_le : ∀ (bs : List (List Int)), total bs ≤ (framesL bs).length
  | [] => Nat.zero_le _
  | b :: bs => by
    have := total_le bs
    rw [framesL_cons, List.length_append, frame_length, total_cons]
    omega

end Go.Proofs.Ytdlkofgapjdeaaa
