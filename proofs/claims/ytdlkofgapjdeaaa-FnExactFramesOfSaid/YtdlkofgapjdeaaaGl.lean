/-
  What the laws of frames use (goes on from Gk): two answers of one question; parts of tables.
-/
import Derived.Test.YtdlkofgapjdeaaaGk
namespace Go.Proofs.Ytdlkofgapjdeaaa
open Go.RowKit
set_option linter.unusedVariables false

theorem fpost_same {r : Option (List Int)} {out out' : List Int} {b b' : Bool} (h : (b = true ∧ r = some out) ∨ (b = false ∧ r = none ∧ out = [])) (h' : (b' = true ∧ r = some out') ∨ (b' = false ∧ r = none ∧ out' = [])) : out' = out ∧ b' = b := by
  rcases h with ⟨rfl, e⟩ | ⟨rfl, e, rfl⟩ <;> rcases h' with ⟨rfl, e'⟩ | ⟨rfl, e', rfl⟩
  · rw [e] at e'; exact ⟨(Option.some.inj e').symm, rfl⟩
  · rw [e] at e'; cases e'
  · rw [e] at e'; cases e'
  · exact ⟨rfl, rfl⟩

theorem fpost_len {bs : List (List Int)} {o : List Int} {b : Bool} (h : (b = true ∧ framesOf bs = some o) ∨ (b = false ∧ framesOf bs = none ∧ o = [])) : o.length ≤ 720 := by
  rcases h with ⟨_, e⟩ | ⟨_, _, rfl⟩
  · obtain ⟨h1, h2, rfl⟩ := framesOf_some e
    have := framesL_len h1
    omega
  · simp

end Go.Proofs.Ytdlkofgapjdeaaa
