/-
  What the laws of scans use (goes on from Gm).
-/
import Derived.Test.YtdlkofgapjdeaaaGm
namespace Go.Proofs.Ytdlkofgapjdeaaa
open Go.RowKit
set_option linter.unusedVariables false

theorem frames_ge : ∀ (bs : List (List Int)), bs.length ≤ (framesL bs).length
  | [] => Nat.zero_le _
  | b :: bs => by
    have := frames_ge bs
    rw [framesL_cons, List.length_append, frame_length, List.length_cons]
    omega

/-- What a scan finds, all together. -/
theorem scan_facts {zs : List Int} {bs : List (List Int)} {n : Nat} (h : scanL zs = (bs, n)) : bs.all bodyOk = true ∧ framesL bs = zs.take n ∧ n ≤ zs.length ∧ bs.length ≤ n ∧ (framesL bs).length = n := by
  obtain ⟨h1, h2, h3⟩ := scan_sound zs
  rw [h] at h1 h2 h3
  have h4 : (framesL bs).length = n := by
    have := congrArg List.length h2
    rw [List.length_take] at this
    have h3' : n ≤ zs.length := h3
    simp only at this
    omega
  exact ⟨h1, h2, h3, by have := frames_ge bs; omega, h4⟩

theorem frameOf_ok {z : List Int} (h : bodyOk z = true) : frameOf z = frame z := by unfold frameOf; rw [if_pos h]

end Go.Proofs.Ytdlkofgapjdeaaa
