/-
  THE WORDS OF A PROGRAM's ORDER, READ FROM THE FRONT: what a row with many roots costs the kernel.
-/
import Derived.Test.YtaehgdglbplomaaRows
import Derived.WalkKit
import Derived.JoinedOf
namespace Go.Proofs.Ytaehgdglbplomaa
set_option linter.unusedVariables false

theorem jz_first : (0 : Nat) ≤ 0 := Nat.le_refl 0

/-- The words, with what of the first one is read already. -/
def wordsOn : List Char → List Char → List (List Char)
  | [], acc => [acc.reverse]
  | c :: r, acc => if c = ' ' then acc.reverse :: wordsOn r [] else wordsOn r (c :: acc)
theorem words_cons (l : List Char) : ∃ w ws, wordsSigns l = w :: ws := by
  match l with
  | [] => exact ⟨[], [], rfl⟩
  | c :: r =>
    by_cases hc : c = ' '
    · subst hc; exact ⟨[], wordsSigns r, by rw [wordsSigns]⟩
    · obtain ⟨w, ws, h⟩ := words_cons r
      refine ⟨c :: w, ws, ?_⟩
      rw [wordsSigns.eq_def]
      split
      · rename_i h1; cases h1
      · rename_i h1; cases h1; exact absurd rfl hc
      · rename_i h1; cases h1
        rw [h]
theorem words_on (l acc : List Char) : ∀ w ws, wordsSigns l = w :: ws → wordsOn l acc = (acc.reverse ++ w) :: ws := by
  induction l generalizing acc with
  | nil => intro w ws h; rw [wordsSigns] at h; cases h; simp [wordsOn]
  | cons c r ih =>
    intro w ws h
    by_cases hc : c = ' '
    · subst hc
      rw [wordsSigns] at h
      cases h
      rw [wordsOn, if_pos rfl]
      obtain ⟨w', ws', h'⟩ := words_cons r
      rw [ih [] w' ws' h', h']
      simp
    · obtain ⟨w', ws', h'⟩ := words_cons r
      rw [wordsOn, if_neg hc, ih (c :: acc) w' ws' h']
      rw [wordsSigns.eq_def] at h
      split at h
      · rename_i h1; cases h1
      · rename_i h1; cases h1; exact absurd rfl hc
      · rename_i h1; cases h1
        rw [h'] at h
        cases h
        simp
theorem words_eq (l : List Char) : wordsSigns l = wordsOn l [] := by
  obtain ⟨w, ws, h⟩ := words_cons l
  rw [words_on l [] w ws h, h]; rfl

/-- The seat's order, sign by sign. -/
def orderL : List Char := ['h', 'a', 'r', 'n', 'e', 's', 's', ' ', '8', '1', '8', 'd', '6', 'f', '9', 'a', 'd', '1', '1', 'a', '4', '1', '6', 'c', 'a', '4', 'b', 'c', 'a', '1', '1', '8', '5', '0', '2', '7', 'b', '1', '2', '7', '6', '2', '4', '9', '0', '5', '8', 'f', 'c', '8', 'd', '0', '7', 'b', '2', '7', '3', '9', 'b', '7', 'c', '2', '5', 'e', '8', '6', '5', '3', 'e', '4', '2', '9', ' ', 'c', 'u', 't', ' ', 'a', 't', ' ', 'l', 'o', 'o', 'p', '.', 'e', 'x', 'a', 'm', 'p', 'l', 'e', '/', 'f', 'i', 'l', 'e', 'r', 'e', 'c', 'o', 'n', 'c', 'i', 'l', 'e', 'r', '/', 'l', 'a', 'w', 's', '.', 'F', 'n', 'W', 'r', 'i', 't', 'e', ' ', 'l', 'o', 'o', 'p', '.', 'e', 'x', 'a', 'm', 'p', 'l', 'e', '/', 'f', 'i', 'l', 'e', 'r', 'e', 'c', 'o', 'n', 'c', 'i', 'l', 'e', 'r', '/', 'l', 'a', 'w', 's', '.', 'F', 'n', 'S', 'y', 'n', 'c', ' ', 'l', 'o', 'o', 'p', '.', 'e', 'x', 'a', 'm', 'p', 'l', 'e', '/', 'f', 'i', 'l', 'e', 'r', 'e', 'c', 'o', 'n', 'c', 'i', 'l', 'e', 'r', '/', 'l', 'a', 'w', 's', '.', 'F', 'n', 'S', 'y', 'n', 'c', 'T', 'w', 'i', 'c', 'e', ' ', 'l', 'o', 'o', 'p', '.', 'e', 'x', 'a', 'm', 'p', 'l', 'e', '/', 'f', 'i', 'l', 'e', 'r', 'e', 'c', 'o', 'n', 'c', 'i', 'l', 'e', 'r', '/', 'l', 'a', 'w', 's', '.', 'F', 'n', 'R', 'e', 'n', 'a', 'm', 'e', ' ', 'l', 'o', 'o', 'p', '.', 'e', 'x', 'a', 'm', 'p', 'l', 'e', '/', 'f', 'i', 'l', 'e', 'r', 'e', 'c', 'o', 'n', 'c', 'i', 'l', 'e', 'r', '/', 'l', 'a', 'w', 's', '.', 'F', 'n', 'C', 'r', 'a', 's', 'h', ' ', 'l', 'o', 'o', 'p', '.', 'e', 'x', 'a', 'm', 'p', 'l', 'e', '/', 'f', 'i', 'l', 'e', 'r', 'e', 'c', 'o', 'n', 'c', 'i', 'l', 'e', 'r', '/', 'l', 'a', 'w', 's', '.', 'F', 'n', 'C', 'r', 'a', 's', 'h', 'T', 'w', 'i', 'c', 'e', ' ', 'l', 'o', 'o', 'p', '.', 'e', 'x', 'a', 'm', 'p', 'l', 'e', '/', 'f', 'i', 'l', 'e', 'r', 'e', 'c', 'o', 'n', 'c', 'i', 'l', 'e', 'r', '/', 'l', 'a', 'w', 's', '.', 'F', 'n', 'W', 'r', 'i', 't', 'e', 'P', 'a', 'r', 't', 's', ' ', 'l', 'o', 'o', 'p', '.', 'e', 'x', 'a', 'm', 'p', 'l', 'e', '/', 'f', 'i', 'l', 'e', 'r', 'e', 'c', 'o', 'n', 'c', 'i', 'l', 'e', 'r', '/', 'l', 'a', 'w', 's', '.', 'F', 'n', 'D', 'i', 's', 'k', 'P', 'a', 'r', 't', ' ', 'l', 'o', 'o', 'p', '.', 'e', 'x', 'a', 'm', 'p', 'l', 'e', '/', 'f', 'i', 'l', 'e', 'r', 'e', 'c', 'o', 'n', 'c', 'i', 'l', 'e', 'r', '/', 'l', 'a', 'w', 's', '.', 'F', 'n', 'R', 'e', 'n', 'a', 'm', 'e', 'B', 'a', 'c', 'k', ' ', 'l', 'o', 'o', 'p', '.', 'e', 'x', 'a', 'm', 'p', 'l', 'e', '/', 'f', 'i', 'l', 'e', 'r', 'e', 'c', 'o', 'n', 'c', 'i', 'l', 'e', 'r', '/', 'l', 'a', 'w', 's', '.', 'F', 'n', 'E', 'x', 'a', 'c', 't', 'D', 'i', 's', 'k', 'V', 'a', 'l', 'i', 'd', ' ', 'l', 'o', 'o', 'p', '.', 'e', 'x', 'a', 'm', 'p', 'l', 'e', '/', 'f', 'i', 'l', 'e', 'r', 'e', 'c', 'o', 'n', 'c', 'i', 'l', 'e', 'r', '/', 'l', 'a', 'w', 's', '.', 'F', 'n', 'E', 'x', 'a', 'c', 't', 'D', 'i', 's', 'k', 'R', 'e', 'a', 'd', ' ', 'l', 'o', 'o', 'p', '.', 'e', 'x', 'a', 'm', 'p', 'l', 'e', '/', 'f', 'i', 'l', 'e', 'r', 'e', 'c', 'o', 'n', 'c', 'i', 'l', 'e', 'r', '/', 'l', 'a', 'w', 's', '.', 'F', 'n', 'E', 'x', 'a', 'c', 't', 'D', 'i', 's', 'k', 'W', 'r', 'i', 't', 'e', ' ', 'l', 'o', 'o', 'p', '.', 'e', 'x', 'a', 'm', 'p', 'l', 'e', '/', 'f', 'i', 'l', 'e', 'r', 'e', 'c', 'o', 'n', 'c', 'i', 'l', 'e', 'r', '/', 'l', 'a', 'w', 's', '.', 'F', 'n', 'E', 'x', 'a', 'c', 't', 'D', 'i', 's', 'k', 'S', 'y', 'n', 'c', ' ', 'l', 'o', 'o', 'p', '.', 'e', 'x', 'a', 'm', 'p', 'l', 'e', '/', 'f', 'i', 'l', 'e', 'r', 'e', 'c', 'o', 'n', 'c', 'i', 'l', 'e', 'r', '/', 'l', 'a', 'w', 's', '.', 'F', 'n', 'E', 'x', 'a', 'c', 't', 'D', 'i', 's', 'k', 'R', 'e', 'n', 'a', 'm', 'e', ' ', 'l', 'o', 'o', 'p', '.', 'e', 'x', 'a', 'm', 'p', 'l', 'e', '/', 'f', 'i', 'l', 'e', 'r', 'e', 'c', 'o', 'n', 'c', 'i', 'l', 'e', 'r', '/', 'l', 'a', 'w', 's', '.', 'F', 'n', 'E', 'x', 'a', 'c', 't', 'D', 'i', 's', 'k', 'C', 'r', 'a', 's', 'h']
theorem order_lit : Try.prog.initOrder = "harness 818d6f9ad11a416ca4bca1185027b1276249058fc8d07b2739b7c25e8653e429 cut at loop.example/filereconciler/laws.FnWrite loop.example/filereconciler/laws.FnSync loop.example/filereconciler/laws.FnSyncTwice loop.example/filereconciler/laws.FnRename loop.example/filereconciler/laws.FnCrash loop.example/filereconciler/laws.FnCrashTwice loop.example/filereconciler/laws.FnWriteParts loop.example/filereconciler/laws.FnDiskPart loop.example/filereconciler/laws.FnRenameBack loop.example/filereconciler/laws.FnExactDiskValid loop.example/filereconciler/laws.FnExactDiskRead loop.example/filereconciler/laws.FnExactDiskWrite loop.example/filereconciler/laws.FnExactDiskSync loop.example/filereconciler/laws.FnExactDiskRename loop.example/filereconciler/laws.FnExactDiskCrash" := by kernel_rfl
theorem lit_is : "harness 818d6f9ad11a416ca4bca1185027b1276249058fc8d07b2739b7c25e8653e429 cut at loop.example/filereconciler/laws.FnWrite loop.example/filereconciler/laws.FnSync loop.example/filereconciler/laws.FnSyncTwice loop.example/filereconciler/laws.FnRename loop.example/filereconciler/laws.FnCrash loop.example/filereconciler/laws.FnCrashTwice loop.example/filereconciler/laws.FnWriteParts loop.example/filereconciler/laws.FnDiskPart loop.example/filereconciler/laws.FnRenameBack loop.example/filereconciler/laws.FnExactDiskValid loop.example/filereconciler/laws.FnExactDiskRead loop.example/filereconciler/laws.FnExactDiskWrite loop.example/filereconciler/laws.FnExactDiskSync loop.example/filereconciler/laws.FnExactDiskRename loop.example/filereconciler/laws.FnExactDiskCrash" = String.ofList ['h', 'a', 'r', 'n', 'e', 's', 's', ' ', '8', '1', '8', 'd', '6', 'f', '9', 'a', 'd', '1', '1', 'a', '4', '1', '6', 'c', 'a', '4', 'b', 'c', 'a', '1', '1', '8', '5', '0', '2', '7', 'b', '1', '2', '7', '6', '2', '4', '9', '0', '5', '8', 'f', 'c', '8', 'd', '0', '7', 'b', '2', '7', '3', '9', 'b', '7', 'c', '2', '5', 'e', '8', '6', '5', '3', 'e', '4', '2', '9', ' ', 'c', 'u', 't', ' ', 'a', 't', ' ', 'l', 'o', 'o', 'p', '.', 'e', 'x', 'a', 'm', 'p', 'l', 'e', '/', 'f', 'i', 'l', 'e', 'r', 'e', 'c', 'o', 'n', 'c', 'i', 'l', 'e', 'r', '/', 'l', 'a', 'w', 's', '.', 'F', 'n', 'W', 'r', 'i', 't', 'e', ' ', 'l', 'o', 'o', 'p', '.', 'e', 'x', 'a', 'm', 'p', 'l', 'e', '/', 'f', 'i', 'l', 'e', 'r', 'e', 'c', 'o', 'n', 'c', 'i', 'l', 'e', 'r', '/', 'l', 'a', 'w', 's', '.', 'F', 'n', 'S', 'y', 'n', 'c', ' ', 'l', 'o', 'o', 'p', '.', 'e', 'x', 'a', 'm', 'p', 'l', 'e', '/', 'f', 'i', 'l', 'e', 'r', 'e', 'c', 'o', 'n', 'c', 'i', 'l', 'e', 'r', '/', 'l', 'a', 'w', 's', '.', 'F', 'n', 'S', 'y', 'n', 'c', 'T', 'w', 'i', 'c', 'e', ' ', 'l', 'o', 'o', 'p', '.', 'e', 'x', 'a', 'm', 'p', 'l', 'e', '/', 'f', 'i', 'l', 'e', 'r', 'e', 'c', 'o', 'n', 'c', 'i', 'l', 'e', 'r', '/', 'l', 'a', 'w', 's', '.', 'F', 'n', 'R', 'e', 'n', 'a', 'm', 'e', ' ', 'l', 'o', 'o', 'p', '.', 'e', 'x', 'a', 'm', 'p', 'l', 'e', '/', 'f', 'i', 'l', 'e', 'r', 'e', 'c', 'o', 'n', 'c', 'i', 'l', 'e', 'r', '/', 'l', 'a', 'w', 's', '.', 'F', 'n', 'C', 'r', 'a', 's', 'h', ' ', 'l', 'o', 'o', 'p', '.', 'e', 'x', 'a', 'm', 'p', 'l', 'e', '/', 'f', 'i', 'l', 'e', 'r', 'e', 'c', 'o', 'n', 'c', 'i', 'l', 'e', 'r', '/', 'l', 'a', 'w', 's', '.', 'F', 'n', 'C', 'r', 'a', 's', 'h', 'T', 'w', 'i', 'c', 'e', ' ', 'l', 'o', 'o', 'p', '.', 'e', 'x', 'a', 'm', 'p', 'l', 'e', '/', 'f', 'i', 'l', 'e', 'r', 'e', 'c', 'o', 'n', 'c', 'i', 'l', 'e', 'r', '/', 'l', 'a', 'w', 's', '.', 'F', 'n', 'W', 'r', 'i', 't', 'e', 'P', 'a', 'r', 't', 's', ' ', 'l', 'o', 'o', 'p', '.', 'e', 'x', 'a', 'm', 'p', 'l', 'e', '/', 'f', 'i', 'l', 'e', 'r', 'e', 'c', 'o', 'n', 'c', 'i', 'l', 'e', 'r', '/', 'l', 'a', 'w', 's', '.', 'F', 'n', 'D', 'i', 's', 'k', 'P', 'a', 'r', 't', ' ', 'l', 'o', 'o', 'p', '.', 'e', 'x', 'a', 'm', 'p', 'l', 'e', '/', 'f', 'i', 'l', 'e', 'r', 'e', 'c', 'o', 'n', 'c', 'i', 'l', 'e', 'r', '/', 'l', 'a', 'w', 's', '.', 'F', 'n', 'R', 'e', 'n', 'a', 'm', 'e', 'B', 'a', 'c', 'k', ' ', 'l', 'o', 'o', 'p', '.', 'e', 'x', 'a', 'm', 'p', 'l', 'e', '/', 'f', 'i', 'l', 'e', 'r', 'e', 'c', 'o', 'n', 'c', 'i', 'l', 'e', 'r', '/', 'l', 'a', 'w', 's', '.', 'F', 'n', 'E', 'x', 'a', 'c', 't', 'D', 'i', 's', 'k', 'V', 'a', 'l', 'i', 'd', ' ', 'l', 'o', 'o', 'p', '.', 'e', 'x', 'a', 'm', 'p', 'l', 'e', '/', 'f', 'i', 'l', 'e', 'r', 'e', 'c', 'o', 'n', 'c', 'i', 'l', 'e', 'r', '/', 'l', 'a', 'w', 's', '.', 'F', 'n', 'E', 'x', 'a', 'c', 't', 'D', 'i', 's', 'k', 'R', 'e', 'a', 'd', ' ', 'l', 'o', 'o', 'p', '.', 'e', 'x', 'a', 'm', 'p', 'l', 'e', '/', 'f', 'i', 'l', 'e', 'r', 'e', 'c', 'o', 'n', 'c', 'i', 'l', 'e', 'r', '/', 'l', 'a', 'w', 's', '.', 'F', 'n', 'E', 'x', 'a', 'c', 't', 'D', 'i', 's', 'k', 'W', 'r', 'i', 't', 'e', ' ', 'l', 'o', 'o', 'p', '.', 'e', 'x', 'a', 'm', 'p', 'l', 'e', '/', 'f', 'i', 'l', 'e', 'r', 'e', 'c', 'o', 'n', 'c', 'i', 'l', 'e', 'r', '/', 'l', 'a', 'w', 's', '.', 'F', 'n', 'E', 'x', 'a', 'c', 't', 'D', 'i', 's', 'k', 'S', 'y', 'n', 'c', ' ', 'l', 'o', 'o', 'p', '.', 'e', 'x', 'a', 'm', 'p', 'l', 'e', '/', 'f', 'i', 'l', 'e', 'r', 'e', 'c', 'o', 'n', 'c', 'i', 'l', 'e', 'r', '/', 'l', 'a', 'w', 's', '.', 'F', 'n', 'E', 'x', 'a', 'c', 't', 'D', 'i', 's', 'k', 'R', 'e', 'n', 'a', 'm', 'e', ' ', 'l', 'o', 'o', 'p', '.', 'e', 'x', 'a', 'm', 'p', 'l', 'e', '/', 'f', 'i', 'l', 'e', 'r', 'e', 'c', 'o', 'n', 'c', 'i', 'l', 'e', 'r', '/', 'l', 'a', 'w', 's', '.', 'F', 'n', 'E', 'x', 'a', 'c', 't', 'D', 'i', 's', 'k', 'C', 'r', 'a', 's', 'h'] := by kernel_rfl
theorem order_is : Try.prog.initOrder = String.ofList orderL := order_lit.trans lit_is
theorem order_list : Try.prog.initOrder.toList = orderL := (congrArg String.toList order_is).trans String.toList_ofList
theorem enter_ok : Try.prog.mayEnter = true := by
  unfold Program.mayEnter
  rw [order_list, words_eq]
  kernel_rfl
theorem final_ok : Try.prog.liftsFinal = false := by
  unfold Program.liftsFinal Program.headLifts
  rw [order_list, words_eq]
  kernel_rfl
theorem make_ok : Try.prog.make = some .cut := by
  unfold Program.make Program.headLifts
  rw [order_list, words_eq]
  kernel_rfl

end Go.Proofs.Ytaehgdglbplomaa
