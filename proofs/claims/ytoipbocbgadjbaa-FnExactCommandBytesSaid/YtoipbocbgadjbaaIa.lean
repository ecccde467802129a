/-
  strconv.Itoa of a number below 100, by the library's contract, at this program's numbers.
-/
import Derived.Shelf.LaysM
import Derived.Shelf.Strconv.Itoa3
import Derived.Test.YtoipbocbgadjbaaChecked
namespace Go.Proofs.Ytoipbocbgadjbaa
open Go.Shelf
end Go.Proofs.Ytoipbocbgadjbaa
