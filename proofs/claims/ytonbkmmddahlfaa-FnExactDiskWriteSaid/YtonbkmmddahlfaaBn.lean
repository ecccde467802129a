/-
  Small laws of worlds that many texts use.
-/
import Derived.Test.YtonbkmmddahlfaaChecked
import Derived.WalkKit
import Derived.Below
namespace Go.Proofs.Ytonbkmmddahlfaa
open Go.RowKit

theorem below_next {a b c : World} (h : Below a.heap.size a b) (k : Below b.heap.size b c) : Below a.heap.size a c := h.trans (k.mono h.size)

theorem cell_kept {W W' : World} {a : Addr} {v : Value} (hb : Below W.heap.size W W') (h : W.cell? a = some v) : W'.cell? a = some v := (hb.cell (World.block_lt_of_cell? W _ h)).trans h

end Go.Proofs.Ytonbkmmddahlfaa
