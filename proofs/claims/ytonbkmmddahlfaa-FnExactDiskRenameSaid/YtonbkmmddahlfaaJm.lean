/-
  This program's numbers of sync.Mutex's functions and types, for the library's contracts.
-/
import Derived.Conc.MuLone
import Derived.Test.YtonbkmmddahlfaaChecked
namespace Go.Proofs.Ytonbkmmddahlfaa
open Go.Conc.Locks

abbrev muL : MuLink := { lock := 55, unlock := 56, ilock := 64, iunlock := 65, lockSlow := 73, unlockSlow := 76, disable := 69, enable := 71, acquire := 72, relMerge := 74, cas32 := 70, add32 := 75, tMutex := 74, tIMutex := 72, tPMutex := 86, tPIMutex := 91, tPI32 := 93, tUP := 95, tNoCopy := 69, tU32 := 70 }
set_option maxRecDepth 100000 in
theorem muLib : MuLib Try.prog muL :=
  ⟨Try.func55, Try.func56, Try.func64, Try.func65, Try.func69, Try.func71, Try.func72, Try.func74, Try.func70, Try.func75,
    Try.underlying72, Try.runUnderlying72, Try.sizeOf72, Try.isAgg72, Try.zeroValue72,
    Try.underlying74, Try.runUnderlying74, Try.sizeOf74, Try.isAgg74, Try.zeroValue74,
    Try.underlying86, Try.runUnderlying86, Try.sizeOf86, Try.isAgg86, Try.zeroValue86,
    Try.underlying91, Try.runUnderlying91, Try.sizeOf91, Try.isAgg91, Try.zeroValue91,
    Try.underlying93, Try.runUnderlying93, Try.sizeOf93, Try.isAgg93, Try.zeroValue93,
    Try.underlying95, Try.runUnderlying95, Try.sizeOf95, Try.isAgg95, Try.zeroValue95,
    Try.underlying69, Try.runUnderlying69, Try.sizeOf69, Try.isAgg69, Try.zeroValue69,
    Try.underlying21, Try.runUnderlying21, Try.sizeOf21, Try.isAgg21, Try.zeroValue21, (by kernel_rfl)⟩

end Go.Proofs.Ytonbkmmddahlfaa
