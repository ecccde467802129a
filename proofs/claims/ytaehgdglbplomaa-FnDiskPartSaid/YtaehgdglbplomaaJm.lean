/-
  This program's numbers of sync.Mutex's functions and types, for the library's contracts.
-/
import Derived.Conc.MuLone
import Derived.Test.YtaehgdglbplomaaChecked
namespace Go.Proofs.Ytaehgdglbplomaa
open Go.Conc.Locks

abbrev muL : MuLink := { lock := 77, unlock := 78, ilock := 87, iunlock := 88, lockSlow := 96, unlockSlow := 99, disable := 92, enable := 94, acquire := 95, relMerge := 97, cas32 := 93, add32 := 98, tMutex := 97, tIMutex := 95, tPMutex := 109, tPIMutex := 111, tPI32 := 113, tUP := 115, tNoCopy := 92, tU32 := 93 }
set_option maxRecDepth 100000 in
theorem muLib : MuLib Try.prog muL :=
  ⟨Try.func77, Try.func78, Try.func87, Try.func88, Try.func92, Try.func94, Try.func95, Try.func97, Try.func93, Try.func98,
    Try.underlying95, Try.runUnderlying95, Try.sizeOf95, Try.isAgg95, Try.zeroValue95,
    Try.underlying97, Try.runUnderlying97, Try.sizeOf97, Try.isAgg97, Try.zeroValue97,
    Try.underlying109, Try.runUnderlying109, Try.sizeOf109, Try.isAgg109, Try.zeroValue109,
    Try.underlying111, Try.runUnderlying111, Try.sizeOf111, Try.isAgg111, Try.zeroValue111,
    Try.underlying113, Try.runUnderlying113, Try.sizeOf113, Try.isAgg113, Try.zeroValue113,
    Try.underlying115, Try.runUnderlying115, Try.sizeOf115, Try.isAgg115, Try.zeroValue115,
    Try.underlying92, Try.runUnderlying92, Try.sizeOf92, Try.isAgg92, Try.zeroValue92,
    Try.underlying21, Try.runUnderlying21, Try.sizeOf21, Try.isAgg21, Try.zeroValue21, (by kernel_rfl)⟩

end Go.Proofs.Ytaehgdglbplomaa
