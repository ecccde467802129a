/-
  strconv.Itoa of a number below 100, by the library's contract, at this program's numbers.
-/
import Derived.Shelf.LaysM
import Derived.Shelf.Strconv.Itoa3
import Derived.Test.YtmmnihgnejndjaaChecked
namespace Go.Proofs.Ytmmnihgnejndjaa
open Go.Shelf
def Ia.lays171_ren : Go.Shelf.Ren := ⟨fun | 171 => 38 | 243 => 39 | 246 => 40 | 283 => 41 | 284 => 42 | 285 => 43 | 286 => 44 | 129 => 46 | 317 => 45 | 318 => 47 | 319 => 48 | 320 => 49 | 337 => 50 | 338 => 51 | n => n, fun | 3 => 3 | 9 => 9 | 2 => 2 | 4 => 4 | 171 => 68 | 0 => 0 | 53 => 69 | 37 => 22 | 5 => 5 | 173 => 72 | 212 => 75 | 51 => 58 | 20 => 20 | 213 => 76 | 46 => 78 | 232 => 81 | 233 => 82 | n => n, fun | 17 => 0 | 18 => 1 | 19 => 2 | n => n⟩
theorem Ia.lays171 : Go.Proofs.Lays.n171 Try.prog Ia.lays171_ren := {
  mixed := by kernel_rfl
  f129 := Try.func46.trans (congrArg some (by kernel_rfl))
  f171 := Try.func38.trans (congrArg some (by kernel_rfl))
  f243 := Try.func39.trans (congrArg some (by kernel_rfl))
  f246 := Try.func40.trans (congrArg some (by kernel_rfl))
  f283 := Try.func41.trans (congrArg some (by kernel_rfl))
  f284 := Try.func42.trans (congrArg some (by kernel_rfl))
  f285 := Try.func43.trans (congrArg some (by kernel_rfl))
  f286 := Try.func44.trans (congrArg some (by kernel_rfl))
  f317 := Try.func45.trans (congrArg some (by kernel_rfl))
  f318 := Try.func47.trans (congrArg some (by kernel_rfl))
  f319 := Try.func48.trans (congrArg some (by kernel_rfl))
  f320 := Try.func49.trans (congrArg some (by kernel_rfl))
  f337 := Try.func50.trans (congrArg some (by kernel_rfl))
  f338 := Try.func51.trans (congrArg some (by kernel_rfl))
  t0 := Try.underlying0
  a0 := Try.isAgg0
  z0 := Try.sizeOf0
  v0 := Try.zeroValue0
  t2 := Try.underlying2
  a2 := Try.isAgg2
  z2 := Try.sizeOf2
  v2 := Try.zeroValue2
  t3 := Try.underlying3
  a3 := Try.isAgg3
  z3 := Try.sizeOf3
  v3 := Try.zeroValue3
  t4 := Try.underlying4
  a4 := Try.isAgg4
  z4 := Try.sizeOf4
  v4 := Try.zeroValue4
  t5 := Try.underlying5
  a5 := Try.isAgg5
  z5 := Try.sizeOf5
  v5 := Try.zeroValue5
  t9 := Try.underlying9
  a9 := Try.isAgg9
  z9 := Try.sizeOf9
  v9 := Try.zeroValue9
  t20 := Try.underlying20
  a20 := Try.isAgg20
  z20 := Try.sizeOf20
  v20 := Try.zeroValue20
  t37 := Try.underlying22
  a37 := Try.isAgg22
  z37 := Try.sizeOf22
  v37 := Try.zeroValue22
  t46 := Try.underlying78
  a46 := Try.isAgg78
  z46 := Try.sizeOf78
  v46 := Try.zeroValue78
  t51 := Try.underlying58
  a51 := Try.isAgg58
  z51 := Try.sizeOf58
  v51 := Try.zeroValue58
  t53 := Try.underlying69
  a53 := Try.isAgg69
  z53 := Try.sizeOf69
  v53 := Try.zeroValue69
  t171 := Try.underlying68
  a171 := Try.isAgg68
  z171 := Try.sizeOf68
  v171 := Try.zeroValue68
  t173 := Try.underlying72
  a173 := Try.isAgg72
  z173 := Try.sizeOf72
  v173 := Try.zeroValue72
  t212 := Try.underlying75
  a212 := Try.isAgg75
  z212 := Try.sizeOf75
  v212 := Try.zeroValue75
  t213 := Try.underlying76
  a213 := Try.isAgg76
  z213 := Try.sizeOf76
  t232 := Try.underlying81
  a232 := Try.isAgg81
  z232 := Try.sizeOf81
  v232 := Try.zeroValue81
  t233 := Try.underlying82
  a233 := Try.isAgg82
  z233 := Try.sizeOf82
  v233 := Try.zeroValue82
  g17 := by kernel_rfl
  g18 := by kernel_rfl
  g19 := by kernel_rfl }

theorem itoa_c (i : Nat) (hi : i < 100) (w : World) :
    Calls Try.prog 38 #[.int .i64 i] w fun e w' => e = .returned (.string ⟨(Lib.decDigits i).toArray⟩) ∧ w' = w := Any.strconv_Itoa_small Ia.lays171 i hi w
end Go.Proofs.Ytmmnihgnejndjaa
