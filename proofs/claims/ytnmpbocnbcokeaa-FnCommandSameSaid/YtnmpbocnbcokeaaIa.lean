/-
  strconv.Itoa of a number below 100, by the library's contract, at this program's numbers.
-/
import Derived.Shelf.LaysM
import Derived.Shelf.Strconv.Itoa3
import Derived.Test.YtnmpbocnbcokeaaChecked
namespace Go.Proofs.Ytnmpbocnbcokeaa
open Go.Shelf
def Ia.lays171_ren : Go.Shelf.Ren := ⟨fun | 171 => 79 | 243 => 80 | 246 => 81 | 283 => 82 | 284 => 83 | 285 => 84 | 286 => 85 | 129 => 87 | 317 => 86 | 318 => 88 | 319 => 89 | 320 => 90 | 337 => 91 | 338 => 92 | n => n, fun | 3 => 3 | 9 => 9 | 2 => 2 | 4 => 4 | 171 => 109 | 0 => 0 | 53 => 110 | 37 => 22 | 5 => 5 | 173 => 113 | 212 => 116 | 51 => 91 | 20 => 20 | 213 => 117 | 46 => 90 | 232 => 121 | 233 => 122 | n => n, fun | 17 => 1 | 18 => 2 | 19 => 3 | n => n⟩
theorem Ia.lays171 : Go.Proofs.Lays.n171 Try.prog Ia.lays171_ren := {
  mixed := by kernel_rfl
  f129 := Try.func87.trans (congrArg some (by kernel_rfl))
  f171 := Try.func79.trans (congrArg some (by kernel_rfl))
  f243 := Try.func80.trans (congrArg some (by kernel_rfl))
  f246 := Try.func81.trans (congrArg some (by kernel_rfl))
  f283 := Try.func82.trans (congrArg some (by kernel_rfl))
  f284 := Try.func83.trans (congrArg some (by kernel_rfl))
  f285 := Try.func84.trans (congrArg some (by kernel_rfl))
  f286 := Try.func85.trans (congrArg some (by kernel_rfl))
  f317 := Try.func86.trans (congrArg some (by kernel_rfl))
  f318 := Try.func88.trans (congrArg some (by kernel_rfl))
  f319 := Try.func89.trans (congrArg some (by kernel_rfl))
  f320 := Try.func90.trans (congrArg some (by kernel_rfl))
  f337 := Try.func91.trans (congrArg some (by kernel_rfl))
  f338 := Try.func92.trans (congrArg some (by kernel_rfl))
  t0 := Try.underlying0
  a0 := Try.isAgg0
  z0 := Try.sizeOf0
  v0 := Try.zeroValue0
  t2 := Try.underlying2
  a2 := Try.isAgg2
  z2 := Try.sizeOf2
  v2 := Try.zeroValue2
  t3 := Try.underlying3
  a3 := Try.isAgg3
  z3 := Try.sizeOf3
  v3 := Try.zeroValue3
  t4 := Try.underlying4
  a4 := Try.isAgg4
  z4 := Try.sizeOf4
  v4 := Try.zeroValue4
  t5 := Try.underlying5
  a5 := Try.isAgg5
  z5 := Try.sizeOf5
  v5 := Try.zeroValue5
  t9 := Try.underlying9
  a9 := Try.isAgg9
  z9 := Try.sizeOf9
  v9 := Try.zeroValue9
  t20 := Try.underlying20
  a20 := Try.isAgg20
  z20 := Try.sizeOf20
  v20 := Try.zeroValue20
  t37 := Try.underlying22
  a37 := Try.isAgg22
  z37 := Try.sizeOf22
  v37 := Try.zeroValue22
  t46 := Try.underlying90
  a46 := Try.isAgg90
  z46 := Try.sizeOf90
  v46 := Try.zeroValue90
  t51 := Try.underlying91
  a51 := Try.isAgg91
  z51 := Try.sizeOf91
  v51 := Try.zeroValue91
  t53 := Try.underlying110
  a53 := Try.isAgg110
  z53 := Try.sizeOf110
  v53 := Try.zeroValue110
  t171 := Try.underlying109
  a171 := Try.isAgg109
  z171 := Try.sizeOf109
  v171 := Try.zeroValue109
  t173 := Try.underlying113
  a173 := Try.isAgg113
  z173 := Try.sizeOf113
  v173 := Try.zeroValue113
  t212 := Try.underlying116
  a212 := Try.isAgg116
  z212 := Try.sizeOf116
  v212 := Try.zeroValue116
  t213 := Try.underlying117
  a213 := Try.isAgg117
  z213 := Try.sizeOf117
  t232 := Try.underlying121
  a232 := Try.isAgg121
  z232 := Try.sizeOf121
  v232 := Try.zeroValue121
  t233 := Try.underlying122
  a233 := Try.isAgg122
  z233 := Try.sizeOf122
  v233 := Try.zeroValue122
  g17 := by kernel_rfl
  g18 := by kernel_rfl
  g19 := by kernel_rfl }

theorem itoa_c (i : Nat) (hi : i < 100) (w : World) :
    Calls Try.prog 79 #[.int .i64 i] w fun e w' => e = .returned (.string ⟨(Lib.decDigits i).toArray⟩) ∧ w' = w := Any.strconv_Itoa_small Ia.lays171 i hi w
end Go.Proofs.Ytnmpbocnbcokeaa
