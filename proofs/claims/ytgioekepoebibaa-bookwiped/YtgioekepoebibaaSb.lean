import Derived.Shelf.Pu.Clone
import Derived.Test.YtgioekepoebibaaProg
namespace Go.Proofs.Ytgioekepoebibaa.sb
open Go.Shelf
set_option linter.unusedVariables false
def renC : Go.Shelf.Ren := ⟨fun | 25 => 70 | n => n, fun | 0 => 0 | 3 => 3 | 4 => 4 | 5 => 5 | 9 => 9 | 37 => 33 | 47 => 117 | n => n, fun | n => n⟩
theorem laysC : Go.Proofs.LaysPu.n25 Try.prog renC := {
  mixed := by kernel_rfl
  f25 := Try.func70.trans (congrArg some (by kernel_rfl))
  t0 := Try.underlying0
  a0 := Try.isAgg0
  z0 := Try.sizeOf0
  v0 := Try.zeroValue0
  i0 := by kernel_rfl
  t3 := Try.underlying3
  a3 := Try.isAgg3
  z3 := Try.sizeOf3
  v3 := Try.zeroValue3
  i3 := by kernel_rfl
  t4 := Try.underlying4
  a4 := Try.isAgg4
  z4 := Try.sizeOf4
  v4 := Try.zeroValue4
  i4 := by kernel_rfl
  t5 := Try.underlying5
  a5 := Try.isAgg5
  z5 := Try.sizeOf5
  v5 := Try.zeroValue5
  i5 := by kernel_rfl
  t9 := Try.underlying9
  a9 := Try.isAgg9
  z9 := Try.sizeOf9
  v9 := Try.zeroValue9
  i9 := by kernel_rfl
  t37 := Try.underlying33
  a37 := Try.isAgg33
  z37 := Try.sizeOf33
  v37 := Try.zeroValue33
  i37 := by kernel_rfl
  t47 := Try.underlying117
  a47 := Try.isAgg117
  z47 := Try.sizeOf117
  v47 := Try.zeroValue117
  i47 := by kernel_rfl }
end Go.Proofs.Ytgioekepoebibaa.sb
