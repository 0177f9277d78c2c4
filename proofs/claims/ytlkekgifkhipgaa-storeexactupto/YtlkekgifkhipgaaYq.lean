import Derived.Test.YtlkekgifkhipgaaYp
import Derived.Test.YtlkekgifkhipgaaYk
import Derived.Test.YtlkekgifkhipgaaYl
namespace Go.Proofs.Ytlkekgifkhipgaa.yq
open Go.RowKit Go.PlainAid Go.Maps Go.Shelf
open Go.Proofs.Ytlkekgifkhipgaa.ca Go.Proofs.Ytlkekgifkhipgaa.cb Go.Proofs.Ytlkekgifkhipgaa.cp Go.Proofs.Ytlkekgifkhipgaa.kp Go.Proofs.Ytlkekgifkhipgaa.ka Go.Proofs.Ytlkekgifkhipgaa.ya Go.Proofs.Ytlkekgifkhipgaa.yb Go.Proofs.Ytlkekgifkhipgaa.yc Go.Proofs.Ytlkekgifkhipgaa.yd Go.Proofs.Ytlkekgifkhipgaa.ye Go.Proofs.Ytlkekgifkhipgaa.yf Go.Proofs.Ytlkekgifkhipgaa.yg Go.Proofs.Ytlkekgifkhipgaa.yi Go.Proofs.Ytlkekgifkhipgaa.yk Go.Proofs.Ytlkekgifkhipgaa.yl Go.Proofs.Ytlkekgifkhipgaa.yo Go.Proofs.Ytlkekgifkhipgaa.yp Go.Proofs.Ytlkekgifkhipgaa.sb Go.Proofs.Ytlkekgifkhipgaa.mc
set_option linter.unusedVariables false
set_option linter.unusedSimpArgs false
def kK : ByteArray := ⟨#[107]⟩
def vV : ByteArray := ⟨#[118]⟩
def s0 : S := ⟨100, [], [], 0, false, 0⟩
def s1 : S := ⟨100, [], [⟨false, kK, vV⟩], 0, false, 0⟩
def s2 : S := ⟨100, [(kK, vV)], [], 0, false, 0⟩
theorem put_is : putS s0 kK vV = (0, s1) := by kernel_rfl
theorem sync_is : syncS s1 = (0, s2) := by kernel_rfl
theorem get_is : getS s2 kK = (vV, 0) := by kernel_rfl
theorem tot_is : tot (now s2) = 18 := by kernel_rfl
theorem img_is : imageT s2.dur = ⟨#[83, 1, 107, 0, 0, 0, 1, 118]⟩ := by kernel_rfl
end Go.Proofs.Ytlkekgifkhipgaa.yq
