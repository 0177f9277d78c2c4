import Derived.Test.YtlkkibiedlakfaaGreatYp
import Derived.Test.YtlkkibiedlakfaaGreatYk
import Derived.Test.YtlkkibiedlakfaaGreatYl
namespace Go.Proofs.YtlkkibiedlakfaaGreat.yq
open Go.RowKit Go.PlainAid Go.Maps Go.Shelf
open Go.Proofs.YtlkkibiedlakfaaGreat.ca Go.Proofs.YtlkkibiedlakfaaGreat.cb Go.Proofs.YtlkkibiedlakfaaGreat.cp Go.Proofs.YtlkkibiedlakfaaGreat.kp Go.Proofs.YtlkkibiedlakfaaGreat.ka Go.Proofs.YtlkkibiedlakfaaGreat.ya Go.Proofs.YtlkkibiedlakfaaGreat.yb Go.Proofs.YtlkkibiedlakfaaGreat.yc Go.Proofs.YtlkkibiedlakfaaGreat.yd Go.Proofs.YtlkkibiedlakfaaGreat.ye Go.Proofs.YtlkkibiedlakfaaGreat.yf Go.Proofs.YtlkkibiedlakfaaGreat.yg Go.Proofs.YtlkkibiedlakfaaGreat.yi Go.Proofs.YtlkkibiedlakfaaGreat.yk Go.Proofs.YtlkkibiedlakfaaGreat.yl Go.Proofs.YtlkkibiedlakfaaGreat.yo Go.Proofs.YtlkkibiedlakfaaGreat.yp Go.Proofs.YtlkkibiedlakfaaGreat.sb Go.Proofs.YtlkkibiedlakfaaGreat.mc
set_option linter.unusedVariables false
set_option linter.unusedSimpArgs false
def kK : ByteArray := ⟨#[107]⟩
def vV : ByteArray := ⟨#[118]⟩
def s0 : S := ⟨100, [], [], 0, false, 0⟩
def s1 : S := ⟨100, [], [⟨false, kK, vV⟩], 0, false, 0⟩
def s2 : S := ⟨100, [(kK, vV)], [], 0, false, 0⟩
theorem put_is : putS s0 kK vV = (0, s1) := by kernel_rfl
theorem sync_is : syncS s1 = (0, s2) := by kernel_rfl
theorem get_is : getS s2 kK = (vV, 0) := by kernel_rfl
theorem tot_is : tot (now s2) = 18 := by kernel_rfl
theorem img_is : imageT s2.dur = ⟨#[83, 1, 107, 0, 0, 0, 1, 118]⟩ := by kernel_rfl
end Go.Proofs.YtlkkibiedlakfaaGreat.yq
