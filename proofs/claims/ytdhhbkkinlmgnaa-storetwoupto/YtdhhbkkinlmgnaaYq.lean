import Derived.Test.YtdhhbkkinlmgnaaYp
import Derived.Test.YtdhhbkkinlmgnaaYk
import Derived.Test.YtdhhbkkinlmgnaaYl
namespace Go.Proofs.Ytdhhbkkinlmgnaa.yq
open Go.RowKit Go.PlainAid Go.Maps Go.Shelf
open Go.Proofs.Ytdhhbkkinlmgnaa.ca Go.Proofs.Ytdhhbkkinlmgnaa.cb Go.Proofs.Ytdhhbkkinlmgnaa.cp Go.Proofs.Ytdhhbkkinlmgnaa.kp Go.Proofs.Ytdhhbkkinlmgnaa.ka Go.Proofs.Ytdhhbkkinlmgnaa.ya Go.Proofs.Ytdhhbkkinlmgnaa.yb Go.Proofs.Ytdhhbkkinlmgnaa.yc Go.Proofs.Ytdhhbkkinlmgnaa.yd Go.Proofs.Ytdhhbkkinlmgnaa.ye Go.Proofs.Ytdhhbkkinlmgnaa.yf Go.Proofs.Ytdhhbkkinlmgnaa.yg Go.Proofs.Ytdhhbkkinlmgnaa.yi Go.Proofs.Ytdhhbkkinlmgnaa.yk Go.Proofs.Ytdhhbkkinlmgnaa.yl Go.Proofs.Ytdhhbkkinlmgnaa.yo Go.Proofs.Ytdhhbkkinlmgnaa.yp Go.Proofs.Ytdhhbkkinlmgnaa.sb Go.Proofs.Ytdhhbkkinlmgnaa.mc
set_option linter.unusedVariables false
set_option linter.unusedSimpArgs false
def kK : ByteArray := ⟨#[107]⟩
def vV : ByteArray := ⟨#[118]⟩
def s0 : S := ⟨100, [], [], 0, false, 0⟩
def s1 : S := ⟨100, [], [⟨false, kK, vV⟩], 0, false, 0⟩
def s2 : S := ⟨100, [(kK, vV)], [], 0, false, 0⟩
theorem put_is : putS s0 kK vV = (0, s1) := by kernel_rfl
theorem sync_is : syncS s1 = (0, s2) := by kernel_rfl
theorem get_is : getS s2 kK = (vV, 0) := by kernel_rfl
theorem tot_is : tot (now s2) = 18 := by kernel_rfl
theorem img_is : imageT s2.dur = ⟨#[83, 1, 107, 0, 0, 0, 1, 118]⟩ := by kernel_rfl
end Go.Proofs.Ytdhhbkkinlmgnaa.yq
