import Derived.Test.YtjbaagcpcdmcnaaYp
import Derived.Test.YtjbaagcpcdmcnaaYk
import Derived.Test.YtjbaagcpcdmcnaaYl
namespace Go.Proofs.Ytjbaagcpcdmcnaa.yq
open Go.RowKit Go.PlainAid Go.Maps Go.Shelf
open Go.Proofs.Ytjbaagcpcdmcnaa.ca Go.Proofs.Ytjbaagcpcdmcnaa.cb Go.Proofs.Ytjbaagcpcdmcnaa.cp Go.Proofs.Ytjbaagcpcdmcnaa.kp Go.Proofs.Ytjbaagcpcdmcnaa.ka Go.Proofs.Ytjbaagcpcdmcnaa.ya Go.Proofs.Ytjbaagcpcdmcnaa.yb Go.Proofs.Ytjbaagcpcdmcnaa.yc Go.Proofs.Ytjbaagcpcdmcnaa.yd Go.Proofs.Ytjbaagcpcdmcnaa.ye Go.Proofs.Ytjbaagcpcdmcnaa.yf Go.Proofs.Ytjbaagcpcdmcnaa.yg Go.Proofs.Ytjbaagcpcdmcnaa.yi Go.Proofs.Ytjbaagcpcdmcnaa.yk Go.Proofs.Ytjbaagcpcdmcnaa.yl Go.Proofs.Ytjbaagcpcdmcnaa.yo Go.Proofs.Ytjbaagcpcdmcnaa.yp Go.Proofs.Ytjbaagcpcdmcnaa.sb Go.Proofs.Ytjbaagcpcdmcnaa.mc
set_option linter.unusedVariables false
set_option linter.unusedSimpArgs false
def kK : ByteArray := ⟨#[107]⟩
def vV : ByteArray := ⟨#[118]⟩
def s0 : S := ⟨100, [], [], 0, false, 0⟩
def s1 : S := ⟨100, [], [⟨false, kK, vV⟩], 0, false, 0⟩
def s2 : S := ⟨100, [(kK, vV)], [], 0, false, 0⟩
theorem put_is : putS s0 kK vV = (0, s1) := by kernel_rfl
theorem sync_is : syncS s1 = (0, s2) := by kernel_rfl
theorem get_is : getS s2 kK = (vV, 0) := by kernel_rfl
theorem tot_is : tot (now s2) = 18 := by kernel_rfl
theorem img_is : imageT s2.dur = ⟨#[83, 1, 107, 0, 0, 0, 1, 118]⟩ := by kernel_rfl
end Go.Proofs.Ytjbaagcpcdmcnaa.yq
