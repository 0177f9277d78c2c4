import Derived.Test.YtjjeiklhmbhhoaaCn
import Derived.Test.YtjjeiklhmbhhoaaCq
import Derived.Test.YtjjeiklhmbhhoaaCr
namespace Go.Proofs.Ytjjeiklhmbhhoaa.cm
open Go.RowKit Go.PlainAid
open Go.Proofs.Ytjjeiklhmbhhoaa.ca Go.Proofs.Ytjjeiklhmbhhoaa.cp Go.Proofs.Ytjjeiklhmbhhoaa.cn Go.Proofs.Ytjjeiklhmbhhoaa.cu Go.Proofs.Ytjjeiklhmbhhoaa.cq Go.Proofs.Ytjjeiklhmbhhoaa.cr
set_option linter.unusedVariables false

set_option maxHeartbeats 800000 in
theorem tree_names (VA : ValidC) (PA : ParentC) (w : World) :
    Calls Try.prog 3 #[] w fun e w' => e = .returned (.bool true) ∧ Below w.heap.size w w' := by
  have P1 : Hid (∀ w, Calls _ _ _ _ _) := fun w => PA (-1) 0 ⟨by omega, by omega⟩ ⟨by omega, by omega⟩ w
  have V1 : Hid (∀ w, Calls _ _ _ _ _) := fun w => VA 0 0 ⟨by omega, by omega⟩ ⟨by omega, by omega⟩ w
  rw [kin_no (fun h => by have := h.1.1; omega)] at P1
  rw [decide_eq_true (show okA 0 0 from by unfold okA; decide)] at V1
  have N50 : Hid (∀ w, Calls _ _ _ _ _) := fun w => num 50 w
  have N10 : Hid (∀ w, Calls _ _ _ _ _) := fun w => num 10 w
  clear VA PA
  go_enter Try.func3, Try.ntmps3
  go_wp2_with fail
  refine (P1.out _).mono ?_
  rintro e w1 ⟨rfl, hb⟩
  have B1 : Hid (Below w.heap.size w w1) := hb
  clear hb
  go_wp2_with fail
  refine (V1.out _).mono ?_
  rintro e w2 ⟨rfl, hb⟩
  have B2 : Hid (Below w.heap.size w w2) := over (B1.out.alloc B1.out.size _) hb
  clear hb
  go_wp2_with fail
  refine (N50.out _).mono ?_
  rintro e w3 ⟨rfl, hw⟩
  subst hw
  go_wp2_with fail
  refine (N50.out _).mono ?_
  rintro e w4 ⟨rfl, hw⟩
  subst hw
  go_wp2_with fail
  refine (N10.out _).mono ?_
  rintro e w5 ⟨rfl, hw⟩
  subst hw
  go_wp2
  go_ret
  exact ⟨rfl, B2.out⟩
end Go.Proofs.Ytjjeiklhmbhhoaa.cm
