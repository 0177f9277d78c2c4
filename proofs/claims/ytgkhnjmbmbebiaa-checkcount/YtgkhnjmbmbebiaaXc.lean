import Derived.Test.YtgkhnjmbmbebiaaXa
import Derived.Test.YtgkhnjmbmbebiaaXb
import Derived.Test.YtgkhnjmbmbebiaaCp
import Derived.Shelf.Spec.TrailingZeros
namespace Go.Proofs.Ytgkhnjmbmbebiaa.xc
open Go.RowKit Go.PlainAid
open Go.Proofs.Ytgkhnjmbmbebiaa.ca Go.Proofs.Ytgkhnjmbmbebiaa.cp Go.Proofs.Ytgkhnjmbmbebiaa.xa Go.Proofs.Ytgkhnjmbmbebiaa.xb
set_option linter.unusedVariables false

theorem bits_any (n : Int) (w : World) (h0 : -9223372036854775808 ≤ n) (h1 : n ≤ 9223372036854775807) :
    Calls Try.prog 11 #[.int .i64 n] w fun e w' => e = .returned (.int .i64 (Lib.bitLen n.toNat)) ∧ w' = w := by
  by_cases h : n ≤ 0
  · have HB : Hid _ := bits_out n h
    go_enter Try.func11, Try.ntmps11
    go_wp2
    go_ret
    exact ⟨Go.Proofs.Ytgkhnjmbmbebiaa.xb.ret_i64 (by rw [HB.out]; rfl), rfl⟩
  · go_enter Try.func11, Try.ntmps11
    go_wp2_with (go_at_call 20; refine (len_any n _ (by omega) (by omega)).mono ?_; rintro e w' ⟨rfl, rfl⟩)
    go_ret
    exact ⟨rfl, rfl⟩

theorem bitsN (m : Nat) (w : World) (h1 : m ≤ 9223372036854775807) :
    Calls Try.prog 11 #[.int .i64 m] w fun e w' => e = .returned (.int .i64 (Lib.bitLen m : Nat)) ∧ w' = w := by
  have := bits_any m w (by omega) (by omega)
  rw [Int.toNat_natCast] at this
  exact this
end Go.Proofs.Ytgkhnjmbmbebiaa.xc
