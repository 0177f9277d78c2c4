import Derived.Test.YtmigdhohbjnhcaaDoorProg
import Derived.WalkKit
import Derived.WalkSpells
import Derived.PlainAid
import Derived.Lib.BitFns
namespace Go.Proofs.YtmigdhohbjnhcaaDoor.xb
open Go.RowKit Go.PlainAid
set_option linter.unusedVariables false

theorem ret_i64 {a b : Int} (h : a = b) : Ending.returned (.int .i64 a) = .returned (.int .i64 b) := by rw [h]

theorem bt_len8 (k : Nat) (h : k < 256) : bt Lib.len8tab k = Lib.bitLen k := by
  have key : ∀ n : Fin 256, bt Lib.len8tab n.val = Lib.bitLen n.val := by decide +kernel
  exact key ⟨k, h⟩

theorem sh (x : Int) (k : Nat) (y n : Int) (h0 : 0 ≤ x) (h1 : x ≤ 18446744073709551615) (hy : y = x / 2 ^ k) (hk : 2 ^ k ≤ x.toNat) (hn : n = k) (hk' : k ≤ 64) (hb : y ≤ 255) (hy0 : 0 ≤ y) :
    wrap64 (n + wrap64 (bt Lib.len8tab y.toNat)) = Lib.bitLen x.toNat := by
  have e : y.toNat = x.toNat / 2 ^ k := by
    subst hy
    obtain ⟨m, rfl⟩ := Int.eq_ofNat_of_zero_le h0
    simp only [Int.toNat_natCast]
    have : ((m : Int) / 2 ^ k) = ((m / 2 ^ k : Nat) : Int) := by simp
    rw [this, Int.toNat_natCast]
  have l := Lib.bitLen_le8' y hy0 hb
  rw [bt_len8 y.toNat (by omega), Lib.bitLen_shift k x.toNat hk (by omega), hn, ← e, IntWalk.wrap64_in (Lib.bitLen y.toNat) ⟨by omega, by omega⟩, IntWalk.wrap64_in _ ⟨by omega, by omega⟩]
  omega

theorem sh0 (x : Int) (h0 : 0 ≤ x) (hb : x ≤ 255) : wrap64 (wrap64 (bt Lib.len8tab x.toNat)) = Lib.bitLen x.toNat := by
  have l := Lib.bitLen_le8' x h0 hb
  rw [bt_len8 x.toNat (by omega), IntWalk.wrap64_in (Lib.bitLen x.toNat) ⟨by omega, by omega⟩, IntWalk.wrap64_in _ ⟨by omega, by omega⟩]

set_option maxHeartbeats 1600000 in
set_option maxRecDepth 100000 in
theorem len_any (x : Int) (w : World) (h0 : 0 ≤ x) (h1 : x ≤ 18446744073709551615) :
    Calls Tryd.prog 47 #[.int .u64 x] w fun e w' => e = .returned (.int .i64 (Lib.bitLen x.toNat)) ∧ w' = w := by
  have hsz : Lib.len8tab.size = 256 ∧ True := ⟨Lib.len8tab_size, trivial⟩
  have hbt := get_bt Lib.len8tab
  go_enter Tryd.func47, Tryd.ntmps47
  go_wp2
  all_goals
    go_ret
    refine ⟨ret_i64 ?_, rfl⟩
    first
      | exact sh x 56 _ _ h0 h1 (by omega) (by omega) (by omega) (by omega) (by omega) (by omega)
      | exact sh x 48 _ _ h0 h1 (by omega) (by omega) (by omega) (by omega) (by omega) (by omega)
      | exact sh x 40 _ _ h0 h1 (by omega) (by omega) (by omega) (by omega) (by omega) (by omega)
      | exact sh x 32 _ _ h0 h1 (by omega) (by omega) (by omega) (by omega) (by omega) (by omega)
      | exact sh x 24 _ _ h0 h1 (by omega) (by omega) (by omega) (by omega) (by omega) (by omega)
      | exact sh x 16 _ _ h0 h1 (by omega) (by omega) (by omega) (by omega) (by omega) (by omega)
      | exact sh x 8 _ _ h0 h1 (by omega) (by omega) (by omega) (by omega) (by omega) (by omega)
      | exact sh0 x h0 (by omega)
end Go.Proofs.YtmigdhohbjnhcaaDoor.xb
