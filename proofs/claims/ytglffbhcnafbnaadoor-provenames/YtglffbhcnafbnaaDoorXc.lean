import Derived.Test.YtglffbhcnafbnaaDoorXa
import Derived.Test.YtglffbhcnafbnaaDoorXb
import Derived.Test.YtglffbhcnafbnaaDoorCp
import Derived.Shelf.Spec.TrailingZeros
namespace Go.Proofs.YtglffbhcnafbnaaDoor.xc
open Go.RowKit Go.PlainAid
open Go.Proofs.YtglffbhcnafbnaaDoor.ca Go.Proofs.YtglffbhcnafbnaaDoor.cp Go.Proofs.YtglffbhcnafbnaaDoor.xa Go.Proofs.YtglffbhcnafbnaaDoor.xb
set_option linter.unusedVariables false

def TabB (w : World) : Prop := ∀ j, j < 64 → w.cell? ⟨3, j, none⟩ = some (.int .u8 (Lib.deBruijn64tab.getD j 0))

set_option maxHeartbeats 1000000 in
theorem tz_core (x k idx : Nat) (w : World) (hx : x < 18446744073709551616) (hx0 : ((x : Int) == 0) = false)
    (key : IntKind.u64.wrap (bits BinOp.and IntKind.u64 (x : Int) (IntKind.u64.wrap (-(x : Int))) * 285870213051353865) / 288230376151711744 = (idx : Int))
    (hi : idx < 64) (hk : k < 64) (hcell : w.cell? ⟨3, idx, none⟩ = some (.int .u8 k)) :
    Calls Tryd.prog 111 #[.int .u64 x] w fun e w' => e = .returned (.int .i64 k) ∧ w' = w := by
  go_enter Tryd.func111, Tryd.ntmps111
  go_wp2_with (simp only [key])
  go_ret
  exact ⟨rfl, rfl⟩

theorem tz (x : Nat) (w : World) (hx : x < 18446744073709551616) (hx0 : x ≠ 0) (hT : TabB w) :
    Calls Tryd.prog 111 #[.int .u64 x] w fun e w' => e = .returned (.int .i64 (Lib.ctz 64 x)) ∧ w' = w := by
  obtain ⟨hlow, hk⟩ := Lib.lowest_bit 64 x hx0 hx
  obtain ⟨hi, htab⟩ := Lib.deBruijn64_at _ hk
  have hcell := hT _ hi
  rw [htab] at hcell
  exact tz_core x _ _ w hx (by simp; omega) (Go.Proofs.tz64_key x _ hx hx0 hlow) hi hk hcell
theorem bits_any (n : Int) (w : World) (h0 : -9223372036854775808 ≤ n) (h1 : n ≤ 9223372036854775807) :
    Calls Tryd.prog 98 #[.int .i64 n] w fun e w' => e = .returned (.int .i64 (Lib.bitLen n.toNat)) ∧ w' = w := by
  by_cases h : n ≤ 0
  · have HB : Hid _ := bits_out n h
    go_enter Tryd.func98, Tryd.ntmps98
    go_wp2
    go_ret
    exact ⟨Go.Proofs.YtglffbhcnafbnaaDoor.xb.ret_i64 (by rw [HB.out]; rfl), rfl⟩
  · go_enter Tryd.func98, Tryd.ntmps98
    go_wp2_with (go_at_call 110; refine (len_any n _ (by omega) (by omega)).mono ?_; rintro e w' ⟨rfl, rfl⟩)
    go_ret
    exact ⟨rfl, rfl⟩

theorem zeros_no (n : Int) (w : World) (h : n ≤ 0) :
    Calls Tryd.prog 97 #[.int .i64 n] w fun e w' => e = .returned (.int .i64 63) ∧ w' = w := by
  go_enter Tryd.func97, Tryd.ntmps97
  go_wp2
  go_ret
  exact ⟨rfl, rfl⟩

theorem zeros_yes (m : Nat) (w : World) (h0 : 0 < m) (h1 : m ≤ 9223372036854775807) (HT : Hid (TabB w)) :
    Calls Tryd.prog 97 #[.int .i64 m] w fun e w' => e = .returned (.int .i64 (Lib.ctz 64 m)) ∧ w' = w := by
  have d0 : decide ((m : Int) ≤ 0) = false := by simp; omega
  have d1 : decide (m = 0) = false := by simp; omega
  have hn : ¬ (m : Int) ≤ 0 := by omega
  go_enter Tryd.func97, Tryd.ntmps97
  go_wp2_with (go_at_call 111; refine (tz m _ (by omega) (by omega) HT.out).mono ?_; rintro e w' ⟨rfl, rfl⟩)
  go_ret
  exact ⟨rfl, rfl⟩

theorem TabB.later {w w' : World} (h : TabB w) (hb : Below w.heap.size w w') : TabB w' := fun j hj => by
  have := h j hj
  exact (hb.cell (p := ⟨3, j, none⟩) (World.block_lt_of_cell? _ _ this)).trans this
theorem zeros (m : Nat) (w : World) (h1 : m ≤ 9223372036854775807) (HT : Hid (TabB w)) :
    Calls Tryd.prog 97 #[.int .i64 m] w fun e w' => e = .returned (.int .i64 (zer m : Nat)) ∧ w' = w := by
  unfold zer
  by_cases h : m = 0
  · subst h
    exact zeros_no 0 w (by omega)
  · rw [if_neg h]
    exact zeros_yes m w (by omega) h1 HT
theorem bitsN (m : Nat) (w : World) (h1 : m ≤ 9223372036854775807) :
    Calls Tryd.prog 98 #[.int .i64 m] w fun e w' => e = .returned (.int .i64 (Lib.bitLen m : Nat)) ∧ w' = w := by
  have := bits_any m w (by omega) (by omega)
  rw [Int.toNat_natCast] at this
  exact this
end Go.Proofs.YtglffbhcnafbnaaDoor.xc
