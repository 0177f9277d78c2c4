import Derived.Test.YtnjkjmkhpdioaabDoorRows
import Derived.Test.YtnjkjmkhpdioaabDoorPl
import Derived.WalkKit
import Derived.WalkSpells
import Derived.Below
import Derived.PlainAid
import Derived.Shelf.Spec.TrailingZeros
namespace Go.Proofs.YtnjkjmkhpdioaabDoor.a
open Go.RowKit Go.PlainAid
open Go.Proofs.YtnjkjmkhpdioaabDoor.pl
set_option linter.unusedVariables false

theorem ret_i64 {a b : Int} (h : a = b) : Ending.returned (.int .i64 a) = .returned (.int .i64 b) := by rw [h]

theorem rbits (n : Int) (w : World) (h0 : -9223372036854775808 ≤ n) (h1 : n ≤ 9223372036854775807) :
    Calls Tryd.prog 11 #[.int .i64 n] w fun e w' => e = .returned (.int .i64 (Lib.bitLen n.toNat)) ∧ w' = w := by
  go_enter Tryd.func11, Tryd.ntmps11
  go_wp2
  go_loop [0, 3] (fun x k => ∃ (y : Int) (j : Nat), x = .int .i64 y ∧ k = .int .i64 j ∧ y ≤ 9223372036854775807 ∧ -9223372036854775808 ≤ y ∧ j + Lib.bitLen y.toNat = Lib.bitLen n.toNat) (fun x _ => (intOf x).toNat)
  case atStart => exact ⟨n, 0, rfl, rfl, h1, h0, by omega⟩
  case round =>
    obtain ⟨y, j, rfl, rfl, hy, hy0, hR⟩ := hrel
    have HR : Hid _ := hR
    clear hR
    have hl := Lib.bitLenAux_le 64 n.toNat 64 (by omega)
    have hj : j ≤ 64 := by have := HR.out; unfold Lib.bitLen at this; omega
    clear hl
    by_cases hp : 0 < y
    · have HH : Hid _ := half y hp hy
      go_wp2
      go_round
      case rel => exact ⟨y / 2, j + 1, rfl, by go_num, by omega, by omega, by have := HR.out; have := HH.out; omega⟩
      case measure => simp [intOf]; omega
    · go_wp2
      go_ret
      exact ⟨ret_i64 (by have h2 := HR.out; have := bits_out y (by omega); omega), rfl⟩

theorem ones_int (x : Int) (h0 : 0 < x) (h1 : x ≤ 9223372036854775807) : ((Lib.onesCount x.toNat : Nat) : Int) = x % 2 + ((Lib.onesCount (x / 2).toNat : Nat) : Int) := by
  rw [ones_half x.toNat (by omega), show x.toNat / 2 = (x / 2).toNat by omega]
  omega

theorem rones (n : Int) (w : World) (h0 : -9223372036854775808 ≤ n) (h1 : n ≤ 9223372036854775807) :
    Calls Tryd.prog 12 #[.int .i64 n] w fun e w' => e = .returned (.int .i64 (Lib.onesCount n.toNat)) ∧ w' = w := by
  go_enter Tryd.func12, Tryd.ntmps12
  go_wp2
  go_loop [0, 3] (fun x k => ∃ (y j : Int), x = .int .i64 y ∧ k = .int .i64 j ∧ y ≤ 9223372036854775807 ∧ -9223372036854775808 ≤ y ∧ 0 ≤ j ∧ j + (Lib.onesCount y.toNat : Nat) = (Lib.onesCount n.toNat : Nat)) (fun x _ => (intOf x).toNat)
  case atStart => exact ⟨n, 0, rfl, rfl, h1, h0, by omega, by omega⟩
  case round =>
    obtain ⟨y, j, rfl, rfl, hy, hy0, hj0, hR⟩ := hrel
    have HR : Hid _ := hR
    clear hR
    have hj : j ≤ 64 := by have := HR.out; have := ones_le n.toNat; omega
    by_cases hp : 0 < y
    · have HH : Hid _ := ones_int y hp hy
      go_wp2
      go_round
      case rel => exact ⟨y / 2, j + y % 2, rfl, rfl, by omega, by omega, by omega, by have := HR.out; have := HH.out; omega⟩
      case measure => simp [intOf]; omega
    · go_wp2
      go_ret
      refine ⟨ret_i64 ?_, rfl⟩
      have h2 := HR.out
      have h3 : Lib.onesCount y.toNat = 0 := by rw [show y.toNat = 0 by omega]; exact ones_zero
      omega

theorem rzeros_no (n : Int) (w : World) (h : n ≤ 0) :
    Calls Tryd.prog 13 #[.int .i64 n] w fun e w' => e = .returned (.int .i64 63) ∧ w' = w := by
  go_enter Tryd.func13, Tryd.ntmps13
  go_wp2
  go_ret
  exact ⟨rfl, rfl⟩

theorem rzeros (n : Int) (w : World) (h0 : 0 < n) (h1 : n ≤ 9223372036854775807) :
    Calls Tryd.prog 13 #[.int .i64 n] w fun e w' => e = .returned (.int .i64 (Lib.ctz 64 n.toNat)) ∧ w' = w := by
  have d0 : decide (n ≤ 0) = false := by simp; omega
  go_enter Tryd.func13, Tryd.ntmps13
  go_wp2
  go_loop [0, 3] (fun x k => ∃ (y : Int) (j : Nat), x = .int .i64 y ∧ k = .int .i64 j ∧ y ≤ 9223372036854775807 ∧ 0 < y ∧ j + Lib.ctz 64 y.toNat = Lib.ctz 64 n.toNat) (fun x _ => (intOf x).toNat)
  case atStart => exact ⟨n, 0, rfl, rfl, h1, h0, by omega⟩
  case round =>
    obtain ⟨y, j, rfl, rfl, hy, hy0, hR⟩ := hrel
    have HR : Hid _ := hR
    clear hR
    have hj : j ≤ 62 := by
      obtain ⟨_, _, h⟩ := ctz_spec n.toNat (by omega) (by omega)
      have := HR.out; omega
    by_cases hp : y % 2 = 0
    · have hp' : (y % 2 == 0) = true := by rw [beq_iff_eq]; exact hp
      have HH : Hid (Lib.ctz 64 y.toNat = 1 + Lib.ctz 64 (y / 2).toNat) := by
        show _ = _
        rw [ctz_even y.toNat (by omega) (by omega) (by omega), show y.toNat / 2 = (y / 2).toNat by omega]
      have h2 : 0 < y / 2 := by omega
      clear hp
      go_wp2
      go_round
      case rel => exact ⟨y / 2, j + 1, rfl, by go_num, by omega, by omega, by have := HR.out; have := HH.out; omega⟩
      case measure => simp [intOf]; omega
    · have hp' : (y % 2 == 0) = false := by rw [beq_eq_false_iff_ne]; exact hp
      have HH : Hid _ := ctz_odd y.toNat (by omega)
      go_wp2
      go_ret
      exact ⟨ret_i64 (by have := HR.out; have := HH.out; omega), rfl⟩

theorem rceil (n : Int) (w : World) (h0 : -9223372036854775808 ≤ n) (h1 : n ≤ 9223372036854775807) :
    Calls Tryd.prog 14 #[.int .i64 n] w fun e w' => e = .returned (.int .i64 (Lib.bitLen (n - 1).toNat)) ∧ w' = w := by
  go_enter Tryd.func14, Tryd.ntmps14
  go_wp2
  go_loop [3, 4] (fun k x => ∃ (y : Int) (j : Nat), x = .int .i64 y ∧ k = .int .i64 j ∧ y ≤ 9223372036854775807 ∧ -9223372036854775808 ≤ y ∧ j + Lib.bitLen (y - 1).toNat = Lib.bitLen (n - 1).toNat) (fun _ x => (intOf x).toNat)
  case atStart => exact ⟨n, 0, rfl, rfl, h1, h0, by omega⟩
  case round =>
    obtain ⟨y, j, rfl, rfl, hy, hy0, hR⟩ := hrel
    have HR : Hid _ := hR
    clear hR
    have hl := Lib.bitLenAux_le 64 (n - 1).toNat 64 (by omega)
    have hj : j ≤ 64 := by have := HR.out; unfold Lib.bitLen at this; omega
    clear hl
    by_cases hp : 1 < y
    · have HH : Hid (Lib.bitLen (y - 1).toNat = 1 + Lib.bitLen (y - y / 2 - 1).toNat) := by
        show _ = _
        rw [half (y - 1) (by omega) (by omega), show (y - 1) / 2 = y - y / 2 - 1 by omega]
      go_wp2
      go_round
      case rel => exact ⟨y - y / 2, j + 1, rfl, by go_num, by omega, by omega, by have := HR.out; have := HH.out; omega⟩
      case measure => simp [intOf]; omega
    · go_wp2
      go_ret
      exact ⟨ret_i64 (by have h2 := HR.out; have h3 := bits_out (y - 1) (by omega); rw [show (n - 1).toNat = n.toNat - 1 by omega] at h2; omega), rfl⟩

theorem ret2 {a b : Int} (h : a = b) : Ending.returned (.tuple #[.int .i64 a, .int .i64 0]) = .returned (.tuple #[.int .i64 b, .int .i64 0]) := by rw [h]

theorem rbelow_no (n : Int) (w : World) (h : n < 2) :
    Calls Tryd.prog 10 #[.int .i64 n] w fun e w' => e = .returned (.tuple #[.int .i64 0, .int .i64 10]) ∧ w' = w := by
  go_enter Tryd.func10, Tryd.ntmps10
  go_wp2
  go_ret2
  exact ⟨rfl, rfl⟩

theorem pow_le (a b : Nat) (h : a ≤ b) : (2 : Int) ^ a ≤ 2 ^ b := by exact_mod_cast Nat.pow_le_pow_right (by omega) h

theorem len_int (n : Int) (h : 2 ≤ n) (h1 : n ≤ 9223372036854775807) : ∃ l : Nat, Lib.bitLen (n - 1).toNat = l + 1 ∧ l ≤ 62 ∧ (2 : Int) ^ l ≤ n - 1 ∧ n - 1 < 2 ^ (l + 1) := by
  obtain ⟨s1, s2⟩ := len_spec (n - 1).toNat (by omega)
  obtain ⟨s3, s4⟩ := s2 (by omega)
  have s5 := len_le63 (n - 1).toNat (by omega)
  obtain ⟨l, hl⟩ : ∃ l, Lib.bitLen (n - 1).toNat = l + 1 := ⟨Lib.bitLen (n - 1).toNat - 1, by omega⟩
  rw [hl] at s1 s3 s5
  have c1 : ((2 ^ l : Nat) : Int) = 2 ^ l := by simp
  have c2 : ((2 ^ (l + 1) : Nat) : Int) = 2 ^ (l + 1) := by simp
  rw [Nat.add_sub_cancel] at s3
  exact ⟨l, hl, by omega, by omega, by omega⟩

theorem rbelow (n : Int) (l : Nat) (w : World) (h : 2 ≤ n) (h1 : n ≤ 9223372036854775807) (hl : l ≤ 62) (g1 : (2 : Int) ^ l ≤ n - 1) (g2 : n - 1 < 2 ^ (l + 1)) :
    Calls Tryd.prog 10 #[.int .i64 n] w fun e w' => e = .returned (.tuple #[.int .i64 (2 ^ l), .int .i64 0]) ∧ w' = w := by
  have d0 : decide (n < 2) = false := by simp; omega
  have G1 : Hid _ := g1
  have G2 : Hid _ := g2
  clear g1 g2
  go_enter Tryd.func10, Tryd.ntmps10
  go_wp2
  go_loop [4] (fun p => ∃ j : Nat, j ≤ l ∧ p = .int .i64 (2 ^ j)) (fun p => (n - intOf p).toNat)
  case atStart => exact ⟨0, by omega, rfl⟩
  case round =>
    obtain ⟨j, hj, rfl⟩ := hrel
    have q1 : (0 : Int) < 2 ^ j := Int.pow_pos (by omega)
    have q2 : (2 : Int) ^ j ≤ n - 1 := Int.le_trans (pow_le j l hj) G1.out
    by_cases hp : j < l
    · have q3 : (2 : Int) ^ (j + 1) ≤ n - 1 := Int.le_trans (pow_le (j + 1) l (by omega)) G1.out
      have q4 : (2 : Int) ^ (j + 1) = 2 ^ j * 2 := Int.pow_succ ..
      have H4 : Hid _ := q4
      rw [q4] at q3
      clear q4
      have q5 : (2 : Int) ^ j ≤ (n - 1) / 2 := by omega
      go_wp2
      go_round
      case rel => exact ⟨j + 1, by omega, by rw [H4.out]; go_num⟩
      case measure => simp [intOf]; omega
    · obtain rfl : j = l := by omega
      have q4 : (2 : Int) ^ (j + 1) = 2 ^ j * 2 := Int.pow_succ ..
      have q3 := G2.out
      rw [q4] at q3
      clear q4
      have q5 : ¬ (2 : Int) ^ j ≤ (n - 1) / 2 := by omega
      go_wp2
      go_ret2
      exact ⟨rfl, rfl⟩

theorem and15 (n : Int) : bits .and .i64 n 15 = n % 16 := by
  have h15 : (BitVec.ofInt 64 15).toNat = 2 ^ 4 - 1 := by decide
  have key : (BitVec.ofInt 64 n &&& BitVec.ofInt 64 15).toNat = (n % ((2 ^ 64 : Nat) : Int)).toNat % 2 ^ 4 := by
    rw [BitVec.toNat_and, BitVec.toNat_ofInt, h15, Nat.and_two_pow_sub_one_eq_mod]
  show IntKind.i64.wrap ((BitVec.ofInt 64 n &&& BitVec.ofInt 64 15).toNat : Nat) = n % 16
  rw [key, IntKind.wrap_i64]
  omega

theorem pop_step (m k : Nat) : ((Lib.popAux (4 * (k + 1)) m : Nat) : Int) = (Lib.popAux (4 * k) m : Nat) + hoL.getD (m / 2 ^ (4 * k) % 16) 0 := by
  rw [show 4 * (k + 1) = 4 * k + 4 by omega, pop_add, ← pop_four]
  omega

theorem ones_no (n : Int) (w : World) (h : n ≤ 0) :
    Calls Tryd.prog 9 #[.int .i64 n] w fun e w' => e = .returned (.int .i64 0) ∧ w' = w := by
  go_enter Tryd.func9, Tryd.ntmps9
  go_wp2
  go_ret
  exact ⟨rfl, rfl⟩

def TabH (w : World) : Prop := ∀ j, j < 16 → w.cell? ⟨0, j, none⟩ = some (.int .i64 (hoL.getD j 0))

set_option maxHeartbeats 800000 in
theorem ones_yes (m : Nat) (w : World) (h0 : 0 < m) (h1 : m ≤ 9223372036854775807) (HT : Hid (TabH w)) :
    Calls Tryd.prog 9 #[.int .i64 m] w fun e w' => e = .returned (.int .i64 (Lib.onesCount m)) ∧ w' = w := by
  have d0 : decide ((m : Int) ≤ 0) = false := by simp; omega
  have d1 : decide (m = 0) = false := by simp; omega
  go_enter Tryd.func9, Tryd.ntmps9
  go_wp2_with fail
  go_loop [3, 7] (fun s i => ∃ k : Nat, k ≤ 16 ∧ i = .int .i64 k ∧ s = .int .i64 (Lib.popAux (4 * k) m)) (fun _ i => (16 - intOf i).toNat)
  case atStart => exact ⟨0, by omega, rfl, rfl⟩
  case round =>
    obtain ⟨k, hk, rfl, rfl⟩ := hrel
    by_cases hlt : k < 16
    · have hlt' : (k : Int) < 16 := by omega
      have HP : Hid _ := pop_step m k
      have hpl := pop_le (4 * k) m
      have hc := HT.out (m / 2 ^ (4 * k) % 16) (by omega)
      have hz : 0 ≤ hoL.getD (m / 2 ^ (4 * k) % 16) 0 ∧ hoL.getD (m / 2 ^ (4 * k) % 16) 0 ≤ 4 := by
        rw [← pop_four]; have := pop_le 4 (m / 2 ^ (4 * k)); omega
      have hb : bits BinOp.and IntKind.i64 ((m : Int) / 2 ^ (4 * k)) 15 = ((m / 2 ^ (4 * k) % 16 : Nat) : Int) := by
        rw [and15]; simp
      have hj : m / 2 ^ (4 * k) % 16 < 16 := by omega
      revert HP hc hz hb hj
      generalize m / 2 ^ (4 * k) % 16 = j
      generalize hoL.getD j 0 = z
      intro HP hc hz hb hj
      obtain ⟨z0, z4⟩ := hz
      go_wp2
      go_round
      case rel => exact ⟨k + 1, by omega, by go_num, by rw [HP.out]⟩
      case measure => simp [intOf]; omega
    · have hlt' : ¬ (k : Int) < 16 := by omega
      obtain rfl : k = 16 := by omega
      go_wp2
      go_ret
      exact ⟨rfl, rfl⟩

def TabB (w : World) : Prop := ∀ j, j < 64 → w.cell? ⟨1, j, none⟩ = some (.int .u8 (Lib.deBruijn64tab.getD j 0))

set_option maxHeartbeats 1000000 in
theorem tz_core (x k idx : Nat) (w : World) (hx : x < 18446744073709551616) (hx0 : ((x : Int) == 0) = false)
    (key : IntKind.u64.wrap (bits BinOp.and IntKind.u64 (x : Int) (IntKind.u64.wrap (-(x : Int))) * 285870213051353865) / 288230376151711744 = (idx : Int))
    (hi : idx < 64) (hk : k < 64) (hcell : w.cell? ⟨1, idx, none⟩ = some (.int .u8 k)) :
    Calls Tryd.prog 16 #[.int .u64 x] w fun e w' => e = .returned (.int .i64 k) ∧ w' = w := by
  go_enter Tryd.func16, Tryd.ntmps16
  go_wp2_with (simp only [key])
  go_ret
  exact ⟨rfl, rfl⟩

theorem tz (x : Nat) (w : World) (hx : x < 18446744073709551616) (hx0 : x ≠ 0) (hT : TabB w) :
    Calls Tryd.prog 16 #[.int .u64 x] w fun e w' => e = .returned (.int .i64 (Lib.ctz 64 x)) ∧ w' = w := by
  obtain ⟨hlow, hk⟩ := Lib.lowest_bit 64 x hx0 hx
  obtain ⟨hi, htab⟩ := Lib.deBruijn64_at _ hk
  have hcell := hT _ hi
  rw [htab] at hcell
  exact tz_core x _ _ w hx (by simp; omega) (Go.Proofs.tz64_key x _ hx hx0 hlow) hi hk hcell
end Go.Proofs.YtnjkjmkhpdioaabDoor.a
