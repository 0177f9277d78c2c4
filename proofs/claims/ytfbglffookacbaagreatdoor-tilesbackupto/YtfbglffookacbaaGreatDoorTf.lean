import Derived.Test.YtfbglffookacbaaGreatDoorTe
import Derived.Deep.LoopGhost
import Derived.Laws.BitsAllLaws
import Derived.Laws.BitsLemmas
namespace Go.Proofs.YtfbglffookacbaaGreatDoor.tf
open Go.RowKit Go.PlainAid
open Go.Proofs.YtfbglffookacbaaGreatDoor.ta Go.Proofs.YtfbglffookacbaaGreatDoor.tb Go.Proofs.YtfbglffookacbaaGreatDoor.tc Go.Proofs.YtfbglffookacbaaGreatDoor.td Go.Proofs.YtfbglffookacbaaGreatDoor.te
set_option linter.unusedVariables false
set_option maxRecDepth 4000

theorem pow2_le {a b : Nat} (h : a ≤ b) : (2 : Int) ^ a ≤ 2 ^ b := by exact_mod_cast Nat.pow_le_pow_right (by omega) h
theorem pow2_pos (a : Nat) : (0 : Int) < 2 ^ a := Int.pow_pos (by omega)
theorem i64_or_nat (a b : Nat) (ha : a < 4294967296) (hb : b < 4294967296) : bits .or .i64 (a : Int) (b : Int) = ((a ||| b : Nat) : Int) := by
  have hx : a ||| b < 2 ^ 32 := Nat.or_lt_two_pow (by omega) (by omega)
  show IntKind.i64.wrap ((BitVec.ofInt 64 (a : Int) ||| BitVec.ofInt 64 (b : Int)).toNat : Int) = _
  rw [BitVec.toNat_or, BitVec.ofInt_natCast, BitVec.toNat_ofNat, BitVec.ofInt_natCast, BitVec.toNat_ofNat, Nat.mod_eq_of_lt (by omega), Nat.mod_eq_of_lt (by omega), IntKind.wrap_i64]
  omega
theorem i64_and_nat (a b : Nat) (ha : a < 4294967296) (hb : b < 4294967296) : bits .and .i64 (a : Int) (b : Int) = ((a &&& b : Nat) : Int) := by
  have hx : a &&& b < 2 ^ 32 := Nat.and_lt_two_pow _ (by omega)
  show IntKind.i64.wrap ((BitVec.ofInt 64 (a : Int) &&& BitVec.ofInt 64 (b : Int)).toNat : Int) = _
  rw [BitVec.toNat_and, BitVec.ofInt_natCast, BitVec.toNat_ofNat, BitVec.ofInt_natCast, BitVec.toNat_ofNat, Nat.mod_eq_of_lt (by omega), Nat.mod_eq_of_lt (by omega), IntKind.wrap_i64]
  omega
theorem wrap_small (x : Int) (h0 : 0 ≤ x) (h1 : x < 4294967296) : wrap64 x = x := by unfold wrap64; omega
theorem or_add (a v : Int) (f : Nat) (h0 : 0 ≤ a) (h1 : a < 256) (hf : f ≤ 8) (v0 : 0 ≤ v) (v1 : v < 2 ^ f) : bits .or .i64 (wrap64 (a * 2 ^ f)) v = a * 2 ^ f + v := by
  obtain ⟨A, rfl⟩ := Int.eq_ofNat_of_zero_le h0
  obtain ⟨V, rfl⟩ := Int.eq_ofNat_of_zero_le v0
  have hp : 2 ^ f ≤ 256 := Nat.pow_le_pow_right (n := 2) (by omega) hf
  have hv : V < 2 ^ f := by exact_mod_cast v1
  have hm : A * 2 ^ f ≤ 255 * 256 := Nat.mul_le_mul (by omega) hp
  have e : ((A : Int) * 2 ^ f) = ((A * 2 ^ f : Nat) : Int) := by rw [Int.natCast_mul, Int.natCast_pow]; rfl
  rw [e, wrap_small _ (by omega) (by omega), i64_or_nat _ _ (by omega) (by omega)]
  have : A * 2 ^ f ||| V = 2 ^ f * A + V := by rw [Nat.two_pow_add_eq_or_of_lt hv, Nat.mul_comm]
  rw [this, Nat.mul_comm, Int.natCast_add]
theorem and_mod (a : Int) (k : Nat) (h0 : 0 ≤ a) (h1 : a < 65536) (hk : k ≤ 16) : bits .and .i64 a (2 ^ k - 1) = a % 2 ^ k := by
  obtain ⟨A, rfl⟩ := Int.eq_ofNat_of_zero_le h0
  have hp : 2 ^ k ≤ 65536 := Nat.pow_le_pow_right (n := 2) (by omega) hk
  have hq : 1 ≤ 2 ^ k := Nat.one_le_two_pow
  have e : ((2 : Int) ^ k - 1) = ((2 ^ k - 1 : Nat) : Int) := by rw [Int.natCast_sub hq, Int.natCast_pow]; rfl
  rw [e, i64_and_nat _ _ (by omega) (by omega), Nat.and_two_pow_sub_one_eq_mod, Int.natCast_emod, Int.natCast_pow]
  rfl
section
variable {w0 : World} {B bo C bh bc : Nat} {cs : List (Nat × Obj)}
end
end Go.Proofs.YtfbglffookacbaaGreatDoor.tf
