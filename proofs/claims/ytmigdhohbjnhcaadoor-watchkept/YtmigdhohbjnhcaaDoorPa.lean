import Derived.Test.YtmigdhohbjnhcaaDoorRows
import Derived.Test.YtmigdhohbjnhcaaDoorPl
import Derived.WalkKit
import Derived.WalkSpells
import Derived.Below
import Derived.PlainAid
import Derived.Deep.QuietTactic
import Derived.BigQuiet
import Derived.RowKit3
import Derived.Laws.ResultCell
import Derived.Laws.Rows
import Derived.Laws.Tables
import Derived.Laws.CopyOwn
import Derived.WalkSmall
import Derived.BigRegion
import Derived.RegionTactic
import Derived.Deep.RegionHeld3
import Derived.Deep.MidRow
namespace Go.Proofs.YtmigdhohbjnhcaaDoor.pa
open Go.RowKit Go.PlainAid
open Go.Proofs.YtmigdhohbjnhcaaDoor.pl
set_option linter.unusedVariables false

theorem and31 (n m : Nat) (h1 : 1 ≤ n) (h2 : n + m = 32) (h3 : 1 ≤ m) : bits .and .u64 (IntKind.u64.wrap (-(n : Int))) 31 = (m : Int) := by
  have e : IntKind.u64.wrap (-(n : Int)) = 18446744073709551616 - (n : Int) := by
    rw [IntKind.wrap_u64]; omega
  rw [e, u64_and _ 31 (by omega) (by omega) (by omega) (by omega)]
  have h : (18446744073709551616 - (n : Int)).toNat &&& (31 : Int).toNat = (18446744073709551616 - (n : Int)).toNat % 32 := Nat.and_two_pow_sub_one_eq_mod _ 5
  rw [h]
  omega

theorem rot_flip (x : Int) (n m : Nat) (h0 : 0 ≤ x) (h1 : x < 4294967296) (h : n + m = 32) : bits .or .u32 (x * 2 ^ m % 4294967296) (x / 2 ^ n) = ROT x n := by
  have hm : 32 - n = m := by omega
  have hp : (0 : Int) < 2 ^ n := Int.pow_pos (by omega)
  have h2 : 0 ≤ x / 2 ^ n := Int.ediv_nonneg h0 (by omega)
  have h3 : x / 2 ^ n ≤ x := Int.ediv_le_self _ h0
  unfold ROT
  rw [hm, or_comm _ _ (by omega) (by omega) h2 (by omega)]

theorem rot32 (x : Int) (n : Nat) (w : World) (h0 : 0 ≤ x) (h1 : x < 4294967296) (hn : 1 ≤ n) (hn' : n ≤ 31) :
    Calls Tryd.prog 49 #[.int .u32 x, .int .i64 (-(n : Int))] w fun e w' => e = .returned (.int .u32 (ROT x n)) ∧ w' = w := by
  obtain ⟨m, hm⟩ : ∃ m, n + m = 32 := ⟨32 - n, by omega⟩
  have h31 := and31 n m hn hm (by omega)
  have HR : Hid _ := rot_flip x n m h0 h1 hm
  have HM : Hid _ := hm
  have e2 : 32 - (m : Int) = n := by omega
  have m1 : m ≤ 31 := by omega
  clear hm
  go_enter Tryd.func49, Tryd.ntmps49
  go_wp2
  go_ret
  rw [← HR.out]
  exact ⟨rfl, rfl⟩

def TRN (x : Int) (i j k : Nat) : Int := bits .xor .u32 (bits .xor .u32 (ROT x i) (ROT x j)) (ROT x k)
def SPR (x : Int) (i j k : Nat) : Int := bits .xor .u32 (bits .xor .u32 (ROT x i) (ROT x j)) (x / 2 ^ k)

theorem turns (x : Int) (i j k : Nat) (w : World) (h0 : 0 ≤ x) (h1 : x < 4294967296) (i1 : 1 ≤ i) (i2 : i ≤ 31) (j1 : 1 ≤ j) (j2 : j ≤ 31) (k1 : 1 ≤ k) (k2 : k ≤ 31) :
    Calls Tryd.prog 40 #[.int .u32 x, .int .i64 i, .int .i64 j, .int .i64 k] w fun e w' => e = .returned (.int .u32 (TRN x i j k)) ∧ w' = w := by
  go_enter Tryd.func40, Tryd.ntmps40
  go_wp2_with fail
  refine (rot32 x i _ h0 h1 i1 i2).mono ?_
  rintro e w' ⟨rfl, rfl⟩
  go_wp2_with fail
  refine (rot32 x j _ h0 h1 j1 j2).mono ?_
  rintro e w' ⟨rfl, rfl⟩
  go_wp2_with fail
  refine (rot32 x k _ h0 h1 k1 k2).mono ?_
  rintro e w' ⟨rfl, rfl⟩
  go_wp2
  go_ret
  exact ⟨rfl, rfl⟩

theorem spread (x : Int) (i j k : Nat) (w : World) (h0 : 0 ≤ x) (h1 : x < 4294967296) (i1 : 1 ≤ i) (i2 : i ≤ 31) (j1 : 1 ≤ j) (j2 : j ≤ 31) (k1 : 1 ≤ k) (k2 : k ≤ 31) :
    Calls Tryd.prog 48 #[.int .u32 x, .int .i64 i, .int .i64 j, .int .i64 k] w fun e w' => e = .returned (.int .u32 (SPR x i j k)) ∧ ∃ n, w' = w.drewN n := by
  go_enter Tryd.func48, Tryd.ntmps48
  go_wp2_with fail
  go_quiet ((go_at_call 49; exact Calls.quiet_of_same (rot32 _ _ _ (by assumption) (by assumption) (by omega) (by omega))))
  go_wp2
  go_ret
  exact ⟨rfl, nq, rfl⟩
end Go.Proofs.YtmigdhohbjnhcaaDoor.pa
