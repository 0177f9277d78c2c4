import Derived.Test.YtgioekepoebibaaRows
import Derived.Test.YtgioekepoebibaaRa
import Derived.WalkKit
import Derived.WalkSpells
import Derived.PlainAid
import Derived.RowKit3
import Derived.Laws.BitsAllLaws
namespace Go.Proofs.Ytgioekepoebibaa.rb
open Go.RowKit Go.PlainAid
open Go.Proofs.Ytgioekepoebibaa.ra
set_option linter.unusedVariables false

def nt (q : ByteArray) (k : Nat) : Nat := (bt q k).toNat
def nl (q : ByteArray) (k : Nat) : List Nat := (List.range k).map (nt q)
theorem nt_bt (q : ByteArray) (k : Nat) : bt q k = (nt q k : Int) := by
  have := bt_nonneg q k
  unfold nt; omega
theorem nt_lt (q : ByteArray) (k : Nat) : nt q k < 256 := by
  have := bt_le q k
  unfold nt; omega
theorem nl_succ (q : ByteArray) (k : Nat) : nl q (k + 1) = nl q k ++ [nt q k] := by
  unfold nl; rw [List.range_succ, List.map_append]; rfl
theorem nl_lt (q : ByteArray) (k : Nat) : ∀ c ∈ nl q k, c < 256 := by
  intro c h
  obtain ⟨j, _, rfl⟩ := List.mem_map.1 h
  exact nt_lt q j

theorem and_one (r : Nat) (h : r < 4294967296) : bits .and .u32 (r : Int) 1 = ((r % 2 : Nat) : Int) := by
  rw [show (1 : Int) = ((1 : Nat) : Int) by rfl, u32_and_nat r 1 h (by omega), Nat.and_one_is_mod]
theorem xor_po (r : Nat) (h : r < 4294967296) : bits .xor .u32 (r : Int) 3988292384 = ((r ^^^ PO : Nat) : Int) := by
  rw [show (3988292384 : Int) = ((3988292384 : Nat) : Int) by rfl, u32_xor_nat r _ h (by omega)]; rfl
theorem xor_ff (r : Nat) (h : r < 4294967296) : bits .xor .u32 (r : Int) 4294967295 = ((r ^^^ FF : Nat) : Int) := by
  rw [show (4294967295 : Int) = ((4294967295 : Nat) : Int) by rfl, u32_xor_nat r _ h (by omega)]; rfl
theorem st0 (X : Nat) (h : X % 2 = 0) : X / 2 = st X := by unfold st; rw [if_neg (by omega)]
theorem st1 (X : Nat) (h : X % 2 = 1) : (X / 2) ^^^ PO = st X := by unfold st; rw [if_pos h]
theorem sts_succ (k r : Nat) : sts (k + 1) r = st (sts k r) := by rw [sts_add]; rfl

def crcF (s : ByteArray) : Nat := onF 0 (nl s s.size)
def crcOnF (c : Nat) (s : ByteArray) : Nat := onF c (nl s s.size)
theorem crcF_lt (s : ByteArray) : crcF s < 4294967296 := onF_lt 0 _ (by omega) (nl_lt s _)
end Go.Proofs.Ytgioekepoebibaa.rb
