import Derived.Test.YtfbglffookacbaaGreatDoorWa
namespace Go.Proofs.YtfbglffookacbaaGreatDoor.a1
open Go.RowKit Go.PlainAid
open Go.Proofs.YtfbglffookacbaaGreatDoor.ta Go.Proofs.YtfbglffookacbaaGreatDoor.tb Go.Proofs.YtfbglffookacbaaGreatDoor.tc Go.Proofs.YtfbglffookacbaaGreatDoor.tj Go.Proofs.YtfbglffookacbaaGreatDoor.wa
set_option linter.unusedVariables false
set_option maxRecDepth 4000

-- three digits
def g3L (n : Nat) : List Int := [48 + ((n / 100 : Nat) : Int), 48 + ((n / 10 % 10 : Nat) : Int), 48 + ((n % 10 : Nat) : Int)]
def grp (n : Nat) : ByteArray := str (g3L n)
theorem g3_in {n : Nat} (h : n < 1000) : In 256 (g3L n) := by
  intro x hx
  simp only [g3L, List.mem_cons, List.not_mem_nil, or_false] at hx
  rcases hx with rfl | rfl | rfl <;> omega
theorem grp_size (n : Nat) : (grp n).size = 3 := by unfold grp; rw [str_size]; rfl
theorem dg_thousand {n : Nat} (h : n < 1000) : dgN (1000 + n) = 49 :: g3L n := by
  rw [dgN_big (by omega), dgN_big (u := (1000 + n) / 10) (by omega), dgN_big (u := (1000 + n) / 10 / 10) (by omega), dgN_small (u := (1000 + n) / 10 / 10 / 10) (by omega)]
  have h0 : (1000 + n) / 10 / 10 / 10 = 1 := by omega
  have h1 : (1000 + n) / 10 / 10 % 10 = n / 100 := by omega
  have h2 : (1000 + n) / 10 % 10 = n / 10 % 10 := by omega
  have h3 : (1000 + n) % 10 = n % 10 := by omega
  rw [h0, h1, h2, h3]
  rfl
theorem three {n : Nat} (h : n < 1000) : (decS ((1000 + n : Nat) : Int)).extract 1 (decS ((1000 + n : Nat) : Int)).size = grp n := by
  have hb : bs (decS ((1000 + n : Nat) : Int)) = 49 :: g3L n := by
    rw [bs_dec]; unfold decI
    rw [if_neg (by omega), show (((1000 + n : Nat) : Int)).toNat = 1000 + n by omega, dg_thousand h]
  have hz : (decS ((1000 + n : Nat) : Int)).size = 4 := by rw [← bs_length, hb]; rfl
  apply bs_inj
  rw [hz, bs_extract _ 1 4 (by omega) (by omega), hb]
  unfold grp
  rw [bs_str _ (g3_in h)]
  rfl
theorem three_size {n : Nat} (h : n < 1000) : (decS ((1000 + n : Nat) : Int)).size = 4 := by
  rw [← bs_length, bs_dec]; unfold decI
  rw [if_neg (by omega), show (((1000 + n : Nat) : Int)).toNat = 1000 + n by omega, dg_thousand h]
  rfl
-- the document's: a 0 put ahead until there are three
def z1 : ByteArray := ⟨#[48]⟩
theorem bs_z1 (s : ByteArray) : bs (z1 ++ s) = 48 :: bs s := by rw [bs_two]; rfl
theorem pad2 {n : Nat} (h : n < 10) : z1 ++ (z1 ++ decS (n : Int)) = grp n := by
  apply bs_inj
  rw [bs_z1, bs_z1, bs_dec]
  unfold decI grp
  rw [if_neg (by omega), bs_str _ (g3_in (by omega)), show ((n : Int)).toNat = n by omega, dgN_small h]
  unfold g3L
  rw [show n / 100 = 0 by omega, show n / 10 % 10 = 0 by omega, show n % 10 = n by omega]
  rfl
theorem pad1 {n : Nat} (h : ¬ n < 10) (h' : n < 100) : z1 ++ decS (n : Int) = grp n := by
  apply bs_inj
  rw [bs_z1, bs_dec]
  unfold decI grp
  rw [if_neg (by omega), bs_str _ (g3_in (by omega)), show ((n : Int)).toNat = n by omega, dgN_big h, dgN_small (by omega)]
  unfold g3L
  rw [show n / 100 = 0 by omega, show n / 10 % 10 = n / 10 by omega]
  rfl
theorem pad0 {n : Nat} (h : ¬ n < 100) (h' : n < 1000) : decS (n : Int) = grp n := by
  apply bs_inj
  rw [bs_dec]
  unfold decI grp
  rw [if_neg (by omega), bs_str _ (g3_in (by omega)), show ((n : Int)).toNat = n by omega, dgN_big (by omega), dgN_big (u := n / 10) (by omega), dgN_small (by omega)]
  unfold g3L
  rw [show n / 10 / 10 = n / 100 by omega]
  rfl
theorem size_small {n : Nat} (h : n < 10) : (decS (n : Int)).size = 1 := by
  rw [← bs_length, bs_dec]; unfold decI
  rw [if_neg (by omega), show ((n : Int)).toNat = n by omega, dgN_small h]; rfl
theorem size_two {n : Nat} (h : ¬ n < 10) (h' : n < 100) : (decS (n : Int)).size = 2 := by
  rw [← bs_length, bs_dec]; unfold decI
  rw [if_neg (by omega), show ((n : Int)).toNat = n by omega, dgN_big h, dgN_small (by omega)]; rfl
theorem size_three {n : Nat} (h : ¬ n < 100) (h' : n < 1000) : (decS (n : Int)).size = 3 := by
  rw [pad0 h h', grp_size]
-- the index: groups put ahead of what there is
def xB : ByteArray := ⟨#[120]⟩
def slB : ByteArray := ⟨#[47]⟩
def ixA (n : Nat) (s : ByteArray) : ByteArray := if h : n = 0 then s else ixA (n / 1000) (xB ++ grp (n % 1000) ++ slB ++ s)
termination_by n
decreasing_by omega
def ixS (n : Nat) : ByteArray := ixA (n / 1000) (grp (n % 1000))
theorem ixA_zero (s : ByteArray) : ixA 0 s = s := by rw [ixA, dif_pos rfl]
theorem ixA_step {n : Nat} (h : n ≠ 0) (s : ByteArray) : ixA n s = ixA (n / 1000) (xB ++ grp (n % 1000) ++ slB ++ s) := by rw [ixA, dif_neg h]
theorem step_size (n : Nat) (s : ByteArray) : (xB ++ grp n ++ slB ++ s).size = 5 + s.size := by
  rw [ByteArray.size_append, ByteArray.size_append, ByteArray.size_append, grp_size]; rfl
theorem ixA_size (k : Nat) : ∀ (n : Nat) (s : ByteArray), n < 1000 ^ k → (ixA n s).size ≤ s.size + 5 * k := by
  induction k with
  | zero => intro n s h; rw [show n = 0 by simpa using h, ixA_zero]; omega
  | succ k ih =>
    intro n s h
    by_cases h0 : n = 0
    · subst h0; rw [ixA_zero]; omega
    · rw [ixA_step h0]
      have := ih (n / 1000) (xB ++ grp (n % 1000) ++ slB ++ s) (by rw [Nat.pow_succ] at h; omega)
      rw [step_size] at this
      omega
theorem ixS_size (n : Nat) (h : n < 9223372036854775808) : (ixS n).size ≤ 38 := by
  unfold ixS
  have := ixA_size 7 (n / 1000) (grp (n % 1000)) (by omega)
  rw [grp_size] at this
  omega

-- a tile goes
def Goes (h l i c : Int) : Prop := 1 ≤ h ∧ h ≤ 8 ∧ 0 ≤ l ∧ l * h ≤ 62 ∧ 0 ≤ i ∧ 1 ≤ c ∧ c ≤ 2 ^ h.toNat ∧ (i * 2 ^ h.toNat + c) * 2 ^ (l * h).toNat ≤ 4611686018427387904
instance (h l i c : Int) : Decidable (Goes h l i c) := by unfold Goes; infer_instance
-- the path
def tlB : ByteArray := ⟨#[116, 105, 108, 101]⟩
def ptB : ByteArray := ⟨#[46, 112, 47]⟩
def pathS (h l i c : Int) : ByteArray := tlB ++ slB ++ decS h ++ slB ++ decS l ++ slB ++ ixS i.toNat ++ (if c < 2 ^ h.toNat then ptB ++ decS c else ⟨#[]⟩)
end Go.Proofs.YtfbglffookacbaaGreatDoor.a1
