import Derived.Test.YtfbglffookacbaaGreatDoorTj
import Derived.Lib.AtoiAllCases
import Derived.Lib.ItoaMem
import Derived.Lib.ItoaLen
namespace Go.Proofs.YtfbglffookacbaaGreatDoor.wa
open Go.RowKit Go.PlainAid
open Go.Proofs.YtfbglffookacbaaGreatDoor.ta Go.Proofs.YtfbglffookacbaaGreatDoor.tb Go.Proofs.YtfbglffookacbaaGreatDoor.tc Go.Proofs.YtfbglffookacbaaGreatDoor.tj
set_option linter.unusedVariables false
set_option maxRecDepth 4000

-- a number's digits
def dgN (u : Nat) : List Int := if h : u < 10 then [48 + (u : Int)] else dgN (u / 10) ++ [48 + ((u % 10 : Nat) : Int)]
termination_by u
decreasing_by omega
def decI (n : Int) : List Int := if n < 0 then 45 :: dgN n.natAbs else dgN n.toNat
def decS (n : Int) : ByteArray := str (decI n)
def I64 (n : Int) : Prop := -9223372036854775808 ≤ n ∧ n ≤ 9223372036854775807
theorem dgN_small {u : Nat} (h : u < 10) : dgN u = [48 + (u : Int)] := by rw [dgN, dif_pos h]
theorem dgN_big {u : Nat} (h : ¬ u < 10) : dgN u = dgN (u / 10) ++ [48 + ((u % 10 : Nat) : Int)] := by rw [dgN, dif_neg h]
theorem of48 (d : Nat) (h : d < 10) : (UInt8.ofNat (48 + d)).toNat = 48 + d := by
  rw [UInt8.toNat_ofNat']; omega
theorem dgN_dec (u : Nat) : (Lib.decDigits u).map (fun b => (b.toNat : Int)) = dgN u := by
  induction u using Nat.strongRecOn with
  | ind u ih =>
    by_cases h : u < 10
    · rw [dgN_small h, Lib.decDigits, dif_pos h]
      simp only [List.map_cons, List.map_nil, of48 u h]
      simp
    · rw [dgN_big h, Lib.decDigits, dif_neg h, List.map_append, ih (u / 10) (by omega)]
      simp only [List.map_cons, List.map_nil, of48 (u % 10) (by omega)]
      simp
theorem bs_mk (l : List UInt8) : bs ⟨l.toArray⟩ = l.map (fun b => (b.toNat : Int)) := by
  apply List.ext_getElem
  · rw [bs_length, List.length_map]; rfl
  · intro i h1 h2
    rw [bs_length] at h1
    rw [bs_get _ i h1, ← get_bt _ i h1, List.getElem_map]
    rfl
theorem dg_in (u : Nat) : ∀ x ∈ dgN u, 48 ≤ x ∧ x ≤ 57 := by
  induction u using Nat.strongRecOn with
  | ind u ih =>
    intro x hx
    by_cases h : u < 10
    · rw [dgN_small h] at hx
      have := List.mem_singleton.1 hx
      omega
    · rw [dgN_big h] at hx
      rcases List.mem_append.1 hx with hx | hx
      · exact ih _ (by omega) x hx
      · have := List.mem_singleton.1 hx
        omega
theorem dec_in (n : Int) : In 256 (decI n) := by
  intro x hx
  unfold decI at hx
  split at hx
  · rcases List.mem_cons.1 hx with rfl | hx
    · omega
    · have := dg_in _ x hx; omega
  · have := dg_in _ x hx; omega
theorem bs_dec (n : Int) : bs (decS n) = decI n := bs_str _ (dec_in n)
theorem itoa_dec (n : Int) : (⟨(Lib.itoa n).toArray⟩ : ByteArray) = decS n := by
  apply bs_inj
  rw [bs_dec, bs_mk]
  unfold Lib.itoa decI
  by_cases h : n < 0
  · rw [if_pos h, if_pos h, List.map_cons, dgN_dec]; rfl
  · rw [if_neg h, if_neg h, dgN_dec]
theorem data_dec (n : Int) : (decS n).data.toList = Lib.itoa n := by rw [← itoa_dec]
-- how long
theorem dg_len (k : Nat) : ∀ u : Nat, u < 10 ^ (k + 1) → (dgN u).length ≤ k + 1 := by
  induction k with
  | zero => intro u h; rw [dgN_small (by simpa using h)]; simp
  | succ k ih =>
    intro u h
    by_cases h10 : u < 10
    · rw [dgN_small h10]; simp
    · rw [dgN_big h10, List.length_append]
      have := ih (u / 10) (by rw [Nat.pow_succ] at h; omega)
      simp; omega
theorem dec_len (n : Int) (h : I64 n) : (decI n).length ≤ 20 := by
  obtain ⟨h0, h1⟩ := h
  unfold decI
  split
  · have := dg_len 18 n.natAbs (by omega)
    rw [List.length_cons]; omega
  · have := dg_len 18 n.toNat (by omega)
    omega
theorem dec_size (n : Int) (h : I64 n) : (decS n).size ≤ 20 := by rw [← bs_length, bs_dec]; exact dec_len n h
theorem dg_ne (u : Nat) : dgN u ≠ [] := by
  by_cases h : u < 10
  · rw [dgN_small h]; simp
  · rw [dgN_big h]; simp
theorem dec_pos (n : Int) : (decS n).size ≠ 0 := by
  rw [← bs_length, bs_dec]
  unfold decI
  split
  · simp
  · intro h; exact dg_ne _ (List.length_eq_zero_iff.1 h)
-- what the library reads of them
theorem parse_snoc (d : UInt8) (hd : 48 ≤ d.toNat ∧ d.toNat ≤ 57) : ∀ (l : List UInt8) (acc v : Nat), Lib.parseUint10 acc l = .ok v → v < 1844674407370955162 → v * 10 + (d.toNat - 48) < 18446744073709551616 → Lib.parseUint10 acc (l ++ [d]) = .ok (v * 10 + (d.toNat - 48))
  | [], acc, v, h, h1, h2 => by
    simp only [Lib.parseUint10] at h
    injection h with h
    subst h
    simp only [List.nil_append, Lib.parseUint10]
    rw [if_pos hd, if_neg (by omega), if_neg (by omega)]
  | c :: r, acc, v, h, h1, h2 => by
    simp only [Lib.parseUint10] at h
    simp only [List.cons_append, Lib.parseUint10]
    split at h
    · rename_i hc
      rw [if_pos hc]
      split at h
      · cases h
      · rename_i h3
        rw [if_neg h3]
        split at h
        · cases h
        · rename_i h4
          rw [if_neg h4]
          exact parse_snoc d hd r _ v h h1 h2
    · cases h
theorem parse_dec (u : Nat) (hu : u < 18446744073709551616) : Lib.parseUint10 0 (Lib.decDigits u) = .ok u := by
  induction u using Nat.strongRecOn with
  | ind u ih =>
    by_cases h : u < 10
    · rw [Lib.decDigits, dif_pos h]
      simp only [Lib.parseUint10, of48 u h]
      rw [if_pos (by omega), if_neg (by omega), if_neg (by omega)]
      congr 1
      omega
    · rw [Lib.decDigits, dif_neg h]
      have := parse_snoc (UInt8.ofNat (48 + u % 10)) (by rw [of48 _ (by omega)]; omega) (Lib.decDigits (u / 10)) 0 (u / 10) (ih _ (by omega) (by omega)) (by omega) (by rw [of48 _ (by omega)]; omega)
      rw [this, of48 _ (by omega)]
      congr 1
      omega
theorem dec_head (u : Nat) : ∃ c r, Lib.decDigits u = c :: r ∧ 48 ≤ c.toNat ∧ c.toNat ≤ 57 := by
  induction u using Nat.strongRecOn with
  | ind u ih =>
    by_cases h : u < 10
    · exact ⟨_, _, by rw [Lib.decDigits, dif_pos h], by rw [of48 u h]; omega, by rw [of48 u h]; omega⟩
    · obtain ⟨c, r, e, h1, h2⟩ := ih (u / 10) (by omega)
      exact ⟨c, r ++ [UInt8.ofNat (48 + u % 10)], by rw [Lib.decDigits, dif_neg h, e]; rfl, h1, h2⟩
theorem mag_dec (u : Nat) (hu : u < 18446744073709551616) : Lib.parseMag (Lib.decDigits u) = .ok u := by
  obtain ⟨c, r, e, _⟩ := dec_head u
  unfold Lib.parseMag
  rw [if_neg (by rw [e]; simp), parse_dec u hu]
theorem atoi_itoa (n : Int) (h : I64 n) : Lib.atoiAll (Lib.itoa n) = .ok n := by
  obtain ⟨h0, h1⟩ := h
  unfold Lib.itoa
  by_cases hn : n < 0
  · rw [if_pos hn, Lib.atoiAll_minus, mag_dec _ (by omega)]
    unfold Lib.signed
    simp only
    rw [if_neg (by omega)]
    congr 1
    omega
  · rw [if_neg hn]
    obtain ⟨c, r, e, c1, c2⟩ := dec_head n.toNat
    rw [e, Lib.atoiAll_plain c r (by omega) (by omega), ← e, mag_dec _ (by omega)]
    unfold Lib.signless
    simp only
    rw [if_neg (by omega)]
    congr 1
    omega
-- what the document reads of them
def stpD (a c : Int) : Int := if 48 ≤ c ∧ c ≤ 57 then IntKind.i64.wrap (IntKind.i64.wrap (10 * a) - (c - 48)) else a
def unD (l : List Int) : Int := l.foldl stpD 0
theorem wrap_in (x : Int) : I64 (IntKind.i64.wrap x) := by rw [IntKind.wrap_i64]; constructor <;> omega
theorem wrap_id {x : Int} (h : I64 x) : IntKind.i64.wrap x = x := by obtain ⟨h0, h1⟩ := h; rw [IntKind.wrap_i64]; omega
theorem stp_in (a c : Int) (h : I64 a) : I64 (stpD a c) := by
  unfold stpD
  split
  · exact wrap_in _
  · exact h
theorem fold_in (l : List Int) : ∀ a, I64 a → I64 (l.foldl stpD a) := by
  induction l with
  | nil => intro a h; exact h
  | cons c r ih => intro a h; exact ih _ (stp_in a c h)
theorem unD_in (l : List Int) : I64 (unD l) := fold_in l 0 ⟨by omega, by omega⟩
theorem fold_dg (u : Nat) (hu : u ≤ 9223372036854775808) : unD (dgN u) = -(u : Int) := by
  induction u using Nat.strongRecOn with
  | ind u ih =>
    by_cases h : u < 10
    · rw [dgN_small h]
      show stpD 0 (48 + (u : Int)) = _
      unfold stpD
      rw [if_pos (by omega), wrap_id (x := 10 * 0) ⟨by omega, by omega⟩, wrap_id ⟨by omega, by omega⟩]
      omega
    · rw [dgN_big h]
      have e := ih (u / 10) (by omega) (by omega)
      unfold unD at e ⊢
      rw [List.foldl_append, e]
      show stpD _ _ = _
      unfold stpD
      rw [if_pos (by omega), wrap_id (x := 10 * _) ⟨by omega, by omega⟩, wrap_id ⟨by omega, by omega⟩]
      omega
def unN (s : ByteArray) : Int := if s.size = 0 ∨ bt s 0 ≠ 45 then IntKind.i64.wrap (-(unD (bs s))) else unD (bs s)
theorem unN_in (s : ByteArray) : I64 (unN s) := by
  unfold unN
  split
  · exact wrap_in _
  · exact unD_in _
theorem unN_dec (n : Int) (h : I64 n) : unN (decS n) = n := by
  obtain ⟨h0, h1⟩ := h
  have hz := dec_pos n
  have hb : bt (decS n) 0 = (decI n).getD 0 0 := by rw [bt_getD, bs_dec]
  unfold unN
  rw [bs_dec, hb]
  unfold decI
  by_cases hn : n < 0
  · rw [if_pos hn, if_neg (by simp [hz])]
    have e : unD (45 :: dgN n.natAbs) = unD (dgN n.natAbs) := by
      show (dgN n.natAbs).foldl stpD (stpD 0 45) = _
      rfl
    rw [e, fold_dg _ (by omega)]
    omega
  · rw [if_neg hn]
    have h45 : (dgN n.toNat).getD 0 0 ≠ 45 := by
      cases hd : dgN n.toNat with
      | nil => exact absurd hd (dg_ne _)
      | cons c r =>
        have := dg_in n.toNat c (by rw [hd]; simp)
        simp; omega
    rw [if_pos (.inr h45), fold_dg _ (by omega), wrap_id ⟨by omega, by omega⟩]
    omega
theorem dec_inj (n m : Int) (h : I64 n) (hm : I64 m) (e : decS n = decS m) : n = m := by rw [← unN_dec n h, e, unN_dec m hm]
-- one digit more
theorem dec_up (n : Int) (h : 9 < n) : decS n = decS (n.tdiv 10) ++ str [48 + n.tmod 10] := by
  unfold decS
  rw [← str_two]
  congr 1
  unfold decI
  have e1 : n.tdiv 10 = n / 10 := Int.tdiv_eq_ediv_of_nonneg (by omega)
  have e2 : n.tmod 10 = n % 10 := Int.tmod_eq_emod_of_nonneg (by omega)
  rw [e1, e2, if_neg (by omega), if_neg (by omega), dgN_big (by omega)]
  have a1 : (n / 10).toNat = n.toNat / 10 := by omega
  have a2 : ((n.toNat % 10 : Nat) : Int) = n % 10 := by omega
  rw [a1, a2]
theorem dec_down (n : Int) (h : n < -9) : decS n = decS (n.tdiv 10) ++ str [48 + -(n.tmod 10)] := by
  unfold decS
  rw [← str_two]
  congr 1
  unfold decI
  obtain ⟨m, rfl⟩ : ∃ m : Int, n = -m := ⟨-n, by omega⟩
  have e1 : (-m).tdiv 10 = -(m / 10) := by rw [Int.neg_tdiv, Int.tdiv_eq_ediv_of_nonneg (by omega)]
  have e2 : (-m).tmod 10 = -(m % 10) := by rw [Int.neg_tmod, Int.tmod_eq_emod_of_nonneg (by omega)]
  rw [e1, e2, if_pos (by omega), if_pos (by omega), dgN_big (by omega), List.cons_append]
  have a1 : (-(m / 10)).natAbs = (-m).natAbs / 10 := by omega
  have a2 : (((-m).natAbs % 10 : Nat) : Int) = - -(m % 10) := by omega
  rw [a1, a2]
theorem dec_one (n : Int) (h0 : 0 ≤ n) (h1 : n ≤ 9) : decS n = str [48 + n] := by
  unfold decS decI
  rw [if_neg (by omega), dgN_small (by omega)]
  congr 2
  omega
theorem dec_neg1 (n : Int) (h0 : n < 0) (h1 : -10 < n) : decS n = (⟨#[45]⟩ : ByteArray) ++ str [48 + -n] := by
  have e : (⟨#[45]⟩ : ByteArray) = str [45] := by apply bs_inj; decide +kernel
  rw [e, ← str_two]
  unfold decS decI
  rw [if_pos h0, dgN_small (by omega)]
  show str (45 :: _) = _
  congr 3
  omega
end Go.Proofs.YtfbglffookacbaaGreatDoor.wa
