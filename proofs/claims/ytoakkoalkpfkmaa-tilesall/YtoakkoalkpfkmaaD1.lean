import Derived.PlainAid
namespace Go.Proofs.Ytoakkoalkpfkmaa.d1
open Go.PlainAid
set_option linter.unusedVariables false

-- the rows of a tree: each level, and how many hashes it has
def rowsL (F l m : Nat) : List (Nat × Nat) := if h : m = 0 ∨ F ≤ 1 then [] else (l, m) :: rowsL F (l + 1) (m / F)
termination_by m
decreasing_by exact Nat.div_lt_self (by omega) (by omega)
theorem rowsL_zero (F l : Nat) : rowsL F l 0 = [] := by rw [rowsL, dif_pos (.inl rfl)]
theorem rowsL_step {F l m : Nat} (hF : 2 ≤ F) (hm : 0 < m) : rowsL F l m = (l, m) :: rowsL F (l + 1) (m / F) := by rw [rowsL, dif_neg (by omega)]
theorem rowsL_len {F : Nat} (hF : 2 ≤ F) (k : Nat) : ∀ (l m : Nat), m < 2 ^ k → (rowsL F l m).length ≤ k := by
  induction k with
  | zero => intro l m h; rw [show m = 0 by simpa using h, rowsL_zero]; simp
  | succ k ih =>
    intro l m h
    by_cases h0 : m = 0
    · subst h0; rw [rowsL_zero]; simp
    · rw [rowsL_step hF (by omega), List.length_cons]
      have h1 : m / F ≤ m / 2 := Nat.div_le_div_left hF (by omega)
      have := ih (l + 1) (m / F) (by rw [Nat.pow_succ] at h; omega)
      omega
theorem rowsL_le {F : Nat} (hF : 2 ≤ F) (n : Nat) : ∀ (l m : Nat), m ≤ n → ∀ x ∈ rowsL F l m, x.2 ≤ m ∧ 0 < x.2 := by
  induction n with
  | zero => intro l m h x hx; rw [show m = 0 by omega, rowsL_zero] at hx; simp at hx
  | succ n ih =>
    intro l m h x hx
    by_cases h0 : m = 0
    · subst h0; rw [rowsL_zero] at hx; simp at hx
    · rw [rowsL_step hF (by omega)] at hx
      have hd : m / F < m := Nat.div_lt_self (by omega) (by omega)
      rcases List.mem_cons.1 hx with rfl | hx
      · exact ⟨Nat.le_refl _, by show 0 < m; omega⟩
      · have := ih (l + 1) (m / F) (by omega) x hx
        omega
-- how many tiles
def cntR (F : Nat) (x : Nat × Nat) : Nat := x.2 / F + (if x.2 % F = 0 then 0 else 1)
def cntL (F : Nat) (L : List (Nat × Nat)) : Nat := (L.map (cntR F)).sum
theorem cntL_nil (F : Nat) : cntL F [] = 0 := rfl
theorem cntL_cons (F : Nat) (x : Nat × Nat) (L : List (Nat × Nat)) : cntL F (x :: L) = cntR F x + cntL F L := by unfold cntL; rw [List.map_cons, List.sum_cons]
theorem cntL_app (F : Nat) (L M : List (Nat × Nat)) : cntL F (L ++ M) = cntL F L + cntL F M := by unfold cntL; rw [List.map_append, List.sum_append]
theorem cnt_rows {F : Nat} (hF : 2 ≤ F) (n : Nat) : ∀ (l m : Nat), m ≤ n → 0 < m → cntL F (rowsL F l m) + 1 ≤ 2 * m := by
  induction n with
  | zero => intro l m h h0; omega
  | succ n ih =>
    intro l m h h0
    rw [rowsL_step hF h0, cntL_cons]
    have hd : m / F < m := Nat.div_lt_self h0 (by omega)
    have hm := Nat.div_add_mod m F
    have hq : 2 * (m / F) ≤ F * (m / F) := Nat.mul_le_mul_right _ hF
    unfold cntR
    dsimp only
    rcases Nat.eq_zero_or_pos (m / F) with e | e
    · rw [e, rowsL_zero, cntL_nil]
      split <;> omega
    · have := ih (l + 1) (m / F) (by omega) e
      split <;> omega
theorem cnt_bound {F : Nat} (hF : 2 ≤ F) (l m : Nat) (h : m ≤ 4611686018427387904) : cntL F (rowsL F l m) ≤ 9223372036854775807 := by
  rcases Nat.eq_zero_or_pos m with e | e
  · subst e; rw [rowsL_zero, cntL_nil]; omega
  · have := cnt_rows hF m l m (Nat.le_refl _) e
    omega
-- the tiles: height, level, index, count
abbrev Tl := Int × Int × Int × Int
def fullL (h F l q : Nat) : List Tl := (List.range q).map fun (i : Nat) => ((h : Int), (l : Int), (i : Int), (F : Int))
theorem fullL_zero (h F l : Nat) : fullL h F l 0 = [] := rfl
theorem fullL_succ (h F l q : Nat) : fullL h F l (q + 1) = fullL h F l q ++ [((h : Int), (l : Int), (q : Int), (F : Int))] := by unfold fullL; rw [List.range_succ, List.map_append]; rfl
theorem fullL_len (h F l q : Nat) : (fullL h F l q).length = q := by unfold fullL; rw [List.length_map, List.length_range]
def restL (h F l m : Nat) : List Tl := if m % F = 0 then [] else [((h : Int), (l : Int), ((m / F : Nat) : Int), ((m % F : Nat) : Int))]
def tilesR (h F : Nat) (x : Nat × Nat) : List Tl := fullL h F x.1 (x.2 / F) ++ restL h F x.1 x.2
theorem tilesR_len (h F : Nat) (x : Nat × Nat) : (tilesR h F x).length = cntR F x := by
  unfold tilesR restL cntR
  rw [List.length_append, fullL_len]
  split <;> rfl
def tilesL (h F : Nat) (L : List (Nat × Nat)) : List Tl := L.flatMap (tilesR h F)
theorem tilesL_nil (h F : Nat) : tilesL h F [] = [] := rfl
theorem tilesL_app (h F : Nat) (L M : List (Nat × Nat)) : tilesL h F (L ++ M) = tilesL h F L ++ tilesL h F M := by unfold tilesL; exact List.flatMap_append
theorem tilesL_snoc (h F : Nat) (L : List (Nat × Nat)) (x : Nat × Nat) : tilesL h F (L ++ [x]) = tilesL h F L ++ tilesR h F x := by rw [tilesL_app]; unfold tilesL; simp
theorem tilesL_len (h F : Nat) (L : List (Nat × Nat)) : (tilesL h F L).length = cntL F L := by
  induction L with
  | nil => rfl
  | cons x L ih =>
    show (tilesR h F x ++ tilesL h F L).length = _
    rw [List.length_append, tilesR_len, ih, cntL_cons]
-- the answer
def okH (h n : Int) : Prop := 1 ≤ h ∧ h ≤ 8 ∧ 0 ≤ n ∧ n ≤ 4611686018427387904
instance (h n : Int) : Decidable (okH h n) := by unfold okH; infer_instance
def rowsI (h n : Int) : List (Nat × Nat) := rowsL (2 ^ h.toNat) 0 n.toNat
def manyI (h n : Int) : Nat := cntL (2 ^ h.toNat) (rowsI h n)
def allI (h n : Int) : List Tl := if okH h n ∧ manyI h n ≤ 65536 then tilesL h.toNat (2 ^ h.toNat) (rowsI h n) else []
def allE (h n : Int) : Int := if okH h n then (if manyI h n ≤ 65536 then 0 else 83) else 10
theorem allI_len (h n : Int) : (allI h n).length ≤ 65536 := by
  unfold allI
  split
  · rename_i g; rw [tilesL_len]; exact g.2
  · simp
-- the level that a row has
theorem row_at {h n k : Nat} : n / 2 ^ (k * h) / 2 ^ h = n / 2 ^ ((k + 1) * h) := by
  rw [Nat.div_div_eq_div_mul, ← Nat.pow_add, Nat.succ_mul]
theorem row_none {h n k : Nat} (hn : n ≤ 4611686018427387904) (hk : 62 < k * h) : n / 2 ^ (k * h) = 0 := by
  apply Nat.div_eq_of_lt
  have : 2 ^ 63 ≤ 2 ^ (k * h) := Nat.pow_le_pow_right (by omega) (by omega)
  have e : 2 ^ 63 = 9223372036854775808 := by decide
  omega
end Go.Proofs.Ytoakkoalkpfkmaa.d1
