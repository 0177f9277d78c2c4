import Derived.PlainAid
namespace Go.Proofs.Ytgioekepoebibaa.ra
set_option linter.unusedVariables false

-- one step of the register
def PO : Nat := 3988292384
def st (r : Nat) : Nat := if r % 2 = 1 then (r / 2) ^^^ PO else r / 2

theorem par (a b : Nat) : (a ^^^ b) % 2 = (a + b) % 2 := by
  have h : (a ^^^ b) % 2 ^ 1 = (a % 2 ^ 1) ^^^ (b % 2 ^ 1) := Nat.xor_mod_two_pow
  rw [Nat.pow_one] at h
  rw [h]
  rcases Nat.mod_two_eq_zero_or_one a with ha | ha <;> rcases Nat.mod_two_eq_zero_or_one b with hb | hb <;> rw [ha, hb, Nat.add_mod, ha, hb] <;> rfl
theorem xor_zero_eq (x y : Nat) (h : x ^^^ y = 0) : x = y := by
  have e : (x ^^^ y) ^^^ y = x := by rw [Nat.xor_assoc, Nat.xor_self, Nat.xor_zero]
  rw [h, Nat.zero_xor] at e
  exact e.symm
theorem mul_xor (a b n : Nat) : (a ^^^ b) * 2 ^ n = (a * 2 ^ n) ^^^ (b * 2 ^ n) := by
  rw [← Nat.shiftLeft_eq, ← Nat.shiftLeft_eq, ← Nat.shiftLeft_eq, Nat.shiftLeft_xor_distrib]

theorem st_xor (a b : Nat) : st (a ^^^ b) = st a ^^^ st b := by
  have h1 : (a ^^^ b) % 2 = (a + b) % 2 := par a b
  have h2 : (a ^^^ b) / 2 = (a / 2) ^^^ (b / 2) := Nat.xor_div_two
  unfold st
  rw [h1, h2]
  rcases Nat.mod_two_eq_zero_or_one a with ha | ha <;> rcases Nat.mod_two_eq_zero_or_one b with hb | hb
  · rw [if_neg (by omega), if_neg (by omega), if_neg (by omega)]
  · rw [if_pos (by omega), if_neg (by omega), if_pos (by omega), Nat.xor_assoc]
  · rw [if_pos (by omega), if_pos (by omega), if_neg (by omega), Nat.xor_assoc, Nat.xor_assoc, Nat.xor_comm (b / 2) PO]
  · rw [if_neg (by omega), if_pos (by omega), if_pos (by omega)]
    rw [Nat.xor_assoc, Nat.xor_comm PO, Nat.xor_assoc, Nat.xor_self, Nat.xor_zero]

def sts : Nat → Nat → Nat
  | 0, r => r
  | k + 1, r => sts k (st r)
theorem sts_xor (k a b : Nat) : sts k (a ^^^ b) = sts k a ^^^ sts k b := by
  induction k generalizing a b with
  | zero => rfl
  | succ k ih => rw [sts, sts, sts, st_xor, ih]
theorem sts_add (m n r : Nat) : sts (m + n) r = sts n (sts m r) := by
  induction m generalizing r with
  | zero => rw [Nat.zero_add]; rfl
  | succ m ih => rw [show m + 1 + n = (m + n) + 1 by omega, sts, sts, ih]
theorem st_two (r : Nat) : st (r * 2) = r := by unfold st; rw [if_neg (by omega)]; omega
theorem sts_shift (k r : Nat) : sts k (r * 2 ^ k) = r := by
  induction k generalizing r with
  | zero => simp [sts]
  | succ k ih => rw [sts, show r * 2 ^ (k + 1) = (r * 2 ^ k) * 2 by rw [Nat.pow_succ, Nat.mul_assoc], st_two, ih]

theorem st_lt (r : Nat) (h : r < 4294967296) : st r < 4294967296 := by
  unfold st
  split
  · exact Nat.xor_lt_two_pow (n := 32) (by omega) (by decide)
  · omega
theorem sts_lt (k r : Nat) (h : r < 4294967296) : sts k r < 4294967296 := by
  induction k generalizing r with
  | zero => exact h
  | succ k ih => exact ih _ (st_lt r h)
theorem st_zero (r : Nat) (h : r < 4294967296) (hz : st r = 0) : r = 0 := by
  unfold st at hz
  split at hz
  · have e : r / 2 = PO := xor_zero_eq _ _ hz
    unfold PO at e
    omega
  · omega
theorem sts_zero (k r : Nat) (h : r < 4294967296) (hz : sts k r = 0) : r = 0 := by
  induction k generalizing r with
  | zero => exact hz
  | succ k ih => exact st_zero r h (ih _ (st_lt r h) hz)

-- bytes
def bs (r c : Nat) : Nat := sts 8 (r ^^^ c)
def crcR (r : Nat) (l : List Nat) : Nat := l.foldl bs r
theorem crcR_append (r : Nat) (a b : List Nat) : crcR r (a ++ b) = crcR (crcR r a) b := List.foldl_append
theorem crcR_snoc (r : Nat) (a : List Nat) (c : Nat) : crcR r (a ++ [c]) = bs (crcR r a) c := by rw [crcR_append]; rfl
theorem bs_lt (r c : Nat) (h : r < 4294967296) (hc : c < 256) : bs r c < 4294967296 := sts_lt 8 _ (Nat.xor_lt_two_pow (n := 32) h (by omega))

-- the text as one number, its lowest bit first
def le : List Nat → Nat
  | [] => 0
  | c :: l => c ^^^ (le l * 2 ^ 8)

theorem crc_le (l : List Nat) (r : Nat) : crcR r l = sts (8 * l.length) (r ^^^ le l) := by
  induction l generalizing r with
  | nil => simp [crcR, le, sts]
  | cons c l ih =>
    show crcR (bs r c) l = _
    rw [ih, List.length_cons, show 8 * (l.length + 1) = 8 + 8 * l.length by omega, sts_add, le, ← Nat.xor_assoc, sts_xor 8, sts_shift]
    rfl

theorem le_zip (a b : List Nat) (h : a.length = b.length) : le (List.zipWith (· ^^^ ·) a b) = le a ^^^ le b := by
  induction a generalizing b with
  | nil => cases b with
    | nil => rfl
    | cons => simp at h
  | cons x a ih => cases b with
    | nil => simp at h
    | cons y b =>
      have hl : a.length = b.length := by simpa using h
      rw [List.zipWith_cons_cons, le, le, le, ih b hl, mul_xor]
      rw [Nat.xor_assoc, Nat.xor_assoc, ← Nat.xor_assoc y, Nat.xor_comm y (le a * 2 ^ 8), Nat.xor_assoc]

-- three texts xored (one length)
theorem crc_three (r : Nat) (a b c : List Nat) (h1 : a.length = b.length) (h2 : b.length = c.length) :
    crcR r (List.zipWith (· ^^^ ·) (List.zipWith (· ^^^ ·) a b) c) = crcR r a ^^^ crcR r b ^^^ crcR r c := by
  have hz : (List.zipWith (· ^^^ ·) a b).length = a.length := by simp; omega
  have hz2 : (List.zipWith (· ^^^ ·) (List.zipWith (· ^^^ ·) a b) c).length = a.length := by simp; omega
  rw [crc_le, crc_le, crc_le, crc_le, hz2, ← h2, ← h1, le_zip _ _ (by omega), le_zip _ _ h1, ← sts_xor, ← sts_xor]
  congr 1
  rw [show (r ^^^ le a) ^^^ (r ^^^ le b) = le a ^^^ le b by rw [Nat.xor_comm r (le a), Nat.xor_assoc, ← Nat.xor_assoc r, Nat.xor_self, Nat.zero_xor]]
  rw [← Nat.xor_assoc, Nat.xor_comm r (le a ^^^ le b), Nat.xor_assoc]

-- a bit turned
theorem le_set (l : List Nat) (i x : Nat) (h : i < l.length) : le (l.set i (l[i] ^^^ x)) = le l ^^^ (x * 2 ^ (8 * i)) := by
  induction l generalizing i with
  | nil => simp at h
  | cons c l ih =>
    cases i with
    | zero =>
      rw [List.set_cons_zero, le, le]
      simp only [List.getElem_cons_zero, Nat.mul_zero, Nat.pow_zero, Nat.mul_one]
      rw [Nat.xor_assoc, Nat.xor_comm x, Nat.xor_assoc]
    | succ i =>
      have hi : i < l.length := by simpa using h
      rw [List.set_cons_succ, le, le]
      simp only [List.getElem_cons_succ]
      rw [ih i hi, mul_xor, Nat.xor_assoc, Nat.mul_assoc, ← Nat.pow_add, show 8 * i + 8 = 8 * (i + 1) by omega]

-- some bits turned within 32: another sum
theorem burst (r : Nat) (a b : List Nat) (hl : a.length = b.length) (p at_ : Nat) (h0 : p ≠ 0) (h1 : p < 4294967296) (ha : at_ ≤ 8 * a.length) (he : le b = le a ^^^ (p * 2 ^ at_)) : crcR r a ≠ crcR r b := by
  intro e
  rw [crc_le, crc_le, ← hl, he, ← Nat.xor_assoc, sts_xor _ (r ^^^ le a)] at e
  have e2 : sts (8 * a.length) (p * 2 ^ at_) = 0 := by
    have h := congrArg (fun z => sts (8 * a.length) (r ^^^ le a) ^^^ z) e
    simp only [Nat.xor_self, ← Nat.xor_assoc, Nat.zero_xor] at h
    exact h.symm
  rw [show 8 * a.length = at_ + (8 * a.length - at_) by omega, sts_add, sts_shift] at e2
  exact h0 (sts_zero _ p h1 e2)

-- by a table: one look-up a byte
theorem split_low (x : Nat) : x = (x % 256) ^^^ ((x / 256) * 2 ^ 8) := by
  have h : x = x % 256 + 2 ^ 8 * (x / 256) := by omega
  have h2 : 2 ^ 8 * (x / 256) + x % 256 = 2 ^ 8 * (x / 256) ||| x % 256 := Nat.two_pow_add_eq_or_of_lt (by omega) _
  apply Nat.eq_of_testBit_eq
  intro i
  rw [Nat.testBit_xor, Nat.testBit_mul_two_pow]
  by_cases hi : i < 8
  · have h3 : (x % 2 ^ 8).testBit i = (decide (i < 8) && x.testBit i) := Nat.testBit_mod_two_pow x 8 i
    have h4 : (x % 256).testBit i = x.testBit i := by rw [show (256 : Nat) = 2 ^ 8 by rfl, h3]; simp [hi]
    rw [h4]
    simp [show ¬ 8 ≤ i by omega]
  · have h3 : (x % 2 ^ 8).testBit i = (decide (i < 8) && x.testBit i) := Nat.testBit_mod_two_pow x 8 i
    have h4 : (x % 256).testBit i = false := by rw [show (256 : Nat) = 2 ^ 8 by rfl, h3]; simp [hi]
    have h5 : (x / 2 ^ 8).testBit (i - 8) = x.testBit (i - 8 + 8) := Nat.testBit_div_two_pow x (i - 8)
    rw [h4, show (256 : Nat) = 2 ^ 8 by rfl, h5, show i - 8 + 8 = i by omega]
    simp [show 8 ≤ i by omega]
theorem bs_table (r c : Nat) (hc : c < 256) : bs r c = sts 8 ((r ^^^ c) % 256) ^^^ (r / 256) := by
  have e : (r ^^^ c) / 256 = r / 256 := by
    have h : (r ^^^ c) / 2 ^ 8 = (r / 2 ^ 8) ^^^ (c / 2 ^ 8) := Nat.xor_div_two_pow
    rw [show (256 : Nat) = 2 ^ 8 by rfl, h, Nat.div_eq_of_lt (show c < 2 ^ 8 by omega), Nat.xor_zero]
  have h : sts 8 (r ^^^ c) = sts 8 (((r ^^^ c) % 256) ^^^ (((r ^^^ c) / 256) * 2 ^ 8)) := congrArg (sts 8) (split_low (r ^^^ c))
  unfold bs
  rw [h, sts_xor, sts_shift, e]

-- the sum of a text
def FF : Nat := 4294967295
def onF (crc : Nat) (l : List Nat) : Nat := crcR (crc ^^^ FF) l ^^^ FF
theorem ff_ff (x : Nat) : (x ^^^ FF) ^^^ FF = x := by rw [Nat.xor_assoc, Nat.xor_self, Nat.xor_zero]
theorem onF_append (crc : Nat) (a b : List Nat) : onF (onF crc a) b = onF crc (a ++ b) := by
  unfold onF
  rw [ff_ff, crcR_append]
theorem onF_ne (crc : Nat) (a b : List Nat) (h : crcR (crc ^^^ FF) a ≠ crcR (crc ^^^ FF) b) : onF crc a ≠ onF crc b := by
  intro e
  have := congrArg (· ^^^ FF) e
  simp only [onF, ff_ff] at this
  exact h this
theorem onF_three (crc : Nat) (a b c : List Nat) (h1 : a.length = b.length) (h2 : b.length = c.length) : onF crc (List.zipWith (· ^^^ ·) (List.zipWith (· ^^^ ·) a b) c) = onF crc a ^^^ onF crc b ^^^ onF crc c := by
  unfold onF
  rw [crc_three _ a b c h1 h2]
  generalize crcR (crc ^^^ FF) a = x
  generalize crcR (crc ^^^ FF) b = y
  generalize crcR (crc ^^^ FF) c = z
  rw [show (x ^^^ FF) ^^^ (y ^^^ FF) = x ^^^ y by rw [Nat.xor_comm y FF, Nat.xor_assoc, ← Nat.xor_assoc FF, Nat.xor_self, Nat.zero_xor], Nat.xor_assoc]
theorem crcR_lt (r : Nat) (l : List Nat) (h : r < 4294967296) (hl : ∀ c ∈ l, c < 256) : crcR r l < 4294967296 := by
  induction l generalizing r with
  | nil => exact h
  | cons c l ih => exact ih _ (bs_lt r c h (hl c (List.mem_cons_self ..))) (fun x hx => hl x (List.mem_cons_of_mem _ hx))
theorem xor_ff_lt (x : Nat) (h : x < 4294967296) : x ^^^ FF < 4294967296 := Nat.xor_lt_two_pow (n := 32) h (by decide)
theorem onF_lt (crc : Nat) (l : List Nat) (h : crc < 4294967296) (hl : ∀ c ∈ l, c < 256) : onF crc l < 4294967296 := xor_ff_lt _ (crcR_lt _ l (xor_ff_lt crc h) hl)
end Go.Proofs.Ytgioekepoebibaa.ra
