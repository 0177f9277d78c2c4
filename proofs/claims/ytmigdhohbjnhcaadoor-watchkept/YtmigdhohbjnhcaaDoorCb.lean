import Derived.Test.YtmigdhohbjnhcaaDoorCa
namespace Go.Proofs.YtmigdhohbjnhcaaDoor.cb
open Go.Proofs.YtmigdhohbjnhcaaDoor.ca
set_option linter.unusedVariables false

-- the binary digits 1 below j, the greatest first
def digs : Nat → Nat → List Nat
  | 0, _ => []
  | j + 1, h => if h / 2 ^ j % 2 = 1 then j :: digs j h else digs j h
theorem digs_add (i r : Nat) : ∀ j, j ≤ i → digs j (2 ^ i + r) = digs j r := by
  intro j
  induction j with
  | zero => intro _; rfl
  | succ j ih =>
    intro h
    have e : (2 ^ i + r) / 2 ^ j % 2 = r / 2 ^ j % 2 := by
      obtain ⟨d, rfl⟩ : ∃ d, i = j + (d + 1) := ⟨i - j - 1, by omega⟩
      rw [Nat.pow_add, Nat.mul_add_div (p2 j), p2s d]
      omega
    unfold digs
    rw [e, ih (by omega)]
theorem digs_low {j h : Nat} (hh : h < 2 ^ j) : digs (j + 1) h = digs j h := by
  show (if h / 2 ^ j % 2 = 1 then _ else _) = _
  rw [Nat.div_eq_of_lt hh, if_neg (by decide)]
theorem cov_digs (j : Nat) : ∀ (p h : Nat), 2 ^ j ∣ p → h < 2 ^ j → j ≤ 63 → (cov p (p + h)).map Prod.fst = digs j h := by
  induction j with
  | zero =>
    intro p h _ hh _
    have : h = 0 := by have : (2 : Nat) ^ 0 = 1 := rfl; omega
    subst this
    rw [cov_end (by omega)]
    rfl
  | succ j ih =>
    intro p h hd hh hj
    have hs := p2s j
    have hd' : 2 ^ j ∣ p := Nat.dvd_trans (p2dvd (Nat.le_succ j)) hd
    rcases Nat.lt_or_ge h (2 ^ j) with g | g
    · rw [digs_low g]
      exact ih p h hd' g (by omega)
    · rw [cov_at (k := j) (by have := p2 j; omega) (by rw [Nat.add_sub_cancel_left]; exact ⟨by omega, hd', g, .inr (.inr hh)⟩), List.map_cons]
      have := ih (p + 2 ^ j) (h - 2 ^ j) (Nat.dvd_add hd' (Nat.dvd_refl _)) (by omega) (by omega)
      rw [show p + 2 ^ j + (h - 2 ^ j) = p + h by omega] at this
      rw [this]
      have e : digs j h = digs j (h - 2 ^ j) := by
        have := digs_add j (h - 2 ^ j) j (Nat.le_refl _)
        rwa [show 2 ^ j + (h - 2 ^ j) = h by omega] at this
      show _ = (if h / 2 ^ j % 2 = 1 then _ else _)
      have q : h / 2 ^ j = 1 := by
        have : h = 2 ^ j * 1 + (h - 2 ^ j) := by omega
        rw [this, Nat.mul_add_div (p2 j), Nat.div_eq_of_lt (by omega)]
      rw [q, if_pos rfl, e]
-- the greatest power of two below n
def halfF (n : Nat) : Nat → Nat → Nat
  | 0, k => k
  | f + 1, k => if 2 * k < n then halfF n f (2 * k) else k
theorem halfF_is (n : Nat) : ∀ f j, n ≤ 2 ^ (f + j) → 2 ^ j < n → ∃ i, halfF n f (2 ^ j) = 2 ^ i ∧ 2 ^ i < n ∧ n ≤ 2 ^ (i + 1) := by
  intro f
  induction f with
  | zero => intro j h1 h2; rw [Nat.zero_add] at h1; omega
  | succ f ih =>
    intro j h1 h2
    unfold halfF
    split
    · rename_i hh
      rw [← p2s] at hh ⊢
      exact ih (j + 1) (by rw [show f + (j + 1) = f + 1 + j by omega]; exact h1) hh
    · rename_i hh
      exact ⟨j, rfl, h2, by rw [p2s]; omega⟩
def half (n : Nat) : Nat := halfF n n 1
theorem half_is {n : Nat} (h : 2 ≤ n) : ∃ i, half n = 2 ^ i ∧ 2 ^ i < n ∧ n ≤ 2 ^ (i + 1) :=
  halfF_is n n 0 (by rw [Nat.add_zero]; exact Nat.le_of_lt Nat.lt_two_pow_self) (by show 1 < n; omega)
theorem half_eq {n j : Nat} (h1 : 2 ^ j < n) (h2 : n ≤ 2 ^ (j + 1)) : half n = 2 ^ j := by
  have := p2 j
  obtain ⟨i, e, g1, g2⟩ := half_is (n := n) (by omega)
  have a : j < i + 1 := p2lt (by omega)
  have b : i < j + 1 := p2lt (by omega)
  rw [e, show i = j by omega]
section
variable {α : Type} (E : α) (N : α → α → α)
def foldP : List α → α
  | [] => E
  | [x] => x
  | x :: y :: r => N x (foldP (y :: r))
def rootP (l : List α) : α :=
  if h : 2 ≤ l.length then N (rootP (l.take (half l.length))) (rootP (l.drop (half l.length))) else l.headD E
termination_by l.length
decreasing_by
  · obtain ⟨i, e, g1, g2⟩ := half_is h
    rw [List.length_take, e]
    omega
  · obtain ⟨i, e, g1, g2⟩ := half_is h
    have := p2 i
    rw [List.length_drop, e]
    omega
theorem rootP_nil : rootP E N [] = E := by rw [rootP, dif_neg (by simp)]; rfl
theorem rootP_one (x : α) : rootP E N [x] = x := by rw [rootP, dif_neg (by simp)]; rfl
theorem rootP_two {l : List α} {j : Nat} (h1 : 2 ^ j < l.length) (h2 : l.length ≤ 2 ^ (j + 1)) : rootP E N l = N (rootP E N (l.take (2 ^ j))) (rootP E N (l.drop (2 ^ j))) := by
  have := p2 j
  rw [rootP, dif_pos (by omega), half_eq h1 h2]
theorem rootP_half {l : List α} (h : 2 ≤ l.length) : rootP E N l = N (rootP E N (l.take (half l.length))) (rootP E N (l.drop (half l.length))) := by
  rw [rootP, dif_pos h]
def piece (L : List α) (a : Nat × Nat) : List α := (L.drop (a.2 * 2 ^ a.1)).take (2 ^ a.1)
theorem fold_roots (L : List α) (h : Nat) : ∀ (j p : Nat), 2 ^ j ∣ p → h < 2 ^ j → j ≤ 63 → p + h ≤ L.length → foldP E N ((cov p (p + h)).map fun a => rootP E N (piece L a)) = rootP E N ((L.drop p).take h) := by
  induction h using Nat.strongRecOn with
  | ind h ih =>
    intro j p hd hh hj hL
    have hb : h < 2 ^ 63 := Nat.lt_of_lt_of_le hh (p2le hj)
    rcases Nat.eq_zero_or_pos h with e | e
    · subst e
      rw [cov_end (by omega), List.take_zero, rootP_nil]
      rfl
    · have hl := lv_lv p h e
      obtain ⟨k, hk⟩ : ∃ k, lv p h = k := ⟨_, rfl⟩
      rw [hk] at hl
      obtain ⟨h1, h2⟩ := low_is hd hh hl hb
      have hs := p2s k
      have h3 := hl.2.2.1
      rw [cov_at (p := p) (k := k) (by omega) (by rw [Nat.add_sub_cancel_left]; exact hl), List.map_cons]
      have hp : piece L (k, p / 2 ^ k) = (L.drop p).take (2 ^ k) := by
        show (L.drop (p / 2 ^ k * 2 ^ k)).take (2 ^ k) = _
        rw [Nat.div_mul_cancel hl.2.1]
      rw [hp]
      rcases Nat.lt_or_ge (2 ^ k) h with g | g
      · have hne : p + 2 ^ k < p + h := by omega
        have hi := ih (h - 2 ^ k) (by have := p2 k; omega) k (p + 2 ^ k) (Nat.dvd_add hl.2.1 (Nat.dvd_refl _)) (by omega) (by omega) (by omega)
        rw [show p + 2 ^ k + (h - 2 ^ k) = p + h by omega] at hi
        have hll : ((L.drop p).take h).length = h := by rw [List.length_take, List.length_drop]; omega
        rw [rootP_two E N (l := (L.drop p).take h) (j := k) (by rw [hll]; exact g) (by rw [hll]; omega), List.take_take, Nat.min_eq_left (by omega), List.drop_take, List.drop_drop, ← hi]
        obtain ⟨y, r, hy⟩ : ∃ y r, (cov (p + 2 ^ k) (p + h)).map (fun a => rootP E N (piece L a)) = y :: r := by
          rw [cov_at hne (lv_lv _ _ (by omega)), List.map_cons]
          exact ⟨_, _, rfl⟩
        rw [hy]
        rfl
      · obtain rfl : h = 2 ^ k := by omega
        rw [cov_end (by omega)]
        rfl
theorem fold_all (L : List α) (hL : L.length < 2 ^ 63) : foldP E N ((cov 0 L.length).map fun a => rootP E N (piece L a)) = rootP E N L := by
  have := fold_roots E N L L.length 63 0 (Nat.dvd_zero _) hL (Nat.le_refl _) (by omega)
  rw [Nat.zero_add, List.drop_zero, List.take_length] at this
  exact this
end
end Go.Proofs.YtmigdhohbjnhcaaDoor.cb
