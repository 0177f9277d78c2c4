import Derived.Test.YtnnpidjpklfogaaDoorCb
namespace Go.Proofs.YtnnpidjpklfogaaDoor.na
open Go.Proofs.YtnnpidjpklfogaaDoor.ca Go.Proofs.YtnnpidjpklfogaaDoor.cb
set_option linter.unusedVariables false

-- a node with its hash; the two halves of one node; that node
abbrev Nd (α : Type) := (Nat × Nat) × α
def halves (a b : Nat × Nat) : Prop := a.1 = b.1 ∧ a.2 % 2 = 0 ∧ b.2 = a.2 + 1 ∧ a.1 < 62
instance (a b : Nat × Nat) : Decidable (halves a b) := by unfold halves; infer_instance
section
variable {α : Type} (N : α → α → α)
def upN (a b : Nd α) : Nd α := ((a.1.1 + 1, a.1.2 / 2), N a.2 b.2)
-- a node put behind: the list from the right; what became whole
def joinR : List (Nd α) → Nd α → List (Nd α) × List (Nd α)
  | [], x => ([x], [])
  | a :: rs, x => if halves a.1 x.1 then ((joinR rs (upN N a x)).1, upN N a x :: (joinR rs (upN N a x)).2) else (x :: a :: rs, [])
theorem joinR_yes {a x : Nd α} (rs : List (Nd α)) (h : halves a.1 x.1) : joinR N (a :: rs) x = ((joinR N rs (upN N a x)).1, upN N a x :: (joinR N rs (upN N a x)).2) := by rw [joinR, if_pos h]
theorem joinR_no {a x : Nd α} (rs : List (Nd α)) (h : ¬ halves a.1 x.1) : joinR N (a :: rs) x = (x :: a :: rs, []) := by rw [joinR, if_neg h]
theorem joinR_ne (rs : List (Nd α)) : ∀ x, (joinR N rs x).1 ≠ [] := by
  induction rs with
  | nil => intro x; simp [joinR]
  | cons a rs ih =>
    intro x
    by_cases h : halves a.1 x.1
    · rw [joinR_yes N rs h]; exact ih _
    · rw [joinR_no N rs h]; simp
theorem joinR_count (rs : List (Nd α)) : ∀ x, (joinR N rs x).1.length + (joinR N rs x).2.length = rs.length + 1 := by
  induction rs with
  | nil => intro x; simp [joinR]
  | cons a rs ih =>
    intro x
    by_cases h : halves a.1 x.1
    · rw [joinR_yes N rs h]; have := ih (upN N a x); simp; omega
    · rw [joinR_no N rs h]; simp
-- the node that all were joined into
def lone : List (Nd α) → Option (Nd α)
  | [y] => some y
  | _ => none
theorem joinR_snoc (a : Nd α) (rs : List (Nd α)) : ∀ x, (∃ y, (joinR N rs x).1 = [y] ∧ halves a.1 y.1 ∧ joinR N (rs ++ [a]) x = ([upN N a y], (joinR N rs x).2 ++ [upN N a y])) ∨ ((∀ y, (joinR N rs x).1 = [y] → ¬ halves a.1 y.1) ∧ joinR N (rs ++ [a]) x = ((joinR N rs x).1 ++ [a], (joinR N rs x).2)) := by
  induction rs with
  | nil =>
    intro x
    by_cases h : halves a.1 x.1
    · left; exact ⟨x, rfl, h, by rw [List.nil_append, joinR_yes N [] h]; rfl⟩
    · right
      refine ⟨fun y hy => ?_, by rw [List.nil_append, joinR_no N [] h]; rfl⟩
      have : x = y := by simpa [joinR] using hy
      rw [← this]; exact h
  | cons c rs ih =>
    intro x
    by_cases h : halves c.1 x.1
    · rw [List.cons_append, joinR_yes N rs h, joinR_yes N (rs ++ [a]) h]
      rcases ih (upN N c x) with ⟨y, h1, h2, h3⟩ | ⟨h1, h2⟩
      · left; exact ⟨y, h1, h2, by rw [h3]; rfl⟩
      · right; exact ⟨h1, by rw [h2]⟩
    · right
      rw [List.cons_append, joinR_no N rs h, joinR_no N (rs ++ [a]) h]
      exact ⟨fun y hy => by simp at hy, rfl⟩
-- the pieces of a range whose end is moved by an aligned piece
theorem cov_one {p k : Nat} (hk : k ≤ 62) (hd : 2 ^ k ∣ p) : cov p (p + 2 ^ k) = [(k, p / 2 ^ k)] := by
  have := p2 k
  rw [cov_at (p := p) (hi := p + 2 ^ k) (k := k) (by omega) ⟨hk, hd, by omega, .inr (.inr (by rw [p2s]; omega))⟩, cov_end (by omega)]
theorem dvd_gap {m a b : Nat} (h1 : m ∣ a) (h2 : m ∣ b) (h : a < b) : a + m ≤ b := by
  have h3 : m ∣ b - a := Nat.dvd_sub h2 h1
  have := Nat.le_of_dvd (by omega) h3
  omega
theorem even_up {j lo : Nat} (hd : 2 ^ j ∣ lo) : lo / 2 ^ j % 2 = 0 ↔ 2 ^ (j + 1) ∣ lo := by
  obtain ⟨c, rfl⟩ := hd
  have hp := p2 j
  rw [Nat.mul_div_cancel_left c hp, Nat.pow_succ]
  constructor
  · intro h
    exact Nat.mul_dvd_mul_left _ (Nat.dvd_of_mod_eq_zero h)
  · intro h
    exact Nat.mod_eq_zero_of_dvd (Nat.dvd_of_mul_dvd_mul_left hp h)
theorem join_cov {p k : Nat} (hk : k ≤ 62) (hd : 2 ^ k ∣ p) (hb : p + 2 ^ k ≤ 2 ^ 62) (x : Nd α) (hx : x.1 = (k, p / 2 ^ k)) (lo : Nat) :
    lo ≤ p → ∀ ns : List (Nd α), ns.map Prod.fst = cov lo p → (joinR N ns.reverse x).1.reverse.map Prod.fst = cov lo (p + 2 ^ k) := by
  refine cov_fold (p := lo) (hi := p) (fun lo p' => p' = p → lo ≤ p → ∀ ns : List (Nd α), ns.map Prod.fst = cov lo p → (joinR N ns.reverse x).1.reverse.map Prod.fst = cov lo (p + 2 ^ k)) ?_ ?_ rfl
  · intro lo h _ hle ns hns
    obtain rfl : lo = p := by omega
    rw [cov_end h] at hns
    obtain rfl := List.map_eq_nil_iff.1 hns
    rw [cov_one hk hd]
    simp [joinR, hx]
  · intro lo j hlt hl ih _ hle ns hns
    have hpk := p2 k
    have hpj := p2 j
    obtain ⟨hj, hdj, hfit, hmax⟩ := hl
    rw [cov_at hlt ⟨hj, hdj, hfit, hmax⟩] at hns
    obtain ⟨a, rest, rfl, ha, hrest⟩ := List.map_eq_cons_iff.1 hns
    have IH := ih rfl (by omega) rest hrest
    rw [List.reverse_cons]
    have up2 : 2 ^ (j + 1) = 2 * 2 ^ j := p2s j
    -- the level of the first piece stays, or all joins
    have key : (j = 62 ∨ ¬ 2 ^ (j + 1) ∣ lo ∨ p + 2 ^ k - lo < 2 ^ (j + 1)) ∨ (j < 62 ∧ 2 ^ (j + 1) ∣ lo ∧ p + 2 ^ k = lo + 2 ^ (j + 1)) := by
      rcases hmax with h | h | h
      · exact .inl (.inl h)
      · exact .inl (.inr (.inl h))
      · by_cases h1 : j = 62
        · exact .inl (.inl h1)
        · by_cases h2 : 2 ^ (j + 1) ∣ lo
          · by_cases h3 : p + 2 ^ k - lo < 2 ^ (j + 1)
            · exact .inl (.inr (.inr h3))
            · right
              refine ⟨by omega, h2, ?_⟩
              rcases Nat.lt_or_ge j k with hjk | hjk
              · have hd1 : 2 ^ (j + 1) ∣ p := Nat.dvd_trans (p2dvd hjk) hd
                have := dvd_gap h2 hd1 hlt
                omega
              · have hd1 : 2 ^ k ∣ lo + 2 ^ (j + 1) := Nat.dvd_add (Nat.dvd_trans (p2dvd (by omega)) h2) (p2dvd (by omega))
                have := dvd_gap hd hd1 (by omega)
                omega
          · exact .inl (.inr (.inl h2))
    rcases joinR_snoc N a rest.reverse x with ⟨y, h1, h2, h3⟩ | ⟨h1, h2⟩
    · rw [h3]
      rw [h1] at IH
      have hy : cov (lo + 2 ^ j) (p + 2 ^ k) = [y.1] := by rw [← IH]; rfl
      rw [ha] at h2
      obtain ⟨e1, e2, e3, e4⟩ := h2
      simp only at e1 e2 e3 e4
      have hup : 2 ^ (j + 1) ∣ lo := (even_up hdj).1 e2
      -- the one piece behind is of the same level
      have hlt2 : lo + 2 ^ j < p + 2 ^ k := by omega
      have hl2 := lv_lv (lo + 2 ^ j) (p + 2 ^ k - (lo + 2 ^ j)) (by omega)
      generalize hm : lv (lo + 2 ^ j) (p + 2 ^ k - (lo + 2 ^ j)) = m at hl2
      rw [cov_at hlt2 hl2] at hy
      injection hy with hy1 hy2
      have hend : ¬ lo + 2 ^ j + 2 ^ m < p + 2 ^ k := by
        intro h
        have := cov_at h (lv_lv (lo + 2 ^ j + 2 ^ m) (p + 2 ^ k - (lo + 2 ^ j + 2 ^ m)) (by omega))
        rw [hy2] at this
        cases this
      have hfit2 := hl2.2.2.1
      have hmj : m = j := by rw [← hy1] at e1; exact e1.symm
      subst hmj
      have hsum : p + 2 ^ k = lo + 2 ^ (m + 1) := by omega
      rw [hsum, cov_one (by omega) hup]
      simp only [List.reverse_cons, List.reverse_nil, List.nil_append, List.map_cons, List.map_nil, upN, ha]
      rw [Nat.pow_succ, ← Nat.div_div_eq_div_mul]
    · rw [h2]
      rcases key with hk1 | ⟨g1, g2, g3⟩
      · rw [cov_at (p := lo) (hi := p + 2 ^ k) (k := j) (by omega) ⟨hj, hdj, by omega, hk1⟩]
        simp only [List.reverse_append, List.reverse_cons, List.reverse_nil, List.nil_append, List.singleton_append, List.map_cons, ha]
        rw [IH]
      · exfalso
        have hone : cov (lo + 2 ^ j) (p + 2 ^ k) = [(j, (lo + 2 ^ j) / 2 ^ j)] := by
          rw [g3, up2, show lo + 2 * 2 ^ j = lo + 2 ^ j + 2 ^ j by omega]
          exact cov_one hj (Nat.dvd_add hdj (Nat.dvd_refl _))
        rw [hone] at IH
        obtain ⟨y, hy1, hy2⟩ := List.map_eq_singleton_iff.1 IH
        have hy3 : (joinR N rest.reverse x).1 = [y] := by rw [← List.reverse_reverse (joinR N rest.reverse x).1, hy1]; rfl
        refine h1 y hy3 ?_
        rw [ha, hy2]
        refine ⟨rfl, (even_up hdj).2 g2, ?_, g1⟩
        show (lo + 2 ^ j) / 2 ^ j = lo / 2 ^ j + 1
        rw [Nat.add_div_right _ hpj]
-- what became whole, from below
theorem joinR_whole (rs : List (Nd α)) : ∀ (x : Nd α) (t : Nat) (y : Nd α), (joinR N rs x).2[t]? = some y → y.1 = (x.1.1 + t + 1, x.1.2 / 2 ^ (t + 1)) ∧ x.1.1 + t < 62 := by
  induction rs with
  | nil => intro x t y h; simp [joinR] at h
  | cons a rs ih =>
    intro x t y h
    by_cases hh : halves a.1 x.1
    · rw [joinR_yes N rs hh] at h
      obtain ⟨e1, e2, e3, e4⟩ := hh
      have hu : (upN N a x).1 = (x.1.1 + 1, x.1.2 / 2) := by
        show (a.1.1 + 1, a.1.2 / 2) = _
        rw [e1, e3]
        congr 1
        omega
      cases t with
      | zero =>
        simp at h
        subst h
        rw [hu]
        exact ⟨by simp, by omega⟩
      | succ t =>
        simp at h
        obtain ⟨g1, g2⟩ := ih _ _ _ h
        rw [hu] at g1 g2
        refine ⟨?_, by simp at g2; omega⟩
        rw [g1]
        simp only
        rw [Nat.div_div_eq_div_mul, show 2 * 2 ^ (t + 1) = 2 ^ (t + 1 + 1) by rw [Nat.pow_succ 2 (t + 1), Nat.mul_comm]]
        congr 1
        omega
    · rw [joinR_no N rs hh] at h; simp at h
-- hashes that are the nodes' own
def Own (H : Nat → Nat → α) (ns : List (Nd α)) : Prop := ∀ n ∈ ns, n.2 = H n.1.1 n.1.2
theorem own_join {H : Nat → Nat → α} (hH : ∀ k i, k < 62 → H (k + 1) i = N (H k (2 * i)) (H k (2 * i + 1))) (rs : List (Nd α)) : ∀ x, Own H rs → x.2 = H x.1.1 x.1.2 → Own H (joinR N rs x).1 ∧ Own H (joinR N rs x).2 := by
  induction rs with
  | nil =>
    intro x _ hx
    refine ⟨fun n hn => ?_, fun n hn => ?_⟩
    · simp [joinR] at hn; subst hn; exact hx
    · simp [joinR] at hn
  | cons a rs ih =>
    intro x hr hx
    by_cases hh : halves a.1 x.1
    · rw [joinR_yes N rs hh]
      obtain ⟨e1, e2, e3, e4⟩ := hh
      have hu : (upN N a x).2 = H (upN N a x).1.1 (upN N a x).1.2 := by
        show N a.2 x.2 = H (a.1.1 + 1) (a.1.2 / 2)
        rw [hH _ _ e4, hr a (by simp), hx, ← e1, e3]
        congr 2 <;> omega
      obtain ⟨g1, g2⟩ := ih (upN N a x) (fun n hn => hr n (by simp [hn])) hu
      refine ⟨g1, fun n hn => ?_⟩
      rcases List.mem_cons.1 hn with rfl | hn
      · exact hu
      · exact g2 n hn
    · rw [joinR_no N rs hh]
      refine ⟨fun n hn => ?_, fun n hn => by simp at hn⟩
      rcases List.mem_cons.1 hn with rfl | hn
      · exact hx
      · exact hr n hn
-- many nodes, one behind the other
def runR : List (Nd α) → List (Nd α) → List (Nd α) × List (Nd α)
  | rs, [] => (rs, [])
  | rs, x :: xs => ((runR (joinR N rs x).1 xs).1, (joinR N rs x).2 ++ (runR (joinR N rs x).1 xs).2)
theorem runR_count (xs : List (Nd α)) : ∀ rs, (runR N rs xs).1.length + (runR N rs xs).2.length = rs.length + xs.length := by
  induction xs with
  | nil => intro rs; simp [runR]
  | cons x xs ih =>
    intro rs
    have h1 := ih (joinR N rs x).1
    have h2 := joinR_count N rs x
    simp only [runR, List.length_append, List.length_cons]
    omega
theorem run_cov {hi : Nat} (hb : hi ≤ 2 ^ 62) (lo p : Nat) : lo ≤ p → p ≤ hi → ∀ ns xs : List (Nd α), ns.map Prod.fst = cov lo p → xs.map Prod.fst = cov p hi → (runR N ns.reverse xs).1.reverse.map Prod.fst = cov lo hi := by
  refine cov_fold (p := p) (hi := hi) (fun p hi' => hi' = hi → lo ≤ p → p ≤ hi → ∀ ns xs : List (Nd α), ns.map Prod.fst = cov lo p → xs.map Prod.fst = cov p hi → (runR N ns.reverse xs).1.reverse.map Prod.fst = cov lo hi) ?_ ?_ rfl
  · intro p h _ h1 h2 ns xs hn hx
    obtain rfl : p = hi := by omega
    rw [cov_end h] at hx
    obtain rfl := List.map_eq_nil_iff.1 hx
    simp [runR, hn]
  · intro p k hlt hl ih _ h1 h2 ns xs hn hx
    rw [cov_at hlt hl] at hx
    obtain ⟨x, xs, rfl, hx1, hx2⟩ := List.map_eq_cons_iff.1 hx
    have hfit := hl.2.2.1
    have hpk := p2 k
    have hj := join_cov N hl.1 hl.2.1 (by omega) x hx1 lo h1 ns hn
    have := ih rfl (by omega) (by omega) (joinR N ns.reverse x).1.reverse xs hj hx2
    rw [List.reverse_reverse] at this
    exact this
theorem own_run {H : Nat → Nat → α} (hH : ∀ k i, k < 62 → H (k + 1) i = N (H k (2 * i)) (H k (2 * i + 1))) (xs : List (Nd α)) : ∀ rs, Own H rs → Own H xs → Own H (runR N rs xs).1 ∧ Own H (runR N rs xs).2 := by
  induction xs with
  | nil => intro rs h _; exact ⟨h, fun n hn => by simp [runR] at hn⟩
  | cons x xs ih =>
    intro rs h hx
    obtain ⟨g1, g2⟩ := own_join N hH rs x h (hx x (by simp))
    obtain ⟨g3, g4⟩ := ih _ g1 (fun n hn => hx n (by simp [hn]))
    refine ⟨g3, fun n hn => ?_⟩
    rcases List.mem_append.1 hn with hn | hn
    · exact g2 n hn
    · exact g4 n hn
theorem own_labels {H : Nat → Nat → α} {ns : List (Nd α)} (h : Own H ns) : ns.map Prod.snd = (ns.map Prod.fst).map fun a => H a.1 a.2 := by
  rw [List.map_map]
  apply List.map_congr_left
  intro n hn
  exact h n hn
end
end Go.Proofs.YtnnpidjpklfogaaDoor.na
