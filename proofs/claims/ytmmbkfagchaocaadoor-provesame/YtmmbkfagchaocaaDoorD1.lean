import Derived.Test.YtmmbkfagchaocaaDoorB1
import Derived.Test.YtmmbkfagchaocaaDoorA2
import Derived.BigQuiet
import Derived.Laws.OwnMore
import Derived.Maps.AppendAt
import Derived.Test.YtmmbkfagchaocaaDoorA1
namespace Go.Proofs.YtmmbkfagchaocaaDoor.na
open Go.Proofs.YtmmbkfagchaocaaDoor.ca Go.Proofs.YtmmbkfagchaocaaDoor.cb
set_option linter.unusedVariables false

-- a node with its hash; the two halves of one node; that node
abbrev Nd (α : Type) := (Nat × Nat) × α
def halves (a b : Nat × Nat) : Prop := a.1 = b.1 ∧ a.2 % 2 = 0 ∧ b.2 = a.2 + 1 ∧ a.1 < 62
instance (a b : Nat × Nat) : Decidable (halves a b) := by unfold halves; infer_instance
section
variable {α : Type} (N : α → α → α)
def upN (a b : Nd α) : Nd α := ((a.1.1 + 1, a.1.2 / 2), N a.2 b.2)
-- a node put behind: the list from the right; what became whole
def joinR : List (Nd α) → Nd α → List (Nd α) × List (Nd α)
  | [], x => ([x], [])
  | a :: rs, x => if halves a.1 x.1 then ((joinR rs (upN N a x)).1, upN N a x :: (joinR rs (upN N a x)).2) else (x :: a :: rs, [])
theorem joinR_yes {a x : Nd α} (rs : List (Nd α)) (h : halves a.1 x.1) : joinR N (a :: rs) x = ((joinR N rs (upN N a x)).1, upN N a x :: (joinR N rs (upN N a x)).2) := by rw [joinR, if_pos h]
theorem joinR_no {a x : Nd α} (rs : List (Nd α)) (h : ¬ halves a.1 x.1) : joinR N (a :: rs) x = (x :: a :: rs, []) := by rw [joinR, if_neg h]
theorem joinR_ne (rs : List (Nd α)) : ∀ x, (joinR N rs x).1 ≠ [] := by
  induction rs with
  | nil => intro x; simp [joinR]
  | cons a rs ih =>
    intro x
    by_cases h : halves a.1 x.1
    · rw [joinR_yes N rs h]; exact ih _
    · rw [joinR_no N rs h]; simp
theorem joinR_count (rs : List (Nd α)) : ∀ x, (joinR N rs x).1.length + (joinR N rs x).2.length = rs.length + 1 := by
  induction rs with
  | nil => intro x; simp [joinR]
  | cons a rs ih =>
    intro x
    by_cases h : halves a.1 x.1
    · rw [joinR_yes N rs h]; have := ih (upN N a x); simp; omega
    · rw [joinR_no N rs h]; simp
-- the node that all were joined into
def lone : List (Nd α) → Option (Nd α)
  | [y] => some y
  | _ => none
theorem joinR_snoc (a : Nd α) (rs : List (Nd α)) : ∀ x, (∃ y, (joinR N rs x).1 = [y] ∧ halves a.1 y.1 ∧ joinR N (rs ++ [a]) x = ([upN N a y], (joinR N rs x).2 ++ [upN N a y])) ∨ ((∀ y, (joinR N rs x).1 = [y] → ¬ halves a.1 y.1) ∧ joinR N (rs ++ [a]) x = ((joinR N rs x).1 ++ [a], (joinR N rs x).2)) := by
  induction rs with
  | nil =>
    intro x
    by_cases h : halves a.1 x.1
    · left; exact ⟨x, rfl, h, by rw [List.nil_append, joinR_yes N [] h]; rfl⟩
    · right
      refine ⟨fun y hy => ?_, by rw [List.nil_append, joinR_no N [] h]; rfl⟩
      have : x = y := by simpa [joinR] using hy
      rw [← this]; exact h
  | cons c rs ih =>
    intro x
    by_cases h : halves c.1 x.1
    · rw [List.cons_append, joinR_yes N rs h, joinR_yes N (rs ++ [a]) h]
      rcases ih (upN N c x) with ⟨y, h1, h2, h3⟩ | ⟨h1, h2⟩
      · left; exact ⟨y, h1, h2, by rw [h3]; rfl⟩
      · right; exact ⟨h1, by rw [h2]⟩
    · right
      rw [List.cons_append, joinR_no N rs h, joinR_no N (rs ++ [a]) h]
      exact ⟨fun y hy => by simp at hy, rfl⟩
-- the pieces of a range whose end is moved by an aligned piece
theorem cov_one {p k : Nat} (hk : k ≤ 62) (hd : 2 ^ k ∣ p) : cov p (p + 2 ^ k) = [(k, p / 2 ^ k)] := by
  have := p2 k
  rw [cov_at (p := p) (hi := p + 2 ^ k) (k := k) (by omega) ⟨hk, hd, by omega, .inr (.inr (by rw [p2s]; omega))⟩, cov_end (by omega)]
theorem dvd_gap {m a b : Nat} (h1 : m ∣ a) (h2 : m ∣ b) (h : a < b) : a + m ≤ b := by
  have h3 : m ∣ b - a := Nat.dvd_sub h2 h1
  have := Nat.le_of_dvd (by omega) h3
  omega
theorem even_up {j lo : Nat} (hd : 2 ^ j ∣ lo) : lo / 2 ^ j % 2 = 0 ↔ 2 ^ (j + 1) ∣ lo := by
  obtain ⟨c, rfl⟩ := hd
  have hp := p2 j
  rw [Nat.mul_div_cancel_left c hp, Nat.pow_succ]
  constructor
  · intro h
    exact Nat.mul_dvd_mul_left _ (Nat.dvd_of_mod_eq_zero h)
  · intro h
    exact Nat.mod_eq_zero_of_dvd (Nat.dvd_of_mul_dvd_mul_left hp h)
theorem join_cov {p k : Nat} (hk : k ≤ 62) (hd : 2 ^ k ∣ p) (hb : p + 2 ^ k ≤ 2 ^ 62) (x : Nd α) (hx : x.1 = (k, p / 2 ^ k)) (lo : Nat) :
    lo ≤ p → ∀ ns : List (Nd α), ns.map Prod.fst = cov lo p → (joinR N ns.reverse x).1.reverse.map Prod.fst = cov lo (p + 2 ^ k) := by
  refine cov_fold (p := lo) (hi := p) (fun lo p' => p' = p → lo ≤ p → ∀ ns : List (Nd α), ns.map Prod.fst = cov lo p → (joinR N ns.reverse x).1.reverse.map Prod.fst = cov lo (p + 2 ^ k)) ?_ ?_ rfl
  · intro lo h _ hle ns hns
    obtain rfl : lo = p := by omega
    rw [cov_end h] at hns
    obtain rfl := List.map_eq_nil_iff.1 hns
    rw [cov_one hk hd]
    simp [joinR, hx]
  · intro lo j hlt hl ih _ hle ns hns
    have hpk := p2 k
    have hpj := p2 j
    obtain ⟨hj, hdj, hfit, hmax⟩ := hl
    rw [cov_at hlt ⟨hj, hdj, hfit, hmax⟩] at hns
    obtain ⟨a, rest, rfl, ha, hrest⟩ := List.map_eq_cons_iff.1 hns
    have IH := ih rfl (by omega) rest hrest
    rw [List.reverse_cons]
    have up2 : 2 ^ (j + 1) = 2 * 2 ^ j := p2s j
    -- the level of the first piece stays, or all joins
    have key : (j = 62 ∨ ¬ 2 ^ (j + 1) ∣ lo ∨ p + 2 ^ k - lo < 2 ^ (j + 1)) ∨ (j < 62 ∧ 2 ^ (j + 1) ∣ lo ∧ p + 2 ^ k = lo + 2 ^ (j + 1)) := by
      rcases hmax with h | h | h
      · exact .inl (.inl h)
      · exact .inl (.inr (.inl h))
      · by_cases h1 : j = 62
        · exact .inl (.inl h1)
        · by_cases h2 : 2 ^ (j + 1) ∣ lo
          · by_cases h3 : p + 2 ^ k - lo < 2 ^ (j + 1)
            · exact .inl (.inr (.inr h3))
            · right
              refine ⟨by omega, h2, ?_⟩
              rcases Nat.lt_or_ge j k with hjk | hjk
              · have hd1 : 2 ^ (j + 1) ∣ p := Nat.dvd_trans (p2dvd hjk) hd
                have := dvd_gap h2 hd1 hlt
                omega
              · have hd1 : 2 ^ k ∣ lo + 2 ^ (j + 1) := Nat.dvd_add (Nat.dvd_trans (p2dvd (by omega)) h2) (p2dvd (by omega))
                have := dvd_gap hd hd1 (by omega)
                omega
          · exact .inl (.inr (.inl h2))
    rcases joinR_snoc N a rest.reverse x with ⟨y, h1, h2, h3⟩ | ⟨h1, h2⟩
    · rw [h3]
      rw [h1] at IH
      have hy : cov (lo + 2 ^ j) (p + 2 ^ k) = [y.1] := by rw [← IH]; rfl
      rw [ha] at h2
      obtain ⟨e1, e2, e3, e4⟩ := h2
      simp only at e1 e2 e3 e4
      have hup : 2 ^ (j + 1) ∣ lo := (even_up hdj).1 e2
      -- the one piece behind is of the same level
      have hlt2 : lo + 2 ^ j < p + 2 ^ k := by omega
      have hl2 := lv_lv (lo + 2 ^ j) (p + 2 ^ k - (lo + 2 ^ j)) (by omega)
      generalize hm : lv (lo + 2 ^ j) (p + 2 ^ k - (lo + 2 ^ j)) = m at hl2
      rw [cov_at hlt2 hl2] at hy
      injection hy with hy1 hy2
      have hend : ¬ lo + 2 ^ j + 2 ^ m < p + 2 ^ k := by
        intro h
        have := cov_at h (lv_lv (lo + 2 ^ j + 2 ^ m) (p + 2 ^ k - (lo + 2 ^ j + 2 ^ m)) (by omega))
        rw [hy2] at this
        cases this
      have hfit2 := hl2.2.2.1
      have hmj : m = j := by rw [← hy1] at e1; exact e1.symm
      subst hmj
      have hsum : p + 2 ^ k = lo + 2 ^ (m + 1) := by omega
      rw [hsum, cov_one (by omega) hup]
      simp only [List.reverse_cons, List.reverse_nil, List.nil_append, List.map_cons, List.map_nil, upN, ha]
      rw [Nat.pow_succ, ← Nat.div_div_eq_div_mul]
    · rw [h2]
      rcases key with hk1 | ⟨g1, g2, g3⟩
      · rw [cov_at (p := lo) (hi := p + 2 ^ k) (k := j) (by omega) ⟨hj, hdj, by omega, hk1⟩]
        simp only [List.reverse_append, List.reverse_cons, List.reverse_nil, List.nil_append, List.singleton_append, List.map_cons, ha]
        rw [IH]
      · exfalso
        have hone : cov (lo + 2 ^ j) (p + 2 ^ k) = [(j, (lo + 2 ^ j) / 2 ^ j)] := by
          rw [g3, up2, show lo + 2 * 2 ^ j = lo + 2 ^ j + 2 ^ j by omega]
          exact cov_one hj (Nat.dvd_add hdj (Nat.dvd_refl _))
        rw [hone] at IH
        obtain ⟨y, hy1, hy2⟩ := List.map_eq_singleton_iff.1 IH
        have hy3 : (joinR N rest.reverse x).1 = [y] := by rw [← List.reverse_reverse (joinR N rest.reverse x).1, hy1]; rfl
        refine h1 y hy3 ?_
        rw [ha, hy2]
        refine ⟨rfl, (even_up hdj).2 g2, ?_, g1⟩
        show (lo + 2 ^ j) / 2 ^ j = lo / 2 ^ j + 1
        rw [Nat.add_div_right _ hpj]
-- what became whole, from below
theorem joinR_whole (rs : List (Nd α)) : ∀ (x : Nd α) (t : Nat) (y : Nd α), (joinR N rs x).2[t]? = some y → y.1 = (x.1.1 + t + 1, x.1.2 / 2 ^ (t + 1)) ∧ x.1.1 + t < 62 := by
  induction rs with
  | nil => intro x t y h; simp [joinR] at h
  | cons a rs ih =>
    intro x t y h
    by_cases hh : halves a.1 x.1
    · rw [joinR_yes N rs hh] at h
      obtain ⟨e1, e2, e3, e4⟩ := hh
      have hu : (upN N a x).1 = (x.1.1 + 1, x.1.2 / 2) := by
        show (a.1.1 + 1, a.1.2 / 2) = _
        rw [e1, e3]
        congr 1
        omega
      cases t with
      | zero =>
        simp at h
        subst h
        rw [hu]
        exact ⟨by simp, by omega⟩
      | succ t =>
        simp at h
        obtain ⟨g1, g2⟩ := ih _ _ _ h
        rw [hu] at g1 g2
        refine ⟨?_, by simp at g2; omega⟩
        rw [g1]
        simp only
        rw [Nat.div_div_eq_div_mul, show 2 * 2 ^ (t + 1) = 2 ^ (t + 1 + 1) by rw [Nat.pow_succ 2 (t + 1), Nat.mul_comm]]
        congr 1
        omega
    · rw [joinR_no N rs hh] at h; simp at h
-- hashes that are the nodes' own
def Own (H : Nat → Nat → α) (ns : List (Nd α)) : Prop := ∀ n ∈ ns, n.2 = H n.1.1 n.1.2
theorem own_join {H : Nat → Nat → α} (hH : ∀ k i, k < 62 → H (k + 1) i = N (H k (2 * i)) (H k (2 * i + 1))) (rs : List (Nd α)) : ∀ x, Own H rs → x.2 = H x.1.1 x.1.2 → Own H (joinR N rs x).1 ∧ Own H (joinR N rs x).2 := by
  induction rs with
  | nil =>
    intro x _ hx
    refine ⟨fun n hn => ?_, fun n hn => ?_⟩
    · simp [joinR] at hn; subst hn; exact hx
    · simp [joinR] at hn
  | cons a rs ih =>
    intro x hr hx
    by_cases hh : halves a.1 x.1
    · rw [joinR_yes N rs hh]
      obtain ⟨e1, e2, e3, e4⟩ := hh
      have hu : (upN N a x).2 = H (upN N a x).1.1 (upN N a x).1.2 := by
        show N a.2 x.2 = H (a.1.1 + 1) (a.1.2 / 2)
        rw [hH _ _ e4, hr a (by simp), hx, ← e1, e3]
        congr 2 <;> omega
      obtain ⟨g1, g2⟩ := ih (upN N a x) (fun n hn => hr n (by simp [hn])) hu
      refine ⟨g1, fun n hn => ?_⟩
      rcases List.mem_cons.1 hn with rfl | hn
      · exact hu
      · exact g2 n hn
    · rw [joinR_no N rs hh]
      refine ⟨fun n hn => ?_, fun n hn => by simp at hn⟩
      rcases List.mem_cons.1 hn with rfl | hn
      · exact hx
      · exact hr n hn
-- many nodes, one behind the other
def runR : List (Nd α) → List (Nd α) → List (Nd α) × List (Nd α)
  | rs, [] => (rs, [])
  | rs, x :: xs => ((runR (joinR N rs x).1 xs).1, (joinR N rs x).2 ++ (runR (joinR N rs x).1 xs).2)
theorem runR_count (xs : List (Nd α)) : ∀ rs, (runR N rs xs).1.length + (runR N rs xs).2.length = rs.length + xs.length := by
  induction xs with
  | nil => intro rs; simp [runR]
  | cons x xs ih =>
    intro rs
    have h1 := ih (joinR N rs x).1
    have h2 := joinR_count N rs x
    simp only [runR, List.length_append, List.length_cons]
    omega
theorem run_cov {hi : Nat} (hb : hi ≤ 2 ^ 62) (lo p : Nat) : lo ≤ p → p ≤ hi → ∀ ns xs : List (Nd α), ns.map Prod.fst = cov lo p → xs.map Prod.fst = cov p hi → (runR N ns.reverse xs).1.reverse.map Prod.fst = cov lo hi := by
  refine cov_fold (p := p) (hi := hi) (fun p hi' => hi' = hi → lo ≤ p → p ≤ hi → ∀ ns xs : List (Nd α), ns.map Prod.fst = cov lo p → xs.map Prod.fst = cov p hi → (runR N ns.reverse xs).1.reverse.map Prod.fst = cov lo hi) ?_ ?_ rfl
  · intro p h _ h1 h2 ns xs hn hx
    obtain rfl : p = hi := by omega
    rw [cov_end h] at hx
    obtain rfl := List.map_eq_nil_iff.1 hx
    simp [runR, hn]
  · intro p k hlt hl ih _ h1 h2 ns xs hn hx
    rw [cov_at hlt hl] at hx
    obtain ⟨x, xs, rfl, hx1, hx2⟩ := List.map_eq_cons_iff.1 hx
    have hfit := hl.2.2.1
    have hpk := p2 k
    have hj := join_cov N hl.1 hl.2.1 (by omega) x hx1 lo h1 ns hn
    have := ih rfl (by omega) (by omega) (joinR N ns.reverse x).1.reverse xs hj hx2
    rw [List.reverse_reverse] at this
    exact this
theorem own_run {H : Nat → Nat → α} (hH : ∀ k i, k < 62 → H (k + 1) i = N (H k (2 * i)) (H k (2 * i + 1))) (xs : List (Nd α)) : ∀ rs, Own H rs → Own H xs → Own H (runR N rs xs).1 ∧ Own H (runR N rs xs).2 := by
  induction xs with
  | nil => intro rs h _; exact ⟨h, fun n hn => by simp [runR] at hn⟩
  | cons x xs ih =>
    intro rs h hx
    obtain ⟨g1, g2⟩ := own_join N hH rs x h (hx x (by simp))
    obtain ⟨g3, g4⟩ := ih _ g1 (fun n hn => hx n (by simp [hn]))
    refine ⟨g3, fun n hn => ?_⟩
    rcases List.mem_append.1 hn with hn | hn
    · exact g2 n hn
    · exact g4 n hn
theorem own_labels {H : Nat → Nat → α} {ns : List (Nd α)} (h : Own H ns) : ns.map Prod.snd = (ns.map Prod.fst).map fun a => H a.1 a.2 := by
  rw [List.map_map]
  apply List.map_congr_left
  intro n hn
  exact h n hn
end
end Go.Proofs.YtmmbkfagchaocaaDoor.na

namespace Go.Proofs.YtmmbkfagchaocaaDoor.nb
open Go.RowKit Go.PlainAid
open Go.Proofs.YtmmbkfagchaocaaDoor.pl Go.Proofs.YtmmbkfagchaocaaDoor.pi Go.Proofs.YtmmbkfagchaocaaDoor.pj Go.Proofs.YtmmbkfagchaocaaDoor.rf Go.Proofs.YtmmbkfagchaocaaDoor.ca Go.Proofs.YtmmbkfagchaocaaDoor.cb Go.Proofs.YtmmbkfagchaocaaDoor.cp Go.Proofs.YtmmbkfagchaocaaDoor.cs Go.Proofs.YtmmbkfagchaocaaDoor.ka Go.Proofs.YtmmbkfagchaocaaDoor.kb Go.Proofs.YtmmbkfagchaocaaDoor.ga Go.Proofs.YtmmbkfagchaocaaDoor.gb Go.Proofs.YtmmbkfagchaocaaDoor.na
set_option linter.unusedVariables false

theorem wid_in (wd : Int) : 1 ≤ wid wd ∧ wid wd ≤ 32 := by unfold wid; split <;> omega
-- what Check answers; a frontier as nodes; Push; Merge; Root
def GoodF (wd lo hi : Int) (hs : List ByteArray) : Prop := okR lo hi ∧ (covI lo hi).length = hs.length ∧ ∀ h ∈ hs, h.size = wid wd
noncomputable def chkE (wd lo hi : Int) (hs : List ByteArray) : Int := if okR lo hi then (if (covI lo hi).length = hs.length then (if ∀ h ∈ hs, h.size = wid wd then 0 else 72) else 71) else 10
theorem chk_ok {wd lo hi : Int} {hs : List ByteArray} : chkE wd lo hi hs = 0 ↔ GoodF wd lo hi hs := by
  unfold chkE GoodF
  by_cases h1 : okR lo hi
  · by_cases h2 : (covI lo hi).length = hs.length
    · by_cases h3 : ∀ h ∈ hs, h.size = wid wd
      · rw [if_pos h1, if_pos h2, if_pos h3]; exact ⟨fun _ => ⟨h1, h2, h3⟩, fun _ => rfl⟩
      · rw [if_pos h1, if_pos h2, if_neg h3]
        exact ⟨fun h => by omega, fun h => absurd h.2.2 h3⟩
    · rw [if_pos h1, if_neg h2]
      exact ⟨fun h => by omega, fun h => absurd h.2.1 h2⟩
  · rw [if_neg h1]
    exact ⟨fun h => by omega, fun h => absurd h.1 h1⟩
def opened (lo hi : Int) (hs : List ByteArray) : List (Nd ByteArray) := (covI lo hi).zip hs
noncomputable def pushE (wd lo hi : Int) (hs : List ByteArray) (h : ByteArray) : Int := if chkE wd lo hi hs = 0 then (if h.size = wid wd then (if hi = 4611686018427387904 then 10 else 0) else 72) else chkE wd lo hi hs
def pushR (wd lo hi : Int) (hs : List ByteArray) (h : ByteArray) : List (Nd ByteArray) × List (Nd ByteArray) := joinR (NF wd) (opened lo hi hs).reverse ((0, hi.toNat), h)
def labs (r : List (Nd ByteArray)) : List ByteArray := r.reverse.map Prod.snd
noncomputable def mergeE (wd lo hi : Int) (hs : List ByteArray) (lo' hi' : Int) (hs' : List ByteArray) : Int := if chkE wd lo hi hs = 0 then (if chkE wd lo' hi' hs' = 0 then (if hi = lo' then 0 else 70) else chkE wd lo' hi' hs') else chkE wd lo hi hs
def mergeR (wd lo hi : Int) (hs : List ByteArray) (lo' hi' : Int) (hs' : List ByteArray) : List (Nd ByteArray) × List (Nd ByteArray) := runR (NF wd) (opened lo hi hs).reverse (opened lo' hi' hs')
noncomputable def rootE (wd lo hi : Int) (hs : List ByteArray) : Int := if chkE wd lo hi hs = 0 then (if lo = 0 then 0 else 10) else chkE wd lo hi hs
theorem opened_fst {wd lo hi : Int} {hs : List ByteArray} (h : GoodF wd lo hi hs) : (opened lo hi hs).map Prod.fst = covI lo hi := by
  unfold opened
  exact List.map_fst_zip (by have := h.2.1; omega)
theorem opened_snd {wd lo hi : Int} {hs : List ByteArray} (h : GoodF wd lo hi hs) : (opened lo hi hs).map Prod.snd = hs := by
  unfold opened
  exact List.map_snd_zip (by have := h.2.1; omega)
theorem opened_len {wd lo hi : Int} {hs : List ByteArray} (h : GoodF wd lo hi hs) : (opened lo hi hs).length = hs.length := by
  unfold opened
  rw [List.length_zip, h.2.1, Nat.min_self]
theorem covI_nat {lo hi : Nat} (h1 : lo ≤ hi) (h2 : hi ≤ 4611686018427387904) : covI lo hi = cov lo hi := by
  unfold covI
  rw [if_pos ⟨by omega, by omega, by omega⟩]
  simp
theorem good_form {wd lo hi : Int} {hs : List ByteArray} (h : GoodF wd lo hi hs) : ∃ a b : Nat, lo = a ∧ hi = b ∧ a ≤ b ∧ b ≤ 4611686018427387904 ∧ hs.length ≤ 122 := by
  obtain ⟨⟨h1, h2, h3⟩, h4, _⟩ := h
  refine ⟨lo.toNat, hi.toNat, by omega, by omega, by omega, by omega, ?_⟩
  rw [← h4]
  exact covI_len lo hi
-- every hash of what Push and Merge make has the width
def Wide (wd : Int) (ns : List (Nd ByteArray)) : Prop := ∀ n ∈ ns, n.2.size = wid wd
theorem wide_join {wd : Int} (rs : List (Nd ByteArray)) : ∀ x, Wide wd rs → x.2.size = wid wd → Wide wd (joinR (NF wd) rs x).1 ∧ Wide wd (joinR (NF wd) rs x).2 := by
  induction rs with
  | nil =>
    intro x _ hx
    refine ⟨fun n hn => ?_, fun n hn => ?_⟩
    · simp [joinR] at hn; subst hn; exact hx
    · simp [joinR] at hn
  | cons a rs ih =>
    intro x hr hx
    by_cases hh : halves a.1 x.1
    · rw [joinR_yes _ rs hh]
      have hu : (upN (NF wd) a x).2.size = wid wd := cutS_size _ _
      obtain ⟨g1, g2⟩ := ih (upN (NF wd) a x) (fun n hn => hr n (by simp [hn])) hu
      refine ⟨g1, fun n hn => ?_⟩
      rcases List.mem_cons.1 hn with rfl | hn
      · exact hu
      · exact g2 n hn
    · rw [joinR_no _ rs hh]
      refine ⟨fun n hn => ?_, fun n hn => by simp at hn⟩
      rcases List.mem_cons.1 hn with rfl | hn
      · exact hx
      · exact hr n hn
theorem wide_run {wd : Int} (xs : List (Nd ByteArray)) : ∀ rs, Wide wd rs → Wide wd xs → Wide wd (runR (NF wd) rs xs).1 ∧ Wide wd (runR (NF wd) rs xs).2 := by
  induction xs with
  | nil => intro rs h _; exact ⟨h, fun n hn => by simp [runR] at hn⟩
  | cons x xs ih =>
    intro rs h hx
    obtain ⟨g1, g2⟩ := wide_join rs x h (hx x (by simp))
    obtain ⟨g3, g4⟩ := ih _ g1 (fun n hn => hx n (by simp [hn]))
    refine ⟨g3, fun n hn => ?_⟩
    rcases List.mem_append.1 hn with hn | hn
    · exact g2 n hn
    · exact g4 n hn
theorem wide_open {wd lo hi : Int} {hs : List ByteArray} (h : GoodF wd lo hi hs) : Wide wd (opened lo hi hs) := by
  intro n hn
  have : n.2 ∈ hs := by
    have h1 := opened_snd h
    rw [← h1]
    exact List.mem_map_of_mem hn
  exact h.2.2 _ this
theorem wide_rev {wd : Int} {ns : List (Nd ByteArray)} (h : Wide wd ns) : Wide wd ns.reverse := fun n hn => h n (List.mem_reverse.1 hn)
-- behind a Push, a Merge, the frontier is a good one
theorem push_good {wd lo hi : Int} {hs : List ByteArray} {h : ByteArray} (g : GoodF wd lo hi hs) (hh : h.size = wid wd) (hb : hi ≠ 4611686018427387904) : GoodF wd lo (hi + 1) (labs (pushR wd lo hi hs h).1) := by
  have hf := opened_fst g
  have hw := wide_join (wd := wd) (opened lo hi hs).reverse ((0, hi.toNat), h) (wide_rev (wide_open g)) hh
  obtain ⟨a, b, rfl, rfl, h1, h2, h3⟩ := good_form g
  rw [covI_nat h1 h2] at hf
  have hj := join_cov (NF wd) (p := b) (k := 0) (by omega) (Nat.one_dvd _) (by simp; omega) ((0, (b : Int).toNat), h) (by simp) a h1 _ hf
  have hi1 : ((b : Int) + 1) = ((b + 1 : Nat) : Int) := by omega
  refine ⟨⟨by omega, by omega, by omega⟩, ?_, ?_⟩
  · rw [hi1, covI_nat (by omega) (by omega)]
    rw [Nat.pow_zero] at hj
    rw [← hj]
    simp [labs, pushR]
  · intro y hy
    unfold labs at hy
    obtain ⟨n, hn, rfl⟩ := List.mem_map.1 hy
    exact hw.1 n (List.mem_reverse.1 hn)
theorem merge_good {wd lo hi lo' hi' : Int} {hs hs' : List ByteArray} (g : GoodF wd lo hi hs) (g' : GoodF wd lo' hi' hs') (he : hi = lo') : GoodF wd lo hi' (labs (mergeR wd lo hi hs lo' hi' hs').1) := by
  have hf := opened_fst g
  have hf' := opened_fst g'
  have hw := wide_run (wd := wd) (opened lo' hi' hs') (opened lo hi hs).reverse (wide_rev (wide_open g)) (wide_open g')
  subst he
  obtain ⟨a, b, rfl, rfl, h1, h2, h3⟩ := good_form g
  obtain ⟨b', c, e1, rfl, h4, h5, h6⟩ := good_form g'
  obtain rfl : b' = b := by omega
  rw [covI_nat h1 h2] at hf
  rw [covI_nat h4 h5] at hf'
  have hj := run_cov (NF wd) (hi := c) (by rw [p62]; omega) a b' h1 h4 _ _ hf hf'
  refine ⟨⟨by omega, by omega, by omega⟩, ?_, ?_⟩
  · rw [covI_nat (by omega) (by omega), ← hj]
    simp [labs, mergeR]
  · intro y hy
    unfold labs at hy
    obtain ⟨n, hn, rfl⟩ := List.mem_map.1 hy
    exact hw.1 n (List.mem_reverse.1 hn)
end Go.Proofs.YtmmbkfagchaocaaDoor.nb

namespace Go.Proofs.YtmmbkfagchaocaaDoor.oa
open Go.RowKit Go.PlainAid
open Go.Proofs.YtmmbkfagchaocaaDoor.ca Go.Proofs.YtmmbkfagchaocaaDoor.cp Go.Proofs.YtmmbkfagchaocaaDoor.ka Go.Proofs.YtmmbkfagchaocaaDoor.na
set_option linter.unusedVariables false

-- a node with its hash; a list of them in memory
abbrev Md := Nd ByteArray
def md (n : Md) : Value := .agg #[.int .i64 (n.1.1 : Nat), .int .i64 (n.1.2 : Nat), .string n.2]
def ml (n : Md) : List Value := [.int .i64 (n.1.1 : Nat), .int .i64 (n.1.2 : Nat), .string n.2]
def mls (L : List Md) : List Value := L.flatMap ml
theorem mls_len (L : List Md) : (mls L).length = L.length * 3 := by
  induction L with
  | nil => rfl
  | cons a L ih =>
    show (ml a ++ mls L).length = _
    rw [List.length_append, ih, List.length_cons]
    show 3 + _ = _
    omega
theorem mls_app (L M : List Md) : mls (L ++ M) = mls L ++ mls M := by unfold mls; exact List.flatMap_append
theorem mls_one (a : Md) : mls [a] = ml a := by show ml a ++ [] = _; rw [List.append_nil]
theorem mls_get (L : List Md) (i : Nat) (a : Md) (h : L[i]? = some a) : (mls L)[i * 3]? = some (.int .i64 (a.1.1 : Nat)) ∧ (mls L)[i * 3 + 1]? = some (.int .i64 (a.1.2 : Nat)) ∧ (mls L)[i * 3 + 2]? = some (.string a.2) := by
  induction L generalizing i with
  | nil => simp at h
  | cons b L ih =>
    cases i with
    | zero =>
      obtain rfl : b = a := by simpa using h
      exact ⟨rfl, rfl, rfl⟩
    | succ i =>
      have := ih i (by simpa using h)
      show (ml b ++ mls L)[(i + 1) * 3]? = _ ∧ (ml b ++ mls L)[(i + 1) * 3 + 1]? = _ ∧ (ml b ++ mls L)[(i + 1) * 3 + 2]? = _
      have hl : (ml b).length = 3 := rfl
      rw [List.getElem?_append_right (by omega), List.getElem?_append_right (by omega), List.getElem?_append_right (by omega), hl, show (i + 1) * 3 - 3 = i * 3 by omega, show (i + 1) * 3 + 1 - 3 = i * 3 + 1 by omega, show (i + 1) * 3 + 2 - 3 = i * 3 + 2 by omega]
      exact this
theorem mls_take (L : List Md) (k : Nat) : mls (L.take k) = (mls L).take (k * 3) := by
  induction L generalizing k with
  | nil => simp [mls]
  | cons b L ih =>
    cases k with
    | zero => simp [mls]
    | succ k =>
      show ml b ++ mls (L.take k) = (ml b ++ mls L).take ((k + 1) * 3)
      have hl : (ml b).length = 3 := rfl
      rw [List.take_append, hl, ih, show (k + 1) * 3 - 3 = k * 3 by omega, List.take_of_length_le (l := ml b) (by rw [hl]; omega)]
theorem hiM : (Tryd.prog.info? 38).map (fun i => (i.zero, i.size, i.bytes)) = some (some (.agg #[.int .i64 0, .int .i64 0, .string ByteArray.empty]), 3, 32) := by kernel_rfl
theorem three_cells (W : World) (x y z : Value) (t : TypeId) : ∀ (j : Nat) (u : Value), [x, y, z][j]? = some u → (W.alloc (.cells #[x, y, z] t)).cell? (Addr.add ⟨W.heap.size, 0, none⟩ j) = some u := by
  intro j u hu
  rw [show (Addr.add ⟨W.heap.size, 0, none⟩ j) = ⟨W.heap.size, j, none⟩ by cases j <;> simp [Addr.add], World.cell?_alloc_at _ _ _ _ rfl]
  simpa using hu
theorem one_made (a : Md) : ∀ u ∈ ml a, u.oneCell' = true := by
  intro u hu
  simp only [ml, List.mem_cons, List.not_mem_nil, or_false] at hu
  rcases hu with rfl | rfl | rfl <;> rfl
theorem one_mades (L : List Md) : ∀ u ∈ mls L, u.oneCell' = true := by
  intro u hu
  obtain ⟨a, _, ha⟩ := List.mem_flatMap.1 hu
  exact one_made a u ha
-- a list of them, wherever it lies
def ReadsM (w : World) (v : Value) (L : List Md) : Prop :=
  ∃ a cap, v = .slice a L.length cap ∧ (L.length = 0 ∨ ∃ b, a = some ⟨b, 0, none⟩ ∧ ∀ (i : Nat) (x : Md), L[i]? = some x → w.cell? ⟨b, i * 3, none⟩ = some (.int .i64 (x.1.1 : Nat)) ∧ w.cell? ⟨b, i * 3 + 1, none⟩ = some (.int .i64 (x.1.2 : Nat)) ∧ w.cell? ⟨b, i * 3 + 2, none⟩ = some (.string x.2))
theorem ReadsM.later {w w' : World} {v : Value} {L : List Md} (h : ReadsM w v L) (hb : Below w.heap.size w w') : ReadsM w' v L := by
  obtain ⟨a, cap, rfl, h0 | ⟨b, rfl, hc⟩⟩ := h
  · exact ⟨a, cap, rfl, .inl h0⟩
  · refine ⟨_, cap, rfl, .inr ⟨b, rfl, fun i x hx => ?_⟩⟩
    obtain ⟨c1, c2, c3⟩ := hc i x hx
    exact ⟨(hb.cell (p := ⟨b, i * 3, none⟩) (World.block_lt_of_cell? _ _ c1)).trans c1, (hb.cell (p := ⟨b, i * 3 + 1, none⟩) (World.block_lt_of_cell? _ _ c2)).trans c2, (hb.cell (p := ⟨b, i * 3 + 2, none⟩) (World.block_lt_of_cell? _ _ c3)).trans c3⟩
theorem own_readsM {w : World} {B n : Nat} {v : Value} {L : List Md} (h : w.ownsRow B 38 3 v n (mls L)) : ReadsM w v L := by
  have hn : L.length = n := by have := h.1; rw [mls_len] at this; omega
  subst hn
  rcases h.2 with ⟨rfl, h0⟩ | ⟨g, cap, cur, rfl, _, hg, _⟩
  · exact ⟨none, 0, by rw [h0], .inl h0⟩
  · refine ⟨_, cap, rfl, .inr ⟨g, rfl, fun i x hx => ?_⟩⟩
    have hi := (List.getElem?_eq_some_iff.1 hx).1
    obtain ⟨c1, c2, c3⟩ := mls_get L i x hx
    exact ⟨(h.cellAt (i * 3) (by omega)).trans c1, (h.cellAt (i * 3 + 1) (by omega)).trans c2, (h.cellAt (i * 3 + 2) (by omega)).trans c3⟩
theorem row_atM {L : List Md} {w : World} {a : Option Addr} {cap n : Nat} {x : Md} {j : Nat} (h : ReadsM w (.slice a n cap) L) (hx : L[j]? = some x) : ∃ b, a = some ⟨b, 0, none⟩ ∧ w.cell? ⟨b, j * 3, none⟩ = some (.int .i64 (x.1.1 : Nat)) ∧ w.cell? ⟨b, j * 3 + 1, none⟩ = some (.int .i64 (x.1.2 : Nat)) ∧ w.cell? ⟨b, j * 3 + 2, none⟩ = some (.string x.2) := by
  obtain ⟨a', cap', e1, hc⟩ := h
  injection e1 with e1 e2 e3
  subst e1
  have := (List.getElem?_eq_some_iff.1 hx).1
  rcases hc with h0 | ⟨b, e4, hc⟩
  · omega
  · exact ⟨b, e4, hc j _ hx⟩
theorem reads_newsM {w : World} {ad : Addr} {n cap : Nat} {L : List Md} (h : ReadsM w (.slice (some ad) n cap) L) : ∀ (j : Nat) (u : Value), (mls L)[j]? = some u → w.cell? (ad.add j) = some u := by
  intro j u hu
  have hj : j < L.length * 3 := by have := (List.getElem?_eq_some_iff.1 hu).1; rwa [mls_len] at this
  have hi : j / 3 < L.length := by omega
  obtain ⟨x, hx⟩ : ∃ x, L[j / 3]? = some x := ⟨_, List.getElem?_eq_getElem hi⟩
  obtain ⟨b, e, c1, c2, c3⟩ := row_atM h hx
  obtain rfl := Option.some.inj e
  obtain ⟨g1, g2, g3⟩ := mls_get L (j / 3) x hx
  rw [show (Addr.add ⟨b, 0, none⟩ j) = ⟨b, j, none⟩ by cases j <;> simp [Addr.add]]
  rcases (show j = j / 3 * 3 ∨ j = j / 3 * 3 + 1 ∨ j = j / 3 * 3 + 2 by omega) with e | e | e
  · rw [e] at hu ⊢; rw [g1] at hu; rw [c1, ← hu]
  · rw [e] at hu ⊢; rw [g2] at hu; rw [c2, ← hu]
  · rw [e] at hu ⊢; rw [g3] at hu; rw [c3, ← hu]
end Go.Proofs.YtmmbkfagchaocaaDoor.oa

namespace Go.Proofs.YtmmbkfagchaocaaDoor.nc
open Go.RowKit Go.PlainAid
open Go.Proofs.YtmmbkfagchaocaaDoor.pl Go.Proofs.YtmmbkfagchaocaaDoor.pi Go.Proofs.YtmmbkfagchaocaaDoor.pj Go.Proofs.YtmmbkfagchaocaaDoor.rf Go.Proofs.YtmmbkfagchaocaaDoor.ca Go.Proofs.YtmmbkfagchaocaaDoor.cb Go.Proofs.YtmmbkfagchaocaaDoor.cp Go.Proofs.YtmmbkfagchaocaaDoor.cs Go.Proofs.YtmmbkfagchaocaaDoor.ka Go.Proofs.YtmmbkfagchaocaaDoor.kb Go.Proofs.YtmmbkfagchaocaaDoor.ga Go.Proofs.YtmmbkfagchaocaaDoor.gb Go.Proofs.YtmmbkfagchaocaaDoor.na Go.Proofs.YtmmbkfagchaocaaDoor.nb
set_option linter.unusedVariables false

theorem cov_in (p hi : Nat) : ∀ a ∈ cov p hi, p ≤ a.2 * 2 ^ a.1 ∧ (a.2 + 1) * 2 ^ a.1 ≤ hi ∧ a.1 ≤ 62 := by
  refine cov_fold (p := p) (hi := hi) (fun p hi => ∀ a ∈ cov p hi, p ≤ a.2 * 2 ^ a.1 ∧ (a.2 + 1) * 2 ^ a.1 ≤ hi ∧ a.1 ≤ 62) ?_ ?_
  · intro p h a ha
    rw [cov_end h] at ha
    cases ha
  · intro p k hlt hl ih a ha
    rw [cov_at hlt hl] at ha
    rcases List.mem_cons.1 ha with rfl | ha
    · have e : p / 2 ^ k * 2 ^ k = p := Nat.div_mul_cancel hl.2.1
      refine ⟨by show p ≤ p / 2 ^ k * 2 ^ k; omega, ?_, hl.1⟩
      show (p / 2 ^ k + 1) * 2 ^ k ≤ hi
      rw [Nat.add_mul, e, Nat.one_mul]
      have := hl.2.2.1
      omega
    · have := ih a ha
      exact ⟨by have := p2 k; omega, this.2⟩
-- the hash of each node over leaves' hashes
def HL (wd : Int) (f : Nat → ByteArray) : Nat → Nat → ByteArray
  | 0, i => f i
  | k + 1, i => NF wd (HL wd f k (2 * i)) (HL wd f k (2 * i + 1))
theorem HL_up (wd : Int) (f : Nat → ByteArray) : ∀ k i, k < 62 → HL wd f (k + 1) i = NF wd (HL wd f k (2 * i)) (HL wd f k (2 * i + 1)) := fun _ _ _ => rfl
theorem HL_size {wd : Int} {f : Nat → ByteArray} (hf : ∀ i, (f i).size = wid wd) : ∀ k i, (HL wd f k i).size = wid wd
  | 0, i => hf i
  | _ + 1, _ => cutS_size _ _
-- the hashes of a range's pieces
def covH (wd : Int) (f : Nat → ByteArray) (lo hi : Nat) : List ByteArray := (cov lo hi).map fun a => HL wd f a.1 a.2
theorem covH_len (wd : Int) (f : Nat → ByteArray) (lo hi : Nat) : (covH wd f lo hi).length = (cov lo hi).length := List.length_map _
theorem covH_none (wd : Int) (f : Nat → ByteArray) (p : Nat) : covH wd f p p = [] := by unfold covH; rw [cov_end (Nat.lt_irrefl p)]; rfl
theorem covH_good {wd : Int} {f : Nat → ByteArray} (hf : ∀ i, (f i).size = wid wd) {lo hi : Nat} (h1 : lo ≤ hi) (h2 : hi ≤ 4611686018427387904) : GoodF wd lo hi (covH wd f lo hi) := by
  refine ⟨⟨by omega, by omega, by omega⟩, ?_, ?_⟩
  · rw [covI_nat h1 h2, covH_len]
  · intro h hh
    obtain ⟨a, _, rfl⟩ := List.mem_map.1 hh
    exact HL_size hf _ _
theorem opened_own (wd : Int) (f : Nat → ByteArray) {lo hi : Nat} (h1 : lo ≤ hi) (h2 : hi ≤ 4611686018427387904) : Own (HL wd f) (opened lo hi (covH wd f lo hi)) := by
  unfold opened covH
  rw [covI_nat h1 h2]
  intro n hn
  obtain ⟨j, hj⟩ := List.mem_iff_getElem?.1 hn
  rw [List.getElem?_zip_eq_some] at hj
  obtain ⟨e1, e2⟩ := hj
  rw [List.getElem?_map, e1] at e2
  simpa using e2.symm
theorem own_rev {H : Nat → Nat → ByteArray} {ns : List (Nd ByteArray)} (h : Own H ns) : Own H ns.reverse := fun n hn => h n (List.mem_reverse.1 hn)
-- a leaf pushed behind the true ones
theorem push_true {wd : Int} {f : Nat → ByteArray} (hf : ∀ i, (f i).size = wid wd) {lo hi : Nat} (h1 : lo ≤ hi) (h2 : hi < 4611686018427387904) :
    labs (pushR wd lo hi (covH wd f lo hi) (f hi)).1 = covH wd f lo (hi + 1) ∧ (pushR wd lo hi (covH wd f lo hi) (f hi)).2.length + (cov lo (hi + 1)).length = (cov lo hi).length + 1 ∧ ∀ t y, (pushR wd lo hi (covH wd f lo hi) (f hi)).2[t]? = some y → y = ((t + 1, hi / 2 ^ (t + 1)), HL wd f (t + 1) (hi / 2 ^ (t + 1))) ∧ t < 62 := by
  have g := covH_good hf h1 (Nat.le_of_lt h2)
  have hfst := opened_fst g
  rw [covI_nat h1 (by omega)] at hfst
  have ho := own_join (NF wd) (HL_up wd f) (opened lo hi (covH wd f lo hi)).reverse ((0, (hi : Int).toNat), f hi) (own_rev (opened_own wd f h1 (by omega))) (by simp [HL])
  have hj := join_cov (NF wd) (p := hi) (k := 0) (by omega) (Nat.one_dvd _) (by simp; omega) ((0, (hi : Int).toNat), f hi) (by simp) lo h1 _ hfst
  have hc := joinR_count (NF wd) (opened lo hi (covH wd f lo hi)).reverse ((0, (hi : Int).toNat), f hi)
  rw [Nat.pow_zero] at hj
  refine ⟨?_, ?_, ?_⟩
  · unfold labs pushR
    rw [own_labels (H := HL wd f) (own_rev ho.1), hj]
    rfl
  · have e1 := congrArg List.length hj
    have e2 := congrArg List.length hfst
    rw [List.length_map, List.length_reverse] at e1
    rw [List.length_map] at e2
    rw [List.length_reverse, e2] at hc
    unfold pushR
    omega
  · intro t y hy
    obtain ⟨g1, g2⟩ := joinR_whole (NF wd) _ _ t y hy
    have hm := ho.2 y (List.mem_of_getElem? hy)
    simp only [Int.toNat_natCast, Nat.zero_add] at g1 g2
    refine ⟨?_, g2⟩
    rw [g1] at hm
    exact Prod.ext g1 hm
theorem merge_true {wd : Int} {f : Nat → ByteArray} (hf : ∀ i, (f i).size = wid wd) {lo p hi : Nat} (h1 : lo ≤ p) (h2 : p ≤ hi) (h3 : hi ≤ 4611686018427387904) :
    labs (mergeR wd lo p (covH wd f lo p) p hi (covH wd f p hi)).1 = covH wd f lo hi ∧ (mergeR wd lo p (covH wd f lo p) p hi (covH wd f p hi)).2.length + (cov lo hi).length = (cov lo p).length + (cov p hi).length := by
  have g := covH_good hf h1 (by omega)
  have g' := covH_good hf h2 h3
  have hfst := opened_fst g
  have hfst' := opened_fst g'
  rw [covI_nat h1 (by omega)] at hfst
  rw [covI_nat h2 h3] at hfst'
  have ho := own_run (NF wd) (HL_up wd f) (opened p hi (covH wd f p hi)) (opened lo p (covH wd f lo p)).reverse (own_rev (opened_own wd f h1 (by omega))) (opened_own wd f h2 h3)
  have hj := run_cov (NF wd) (hi := hi) (by rw [p62]; omega) lo p h1 h2 _ _ hfst hfst'
  have hc := runR_count (NF wd) (opened p hi (covH wd f p hi)) (opened lo p (covH wd f lo p)).reverse
  refine ⟨?_, ?_⟩
  · unfold labs mergeR
    rw [own_labels (H := HL wd f) (own_rev ho.1), hj]
    rfl
  · have e1 := congrArg List.length hj
    have e2 := congrArg List.length hfst
    have e3 := congrArg List.length hfst'
    rw [List.length_map, List.length_reverse] at e1
    rw [List.length_map] at e2 e3
    rw [List.length_reverse, e2, e3] at hc
    unfold mergeR
    omega
-- the nodes' hashes are roots
def leafAt (wd : Int) (L : List ByteArray) (q : Nat) (j : Nat) : ByteArray := L.getD (j - q) (EF wd)
theorem leafAt_size {wd : Int} {L : List ByteArray} (hL : ∀ x ∈ L, x.size = wid wd) (q : Nat) : ∀ j, (leafAt wd L q j).size = wid wd := by
  intro j
  unfold leafAt
  rw [List.getD_eq_getElem?_getD]
  by_cases h : j - q < L.length
  · rw [List.getElem?_eq_getElem h]
    exact hL _ (List.getElem_mem h)
  · rw [List.getElem?_eq_none (by omega)]
    exact cutS_size _ _
theorem HL_root (wd : Int) (L : List ByteArray) (q : Nat) : ∀ k i, q ≤ i * 2 ^ k → (i + 1) * 2 ^ k ≤ q + L.length → HL wd (leafAt wd L q) k i = rootP (EF wd) (NF wd) ((L.drop (i * 2 ^ k - q)).take (2 ^ k))
  | 0, i, h0, h1 => by
    simp only [Nat.pow_zero, Nat.mul_one] at h0 h1 ⊢
    show L.getD (i - q) (EF wd) = _
    have hlt : i - q < L.length := by omega
    rw [List.drop_eq_getElem_cons hlt, List.take_succ_cons, List.take_zero, rootP_one, List.getD_eq_getElem?_getD, List.getElem?_eq_getElem hlt]
    rfl
  | k + 1, i, h0, h1 => by
    have hp := p2 k
    have e2 : 2 ^ (k + 1) = 2 * 2 ^ k := p2s k
    have e3 : i * 2 ^ (k + 1) = 2 * i * 2 ^ k := by rw [e2, ← Nat.mul_assoc, Nat.mul_comm i 2]
    have e4 : (2 * i + 1) * 2 ^ k = 2 * i * 2 ^ k + 2 ^ k := by rw [Nat.add_mul, Nat.one_mul]
    have e5 : (2 * i + 1 + 1) * 2 ^ k = 2 * i * 2 ^ k + 2 * 2 ^ k := by rw [Nat.add_mul, e4, Nat.one_mul]; omega
    have e6 : (i + 1) * 2 ^ (k + 1) = 2 * i * 2 ^ k + 2 * 2 ^ k := by rw [Nat.add_mul, e3, Nat.one_mul, e2]
    rw [e3] at h0
    rw [e6] at h1
    have hl := HL_root wd L q k (2 * i) h0 (by rw [e4]; omega)
    have hr := HL_root wd L q k (2 * i + 1) (by rw [e4]; omega) (by rw [e5]; omega)
    show NF wd (HL wd (leafAt wd L q) k (2 * i)) (HL wd (leafAt wd L q) k (2 * i + 1)) = _
    have hlen : ((L.drop (i * 2 ^ (k + 1) - q)).take (2 ^ (k + 1))).length = 2 ^ (k + 1) := by rw [List.length_take, List.length_drop, e3]; omega
    rw [rootP_two (EF wd) (NF wd) (j := k) (by rw [hlen, e2]; omega) (by rw [hlen]; omega), hl, hr, e3, List.take_take, List.drop_take, List.drop_drop, e4, e2]
    rw [show min (2 ^ k) (2 * 2 ^ k) = 2 ^ k by omega, show 2 * 2 ^ k - 2 ^ k = 2 ^ k by omega, show 2 * i * 2 ^ k + 2 ^ k - q = 2 * i * 2 ^ k - q + 2 ^ k by omega]
-- leaves of a list
def LX (wd : Int) (xs : List ByteArray) : List ByteArray := xs.map (LF wd)
theorem LX_size (wd : Int) (xs : List ByteArray) : ∀ x ∈ LX wd xs, x.size = wid wd := by
  intro x hx
  obtain ⟨y, _, rfl⟩ := List.mem_map.1 hx
  exact cutS_size _ _
theorem LX_len (wd : Int) (xs : List ByteArray) : (LX wd xs).length = xs.length := List.length_map _
theorem HL_node (wd : Int) (xs : List ByteArray) (k i : Nat) (h : (i + 1) * 2 ^ k ≤ xs.length) : HL wd (leafAt wd (LX wd xs) 0) k i = RT wd ((xs.drop (i * 2 ^ k)).take (2 ^ k)) := by
  rw [HL_root wd (LX wd xs) 0 k i (Nat.zero_le _) (by rw [LX_len]; omega)]
  unfold RT LX
  rw [Nat.sub_zero, List.map_take, List.map_drop]
theorem fold_root (wd : Int) (xs : List ByteArray) (n : Nat) (hn : n ≤ xs.length) (hb : n ≤ 4611686018427387904) : foldP (EF wd) (NF wd) (covH wd (leafAt wd (LX wd xs) 0) 0 n) = RT wd (xs.take n) := by
  have hl : ((LX wd xs).take n).length = n := by rw [List.length_take, LX_len]; omega
  have h := fold_all (EF wd) (NF wd) ((LX wd xs).take n) (by rw [hl]; omega)
  rw [hl] at h
  unfold RT
  rw [List.map_take]
  rw [show (xs.map (LF wd)).take n = (LX wd xs).take n from rfl, ← h]
  congr 1
  unfold covH
  apply List.map_congr_left
  intro a ha
  obtain ⟨g1, g2, g3⟩ := cov_in 0 n a ha
  rw [HL_root wd (LX wd xs) 0 a.1 a.2 (Nat.zero_le _) (by rw [LX_len]; omega), Nat.sub_zero]
  congr 1
  unfold piece
  have e : (a.2 + 1) * 2 ^ a.1 = a.2 * 2 ^ a.1 + 2 ^ a.1 := by rw [Nat.add_mul, Nat.one_mul]
  rw [List.drop_take, List.take_take, Nat.min_eq_left (by omega)]
end Go.Proofs.YtmmbkfagchaocaaDoor.nc

namespace Go.Proofs.YtmmbkfagchaocaaDoor.ob
open Go.RowKit Go.PlainAid
open Go.Proofs.YtmmbkfagchaocaaDoor.pl Go.Proofs.YtmmbkfagchaocaaDoor.pi Go.Proofs.YtmmbkfagchaocaaDoor.pj Go.Proofs.YtmmbkfagchaocaaDoor.rf Go.Proofs.YtmmbkfagchaocaaDoor.ca Go.Proofs.YtmmbkfagchaocaaDoor.cb Go.Proofs.YtmmbkfagchaocaaDoor.cp Go.Proofs.YtmmbkfagchaocaaDoor.cs Go.Proofs.YtmmbkfagchaocaaDoor.ka Go.Proofs.YtmmbkfagchaocaaDoor.kb Go.Proofs.YtmmbkfagchaocaaDoor.ga Go.Proofs.YtmmbkfagchaocaaDoor.gb Go.Proofs.YtmmbkfagchaocaaDoor.na Go.Proofs.YtmmbkfagchaocaaDoor.nb Go.Proofs.YtmmbkfagchaocaaDoor.nc Go.Proofs.YtmmbkfagchaocaaDoor.oa
set_option linter.unusedVariables false

-- a frontier; answers
abbrev FV (lo hi : Int) (u : Value) : Value := .agg #[.int .i64 lo, .int .i64 hi, u]
def pick {α : Type} (c : Int) (x y : α) : α := if c = 0 then x else y
def Texts (w : World) (B : Nat) (u : Value) (hs : List ByteArray) : Prop := w.ownsRow B 9 1 u hs.length (hs.map Value.string)
def Mades (w : World) (B : Nat) (u : Value) (ms : List Md) : Prop := w.ownsRow B 38 3 u ms.length (mls ms)
def Told (w w' : World) (e : Ending) (lo hi : Int) (hs : List ByteArray) (ms : List Md) (c : Int) : Prop := ∃ u m, e = .returned (.tuple #[FV lo hi u, m, .int .i64 c]) ∧ Texts w' w.heap.size u hs ∧ Mades w' w.heap.size m ms
theorem Texts.later {w w' : World} {B : Nat} {u : Value} {hs : List ByteArray} (h : Texts w B u hs) (hb : Below w.heap.size w w') : Texts w' B u hs := own_later h hb
theorem Mades.later {w w' : World} {B : Nat} {u : Value} {ms : List Md} (h : Mades w B u ms) (hb : Below w.heap.size w w') : Mades w' B u ms := own_later h hb
theorem Texts.down {w : World} {B B' : Nat} {u : Value} {hs : List ByteArray} (h : Texts w B' u hs) (hB : B ≤ B') : Texts w B u hs := own_down h hB
theorem Mades.down {w : World} {B B' : Nat} {u : Value} {ms : List Md} (h : Mades w B' u ms) (hB : B ≤ B') : Mades w B u ms := own_down h hB
theorem Texts.reads {w : World} {B : Nat} {u : Value} {hs : List ByteArray} (h : Texts w B u hs) : ReadsT w u hs := own_readsT h
theorem Mades.reads {w : World} {B : Nat} {u : Value} {ms : List Md} (h : Mades w B u ms) : ReadsM w u ms := own_readsM h
def PushC (T : World → Prop) : Prop := ∀ (wd lo hi : Int) (u : Value) (hs : List ByteArray) (h : ByteArray) (w : World), i64 wd → i64 lo → i64 hi → T w → ReadsT w u hs → Fits hs → h.size ≤ 140737488352000 → Calls Tryd.prog 5 #[.int .i64 wd, FV lo hi u, .string h] w fun e w' => Told w w' e (pick (pushE wd lo hi hs h) lo 0) (pick (pushE wd lo hi hs h) (hi + 1) 0) (pick (pushE wd lo hi hs h) (labs (pushR wd lo hi hs h).1) []) (pick (pushE wd lo hi hs h) (pushR wd lo hi hs h).2 []) (pushE wd lo hi hs h) ∧ Below w.heap.size w w'
def MergeC (T : World → Prop) : Prop := ∀ (wd lo hi : Int) (u : Value) (hs : List ByteArray) (lo' hi' : Int) (u' : Value) (hs' : List ByteArray) (w : World), i64 wd → i64 lo → i64 hi → i64 lo' → i64 hi' → T w → ReadsT w u hs → Fits hs → ReadsT w u' hs' → Fits hs' → Calls Tryd.prog 6 #[.int .i64 wd, FV lo hi u, FV lo' hi' u'] w fun e w' => Told w w' e (pick (mergeE wd lo hi hs lo' hi' hs') lo 0) (pick (mergeE wd lo hi hs lo' hi' hs') hi' 0) (pick (mergeE wd lo hi hs lo' hi' hs') (labs (mergeR wd lo hi hs lo' hi' hs').1) []) (pick (mergeE wd lo hi hs lo' hi' hs') (mergeR wd lo hi hs lo' hi' hs').2 []) (mergeE wd lo hi hs lo' hi' hs') ∧ Below w.heap.size w w'
-- what is small fits
theorem fits_small {wd : Int} {hs : List ByteArray} (h1 : hs.length ≤ 122) (h2 : ∀ h ∈ hs, h.size = wid wd) : Fits hs := ⟨fun x hx => by rw [h2 x hx]; have := wid_in wd; omega, by omega⟩
theorem fits_good {wd lo hi : Int} {hs : List ByteArray} (h : GoodF wd lo hi hs) : Fits hs := by
  obtain ⟨a, b, _, _, _, _, h3⟩ := good_form h
  exact fits_small h3 h.2.2
-- over the true hashes
theorem push_at {wd : Int} {f : Nat → ByteArray} (hf : ∀ i, (f i).size = wid wd) {lo hi : Nat} (h1 : lo ≤ hi) (h2 : hi < 4611686018427387904) : pushE wd lo hi (covH wd f lo hi) (f hi) = 0 := by
  unfold pushE
  rw [if_pos (chk_ok.2 (covH_good hf h1 (Nat.le_of_lt h2))), if_pos (hf hi), if_neg (by omega)]
theorem merge_at {wd : Int} {f : Nat → ByteArray} (hf : ∀ i, (f i).size = wid wd) {lo p hi : Nat} (h1 : lo ≤ p) (h2 : p ≤ hi) (h3 : hi ≤ 4611686018427387904) : mergeE wd lo p (covH wd f lo p) p hi (covH wd f p hi) = 0 := by
  unfold mergeE
  rw [if_pos (chk_ok.2 (covH_good hf h1 (by omega))), if_pos (chk_ok.2 (covH_good hf h2 h3)), if_pos rfl]
def Push1 (T : World → Prop) : Prop := ∀ (wd : Int) (f : Nat → ByteArray), (∀ i, (f i).size = wid wd) → ∀ (lo hi : Nat) (u : Value) (w : World), i64 wd → lo ≤ hi → hi < 4611686018427387904 → T w → ReadsT w u (covH wd f lo hi) → Calls Tryd.prog 5 #[.int .i64 wd, FV lo hi u, .string (f hi)] w fun e w' => (∃ u m, e = .returned (.tuple #[FV lo ((hi : Int) + 1) u, m, .int .i64 0]) ∧ Texts w' w.heap.size u (covH wd f lo (hi + 1)) ∧ Mades w' w.heap.size m (pushR wd lo hi (covH wd f lo hi) (f hi)).2) ∧ Below w.heap.size w w'
theorem push1 {T : World → Prop} (C : PushC T) : Push1 T := by
  intro wd f hf lo hi u w hwd h1 h2 hT hR
  have hp := wid_in wd
  have := C wd lo hi u (covH wd f lo hi) (f hi) w hwd (i64_nat (by omega)) (i64_nat (by omega)) hT hR (fits_good (covH_good hf h1 (Nat.le_of_lt h2))) (by rw [hf]; omega)
  rw [push_at hf h1 h2] at this
  unfold pick at this
  simp only [if_true] at this
  rw [(push_true hf h1 h2).1] at this
  exact this
def Merge1 (T : World → Prop) : Prop := ∀ (wd : Int) (f : Nat → ByteArray), (∀ i, (f i).size = wid wd) → ∀ (lo p hi : Nat) (u u' : Value) (w : World), i64 wd → lo ≤ p → p ≤ hi → hi ≤ 4611686018427387904 → T w → ReadsT w u (covH wd f lo p) → ReadsT w u' (covH wd f p hi) → Calls Tryd.prog 6 #[.int .i64 wd, FV lo p u, FV p hi u'] w fun e w' => (∃ u m, e = .returned (.tuple #[FV lo hi u, m, .int .i64 0]) ∧ Texts w' w.heap.size u (covH wd f lo hi) ∧ Mades w' w.heap.size m (mergeR wd lo p (covH wd f lo p) p hi (covH wd f p hi)).2) ∧ Below w.heap.size w w'
theorem merge1 {T : World → Prop} (C : MergeC T) : Merge1 T := by
  intro wd f hf lo p hi u u' w hwd h1 h2 h3 hT hR hR'
  have := C wd lo p u (covH wd f lo p) p hi u' (covH wd f p hi) w hwd (i64_nat (by omega)) (i64_nat (by omega)) (i64_nat (by omega)) (i64_nat (by omega)) hT hR (fits_good (covH_good hf h1 (by omega))) hR' (fits_good (covH_good hf h2 h3))
  rw [merge_at hf h1 h2 h3] at this
  unfold pick at this
  simp only [if_true] at this
  rw [(merge_true hf h1 h2 h3).1] at this
  exact this
end Go.Proofs.YtmmbkfagchaocaaDoor.ob

namespace Go.Proofs.YtmmbkfagchaocaaDoor.s1
open Go.RowKit Go.PlainAid
open Go.Proofs.YtmmbkfagchaocaaDoor.pl Go.Proofs.YtmmbkfagchaocaaDoor.cp Go.Proofs.YtmmbkfagchaocaaDoor.ka Go.Proofs.YtmmbkfagchaocaaDoor.na Go.Proofs.YtmmbkfagchaocaaDoor.nb Go.Proofs.YtmmbkfagchaocaaDoor.oa Go.Proofs.YtmmbkfagchaocaaDoor.ob
set_option linter.unusedVariables false

theorem textAt {w : World} {a : Option Addr} {n cap : Nat} {L : List ByteArray} (h : ReadsT w (.slice a n cap) L) {k : Nat} {x : ByteArray} (hx : L[k]? = some x) : ∃ b off, a = some ⟨b, off, none⟩ ∧ w.cell? ⟨b, off + k, none⟩ = some (.string x) := by
  obtain ⟨a', cap', e, _, hh⟩ := h
  have hk := (List.getElem?_eq_some_iff.1 hx).1
  obtain ⟨b, off, ha, hc⟩ := hh.resolve_left (by omega)
  injection e with e1 _ _
  refine ⟨b, off, by rw [e1]; exact ha, ?_⟩
  rw [hc k hk, List.getD_eq_getElem?_getD, hx]
  rfl
-- all is the mark
set_option maxHeartbeats 1600000 in
theorem markedY (u v : Value) (l : List ByteArray) (ms : List Md) (mark : ByteArray) (w : World) (h1 : ReadsT w u l) (h2 : ReadsM w v ms) (hl : ∀ x ∈ l, x = mark) (hm : ∀ p ∈ ms, p.2 = mark) (z1 : l.length ≤ 2000000) (z2 : ms.length ≤ 2000000) :
    Calls Tryd.prog 11 #[u, v, .string mark] w fun e w' => e = .returned (.bool true) ∧ w' = w := by
  have H1 : Hid (ReadsT w u l) := h1
  have H2 : Hid (ReadsM w v ms) := h2
  have HL : Hid (∀ x ∈ l, x = mark) := hl
  have HM : Hid (∀ p ∈ ms, p.2 = mark) := hm
  obtain ⟨a, cap, rfl, _⟩ := h1
  obtain ⟨a', cap', rfl, _⟩ := h2
  obtain ⟨n, HN⟩ : ∃ n, Hid (l.length = n) := ⟨_, rfl⟩
  obtain ⟨m, HK⟩ : ∃ n, Hid (ms.length = n) := ⟨_, rfl⟩
  rw [HN.out] at H1 z1 ⊢
  rw [HK.out] at H2 z2 ⊢
  have q3 : (mark.toList == mark.toList) = true := beq_self_eq_true _
  clear hl hm
  go_enter Tryd.func11, Tryd.ntmps11
  go_wp2
  go_loopw [7] (fun i wr => ∃ k : Nat, k ≤ n ∧ i = .int .i64 k ∧ wr = w) (fun i _ => (n - intOf i).toNat)
  case atStart => exact ⟨0, by omega, rfl, rfl⟩
  case round =>
    obtain ⟨k, hk, rfl, rfl⟩ := hrel
    by_cases hlt : k < n
    · have hlt' : (k : Int) < n := by omega
      have hkx : k < l.length := by rw [HN.out]; exact hlt
      obtain ⟨b, off, rfl, c1⟩ := textAt H1.out (List.getElem?_eq_getElem hkx)
      rw [HL.out _ (List.getElem_mem hkx)] at c1
      go_wp2
      go_roundw
      case rel => exact ⟨k + 1, by omega, by go_num, by first | rfl | trivial⟩
      case measure => simp [intOf]; omega
    · have hlt' : ¬ (k : Int) < n := by omega
      obtain ⟨W, HW⟩ : ∃ W, W = wr := ⟨_, rfl⟩
      subst HW
      go_wp2
      go_loopw [8] (fun i wr => ∃ k : Nat, k ≤ m ∧ i = .int .i64 k ∧ wr = W) (fun i _ => (m - intOf i).toNat)
      case atStart => exact ⟨0, by omega, rfl, rfl⟩
      case round =>
        obtain ⟨q, hq, rfl, rfl⟩ := hrel
        by_cases hlq : q < m
        · have hlq' : (q : Int) < m := by omega
          have hqx : q < ms.length := by rw [HK.out]; exact hlq
          obtain ⟨x, HX⟩ : ∃ x, Hid (ms[q]? = some x) := ⟨_, List.getElem?_eq_getElem hqx⟩
          obtain ⟨b, rfl, c1, c2, c3⟩ := row_atM H2.out HX.out
          have hx : x.2 = mark := HM.out x (List.mem_of_getElem? HX.out)
          rw [hx] at c3
          go_wp2
          go_roundw
          case rel => exact ⟨q + 1, by omega, by go_num, by first | rfl | trivial⟩
          case measure => simp [intOf]; omega
        · have hlq' : ¬ (q : Int) < m := by omega
          go_wp2
          go_ret
          exact ⟨rfl, rfl⟩
end Go.Proofs.YtmmbkfagchaocaaDoor.s1

namespace Go.Proofs.YtmmbkfagchaocaaDoor.s2
open Go.RowKit Go.PlainAid
open Go.Proofs.YtmmbkfagchaocaaDoor.cp Go.Proofs.YtmmbkfagchaocaaDoor.ka
set_option linter.unusedVariables false

-- an append, and what stands of the rows that share the block (elements of any size)
theorem run_appS {P : Program} (w : World) (B sz : Nat) (t ty e : TypeId) (i : TypeInfo) (z : Value) (bytes : Nat) (ht : P.underlying t = some (.slice e)) (hi : P.info? e = some i) (hz : i.zero = some z)
    (hsize : i.size = sz) (hby : i.bytes = bytes) (hzs : z.cells.size = sz) (hsz : 0 < sz) (v : Value) (n : Nat) (xs : List Value) (hown : w.ownsRow B e sz v n xs)
    (a : Addr) (m c : Nat) (news : List Value) (hl : news.length = m * sz) (hnews : ∀ j u, news[j]? = some u → w.cell? (a.add j) = some u) (h1 : ∀ u ∈ news, u.oneCell' = true) (h63 : n + m ≤ maxLen) (hbytes : (n + m) * bytes ≤ 140737488355328) (hB : B ≤ w.heap.size) :
    ∃ v' w', (Builtin.append_ #[t, t] ty #[v, .slice (some a) m c]).run P w = .ok v' w' ∧ w'.ownsRow B e sz v' (n + m) (xs ++ news) ∧ w.grownBy w' v.ownBlock ∧ (v'.ownBlock = v.ownBlock ∨ v'.ownBlock = some w.heap.size) ∧
      ∀ p k ps, w.ownsRow B e sz p k ps → (p.ownBlock = v.ownBlock → k ≤ n) → w'.ownsRow B e sz p k ps := by
  obtain ⟨v', w', hr, h2, h3, h4, h5⟩ := run_append_own_at (P := P) w B t ty e i z sz bytes ht hi hz hsize hby hzs hsz v n xs hown a m c news hl hnews h1 h63 hbytes hB
  refine ⟨v', w', hr, h2, h3, h5, fun p k ps hp hk => ?_⟩
  by_cases hne : p.ownBlock = none ∨ p.ownBlock ≠ v.ownBlock
  · exact hp.kept h3 hne
  · have hpn : p.ownBlock ≠ none := fun e => hne (.inl e)
    have hpe : p.ownBlock = v.ownBlock := by by_cases e : p.ownBlock = v.ownBlock; exact e; exact absurd (.inr e) hne
    have hkn := hk hpe
    rcases hown.2 with ⟨rfl, rfl⟩ | ⟨g, cap, cur, rfl, hbg, hg, hnc, hcm, hcs, htake⟩
    · exact absurd hpe hpn
    · rcases hp.2 with ⟨rfl, _⟩ | ⟨g2, cap2, cur2, rfl, hbg2, hg2, hnc2, hcm2, hcs2, htake2⟩
      · exact absurd rfl hpn
      · have eg : g2 = g := Option.some.inj hpe
        subst eg
        have ec : cur2 = cur := by
          rw [hg] at hg2
          have := Option.some.inj hg2
          injection this with q1 q2 q3
          exact q1.symm
        subst ec
        have ecap : cap2 = cap := Nat.eq_of_mul_eq_mul_right hsz (hcs2.symm.trans hcs)
        subst ecap
        by_cases hroom : n + m ≤ cap2
        · have hr2 := run_append_room (P := P) w t ty e i ht hi g2 n cap2 cur2 hg a m c news (by rw [hsize]; exact hl) hnews h1 hroom (by rw [hsize, hl, hcs, ← Nat.add_mul]; exact Nat.mul_le_mul_right _ hroom)
          rw [hr] at hr2
          injection hr2 with q1 q2
          subst q1
          rcases h2.2 with ⟨q, _⟩ | ⟨g3, cap3, cur3, q, hbg3, hg3, hnc3, hcm3, hcs3, htake3⟩
          · cases q
          · have qa := Value.slice.inj q
            have qb : g2 = g3 := congrArg Addr.block (Option.some.inj qa.1)
            have qc : cap2 = cap3 := qa.2.2
            subst qb qc
            refine ⟨hp.1, .inr ⟨g2, cap2, cur3, rfl, hbg2, hg3, hnc2, hcm2, hcs3, ?_⟩⟩
            have e1 : cur3.toList.take (k * sz) = ((cur3.toList.take ((n + m) * sz)).take (k * sz)) := by rw [List.take_take, Nat.min_eq_left (Nat.mul_le_mul_right _ (by omega))]
            have e2 : cur2.toList.take (k * sz) = ((cur2.toList.take (n * sz)).take (k * sz)) := by rw [List.take_take, Nat.min_eq_left (Nat.mul_le_mul_right _ hkn)]
            rw [e1, htake3, ← htake2, e2, htake, List.take_append_of_le_length (by rw [hown.1]; exact Nat.mul_le_mul_right _ hkn)]
        · have holds : ∀ j u, xs[j]? = some u → w.cell? ((⟨g2, 0, none⟩ : Addr).add j) = some u := hown.cells (g := g2) rfl
          have hr2 := run_append_grow (P := P) w t ty e i z ht hi hz ⟨g2, 0, none⟩ n cap2 xs (by rw [hsize]; exact hown.1) holds a m c news (by rw [hsize]; exact hl) hnews (by omega) (by simp only [maxLen] at h63; omega) (growslice_fits (by omega) (by rw [hby]; exact hbytes))
          rw [hr] at hr2
          injection hr2 with q1 q2
          refine ⟨hp.1, .inr ⟨g2, cap2, cur2, rfl, hbg2, ?_, hnc2, hcm2, hcs2, htake2⟩⟩
          rw [q2]
          exact (heap_alloc_old w.drew _ (Array.getElem?_eq_some_iff.1 hg2).1).trans hg2
theorem wpList_appS {P : Program} {w : World} {ops : Array Oper} {rest : List Oper} {o : Oper} {a : Act} {Q : Exit → Act → World → Prop} (hgd : o.guard = none) (s x : Operand) (t : TypeId)
    (ho : o.op = .call { callee := .builtin .append, args := #[s, x], argTypes := #[t, t] })
    (B sz : Nat) (e : TypeId) (i : TypeInfo) (z : Value) (bytes : Nat) (ht : P.underlying t = some (.slice e)) (hi : P.info? e = some i) (hz : i.zero = some z)
    (hsize : i.size = sz) (hby : i.bytes = bytes) (hzs : z.cells.size = sz) (hsz : 0 < sz)
    (v : Value) (n : Nat) (xs : List Value) (hs : a.eval s = v) (hown : w.ownsRow B e sz v n xs)
    (ad : Addr) (m c : Nat) (news : List Value) (hx : a.eval x = .slice (some ad) m c) (hl : news.length = m * sz) (hnews : ∀ j u, news[j]? = some u → w.cell? (ad.add j) = some u) (h1 : ∀ u ∈ news, u.oneCell' = true)
    (h63 : n + m ≤ maxLen) (hbytes : (n + m) * bytes ≤ 140737488355328) (hB : B ≤ w.heap.size)
    (h : ∀ v' w', w'.ownsRow B e sz v' (n + m) (xs ++ news) → w.grownBy w' v.ownBlock → (v'.ownBlock = v.ownBlock ∨ v'.ownBlock = some w.heap.size) → (∀ p k ps, w.ownsRow B e sz p k ps → (p.ownBlock = v.ownBlock → k ≤ n) → w'.ownsRow B e sz p k ps) → wpList P ops Q rest (a.put o.dst v') w') :
    wpList P ops Q (o :: rest) a w := by
  refine wpList_plain hgd fun K hK => ?_
  obtain ⟨v', w', hr, h2, h3, h4, h5⟩ := run_appS (P := P) w B sz t o.type e i z bytes ht hi hz hsize hby hzs hsz v n xs hown ad m c news hl hnews h1 h63 hbytes hB
  unfold Oper.wp execOp
  simp only [ho, resolve, invoke, builtin, Sem.run_bind, Sem.run_pure, Result.andThen_ok, List.map_toArray, List.map_cons, List.map_nil, hs, hx, hr]
  exact hK _ _ (h v' w' h2 h3 h4 h5)

-- rows in clusters: rows of one cluster may share a block, those of two do not
structure Clu (w : World) (B t sz : Nat) (C : List (List (Value × List Value))) : Prop where
  own : ∀ c ∈ C, ∀ p ∈ c, ∃ n, w.ownsRow B t sz p.1 n p.2
  apart : C.Pairwise fun c d => ∀ p ∈ c, ∀ q ∈ d, ∀ g, p.1.ownBlock = some g → q.1.ownBlock ≠ some g
section
variable {w w' : World} {B t sz : Nat} {C : List (List (Value × List Value))}
theorem Clu.later (h : Clu w B t sz C) (b : Below w.heap.size w w') : Clu w' B t sz C := ⟨fun c hc p hp => by obtain ⟨n, ho⟩ := h.own c hc p hp; exact ⟨n, own_later ho b⟩, h.apart⟩
theorem Clu.ne (h : Clu w B t sz C) {i j : Nat} {c d : List (Value × List Value)} (hi : C[i]? = some c) (hj : C[j]? = some d) (hij : i ≠ j) : ∀ p ∈ c, ∀ q ∈ d, ∀ g, p.1.ownBlock = some g → q.1.ownBlock ≠ some g := by
  obtain ⟨hi1, hi2⟩ := List.getElem?_eq_some_iff.1 hi
  obtain ⟨hj1, hj2⟩ := List.getElem?_eq_some_iff.1 hj
  rcases Nat.lt_or_gt_of_ne hij with e | e
  · have := List.pairwise_iff_getElem.1 h.apart i j hi1 hj1 e
    rw [hi2, hj2] at this
    exact this
  · have := List.pairwise_iff_getElem.1 h.apart j i hj1 hi1 e
    rw [hi2, hj2] at this
    intro p hp q hq g e1 e2
    exact this q hq p hp g e2 e1
-- one cluster turned: what is written lies in a block of its own rows; new rows lie in its blocks or in new memory
theorem Clu.turn (h : Clu w B t sz C) {i : Nat} {c c' : List (Value × List Value)} (hi : C[i]? = some c) {r : Option Nat} (hr : ∃ p ∈ c, p.1.ownBlock = r) (hg : w.grownBy w' r) (ho : ∀ p ∈ c', ∃ n, w'.ownsRow B t sz p.1 n p.2) (hn : ∀ p ∈ c', (∃ q ∈ c, p.1.ownBlock = q.1.ownBlock) ∨ ∃ g, p.1.ownBlock = some g ∧ w.heap.size ≤ g) : Clu w' B t sz (C.set i c') := by
  obtain ⟨hi1, hi2⟩ := List.getElem?_eq_some_iff.1 hi
  have far : ∀ j d, C[j]? = some d → j ≠ i → ∀ p ∈ d, ∃ n, w'.ownsRow B t sz p.1 n p.2 := fun j d hj hji p hp => by
    obtain ⟨n, hp2⟩ := h.own d (List.mem_iff_getElem?.2 ⟨j, hj⟩) p hp
    refine ⟨n, World.ownsRow.kept hp2 hg ?_⟩
    cases hvb : p.1.ownBlock with
    | none => exact .inl rfl
    | some g =>
      obtain ⟨q, hq, e⟩ := hr
      refine .inr (fun e' => ?_)
      rw [← e] at e'
      exact h.ne hj hi hji p hp q hq g hvb e'.symm
  have ap : ∀ j d, C[j]? = some d → j ≠ i → ∀ p ∈ d, ∀ q ∈ c', ∀ g, p.1.ownBlock = some g → q.1.ownBlock ≠ some g := fun j d hj hji p hp q hq g e1 e2 => by
    rcases hn q hq with ⟨q', hq', e⟩ | ⟨g', e, hlt⟩
    · rw [e] at e2
      exact h.ne hj hi hji p hp q' hq' g e1 e2
    · obtain ⟨n, hp2⟩ := h.own d (List.mem_iff_getElem?.2 ⟨j, hj⟩) p hp
      have h1 := (hp2.lt g e1).2
      rw [e2] at e
      have := Option.some.inj e
      omega
  refine ⟨fun d hd p hp => ?_, ?_⟩
  · obtain ⟨j, hj⟩ := List.mem_iff_getElem?.1 hd
    by_cases e : j = i
    · subst e
      rw [List.getElem?_set_self hi1] at hj
      obtain rfl := Option.some.inj hj
      exact ho p hp
    · rw [List.getElem?_set_ne (Ne.symm e)] at hj
      exact far j d hj e p hp
  · apply List.pairwise_iff_getElem.2
    intro a b ha hb hab p hp q hq g e1 e2
    rw [List.length_set] at ha hb
    rw [List.getElem_set] at hp hq
    by_cases e : i = a
    · rw [if_pos e] at hp
      rw [if_neg (by omega)] at hq
      exact ap b _ (List.getElem?_eq_getElem hb) (by omega) q hq p hp g e2 e1
    · rw [if_neg e] at hp
      by_cases e' : i = b
      · rw [if_pos e'] at hq
        exact ap a _ (List.getElem?_eq_getElem ha) (fun x => e x.symm) p hp q hq g e1 e2
      · rw [if_neg e'] at hq
        exact List.pairwise_iff_getElem.1 h.apart a b ha hb hab p hp q hq g e1 e2
-- one cluster more, of a row that was made since
theorem Clu.add (h : Clu w B t sz C) {v : Value} {xs : List Value} {n : Nat} (b : Below w.heap.size w w') (ho : w'.ownsRow w.heap.size t sz v n xs) (hB : B ≤ w.heap.size) : Clu w' B t sz (C ++ [[(v, xs)]]) := by
  refine ⟨fun c hc p hp => ?_, ?_⟩
  · rcases List.mem_append.1 hc with hc | hc
    · obtain ⟨m, hm⟩ := h.own c hc p hp
      exact ⟨m, own_later hm b⟩
    · obtain rfl : c = [(v, xs)] := by simpa using hc
      obtain rfl : p = (v, xs) := by simpa using hp
      exact ⟨n, own_down ho hB⟩
  · refine List.pairwise_append.2 ⟨h.apart, List.pairwise_singleton _ _, fun c hc d hd p hp q hq g e e' => ?_⟩
    obtain rfl : d = [(v, xs)] := by simpa using hd
    obtain rfl : q = (v, xs) := by simpa using hq
    obtain ⟨m, hm⟩ := h.own c hc p hp
    have h1 := (hm.lt g e).2
    have h2 := (ho.lt g e').1
    omega
end
end Go.Proofs.YtmmbkfagchaocaaDoor.s2

namespace Go.Proofs.YtmmbkfagchaocaaDoor.s3
open Go.RowKit Go.PlainAid
open Go.Proofs.YtmmbkfagchaocaaDoor.pl Go.Proofs.YtmmbkfagchaocaaDoor.pg Go.Proofs.YtmmbkfagchaocaaDoor.cp Go.Proofs.YtmmbkfagchaocaaDoor.ka Go.Proofs.YtmmbkfagchaocaaDoor.na Go.Proofs.YtmmbkfagchaocaaDoor.oa Go.Proofs.YtmmbkfagchaocaaDoor.ob Go.Proofs.YtmmbkfagchaocaaDoor.s1 Go.Proofs.YtmmbkfagchaocaaDoor.s2
set_option linter.unusedVariables false

-- the mark of an answer
def mkA (k : Nat) : ByteArray := ⟨#[UInt8.ofNat (97 + k)]⟩
def mkK (k : Nat) : ByteArray := (⟨#[109, 97, 114, 107]⟩ : ByteArray) ++ mkA k
theorem mark_str (k : Nat) (hk : k ≤ 9) : str [((97 + k : Nat) : Int)] = mkA k := by
  have : ∀ n : Fin 10, str [((97 + n.val : Nat) : Int)] = mkA n.val := by decide
  exact this ⟨k, by omega⟩
-- all of it is the mark of that number
set_option maxHeartbeats 1600000 in
theorem fullY (u v : Value) (l : List ByteArray) (ms : List Md) (k : Nat) (hk : k ≤ 9) (w : World) (h1 : ReadsT w u l) (h2 : ReadsM w v ms) (hl : ∀ x ∈ l, x = mkK k) (hm : ∀ p ∈ ms, p.2 = mkK k) (z1 : l.length ≤ 2000000) (z2 : ms.length ≤ 2000000) :
    Calls Tryd.prog 55 #[u, v, .int .i64 k] w fun e w' => e = .returned (.bool true) ∧ Below w.heap.size w w' := by
  have hcv := own_conv (w.alloc (.cells #[.int .u8 ((97 + k : Nat) : Int)] 5)) w.heap.size (.slice (some ⟨w.heap.size, 0, none⟩) 1 1) [((97 + k : Nat) : Int)] 1 rfl (by omega) (World.ownsRow_lit w #[.int .u8 ((97 + k : Nat) : Int)] 1 (Nat.le_refl _) (by unfold maxLen; omega) rfl)
  rw [mark_str k hk] at hcv
  have B0 : Hid (Below w.heap.size w (w.alloc (.cells #[.int .u8 ((97 + k : Nat) : Int)] 5))) := (Below.refl _ _).alloc (Nat.le_refl _) _
  have CM : Hid (∀ W, Below w.heap.size w W → Calls Tryd.prog 11 #[u, v, .string (mkK k)] W fun e w' => e = .returned (.bool true) ∧ w' = W) := fun W b => markedY u v l ms (mkK k) W (h1.later b) (h2.later b) hl hm z1 z2
  obtain ⟨c, HC⟩ : ∃ c : Nat, Hid (97 + k = c) := ⟨_, rfl⟩
  have g2 : (97 : Int) + (k : Int) = (c : Int) := by have := HC.out; omega
  have g3 : IntKind.u8.wrap (c : Int) = c := by rw [IntKind.wrap_u8']; have := HC.out; omega
  have g4 : IntKind.i64.wrap (c : Int) = c := by rw [IntKind.wrap_i64]; have := HC.out; omega
  have zz : (mkA k).size = 1 := rfl
  have z4 : (⟨#[109, 97, 114, 107]⟩ : ByteArray).size = 4 := rfl
  rw [HC.out] at hcv B0
  unfold mkK at CM
  obtain ⟨y, HY⟩ : ∃ y, Hid (mkA k = y) := ⟨_, rfl⟩
  rw [HY.out] at hcv CM zz
  obtain ⟨a, cap, rfl, _⟩ := h1
  obtain ⟨a', cap', rfl, _⟩ := h2
  obtain ⟨n, HN⟩ : ∃ n, Hid (l.length = n) := ⟨_, rfl⟩
  obtain ⟨m, HK⟩ : ∃ n, Hid (ms.length = n) := ⟨_, rfl⟩
  rw [HN.out, HK.out] at CM ⊢
  clear hl hm z1 z2 HY
  go_enter Tryd.func55, Tryd.ntmps55
  go_wp2_with fail
  refine (CM.out _ B0.out).mono ?_
  rintro e w1 ⟨rfl, hw1⟩
  rw [hw1]
  clear hw1
  go_wp2
  go_ret
  exact ⟨rfl, B0.out⟩
-- rows of unlike elements lie apart
theorem own_apart {w : World} {B B' e e' s s' n n' : Nat} {v v' : Value} {xs xs' : List Value} (h : w.ownsRow B e s v n xs) (h' : w.ownsRow B' e' s' v' n' xs') (hne : e ≠ e') : v.ownBlock = none ∨ v.ownBlock ≠ v'.ownBlock := by
  cases hg : v.ownBlock with
  | none => exact .inl rfl
  | some g =>
    refine .inr (fun hg' => ?_)
    rcases h.2 with ⟨rfl, _⟩ | ⟨g1, cap, cur, rfl, _, h3, _⟩
    · cases hg
    · rcases h'.2 with ⟨rfl, _⟩ | ⟨g2, cap2, cur2, rfl, _, k3, _⟩
      · cases hg'
      · have e1 : g1 = g := Option.some.inj hg
        have e2 : g = g2 := Option.some.inj hg'
        subst e1 e2
        rw [h3] at k3
        injection k3 with k3
        injection k3 with _ k3 _
        exact hne k3
-- the lists of answers: their rows in clusters, and the two lists that name the first of each
def fsts (C : List (List (Value × List Value))) : List Value := C.map fun c => ((c.headD (.slice none 0 0, [])).1)
structure Ap (w0 : World) (B bH bM K cH cM : Nat) (H M : List (List (Value × List Value))) (w : World) : Prop where
  rH : w.ownsRow B 22 1 (.slice (some ⟨bH, 0, none⟩) K cH) K (fsts H)
  rM : w.ownsRow B 25 1 (.slice (some ⟨bM, 0, none⟩) K cM) K (fsts M)
  cH : Clu w B 9 1 H
  cM : Clu w B 38 3 M
  fr : Below w0.heap.size w0 w
  hB : w0.heap.size ≤ B
section
variable {w0 w w' : World} {B bH bM K cH cM : Nat} {H M : List (List (Value × List Value))}
theorem Clu.far {t sz t' sz' n : Nat} {C : List (List (Value × List Value))} {v : Value} {xs : List Value} (h : Clu w B t sz C) (ho : w.ownsRow B t' sz' v n xs) (hne : t ≠ t') (hg : w.grownBy w' v.ownBlock) : Clu w' B t sz C :=
  ⟨fun c hc p hp => by obtain ⟨m, hm⟩ := h.own c hc p hp; exact ⟨m, hm.kept hg (own_apart hm ho hne)⟩, h.apart⟩
theorem Ap.later (h : Ap w0 B bH bM K cH cM H M w) (b : Below w.heap.size w w') : Ap w0 B bH bM K cH cM H M w' := ⟨own_later h.rH b, own_later h.rM b, h.cH.later b, h.cM.later b, over h.fr b, h.hB⟩
theorem grown_fr {r : Option Nat} (h : Below w0.heap.size w0 w) (hg : w.grownBy w' r) (hr : ∀ g, r = some g → w0.heap.size ≤ g) : Below w0.heap.size w0 w' := Below.grown h hg h.size (fun j hj => hr j hj)
-- a row of texts is turned
theorem Ap.turnH (h : Ap w0 B bH bM K cH cM H M w) {k n : Nat} {c c' : List (Value × List Value)} {v : Value} {xs : List Value} (hk : H[k]? = some c) (hv : (v, xs) ∈ c) (hown : w.ownsRow B 9 1 v n xs) (hg : w.grownBy w' v.ownBlock) (ho : ∀ p ∈ c', ∃ n, w'.ownsRow B 9 1 p.1 n p.2) (hn : ∀ p ∈ c', (∃ q ∈ c, p.1.ownBlock = q.1.ownBlock) ∨ ∃ g, p.1.ownBlock = some g ∧ w.heap.size ≤ g) (hf : (c'.headD (.slice none 0 0, [])).1 = (c.headD (.slice none 0 0, [])).1) : Ap w0 B bH bM K cH cM (H.set k c') M w' := by
  have e : fsts (H.set k c') = fsts H := by
    unfold fsts
    rw [List.map_set, hf]
    apply List.ext_getElem?
    intro j
    by_cases q : j = k
    · subst q
      rw [List.getElem?_set_self (by rw [List.length_map]; exact (List.getElem?_eq_some_iff.1 hk).1), List.getElem?_map, hk]
      rfl
    · rw [List.getElem?_set_ne (Ne.symm q)]
  refine ⟨?_, h.rM.kept hg (own_apart h.rM hown (by decide)), h.cH.turn hk ⟨_, hv, rfl⟩ hg ho hn, Clu.far h.cM hown (by decide) hg, grown_fr h.fr hg (fun g e => Nat.le_trans h.hB (hown.lt g e).1), h.hB⟩
  rw [e]
  exact h.rH.kept hg (own_apart h.rH hown (by decide))
theorem Ap.turnM (h : Ap w0 B bH bM K cH cM H M w) {k n : Nat} {c c' : List (Value × List Value)} {v : Value} {xs : List Value} (hk : M[k]? = some c) (hv : (v, xs) ∈ c) (hown : w.ownsRow B 38 3 v n xs) (hg : w.grownBy w' v.ownBlock) (ho : ∀ p ∈ c', ∃ n, w'.ownsRow B 38 3 p.1 n p.2) (hn : ∀ p ∈ c', (∃ q ∈ c, p.1.ownBlock = q.1.ownBlock) ∨ ∃ g, p.1.ownBlock = some g ∧ w.heap.size ≤ g) (hf : (c'.headD (.slice none 0 0, [])).1 = (c.headD (.slice none 0 0, [])).1) : Ap w0 B bH bM K cH cM H (M.set k c') w' := by
  have e : fsts (M.set k c') = fsts M := by
    unfold fsts
    rw [List.map_set, hf]
    apply List.ext_getElem?
    intro j
    by_cases q : j = k
    · subst q
      rw [List.getElem?_set_self (by rw [List.length_map]; exact (List.getElem?_eq_some_iff.1 hk).1), List.getElem?_map, hk]
      rfl
    · rw [List.getElem?_set_ne (Ne.symm q)]
  refine ⟨h.rH.kept hg (own_apart h.rH hown (by decide)), ?_, Clu.far h.cH hown (by decide) hg, h.cM.turn hk ⟨_, hv, rfl⟩ hg ho hn, grown_fr h.fr hg (fun g e => Nat.le_trans h.hB (hown.lt g e).1), h.hB⟩
  rw [e]
  exact h.rM.kept hg (own_apart h.rM hown (by decide))
-- a text is written over
theorem Ap.putH (h : Ap w0 B bH bM K cH cM H M w) {k n g cp i : Nat} {xs : List Value} (hk : H[k]? = some [(.slice (some ⟨g, 0, none⟩) n cp, xs)]) (x : ByteArray) : Ap w0 B bH bM K cH cM (H.set k [(.slice (some ⟨g, 0, none⟩) n cp, xs.set i (.string x))]) M (w.setCell ⟨g, i, none⟩ (.string x)) := by
  obtain ⟨m, hown⟩ := h.cH.own _ (List.mem_iff_getElem?.2 ⟨k, hk⟩) _ (List.mem_singleton.2 rfl)
  have hm : m = n := by
    rcases hown.2 with ⟨e, _⟩ | ⟨g1, cap, cur, e, _⟩
    · cases e
    · exact (Value.slice.inj e).2.1.symm
  subst hm
  obtain ⟨h1, h2⟩ := World.ownsRow.stored hown i (.string x)
  exact h.turnH hk (List.mem_singleton.2 rfl) hown h2 (fun p hp => by obtain rfl := List.mem_singleton.1 hp; exact ⟨_, h1⟩) (fun p hp => by obtain rfl := List.mem_singleton.1 hp; exact .inl ⟨_, List.mem_singleton.2 rfl, rfl⟩) rfl
end
end Go.Proofs.YtmmbkfagchaocaaDoor.s3

namespace Go.Proofs.YtmmbkfagchaocaaDoor.s4
open Go.RowKit Go.PlainAid
open Go.Proofs.YtmmbkfagchaocaaDoor.cp Go.Proofs.YtmmbkfagchaocaaDoor.ka Go.Proofs.YtmmbkfagchaocaaDoor.na Go.Proofs.YtmmbkfagchaocaaDoor.oa Go.Proofs.YtmmbkfagchaocaaDoor.ob Go.Proofs.YtmmbkfagchaocaaDoor.s1 Go.Proofs.YtmmbkfagchaocaaDoor.s2 Go.Proofs.YtmmbkfagchaocaaDoor.s3
set_option linter.unusedVariables false

theorem mls_set (L : List Md) (i : Nat) (hi : i < L.length) (x : Md) : (((mls L).set (i * 3) (.int .i64 (x.1.1 : Nat))).set (i * 3 + 1) (.int .i64 (x.1.2 : Nat))).set (i * 3 + 2) (.string x.2) = mls (L.set i x) := by
  induction L generalizing i with
  | nil => simp at hi
  | cons a L ih =>
    cases i with
    | zero => rfl
    | succ i =>
      have e1 : (i + 1) * 3 = i * 3 + 1 + 1 + 1 := by omega
      have e : ∀ L : List Md, ∀ b, mls (b :: L) = .int .i64 (b.1.1 : Nat) :: .int .i64 (b.1.2 : Nat) :: .string b.2 :: mls L := fun _ _ => rfl
      rw [List.set_cons_succ, e, e, ← ih i (by simpa using hi), e1]
      rfl
section
variable {w0 w w' : World} {B bH bM K cH cM : Nat} {H M : List (List (Value × List Value))}
-- a cell of a made row is written over
theorem Ap.putM (h : Ap w0 B bH bM K cH cM H M w) {k n g cp : Nat} {xs : List Value} (hk : M[k]? = some [(.slice (some ⟨g, 0, none⟩) n cp, xs)]) (i : Nat) (x : Value) : Ap w0 B bH bM K cH cM H (M.set k [(.slice (some ⟨g, 0, none⟩) n cp, xs.set i x)]) (w.setCell ⟨g, i, none⟩ x) := by
  obtain ⟨m, hown⟩ := h.cM.own _ (List.mem_iff_getElem?.2 ⟨k, hk⟩) _ (List.mem_singleton.2 rfl)
  have hm : m = n := by
    rcases hown.2 with ⟨e, _⟩ | ⟨g1, cap, cur, e, _⟩
    · cases e
    · exact (Value.slice.inj e).2.1.symm
  subst hm
  obtain ⟨h1, h2⟩ := World.ownsRow.stored hown i x
  exact h.turnM hk (List.mem_singleton.2 rfl) hown h2 (fun p hp => by obtain rfl := List.mem_singleton.1 hp; exact ⟨_, h1⟩) (fun p hp => by obtain rfl := List.mem_singleton.1 hp; exact .inl ⟨_, List.mem_singleton.2 rfl, rfl⟩) rfl
theorem Ap.putM3 (h : Ap w0 B bH bM K cH cM H M w) {k n g cp i : Nat} {L : List Md} (hk : M[k]? = some [(.slice (some ⟨g, 0, none⟩) n cp, mls L)]) (hi : i < L.length) (x : Md) : Ap w0 B bH bM K cH cM H (M.set k [(.slice (some ⟨g, 0, none⟩) n cp, mls (L.set i x))]) (((w.setCell ⟨g, i * 3, none⟩ (.int .i64 (x.1.1 : Nat))).setCell ⟨g, i * 3 + 1, none⟩ (.int .i64 (x.1.2 : Nat))).setCell ⟨g, i * 3 + 2, none⟩ (.string x.2)) := by
  have hl := (List.getElem?_eq_some_iff.1 hk).1
  have a1 := Ap.putM h hk (i * 3) (.int .i64 (x.1.1 : Nat))
  have a2 := Ap.putM a1 (List.getElem?_set_self hl) (i * 3 + 1) (.int .i64 (x.1.2 : Nat))
  have a3 := Ap.putM a2 (List.getElem?_set_self (by rw [List.length_set]; exact hl)) (i * 3 + 2) (.string x.2)
  rw [List.set_set, List.set_set, mls_set L i hi x] at a3
  exact a3
-- an answer is taken to be made longer
theorem Ap.openH (h : Ap w0 B bH bM K cH cM H M w) {k : Nat} {v : Value} {xs : List Value} (hk : H[k]? = some [(v, xs)]) : Ap w0 B bH bM K cH cM (H.set k [(v, xs), (v, xs)]) M w := by
  obtain ⟨m, hown⟩ := h.cH.own _ (List.mem_iff_getElem?.2 ⟨k, hk⟩) _ (List.mem_singleton.2 rfl)
  refine h.turnH hk (List.mem_singleton.2 rfl) hown (World.grownBy.refl _ _) (fun p hp => ?_) (fun p hp => ?_) rfl
  · obtain rfl : p = (v, xs) := by simpa using hp
    exact ⟨m, hown⟩
  · obtain rfl : p = (v, xs) := by simpa using hp
    exact .inl ⟨_, List.mem_singleton.2 rfl, rfl⟩
theorem Ap.openM (h : Ap w0 B bH bM K cH cM H M w) {k : Nat} {v : Value} {xs : List Value} (hk : M[k]? = some [(v, xs)]) : Ap w0 B bH bM K cH cM H (M.set k [(v, xs), (v, xs)]) w := by
  obtain ⟨m, hown⟩ := h.cM.own _ (List.mem_iff_getElem?.2 ⟨k, hk⟩) _ (List.mem_singleton.2 rfl)
  refine h.turnM hk (List.mem_singleton.2 rfl) hown (World.grownBy.refl _ _) (fun p hp => ?_) (fun p hp => ?_) rfl
  · obtain rfl : p = (v, xs) := by simpa using hp
    exact ⟨m, hown⟩
  · obtain rfl : p = (v, xs) := by simpa using hp
    exact .inl ⟨_, List.mem_singleton.2 rfl, rfl⟩
-- the longer one grows: the answer beside it stands
theorem Ap.pushH (h : Ap w0 B bH bM K cH cM H M w) {k n n' : Nat} {v y y' : Value} {xs ys ys' : List Value} (hk : H[k]? = some [(v, xs), (y, ys)]) (hle : xs.length ≤ ys.length) (hown : w.ownsRow B 9 1 y n ys) (h1 : w'.ownsRow B 9 1 y' n' ys') (hg : w.grownBy w' y.ownBlock) (hb : y'.ownBlock = y.ownBlock ∨ y'.ownBlock = some w.heap.size) (hkeep : ∀ p k ps, w.ownsRow B 9 1 p k ps → (p.ownBlock = y.ownBlock → k ≤ n) → w'.ownsRow B 9 1 p k ps) : Ap w0 B bH bM K cH cM (H.set k [(v, xs), (y', ys')]) M w' := by
  have hc : [(v, xs), (y, ys)] ∈ H := List.mem_iff_getElem?.2 ⟨k, hk⟩
  obtain ⟨m, hv⟩ := h.cH.own _ hc (v, xs) (by simp)
  have hmn : m ≤ n := by have a := hv.1; have b := hown.1; simp only [Nat.mul_one] at a b; omega
  refine h.turnH hk (v := y) (xs := ys) (by simp) hown hg (fun p hp => ?_) (fun p hp => ?_) rfl
  · rcases List.mem_cons.1 hp with rfl | hp
    · exact ⟨m, hkeep _ _ _ hv fun _ => hmn⟩
    · obtain rfl := List.mem_singleton.1 hp
      exact ⟨n', h1⟩
  · rcases List.mem_cons.1 hp with rfl | hp
    · exact .inl ⟨(v, xs), by simp, rfl⟩
    · obtain rfl := List.mem_singleton.1 hp
      rcases hb with e | e
      · exact .inl ⟨(y, ys), by simp, e⟩
      · exact .inr ⟨_, e, Nat.le_refl _⟩
theorem Ap.pushM (h : Ap w0 B bH bM K cH cM H M w) {k n n' : Nat} {v y y' : Value} {xs ys ys' : List Value} (hk : M[k]? = some [(v, xs), (y, ys)]) (hle : xs.length ≤ ys.length) (hown : w.ownsRow B 38 3 y n ys) (h1 : w'.ownsRow B 38 3 y' n' ys') (hg : w.grownBy w' y.ownBlock) (hb : y'.ownBlock = y.ownBlock ∨ y'.ownBlock = some w.heap.size) (hkeep : ∀ p k ps, w.ownsRow B 38 3 p k ps → (p.ownBlock = y.ownBlock → k ≤ n) → w'.ownsRow B 38 3 p k ps) : Ap w0 B bH bM K cH cM H (M.set k [(v, xs), (y', ys')]) w' := by
  have hc : [(v, xs), (y, ys)] ∈ M := List.mem_iff_getElem?.2 ⟨k, hk⟩
  obtain ⟨m, hv⟩ := h.cM.own _ hc (v, xs) (by simp)
  have hmn : m ≤ n := by have a : xs.length = m * 3 := hv.1; have b := hown.1; omega
  refine h.turnM hk (v := y) (xs := ys) (by simp) hown hg (fun p hp => ?_) (fun p hp => ?_) rfl
  · rcases List.mem_cons.1 hp with rfl | hp
    · exact ⟨m, hkeep _ _ _ hv fun _ => hmn⟩
    · obtain rfl := List.mem_singleton.1 hp
      exact ⟨n', h1⟩
  · rcases List.mem_cons.1 hp with rfl | hp
    · exact .inl ⟨(v, xs), by simp, rfl⟩
    · obtain rfl := List.mem_singleton.1 hp
      rcases hb with e | e
      · exact .inl ⟨(y, ys), by simp, e⟩
      · exact .inr ⟨_, e, Nat.le_refl _⟩
end
-- the first loop: the rows ahead of k bear their marks, of the row k the first i
structure FH (K k i : Nat) (H : List (List (Value × List Value))) : Prop where
  len : H.length = K
  all : ∀ q c, H[q]? = some c → ∃ v, ∃ L : List ByteArray, c = [(v, L.map Value.string)] ∧ L.length ≤ 1000000 ∧ (q < k → ∀ x ∈ L, x = mkK q) ∧ (q = k → ∀ x ∈ L.take i, x = mkK q)
structure FM (K k i : Nat) (M : List (List (Value × List Value))) : Prop where
  len : M.length = K
  all : ∀ q c, M[q]? = some c → ∃ v, ∃ L : List Md, c = [(v, mls L)] ∧ L.length ≤ 1000000 ∧ (q < k → ∀ x ∈ L, x.2 = mkK q) ∧ (q = k → ∀ x ∈ L.take i, x.2 = mkK q)
theorem take_setp {α : Type} {P : α → Prop} {L : List α} {i : Nat} (hi : i < L.length) (h : ∀ x ∈ L.take i, P x) (y : α) (hy : P y) : ∀ x ∈ (L.set i y).take (i + 1), P x := by
  intro x hx
  obtain ⟨j, hj, e⟩ := List.getElem_of_mem hx
  rw [List.length_take, List.length_set] at hj
  rw [List.getElem_take, List.getElem_set] at e
  by_cases q : i = j
  · rw [if_pos q] at e
    rw [← e]
    exact hy
  · rw [if_neg q] at e
    rw [← e]
    exact h _ (List.mem_take_iff_getElem.2 ⟨j, by omega, rfl⟩)
theorem FH.step {K k i : Nat} {H : List (List (Value × List Value))} (h : FH K k i H) {v : Value} {L : List ByteArray} (hk : H[k]? = some [(v, L.map Value.string)]) (hi : i < L.length) : FH K k (i + 1) (H.set k [(v, (L.map Value.string).set i (.string (mkK k)))]) := by
  refine ⟨by rw [List.length_set]; exact h.len, fun q c hq => ?_⟩
  by_cases e : q = k
  · subst e
    rw [List.getElem?_set_self (List.getElem?_eq_some_iff.1 hk).1] at hq
    obtain rfl := Option.some.inj hq
    obtain ⟨v', L', e', h1, h2, h3⟩ := h.all q _ hk
    have e2 : L.map Value.string = L'.map Value.string := (Prod.mk.inj (List.cons.inj e').1).2
    have e3 : L = L' := by
      have inj : Function.Injective Value.string := fun a b h => by injection h
      exact (List.map_inj_right (fun a b h => inj h)).1 e2
    subst e3
    exact ⟨v, L.set i (mkK q), by rw [List.map_set], by rw [List.length_set]; exact h1, fun h => absurd h (by omega), fun _ => take_setp hi (h3 rfl) _ rfl⟩
  · rw [List.getElem?_set_ne (Ne.symm e)] at hq
    obtain ⟨v', L', e', h1, h2, h3⟩ := h.all q c hq
    exact ⟨v', L', e', h1, h2, fun h => absurd h e⟩
theorem mls_inj : ∀ L L' : List Md, mls L = mls L' → L.map (·.2) = L'.map (·.2)
  | [], [], _ => rfl
  | [], b :: L', h => by cases h
  | a :: L, [], h => by cases h
  | a :: L, b :: L', h => by
    have e : ∀ L : List Md, ∀ b, mls (b :: L) = .int .i64 (b.1.1 : Nat) :: .int .i64 (b.1.2 : Nat) :: .string b.2 :: mls L := fun _ _ => rfl
    rw [e, e] at h
    injection h with _ h
    injection h with _ h
    injection h with h1 h2
    injection h1 with h1
    rw [List.map_cons, List.map_cons, mls_inj L L' h2, h1]
theorem FM.step {K k i : Nat} {M : List (List (Value × List Value))} (h : FM K k i M) {v : Value} {L : List Md} (hk : M[k]? = some [(v, mls L)]) (hi : i < L.length) (a : Nat × Nat) : FM K k (i + 1) (M.set k [(v, mls (L.set i (a, mkK k)))]) := by
  refine ⟨by rw [List.length_set]; exact h.len, fun q c hq => ?_⟩
  by_cases e : q = k
  · subst e
    rw [List.getElem?_set_self (List.getElem?_eq_some_iff.1 hk).1] at hq
    obtain rfl := Option.some.inj hq
    obtain ⟨v', L', e', h1, h2, h3⟩ := h.all q _ hk
    have e2 : L.map (·.2) = L'.map (·.2) := mls_inj _ _ (Prod.mk.inj (List.cons.inj e').1).2
    have e3 : L.length = L'.length := by have := congrArg List.length e2; simpa using this
    have h4 : ∀ x ∈ L.take i, x.2 = mkK q := fun x hx => by
      have : x.2 ∈ (L.take i).map (·.2) := List.mem_map.2 ⟨x, hx, rfl⟩
      rw [List.map_take, e2, ← List.map_take] at this
      obtain ⟨y, hy, e⟩ := List.mem_map.1 this
      rw [← e]
      exact h3 rfl y hy
    exact ⟨v, L.set i (a, mkK q), rfl, by rw [List.length_set, e3]; exact h1, fun h => absurd h (by omega), fun _ => take_setp hi h4 _ rfl⟩
  · rw [List.getElem?_set_ne (Ne.symm e)] at hq
    obtain ⟨v', L', e', h1, h2, h3⟩ := h.all q c hq
    exact ⟨v', L', e', h1, h2, fun h => absurd h e⟩
theorem FH.next {K k i : Nat} {H : List (List (Value × List Value))} (h : FH K k i H) {v : Value} {L : List ByteArray} (hk : H[k]? = some [(v, L.map Value.string)]) (hi : L.length ≤ i) : FH K (k + 1) 0 H := by
  refine ⟨h.len, fun q c hq => ?_⟩
  obtain ⟨v', L', e', h1, h2, h3⟩ := h.all q c hq
  refine ⟨v', L', e', h1, fun hlt => ?_, fun _ x hx => by simp at hx⟩
  by_cases e : q = k
  · subst e
    rw [hk] at hq
    obtain rfl := Option.some.inj hq
    have e2 : L.map Value.string = L'.map Value.string := (Prod.mk.inj (List.cons.inj e').1).2
    have e3 : L.length = L'.length := by have := congrArg List.length e2; simpa using this
    have := h3 rfl
    rw [List.take_of_length_le (by omega)] at this
    exact this
  · exact h2 (by omega)
theorem FM.next {K k i : Nat} {M : List (List (Value × List Value))} (h : FM K k i M) {v : Value} {L : List Md} (hk : M[k]? = some [(v, mls L)]) (hi : L.length ≤ i) : FM K (k + 1) 0 M := by
  refine ⟨h.len, fun q c hq => ?_⟩
  obtain ⟨v', L', e', h1, h2, h3⟩ := h.all q c hq
  refine ⟨v', L', e', h1, fun hlt => ?_, fun _ x hx => by simp at hx⟩
  by_cases e : q = k
  · subst e
    rw [hk] at hq
    obtain rfl := Option.some.inj hq
    have e2 : mls L = mls L' := (Prod.mk.inj (List.cons.inj e').1).2
    have e3 : L.length = L'.length := by have := congrArg List.length e2; rw [mls_len, mls_len] at this; omega
    have := h3 rfl
    rw [List.take_of_length_le (by omega)] at this
    exact this
  · exact h2 (by omega)
end Go.Proofs.YtmmbkfagchaocaaDoor.s4

namespace Go.Proofs.YtmmbkfagchaocaaDoor.s5
open Go.RowKit Go.PlainAid
open Go.Proofs.YtmmbkfagchaocaaDoor.cp Go.Proofs.YtmmbkfagchaocaaDoor.ka Go.Proofs.YtmmbkfagchaocaaDoor.na Go.Proofs.YtmmbkfagchaocaaDoor.oa Go.Proofs.YtmmbkfagchaocaaDoor.ob Go.Proofs.YtmmbkfagchaocaaDoor.s1 Go.Proofs.YtmmbkfagchaocaaDoor.s2 Go.Proofs.YtmmbkfagchaocaaDoor.s3 Go.Proofs.YtmmbkfagchaocaaDoor.s4
set_option linter.unusedVariables false

-- the second loop: the rows ahead of k have a longer one beside them
structure GH (K k : Nat) (H : List (List (Value × List Value))) (Y : List Value) : Prop where
  len : H.length = K
  ylen : Y.length = k
  old : ∀ q c, H[q]? = some c → k ≤ q → ∃ v, ∃ L : List ByteArray, c = [(v, L.map Value.string)] ∧ L.length ≤ 1000000 ∧ ∀ x ∈ L, x = mkK q
  new : ∀ q c, H[q]? = some c → q < k → ∃ v y, ∃ L L' : List ByteArray, c = [(v, L.map Value.string), (y, L'.map Value.string)] ∧ Y[q]? = some y ∧ L.length ≤ 1000000 ∧ L'.length ≤ 1000064 ∧ (∀ x ∈ L, x = mkK q) ∧ ∀ x ∈ L', x = mkK q
structure GM (K k : Nat) (M : List (List (Value × List Value))) (Z : List Value) : Prop where
  len : M.length = K
  ylen : Z.length = k
  old : ∀ q c, M[q]? = some c → k ≤ q → ∃ v, ∃ L : List Md, c = [(v, mls L)] ∧ L.length ≤ 1000000 ∧ ∀ x ∈ L, x.2 = mkK q
  new : ∀ q c, M[q]? = some c → q < k → ∃ v y, ∃ L L' : List Md, c = [(v, mls L), (y, mls L')] ∧ Z[q]? = some y ∧ L.length ≤ 1000000 ∧ L'.length ≤ 1000064 ∧ (∀ x ∈ L, x.2 = mkK q) ∧ ∀ x ∈ L', x.2 = mkK q
theorem FH.done {K i : Nat} {H : List (List (Value × List Value))} (h : FH K K i H) : GH K 0 H [] := by
  refine ⟨h.len, rfl, fun q c hq _ => ?_, fun q c hq hl => absurd hl (by omega)⟩
  obtain ⟨v, L, e, h1, h2, _⟩ := h.all q c hq
  exact ⟨v, L, e, h1, h2 (by have := (List.getElem?_eq_some_iff.1 hq).1; have := h.len; omega)⟩
theorem FM.done {K i : Nat} {M : List (List (Value × List Value))} (h : FM K K i M) : GM K 0 M [] := by
  refine ⟨h.len, rfl, fun q c hq _ => ?_, fun q c hq hl => absurd hl (by omega)⟩
  obtain ⟨v, L, e, h1, h2, _⟩ := h.all q c hq
  exact ⟨v, L, e, h1, h2 (by have := (List.getElem?_eq_some_iff.1 hq).1; have := h.len; omega)⟩
theorem mem_rep {α : Type} {P : α → Prop} {L : List α} (h : ∀ x ∈ L, P x) {n : Nat} {y : α} (hy : P y) : ∀ x ∈ L ++ List.replicate n y, P x := fun x hx => by
  rcases List.mem_append.1 hx with a | a
  · exact h x a
  · rw [(List.mem_replicate.1 a).2]
    exact hy
theorem GH.next {K k : Nat} {H : List (List (Value × List Value))} {Y : List Value} (h : GH K k H Y) {v y : Value} {L : List ByteArray} (hk : H[k]? = some [(v, L.map Value.string)]) (hz : L.length ≤ 1000000) (hm : ∀ x ∈ L, x = mkK k) : GH K (k + 1) (H.set k [(v, L.map Value.string), (y, (L ++ List.replicate 64 (mkK k)).map Value.string)]) (Y ++ [y]) := by
  have hl := (List.getElem?_eq_some_iff.1 hk).1
  refine ⟨by rw [List.length_set]; exact h.len, by rw [List.length_append, h.ylen]; rfl, fun q c hq hle => ?_, fun q c hq hlt => ?_⟩
  · rw [List.getElem?_set_ne (by omega)] at hq
    exact h.old q c hq (by omega)
  · by_cases e : q = k
    · subst e
      rw [List.getElem?_set_self hl] at hq
      obtain rfl := Option.some.inj hq
      refine ⟨v, y, L, _, rfl, ?_, hz, ?_, hm, mem_rep hm rfl⟩
      · rw [List.getElem?_append_right (by rw [h.ylen]; exact Nat.le_refl _), h.ylen, Nat.sub_self]
        rfl
      · rw [List.length_append, List.length_replicate]
        omega
    · rw [List.getElem?_set_ne (Ne.symm e)] at hq
      obtain ⟨v', y', L1, L2, e1, e2, r⟩ := h.new q c hq (by omega)
      exact ⟨v', y', L1, L2, e1, by rw [List.getElem?_append_left (List.getElem?_eq_some_iff.1 e2).1]; exact e2, r⟩
theorem GM.next {K k : Nat} {M : List (List (Value × List Value))} {Z : List Value} (h : GM K k M Z) {v y : Value} {L : List Md} (hk : M[k]? = some [(v, mls L)]) (hz : L.length ≤ 1000000) (hm : ∀ x ∈ L, x.2 = mkK k) (a : Nat × Nat) : GM K (k + 1) (M.set k [(v, mls L), (y, mls (L ++ List.replicate 64 (a, mkK k)))]) (Z ++ [y]) := by
  have hl := (List.getElem?_eq_some_iff.1 hk).1
  refine ⟨by rw [List.length_set]; exact h.len, by rw [List.length_append, h.ylen]; rfl, fun q c hq hle => ?_, fun q c hq hlt => ?_⟩
  · rw [List.getElem?_set_ne (by omega)] at hq
    exact h.old q c hq (by omega)
  · by_cases e : q = k
    · subst e
      rw [List.getElem?_set_self hl] at hq
      obtain rfl := Option.some.inj hq
      refine ⟨v, y, L, _, rfl, ?_, hz, ?_, hm, mem_rep hm rfl⟩
      · rw [List.getElem?_append_right (by rw [h.ylen]; exact Nat.le_refl _), h.ylen, Nat.sub_self]
        rfl
      · rw [List.length_append, List.length_replicate]
        omega
    · rw [List.getElem?_set_ne (Ne.symm e)] at hq
      obtain ⟨v', y', L1, L2, e1, e2, r⟩ := h.new q c hq (by omega)
      exact ⟨v', y', L1, L2, e1, by rw [List.getElem?_append_left (List.getElem?_eq_some_iff.1 e2).1]; exact e2, r⟩
-- one append of the second loop
section
variable {w0 w w' : World} {B bH bM K cH cM : Nat} {H M : List (List (Value × List Value))}
theorem growH {k i n' : Nat} {v y y' : Value} {L : List ByteArray} {x : ByteArray} (hk : k < H.length) (h : Ap w0 B bH bM K cH cM (H.set k [(v, L.map Value.string), (y, (L ++ List.replicate i x).map Value.string)]) M w) {n : Nat} (hown : w.ownsRow B 9 1 y n ((L ++ List.replicate i x).map Value.string)) (h1 : w'.ownsRow B 9 1 y' n' ((L ++ List.replicate i x).map Value.string ++ [.string x])) (hg : w.grownBy w' y.ownBlock) (hb : y'.ownBlock = y.ownBlock ∨ y'.ownBlock = some w.heap.size) (hkeep : ∀ p k ps, w.ownsRow B 9 1 p k ps → (p.ownBlock = y.ownBlock → k ≤ n) → w'.ownsRow B 9 1 p k ps) : Ap w0 B bH bM K cH cM (H.set k [(v, L.map Value.string), (y', (L ++ List.replicate (i + 1) x).map Value.string)]) M w' := by
  have e : (L ++ List.replicate (i + 1) x).map Value.string = (L ++ List.replicate i x).map Value.string ++ [.string x] := by rw [List.replicate_succ', ← List.append_assoc, List.map_append (l₂ := [x])]; rfl
  have a := Ap.pushH h (List.getElem?_set_self hk) (by rw [List.length_map, List.length_map, List.length_append]; omega) hown h1 hg hb hkeep
  rw [List.set_set] at a
  rw [e]
  exact a
theorem growM {k i n' : Nat} {v y y' : Value} {L : List Md} {x : Md} (hk : k < M.length) (h : Ap w0 B bH bM K cH cM H (M.set k [(v, mls L), (y, mls (L ++ List.replicate i x))]) w) {n : Nat} (hown : w.ownsRow B 38 3 y n (mls (L ++ List.replicate i x))) (h1 : w'.ownsRow B 38 3 y' n' (mls (L ++ List.replicate i x) ++ ml x)) (hg : w.grownBy w' y.ownBlock) (hb : y'.ownBlock = y.ownBlock ∨ y'.ownBlock = some w.heap.size) (hkeep : ∀ p k ps, w.ownsRow B 38 3 p k ps → (p.ownBlock = y.ownBlock → k ≤ n) → w'.ownsRow B 38 3 p k ps) : Ap w0 B bH bM K cH cM H (M.set k [(v, mls L), (y', mls (L ++ List.replicate (i + 1) x))]) w' := by
  have e : mls (L ++ List.replicate (i + 1) x) = mls (L ++ List.replicate i x) ++ ml x := by rw [List.replicate_succ', ← List.append_assoc, mls_app (L ++ List.replicate i x) [x], mls_one]
  have a := Ap.pushM h (List.getElem?_set_self hk) (by rw [mls_len, mls_len, List.length_append]; omega) hown h1 hg hb hkeep
  rw [List.set_set] at a
  rw [e]
  exact a
-- a row of another kind, younger than the two lists, grows
theorem Ap.beside (h : Ap w0 B bH bM K cH cM H M w) {B2 t sz n : Nat} {u : Value} {us : List Value} (ho : w.ownsRow B2 t sz u n us) (hg : w.grownBy w' u.ownBlock) (h1 : 9 ≠ t) (h2 : 38 ≠ t) (b1 : bH < B2) (b2 : bM < B2) (b3 : w0.heap.size ≤ B2) : Ap w0 B bH bM K cH cM H M w' := by
  have lt := fun g e => (ho.lt g e).1
  refine ⟨h.rH.kept hg (.inr fun e => ?_), h.rM.kept hg (.inr fun e => ?_), ⟨fun c hc p hp => ?_, h.cH.apart⟩, ⟨fun c hc p hp => ?_, h.cM.apart⟩, grown_fr h.fr hg (fun g e => Nat.le_trans b3 (lt g e)), h.hB⟩
  · have := lt bH e.symm
    omega
  · have := lt bM e.symm
    omega
  · obtain ⟨m, hm⟩ := h.cH.own c hc p hp
    exact ⟨m, hm.kept hg (own_apart hm ho h1)⟩
  · obtain ⟨m, hm⟩ := h.cM.own c hc p hp
    exact ⟨m, hm.kept hg (own_apart hm ho h2)⟩
-- what the lists name, and what is read of it
theorem Ap.nameH (h : Ap w0 B bH bM K cH cM H M w) {k : Nat} {v : Value} {xs : List Value} {r : List (Value × List Value)} (hk : H[k]? = some ((v, xs) :: r)) : w.cell? ⟨bH, k, none⟩ = some v := by
  have e : (fsts H)[k]? = some v := by unfold fsts; rw [List.getElem?_map, hk]; rfl
  have hl := (List.getElem?_eq_some_iff.1 e).1
  have h1 := h.rH.1
  rw [World.ownsRow.cellAt h.rH k (by omega)]
  exact e
theorem Ap.nameM (h : Ap w0 B bH bM K cH cM H M w) {k : Nat} {v : Value} {xs : List Value} {r : List (Value × List Value)} (hk : M[k]? = some ((v, xs) :: r)) : w.cell? ⟨bM, k, none⟩ = some v := by
  have e : (fsts M)[k]? = some v := by unfold fsts; rw [List.getElem?_map, hk]; rfl
  have hl := (List.getElem?_eq_some_iff.1 e).1
  have h1 := h.rM.1
  rw [World.ownsRow.cellAt h.rM k (by omega)]
  exact e
theorem Ap.readH (h : Ap w0 B bH bM K cH cM H M w) {k : Nat} {c : List (Value × List Value)} {v : Value} {L : List ByteArray} (hk : H[k]? = some c) (hv : (v, L.map Value.string) ∈ c) : ReadsT w v L := by
  obtain ⟨m, hm⟩ := h.cH.own c (List.mem_iff_getElem?.2 ⟨k, hk⟩) _ hv
  exact own_readsT hm
theorem Ap.readM (h : Ap w0 B bH bM K cH cM H M w) {k : Nat} {c : List (Value × List Value)} {v : Value} {L : List Md} (hk : M[k]? = some c) (hv : (v, mls L) ∈ c) : ReadsM w v L := by
  obtain ⟨m, hm⟩ := h.cM.own c (List.mem_iff_getElem?.2 ⟨k, hk⟩) _ hv
  exact own_readsM hm
end
end Go.Proofs.YtmmbkfagchaocaaDoor.s5

namespace Go.Proofs.YtmmbkfagchaocaaDoor.s6
open Go.RowKit Go.PlainAid
open Go.Proofs.YtmmbkfagchaocaaDoor.pl Go.Proofs.YtmmbkfagchaocaaDoor.pg Go.Proofs.YtmmbkfagchaocaaDoor.cp Go.Proofs.YtmmbkfagchaocaaDoor.ka Go.Proofs.YtmmbkfagchaocaaDoor.na Go.Proofs.YtmmbkfagchaocaaDoor.oa Go.Proofs.YtmmbkfagchaocaaDoor.ob Go.Proofs.YtmmbkfagchaocaaDoor.s1 Go.Proofs.YtmmbkfagchaocaaDoor.s2 Go.Proofs.YtmmbkfagchaocaaDoor.s3 Go.Proofs.YtmmbkfagchaocaaDoor.s4 Go.Proofs.YtmmbkfagchaocaaDoor.s5
set_option linter.unusedVariables false

theorem convK (W : World) (k c : Nat) (hc : 97 + k = c) (hk : k ≤ 9) : (convert 60 9 (.slice (some ⟨W.heap.size, 0, none⟩) 1 1)).run Tryd.prog (W.alloc (.cells #[.int .u8 (c : Int)] 5)) = .ok (.string (mkA k)) (W.alloc (.cells #[.int .u8 (c : Int)] 5)) := by
  subst hc
  have hcv := own_conv (W.alloc (.cells #[.int .u8 ((97 + k : Nat) : Int)] 5)) W.heap.size (.slice (some ⟨W.heap.size, 0, none⟩) 1 1) [((97 + k : Nat) : Int)] 1 rfl (by omega) (World.ownsRow_lit W #[.int .u8 ((97 + k : Nat) : Int)] 1 (Nat.le_refl _) (by unfold maxLen; omega) rfl)
  rw [mark_str k hk] at hcv
  exact hcv
section
variable {w0 w w' : World} {B bH bM K cH cM : Nat} {H M : List (List (Value × List Value))}
theorem own_n {w : World} {B t sz m n cc : Nat} {a : Option Addr} {xs : List Value} (h : w.ownsRow B t sz (.slice a n cc) m xs) : m = n := by
  rcases h.2 with ⟨e, e2⟩ | ⟨g1, cap, cur, e, _⟩
  · rw [(Value.slice.inj e).2.1]; exact e2
  · exact (Value.slice.inj e).2.1.symm
theorem slotH (h : Ap w0 B bH bM K cH cM H M w) {k n cc i : Nat} {a : Option Addr} {xs : List Value} (hk : H[k]? = some [(.slice a n cc, xs)]) (hi : i < n) : ∃ g, a = some ⟨g, 0, none⟩ ∧ (∃ u, w.cell? ⟨g, i, none⟩ = some u) ∧ w.frozen? ⟨g, i, none⟩ = false := by
  obtain ⟨m, hown⟩ := h.cH.own _ (List.mem_iff_getElem?.2 ⟨k, hk⟩) _ (List.mem_singleton.2 rfl)
  obtain rfl := own_n hown
  obtain ⟨g, rfl⟩ : ∃ g, a = some ⟨g, 0, none⟩ := by
    rcases hown.2 with ⟨e, e2⟩ | ⟨g, cap, cur, e, _⟩
    · omega
    · exact ⟨g, (Value.slice.inj e).1⟩
  have hl : xs.length = m * 1 := hown.1
  exact ⟨g, rfl, ⟨xs[i]'(by omega), by rw [World.ownsRow.cellAt hown i (by omega)]; exact List.getElem?_eq_getElem _⟩, World.ownsRow.frozenAt hown i⟩
theorem slotM (h : Ap w0 B bH bM K cH cM H M w) {k n cc i : Nat} {a : Option Addr} {xs : List Value} (hk : M[k]? = some [(.slice a n cc, xs)]) (hi : i < n) : ∃ g, a = some ⟨g, 0, none⟩ ∧ ((∃ u, w.cell? ⟨g, i * 3, none⟩ = some u) ∧ w.frozen? ⟨g, i * 3, none⟩ = false) ∧ ((∃ u, w.cell? ⟨g, i * 3 + 1, none⟩ = some u) ∧ w.frozen? ⟨g, i * 3 + 1, none⟩ = false) ∧ ((∃ u, w.cell? ⟨g, i * 3 + 2, none⟩ = some u) ∧ w.frozen? ⟨g, i * 3 + 2, none⟩ = false) := by
  obtain ⟨m, hown⟩ := h.cM.own _ (List.mem_iff_getElem?.2 ⟨k, hk⟩) _ (List.mem_singleton.2 rfl)
  obtain rfl := own_n hown
  obtain ⟨g, rfl⟩ : ∃ g, a = some ⟨g, 0, none⟩ := by
    rcases hown.2 with ⟨e, e2⟩ | ⟨g, cap, cur, e, _⟩
    · omega
    · exact ⟨g, (Value.slice.inj e).1⟩
  have hl : xs.length = m * 3 := hown.1
  have f : ∀ j, j < m * 3 → (∃ u, w.cell? ⟨g, j, none⟩ = some u) ∧ w.frozen? ⟨g, j, none⟩ = false := fun j hj => ⟨⟨xs[j]'(by omega), by rw [World.ownsRow.cellAt hown j hj]; exact List.getElem?_eq_getElem _⟩, World.ownsRow.frozenAt hown j⟩
  exact ⟨g, rfl, f _ (by omega), f _ (by omega), f _ (by omega)⟩
theorem formH (h : Ap w0 B bH bM K cH cM H M w) {k0 i0 : Nat} (f : FH K k0 i0 H) {k : Nat} (hk : k < K) : ∃ a cc, ∃ L : List ByteArray, H[k]? = some [(.slice a L.length cc, L.map Value.string)] ∧ L.length ≤ 1000000 := by
  obtain ⟨c, hc⟩ : ∃ c, H[k]? = some c := ⟨_, List.getElem?_eq_getElem (by rw [f.len]; exact hk)⟩
  obtain ⟨v, L, rfl, hz, _⟩ := f.all k c hc
  obtain ⟨m, hown⟩ := h.cH.own _ (List.mem_iff_getElem?.2 ⟨k, hc⟩) _ (List.mem_singleton.2 rfl)
  obtain ⟨a, cc, e⟩ := own_formS hown
  have e' : v = .slice a m cc := e
  have hl : (L.map Value.string).length = m * 1 := hown.1
  rw [List.length_map, Nat.mul_one] at hl
  subst hl
  subst e'
  exact ⟨a, cc, L, hc, hz⟩
theorem formM (h : Ap w0 B bH bM K cH cM H M w) {k0 i0 : Nat} (f : FM K k0 i0 M) {k : Nat} (hk : k < K) : ∃ a cc, ∃ L : List Md, M[k]? = some [(.slice a L.length cc, mls L)] ∧ L.length ≤ 1000000 := by
  obtain ⟨c, hc⟩ : ∃ c, M[k]? = some c := ⟨_, List.getElem?_eq_getElem (by rw [f.len]; exact hk)⟩
  obtain ⟨v, L, rfl, hz, _⟩ := f.all k c hc
  obtain ⟨m, hown⟩ := h.cM.own _ (List.mem_iff_getElem?.2 ⟨k, hc⟩) _ (List.mem_singleton.2 rfl)
  obtain ⟨a, cc, e⟩ := own_formS hown
  have e' : v = .slice a m cc := e
  have hl : (mls L).length = m * 3 := hown.1
  rw [mls_len] at hl
  have hl : L.length = m := by omega
  subst hl
  subst e'
  exact ⟨a, cc, L, hc, hz⟩
end
end Go.Proofs.YtmmbkfagchaocaaDoor.s6

namespace Go.Proofs.YtmmbkfagchaocaaDoor.s8
open Go.RowKit Go.PlainAid
open Go.Proofs.YtmmbkfagchaocaaDoor.pl Go.Proofs.YtmmbkfagchaocaaDoor.pg Go.Proofs.YtmmbkfagchaocaaDoor.cp Go.Proofs.YtmmbkfagchaocaaDoor.ka Go.Proofs.YtmmbkfagchaocaaDoor.na Go.Proofs.YtmmbkfagchaocaaDoor.oa Go.Proofs.YtmmbkfagchaocaaDoor.ob Go.Proofs.YtmmbkfagchaocaaDoor.s1 Go.Proofs.YtmmbkfagchaocaaDoor.s2 Go.Proofs.YtmmbkfagchaocaaDoor.s3 Go.Proofs.YtmmbkfagchaocaaDoor.s4 Go.Proofs.YtmmbkfagchaocaaDoor.s5 Go.Proofs.YtmmbkfagchaocaaDoor.s6
set_option linter.unusedVariables false

theorem hiSS : (Tryd.prog.info? 22).map (fun i => (i.zero, i.size, i.bytes)) = some (some (.slice none 0 0), 1, 24) := by kernel_rfl
theorem hiMM : (Tryd.prog.info? 25).map (fun i => (i.zero, i.size, i.bytes)) = some (some (.slice none 0 0), 1, 24) := by kernel_rfl
theorem und1 : Tryd.prog.underlying 56 = some (.slice 22) := Tryd.underlying56
theorem und2 : Tryd.prog.underlying 77 = some (.slice 25) := Tryd.underlying77
-- the two lists of the longer ones
structure Ro (B2 : Nat) (mv lv : Value) (k : Nat) (Y Z : List Value) (w : World) : Prop where
  a : w.ownsRow B2 22 1 mv k Y
  b : w.ownsRow B2 25 1 lv k Z
  s : B2 ≤ w.heap.size
section
variable {w0 w w' : World} {B B2 bH bM K cH cM k : Nat} {H M : List (List (Value × List Value))} {mv lv : Value} {Y Z : List Value}
theorem Ro.later (h : Ro B2 mv lv k Y Z w) (b : Below w.heap.size w w') : Ro B2 mv lv k Y Z w' := ⟨own_later h.a b, own_later h.b b, Nat.le_trans h.s b.size⟩
theorem Ro.kept (h : Ro B2 mv lv k Y Z w) {t sz n : Nat} {u : Value} {us : List Value} (ho : w.ownsRow B t sz u n us) (hg : w.grownBy w' u.ownBlock) (h1 : 22 ≠ t) (h2 : 25 ≠ t) : Ro B2 mv lv k Y Z w' := ⟨h.a.kept hg (own_apart h.a ho h1), h.b.kept hg (own_apart h.b ho h2), Nat.le_trans h.s hg.size⟩
theorem low (h : Ap w0 B bH bM K cH cM H M w) : B ≤ w.heap.size := by
  have := h.rH.lt bH rfl
  omega
theorem formGH (h : Ap w0 B bH bM K cH cM H M w) (f : GH K k H Y) (hk : k < K) : ∃ a cc, ∃ L : List ByteArray, H[k]? = some [(.slice a L.length cc, L.map Value.string)] ∧ L.length ≤ 1000000 ∧ ∀ x ∈ L, x = mkK k := by
  obtain ⟨c, hc⟩ : ∃ c, H[k]? = some c := ⟨_, List.getElem?_eq_getElem (by rw [f.len]; exact hk)⟩
  obtain ⟨v, L, rfl, hz, hm⟩ := f.old k c hc (Nat.le_refl _)
  obtain ⟨m, hown⟩ := h.cH.own _ (List.mem_iff_getElem?.2 ⟨k, hc⟩) _ (List.mem_singleton.2 rfl)
  obtain ⟨a, cc, e⟩ := own_formS hown
  have e' : v = .slice a m cc := e
  have hl : (L.map Value.string).length = m * 1 := hown.1
  rw [List.length_map, Nat.mul_one] at hl
  subst hl
  subst e'
  exact ⟨a, cc, L, hc, hz, hm⟩
theorem formGM (h : Ap w0 B bH bM K cH cM H M w) (f : GM K k M Z) (hk : k < K) : ∃ a cc, ∃ L : List Md, M[k]? = some [(.slice a L.length cc, mls L)] ∧ L.length ≤ 1000000 ∧ ∀ x ∈ L, x.2 = mkK k := by
  obtain ⟨c, hc⟩ : ∃ c, M[k]? = some c := ⟨_, List.getElem?_eq_getElem (by rw [f.len]; exact hk)⟩
  obtain ⟨v, L, rfl, hz, hm⟩ := f.old k c hc (Nat.le_refl _)
  obtain ⟨m, hown⟩ := h.cM.own _ (List.mem_iff_getElem?.2 ⟨k, hc⟩) _ (List.mem_singleton.2 rfl)
  obtain ⟨a, cc, e⟩ := own_formS hown
  have e' : v = .slice a m cc := e
  have hl : (mls L).length = m * 3 := hown.1
  rw [mls_len] at hl
  have hl : L.length = m := by omega
  subst hl
  subst e'
  exact ⟨a, cc, L, hc, hz, hm⟩
-- the row that is being made longer
theorem rowH {v y : Value} {L0 : List Value} {L : List ByteArray} {i : Nat} {x : ByteArray} (h : Ap w0 B bH bM K cH cM (H.set k [(v, L0), (y, (L ++ List.replicate i x).map Value.string)]) M w) (hk : k < H.length) : w.ownsRow B 9 1 y (L.length + i) ((L ++ List.replicate i x).map Value.string) := by
  obtain ⟨m, hown⟩ := h.cH.own _ (List.mem_iff_getElem?.2 ⟨k, List.getElem?_set_self hk⟩) (y, (L ++ List.replicate i x).map Value.string) (by simp)
  have hl : ((L ++ List.replicate i x).map Value.string).length = m * 1 := hown.1
  rw [List.length_map, List.length_append, List.length_replicate, Nat.mul_one] at hl
  subst hl
  exact hown
theorem rowM {v y : Value} {L0 : List Value} {L : List Md} {i : Nat} {x : Md} (h : Ap w0 B bH bM K cH cM H (M.set k [(v, L0), (y, mls (L ++ List.replicate i x))]) w) (hk : k < M.length) : w.ownsRow B 38 3 y (L.length + i) (mls (L ++ List.replicate i x)) := by
  obtain ⟨m, hown⟩ := h.cM.own _ (List.mem_iff_getElem?.2 ⟨k, List.getElem?_set_self hk⟩) (y, mls (L ++ List.replicate i x)) (by simp)
  have hl : (mls (L ++ List.replicate i x)).length = m * 3 := hown.1
  rw [mls_len, List.length_append, List.length_replicate] at hl
  have hl : L.length + i = m := by omega
  subst hl
  exact hown
end
theorem new1 (w : World) (u : Value) (t : Nat) : ∀ j z, [u][j]? = some z → (w.alloc (.cells #[u] t)).cell? ((⟨w.heap.size, 0, none⟩ : Addr).add j) = some z := by
  intro j z h
  cases j with
  | zero =>
    obtain rfl : u = z := by simpa using h
    rw [show (⟨w.heap.size, 0, none⟩ : Addr).add 0 = ⟨w.heap.size, 0, none⟩ from rfl, World.cell?_alloc_at _ _ _ _ rfl]
    rfl
  | succ j => simp at h
theorem new3 (w : World) (x : Md) (t : Nat) : ∀ j z, (ml x)[j]? = some z → (w.alloc (.cells #[.int .i64 (x.1.1 : Nat), .int .i64 (x.1.2 : Nat), .string x.2] t)).cell? ((⟨w.heap.size, 0, none⟩ : Addr).add j) = some z := by
  intro j z h
  rw [show (⟨w.heap.size, 0, none⟩ : Addr).add j = ⟨w.heap.size, j, none⟩ from by rw [Addr.add_mid, Nat.zero_add], World.cell?_alloc_at _ _ _ _ rfl, ← Array.getElem?_toList]
  exact h
end Go.Proofs.YtmmbkfagchaocaaDoor.s8
