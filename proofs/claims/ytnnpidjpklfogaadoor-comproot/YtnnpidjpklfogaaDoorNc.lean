import Derived.Test.YtnnpidjpklfogaaDoorNb
namespace Go.Proofs.YtnnpidjpklfogaaDoor.nc
open Go.RowKit Go.PlainAid
open Go.Proofs.YtnnpidjpklfogaaDoor.pl Go.Proofs.YtnnpidjpklfogaaDoor.pi Go.Proofs.YtnnpidjpklfogaaDoor.pj Go.Proofs.YtnnpidjpklfogaaDoor.rf Go.Proofs.YtnnpidjpklfogaaDoor.ca Go.Proofs.YtnnpidjpklfogaaDoor.cb Go.Proofs.YtnnpidjpklfogaaDoor.cp Go.Proofs.YtnnpidjpklfogaaDoor.cs Go.Proofs.YtnnpidjpklfogaaDoor.ka Go.Proofs.YtnnpidjpklfogaaDoor.kb Go.Proofs.YtnnpidjpklfogaaDoor.ga Go.Proofs.YtnnpidjpklfogaaDoor.gb Go.Proofs.YtnnpidjpklfogaaDoor.na Go.Proofs.YtnnpidjpklfogaaDoor.nb
set_option linter.unusedVariables false

theorem cov_in (p hi : Nat) : ∀ a ∈ cov p hi, p ≤ a.2 * 2 ^ a.1 ∧ (a.2 + 1) * 2 ^ a.1 ≤ hi ∧ a.1 ≤ 62 := by
  refine cov_fold (p := p) (hi := hi) (fun p hi => ∀ a ∈ cov p hi, p ≤ a.2 * 2 ^ a.1 ∧ (a.2 + 1) * 2 ^ a.1 ≤ hi ∧ a.1 ≤ 62) ?_ ?_
  · intro p h a ha
    rw [cov_end h] at ha
    cases ha
  · intro p k hlt hl ih a ha
    rw [cov_at hlt hl] at ha
    rcases List.mem_cons.1 ha with rfl | ha
    · have e : p / 2 ^ k * 2 ^ k = p := Nat.div_mul_cancel hl.2.1
      refine ⟨by show p ≤ p / 2 ^ k * 2 ^ k; omega, ?_, hl.1⟩
      show (p / 2 ^ k + 1) * 2 ^ k ≤ hi
      rw [Nat.add_mul, e, Nat.one_mul]
      have := hl.2.2.1
      omega
    · have := ih a ha
      exact ⟨by have := p2 k; omega, this.2⟩
-- the hash of each node over leaves' hashes
def HL (wd : Int) (f : Nat → ByteArray) : Nat → Nat → ByteArray
  | 0, i => f i
  | k + 1, i => NF wd (HL wd f k (2 * i)) (HL wd f k (2 * i + 1))
theorem HL_up (wd : Int) (f : Nat → ByteArray) : ∀ k i, k < 62 → HL wd f (k + 1) i = NF wd (HL wd f k (2 * i)) (HL wd f k (2 * i + 1)) := fun _ _ _ => rfl
theorem HL_size {wd : Int} {f : Nat → ByteArray} (hf : ∀ i, (f i).size = wid wd) : ∀ k i, (HL wd f k i).size = wid wd
  | 0, i => hf i
  | _ + 1, _ => cutS_size _ _
-- the hashes of a range's pieces
def covH (wd : Int) (f : Nat → ByteArray) (lo hi : Nat) : List ByteArray := (cov lo hi).map fun a => HL wd f a.1 a.2
theorem covH_len (wd : Int) (f : Nat → ByteArray) (lo hi : Nat) : (covH wd f lo hi).length = (cov lo hi).length := List.length_map _
theorem covH_none (wd : Int) (f : Nat → ByteArray) (p : Nat) : covH wd f p p = [] := by unfold covH; rw [cov_end (Nat.lt_irrefl p)]; rfl
theorem covH_good {wd : Int} {f : Nat → ByteArray} (hf : ∀ i, (f i).size = wid wd) {lo hi : Nat} (h1 : lo ≤ hi) (h2 : hi ≤ 4611686018427387904) : GoodF wd lo hi (covH wd f lo hi) := by
  refine ⟨⟨by omega, by omega, by omega⟩, ?_, ?_⟩
  · rw [covI_nat h1 h2, covH_len]
  · intro h hh
    obtain ⟨a, _, rfl⟩ := List.mem_map.1 hh
    exact HL_size hf _ _
theorem opened_own (wd : Int) (f : Nat → ByteArray) {lo hi : Nat} (h1 : lo ≤ hi) (h2 : hi ≤ 4611686018427387904) : Own (HL wd f) (opened lo hi (covH wd f lo hi)) := by
  unfold opened covH
  rw [covI_nat h1 h2]
  intro n hn
  obtain ⟨j, hj⟩ := List.mem_iff_getElem?.1 hn
  rw [List.getElem?_zip_eq_some] at hj
  obtain ⟨e1, e2⟩ := hj
  rw [List.getElem?_map, e1] at e2
  simpa using e2.symm
theorem own_rev {H : Nat → Nat → ByteArray} {ns : List (Nd ByteArray)} (h : Own H ns) : Own H ns.reverse := fun n hn => h n (List.mem_reverse.1 hn)
-- a leaf pushed behind the true ones
theorem push_true {wd : Int} {f : Nat → ByteArray} (hf : ∀ i, (f i).size = wid wd) {lo hi : Nat} (h1 : lo ≤ hi) (h2 : hi < 4611686018427387904) :
    labs (pushR wd lo hi (covH wd f lo hi) (f hi)).1 = covH wd f lo (hi + 1) ∧ (pushR wd lo hi (covH wd f lo hi) (f hi)).2.length + (cov lo (hi + 1)).length = (cov lo hi).length + 1 ∧ ∀ t y, (pushR wd lo hi (covH wd f lo hi) (f hi)).2[t]? = some y → y = ((t + 1, hi / 2 ^ (t + 1)), HL wd f (t + 1) (hi / 2 ^ (t + 1))) ∧ t < 62 := by
  have g := covH_good hf h1 (Nat.le_of_lt h2)
  have hfst := opened_fst g
  rw [covI_nat h1 (by omega)] at hfst
  have ho := own_join (NF wd) (HL_up wd f) (opened lo hi (covH wd f lo hi)).reverse ((0, (hi : Int).toNat), f hi) (own_rev (opened_own wd f h1 (by omega))) (by simp [HL])
  have hj := join_cov (NF wd) (p := hi) (k := 0) (by omega) (Nat.one_dvd _) (by simp; omega) ((0, (hi : Int).toNat), f hi) (by simp) lo h1 _ hfst
  have hc := joinR_count (NF wd) (opened lo hi (covH wd f lo hi)).reverse ((0, (hi : Int).toNat), f hi)
  rw [Nat.pow_zero] at hj
  refine ⟨?_, ?_, ?_⟩
  · unfold labs pushR
    rw [own_labels (H := HL wd f) (own_rev ho.1), hj]
    rfl
  · have e1 := congrArg List.length hj
    have e2 := congrArg List.length hfst
    rw [List.length_map, List.length_reverse] at e1
    rw [List.length_map] at e2
    rw [List.length_reverse, e2] at hc
    unfold pushR
    omega
  · intro t y hy
    obtain ⟨g1, g2⟩ := joinR_whole (NF wd) _ _ t y hy
    have hm := ho.2 y (List.mem_of_getElem? hy)
    simp only [Int.toNat_natCast, Nat.zero_add] at g1 g2
    refine ⟨?_, g2⟩
    rw [g1] at hm
    exact Prod.ext g1 hm
theorem merge_true {wd : Int} {f : Nat → ByteArray} (hf : ∀ i, (f i).size = wid wd) {lo p hi : Nat} (h1 : lo ≤ p) (h2 : p ≤ hi) (h3 : hi ≤ 4611686018427387904) :
    labs (mergeR wd lo p (covH wd f lo p) p hi (covH wd f p hi)).1 = covH wd f lo hi ∧ (mergeR wd lo p (covH wd f lo p) p hi (covH wd f p hi)).2.length + (cov lo hi).length = (cov lo p).length + (cov p hi).length := by
  have g := covH_good hf h1 (by omega)
  have g' := covH_good hf h2 h3
  have hfst := opened_fst g
  have hfst' := opened_fst g'
  rw [covI_nat h1 (by omega)] at hfst
  rw [covI_nat h2 h3] at hfst'
  have ho := own_run (NF wd) (HL_up wd f) (opened p hi (covH wd f p hi)) (opened lo p (covH wd f lo p)).reverse (own_rev (opened_own wd f h1 (by omega))) (opened_own wd f h2 h3)
  have hj := run_cov (NF wd) (hi := hi) (by rw [p62]; omega) lo p h1 h2 _ _ hfst hfst'
  have hc := runR_count (NF wd) (opened p hi (covH wd f p hi)) (opened lo p (covH wd f lo p)).reverse
  refine ⟨?_, ?_⟩
  · unfold labs mergeR
    rw [own_labels (H := HL wd f) (own_rev ho.1), hj]
    rfl
  · have e1 := congrArg List.length hj
    have e2 := congrArg List.length hfst
    have e3 := congrArg List.length hfst'
    rw [List.length_map, List.length_reverse] at e1
    rw [List.length_map] at e2 e3
    rw [List.length_reverse, e2, e3] at hc
    unfold mergeR
    omega
-- the nodes' hashes are roots
def leafAt (wd : Int) (L : List ByteArray) (q : Nat) (j : Nat) : ByteArray := L.getD (j - q) (EF wd)
theorem leafAt_size {wd : Int} {L : List ByteArray} (hL : ∀ x ∈ L, x.size = wid wd) (q : Nat) : ∀ j, (leafAt wd L q j).size = wid wd := by
  intro j
  unfold leafAt
  rw [List.getD_eq_getElem?_getD]
  by_cases h : j - q < L.length
  · rw [List.getElem?_eq_getElem h]
    exact hL _ (List.getElem_mem h)
  · rw [List.getElem?_eq_none (by omega)]
    exact cutS_size _ _
theorem HL_root (wd : Int) (L : List ByteArray) (q : Nat) : ∀ k i, q ≤ i * 2 ^ k → (i + 1) * 2 ^ k ≤ q + L.length → HL wd (leafAt wd L q) k i = rootP (EF wd) (NF wd) ((L.drop (i * 2 ^ k - q)).take (2 ^ k))
  | 0, i, h0, h1 => by
    simp only [Nat.pow_zero, Nat.mul_one] at h0 h1 ⊢
    show L.getD (i - q) (EF wd) = _
    have hlt : i - q < L.length := by omega
    rw [List.drop_eq_getElem_cons hlt, List.take_succ_cons, List.take_zero, rootP_one, List.getD_eq_getElem?_getD, List.getElem?_eq_getElem hlt]
    rfl
  | k + 1, i, h0, h1 => by
    have hp := p2 k
    have e2 : 2 ^ (k + 1) = 2 * 2 ^ k := p2s k
    have e3 : i * 2 ^ (k + 1) = 2 * i * 2 ^ k := by rw [e2, ← Nat.mul_assoc, Nat.mul_comm i 2]
    have e4 : (2 * i + 1) * 2 ^ k = 2 * i * 2 ^ k + 2 ^ k := by rw [Nat.add_mul, Nat.one_mul]
    have e5 : (2 * i + 1 + 1) * 2 ^ k = 2 * i * 2 ^ k + 2 * 2 ^ k := by rw [Nat.add_mul, e4, Nat.one_mul]; omega
    have e6 : (i + 1) * 2 ^ (k + 1) = 2 * i * 2 ^ k + 2 * 2 ^ k := by rw [Nat.add_mul, e3, Nat.one_mul, e2]
    rw [e3] at h0
    rw [e6] at h1
    have hl := HL_root wd L q k (2 * i) h0 (by rw [e4]; omega)
    have hr := HL_root wd L q k (2 * i + 1) (by rw [e4]; omega) (by rw [e5]; omega)
    show NF wd (HL wd (leafAt wd L q) k (2 * i)) (HL wd (leafAt wd L q) k (2 * i + 1)) = _
    have hlen : ((L.drop (i * 2 ^ (k + 1) - q)).take (2 ^ (k + 1))).length = 2 ^ (k + 1) := by rw [List.length_take, List.length_drop, e3]; omega
    rw [rootP_two (EF wd) (NF wd) (j := k) (by rw [hlen, e2]; omega) (by rw [hlen]; omega), hl, hr, e3, List.take_take, List.drop_take, List.drop_drop, e4, e2]
    rw [show min (2 ^ k) (2 * 2 ^ k) = 2 ^ k by omega, show 2 * 2 ^ k - 2 ^ k = 2 ^ k by omega, show 2 * i * 2 ^ k + 2 ^ k - q = 2 * i * 2 ^ k - q + 2 ^ k by omega]
-- leaves of a list
def LX (wd : Int) (xs : List ByteArray) : List ByteArray := xs.map (LF wd)
theorem LX_size (wd : Int) (xs : List ByteArray) : ∀ x ∈ LX wd xs, x.size = wid wd := by
  intro x hx
  obtain ⟨y, _, rfl⟩ := List.mem_map.1 hx
  exact cutS_size _ _
theorem LX_len (wd : Int) (xs : List ByteArray) : (LX wd xs).length = xs.length := List.length_map _
theorem HL_node (wd : Int) (xs : List ByteArray) (k i : Nat) (h : (i + 1) * 2 ^ k ≤ xs.length) : HL wd (leafAt wd (LX wd xs) 0) k i = RT wd ((xs.drop (i * 2 ^ k)).take (2 ^ k)) := by
  rw [HL_root wd (LX wd xs) 0 k i (Nat.zero_le _) (by rw [LX_len]; omega)]
  unfold RT LX
  rw [Nat.sub_zero, List.map_take, List.map_drop]
theorem fold_root (wd : Int) (xs : List ByteArray) (n : Nat) (hn : n ≤ xs.length) (hb : n ≤ 4611686018427387904) : foldP (EF wd) (NF wd) (covH wd (leafAt wd (LX wd xs) 0) 0 n) = RT wd (xs.take n) := by
  have hl : ((LX wd xs).take n).length = n := by rw [List.length_take, LX_len]; omega
  have h := fold_all (EF wd) (NF wd) ((LX wd xs).take n) (by rw [hl]; omega)
  rw [hl] at h
  unfold RT
  rw [List.map_take]
  rw [show (xs.map (LF wd)).take n = (LX wd xs).take n from rfl, ← h]
  congr 1
  unfold covH
  apply List.map_congr_left
  intro a ha
  obtain ⟨g1, g2, g3⟩ := cov_in 0 n a ha
  rw [HL_root wd (LX wd xs) 0 a.1 a.2 (Nat.zero_le _) (by rw [LX_len]; omega), Nat.sub_zero]
  congr 1
  unfold piece
  have e : (a.2 + 1) * 2 ^ a.1 = a.2 * 2 ^ a.1 + 2 ^ a.1 := by rw [Nat.add_mul, Nat.one_mul]
  rw [List.drop_take, List.take_take, Nat.min_eq_left (by omega)]
end Go.Proofs.YtnnpidjpklfogaaDoor.nc
