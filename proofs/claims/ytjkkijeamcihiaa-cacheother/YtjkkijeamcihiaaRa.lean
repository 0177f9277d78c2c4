import Derived.Test.YtjkkijeamcihiaaKp
namespace Go.Proofs.Ytjkkijeamcihiaa.ra
open Go.RowKit Go.PlainAid
open Go.Proofs.Ytjkkijeamcihiaa.kp
set_option linter.unusedVariables false
set_option linter.unusedSimpArgs false

-- a ring of links: the end's address, then the links' blocks, the newest first
def adr (e : Addr) (bs : List Nat) : Nat → Addr
  | 0 => e
  | j + 1 => (bs[j]?).elim e (fun b => ⟨b, 0, none⟩)
def pv (n j : Nat) : Nat := if j = 0 then n else j - 1
def sh (a : Addr) (d : Nat) : Addr := ⟨a.block, a.off + d, none⟩
def pt (a : Addr) : Value := .pointer (some a)
structure Ring (d : Nat) (w : World) (e : Addr) (bs : List Nat) : Prop where
  nd : bs.Nodup
  ne : e.block ∉ bs
  nw : ∀ j, j ≤ bs.length → w.cell? (sh (adr e bs j) d) = some (pt (adr e bs (pv bs.length j)))
  ol : ∀ j, j ≤ bs.length → w.cell? (sh (adr e bs j) (d + 1)) = some (pt (adr e bs (j + 1)))
  fn : ∀ j, j ≤ bs.length → w.frozen? (sh (adr e bs j) d) = false
  fo : ∀ j, j ≤ bs.length → w.frozen? (sh (adr e bs j) (d + 1)) = false
theorem adr_in {e : Addr} {bs : List Nat} {j : Nat} (h : j < bs.length) : adr e bs (j + 1) = ⟨bs[j], 0, none⟩ := by simp [adr, h]
theorem adr_out {e : Addr} {bs : List Nat} {j : Nat} (h : bs.length ≤ j) : adr e bs (j + 1) = e := by simp [adr, h]
theorem adr_last (e : Addr) (bs : List Nat) : adr e bs (bs.length + 1) = e := adr_out (Nat.le_refl _)
theorem blk_inj {e : Addr} {bs : List Nat} (nd : bs.Nodup) (ne : e.block ∉ bs) {i j : Nat} (hi : i ≤ bs.length) (hj : j ≤ bs.length) (h : (adr e bs i).block = (adr e bs j).block) : i = j := by
  cases i with
  | zero =>
    cases j with
    | zero => rfl
    | succ j =>
      rw [adr_in hj] at h
      exact absurd (h ▸ List.getElem_mem _) ne
  | succ i =>
    cases j with
    | zero =>
      rw [adr_in hi] at h
      exact absurd (h.symm ▸ List.getElem_mem hi) ne
    | succ j =>
      rw [adr_in hi, adr_in hj] at h
      have : i = j := by
        have h : bs[i] = bs[j] := h
        have a1 := nd.idxOf_getElem i hi
        rw [h, nd.idxOf_getElem j hj] at a1
        exact a1.symm
      omega
theorem sh_inj {e : Addr} {bs : List Nat} (nd : bs.Nodup) (ne : e.block ∉ bs) {i j x y : Nat} (hi : i ≤ bs.length) (hj : j ≤ bs.length) (h : sh (adr e bs i) x = sh (adr e bs j) y) : i = j ∧ x = y := by
  have h1 := congrArg Addr.block h
  have h2 := congrArg Addr.off h
  have := blk_inj nd ne hi hj h1
  subst this
  simp only [sh] at h2
  omega
theorem sh_ne {e : Addr} {bs : List Nat} (nd : bs.Nodup) (ne : e.block ∉ bs) {i j x y : Nat} (hi : i ≤ bs.length) (hj : j ≤ bs.length) (h : i ≠ j ∨ x ≠ y) : sh (adr e bs i) x ≠ sh (adr e bs j) y := by
  intro q
  have := sh_inj nd ne hi hj q
  omega
-- a link leaves
theorem adr_erase {e : Addr} {bs : List Nat} {i : Nat} (hi : i < bs.length) (t : Nat) : adr e (bs.eraseIdx i) t = if t ≤ i then adr e bs t else adr e bs (t + 1) := by
  cases t with
  | zero => simp [adr]
  | succ t =>
    simp only [adr, List.getElem?_eraseIdx]
    by_cases h : t < i
    · rw [if_pos h, if_pos (by omega)]
    · rw [if_neg h, if_neg (by omega)]
theorem Ring.leave {d : Nat} {w : World} {e : Addr} {bs : List Nat} (h : Ring d w e bs) {i : Nat} (hi : i < bs.length) :
    Ring d ((w.setCell (sh (adr e bs i) (d + 1)) (pt (adr e bs (i + 2)))).setCell (sh (adr e bs (i + 2)) d) (pt (adr e bs i))) e (bs.eraseIdx i) := by
  obtain ⟨q, hq, hqn, hq0⟩ : ∃ q, adr e bs (i + 2) = adr e bs q ∧ q ≤ bs.length ∧ (q = i + 2 ∨ (q = 0 ∧ i + 1 = bs.length)) := by
    by_cases h1 : i + 1 < bs.length
    · exact ⟨i + 2, rfl, by omega, .inl rfl⟩
    · exact ⟨0, adr_out (by omega), by omega, .inr ⟨rfl, by omega⟩⟩
  have hl : (bs.eraseIdx i).length = bs.length - 1 := List.length_eraseIdx_of_lt hi
  have hnd := h.nd
  have hne := h.ne
  have old : ∀ t, t ≤ bs.length - 1 → ∃ s, adr e (bs.eraseIdx i) t = adr e bs s ∧ s ≤ bs.length ∧ s ≠ i + 1 ∧ ((s = t ∧ t ≤ i) ∨ (s = t + 1 ∧ i < t)) := by
    intro t ht
    rw [adr_erase hi]
    by_cases h1 : t ≤ i
    · exact ⟨t, if_pos h1, by omega, by omega, .inl ⟨rfl, h1⟩⟩
    · exact ⟨t + 1, if_neg h1, by omega, by omega, .inr ⟨rfl, by omega⟩⟩
  have co : ∀ (W : World) (i j x y : Nat) (v : Value), i ≤ bs.length → j ≤ bs.length → (i ≠ j ∨ x ≠ y) → (W.setCell (sh (adr e bs i) x) v).cell? (sh (adr e bs j) y) = W.cell? (sh (adr e bs j) y) := fun W i j x y v h1 h2 h3 => World.cell?_setCell_other _ _ _ _ (sh_ne hnd hne h1 h2 h3)
  refine ⟨hnd.eraseIdx i, fun hm => hne (List.mem_of_mem_eraseIdx hm), ?_, ?_, ?_, ?_⟩
  · intro t ht
    rw [hl] at ht ⊢
    obtain ⟨s, hs, hs1, hs2, hs3⟩ := old t ht
    rw [hs, hq]
    by_cases e1 : s = q
    · subst e1
      rw [World.cell?_setCell_same (u := pt (adr e bs (pv bs.length s)))]
      · rw [adr_erase hi]
        congr 3
        have : pv (bs.length - 1) t = i := by unfold pv; split <;> omega
        rw [this, if_pos (Nat.le_refl _)]
      · rw [co _ i s (d + 1) d _ (by omega) hs1 (by omega)]
        exact h.nw s hs1
    · rw [co _ q s d d _ hqn hs1 (by omega), co _ i s (d + 1) d _ (by omega) hs1 (by omega), h.nw s hs1, adr_erase hi]
      congr 2
      unfold pv
      by_cases h0 : t = 0
      · have : s = 0 := by omega
        subst this h0
        rw [if_pos rfl, if_pos rfl, if_neg (by omega)]
        congr 1
        omega
      · rw [if_neg (by omega), if_neg h0]
        by_cases h1 : t ≤ i
        · rw [if_pos (by omega)]
          congr 1
          omega
        · rw [if_neg (by omega)]
          congr 1
          omega
  · intro t ht
    rw [hl] at ht
    obtain ⟨s, hs, hs1, hs2, hs3⟩ := old t ht
    rw [hs, hq, co _ q s d (d + 1) _ hqn hs1 (by omega)]
    by_cases e1 : s = i
    · subst e1
      rw [World.cell?_setCell_same _ _ _ (h.ol s hs1), adr_erase hi, if_neg (by omega), ← hq]
      congr 3
      omega
    · rw [co _ i s (d + 1) (d + 1) _ (by omega) hs1 (by omega), h.ol s hs1, adr_erase hi]
      congr 2
      by_cases h1 : t ≤ i
      · rw [if_pos (by omega)]
        congr 1
        omega
      · rw [if_neg (by omega)]
        congr 1
        omega
  · intro t ht
    rw [hl] at ht
    obtain ⟨s, hs, hs1, _, _⟩ := old t ht
    rw [hs, World.frozen?_setCell, World.frozen?_setCell]
    exact h.fn s hs1
  · intro t ht
    rw [hl] at ht
    obtain ⟨s, hs, hs1, _, _⟩ := old t ht
    rw [hs, World.frozen?_setCell, World.frozen?_setCell]
    exact h.fo s hs1
-- a link enters
def lk (b : Nat) : Addr := ⟨b, 0, none⟩
theorem adr_cons (e : Addr) (b : Nat) (bs : List Nat) (t : Nat) : adr e (b :: bs) (t + 1) = if t = 0 then lk b else adr e bs t := by
  cases t with
  | zero => rfl
  | succ t => rfl
theorem Ring.enter {d : Nat} {w : World} {e : Addr} {bs : List Nat} (h : Ring d w e bs) {b : Nat} (hb : b ∉ bs) (hbe : b ≠ e.block)
    {u v : Value} (hu : w.cell? (sh (lk b) d) = some u) (hv : w.cell? (sh (lk b) (d + 1)) = some v) (fu : w.frozen? (sh (lk b) d) = false) (fv : w.frozen? (sh (lk b) (d + 1)) = false) :
    Ring d ((((w.setCell (sh (lk b) d) (pt e)).setCell (sh (lk b) (d + 1)) (pt (adr e bs 1))).setCell (sh e (d + 1)) (pt (lk b))).setCell (sh (adr e bs 1) d) (pt (lk b))) e (b :: bs) := by
  have hnd : (b :: bs).Nodup := List.nodup_cons.2 ⟨hb, h.nd⟩
  have hne : e.block ∉ b :: bs := by
    intro hm
    rcases List.mem_cons.1 hm with h1 | h1
    · exact hbe h1.symm
    · exact h.ne h1
  have hl : (b :: bs).length = bs.length + 1 := rfl
  -- the ring's addresses in the new one
  have e0 : e = adr e (b :: bs) 0 := rfl
  have e1 : lk b = adr e (b :: bs) 1 := rfl
  obtain ⟨q, hq, hqn, hq0⟩ : ∃ q, adr e bs 1 = adr e (b :: bs) q ∧ q ≤ bs.length + 1 ∧ ((q = 2 ∧ 0 < bs.length) ∨ (q = 0 ∧ bs.length = 0)) := by
    by_cases h1 : 0 < bs.length
    · exact ⟨2, rfl, by omega, .inl ⟨rfl, h1⟩⟩
    · exact ⟨0, adr_out (by omega), by omega, .inr ⟨rfl, by omega⟩⟩
  have up : ∀ t, 1 ≤ t → t ≤ bs.length → adr e (b :: bs) (t + 1) = adr e bs t := by
    intro t h1 h2
    rw [adr_cons, if_neg (by omega)]
  have co : ∀ (W : World) (i j x y : Nat) (v : Value), i ≤ bs.length + 1 → j ≤ bs.length + 1 → (i ≠ j ∨ x ≠ y) → (W.setCell (sh (adr e (b :: bs) i) x) v).cell? (sh (adr e (b :: bs) j) y) = W.cell? (sh (adr e (b :: bs) j) y) := fun W i j x y v h1 h2 h3 => World.cell?_setCell_other _ _ _ _ (sh_ne hnd hne h1 h2 h3)
  have fz : ∀ a, ((((w.setCell (sh (lk b) d) (pt e)).setCell (sh (lk b) (d + 1)) (pt (adr e bs 1))).setCell (sh e (d + 1)) (pt (lk b))).setCell (sh (adr e bs 1) d) (pt (lk b))).frozen? a = w.frozen? a := by
    intro a
    rw [World.frozen?_setCell, World.frozen?_setCell, World.frozen?_setCell, World.frozen?_setCell]
  refine ⟨hnd, hne, ?_, ?_, ?_, ?_⟩
  · intro t ht
    rw [hl] at ht ⊢
    rw [hq]
    by_cases hx : t = q
    · subst hx
      rw [World.cell?_setCell_same (u := pt (adr e bs (pv bs.length (t - 1))))]
      · congr 3
        rcases hq0 with ⟨h1, h2⟩ | ⟨h1, h2⟩
        · subst h1; rfl
        · subst h1; rw [h2]; rfl
      · rw [show sh e (d + 1) = sh (adr e (b :: bs) 0) (d + 1) from rfl, co _ 0 t (d + 1) d _ (by omega) ht (by omega), e1, co _ 1 t (d + 1) d _ (by omega) ht (by omega), co _ 1 t d d _ (by omega) ht (by omega), ← hq]
        rcases hq0 with ⟨h1, h2⟩ | ⟨h1, h2⟩
        · subst h1
          exact h.nw 1 h2
        · subst h1
          rw [adr_out (by omega)]
          exact h.nw 0 (by omega)
    · rw [co _ q t d d _ hqn ht (by omega), show sh e (d + 1) = sh (adr e (b :: bs) 0) (d + 1) from rfl, co _ 0 t (d + 1) d _ (by omega) ht (by omega), e1, co _ 1 t (d + 1) d _ (by omega) ht (by omega)]
      by_cases h1 : t = 1
      · subst h1
        rw [← e1, World.cell?_setCell_same _ _ _ hu]
        rfl
      · rw [co _ 1 t d d _ (by omega) ht (by omega)]
        by_cases h0 : t = 0
        · subst h0
          have hp : 0 < bs.length := by omega
          rw [show adr e (b :: bs) 0 = adr e bs 0 from rfl, h.nw 0 (by omega)]
          congr 2
          show adr e bs bs.length = adr e (b :: bs) (bs.length + 1)
          rw [up _ hp (Nat.le_refl _)]
        · obtain ⟨t, rfl⟩ : ∃ k, t = k + 1 := ⟨t - 1, by omega⟩
          have h3 : 2 ≤ t := by omega
          rw [up t (by omega) (by omega), h.nw t (by omega)]
          congr 2
          unfold pv
          rw [if_neg (by omega), if_neg (by omega)]
          rw [show t + 1 - 1 = (t - 1) + 1 by omega, up (t - 1) (by omega) (by omega)]
  · intro t ht
    rw [hl] at ht
    rw [hq, co _ q t d (d + 1) _ hqn ht (by omega), show sh e (d + 1) = sh (adr e (b :: bs) 0) (d + 1) from rfl]
    by_cases h0 : t = 0
    · subst h0
      rw [World.cell?_setCell_same (u := pt (adr e bs 1))]
      · rfl
      · rw [e1, co _ 1 0 (d + 1) (d + 1) _ (by omega) ht (by omega), co _ 1 0 d (d + 1) _ (by omega) ht (by omega)]
        exact h.ol 0 (by omega)
    · rw [co _ 0 t (d + 1) (d + 1) _ (by omega) ht (by omega)]
      by_cases h1 : t = 1
      · subst h1
        rw [← e1, World.cell?_setCell_same (u := v)]
        · rw [← hq]; rfl
        · rw [e1, co _ 1 1 d (d + 1) _ (by omega) (by omega) (by omega), ← e1]
          exact hv
      · rw [e1, co _ 1 t (d + 1) (d + 1) _ (by omega) ht (by omega), co _ 1 t d (d + 1) _ (by omega) ht (by omega)]
        obtain ⟨t, rfl⟩ : ∃ k, t = k + 1 := ⟨t - 1, by omega⟩
        rw [up t (by omega) (by omega), h.ol t (by omega)]
        congr 2
  · intro t ht
    rw [fz]
    rw [hl] at ht
    by_cases h0 : t = 0
    · subst h0; exact h.fn 0 (by omega)
    · by_cases h1 : t = 1
      · subst h1; exact fu
      · obtain ⟨t, rfl⟩ : ∃ k, t = k + 1 := ⟨t - 1, by omega⟩
        rw [up t (by omega) (by omega)]
        exact h.fn t (by omega)
  · intro t ht
    rw [fz]
    rw [hl] at ht
    by_cases h0 : t = 0
    · subst h0; exact h.fo 0 (by omega)
    · by_cases h1 : t = 1
      · subst h1; exact fv
      · obtain ⟨t, rfl⟩ : ∃ k, t = k + 1 := ⟨t - 1, by omega⟩
        rw [up t (by omega) (by omega)]
        exact h.fo t (by omega)
end Go.Proofs.Ytjkkijeamcihiaa.ra
