import Derived.Test.YtgkhnjmbmbebiaaAb
namespace Go.Proofs.Ytgkhnjmbmbebiaa.ad
open Go.Proofs.Ytgkhnjmbmbebiaa.ca Go.Proofs.Ytgkhnjmbmbebiaa.cb Go.Proofs.Ytgkhnjmbmbebiaa.ga Go.Proofs.Ytgkhnjmbmbebiaa.aa Go.Proofs.Ytgkhnjmbmbebiaa.ab
set_option linter.unusedVariables false

section
variable (ok : ByteArray → Bool) (fo : List ByteArray → ByteArray) (ask : Nat → Nat × Nat → ByteArray × Int)
-- all is answered
theorem tell_all (hs : Nat × Nat → ByteArray) (cs : List (Nat × Nat)) : ∀ l, (∀ a ∈ cs, ∀ k, ask k a = (hs a, 0) ∧ ok (hs a) = true) → tell ok ask l cs = (cs.map hs, 0, l ++ cs) := by
  induction cs with
  | nil => intro l _; rw [List.append_nil]; rfl
  | cons a r ih =>
    intro l h
    have ha := fun k => h a (List.mem_cons_self ..) k
    rw [tell_yes ok ask (by rw [(ha _).1]) (by rw [(ha _).1]; exact (ha 0).2), (ha _).1, ih _ (fun b hb => h b (List.mem_cons_of_mem _ hb)), List.append_assoc]
    rfl
theorem hash_all (hs : Nat × Nat → ByteArray) (p : Nat × Nat) (l : List (Nat × Nat)) (h : ∀ a ∈ cov p.1 p.2, ∀ k, ask k a = (hs a, 0) ∧ ok (hs a) = true) : hashP ok fo ask l p = (fo ((cov p.1 p.2).map hs), 0, l ++ cov p.1 p.2) := by
  unfold hashP
  rw [tell_all ok ask hs _ l h]
  rfl
theorem told_all (hs : Nat × Nat → ByteArray) (ps : List (Nat × Nat)) : ∀ l, (∀ p ∈ ps, ∀ a ∈ cov p.1 p.2, ∀ k, ask k a = (hs a, 0) ∧ ok (hs a) = true) → told ok fo ask l ps = (ps.map (fun p => fo ((cov p.1 p.2).map hs)), 0, l ++ ps.flatMap (fun p => cov p.1 p.2)) := by
  induction ps with
  | nil => intro l _; simp [told]
  | cons p r ih =>
    intro l h
    have hp := hash_all ok fo ask hs p l (h p (List.mem_cons_self ..))
    rw [told_yes ok fo ask (by rw [hp]), hp, ih _ (fun q hq => h q (List.mem_cons_of_mem _ hq))]
    simp
end
section
variable {α : Type} (E : α) (N : α → α → α)
-- parts of a tree: they begin at a multiple of a power that they do not pass
def Pt (a b : Nat) : Prop := ∃ j, j ≤ 62 ∧ 2 ^ j ∣ a ∧ b - a ≤ 2 ^ j
theorem pt_top {n : Nat} (h : n ≤ 4611686018427387904) : Pt 0 n := ⟨62, Nat.le_refl _, Nat.dvd_zero _, by rw [show (2 : Nat) ^ 62 = 4611686018427387904 from by decide]; omega⟩
theorem pt_half {a b : Nat} (h : Pt a b) (h2 : 2 ≤ b - a) : Pt a (a + half (b - a)) ∧ Pt (a + half (b - a)) b := by
  obtain ⟨j, hj, hd, hl⟩ := h
  obtain ⟨i, e, g1, g2⟩ := half_is h2
  have hij : i < j := p2lt (by omega)
  rw [e]
  have hd' : 2 ^ i ∣ a := Nat.dvd_trans (p2dvd (by omega)) hd
  refine ⟨⟨i, by omega, hd', by omega⟩, ⟨i, by omega, Nat.dvd_add hd' (Nat.dvd_refl _), ?_⟩⟩
  rw [p2s] at g2
  omega
theorem part_root (L : List α) {a b : Nat} (h : Pt a b) (hab : a ≤ b) (hL : b ≤ L.length) : foldP E N ((cov a b).map fun x => rootP E N (piece L x)) = rootP E N ((L.drop a).take (b - a)) := by
  obtain ⟨j, hj, hd, hl⟩ := h
  rcases Nat.lt_or_ge (b - a) (2 ^ j) with g | g
  · have := fold_roots E N L (b - a) j a hd g (by omega) (by omega)
    rwa [show a + (b - a) = b by omega] at this
  · have hlt : a < b := by have := p2 j; omega
    have e : b - a = 2 ^ j := by omega
    have e2 : cov a b = [(j, a / 2 ^ j)] := by
      rw [cov_at (k := j) hlt ⟨hj, hd, by omega, .inr (.inr (by rw [p2s]; have := p2 j; omega))⟩, cov_end (by omega)]
    rw [e2, e]
    show rootP E N (piece L (j, a / 2 ^ j)) = _
    show rootP E N ((L.drop (a / 2 ^ j * 2 ^ j)).take (2 ^ j)) = _
    rw [Nat.div_mul_cancel hd]
def rt (L : List α) (p : Nat × Nat) : α := rootP E N ((L.drop p.1).take (p.2 - p.1))
theorem mid_len (L : List α) {a b : Nat} (hL : b ≤ L.length) : ((L.drop a).take (b - a)).length = b - a := by rw [List.length_take, List.length_drop]; omega
theorem mid_front (L : List α) {a k b : Nat} (h : k ≤ b) : ((L.drop a).take (b - a)).take (k - a) = (L.drop a).take (k - a) := by rw [List.take_take, Nat.min_eq_left (by omega)]
theorem mid_back (L : List α) {a k b : Nat} (h1 : a ≤ k) (h : k ≤ b) : ((L.drop a).take (b - a)).drop (k - a) = (L.drop k).take (b - k) := by
  rw [List.drop_take, List.drop_drop, show a + (k - a) = k by omega, show b - a - (k - a) = b - k by omega]
theorem path_parts (L : List α) (i : Nat) (n : Nat) : ∀ a b, b - a = n → a ≤ i → i < b → b ≤ L.length → (WL (lkI i) a b).map (rt E N L) = pathP E N (i - a) ((L.drop a).take (b - a)) := by
  induction n using Nat.strongRecOn with
  | ind n ih =>
    intro a b hn h1 h2 hL
    have hl := mid_len L (a := a) hL
    by_cases h : 2 ≤ b - a
    · have hh := half_lt h
      by_cases hi : i < a + half (b - a)
      · rw [WL_left (by unfold lkI; rw [if_pos ⟨h1, h2⟩, if_neg (by omega), if_pos hi]) h, List.map_append, ih (half (b - a)) (by omega) a (a + half (b - a)) (by omega) h1 hi (by omega), WL_take (lk := lkI i) (a := a + half (b - a)) (by unfold lkI; rw [if_neg (by omega)]), pathP_low E N (l := (L.drop a).take (b - a)) (by rw [hl]; exact h) (by rw [hl]; omega), hl]
        have e1 := mid_front L (a := a) (k := a + half (b - a)) (b := b) (by omega)
        have e2 := mid_back L (a := a) (k := a + half (b - a)) (b := b) (by omega) (by omega)
        rw [Nat.add_sub_cancel_left] at e1 e2
        rw [e1, e2, Nat.add_sub_cancel_left]
        rfl
      · rw [WL_right (by unfold lkI; rw [if_pos ⟨h1, h2⟩, if_neg (by omega), if_neg hi]; omega) h, List.map_append, ih (b - a - half (b - a)) (by omega) (a + half (b - a)) b (by omega) (by omega) h2 hL, WL_take (lk := lkI i) (a := a) (by unfold lkI; rw [if_neg (by omega)]), pathP_high E N (l := (L.drop a).take (b - a)) (by rw [hl]; exact h) (by rw [hl]; omega), hl]
        have e1 := mid_front L (a := a) (k := a + half (b - a)) (b := b) (by omega)
        have e2 := mid_back L (a := a) (k := a + half (b - a)) (b := b) (by omega) (by omega)
        rw [Nat.add_sub_cancel_left] at e1 e2
        rw [e1, e2, show i - a - half (b - a) = i - (a + half (b - a)) by omega]
        show _ ++ [rt E N L (a, a + half (b - a))] = _
        unfold rt
        rw [Nat.add_sub_cancel_left]
    · rw [WL_pass (by unfold lkI; rw [if_pos ⟨h1, h2⟩, if_pos (by omega)]), pathP_one E N (by rw [hl]; exact h)]
      rfl
theorem sub_parts (L : List α) (m : Nat) (n : Nat) : ∀ a b, b - a = n → a < m → m ≤ b → b ≤ L.length → (WL (lkC m) a b).map (rt E N L) = subP E N (m - a) ((L.drop a).take (b - a)) (a == 0) := by
  induction n using Nat.strongRecOn with
  | ind n ih =>
    intro a b hn h1 h2 hL
    have hl := mid_len L (a := a) hL
    by_cases hb : m = b
    · rw [subP_all E N (by rw [hl]; omega)]
      by_cases ha : a = 0
      · rw [WL_pass (by unfold lkC; rw [if_pos ⟨ha, hb.symm⟩]), ha]
        rfl
      · rw [WL_take (by unfold lkC; rw [if_neg (by omega), if_pos (by omega)]), if_neg (by simpa using ha)]
        rfl
    · have h : 2 ≤ b - a := by omega
      have hh := half_lt h
      have e1 := mid_front L (a := a) (k := a + half (b - a)) (b := b) (by omega)
      have e2 := mid_back L (a := a) (k := a + half (b - a)) (b := b) (by omega) (by omega)
      rw [Nat.add_sub_cancel_left] at e1 e2
      by_cases hm : m ≤ a + half (b - a)
      · rw [WL_left (by unfold lkC; rw [if_neg (by omega), if_neg (by omega), if_pos (by omega)]) h, List.map_append, ih (half (b - a)) (by omega) a (a + half (b - a)) (by omega) h1 hm (by omega), WL_take (lk := lkC m) (a := a + half (b - a)) (by unfold lkC; rw [if_neg (by omega), if_pos (by omega)]), subP_low E N (l := (L.drop a).take (b - a)) (by rw [hl]; omega) (by rw [hl]; exact h) (by rw [hl]; omega), hl, e1, e2, Nat.add_sub_cancel_left]
        rfl
      · rw [WL_right (by unfold lkC; rw [if_neg (by omega), if_neg (by omega), if_neg (by omega)]; omega) h, List.map_append, ih (b - a - half (b - a)) (by omega) (a + half (b - a)) b (by omega) (by omega) h2 hL, WL_take (lk := lkC m) (a := a) (by unfold lkC; rw [if_neg (by omega), if_pos (by omega)]), show (a + half (b - a) == 0) = false by rw [beq_eq_false_iff_ne]; omega, subP_high E N (l := (L.drop a).take (b - a)) (by rw [hl]; omega) (by rw [hl]; exact h) (by rw [hl]; omega), hl, e1, e2, show m - a - half (b - a) = m - (a + half (b - a)) by omega]
        show _ ++ [rt E N L (a, a + half (b - a))] = _
        unfold rt
        rw [Nat.add_sub_cancel_left]
end
-- every part of the walk is a part of the tree
theorem WL_pt (lk : Nat → Nat → Nat) (n : Nat) : ∀ a b, b - a = n → a ≤ b → Pt a b → ∀ p ∈ WL lk a b, Pt p.1 p.2 ∧ p.1 ≤ p.2 ∧ p.2 ≤ b := by
  induction n using Nat.strongRecOn with
  | ind n ih =>
    intro a b hn hab hpt p hp
    by_cases h0 : lk a b = 0
    · rw [WL_pass h0] at hp; cases hp
    · by_cases h1 : lk a b = 1
      · rw [WL_take h1] at hp
        rcases List.mem_cons.1 hp with rfl | hp
        · exact ⟨hpt, hab, Nat.le_refl _⟩
        · cases hp
      · by_cases h : 2 ≤ b - a
        · have hh := half_lt h
          obtain ⟨p1, p2⟩ := pt_half hpt h
          have key : p ∈ WL lk a (a + half (b - a)) ∨ p ∈ WL lk (a + half (b - a)) b := by
            by_cases h2 : lk a b = 2
            · rw [WL_left h2 h] at hp
              exact List.mem_append.1 hp
            · rw [WL_right (by omega) h] at hp
              exact (List.mem_append.1 hp).symm
          rcases key with g | g
          · have := ih (half (b - a)) (by omega) a (a + half (b - a)) (by omega) (by omega) p1 p g
            exact ⟨this.1, this.2.1, by omega⟩
          · exact ih (b - a - half (b - a)) (by omega) (a + half (b - a)) b (by omega) (by omega) p2 p g
        · rw [WL, if_neg h0, if_neg h1, dif_neg h] at hp
          cases hp
end Go.Proofs.Ytgkhnjmbmbebiaa.ad
