import Derived.Test.YtgkhnjmbmbebiaaAd
namespace Go.Proofs.Ytgkhnjmbmbebiaa.ae
open Go.Proofs.Ytgkhnjmbmbebiaa.ca Go.Proofs.Ytgkhnjmbmbebiaa.cb Go.Proofs.Ytgkhnjmbmbebiaa.ga Go.Proofs.Ytgkhnjmbmbebiaa.aa Go.Proofs.Ytgkhnjmbmbebiaa.ab Go.Proofs.Ytgkhnjmbmbebiaa.ad
set_option linter.unusedVariables false

-- a part of a walk is covered by 62 nodes at most
theorem digs_len (j : Nat) : ∀ h, (digs j h).length ≤ j := by
  induction j with
  | zero => intro h; simp [digs]
  | succ j ih =>
    intro h
    show (if h / 2 ^ j % 2 = 1 then _ else _ : List Nat).length ≤ _
    split
    · simp only [List.length_cons]; have := ih h; omega
    · have := ih h; omega
theorem cov62 {a b : Nat} (h : Pt a b) (hab : a ≤ b) : (cov a b).length ≤ 62 := by
  obtain ⟨j, hj, hd, hl⟩ := h
  rcases Nat.lt_or_ge (b - a) (2 ^ j) with g | g
  · have e := congrArg List.length (cov_digs j a (b - a) hd g (by omega))
    rw [List.length_map, show a + (b - a) = b by omega] at e
    have := digs_len j (b - a)
    omega
  · have hlt : a < b := by have := p2 j; omega
    have e : b - a = 2 ^ j := by omega
    have e2 : cov a b = [(j, a / 2 ^ j)] := by
      rw [cov_at (k := j) hlt ⟨hj, hd, by omega, .inr (.inr (by rw [p2s]; have := p2 j; omega))⟩, cov_end (by omega)]
    rw [e2]
    simp
section
variable (ok : ByteArray → Bool) (fo : List ByteArray → ByteArray) (ask : Nat → Nat × Nat → ByteArray × Int)
-- all is answered, whatever its number from 1 on
theorem tell_all1 (hs : Nat × Nat → ByteArray) (cs : List (Nat × Nat)) : ∀ l, (∀ a ∈ cs, ∀ k, ask (k + 1) a = (hs a, 0) ∧ ok (hs a) = true) → tell ok ask l cs = (cs.map hs, 0, l ++ cs) := by
  induction cs with
  | nil => intro l _; rw [List.append_nil]; rfl
  | cons a r ih =>
    intro l h
    have ha := fun k => h a (List.mem_cons_self ..) k
    rw [tell_yes ok ask (by rw [(ha _).1]) (by rw [(ha _).1]; exact (ha 0).2), (ha _).1, ih _ (fun b hb => h b (List.mem_cons_of_mem _ hb)), List.append_assoc]
    rfl
theorem hash_all1 (hs : Nat × Nat → ByteArray) (p : Nat × Nat) (l : List (Nat × Nat)) (h : ∀ a ∈ cov p.1 p.2, ∀ k, ask (k + 1) a = (hs a, 0) ∧ ok (hs a) = true) : hashP ok fo ask l p = (fo ((cov p.1 p.2).map hs), 0, l ++ cov p.1 p.2) := by
  unfold hashP
  rw [tell_all1 ok ask hs _ l h]
  rfl
theorem told_all1 (hs : Nat × Nat → ByteArray) (ps : List (Nat × Nat)) : ∀ l, (∀ p ∈ ps, ∀ a ∈ cov p.1 p.2, ∀ k, ask (k + 1) a = (hs a, 0) ∧ ok (hs a) = true) → told ok fo ask l ps = (ps.map (fun p => fo ((cov p.1 p.2).map hs)), 0, l ++ ps.flatMap (fun p => cov p.1 p.2)) := by
  induction ps with
  | nil => intro l _; simp [told]
  | cons p r ih =>
    intro l h
    have hp := hash_all1 ok fo ask hs p l (h p (List.mem_cons_self ..))
    rw [told_yes ok fo ask (by rw [hp]), hp, ih _ (fun q hq => h q (List.mem_cons_of_mem _ hq))]
    simp
theorem asked62 (hs : Nat × Nat → ByteArray) (lk : Nat → Nat → Nat) (n : Nat) (hn : n ≤ 4611686018427387904) (h : ∀ p ∈ WL lk 0 n, ∀ a ∈ cov p.1 p.2, ∀ k, ask (k + 1) a = (hs a, 0) ∧ ok (hs a) = true) :
    (told ok fo ask [] (WL lk 0 n)).2.1 = 0 ∧ (told ok fo ask [] (WL lk 0 n)).1.length = (WL lk 0 n).length ∧ (told ok fo ask [] (WL lk 0 n)).2.2.length ≤ 62 * (WL lk 0 n).length := by
  rw [told_all1 ok fo ask hs _ _ h]
  refine ⟨rfl, by simp, ?_⟩
  have hp := WL_pt lk n 0 n rfl (Nat.zero_le _) (pt_top hn)
  generalize WL lk 0 n = ps at hp
  induction ps with
  | nil => simp
  | cons p r ih =>
    have h1 := hp p (List.mem_cons_self ..)
    have h2 := cov62 h1.1 h1.2.1
    have h3 := ih (fun q hq => hp q (List.mem_cons_of_mem _ hq))
    simp only [List.nil_append, List.flatMap_cons, List.length_append, List.length_cons] at h3 ⊢
    omega
end
-- a range's walk is that of its places
theorem all_in (ps : List Nat) (n : Nat) : ∀ a b, b - a = n → a < b → (∀ p, a ≤ p → p < b → p ∈ ps) → WL (lkM ps) a b = [] := by
  induction n using Nat.strongRecOn with
  | ind n ih =>
    intro a b hn hab hp
    have hex : ∃ p ∈ ps, a ≤ p ∧ p < b := ⟨a, hp a (Nat.le_refl _) hab, Nat.le_refl _, hab⟩
    by_cases h : 2 ≤ b - a
    · have hh := half_lt h
      rw [WL_left (by unfold lkM; rw [if_pos hex, if_neg (by omega)]) h, ih (half (b - a)) (by omega) a (a + half (b - a)) (by omega) (by omega) (fun p h1 h2 => hp p h1 (by omega)), ih (b - a - half (b - a)) (by omega) (a + half (b - a)) b (by omega) (by omega) (fun p h1 h2 => hp p (by omega) h2)]
      rfl
    · rw [WL_pass (by unfold lkM; rw [if_pos hex, if_pos (by omega)])]
theorem range_multi (ps : List Nat) (lo hi : Nat) (hlh : lo < hi) (hps : ∀ p, p ∈ ps ↔ lo ≤ p ∧ p < hi) (n : Nat) : ∀ a b, b - a = n → a < b → WL (lkR lo hi) a b = WL (lkM ps) a b := by
  induction n using Nat.strongRecOn with
  | ind n ih =>
    intro a b hn hab
    by_cases h1 : b ≤ lo ∨ hi ≤ a
    · rw [WL_take (by unfold lkR; rw [if_pos h1]), WL_take (by
        unfold lkM
        rw [if_neg]
        rintro ⟨p, hp, g1, g2⟩
        have := (hps p).1 hp
        omega)]
    · by_cases h2 : lo ≤ a ∧ b ≤ hi
      · rw [WL_pass (by unfold lkR; rw [if_neg h1, if_pos h2]), all_in ps (b - a) a b rfl hab (fun p g1 g2 => (hps p).2 ⟨by omega, by omega⟩)]
      · have h : 2 ≤ b - a := by omega
        have hh := half_lt h
        have hex : ∃ p ∈ ps, a ≤ p ∧ p < b := ⟨max a lo, (hps _).2 ⟨by omega, by omega⟩, by omega, by omega⟩
        rw [WL_left (by unfold lkR; rw [if_neg h1, if_neg h2]) h, WL_left (lk := lkM ps) (by unfold lkM; rw [if_pos hex, if_neg (by omega)]) h, ih (half (b - a)) (by omega) a (a + half (b - a)) (by omega) (by omega), ih (b - a - half (b - a)) (by omega) (a + half (b - a)) b (by omega) (by omega)]
-- an inclusion proof's walk is that of one place, in another order
theorem incl_multi (i : Nat) (n : Nat) : ∀ a b, b - a = n → a < b → (WL (lkI i) a b).Perm (WL (lkM [i]) a b) := by
  induction n using Nat.strongRecOn with
  | ind n ih =>
    intro a b hn hab
    by_cases h1 : a ≤ i ∧ i < b
    · have hex : ∃ p ∈ [i], a ≤ p ∧ p < b := ⟨i, List.mem_singleton_self _, h1⟩
      by_cases h : 2 ≤ b - a
      · have hh := half_lt h
        have i1 := ih (half (b - a)) (by omega) a (a + half (b - a)) (by omega) (by omega)
        have i2 := ih (b - a - half (b - a)) (by omega) (a + half (b - a)) b (by omega) (by omega)
        rw [WL_left (lk := lkM [i]) (by unfold lkM; rw [if_pos hex, if_neg (by omega)]) h]
        by_cases h2 : i < a + half (b - a)
        · rw [WL_left (by unfold lkI; rw [if_pos h1, if_neg (by omega), if_pos h2]) h]
          exact i1.append i2
        · rw [WL_right (by unfold lkI; rw [if_pos h1, if_neg (by omega), if_neg h2]; exact Nat.le_refl _) h]
          exact (List.perm_append_comm).trans (i1.append i2)
      · rw [WL_pass (by unfold lkI; rw [if_pos h1, if_pos (by omega)]), WL_pass (by unfold lkM; rw [if_pos hex, if_pos (by omega)])]
    · rw [WL_take (by unfold lkI; rw [if_neg h1]), WL_take (by
        unfold lkM
        rw [if_neg]
        rintro ⟨p, hp, g1, g2⟩
        obtain rfl := List.mem_singleton.1 hp
        exact h1 ⟨g1, g2⟩)]
-- how often a text stands in two lists of which one is the other in another order
theorem perm_count {α : Type} [BEq α] {l r : List α} (h : l.Perm r) (x : α) : l.countP (· == x) = r.countP (· == x) := h.countP_eq _
end Go.Proofs.Ytgkhnjmbmbebiaa.ae
