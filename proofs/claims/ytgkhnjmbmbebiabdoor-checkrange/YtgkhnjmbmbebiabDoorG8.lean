import Derived.Test.YtgkhnjmbmbebiabDoorG1
import Derived.Test.YtgkhnjmbmbebiabDoorG6
import Derived.Test.YtgkhnjmbmbebiabDoorG4
namespace Go.Proofs.YtgkhnjmbmbebiabDoor.ad
open Go.Proofs.YtgkhnjmbmbebiabDoor.ca Go.Proofs.YtgkhnjmbmbebiabDoor.cb Go.Proofs.YtgkhnjmbmbebiabDoor.ga Go.Proofs.YtgkhnjmbmbebiabDoor.aa Go.Proofs.YtgkhnjmbmbebiabDoor.ab
set_option linter.unusedVariables false

section
variable (ok : ByteArray → Bool) (fo : List ByteArray → ByteArray) (ask : Nat → Nat × Nat → ByteArray × Int)
-- all is answered
theorem tell_all (hs : Nat × Nat → ByteArray) (cs : List (Nat × Nat)) : ∀ l, (∀ a ∈ cs, ∀ k, ask k a = (hs a, 0) ∧ ok (hs a) = true) → tell ok ask l cs = (cs.map hs, 0, l ++ cs) := by
  induction cs with
  | nil => intro l _; rw [List.append_nil]; rfl
  | cons a r ih =>
    intro l h
    have ha := fun k => h a (List.mem_cons_self ..) k
    rw [tell_yes ok ask (by rw [(ha _).1]) (by rw [(ha _).1]; exact (ha 0).2), (ha _).1, ih _ (fun b hb => h b (List.mem_cons_of_mem _ hb)), List.append_assoc]
    rfl
theorem hash_all (hs : Nat × Nat → ByteArray) (p : Nat × Nat) (l : List (Nat × Nat)) (h : ∀ a ∈ cov p.1 p.2, ∀ k, ask k a = (hs a, 0) ∧ ok (hs a) = true) : hashP ok fo ask l p = (fo ((cov p.1 p.2).map hs), 0, l ++ cov p.1 p.2) := by
  unfold hashP
  rw [tell_all ok ask hs _ l h]
  rfl
theorem told_all (hs : Nat × Nat → ByteArray) (ps : List (Nat × Nat)) : ∀ l, (∀ p ∈ ps, ∀ a ∈ cov p.1 p.2, ∀ k, ask k a = (hs a, 0) ∧ ok (hs a) = true) → told ok fo ask l ps = (ps.map (fun p => fo ((cov p.1 p.2).map hs)), 0, l ++ ps.flatMap (fun p => cov p.1 p.2)) := by
  induction ps with
  | nil => intro l _; simp [told]
  | cons p r ih =>
    intro l h
    have hp := hash_all ok fo ask hs p l (h p (List.mem_cons_self ..))
    rw [told_yes ok fo ask (by rw [hp]), hp, ih _ (fun q hq => h q (List.mem_cons_of_mem _ hq))]
    simp
end
section
variable {α : Type} (E : α) (N : α → α → α)
-- parts of a tree: they begin at a multiple of a power that they do not pass
def Pt (a b : Nat) : Prop := ∃ j, j ≤ 62 ∧ 2 ^ j ∣ a ∧ b - a ≤ 2 ^ j
theorem pt_top {n : Nat} (h : n ≤ 4611686018427387904) : Pt 0 n := ⟨62, Nat.le_refl _, Nat.dvd_zero _, by rw [show (2 : Nat) ^ 62 = 4611686018427387904 from by decide]; omega⟩
theorem pt_half {a b : Nat} (h : Pt a b) (h2 : 2 ≤ b - a) : Pt a (a + half (b - a)) ∧ Pt (a + half (b - a)) b := by
  obtain ⟨j, hj, hd, hl⟩ := h
  obtain ⟨i, e, g1, g2⟩ := half_is h2
  have hij : i < j := p2lt (by omega)
  rw [e]
  have hd' : 2 ^ i ∣ a := Nat.dvd_trans (p2dvd (by omega)) hd
  refine ⟨⟨i, by omega, hd', by omega⟩, ⟨i, by omega, Nat.dvd_add hd' (Nat.dvd_refl _), ?_⟩⟩
  rw [p2s] at g2
  omega
theorem part_root (L : List α) {a b : Nat} (h : Pt a b) (hab : a ≤ b) (hL : b ≤ L.length) : foldP E N ((cov a b).map fun x => rootP E N (piece L x)) = rootP E N ((L.drop a).take (b - a)) := by
  obtain ⟨j, hj, hd, hl⟩ := h
  rcases Nat.lt_or_ge (b - a) (2 ^ j) with g | g
  · have := fold_roots E N L (b - a) j a hd g (by omega) (by omega)
    rwa [show a + (b - a) = b by omega] at this
  · have hlt : a < b := by have := p2 j; omega
    have e : b - a = 2 ^ j := by omega
    have e2 : cov a b = [(j, a / 2 ^ j)] := by
      rw [cov_at (k := j) hlt ⟨hj, hd, by omega, .inr (.inr (by rw [p2s]; have := p2 j; omega))⟩, cov_end (by omega)]
    rw [e2, e]
    show rootP E N (piece L (j, a / 2 ^ j)) = _
    show rootP E N ((L.drop (a / 2 ^ j * 2 ^ j)).take (2 ^ j)) = _
    rw [Nat.div_mul_cancel hd]
def rt (L : List α) (p : Nat × Nat) : α := rootP E N ((L.drop p.1).take (p.2 - p.1))
theorem mid_len (L : List α) {a b : Nat} (hL : b ≤ L.length) : ((L.drop a).take (b - a)).length = b - a := by rw [List.length_take, List.length_drop]; omega
theorem mid_front (L : List α) {a k b : Nat} (h : k ≤ b) : ((L.drop a).take (b - a)).take (k - a) = (L.drop a).take (k - a) := by rw [List.take_take, Nat.min_eq_left (by omega)]
theorem mid_back (L : List α) {a k b : Nat} (h1 : a ≤ k) (h : k ≤ b) : ((L.drop a).take (b - a)).drop (k - a) = (L.drop k).take (b - k) := by
  rw [List.drop_take, List.drop_drop, show a + (k - a) = k by omega, show b - a - (k - a) = b - k by omega]
theorem path_parts (L : List α) (i : Nat) (n : Nat) : ∀ a b, b - a = n → a ≤ i → i < b → b ≤ L.length → (WL (lkI i) a b).map (rt E N L) = pathP E N (i - a) ((L.drop a).take (b - a)) := by
  induction n using Nat.strongRecOn with
  | ind n ih =>
    intro a b hn h1 h2 hL
    have hl := mid_len L (a := a) hL
    by_cases h : 2 ≤ b - a
    · have hh := half_lt h
      by_cases hi : i < a + half (b - a)
      · rw [WL_left (by unfold lkI; rw [if_pos ⟨h1, h2⟩, if_neg (by omega), if_pos hi]) h, List.map_append, ih (half (b - a)) (by omega) a (a + half (b - a)) (by omega) h1 hi (by omega), WL_take (lk := lkI i) (a := a + half (b - a)) (by unfold lkI; rw [if_neg (by omega)]), pathP_low E N (l := (L.drop a).take (b - a)) (by rw [hl]; exact h) (by rw [hl]; omega), hl]
        have e1 := mid_front L (a := a) (k := a + half (b - a)) (b := b) (by omega)
        have e2 := mid_back L (a := a) (k := a + half (b - a)) (b := b) (by omega) (by omega)
        rw [Nat.add_sub_cancel_left] at e1 e2
        rw [e1, e2, Nat.add_sub_cancel_left]
        rfl
      · rw [WL_right (by unfold lkI; rw [if_pos ⟨h1, h2⟩, if_neg (by omega), if_neg hi]; omega) h, List.map_append, ih (b - a - half (b - a)) (by omega) (a + half (b - a)) b (by omega) (by omega) h2 hL, WL_take (lk := lkI i) (a := a) (by unfold lkI; rw [if_neg (by omega)]), pathP_high E N (l := (L.drop a).take (b - a)) (by rw [hl]; exact h) (by rw [hl]; omega), hl]
        have e1 := mid_front L (a := a) (k := a + half (b - a)) (b := b) (by omega)
        have e2 := mid_back L (a := a) (k := a + half (b - a)) (b := b) (by omega) (by omega)
        rw [Nat.add_sub_cancel_left] at e1 e2
        rw [e1, e2, show i - a - half (b - a) = i - (a + half (b - a)) by omega]
        show _ ++ [rt E N L (a, a + half (b - a))] = _
        unfold rt
        rw [Nat.add_sub_cancel_left]
    · rw [WL_pass (by unfold lkI; rw [if_pos ⟨h1, h2⟩, if_pos (by omega)]), pathP_one E N (by rw [hl]; exact h)]
      rfl
theorem sub_parts (L : List α) (m : Nat) (n : Nat) : ∀ a b, b - a = n → a < m → m ≤ b → b ≤ L.length → (WL (lkC m) a b).map (rt E N L) = subP E N (m - a) ((L.drop a).take (b - a)) (a == 0) := by
  induction n using Nat.strongRecOn with
  | ind n ih =>
    intro a b hn h1 h2 hL
    have hl := mid_len L (a := a) hL
    by_cases hb : m = b
    · rw [subP_all E N (by rw [hl]; omega)]
      by_cases ha : a = 0
      · rw [WL_pass (by unfold lkC; rw [if_pos ⟨ha, hb.symm⟩]), ha]
        rfl
      · rw [WL_take (by unfold lkC; rw [if_neg (by omega), if_pos (by omega)]), if_neg (by simpa using ha)]
        rfl
    · have h : 2 ≤ b - a := by omega
      have hh := half_lt h
      have e1 := mid_front L (a := a) (k := a + half (b - a)) (b := b) (by omega)
      have e2 := mid_back L (a := a) (k := a + half (b - a)) (b := b) (by omega) (by omega)
      rw [Nat.add_sub_cancel_left] at e1 e2
      by_cases hm : m ≤ a + half (b - a)
      · rw [WL_left (by unfold lkC; rw [if_neg (by omega), if_neg (by omega), if_pos (by omega)]) h, List.map_append, ih (half (b - a)) (by omega) a (a + half (b - a)) (by omega) h1 hm (by omega), WL_take (lk := lkC m) (a := a + half (b - a)) (by unfold lkC; rw [if_neg (by omega), if_pos (by omega)]), subP_low E N (l := (L.drop a).take (b - a)) (by rw [hl]; omega) (by rw [hl]; exact h) (by rw [hl]; omega), hl, e1, e2, Nat.add_sub_cancel_left]
        rfl
      · rw [WL_right (by unfold lkC; rw [if_neg (by omega), if_neg (by omega), if_neg (by omega)]; omega) h, List.map_append, ih (b - a - half (b - a)) (by omega) (a + half (b - a)) b (by omega) (by omega) h2 hL, WL_take (lk := lkC m) (a := a) (by unfold lkC; rw [if_neg (by omega), if_pos (by omega)]), show (a + half (b - a) == 0) = false by rw [beq_eq_false_iff_ne]; omega, subP_high E N (l := (L.drop a).take (b - a)) (by rw [hl]; omega) (by rw [hl]; exact h) (by rw [hl]; omega), hl, e1, e2, show m - a - half (b - a) = m - (a + half (b - a)) by omega]
        show _ ++ [rt E N L (a, a + half (b - a))] = _
        unfold rt
        rw [Nat.add_sub_cancel_left]
end
-- every part of the walk is a part of the tree
theorem WL_pt (lk : Nat → Nat → Nat) (n : Nat) : ∀ a b, b - a = n → a ≤ b → Pt a b → ∀ p ∈ WL lk a b, Pt p.1 p.2 ∧ p.1 ≤ p.2 ∧ p.2 ≤ b := by
  induction n using Nat.strongRecOn with
  | ind n ih =>
    intro a b hn hab hpt p hp
    by_cases h0 : lk a b = 0
    · rw [WL_pass h0] at hp; cases hp
    · by_cases h1 : lk a b = 1
      · rw [WL_take h1] at hp
        rcases List.mem_cons.1 hp with rfl | hp
        · exact ⟨hpt, hab, Nat.le_refl _⟩
        · cases hp
      · by_cases h : 2 ≤ b - a
        · have hh := half_lt h
          obtain ⟨p1, p2⟩ := pt_half hpt h
          have key : p ∈ WL lk a (a + half (b - a)) ∨ p ∈ WL lk (a + half (b - a)) b := by
            by_cases h2 : lk a b = 2
            · rw [WL_left h2 h] at hp
              exact List.mem_append.1 hp
            · rw [WL_right (by omega) h] at hp
              exact (List.mem_append.1 hp).symm
          rcases key with g | g
          · have := ih (half (b - a)) (by omega) a (a + half (b - a)) (by omega) (by omega) p1 p g
            exact ⟨this.1, this.2.1, by omega⟩
          · exact ih (b - a - half (b - a)) (by omega) (a + half (b - a)) b (by omega) (by omega) p2 p g
        · rw [WL, if_neg h0, if_neg h1, dif_neg h] at hp
          cases hp
end Go.Proofs.YtgkhnjmbmbebiabDoor.ad

namespace Go.Proofs.YtgkhnjmbmbebiabDoor.ae
open Go.Proofs.YtgkhnjmbmbebiabDoor.ca Go.Proofs.YtgkhnjmbmbebiabDoor.cb Go.Proofs.YtgkhnjmbmbebiabDoor.ga Go.Proofs.YtgkhnjmbmbebiabDoor.aa Go.Proofs.YtgkhnjmbmbebiabDoor.ab Go.Proofs.YtgkhnjmbmbebiabDoor.ad
set_option linter.unusedVariables false

-- a part of a walk is covered by 62 nodes at most
theorem digs_len (j : Nat) : ∀ h, (digs j h).length ≤ j := by
  induction j with
  | zero => intro h; simp [digs]
  | succ j ih =>
    intro h
    show (if h / 2 ^ j % 2 = 1 then _ else _ : List Nat).length ≤ _
    split
    · simp only [List.length_cons]; have := ih h; omega
    · have := ih h; omega
theorem cov62 {a b : Nat} (h : Pt a b) (hab : a ≤ b) : (cov a b).length ≤ 62 := by
  obtain ⟨j, hj, hd, hl⟩ := h
  rcases Nat.lt_or_ge (b - a) (2 ^ j) with g | g
  · have e := congrArg List.length (cov_digs j a (b - a) hd g (by omega))
    rw [List.length_map, show a + (b - a) = b by omega] at e
    have := digs_len j (b - a)
    omega
  · have hlt : a < b := by have := p2 j; omega
    have e : b - a = 2 ^ j := by omega
    have e2 : cov a b = [(j, a / 2 ^ j)] := by
      rw [cov_at (k := j) hlt ⟨hj, hd, by omega, .inr (.inr (by rw [p2s]; have := p2 j; omega))⟩, cov_end (by omega)]
    rw [e2]
    simp
section
variable (ok : ByteArray → Bool) (fo : List ByteArray → ByteArray) (ask : Nat → Nat × Nat → ByteArray × Int)
-- all is answered, whatever its number from 1 on
theorem tell_all1 (hs : Nat × Nat → ByteArray) (cs : List (Nat × Nat)) : ∀ l, (∀ a ∈ cs, ∀ k, ask (k + 1) a = (hs a, 0) ∧ ok (hs a) = true) → tell ok ask l cs = (cs.map hs, 0, l ++ cs) := by
  induction cs with
  | nil => intro l _; rw [List.append_nil]; rfl
  | cons a r ih =>
    intro l h
    have ha := fun k => h a (List.mem_cons_self ..) k
    rw [tell_yes ok ask (by rw [(ha _).1]) (by rw [(ha _).1]; exact (ha 0).2), (ha _).1, ih _ (fun b hb => h b (List.mem_cons_of_mem _ hb)), List.append_assoc]
    rfl
theorem hash_all1 (hs : Nat × Nat → ByteArray) (p : Nat × Nat) (l : List (Nat × Nat)) (h : ∀ a ∈ cov p.1 p.2, ∀ k, ask (k + 1) a = (hs a, 0) ∧ ok (hs a) = true) : hashP ok fo ask l p = (fo ((cov p.1 p.2).map hs), 0, l ++ cov p.1 p.2) := by
  unfold hashP
  rw [tell_all1 ok ask hs _ l h]
  rfl
theorem told_all1 (hs : Nat × Nat → ByteArray) (ps : List (Nat × Nat)) : ∀ l, (∀ p ∈ ps, ∀ a ∈ cov p.1 p.2, ∀ k, ask (k + 1) a = (hs a, 0) ∧ ok (hs a) = true) → told ok fo ask l ps = (ps.map (fun p => fo ((cov p.1 p.2).map hs)), 0, l ++ ps.flatMap (fun p => cov p.1 p.2)) := by
  induction ps with
  | nil => intro l _; simp [told]
  | cons p r ih =>
    intro l h
    have hp := hash_all1 ok fo ask hs p l (h p (List.mem_cons_self ..))
    rw [told_yes ok fo ask (by rw [hp]), hp, ih _ (fun q hq => h q (List.mem_cons_of_mem _ hq))]
    simp
theorem asked62 (hs : Nat × Nat → ByteArray) (lk : Nat → Nat → Nat) (n : Nat) (hn : n ≤ 4611686018427387904) (h : ∀ p ∈ WL lk 0 n, ∀ a ∈ cov p.1 p.2, ∀ k, ask (k + 1) a = (hs a, 0) ∧ ok (hs a) = true) :
    (told ok fo ask [] (WL lk 0 n)).2.1 = 0 ∧ (told ok fo ask [] (WL lk 0 n)).1.length = (WL lk 0 n).length ∧ (told ok fo ask [] (WL lk 0 n)).2.2.length ≤ 62 * (WL lk 0 n).length := by
  rw [told_all1 ok fo ask hs _ _ h]
  refine ⟨rfl, by simp, ?_⟩
  have hp := WL_pt lk n 0 n rfl (Nat.zero_le _) (pt_top hn)
  generalize WL lk 0 n = ps at hp
  induction ps with
  | nil => simp
  | cons p r ih =>
    have h1 := hp p (List.mem_cons_self ..)
    have h2 := cov62 h1.1 h1.2.1
    have h3 := ih (fun q hq => hp q (List.mem_cons_of_mem _ hq))
    simp only [List.nil_append, List.flatMap_cons, List.length_append, List.length_cons] at h3 ⊢
    omega
end
-- a range's walk is that of its places
theorem all_in (ps : List Nat) (n : Nat) : ∀ a b, b - a = n → a < b → (∀ p, a ≤ p → p < b → p ∈ ps) → WL (lkM ps) a b = [] := by
  induction n using Nat.strongRecOn with
  | ind n ih =>
    intro a b hn hab hp
    have hex : ∃ p ∈ ps, a ≤ p ∧ p < b := ⟨a, hp a (Nat.le_refl _) hab, Nat.le_refl _, hab⟩
    by_cases h : 2 ≤ b - a
    · have hh := half_lt h
      rw [WL_left (by unfold lkM; rw [if_pos hex, if_neg (by omega)]) h, ih (half (b - a)) (by omega) a (a + half (b - a)) (by omega) (by omega) (fun p h1 h2 => hp p h1 (by omega)), ih (b - a - half (b - a)) (by omega) (a + half (b - a)) b (by omega) (by omega) (fun p h1 h2 => hp p (by omega) h2)]
      rfl
    · rw [WL_pass (by unfold lkM; rw [if_pos hex, if_pos (by omega)])]
theorem range_multi (ps : List Nat) (lo hi : Nat) (hlh : lo < hi) (hps : ∀ p, p ∈ ps ↔ lo ≤ p ∧ p < hi) (n : Nat) : ∀ a b, b - a = n → a < b → WL (lkR lo hi) a b = WL (lkM ps) a b := by
  induction n using Nat.strongRecOn with
  | ind n ih =>
    intro a b hn hab
    by_cases h1 : b ≤ lo ∨ hi ≤ a
    · rw [WL_take (by unfold lkR; rw [if_pos h1]), WL_take (by
        unfold lkM
        rw [if_neg]
        rintro ⟨p, hp, g1, g2⟩
        have := (hps p).1 hp
        omega)]
    · by_cases h2 : lo ≤ a ∧ b ≤ hi
      · rw [WL_pass (by unfold lkR; rw [if_neg h1, if_pos h2]), all_in ps (b - a) a b rfl hab (fun p g1 g2 => (hps p).2 ⟨by omega, by omega⟩)]
      · have h : 2 ≤ b - a := by omega
        have hh := half_lt h
        have hex : ∃ p ∈ ps, a ≤ p ∧ p < b := ⟨max a lo, (hps _).2 ⟨by omega, by omega⟩, by omega, by omega⟩
        rw [WL_left (by unfold lkR; rw [if_neg h1, if_neg h2]) h, WL_left (lk := lkM ps) (by unfold lkM; rw [if_pos hex, if_neg (by omega)]) h, ih (half (b - a)) (by omega) a (a + half (b - a)) (by omega) (by omega), ih (b - a - half (b - a)) (by omega) (a + half (b - a)) b (by omega) (by omega)]
-- an inclusion proof's walk is that of one place, in another order
theorem incl_multi (i : Nat) (n : Nat) : ∀ a b, b - a = n → a < b → (WL (lkI i) a b).Perm (WL (lkM [i]) a b) := by
  induction n using Nat.strongRecOn with
  | ind n ih =>
    intro a b hn hab
    by_cases h1 : a ≤ i ∧ i < b
    · have hex : ∃ p ∈ [i], a ≤ p ∧ p < b := ⟨i, List.mem_singleton_self _, h1⟩
      by_cases h : 2 ≤ b - a
      · have hh := half_lt h
        have i1 := ih (half (b - a)) (by omega) a (a + half (b - a)) (by omega) (by omega)
        have i2 := ih (b - a - half (b - a)) (by omega) (a + half (b - a)) b (by omega) (by omega)
        rw [WL_left (lk := lkM [i]) (by unfold lkM; rw [if_pos hex, if_neg (by omega)]) h]
        by_cases h2 : i < a + half (b - a)
        · rw [WL_left (by unfold lkI; rw [if_pos h1, if_neg (by omega), if_pos h2]) h]
          exact i1.append i2
        · rw [WL_right (by unfold lkI; rw [if_pos h1, if_neg (by omega), if_neg h2]; exact Nat.le_refl _) h]
          exact (List.perm_append_comm).trans (i1.append i2)
      · rw [WL_pass (by unfold lkI; rw [if_pos h1, if_pos (by omega)]), WL_pass (by unfold lkM; rw [if_pos hex, if_pos (by omega)])]
    · rw [WL_take (by unfold lkI; rw [if_neg h1]), WL_take (by
        unfold lkM
        rw [if_neg]
        rintro ⟨p, hp, g1, g2⟩
        obtain rfl := List.mem_singleton.1 hp
        exact h1 ⟨g1, g2⟩)]
-- how often a text stands in two lists of which one is the other in another order
theorem perm_count {α : Type} [BEq α] {l r : List α} (h : l.Perm r) (x : α) : l.countP (· == x) = r.countP (· == x) := h.countP_eq _
end Go.Proofs.YtgkhnjmbmbebiabDoor.ae

namespace Go.Proofs.YtgkhnjmbmbebiabDoor.qo
open Go.RowKit Go.PlainAid
open Go.Proofs.YtgkhnjmbmbebiabDoor.pl Go.Proofs.YtgkhnjmbmbebiabDoor.pi Go.Proofs.YtgkhnjmbmbebiabDoor.pj Go.Proofs.YtgkhnjmbmbebiabDoor.rf Go.Proofs.YtgkhnjmbmbebiabDoor.ca Go.Proofs.YtgkhnjmbmbebiabDoor.cb Go.Proofs.YtgkhnjmbmbebiabDoor.cp Go.Proofs.YtgkhnjmbmbebiabDoor.ga Go.Proofs.YtgkhnjmbmbebiabDoor.aa Go.Proofs.YtgkhnjmbmbebiabDoor.ab Go.Proofs.YtgkhnjmbmbebiabDoor.ae Go.Proofs.YtgkhnjmbmbebiabDoor.ba Go.Proofs.YtgkhnjmbmbebiabDoor.bb Go.Proofs.YtgkhnjmbmbebiabDoor.ka Go.Proofs.YtgkhnjmbmbebiabDoor.kb Go.Proofs.YtgkhnjmbmbebiabDoor.kp Go.Proofs.YtgkhnjmbmbebiabDoor.lk Go.Proofs.YtgkhnjmbmbebiabDoor.mi Go.Proofs.YtgkhnjmbmbebiabDoor.lm Go.Proofs.YtgkhnjmbmbebiabDoor.co Go.Proofs.YtgkhnjmbmbebiabDoor.cn Go.Proofs.YtgkhnjmbmbebiabDoor.qa Go.Proofs.YtgkhnjmbmbebiabDoor.qb Go.Proofs.YtgkhnjmbmbebiabDoor.qc Go.Proofs.YtgkhnjmbmbebiabDoor.qg Go.Proofs.YtgkhnjmbmbebiabDoor.qj Go.Proofs.YtgkhnjmbmbebiabDoor.qk Go.Proofs.YtgkhnjmbmbebiabDoor.qm
set_option linter.unusedVariables false

-- a shape that goes on down to the leaves
theorem singlyC (lg : Nat) (lv : Array Value) (w : World) : Calls Tryd.prog 28 #[.func (.func lg) #[] lv] w fun e w' => e = .returned (.func (.func 56) #[] #[.pointer (some ⟨w.heap.size, 0, none⟩)]) ∧ w' = w.alloc (.cells #[.func (.func lg) #[] lv] 61) := by
  go_enter Tryd.func28, Tryd.ntmps28
  go_wp2
  go_ret
  exact ⟨rfl, rfl⟩
theorem lkS_is (lo hi a b : Nat) (hab : a < b) : lkS lo hi a b = if lkR lo hi a b = 0 then (if b - a = 1 then 0 else 2) else lkR lo hi a b := by
  unfold lkS lkR
  by_cases h1 : b ≤ lo ∨ hi ≤ a
  · rw [if_pos h1, if_pos h1, if_neg (by omega)]
  · rw [if_neg h1, if_neg h1]
    by_cases h2 : lo ≤ a ∧ b ≤ hi
    · rw [if_pos h2, if_pos rfl]
    · rw [if_neg h2, if_neg (by omega), if_neg (by omega)]
set_option maxHeartbeats 1600000 in
theorem lookSg (sb lb' hb' lo hi a b : Nat) (w : World) (hab : a < b) (hb : b ≤ 4611686018427387904) (hP : w.cell? ⟨lb', 0, none⟩ = some (.int .i64 lo)) (hQ : w.cell? ⟨hb', 0, none⟩ = some (.int .i64 hi)) (hS : w.cell? ⟨sb, 0, none⟩ = some (.func (.func 58) #[] #[.pointer (some ⟨lb', 0, none⟩), .pointer (some ⟨hb', 0, none⟩)])) :
    Calls Tryd.prog 56 #[.agg #[.int .i64 a, .int .i64 b], .pointer (some ⟨sb, 0, none⟩)] w fun e w' => e = .returned (.int .i64 (lkS lo hi a b : Nat)) ∧ Below w.heap.size w w' := by
  have BA : Hid (Below w.heap.size w (w.alloc (.cells #[.int .i64 a, .int .i64 b] 73))) := (Below.refl _ _).alloc (Nat.le_refl _) _
  have HB : Hid (Bx (w.alloc (.cells #[.int .i64 a, .int .i64 b] 73)) w.heap.size a b) := part_box w a b
  have cs := (BA.out.cell (World.block_lt_of_cell? _ _ hS)).trans hS
  have RC : Hid (Calls _ _ _ _ _) := lookR lb' hb' lo hi a b (w.alloc (.cells #[.int .i64 a, .int .i64 b] 73)) hab hb ((BA.out.cell (World.block_lt_of_cell? _ _ hP)).trans hP) ((BA.out.cell (World.block_lt_of_cell? _ _ hQ)).trans hQ)
  have LC : Hid (∀ w, Calls _ _ _ _ _) := fun w => isLeaf a b (by omega) hb w
  rw [lkS_is lo hi a b hab]
  obtain ⟨r, HR⟩ : ∃ r, Hid (lkR lo hi a b = r) := ⟨_, rfl⟩
  rw [HR.out] at RC ⊢
  obtain ⟨c1, c2⟩ := HB.out
  clear hP hQ hS
  by_cases h : r = 0
  · subst h
    rw [if_pos rfl]
    by_cases h1 : b - a = 1
    · rw [decide_eq_true h1] at LC
      rw [if_pos h1]
      clear h1 HR
      go_enter Tryd.func56, Tryd.ntmps56
      go_wp2_with fail
      refine RC.out.mono ?_
      rintro e w1 ⟨rfl, hb1⟩
      have B1 : Hid (Below w.heap.size w w1) := over BA.out hb1
      obtain ⟨d1, d2⟩ := HB.out.later hb1
      clear hb1 c1 c2 cs
      go_wp2_with fail
      refine (LC.out _).mono ?_
      rintro e w2 ⟨rfl, hb2⟩
      have B2 : Hid (Below w.heap.size w w2) := over B1.out hb2
      clear hb2 d1 d2
      go_wp2
      go_ret
      exact ⟨rfl, B2.out⟩
    · rw [decide_eq_false h1] at LC
      rw [if_neg h1]
      clear h1 HR
      go_enter Tryd.func56, Tryd.ntmps56
      go_wp2_with fail
      refine RC.out.mono ?_
      rintro e w1 ⟨rfl, hb1⟩
      have B1 : Hid (Below w.heap.size w w1) := over BA.out hb1
      obtain ⟨d1, d2⟩ := HB.out.later hb1
      clear hb1 c1 c2 cs
      go_wp2_with fail
      refine (LC.out _).mono ?_
      rintro e w2 ⟨rfl, hb2⟩
      have B2 : Hid (Below w.heap.size w w2) := over B1.out hb2
      clear hb2 d1 d2
      go_wp2
      go_ret
      exact ⟨rfl, B2.out⟩
  · rw [if_neg h]
    have q : ((r : Int) == 0) = false := by rw [beq_eq_false_iff_ne]; omega
    clear HR LC
    go_enter Tryd.func56, Tryd.ntmps56
    go_wp2_with fail
    refine RC.out.mono ?_
    rintro e w1 ⟨rfl, hb1⟩
    have B1 : Hid (Below w.heap.size w w1) := over BA.out hb1
    clear hb1 c1 c2 cs
    go_wp2
    go_ret
    exact ⟨rfl, B1.out⟩
theorem ShS (sb lb' hb' lo hi : Nat) : Shp (fun b => b = sb ∨ b = lb' ∨ b = hb') no (fun _ w => w.cell? ⟨lb', 0, none⟩ = some (.int .i64 lo) ∧ w.cell? ⟨hb', 0, none⟩ = some (.int .i64 hi) ∧ w.cell? ⟨sb, 0, none⟩ = some (.func (.func 58) #[] #[.pointer (some ⟨lb', 0, none⟩), .pointer (some ⟨hb', 0, none⟩)])) (lkS lo hi) (fun _ => 0) 56 #[.pointer (some ⟨sb, 0, none⟩)] where
  enter := fun args w => by simp [go_sem]
  keep := fun h k hg => ⟨k.cell h.1 (fun g => hg _ g (.inr (.inl rfl))), k.cell h.2.1 (fun g => hg _ g (.inr (.inr rfl))), k.cell h.2.2 (fun g => hg _ g (.inl rfl))⟩
  fd := fun b h => h.elim
  fl := fun h b hb => by
    rcases hb with rfl | rfl | rfl
    · exact World.block_lt_of_cell? _ _ h.2.2
    · exact World.block_lt_of_cell? _ _ h.1
    · exact World.block_lt_of_cell? _ _ h.2.1
  call := fun a b w hab hb hP => (lookSg sb lb' hb' lo hi a b w hab hb hP.1 hP.2.1 hP.2.2).mono fun e w' h => ⟨h.1, ⟨(h.2.cell (World.block_lt_of_cell? _ _ hP.1)).trans hP.1, (h.2.cell (World.block_lt_of_cell? _ _ hP.2.1)).trans hP.2.1, (h.2.cell (World.block_lt_of_cell? _ _ hP.2.2)).trans hP.2.2⟩, Kp.of_below h.2⟩
  wide := wideS
  four := fourS lo hi
  turn := fun _ _ => rfl
-- a range is its places
def rg (lo hi : Nat) : List Int := (List.range' lo (hi - lo)).map Int.ofNat
theorem rg_len (lo hi : Nat) : (rg lo hi).length = hi - lo := by unfold rg; simp
theorem rg_get (lo hi j : Nat) (h : j < hi - lo) : (rg lo hi).getD j 0 = ((lo + j : Nat) : Int) := by
  unfold rg
  rw [List.getD_eq_getElem?_getD, List.getElem?_map, List.getElem?_range' (by omega)]
  simp
theorem rg_ris (lo hi : Nat) : Ris (rg lo hi) := ⟨fun j hj => by rw [rg_len] at hj; rw [rg_get lo hi j hj]; omega, fun i j hij hj => by rw [rg_len] at hj; rw [rg_get lo hi i (by omega), rg_get lo hi j hj]; omega⟩
theorem rg_mem (lo hi p : Nat) : p ∈ natL (rg lo hi) ↔ lo ≤ p ∧ p < hi := by
  unfold natL rg
  rw [List.map_map, List.mem_map]
  constructor
  · rintro ⟨q, hq, rfl⟩
    rw [List.mem_range'_1] at hq
    simp only [Function.comp]
    show lo ≤ (Int.ofNat q).toNat ∧ _
    have : (Int.ofNat q).toNat = q := rfl
    rw [this]
    omega
  · rintro ⟨h1, h2⟩
    exact ⟨p, by rw [List.mem_range'_1]; omega, rfl⟩
theorem lkS_M (lo hi a b : Nat) (hlh : lo < hi) (hab : a < b) : lkS lo hi a b = lkM (natL (rg lo hi)) a b := by
  unfold lkS lkM
  by_cases h : b ≤ lo ∨ hi ≤ a
  · rw [if_pos h, if_neg]
    rintro ⟨p, hp, h1, h2⟩
    rw [rg_mem] at hp
    omega
  · rw [if_neg h, if_pos (show ∃ p ∈ natL (rg lo hi), a ≤ p ∧ p < b from ⟨max a lo, (rg_mem lo hi _).2 (by omega), by omega, by omega⟩)]
theorem counts (lo hi n : Nat) (hlh : lo < hi) (hn : hi ≤ n) : (WL (lkS lo hi) 0 n).length = (WL (lkR lo hi) 0 n).length ∧ (WL (fl (lkS lo hi)) 0 n).length = hi - lo := by
  have e1 := WL_congr (lk := lkS lo hi) (lk' := lkM (natL (rg lo hi))) n 0 n rfl (fun c d _ q _ => lkS_M lo hi c d hlh q) (by omega)
  have e2 := WL_congr (lk := fl (lkS lo hi)) (lk' := fl (lkM (natL (rg lo hi)))) n 0 n rfl (fun c d _ q _ => fl_congr (lkS_M lo hi c d hlh q)) (by omega)
  have e3 := range_multi (natL (rg lo hi)) lo hi hlh (rg_mem lo hi) n 0 n rfl (by omega)
  have e4 := claimsM (rg_ris lo hi) n 0 n rfl (by omega)
  rw [cnt_zero (rg_ris lo hi), cnt_all (rg_ris lo hi) (fun j hj => by rw [rg_len] at hj; rw [rg_get lo hi j hj]; omega), rg_len] at e4
  exact ⟨by rw [e1, e3], by rw [e2]; omega⟩
end Go.Proofs.YtgkhnjmbmbebiabDoor.qo

namespace Go.Proofs.YtgkhnjmbmbebiabDoor.qp
open Go.RowKit Go.PlainAid
open Go.Proofs.YtgkhnjmbmbebiabDoor.pl Go.Proofs.YtgkhnjmbmbebiabDoor.pi Go.Proofs.YtgkhnjmbmbebiabDoor.pj Go.Proofs.YtgkhnjmbmbebiabDoor.rf Go.Proofs.YtgkhnjmbmbebiabDoor.ca Go.Proofs.YtgkhnjmbmbebiabDoor.cb Go.Proofs.YtgkhnjmbmbebiabDoor.cp Go.Proofs.YtgkhnjmbmbebiabDoor.ga Go.Proofs.YtgkhnjmbmbebiabDoor.aa Go.Proofs.YtgkhnjmbmbebiabDoor.ka Go.Proofs.YtgkhnjmbmbebiabDoor.kb Go.Proofs.YtgkhnjmbmbebiabDoor.kp Go.Proofs.YtgkhnjmbmbebiabDoor.lk Go.Proofs.YtgkhnjmbmbebiabDoor.mi Go.Proofs.YtgkhnjmbmbebiabDoor.lm Go.Proofs.YtgkhnjmbmbebiabDoor.co Go.Proofs.YtgkhnjmbmbebiabDoor.cn Go.Proofs.YtgkhnjmbmbebiabDoor.dc Go.Proofs.YtgkhnjmbmbebiabDoor.df Go.Proofs.YtgkhnjmbmbebiabDoor.qa Go.Proofs.YtgkhnjmbmbebiabDoor.qb Go.Proofs.YtgkhnjmbmbebiabDoor.qc Go.Proofs.YtgkhnjmbmbebiabDoor.qe Go.Proofs.YtgkhnjmbmbebiabDoor.qg Go.Proofs.YtgkhnjmbmbebiabDoor.qi Go.Proofs.YtgkhnjmbmbebiabDoor.qj Go.Proofs.YtgkhnjmbmbebiabDoor.qk Go.Proofs.YtgkhnjmbmbebiabDoor.qm Go.Proofs.YtgkhnjmbmbebiabDoor.qn Go.Proofs.YtgkhnjmbmbebiabDoor.qo Go.Proofs.YtgkhnjmbmbebiabDoor.ts
set_option linter.unusedVariables false

def rngA (wd lo n : Int) (hs proof : List ByteArray) (root : ByteArray) : Int :=
  if (cnt9 3 lo (lo + hs.length) n []).2 = 0 then qm.seen wd (lkS lo.toNat (lo + hs.length).toNat) n.toNat (cnt9 3 lo (lo + hs.length) n []).1 hs proof root else (cnt9 3 lo (lo + hs.length) n []).2
theorem cnt_hi {lo n : Int} {L : Nat} (h : lo < 0 ∨ 4611686018427387904 < lo + L) : cnt9 3 lo lo n [] = cnt9 3 lo (lo + L) n [] := by
  have r : ∀ b : Int, (b ≤ lo ∨ lo < 0 ∨ 4611686018427387904 < b) → ref9 3 lo b n [] = if n < 0 ∨ 4611686018427387904 < n then 80 else 81 := fun b hb => by
    unfold ref9
    rw [if_neg (by omega)]
    by_cases k : n < 0 ∨ 4611686018427387904 < n
    · rw [if_pos k, if_pos k]
    · rw [if_neg k, if_neg k, if_neg (by omega), if_neg (by omega), if_pos rfl, if_pos (by omega)]
  have e1 := r lo (.inl (by omega))
  have e2 := r (lo + L) (by omega)
  have e3 : (if n < 0 ∨ 4611686018427387904 < n then (80 : Int) else 81) ≠ 0 := by split <;> omega
  unfold cnt9
  rw [e1, e2, if_neg e3, if_neg e3]
theorem rng_ok {lo n : Int} {L : Nat} (h : (cnt9 3 lo (lo + L) n []).2 = 0) : ∃ A N : Nat, lo = A ∧ n = N ∧ 1 ≤ L ∧ A + L ≤ N ∧ N ≤ 4611686018427387904 ∧ cnt9 3 lo (lo + L) n [] = ((((WL (lkR A (A + L)) 0 N).length : Nat) : Int), 0) := by
  by_cases h0 : ref9 3 lo (lo + L) n [] = 0
  · have hc : cnt9 3 lo (lo + L) n [] = (((num9 3 lo (lo + L) n [] : Nat) : Int), 0) := by unfold cnt9; rw [if_pos h0]
    unfold ref9 at h0
    rw [if_neg (by omega)] at h0
    by_cases k2 : n < 0 ∨ 4611686018427387904 < n
    · rw [if_pos k2] at h0; omega
    rw [if_neg k2, if_neg (by omega), if_neg (by omega), if_pos rfl] at h0
    by_cases g : lo < 0 ∨ lo + L ≤ lo ∨ n < lo + L
    · rw [if_pos g] at h0; omega
    obtain ⟨N, rfl⟩ : ∃ A : Nat, n = A := ⟨n.toNat, by omega⟩
    obtain ⟨A, rfl⟩ : ∃ B : Nat, lo = B := ⟨lo.toNat, by omega⟩
    refine ⟨A, N, rfl, rfl, by omega, by omega, by omega, ?_⟩
    rw [hc]
    unfold num9
    rw [if_neg (by omega), if_neg (by omega), if_pos rfl, Int.toNat_natCast, Int.toNat_natCast, show ((A : Int) + L).toNat = A + L by omega]
  · have hc : cnt9 3 lo (lo + L) n [] = (0, ref9 3 lo (lo + L) n []) := by unfold cnt9; rw [if_neg h0]
    rw [hc] at h
    exact absurd h h0
-- the sum
theorem sumC (a b : Int) (ha : 0 ≤ a ∧ a ≤ 9223372036854775807) (hb : 0 ≤ b ∧ b ≤ 9223372036854775807) (w : World) : Calls Tryd.prog 54 #[.int .i64 a, .int .i64 b, .int .i64 9223372036854775807] w fun e w' => e = .returned (.tuple (if 9223372036854775807 - a < b then #[.int .i64 0, .int .i64 11] else #[.int .i64 (a + b), .int .i64 0])) ∧ w' = w := by
  have d1 : decide (9223372036854775807 < a) = false := decide_eq_false (by omega)
  have hw : IntKind.i64.wrap (9223372036854775807 - a) = 9223372036854775807 - a := by rw [IntKind.wrap_i64]; omega
  by_cases h : 9223372036854775807 - a < b
  · rw [if_pos h]
    have d2 : decide (9223372036854775807 - a < b) = true := decide_eq_true h
    clear h
    go_enter Tryd.func54, Tryd.ntmps54
    go_wp2
    go_ret2
    exact ⟨rfl, rfl⟩
  · rw [if_neg h]
    have d2 : decide (9223372036854775807 - a < b) = false := decide_eq_false h
    have hw2 : IntKind.i64.wrap (a + b) = a + b := by rw [IntKind.wrap_i64]; omega
    clear h
    go_enter Tryd.func54, Tryd.ntmps54
    go_wp2
    go_ret2
    exact ⟨rfl, rfl⟩
def addE (lo : Int) (L : Nat) : Value := if lo < 0 then .tuple #[.int .i64 0, .int .i64 10] else .tuple (if 9223372036854775807 - lo < L then #[.int .i64 0, .int .i64 11] else #[.int .i64 (lo + L), .int .i64 0])
theorem addC (lo : Int) (hlo : i64 lo) (L : Nat) (hL : (L : Int) ≤ 9223372036854775807) (w : World) : Calls Tryd.prog 26 #[.int .i64 lo, .int .i64 L] w fun e w' => e = .returned (addE lo L) ∧ w' = w := by
  obtain ⟨l1, l2⟩ := hlo
  unfold addE
  by_cases h : lo < 0
  · rw [if_pos h]
    have d1 : decide (lo < 0) = true := decide_eq_true h
    clear h
    go_enter Tryd.func26, Tryd.ntmps26
    go_wp2
    go_ret2
    exact ⟨rfl, rfl⟩
  · rw [if_neg h]
    have d1 : decide (lo < 0) = false := decide_eq_false h
    have d2 : decide ((L : Int) < 0) = false := decide_eq_false (by omega)
    have SC : Hid (∀ w, Calls _ _ _ _ _) := fun w => sumC lo L ⟨by omega, by omega⟩ ⟨by omega, by omega⟩ w
    by_cases g : 9223372036854775807 - lo < L
    · rw [if_pos g] at SC ⊢
      clear h g
      go_enter Tryd.func26, Tryd.ntmps26
      go_wp2_with fail
      refine (SC.out _).mono ?_
      rintro e w1 ⟨rfl, hw⟩
      subst hw
      go_wp2
      go_ret2
      exact ⟨rfl, rfl⟩
    · rw [if_neg g] at SC ⊢
      clear h g
      go_enter Tryd.func26, Tryd.ntmps26
      go_wp2_with fail
      refine (SC.out _).mono ?_
      rintro e w1 ⟨rfl, hw⟩
      subst hw
      go_wp2
      go_ret2
      exact ⟨rfl, rfl⟩
theorem reads_nilI (w : World) : ReadsI w (.slice none 0 0) [] := ⟨none, 0, rfl, Nat.le_refl _, .inl rfl⟩
set_option maxHeartbeats 3200000 in
theorem RangeC (wd lo n : Int) (hwd : i64 wd) (hlo : i64 lo) (vh vp : Value) (hs proof : List ByteArray) (root : ByteArray) (w : World) (hh : ReadsT w vh hs) (hp : ReadsT w vp proof) (zh : hs.length ≤ 140737488355328) (zp : proof.length ≤ 140737488355328) (hT : Tab w) :
    Calls Tryd.prog 10 #[.int .i64 wd, .int .i64 lo, .int .i64 n, vh, vp, .string root] w fun e w' => e = .returned (.int .i64 (rngA wd lo n hs proof root)) ∧ Below w.heap.size w w' := by
  have AC : Hid (∀ w, Calls _ _ _ _ _) := fun w => addC lo hlo hs.length (by omega) w
  have OH : Hid (Old w.heap.size w vh hs ∧ Old w.heap.size w vp proof ∧ Tab w) := ⟨Old.of hh, Old.of hp, hT⟩
  obtain ⟨ha, hc, rfl, _⟩ := hh
  obtain ⟨pa, pc, rfl, _⟩ := hp
  obtain ⟨l1, l2⟩ := hlo
  -- the sum is the end, or a number that is refused alike
  obtain ⟨hi, s1, s2, ADD, hhi⟩ : ∃ (hi s1 s2 : Int), Hid (addE lo hs.length = .tuple #[.int .i64 s1, .int .i64 s2]) ∧ ((s2 = 0 ∧ s1 = hi ∧ hi = lo + hs.length) ∨ (s2 ≠ 0 ∧ hi = lo ∧ (lo < 0 ∨ 4611686018427387904 < lo + hs.length))) := by
    unfold addE
    by_cases h : lo < 0
    · rw [if_pos h]; exact ⟨lo, 0, 10, rfl, .inr ⟨by omega, rfl, .inl h⟩⟩
    · rw [if_neg h]
      by_cases g : 9223372036854775807 - lo < hs.length
      · rw [if_pos g]; exact ⟨lo, 0, 11, rfl, .inr ⟨by omega, rfl, .inr (by omega)⟩⟩
      · rw [if_neg g]; exact ⟨lo + hs.length, lo + hs.length, 0, rfl, .inl ⟨rfl, rfl, rfl⟩⟩
  rw [ADD.out] at AC
  have hcnt : cnt9 3 lo hi n [] = cnt9 3 lo (lo + hs.length) n [] := by
    rcases hhi with ⟨_, _, rfl⟩ | ⟨_, rfl, q⟩
    · rfl
    · exact cnt_hi q
  have CC : Hid (∀ w, Calls _ _ _ _ _) := fun w => countC 3 lo hi n (.slice none 0 0) [] w (reads_nilI w) (by simp)
  rw [hcnt] at CC
  unfold rngA
  by_cases h : (cnt9 3 lo (lo + hs.length) n []).2 = 0
  · obtain ⟨A, N, rfl, rfl, n0, n1, n2, n4⟩ := rng_ok h
    rw [if_pos h, Int.toNat_natCast, Int.toNat_natCast, show ((A : Int) + hs.length).toNat = A + hs.length by omega, n4]
    rw [n4] at CC
    simp only at CC ⊢
    obtain ⟨hs2, hs1, hhi2⟩ : s2 = 0 ∧ s1 = hi ∧ hi = ((A + hs.length : Nat) : Int) := by
      rcases hhi with ⟨q1, q2, q3⟩ | ⟨_, _, q⟩
      · exact ⟨q1, q2, by omega⟩
      · omega
    subst hs2 hs1 hhi2
    have RC : Hid (∀ w, Calls _ _ _ _ _) := fun w => rangedC A ((A + hs.length : Nat) : Int) w
    have SC : Hid (∀ w lv, Calls _ _ _ _ _) := fun w lv => singlyC 58 lv w
    have CNT := counts A (A + hs.length) N (by omega) n1
    have LC : Hid (∀ w1, Below w.heap.size w w1 → Calls Tryd.prog 27 #[.int .i64 wd, .int .i64 N, .int .i64 ((WL (lkR A (A + hs.length)) 0 N).length : Nat), .func (.func 56) #[] #[.pointer (some ⟨w1.heap.size + 1 + 1, 0, none⟩)], .slice ha hs.length hc, .slice pa proof.length pc, .string root] (((w1.alloc (.cells #[.int .i64 A] 3)).alloc (.cells #[.int .i64 ((A + hs.length : Nat) : Int)] 3)).alloc (.cells #[.func (.func 58) #[] #[.pointer (some ⟨w1.heap.size, 0, none⟩), .pointer (some ⟨w1.heap.size + 1, 0, none⟩)]] 61)) fun e w' => e = .returned (.int .i64 (qm.seen wd (lkS A (A + hs.length)) N ((WL (lkR A (A + hs.length)) 0 N).length : Nat) hs proof root)) ∧ Below w.heap.size w w') := by
      intro w1 hb1
      obtain ⟨x1, x2, x3⟩ := three_one w1 (.int .i64 A) (.int .i64 ((A + hs.length : Nat) : Int)) (.func (.func 58) #[] #[.pointer (some ⟨w1.heap.size, 0, none⟩), .pointer (some ⟨w1.heap.size + 1, 0, none⟩)]) 3 3 61
      have b2 : Below w1.heap.size w1 (((w1.alloc (.cells #[.int .i64 A] 3)).alloc (.cells #[.int .i64 ((A + hs.length : Nat) : Int)] 3)).alloc (.cells #[.func (.func 58) #[] #[.pointer (some ⟨w1.heap.size, 0, none⟩), .pointer (some ⟨w1.heap.size + 1, 0, none⟩)]] 61)) := (((Below.refl _ _).alloc (Nat.le_refl _) _).alloc (by simp) _).alloc (by simp; omega) _
      have hb2 := over hb1 b2
      have kk : Kp no w _ := Kp.of_below hb2
      have z := lookC (ShS (w1.heap.size + 1 + 1) w1.heap.size (w1.heap.size + 1) A (A + hs.length)) wd hwd N w.heap.size _ _ hs proof root (by omega) n2 _ ⟨x1, x2, x3⟩ (OH.out.1.keep kk (fun _ e => e.elim)) (OH.out.2.1.keep kk (fun _ e => e.elim)) zh zp (OH.out.2.2.down hb2) OH.out.2.2.big hb2.size (fun b e => e.elim) (by rw [CNT.2]; omega)
      rw [seen_is, CNT.1] at z
      exact z.mono fun e w' q => ⟨q.1, hb2.trans q.2⟩
    obtain ⟨r, HRR⟩ : ∃ r, Hid (qm.seen wd (lkS A (A + hs.length)) N ((WL (lkR A (A + hs.length)) 0 N).length : Nat) hs proof root = r) := ⟨_, rfl⟩
    rw [HRR.out] at LC ⊢
    obtain ⟨cn, HCN⟩ : ∃ c, Hid ((WL (lkR A (A + hs.length)) 0 N).length = c) := ⟨_, rfl⟩
    rw [HCN.out] at CC LC
    obtain ⟨lh, HL⟩ : ∃ l, Hid (hs.length = l) := ⟨_, rfl⟩
    obtain ⟨lp, HLP⟩ : ∃ l, Hid (proof.length = l) := ⟨_, rfl⟩
    rw [HL.out] at AC CC LC RC ⊢
    rw [HLP.out] at LC ⊢
    clear OH h n4 n0 n1 n2 zh zp hT hwd hhi hcnt CNT ADD l1 l2
    obtain ⟨E, HEE⟩ : ∃ E : Int, Hid (((A + lh : Nat) : Int) = E) := ⟨_, rfl⟩
    rw [HEE.out] at AC CC LC RC
    go_enter Tryd.func10, Tryd.ntmps10
    go_wp2_with fail
    refine (AC.out _).mono ?_
    rintro e w0 ⟨rfl, hw⟩
    subst hw
    go_wp2_with fail
    refine (CC.out _).mono ?_
    rintro e w1 ⟨rfl, hb1⟩
    have B1 : Hid (Below w0.heap.size w0 w1) := hb1
    clear hb1
    go_wp2_with fail
    refine (RC.out _).mono ?_
    rintro e w2 ⟨rfl, hw2⟩
    have s2 : w2.heap.size = w1.heap.size + 1 + 1 := by rw [hw2]; simp
    have SC1 : Hid (Calls _ _ _ _ _) := SC.out w2 #[.pointer (some ⟨w1.heap.size, 0, none⟩), .pointer (some ⟨w1.heap.size + 1, 0, none⟩)]
    rw [s2] at SC1
    have HW2 : Hid (w2 = _) := hw2
    clear hw2 s2
    go_wp2_with fail
    refine SC1.out.mono ?_
    rintro e w3 ⟨rfl, hw3⟩
    have LC1 : Hid (Calls _ _ _ _ _) := LC.out w1 B1.out
    rw [← HW2.out, ← hw3] at LC1
    clear hw3 HW2
    go_wp2_with fail
    refine LC1.out.mono ?_
    rintro e w4 ⟨rfl, hb4⟩
    have B4 : Hid (Below w0.heap.size w0 w4) := hb4
    clear hb4
    go_wp2
    go_ret
    exact ⟨rfl, B4.out⟩
  · rw [if_neg h]
    obtain ⟨c, HC⟩ : ∃ c, Hid (cnt9 3 lo (lo + hs.length) n [] = c) := ⟨_, rfl⟩
    obtain ⟨c1, c2⟩ := c
    rw [HC.out] at CC h ⊢
    simp only at CC h ⊢
    have q : (c2 == 0) = false := by rw [beq_eq_false_iff_ne]; exact h
    obtain ⟨lh, HLH⟩ : ∃ l, Hid (hs.length = l) := ⟨_, rfl⟩
    obtain ⟨lp, HLP⟩ : ∃ l, Hid (proof.length = l) := ⟨_, rfl⟩
    rw [HLH.out] at AC ⊢
    rw [HLP.out]
    have hs12 : (s2 = 0 ∧ s1 = hi) ∨ (s2 ≠ 0 ∧ hi = lo) := by
      rcases hhi with ⟨q1, q2, _⟩ | ⟨q1, q2, _⟩
      · exact .inl ⟨q1, q2⟩
      · exact .inr ⟨q1, q2⟩
    clear OH h zh zp hT hwd hhi hcnt ADD l1 l2
    rcases hs12 with ⟨rfl, rfl⟩ | ⟨g, rfl⟩
    · go_enter Tryd.func10, Tryd.ntmps10
      go_wp2_with fail
      refine (AC.out _).mono ?_
      rintro e w0 ⟨rfl, hw⟩
      subst hw
      go_wp2_with fail
      refine (CC.out _).mono ?_
      rintro e w1 ⟨rfl, hb1⟩
      have B1 : Hid (Below w0.heap.size w0 w1) := hb1
      clear hb1
      go_wp2
      go_ret
      exact ⟨rfl, B1.out⟩
    · have q2 : (s2 == 0) = false := by rw [beq_eq_false_iff_ne]; exact g
      clear g
      go_enter Tryd.func10, Tryd.ntmps10
      go_wp2_with fail
      refine (AC.out _).mono ?_
      rintro e w0 ⟨rfl, hw⟩
      subst hw
      go_wp2_with fail
      refine (CC.out _).mono ?_
      rintro e w1 ⟨rfl, hb1⟩
      have B1 : Hid (Below w0.heap.size w0 w1) := hb1
      clear hb1
      go_wp2
      go_ret
      exact ⟨rfl, B1.out⟩
end Go.Proofs.YtgkhnjmbmbebiabDoor.qp

namespace Go.Proofs.YtgkhnjmbmbebiabDoor.qq
open Go.RowKit Go.PlainAid
open Go.Proofs.YtgkhnjmbmbebiabDoor.pl Go.Proofs.YtgkhnjmbmbebiabDoor.pi Go.Proofs.YtgkhnjmbmbebiabDoor.pj Go.Proofs.YtgkhnjmbmbebiabDoor.rf Go.Proofs.YtgkhnjmbmbebiabDoor.ca Go.Proofs.YtgkhnjmbmbebiabDoor.cb Go.Proofs.YtgkhnjmbmbebiabDoor.cp Go.Proofs.YtgkhnjmbmbebiabDoor.ga Go.Proofs.YtgkhnjmbmbebiabDoor.aa Go.Proofs.YtgkhnjmbmbebiabDoor.ka Go.Proofs.YtgkhnjmbmbebiabDoor.kb Go.Proofs.YtgkhnjmbmbebiabDoor.kp Go.Proofs.YtgkhnjmbmbebiabDoor.mi Go.Proofs.YtgkhnjmbmbebiabDoor.lm Go.Proofs.YtgkhnjmbmbebiabDoor.co Go.Proofs.YtgkhnjmbmbebiabDoor.cn Go.Proofs.YtgkhnjmbmbebiabDoor.dc Go.Proofs.YtgkhnjmbmbebiabDoor.de Go.Proofs.YtgkhnjmbmbebiabDoor.df Go.Proofs.YtgkhnjmbmbebiabDoor.qa Go.Proofs.YtgkhnjmbmbebiabDoor.qb Go.Proofs.YtgkhnjmbmbebiabDoor.qc Go.Proofs.YtgkhnjmbmbebiabDoor.qe Go.Proofs.YtgkhnjmbmbebiabDoor.qg Go.Proofs.YtgkhnjmbmbebiabDoor.qi Go.Proofs.YtgkhnjmbmbebiabDoor.qj Go.Proofs.YtgkhnjmbmbebiabDoor.qk Go.Proofs.YtgkhnjmbmbebiabDoor.qm Go.Proofs.YtgkhnjmbmbebiabDoor.qn Go.Proofs.YtgkhnjmbmbebiabDoor.qo Go.Proofs.YtgkhnjmbmbebiabDoor.qp Go.Proofs.YtgkhnjmbmbebiabDoor.ts
set_option linter.unusedVariables false

set_option maxHeartbeats 6400000 in
theorem rRange (wd lo n : Int) (hlo : i64 lo) (vh vp : Value) (hs proof : List ByteArray) (root : ByteArray) (w : World) (hh : ReadsT w vh hs) (hp : ReadsT w vp proof) (zh : hs.length * 16 ≤ 140737488351232) (zp : proof.length ≤ 140737488355328) (hT : Tab4 w) :
    Calls Tryd.prog 11 #[.int .i64 wd, .int .i64 lo, .int .i64 n, vh, vp, .string root] w fun e w' => e = .returned (.int .i64 (rngA wd lo n hs proof root)) ∧ Below w.heap.size w w' := by
  have HR : Hid (ReadsT w vh hs ∧ ReadsT w vp proof ∧ Tab4 w) := ⟨hh, hp, hT⟩
  obtain ⟨i9, hi9', hz0, hz1, hz2⟩ := info_parts hiE
  have HIN : Hid (_ ∧ _ ∧ _ ∧ _) := ⟨hi9', hz0, hz1, hz2⟩
  clear hi9' hz0 hz1 hz2
  obtain ⟨ha, hc, rfl, hhc, hhh⟩ := hh
  obtain ⟨pa, pc, rfl, _⟩ := hp
  have CN : Hid (∀ hi w, Calls _ _ _ _ _) := fun hi w => rCount 3 lo hi n (.slice none 0 0) [] w (qp.reads_nilI w) (by simp)
  unfold Counted at CN
  unfold rngA
  by_cases h : (cnt9 3 lo (lo + hs.length) n []).2 = 0
  · obtain ⟨A, N, rfl, rfl, n0, n1, n2, n4⟩ := rng_ok h
    rw [if_pos h, Int.toNat_natCast, Int.toNat_natCast, show ((A : Int) + hs.length).toNat = A + hs.length by omega, n4]
    have CC : Hid (∀ w, Calls _ _ _ _ _) := fun w => CN.out ((A : Int) + hs.length) w
    rw [n4] at CC
    simp only at CC ⊢
    have WC : Hid (∀ w, Calls _ _ _ _ _) := fun w => widthD wd w
    obtain ⟨b, off, rfl, hcc⟩ := hhh.resolve_left (by omega)
    have NX : Hid (∀ (W : World), Below w.heap.size w W → ∀ (j : Nat) (u : Value), (hs.map Value.string)[j]? = some u → W.cell? (Addr.add ⟨b, off, none⟩ j) = some u) := by
      intro W hW j u hu
      rw [List.getElem?_map] at hu
      obtain ⟨x, hx, rfl⟩ := Option.map_eq_some_iff.1 hu
      have hj := (List.getElem?_eq_some_iff.1 hx).1
      have c1 := hcc j hj
      rw [List.getD_eq_getElem?_getD, hx] at c1
      rw [show (Addr.add ⟨b, off, none⟩ j) = ⟨b, off + j, none⟩ by cases j <;> simp [Addr.add]]
      exact (hW.cell (World.block_lt_of_cell? _ _ c1)).trans c1
    have LK : Hid (∀ w' u, Below w.heap.size w w' → ReadsT w' u (root :: hs) → Calls _ _ _ _ _) := fun w' u hb hu => lookedD wd ((WL (lkR A (A + hs.length)) 0 N).length : Nat) _ u proof (root :: hs) w' (HR.out.2.1.later hb) hu zp (by rw [List.length_cons]; omega)
    have RD : Hid (∀ (w' : World) (B : Nat) (u : Value), w'.ownsRow B 9 1 u (1 + hs.length) ([Value.string root] ++ hs.map Value.string) → ReadsT w' u (root :: hs)) := fun w' B u ho => own_readsT (by rw [List.length_cons, Nat.add_comm]; exact ho)
    have CNT := counts A (A + hs.length) N (by omega) n1
    have GC : Hid (rH wd ((WL (lkR A (A + hs.length)) 0 N).length : Nat) proof (root :: hs) = 0 → ∀ w', Below w.heap.size w w' → Calls Tryd.prog 30 #[.int .i64 (wid wd : Nat), .int .i64 0, .int .i64 N, .int .i64 A, .int .i64 ((A : Int) + hs.length), .pointer (some ⟨w'.heap.size, 0, none⟩)] (w'.alloc (.cells #[.slice pa proof.length pc, .int .i64 0, .slice (some ⟨b, off, none⟩) hs.length hc, .int .i64 0] 55)) fun e w'' => e = .returned (.string (gp wd (lkS A (A + hs.length)) hs proof 0 N).1) ∧ Below w.heap.size w w'') := by
      intro ok w' hb
      obtain ⟨o1, o2, o3⟩ := seen_ok ok
      have t := taken_new HR.out.2.1 HR.out.1 hb HR.out.2.2
      have hb2 : Below w.heap.size w (w'.alloc (.cells #[.slice pa proof.length pc, .int .i64 0, .slice (some ⟨b, off, none⟩) hs.length hc, .int .i64 0] 55)) := hb.alloc hb.size _
      have z := rRng wd A (A + hs.length) (by omega) (by omega) w.heap.size w'.heap.size _ _ proof hs o2 o3 zp (by omega) N 0 N 0 0 _ rfl (by omega) n2 t (by rw [CNT.1]; omega) (by rw [CNT.2]; omega)
      rw [show (((A + hs.length : Nat)) : Int) = (A : Int) + hs.length by omega] at z
      refine z.mono fun e w'' q => ?_
      obtain ⟨q1, q2, q3, q4⟩ := q
      rw [List.drop_zero, List.drop_zero] at q1
      exact ⟨q1, hb2.trans (q4.below (fun b e => by subst e; exact hb.size) hb2.size)⟩
    unfold qm.seen
    obtain ⟨cn, HCN⟩ : ∃ c, Hid ((WL (lkR A (A + hs.length)) 0 N).length = c) := ⟨_, rfl⟩
    rw [HCN.out] at CC LK GC ⊢
    obtain ⟨mm, HMM⟩ : ∃ q, Hid (wid wd = q) := ⟨_, rfl⟩
    rw [HMM.out] at WC LK GC
    have hz1 : (1 + hs.length) * 16 ≤ 140737488355328 := by omega
    have hA1 : (0 : Int) ≤ A := by omega
    have hA2 : decide ((A : Int) ≤ 4611686018427387904) = true := decide_eq_true (by omega)
    have hA3 : A ≤ 4611686018427387904 := by omega
    have hwp : IntKind.i64.wrap ((A : Int) + hs.length) = (A : Int) + hs.length := by rw [IntKind.wrap_i64]; omega
    obtain ⟨x, HX⟩ : ∃ x, Hid ((gp wd (lkS A (A + hs.length)) hs proof 0 N).1 = x) := ⟨_, rfl⟩
    rw [HX.out] at GC ⊢
    have hlm : (hs.map Value.string).length = hs.length := by rw [List.length_map]
    obtain ⟨l, HL⟩ : ∃ l, Hid (hs.length = l) := ⟨_, rfl⟩
    obtain ⟨lp, HLP⟩ : ∃ l, Hid (proof.length = l) := ⟨_, rfl⟩
    rw [HL.out] at CC RD GC hz1 hhc hlm hwp n1 ⊢
    rw [HLP.out] at LK GC ⊢
    have HLM : Hid ((hs.map Value.string).length = l * 1) := by show _ = _; rw [hlm, Nat.mul_one]
    clear h n4 n0 zh zp hT hcc hhh hlm CNT CN hlo
    by_cases ok : rH wd cn proof (root :: hs) = 0
    · rw [if_pos ok]
      have GC1 : Hid (∀ w', Below w.heap.size w w' → Calls _ _ _ _ _) := GC.out ok
      rw [ok] at LK
      obtain ⟨z, HZ⟩ : ∃ z : Bool, Hid (decide (x = root) = z) := ⟨_, rfl⟩
      have qz : (x.toList == root.toList) = z := by rw [beqL]; exact HZ.out
      have HE : Hid ((if x = root then (0 : Int) else 90) = if z then 0 else 90) := by
        show _ = _
        rw [← HZ.out]
        by_cases g : x = root <;> simp [g]
      rw [HE.out]
      clear HE HZ GC ok
      cases z
      all_goals (
        go_enter Tryd.func11, Tryd.ntmps11
        go_wp2_with fail
        refine (CC.out _).mono ?_
        rintro e w1 ⟨rfl, hb1⟩
        have B1 : Hid (Below w.heap.size w w1) := hb1
        clear hb1
        go_wp2_with fail
        refine (WC.out _).mono ?_
        rintro e w1' ⟨rfl, hw⟩
        subst hw
        have B2 : Hid (Below w.heap.size w (w1'.alloc (.cells #[.string root] 9))) := B1.out.alloc B1.out.size _
        have O2 : Hid ((w1'.alloc (.cells #[.string root] 9)).ownsRow w.heap.size 9 1 (.slice (some ⟨w1'.heap.size, 0, none⟩) 1 1) 1 [.string root]) := one_row w1' _ B1.out.size root
        go_wp2_with (at_builtin; refine wpList_append_own _ rfl _ _ 22 rfl w.heap.size 9 i9 (.string ByteArray.empty) 1 16 Tryd.underlying22 HIN.out.1 HIN.out.2.1 HIN.out.2.2.1 HIN.out.2.2.2 rfl (by decide) _ 1 _ rfl O2.out ⟨b, off, none⟩ l hc (hs.map Value.string) rfl HLM.out (NX.out _ B2.out) (ones _) (by unfold maxLen; omega) hz1 B2.out.size ?_; intro p' w5 ho hg hnn; obtain ⟨ga, gc, rfl⟩ := own_form ho; have B5 : Hid (Below w.heap.size w w5) := Below.grown B2.out hg B2.out.size (fun jj hj => (O2.out.lt _ hj).1); have LK1 : Hid (Calls _ _ _ _ _) := LK.out w5 _ B5.out (RD.out w5 _ _ ho); clear ho hg hnn)
        refine LK1.out.mono ?_
        rintro e w6 ⟨rfl, hw⟩
        subst hw
        have GC2 : Hid (Calls _ _ _ _ _) := GC1.out w6 B5.out
        go_wp2_with fail
        refine GC2.out.mono ?_
        rintro e w7 ⟨rfl, hb7⟩
        have B7 : Hid (Below w.heap.size w w7) := hb7
        clear hb7
        go_wp2
        go_ret
        exact ⟨by first | rfl | simp, B7.out⟩)
    · rw [if_neg ok]
      have q3 : (rH wd cn proof (root :: hs) == 0) = false := by rw [beq_eq_false_iff_ne]; exact ok
      obtain ⟨r, HRR⟩ : ∃ r, Hid (rH wd cn proof (root :: hs) = r) := ⟨_, rfl⟩
      rw [HRR.out] at LK q3 ⊢
      clear GC ok
      go_enter Tryd.func11, Tryd.ntmps11
      go_wp2_with fail
      refine (CC.out _).mono ?_
      rintro e w1 ⟨rfl, hb1⟩
      have B1 : Hid (Below w.heap.size w w1) := hb1
      clear hb1
      go_wp2_with fail
      refine (WC.out _).mono ?_
      rintro e w1' ⟨rfl, hw⟩
      subst hw
      have B2 : Hid (Below w.heap.size w (w1'.alloc (.cells #[.string root] 9))) := B1.out.alloc B1.out.size _
      have O2 : Hid ((w1'.alloc (.cells #[.string root] 9)).ownsRow w.heap.size 9 1 (.slice (some ⟨w1'.heap.size, 0, none⟩) 1 1) 1 [.string root]) := one_row w1' _ B1.out.size root
      go_wp2_with (at_builtin; refine wpList_append_own _ rfl _ _ 22 rfl w.heap.size 9 i9 (.string ByteArray.empty) 1 16 Tryd.underlying22 HIN.out.1 HIN.out.2.1 HIN.out.2.2.1 HIN.out.2.2.2 rfl (by decide) _ 1 _ rfl O2.out ⟨b, off, none⟩ l hc (hs.map Value.string) rfl HLM.out (NX.out _ B2.out) (ones _) (by unfold maxLen; omega) hz1 B2.out.size ?_; intro p' w5 ho hg hnn; obtain ⟨ga, gc, rfl⟩ := own_form ho; have B5 : Hid (Below w.heap.size w w5) := Below.grown B2.out hg B2.out.size (fun jj hj => (O2.out.lt _ hj).1); have LK1 : Hid (Calls _ _ _ _ _) := LK.out w5 _ B5.out (RD.out w5 _ _ ho); clear ho hg hnn)
      refine LK1.out.mono ?_
      rintro e w6 ⟨rfl, hw⟩
      subst hw
      go_wp2
      go_ret
      exact ⟨rfl, B5.out⟩
  · rw [if_neg h]
    obtain ⟨l1, l2⟩ := hlo
    have E1 : (lo < 0 ∨ 4611686018427387904 < lo + hs.length) → cnt9 3 lo lo n [] = cnt9 3 lo (lo + hs.length) n [] := cnt_hi
    have CA : Hid (∀ w, Calls _ _ _ _ _) := fun w => CN.out (lo + hs.length) w
    have CB : Hid (∀ w, Calls _ _ _ _ _) := fun w => CN.out lo w
    obtain ⟨c, HC⟩ : ∃ c, Hid (cnt9 3 lo (lo + hs.length) n [] = c) := ⟨_, rfl⟩
    obtain ⟨c1, c2⟩ := c
    rw [HC.out] at CA h E1 ⊢
    simp only at CA h ⊢
    have q : (c2 == 0) = false := by rw [beq_eq_false_iff_ne]; exact h
    have hl43 : hs.length ≤ 8796093022208 := by omega
    obtain ⟨lh, HLH⟩ : ∃ l, Hid (hs.length = l) := ⟨_, rfl⟩
    obtain ⟨lp, HLP⟩ : ∃ l, Hid (proof.length = l) := ⟨_, rfl⟩
    rw [HLH.out] at CA E1 hl43 ⊢
    rw [HLP.out]
    clear HR h zh zp hT hhc hhh CN
    by_cases g1 : 0 ≤ lo
    · have d1 : decide (0 ≤ lo) = true := decide_eq_true g1
      by_cases g2 : lo ≤ 4611686018427387904
      · have d2 : decide (lo ≤ 4611686018427387904) = true := decide_eq_true g2
        have hwp : IntKind.i64.wrap (lo + lh) = lo + lh := by rw [IntKind.wrap_i64]; omega
        clear g1 g2 E1
        go_enter Tryd.func11, Tryd.ntmps11
        go_wp2_with fail
        refine (CA.out _).mono ?_
        rintro e w1 ⟨rfl, hb1⟩
        have B1 : Hid (Below w.heap.size w w1) := hb1
        clear hb1
        go_wp2
        go_ret
        exact ⟨rfl, B1.out⟩
      · have d2 : decide (lo ≤ 4611686018427387904) = false := decide_eq_false g2
        rw [E1 (.inr (by omega))] at CB
        clear g1 g2 E1
        go_enter Tryd.func11, Tryd.ntmps11
        go_wp2_with fail
        refine (CB.out _).mono ?_
        rintro e w1 ⟨rfl, hb1⟩
        have B1 : Hid (Below w.heap.size w w1) := hb1
        clear hb1
        go_wp2
        go_ret
        exact ⟨rfl, B1.out⟩
    · have d1 : decide (0 ≤ lo) = false := decide_eq_false g1
      rw [E1 (.inl (by omega))] at CB
      clear g1 E1
      go_enter Tryd.func11, Tryd.ntmps11
      go_wp2_with fail
      refine (CB.out _).mono ?_
      rintro e w1 ⟨rfl, hb1⟩
      have B1 : Hid (Below w.heap.size w w1) := hb1
      clear hb1
      go_wp2
      go_ret
      exact ⟨rfl, B1.out⟩
end Go.Proofs.YtgkhnjmbmbebiabDoor.qq

namespace Go.Proofs.YtgkhnjmbmbebiabDoor.lr
open Go.RowKit Go.PlainAid
open Go.Proofs.YtgkhnjmbmbebiabDoor.pj Go.Proofs.YtgkhnjmbmbebiabDoor.rf Go.Proofs.YtgkhnjmbmbebiabDoor.ca Go.Proofs.YtgkhnjmbmbebiabDoor.cp Go.Proofs.YtgkhnjmbmbebiabDoor.cv Go.Proofs.YtgkhnjmbmbebiabDoor.ka Go.Proofs.YtgkhnjmbmbebiabDoor.mi Go.Proofs.YtgkhnjmbmbebiabDoor.df Go.Proofs.YtgkhnjmbmbebiabDoor.qp Go.Proofs.YtgkhnjmbmbebiabDoor.qq
set_option linter.unusedVariables false

set_option maxHeartbeats 3200000 in
theorem range_walk (w : World) (wd : Int) (w0 : (Lit.int .i64 wd).wf = true) (lo : Int) (w1 : (Lit.int .i64 lo).wf = true) (n : Int) (w2 : (Lit.int .i64 n).wf = true) (vh : Value) (hs : List ByteArray) (hh : ReadsT w vh hs) (hno : ∀ k c, vh = .slice none k c → c = 0) (hhs : ∀ x ∈ hs, x.size ≤ 140737488351232) (hz : hs.length * 16 ≤ 140737488351232) (vp : Value) (ps : List ByteArray) (hp : ReadsT w vp ps) (pno : ∀ k c, vp = .slice none k c → c = 0) (hps : ∀ x ∈ ps, x.size ≤ 140737488351232) (pz : ps.length * 16 ≤ 140737488351232) (root : ByteArray) (zr : root.size ≤ 140737488351232) (T : Tab4 w) :
    Calls Tryd.prog 4 #[.int .i64 wd, .int .i64 lo, .int .i64 n, vh, vp, .string root] w fun e w' => e = .returned (.bool true) ∧ Below w.heap.size w w' := by
  have hwd := i64_of w0
  have hlo := i64_of w1
  have TA : Hid (Calls _ _ _ _ _) := ts.twinC vh hs w hh hno hz
  have TB' : Hid (∀ w', Below w.heap.size w w' → Calls _ _ _ _ _) := fun w' hb => ts.twinC vp ps w' (hp.later hb) pno pz
  have PM : Hid (∀ w' a b, ReadsT w' a hs → ReadsT w' b ps → Tab w' → Calls _ _ _ _ _) := fun w' a b h2 h3 t => RangeC wd lo n hwd hlo a b hs ps root w' h2 h3 (by omega) (by omega) t
  have DM : Hid (∀ w', Below w.heap.size w w' → Calls _ _ _ _ _) := fun w' hb => rRange wd lo n hlo vh vp hs ps root w' (hh.later hb) (hp.later hb) hz (by omega) (T.down hb)
  have KA : Hid (∀ B g cp w', Below w.heap.size w w' → ts.Tw w' B g hs.length cp hs → Calls _ _ _ _ _) := fun B g cp w' hb h1 => sk.keptC B g hs.length cp vh hs w' rfl h1 (hh.later hb) (by omega)
  have KB : Hid (∀ B g cp w', Below w.heap.size w w' → ts.Tw w' B g ps.length cp ps → Calls _ _ _ _ _) := fun B g cp w' hb h1 => sk.keptC B g ps.length cp vp ps w' rfl h1 (hp.later hb) (by omega)
  have HT : Hid (Tab4 w) := T
  obtain ⟨ha, hc, rfl, _⟩ := hh
  obtain ⟨pa, pc, rfl, _⟩ := hp
  obtain ⟨lh, HLH⟩ : ∃ l, Hid (hs.length = l) := ⟨_, rfl⟩
  obtain ⟨lp, HLP⟩ : ∃ l, Hid (ps.length = l) := ⟨_, rfl⟩
  obtain ⟨d, HD⟩ : ∃ d, Hid (rngA wd lo n hs ps root = d) := ⟨_, rfl⟩
  rw [HD.out] at PM DM
  rw [HLH.out] at TA DM KA ⊢
  rw [HLP.out] at TB' DM KB ⊢
  have q : (d == d) = true := beq_self_eq_true _
  clear hno hhs hz pno hps pz zr w0 w1 w2 hwd hlo T
  go_enter Tryd.func4, Tryd.ntmps4
  go_wp2_with fail
  refine TA.out.mono ?_
  rintro e w1 ⟨⟨g1, cp1, rfl, t1⟩, hb1⟩
  have B1 : Hid (Below w.heap.size w w1) := hb1
  have TB1 : Hid (Calls _ _ _ _ _) := TB'.out w1 hb1
  have A1 : Hid (ts.Tw w1 w.heap.size g1 lh cp1 hs) := t1
  clear hb1 t1
  go_wp2_with fail
  refine TB1.out.mono ?_
  rintro e w2 ⟨⟨g2, cp2, rfl, t2⟩, hb2⟩
  have B2 : Hid (Below w.heap.size w w2) := over B1.out hb2
  have A2 : Hid (ts.Tw w2 w.heap.size g1 lh cp1 hs ∧ ts.Tw w2 w1.heap.size g2 lp cp2 ps) := ⟨A1.out.later hb2, t2⟩
  have PM1 : Hid (Calls _ _ _ _ _) := PM.out w2 _ _ (A2.out.1.reads HLH.out) (A2.out.2.reads HLP.out) (HT.out.down B2.out).t
  clear hb2 t2
  go_wp2_with fail
  refine PM1.out.mono ?_
  rintro e w4 ⟨rfl, hb4⟩
  have B4 : Hid (Below w.heap.size w w4) := over B2.out hb4
  have A4 : Hid (ts.Tw w4 w.heap.size g1 lh cp1 hs ∧ ts.Tw w4 w1.heap.size g2 lp cp2 ps) := ⟨A2.out.1.later hb4, A2.out.2.later hb4⟩
  have DM1 : Hid (Calls _ _ _ _ _) := DM.out w4 B4.out
  clear hb4
  go_wp2_with fail
  refine DM1.out.mono ?_
  rintro e w5 ⟨rfl, hb5⟩
  have B5 : Hid (Below w.heap.size w w5) := over B4.out hb5
  have A5 : Hid (ts.Tw w5 w.heap.size g1 lh cp1 hs ∧ ts.Tw w5 w1.heap.size g2 lp cp2 ps) := ⟨A4.out.1.later hb5, A4.out.2.later hb5⟩
  have KA1 : Hid (Calls _ _ _ _ _) := KA.out _ _ _ w5 B5.out A5.out.1
  clear hb5
  go_wp2_with fail
  refine KA1.out.mono ?_
  rintro e w6 ⟨rfl, m6, hw6⟩
  have hb6 : Below w5.heap.size w5 w6 := by rw [hw6]; exact below_dw _ _
  have B6 : Hid (Below w.heap.size w w6) := over B5.out hb6
  have KB1 : Hid (Calls _ _ _ _ _) := KB.out _ _ _ w6 B6.out (A5.out.2.later hb6)
  clear hw6 hb6
  go_wp2_with fail
  refine KB1.out.mono ?_
  rintro e w7 ⟨rfl, m7, hw7⟩
  have B7 : Hid (Below w.heap.size w w7) := by rw [hw7]; exact over B6.out (below_dw _ _)
  clear hw7
  go_wp2
  go_ret
  exact ⟨by first | rfl | simp, B7.out⟩
end Go.Proofs.YtgkhnjmbmbebiabDoor.lr
