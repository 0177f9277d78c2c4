import Derived.Test.YtgkhnjmbmbebiaaDoorG1
import Derived.Test.YtgkhnjmbmbebiaaDoorG3
import Derived.Test.YtgkhnjmbmbebiaaDoorG6
import Derived.Test.YtgkhnjmbmbebiaaDoorG4
import Derived.ArgAppend
import Derived.Deep.DeepAppendRoom
import Derived.Deep.DeepCutAuto
namespace Go.Proofs.YtgkhnjmbmbebiaaDoor.ad
open Go.Proofs.YtgkhnjmbmbebiaaDoor.ca Go.Proofs.YtgkhnjmbmbebiaaDoor.cb Go.Proofs.YtgkhnjmbmbebiaaDoor.ga Go.Proofs.YtgkhnjmbmbebiaaDoor.aa Go.Proofs.YtgkhnjmbmbebiaaDoor.ab
set_option linter.unusedVariables false

section
variable (ok : ByteArray → Bool) (fo : List ByteArray → ByteArray) (ask : Nat → Nat × Nat → ByteArray × Int)
-- all is answered
theorem tell_all (hs : Nat × Nat → ByteArray) (cs : List (Nat × Nat)) : ∀ l, (∀ a ∈ cs, ∀ k, ask k a = (hs a, 0) ∧ ok (hs a) = true) → tell ok ask l cs = (cs.map hs, 0, l ++ cs) := by
  induction cs with
  | nil => intro l _; rw [List.append_nil]; rfl
  | cons a r ih =>
    intro l h
    have ha := fun k => h a (List.mem_cons_self ..) k
    rw [tell_yes ok ask (by rw [(ha _).1]) (by rw [(ha _).1]; exact (ha 0).2), (ha _).1, ih _ (fun b hb => h b (List.mem_cons_of_mem _ hb)), List.append_assoc]
    rfl
theorem hash_all (hs : Nat × Nat → ByteArray) (p : Nat × Nat) (l : List (Nat × Nat)) (h : ∀ a ∈ cov p.1 p.2, ∀ k, ask k a = (hs a, 0) ∧ ok (hs a) = true) : hashP ok fo ask l p = (fo ((cov p.1 p.2).map hs), 0, l ++ cov p.1 p.2) := by
  unfold hashP
  rw [tell_all ok ask hs _ l h]
  rfl
theorem told_all (hs : Nat × Nat → ByteArray) (ps : List (Nat × Nat)) : ∀ l, (∀ p ∈ ps, ∀ a ∈ cov p.1 p.2, ∀ k, ask k a = (hs a, 0) ∧ ok (hs a) = true) → told ok fo ask l ps = (ps.map (fun p => fo ((cov p.1 p.2).map hs)), 0, l ++ ps.flatMap (fun p => cov p.1 p.2)) := by
  induction ps with
  | nil => intro l _; simp [told]
  | cons p r ih =>
    intro l h
    have hp := hash_all ok fo ask hs p l (h p (List.mem_cons_self ..))
    rw [told_yes ok fo ask (by rw [hp]), hp, ih _ (fun q hq => h q (List.mem_cons_of_mem _ hq))]
    simp
end
section
variable {α : Type} (E : α) (N : α → α → α)
-- parts of a tree: they begin at a multiple of a power that they do not pass
def Pt (a b : Nat) : Prop := ∃ j, j ≤ 62 ∧ 2 ^ j ∣ a ∧ b - a ≤ 2 ^ j
theorem pt_top {n : Nat} (h : n ≤ 4611686018427387904) : Pt 0 n := ⟨62, Nat.le_refl _, Nat.dvd_zero _, by rw [show (2 : Nat) ^ 62 = 4611686018427387904 from by decide]; omega⟩
theorem pt_half {a b : Nat} (h : Pt a b) (h2 : 2 ≤ b - a) : Pt a (a + half (b - a)) ∧ Pt (a + half (b - a)) b := by
  obtain ⟨j, hj, hd, hl⟩ := h
  obtain ⟨i, e, g1, g2⟩ := half_is h2
  have hij : i < j := p2lt (by omega)
  rw [e]
  have hd' : 2 ^ i ∣ a := Nat.dvd_trans (p2dvd (by omega)) hd
  refine ⟨⟨i, by omega, hd', by omega⟩, ⟨i, by omega, Nat.dvd_add hd' (Nat.dvd_refl _), ?_⟩⟩
  rw [p2s] at g2
  omega
theorem part_root (L : List α) {a b : Nat} (h : Pt a b) (hab : a ≤ b) (hL : b ≤ L.length) : foldP E N ((cov a b).map fun x => rootP E N (piece L x)) = rootP E N ((L.drop a).take (b - a)) := by
  obtain ⟨j, hj, hd, hl⟩ := h
  rcases Nat.lt_or_ge (b - a) (2 ^ j) with g | g
  · have := fold_roots E N L (b - a) j a hd g (by omega) (by omega)
    rwa [show a + (b - a) = b by omega] at this
  · have hlt : a < b := by have := p2 j; omega
    have e : b - a = 2 ^ j := by omega
    have e2 : cov a b = [(j, a / 2 ^ j)] := by
      rw [cov_at (k := j) hlt ⟨hj, hd, by omega, .inr (.inr (by rw [p2s]; have := p2 j; omega))⟩, cov_end (by omega)]
    rw [e2, e]
    show rootP E N (piece L (j, a / 2 ^ j)) = _
    show rootP E N ((L.drop (a / 2 ^ j * 2 ^ j)).take (2 ^ j)) = _
    rw [Nat.div_mul_cancel hd]
def rt (L : List α) (p : Nat × Nat) : α := rootP E N ((L.drop p.1).take (p.2 - p.1))
theorem mid_len (L : List α) {a b : Nat} (hL : b ≤ L.length) : ((L.drop a).take (b - a)).length = b - a := by rw [List.length_take, List.length_drop]; omega
theorem mid_front (L : List α) {a k b : Nat} (h : k ≤ b) : ((L.drop a).take (b - a)).take (k - a) = (L.drop a).take (k - a) := by rw [List.take_take, Nat.min_eq_left (by omega)]
theorem mid_back (L : List α) {a k b : Nat} (h1 : a ≤ k) (h : k ≤ b) : ((L.drop a).take (b - a)).drop (k - a) = (L.drop k).take (b - k) := by
  rw [List.drop_take, List.drop_drop, show a + (k - a) = k by omega, show b - a - (k - a) = b - k by omega]
theorem path_parts (L : List α) (i : Nat) (n : Nat) : ∀ a b, b - a = n → a ≤ i → i < b → b ≤ L.length → (WL (lkI i) a b).map (rt E N L) = pathP E N (i - a) ((L.drop a).take (b - a)) := by
  induction n using Nat.strongRecOn with
  | ind n ih =>
    intro a b hn h1 h2 hL
    have hl := mid_len L (a := a) hL
    by_cases h : 2 ≤ b - a
    · have hh := half_lt h
      by_cases hi : i < a + half (b - a)
      · rw [WL_left (by unfold lkI; rw [if_pos ⟨h1, h2⟩, if_neg (by omega), if_pos hi]) h, List.map_append, ih (half (b - a)) (by omega) a (a + half (b - a)) (by omega) h1 hi (by omega), WL_take (lk := lkI i) (a := a + half (b - a)) (by unfold lkI; rw [if_neg (by omega)]), pathP_low E N (l := (L.drop a).take (b - a)) (by rw [hl]; exact h) (by rw [hl]; omega), hl]
        have e1 := mid_front L (a := a) (k := a + half (b - a)) (b := b) (by omega)
        have e2 := mid_back L (a := a) (k := a + half (b - a)) (b := b) (by omega) (by omega)
        rw [Nat.add_sub_cancel_left] at e1 e2
        rw [e1, e2, Nat.add_sub_cancel_left]
        rfl
      · rw [WL_right (by unfold lkI; rw [if_pos ⟨h1, h2⟩, if_neg (by omega), if_neg hi]; omega) h, List.map_append, ih (b - a - half (b - a)) (by omega) (a + half (b - a)) b (by omega) (by omega) h2 hL, WL_take (lk := lkI i) (a := a) (by unfold lkI; rw [if_neg (by omega)]), pathP_high E N (l := (L.drop a).take (b - a)) (by rw [hl]; exact h) (by rw [hl]; omega), hl]
        have e1 := mid_front L (a := a) (k := a + half (b - a)) (b := b) (by omega)
        have e2 := mid_back L (a := a) (k := a + half (b - a)) (b := b) (by omega) (by omega)
        rw [Nat.add_sub_cancel_left] at e1 e2
        rw [e1, e2, show i - a - half (b - a) = i - (a + half (b - a)) by omega]
        show _ ++ [rt E N L (a, a + half (b - a))] = _
        unfold rt
        rw [Nat.add_sub_cancel_left]
    · rw [WL_pass (by unfold lkI; rw [if_pos ⟨h1, h2⟩, if_pos (by omega)]), pathP_one E N (by rw [hl]; exact h)]
      rfl
theorem sub_parts (L : List α) (m : Nat) (n : Nat) : ∀ a b, b - a = n → a < m → m ≤ b → b ≤ L.length → (WL (lkC m) a b).map (rt E N L) = subP E N (m - a) ((L.drop a).take (b - a)) (a == 0) := by
  induction n using Nat.strongRecOn with
  | ind n ih =>
    intro a b hn h1 h2 hL
    have hl := mid_len L (a := a) hL
    by_cases hb : m = b
    · rw [subP_all E N (by rw [hl]; omega)]
      by_cases ha : a = 0
      · rw [WL_pass (by unfold lkC; rw [if_pos ⟨ha, hb.symm⟩]), ha]
        rfl
      · rw [WL_take (by unfold lkC; rw [if_neg (by omega), if_pos (by omega)]), if_neg (by simpa using ha)]
        rfl
    · have h : 2 ≤ b - a := by omega
      have hh := half_lt h
      have e1 := mid_front L (a := a) (k := a + half (b - a)) (b := b) (by omega)
      have e2 := mid_back L (a := a) (k := a + half (b - a)) (b := b) (by omega) (by omega)
      rw [Nat.add_sub_cancel_left] at e1 e2
      by_cases hm : m ≤ a + half (b - a)
      · rw [WL_left (by unfold lkC; rw [if_neg (by omega), if_neg (by omega), if_pos (by omega)]) h, List.map_append, ih (half (b - a)) (by omega) a (a + half (b - a)) (by omega) h1 hm (by omega), WL_take (lk := lkC m) (a := a + half (b - a)) (by unfold lkC; rw [if_neg (by omega), if_pos (by omega)]), subP_low E N (l := (L.drop a).take (b - a)) (by rw [hl]; omega) (by rw [hl]; exact h) (by rw [hl]; omega), hl, e1, e2, Nat.add_sub_cancel_left]
        rfl
      · rw [WL_right (by unfold lkC; rw [if_neg (by omega), if_neg (by omega), if_neg (by omega)]; omega) h, List.map_append, ih (b - a - half (b - a)) (by omega) (a + half (b - a)) b (by omega) (by omega) h2 hL, WL_take (lk := lkC m) (a := a) (by unfold lkC; rw [if_neg (by omega), if_pos (by omega)]), show (a + half (b - a) == 0) = false by rw [beq_eq_false_iff_ne]; omega, subP_high E N (l := (L.drop a).take (b - a)) (by rw [hl]; omega) (by rw [hl]; exact h) (by rw [hl]; omega), hl, e1, e2, show m - a - half (b - a) = m - (a + half (b - a)) by omega]
        show _ ++ [rt E N L (a, a + half (b - a))] = _
        unfold rt
        rw [Nat.add_sub_cancel_left]
end
-- every part of the walk is a part of the tree
theorem WL_pt (lk : Nat → Nat → Nat) (n : Nat) : ∀ a b, b - a = n → a ≤ b → Pt a b → ∀ p ∈ WL lk a b, Pt p.1 p.2 ∧ p.1 ≤ p.2 ∧ p.2 ≤ b := by
  induction n using Nat.strongRecOn with
  | ind n ih =>
    intro a b hn hab hpt p hp
    by_cases h0 : lk a b = 0
    · rw [WL_pass h0] at hp; cases hp
    · by_cases h1 : lk a b = 1
      · rw [WL_take h1] at hp
        rcases List.mem_cons.1 hp with rfl | hp
        · exact ⟨hpt, hab, Nat.le_refl _⟩
        · cases hp
      · by_cases h : 2 ≤ b - a
        · have hh := half_lt h
          obtain ⟨p1, p2⟩ := pt_half hpt h
          have key : p ∈ WL lk a (a + half (b - a)) ∨ p ∈ WL lk (a + half (b - a)) b := by
            by_cases h2 : lk a b = 2
            · rw [WL_left h2 h] at hp
              exact List.mem_append.1 hp
            · rw [WL_right (by omega) h] at hp
              exact (List.mem_append.1 hp).symm
          rcases key with g | g
          · have := ih (half (b - a)) (by omega) a (a + half (b - a)) (by omega) (by omega) p1 p g
            exact ⟨this.1, this.2.1, by omega⟩
          · exact ih (b - a - half (b - a)) (by omega) (a + half (b - a)) b (by omega) (by omega) p2 p g
        · rw [WL, if_neg h0, if_neg h1, dif_neg h] at hp
          cases hp
end Go.Proofs.YtgkhnjmbmbebiaaDoor.ad

namespace Go.Proofs.YtgkhnjmbmbebiaaDoor.ae
open Go.Proofs.YtgkhnjmbmbebiaaDoor.ca Go.Proofs.YtgkhnjmbmbebiaaDoor.cb Go.Proofs.YtgkhnjmbmbebiaaDoor.ga Go.Proofs.YtgkhnjmbmbebiaaDoor.aa Go.Proofs.YtgkhnjmbmbebiaaDoor.ab Go.Proofs.YtgkhnjmbmbebiaaDoor.ad
set_option linter.unusedVariables false

-- a part of a walk is covered by 62 nodes at most
theorem digs_len (j : Nat) : ∀ h, (digs j h).length ≤ j := by
  induction j with
  | zero => intro h; simp [digs]
  | succ j ih =>
    intro h
    show (if h / 2 ^ j % 2 = 1 then _ else _ : List Nat).length ≤ _
    split
    · simp only [List.length_cons]; have := ih h; omega
    · have := ih h; omega
theorem cov62 {a b : Nat} (h : Pt a b) (hab : a ≤ b) : (cov a b).length ≤ 62 := by
  obtain ⟨j, hj, hd, hl⟩ := h
  rcases Nat.lt_or_ge (b - a) (2 ^ j) with g | g
  · have e := congrArg List.length (cov_digs j a (b - a) hd g (by omega))
    rw [List.length_map, show a + (b - a) = b by omega] at e
    have := digs_len j (b - a)
    omega
  · have hlt : a < b := by have := p2 j; omega
    have e : b - a = 2 ^ j := by omega
    have e2 : cov a b = [(j, a / 2 ^ j)] := by
      rw [cov_at (k := j) hlt ⟨hj, hd, by omega, .inr (.inr (by rw [p2s]; have := p2 j; omega))⟩, cov_end (by omega)]
    rw [e2]
    simp
section
variable (ok : ByteArray → Bool) (fo : List ByteArray → ByteArray) (ask : Nat → Nat × Nat → ByteArray × Int)
-- all is answered, whatever its number from 1 on
theorem tell_all1 (hs : Nat × Nat → ByteArray) (cs : List (Nat × Nat)) : ∀ l, (∀ a ∈ cs, ∀ k, ask (k + 1) a = (hs a, 0) ∧ ok (hs a) = true) → tell ok ask l cs = (cs.map hs, 0, l ++ cs) := by
  induction cs with
  | nil => intro l _; rw [List.append_nil]; rfl
  | cons a r ih =>
    intro l h
    have ha := fun k => h a (List.mem_cons_self ..) k
    rw [tell_yes ok ask (by rw [(ha _).1]) (by rw [(ha _).1]; exact (ha 0).2), (ha _).1, ih _ (fun b hb => h b (List.mem_cons_of_mem _ hb)), List.append_assoc]
    rfl
theorem hash_all1 (hs : Nat × Nat → ByteArray) (p : Nat × Nat) (l : List (Nat × Nat)) (h : ∀ a ∈ cov p.1 p.2, ∀ k, ask (k + 1) a = (hs a, 0) ∧ ok (hs a) = true) : hashP ok fo ask l p = (fo ((cov p.1 p.2).map hs), 0, l ++ cov p.1 p.2) := by
  unfold hashP
  rw [tell_all1 ok ask hs _ l h]
  rfl
theorem told_all1 (hs : Nat × Nat → ByteArray) (ps : List (Nat × Nat)) : ∀ l, (∀ p ∈ ps, ∀ a ∈ cov p.1 p.2, ∀ k, ask (k + 1) a = (hs a, 0) ∧ ok (hs a) = true) → told ok fo ask l ps = (ps.map (fun p => fo ((cov p.1 p.2).map hs)), 0, l ++ ps.flatMap (fun p => cov p.1 p.2)) := by
  induction ps with
  | nil => intro l _; simp [told]
  | cons p r ih =>
    intro l h
    have hp := hash_all1 ok fo ask hs p l (h p (List.mem_cons_self ..))
    rw [told_yes ok fo ask (by rw [hp]), hp, ih _ (fun q hq => h q (List.mem_cons_of_mem _ hq))]
    simp
theorem asked62 (hs : Nat × Nat → ByteArray) (lk : Nat → Nat → Nat) (n : Nat) (hn : n ≤ 4611686018427387904) (h : ∀ p ∈ WL lk 0 n, ∀ a ∈ cov p.1 p.2, ∀ k, ask (k + 1) a = (hs a, 0) ∧ ok (hs a) = true) :
    (told ok fo ask [] (WL lk 0 n)).2.1 = 0 ∧ (told ok fo ask [] (WL lk 0 n)).1.length = (WL lk 0 n).length ∧ (told ok fo ask [] (WL lk 0 n)).2.2.length ≤ 62 * (WL lk 0 n).length := by
  rw [told_all1 ok fo ask hs _ _ h]
  refine ⟨rfl, by simp, ?_⟩
  have hp := WL_pt lk n 0 n rfl (Nat.zero_le _) (pt_top hn)
  generalize WL lk 0 n = ps at hp
  induction ps with
  | nil => simp
  | cons p r ih =>
    have h1 := hp p (List.mem_cons_self ..)
    have h2 := cov62 h1.1 h1.2.1
    have h3 := ih (fun q hq => hp q (List.mem_cons_of_mem _ hq))
    simp only [List.nil_append, List.flatMap_cons, List.length_append, List.length_cons] at h3 ⊢
    omega
end
-- a range's walk is that of its places
theorem all_in (ps : List Nat) (n : Nat) : ∀ a b, b - a = n → a < b → (∀ p, a ≤ p → p < b → p ∈ ps) → WL (lkM ps) a b = [] := by
  induction n using Nat.strongRecOn with
  | ind n ih =>
    intro a b hn hab hp
    have hex : ∃ p ∈ ps, a ≤ p ∧ p < b := ⟨a, hp a (Nat.le_refl _) hab, Nat.le_refl _, hab⟩
    by_cases h : 2 ≤ b - a
    · have hh := half_lt h
      rw [WL_left (by unfold lkM; rw [if_pos hex, if_neg (by omega)]) h, ih (half (b - a)) (by omega) a (a + half (b - a)) (by omega) (by omega) (fun p h1 h2 => hp p h1 (by omega)), ih (b - a - half (b - a)) (by omega) (a + half (b - a)) b (by omega) (by omega) (fun p h1 h2 => hp p (by omega) h2)]
      rfl
    · rw [WL_pass (by unfold lkM; rw [if_pos hex, if_pos (by omega)])]
theorem range_multi (ps : List Nat) (lo hi : Nat) (hlh : lo < hi) (hps : ∀ p, p ∈ ps ↔ lo ≤ p ∧ p < hi) (n : Nat) : ∀ a b, b - a = n → a < b → WL (lkR lo hi) a b = WL (lkM ps) a b := by
  induction n using Nat.strongRecOn with
  | ind n ih =>
    intro a b hn hab
    by_cases h1 : b ≤ lo ∨ hi ≤ a
    · rw [WL_take (by unfold lkR; rw [if_pos h1]), WL_take (by
        unfold lkM
        rw [if_neg]
        rintro ⟨p, hp, g1, g2⟩
        have := (hps p).1 hp
        omega)]
    · by_cases h2 : lo ≤ a ∧ b ≤ hi
      · rw [WL_pass (by unfold lkR; rw [if_neg h1, if_pos h2]), all_in ps (b - a) a b rfl hab (fun p g1 g2 => (hps p).2 ⟨by omega, by omega⟩)]
      · have h : 2 ≤ b - a := by omega
        have hh := half_lt h
        have hex : ∃ p ∈ ps, a ≤ p ∧ p < b := ⟨max a lo, (hps _).2 ⟨by omega, by omega⟩, by omega, by omega⟩
        rw [WL_left (by unfold lkR; rw [if_neg h1, if_neg h2]) h, WL_left (lk := lkM ps) (by unfold lkM; rw [if_pos hex, if_neg (by omega)]) h, ih (half (b - a)) (by omega) a (a + half (b - a)) (by omega) (by omega), ih (b - a - half (b - a)) (by omega) (a + half (b - a)) b (by omega) (by omega)]
-- an inclusion proof's walk is that of one place, in another order
theorem incl_multi (i : Nat) (n : Nat) : ∀ a b, b - a = n → a < b → (WL (lkI i) a b).Perm (WL (lkM [i]) a b) := by
  induction n using Nat.strongRecOn with
  | ind n ih =>
    intro a b hn hab
    by_cases h1 : a ≤ i ∧ i < b
    · have hex : ∃ p ∈ [i], a ≤ p ∧ p < b := ⟨i, List.mem_singleton_self _, h1⟩
      by_cases h : 2 ≤ b - a
      · have hh := half_lt h
        have i1 := ih (half (b - a)) (by omega) a (a + half (b - a)) (by omega) (by omega)
        have i2 := ih (b - a - half (b - a)) (by omega) (a + half (b - a)) b (by omega) (by omega)
        rw [WL_left (lk := lkM [i]) (by unfold lkM; rw [if_pos hex, if_neg (by omega)]) h]
        by_cases h2 : i < a + half (b - a)
        · rw [WL_left (by unfold lkI; rw [if_pos h1, if_neg (by omega), if_pos h2]) h]
          exact i1.append i2
        · rw [WL_right (by unfold lkI; rw [if_pos h1, if_neg (by omega), if_neg h2]; exact Nat.le_refl _) h]
          exact (List.perm_append_comm).trans (i1.append i2)
      · rw [WL_pass (by unfold lkI; rw [if_pos h1, if_pos (by omega)]), WL_pass (by unfold lkM; rw [if_pos hex, if_pos (by omega)])]
    · rw [WL_take (by unfold lkI; rw [if_neg h1]), WL_take (by
        unfold lkM
        rw [if_neg]
        rintro ⟨p, hp, g1, g2⟩
        obtain rfl := List.mem_singleton.1 hp
        exact h1 ⟨g1, g2⟩)]
-- how often a text stands in two lists of which one is the other in another order
theorem perm_count {α : Type} [BEq α] {l r : List α} (h : l.Perm r) (x : α) : l.countP (· == x) = r.countP (· == x) := h.countP_eq _
end Go.Proofs.YtgkhnjmbmbebiaaDoor.ae

namespace Go.Proofs.YtgkhnjmbmbebiaaDoor.sr
open Go.RowKit Go.PlainAid
open Go.Proofs.YtgkhnjmbmbebiaaDoor.ca Go.Proofs.YtgkhnjmbmbebiaaDoor.cb Go.Proofs.YtgkhnjmbmbebiaaDoor.cp Go.Proofs.YtgkhnjmbmbebiaaDoor.ga Go.Proofs.YtgkhnjmbmbebiaaDoor.aa Go.Proofs.YtgkhnjmbmbebiaaDoor.ab Go.Proofs.YtgkhnjmbmbebiaaDoor.ae Go.Proofs.YtgkhnjmbmbebiaaDoor.xa Go.Proofs.YtgkhnjmbmbebiaaDoor.xb Go.Proofs.YtgkhnjmbmbebiaaDoor.xc Go.Proofs.YtgkhnjmbmbebiaaDoor.mi Go.Proofs.YtgkhnjmbmbebiaaDoor.lm Go.Proofs.YtgkhnjmbmbebiaaDoor.co Go.Proofs.YtgkhnjmbmbebiaaDoor.cn
set_option linter.unusedVariables false

def cl2 (n : Nat) : Nat := Lib.bitLen (n - 1)
theorem cl2_spec {n : Nat} (h : 1 ≤ n) (hn : n ≤ 4611686018427387904) : cl2 n ≤ 62 ∧ n ≤ 2 ^ cl2 n ∧ (n = 1 ∨ (1 ≤ cl2 n ∧ 2 ^ (cl2 n - 1) < n)) := by
  unfold cl2
  obtain ⟨h1, h2⟩ := len_spec (n - 1) (by omega)
  refine ⟨?_, by omega, ?_⟩
  · rcases Nat.eq_or_lt_of_le h with e | e
    · rw [← e, Nat.sub_self, bitLen_zero]; omega
    · obtain ⟨g1, g2⟩ := h2 (by omega)
      refine Nat.le_of_not_lt fun g => ?_
      have : 2 ^ 62 ≤ 2 ^ (Lib.bitLen (n - 1) - 1) := Nat.pow_le_pow_right (by decide) (by omega)
      have e62 : (2 : Nat) ^ 62 = 4611686018427387904 := by decide
      omega
  · rcases Nat.eq_or_lt_of_le h with e | e
    · exact .inl e.symm
    · obtain ⟨g1, g2⟩ := h2 (by omega)
      exact .inr ⟨g2, by omega⟩
-- the ceiling of whatever number
def clI (n : Int) : Int := if n ≤ 1 then 0 else (Lib.bitLen (n - 1).toNat : Nat)
theorem clI_is {n : Nat} (h : 1 ≤ n) : clI n = (cl2 n : Nat) := by
  unfold clI cl2
  by_cases h1 : n = 1
  · subst h1; rw [if_pos (by omega), show 1 - 1 = 0 from rfl, bitLen_zero]; rfl
  · rw [if_neg (by omega), show ((n : Int) - 1).toNat = n - 1 by omega]
theorem clI_zero : clI 0 = 0 := rfl
theorem ceilI (n : Int) (hn : i64 n) (w : World) : Calls Tryd.prog 8 #[.int .i64 n] w fun e w' => e = .returned (.int .i64 (clI n)) ∧ w' = w := by
  obtain ⟨n1, n2⟩ := hn
  by_cases h1 : n ≤ 1
  · rw [show clI n = 0 by unfold clI; rw [if_pos h1]]
    have d1 : decide (n ≤ 1) = true := decide_eq_true h1
    clear h1
    go_enter Tryd.func8, Tryd.ntmps8
    go_wp2
    go_ret
    exact ⟨by first | rfl | simp, rfl⟩
  · have BC : Hid (∀ w, Calls _ _ _ _ _) := fun w => bits_any (n - 1) w (by omega) (by omega)
    have d1 : decide (n ≤ 1) = false := decide_eq_false h1
    rw [show clI n = (Lib.bitLen (n - 1).toNat : Nat) by unfold clI; rw [if_neg h1]]
    obtain ⟨r, HR⟩ : ∃ r, Hid (Lib.bitLen (n - 1).toNat = r) := ⟨_, rfl⟩
    rw [HR.out] at BC ⊢
    go_enter Tryd.func8, Tryd.ntmps8
    go_wp2_with fail
    refine (BC.out _).mono ?_
    rintro e w1 ⟨rfl, rfl⟩
    go_wp2
    go_ret
    exact ⟨rfl, rfl⟩
-- how many at most
theorem ref_n {kind a b n : Int} {xs : List Int} (h : ref9 kind a b n xs = 0) : 0 ≤ n ∧ n ≤ 4611686018427387904 := by
  unfold ref9 at h
  by_cases k1 : kind < 1 ∨ 4 < kind
  · rw [if_pos k1] at h; omega
  rw [if_neg k1] at h
  by_cases k2 : n < 0 ∨ 4611686018427387904 < n
  · rw [if_pos k2] at h; omega
  omega
theorem most2 {a n : Int} (h : ref9 2 a 0 n [] = 0) : ((num9 2 a 0 n [] : Nat) : Int) ≤ clI n + 1 ∧ clI n ≤ 62 ∧ 0 ≤ clI n := by
  obtain ⟨n1, n2⟩ := ref_n h
  obtain ⟨N, rfl⟩ : ∃ N : Nat, n = N := ⟨n.toNat, by omega⟩
  unfold ref9 at h
  rw [if_neg (by omega), if_neg (by omega), if_neg (by omega), if_pos rfl] at h
  by_cases g : a < 0 ∨ (N : Int) < a
  · rw [if_pos g] at h; omega
  obtain ⟨A, rfl⟩ : ∃ A : Nat, a = A := ⟨a.toNat, by omega⟩
  unfold num9
  rw [if_neg (by omega), if_pos rfl, Int.toNat_natCast, Int.toNat_natCast]
  by_cases hN : N = 0
  · subst hN
    rw [if_pos (by omega)]
    simp [clI]
  · have hc := cl2_spec (n := N) (by omega) (by omega)
    rw [clI_is (by omega)]
    by_cases hA : A = 0
    · rw [if_pos (by omega)]; omega
    · rw [if_neg (by omega)]
      have := cons_len A (cl2 N) 0 N (by omega) (by omega) (by omega)
      omega
theorem most3 {a b n : Int} (h : ref9 3 a b n [] = 0) : ((num9 3 a b n [] : Nat) : Int) ≤ 2 * clI n ∧ clI n ≤ 62 ∧ 0 ≤ clI n := by
  obtain ⟨n1, n2⟩ := ref_n h
  obtain ⟨N, rfl⟩ : ∃ N : Nat, n = N := ⟨n.toNat, by omega⟩
  unfold ref9 at h
  rw [if_neg (by omega), if_neg (by omega), if_neg (by omega), if_neg (by omega), if_pos rfl] at h
  by_cases g : a < 0 ∨ b ≤ a ∨ (N : Int) < b
  · rw [if_pos g] at h; omega
  obtain ⟨A, rfl⟩ : ∃ A : Nat, a = A := ⟨a.toNat, by omega⟩
  obtain ⟨B, rfl⟩ : ∃ B : Nat, b = B := ⟨b.toNat, by omega⟩
  have hc := cl2_spec (n := N) (by omega) (by omega)
  rw [clI_is (by omega)]
  unfold num9
  rw [if_neg (by omega), if_neg (by omega), if_pos rfl, Int.toNat_natCast, Int.toNat_natCast, Int.toNat_natCast]
  have := out_len A B (cl2 N) 0 N (by omega) (by omega) (by omega) (by omega)
  omega
theorem most4 {n : Int} {xs : List Int} (h : ref9 4 0 0 n xs = 0) : ((num9 4 0 0 n xs : Nat) : Int) ≤ xs.length * clI n ∧ clI n ≤ 62 ∧ 0 ≤ clI n ∧ xs.length ≤ 1024 := by
  obtain ⟨n1, n2⟩ := ref_n h
  obtain ⟨N, rfl⟩ : ∃ N : Nat, n = N := ⟨n.toNat, by omega⟩
  unfold ref9 at h
  rw [if_neg (by omega), if_neg (by omega), if_neg (by omega), if_neg (by omega), if_neg (by omega)] at h
  obtain ⟨z1, z2, z3, z4⟩ := places_ok h
  have hN : 1 ≤ N := by have := z3 0 (by omega); omega
  have hc := cl2_spec (n := N) hN (by omega)
  rw [clI_is hN]
  unfold num9
  rw [if_neg (by omega), if_neg (by omega), if_neg (by omega), Int.toNat_natCast]
  have hne : inM (natL xs) 0 N ≠ [] := by
    intro e
    refine (inM_nil _ _ _).1 e ?_
    have h0 := z3 0 (by omega)
    exact ⟨_, natL_mem (j := 0) (by omega), by omega, by omega⟩
  have hl := multi_len (natL xs) (cl2 N) 0 N (by omega) (by omega) hne
  have h5 : (inM (natL xs) 0 N).length ≤ xs.length := by
    unfold inM
    refine Nat.le_trans (List.length_filter_le _ _) ?_
    unfold natL
    rw [List.length_map]
    exact Nat.le_refl _
  have h6 := Nat.le_trans hl (Nat.mul_le_mul_right _ h5)
  refine ⟨by exact_mod_cast h6, by omega, by omega, z2⟩
-- one leaf, three ways
theorem alike {a n : Int} (h : ref9 1 a 0 n [] = 0) : 0 ≤ a ∧ a < n ∧ n ≤ 4611686018427387904 ∧ ref9 3 a (a + 1) n [] = 0 ∧ ref9 4 0 0 n [a] = 0 ∧ num9 3 a (a + 1) n [] = num9 1 a 0 n [] ∧ num9 4 0 0 n [a] = num9 1 a 0 n [] := by
  obtain ⟨n1, n2⟩ := ref_n h
  obtain ⟨N, rfl⟩ : ∃ N : Nat, n = N := ⟨n.toNat, by omega⟩
  unfold ref9 at h
  rw [if_neg (by omega), if_neg (by omega), if_pos rfl] at h
  by_cases g : a < 0 ∨ (N : Int) ≤ a
  · rw [if_pos g] at h; omega
  obtain ⟨A, rfl⟩ : ∃ A : Nat, a = A := ⟨a.toNat, by omega⟩
  have hp := (incl_multi A N 0 N rfl (by omega)).length_eq
  refine ⟨by omega, by omega, by omega, ?_, ?_, ?_, ?_⟩
  · unfold ref9
    rw [if_neg (by omega), if_neg (by omega), if_neg (by omega), if_neg (by omega), if_pos rfl, if_neg (by omega)]
  · unfold ref9
    rw [if_neg (by omega), if_neg (by omega), if_neg (by omega), if_neg (by omega), if_neg (by omega)]
    simp [places, scan, bad]
    omega
  · unfold num9
    rw [if_neg (by omega), if_neg (by omega), if_pos rfl, if_pos rfl, show ((A : Int) + 1).toNat = A + 1 by omega, Int.toNat_natCast, Int.toNat_natCast, range_multi [A] A (A + 1) (by omega) (fun p => by simp; omega) N 0 N rfl (by omega), hp]
  · unfold num9
    rw [if_neg (by omega), if_neg (by omega), if_neg (by omega), if_pos rfl, Int.toNat_natCast, Int.toNat_natCast, hp]
    unfold natL
    rw [List.map_cons, Int.toNat_natCast, List.map_nil]
end Go.Proofs.YtgkhnjmbmbebiaaDoor.sr

namespace Go.Proofs.YtgkhnjmbmbebiaaDoor.lb
open Go.RowKit Go.PlainAid
open Go.Proofs.YtgkhnjmbmbebiaaDoor.ab Go.Proofs.YtgkhnjmbmbebiaaDoor.pl Go.Proofs.YtgkhnjmbmbebiaaDoor.pi Go.Proofs.YtgkhnjmbmbebiaaDoor.pj Go.Proofs.YtgkhnjmbmbebiaaDoor.rf Go.Proofs.YtgkhnjmbmbebiaaDoor.ca Go.Proofs.YtgkhnjmbmbebiaaDoor.cb Go.Proofs.YtgkhnjmbmbebiaaDoor.cp Go.Proofs.YtgkhnjmbmbebiaaDoor.cv Go.Proofs.YtgkhnjmbmbebiaaDoor.ga Go.Proofs.YtgkhnjmbmbebiaaDoor.aa Go.Proofs.YtgkhnjmbmbebiaaDoor.ka Go.Proofs.YtgkhnjmbmbebiaaDoor.kb Go.Proofs.YtgkhnjmbmbebiaaDoor.kc Go.Proofs.YtgkhnjmbmbebiaaDoor.kp Go.Proofs.YtgkhnjmbmbebiaaDoor.mi Go.Proofs.YtgkhnjmbmbebiaaDoor.co Go.Proofs.YtgkhnjmbmbebiaaDoor.cn Go.Proofs.YtgkhnjmbmbebiaaDoor.dc Go.Proofs.YtgkhnjmbmbebiaaDoor.sr Go.Proofs.YtgkhnjmbmbebiaaDoor.qb Go.Proofs.YtgkhnjmbmbebiaaDoor.qc Go.Proofs.YtgkhnjmbmbebiaaDoor.qd Go.Proofs.YtgkhnjmbmbebiaaDoor.qe Go.Proofs.YtgkhnjmbmbebiaaDoor.qf Go.Proofs.YtgkhnjmbmbebiaaDoor.ts
set_option linter.unusedVariables false

theorem num1 {I N : Nat} (h : I < N) (hN : N ≤ 4611686018427387904) : cnt9 1 I 0 N [] = (((cI I N : Nat) : Int), 0) := by
  have h0 : ref9 1 I 0 N [] = 0 := by unfold ref9; rw [if_neg (by omega), if_neg (by omega), if_pos rfl, if_neg (by omega)]
  unfold cnt9
  rw [if_pos h0]
  unfold num9
  rw [if_pos rfl, Int.toNat_natCast, Int.toNat_natCast, cI_is h]
theorem incR_of (wd : Int) {I N : Nat} (h : I < N) (hN : N ≤ 4611686018427387904) {path others : List ByteArray} (hp : Wide wd path) (ho : Wide wd others) : incR wd I N path others = if path.length = cI I N then 0 else 71 := by
  unfold incR
  rw [num1 h hN, if_pos rfl]
  unfold rH
  rw [wide_okH hp, wide_okH ho]
  simp only [Bool.and_self, if_true]
  by_cases g : path.length = cI I N
  · rw [if_pos (by omega), if_pos g]
  · rw [if_neg (by omega), if_neg g]
theorem wide2 {wd : Int} {x y : ByteArray} (hx : x.size = wid wd) (hy : y.size = wid wd) : Wide wd [x, y] := fun z hz => by
  simp only [List.mem_cons, List.not_mem_nil, or_false] at hz
  rcases hz with rfl | rfl
  · exact hx
  · exact hy
theorem incA_of (wd : Int) {I N : Nat} (h : I < N) (hN : N ≤ 4611686018427387904) {path : List ByteArray} {hash root : ByteArray} (hp : Wide wd path) (hh : hash.size = wid wd) (hr : root.size = wid wd) : incA wd I N hash path root = if path.length = cI I N then (if ldP wd I N hash path = root then 0 else 90) else 71 := by
  unfold incA
  rw [incR_of wd h hN hp (wide2 hh hr)]
  by_cases g : path.length = cI I N
  · rw [if_pos g, if_pos rfl, if_pos g, Int.toNat_natCast, Int.toNat_natCast]
  · rw [if_neg g, if_neg (by omega), if_neg g]
theorem leadA_of (wd : Int) {I N : Nat} (h : I < N) (hN : N ≤ 4611686018427387904) {path : List ByteArray} {hash : ByteArray} (hp : Wide wd path) (hh : hash.size = wid wd) (hl : path.length = cI I N) : leadA wd I N hash path = (ldP wd I N hash path, 0) := by
  unfold leadA
  rw [incR_of wd h hN hp (fun z hz => by simp only [List.mem_cons, List.not_mem_nil, or_false] at hz; rw [hz]; exact hh), if_pos hl, if_pos rfl, Int.toNat_natCast, Int.toNat_natCast]
theorem own_readsT {w : World} {B : Nat} {v : Value} {zs : List ByteArray} (h : w.ownsRow B 9 1 v zs.length (zs.map Value.string)) : ReadsT w v zs := by
  rcases h.2 with ⟨h1, h2⟩ | ⟨g, cap, cur, rfl, _, _, hc, _⟩
  · rw [h1]; exact ⟨none, 0, by rw [h2], by omega, .inl h2⟩
  · refine ⟨_, cap, rfl, by omega, .inr ⟨g, 0, rfl, fun i hi => ?_⟩⟩
    rw [Nat.zero_add, h.cellAt i (by omega), List.getElem?_map, List.getElem?_eq_getElem hi, List.getD_eq_getElem?_getD, List.getElem?_eq_getElem hi]
    rfl
set_option maxHeartbeats 12800000 in
set_option maxRecDepth 100000 in
theorem built_walk (w : World) (wd : Int) (w0 : (Lit.int .i64 wd).wf = true) (i : Int) (w1 : (Lit.int .i64 i).wf = true) (n : Int) (w2 : (Lit.int .i64 n).wf = true) (hash : ByteArray) (zh : hash.size ≤ 140737488351232) (v : Value) (xs : List ByteArray) (hR : ReadsT w v xs) (hno : ∀ k c, v = .slice none k c → c = 0) (hxs : ∀ x ∈ xs, x.size ≤ 140737488351232) (hz : xs.length * 16 ≤ 140737488351232) (T : Tab w) :
    Calls Tryd.prog 3 #[.int .i64 wd, .int .i64 i, .int .i64 n, .string hash, v] w fun e w' => e = .returned (.bool true) ∧ Below w.heap.size w w' := by
  have hwd := i64_of w0
  have CC : Hid (Calls _ _ _ _ _) := countC 1 i 0 n (.slice none 0 0) [] w (reads_nilI w) (by simp)
  have HR : Hid (ReadsT w v xs ∧ Tab w) := ⟨hR, T⟩
  obtain ⟨i9, hi9', hz0, hz1, hz2⟩ := info_parts hiE
  have HIN : Hid (_ ∧ _ ∧ _ ∧ _) := ⟨hi9', hz0, hz1, hz2⟩
  clear hi9' hz0 hz1 hz2
  by_cases h0 : ref9 1 i 0 n [] = 0
  rotate_left
  · have hc : cnt9 1 i 0 n [] = (0, ref9 1 i 0 n []) := by unfold cnt9; rw [if_neg h0]
    rw [hc] at CC
    have q : (ref9 1 i 0 n [] == 0) = false := by rw [beq_eq_false_iff_ne]; exact h0
    have g : n < 0 ∨ 4611686018427387904 < n ∨ i < 0 ∨ n ≤ i := by
      refine Classical.byContradiction fun g => h0 ?_
      unfold ref9
      rw [if_neg (by omega), if_neg (by omega), if_pos rfl, if_neg (by omega)]
    obtain ⟨r, HT⟩ : ∃ r, Hid (ref9 1 i 0 n [] = r) := ⟨_, rfl⟩
    rw [HT.out] at CC q
    obtain ⟨va, cap, rfl, _⟩ := hR
    obtain ⟨l, HL⟩ : ∃ l, Hid (xs.length = l) := ⟨_, rfl⟩
    rw [HL.out]
    clear h0 hc HR hno hxs hz T hwd w0 w1 w2 zh HIN
    by_cases g1 : n < 0
    · have d1 : decide (n < 0) = true := decide_eq_true g1
      clear g g1
      go_enter Tryd.func3, Tryd.ntmps3
      go_wp2_with fail
      refine CC.out.mono ?_
      rintro e w1 ⟨rfl, hb1⟩
      have B1 : Hid (Below w.heap.size w w1) := hb1
      clear hb1
      go_wp2
      go_ret
      exact ⟨by first | rfl | simp, B1.out⟩
    have d1 : decide (n < 0) = false := decide_eq_false g1
    by_cases g2 : 4611686018427387904 < n
    · have d2 : decide (4611686018427387904 < n) = true := decide_eq_true g2
      clear g g1 g2
      go_enter Tryd.func3, Tryd.ntmps3
      go_wp2_with fail
      refine CC.out.mono ?_
      rintro e w1 ⟨rfl, hb1⟩
      have B1 : Hid (Below w.heap.size w w1) := hb1
      clear hb1
      go_wp2
      go_ret
      exact ⟨by first | rfl | simp, B1.out⟩
    have d2 : decide (4611686018427387904 < n) = false := decide_eq_false g2
    by_cases g3 : i < 0
    · have d3 : decide (i < 0) = true := decide_eq_true g3
      clear g g1 g2 g3
      go_enter Tryd.func3, Tryd.ntmps3
      go_wp2_with fail
      refine CC.out.mono ?_
      rintro e w1 ⟨rfl, hb1⟩
      have B1 : Hid (Below w.heap.size w w1) := hb1
      clear hb1
      go_wp2
      go_ret
      exact ⟨by first | rfl | simp, B1.out⟩
    have d3 : decide (i < 0) = false := decide_eq_false g3
    have d4 : decide (n ≤ i) = true := decide_eq_true (by omega)
    clear g g1 g2 g3
    go_enter Tryd.func3, Tryd.ntmps3
    go_wp2_with fail
    refine CC.out.mono ?_
    rintro e w1 ⟨rfl, hb1⟩
    have B1 : Hid (Below w.heap.size w w1) := hb1
    clear hb1
    go_wp2
    go_ret
    exact ⟨by first | rfl | simp, B1.out⟩
  obtain ⟨I, N, rfl, rfl, q1, q2⟩ : ∃ I N : Nat, i = I ∧ n = N ∧ I < N ∧ N ≤ 4611686018427387904 := by
    unfold ref9 at h0
    rw [if_neg (by omega)] at h0
    by_cases k2 : n < 0 ∨ 4611686018427387904 < n
    · rw [if_pos k2] at h0; omega
    rw [if_neg k2, if_pos rfl] at h0
    by_cases g : i < 0 ∨ n ≤ i
    · rw [if_pos g] at h0; omega
    exact ⟨i.toNat, n.toNat, by omega, by omega, by omega, by omega⟩
  rw [num1 q1 q2] at CC
  have hc62 := cI_le q1 q2
  have hcl : cI I N ≤ cl2 N := by
    have hc := cl2_spec (n := N) (by omega) q2
    rw [← cI_is q1]
    exact incl_len I (cl2 N) 0 N (by omega) (Nat.zero_le _) q1
  have TC : Hid (∀ w, Calls _ _ _ _ _) := fun w => ceilI N ⟨by omega, by omega⟩ w
  rw [clI_is (by omega)] at TC
  have SC : Hid (∀ (s : ByteArray) w, s.size ≤ 1125899906842624 → Tab w → Calls _ _ _ _ _) := fun s w h t => cutT s wd w h t
  have PL : Hid (∀ w v zs, ReadsT w v zs → zs.length ≤ 63 → Tab w → Calls _ _ _ _ _) := fun w v zs h hz t => LeadsC wd I N hwd (cutS hash wd) v zs w h (by omega) t
  have PI : Hid (∀ w v zs root, ReadsT w v zs → zs.length ≤ 63 → Tab w → Calls _ _ _ _ _) := fun w v zs root h hz t => InclC wd I N hwd (cutS hash wd) v zs root w h (by omega) t
  have hsz : (cutS hash wd).size = wid wd := cutS_size _ _
  have LA : Hid (∀ zs, Wide wd zs → zs.length = cI I N → leadA wd I N (cutS hash wd) zs = (ldP wd I N (cutS hash wd) zs, 0) ∧ (ldP wd I N (cutS hash wd) zs).size = wid wd) := fun zs hw hl => ⟨leadA_of wd q1 q2 hw hsz hl, by rw [ldP_is wd I N _ zs q1 hl]; exact dl_size hsz _ _ _⟩
  have IA : Hid (∀ zs root, Wide wd zs → root.size = wid wd → incA wd I N (cutS hash wd) zs root = if zs.length = cI I N then (if ldP wd I N (cutS hash wd) zs = root then 0 else 90) else 71) := fun zs root hw hr => incA_of wd q1 q2 hw hsz hr
  have XS : Hid (∀ k, (xs.getD k ByteArray.empty).size ≤ 1125899906842624) := fun k => by
    by_cases hk : k < xs.length
    · rw [List.getD_eq_getElem?_getD, List.getElem?_eq_getElem hk]
      exact Nat.le_trans (hxs _ (List.getElem_mem hk)) (by omega)
    · rw [List.getD_eq_getElem?_getD, List.getElem?_eq_none (by omega)]
      show ByteArray.empty.size ≤ _
      simp
  have HH : Hid (hash.size ≤ 1125899906842624) := Nat.le_trans zh (by omega)
  have HW : Hid (∀ s, (cutS s wd).size = wid wd) := fun s => cutS_size _ _
  have W32 : Hid (wid wd ≤ 32) := qb.wid_le wd
  obtain ⟨hc, HHC⟩ : ∃ x, Hid (cutS hash wd = x) := ⟨_, rfl⟩
  rw [HHC.out] at PL PI LA IA hsz
  obtain ⟨c, HC⟩ : ∃ c, Hid (cI I N = c) := ⟨_, rfl⟩
  rw [HC.out] at CC hc62 hcl LA IA
  obtain ⟨t, HT⟩ : ∃ t, Hid (cl2 N = t) := ⟨_, rfl⟩
  rw [HT.out] at TC hcl
  obtain ⟨va, cap, rfl, hcap, hh⟩ := hR
  have HXC : Hid (xs.length = 0 ∨ ∃ b off, va = some ⟨b, off, none⟩ ∧ ∀ i, i < xs.length → w.cell? ⟨b, off + i, none⟩ = some (.string (xs.getD i ByteArray.empty))) := hh
  obtain ⟨l, HL⟩ : ∃ l, Hid (xs.length = l) := ⟨_, rfl⟩
  rw [HL.out] at HR HXC hcap hz ⊢
  have HSZ : Hid (hc.size = wid wd) := hsz
  clear h0 hh hno hxs T hwd w0 w1 w2 zh hsz
  go_enter Tryd.func3, Tryd.ntmps3
  go_wp2_with fail
  refine CC.out.mono ?_
  rintro e w1 ⟨rfl, hb1⟩
  have B1 : Hid (Below w.heap.size w w1) := hb1
  clear hb1
  go_wp2_with fail
  refine (TC.out _).mono ?_
  rintro e w1' ⟨rfl, hw⟩
  subst hw
  have SC1 : Hid (Calls _ _ _ _ _) := SC.out hash w1' HH.out (HR.out.2.down B1.out)
  rw [HHC.out] at SC1
  go_wp2_with fail
  refine SC1.out.mono ?_
  rintro e w2 ⟨rfl, hb2⟩
  have B2 : Hid (Below w.heap.size w w2) := over B1.out hb2
  clear hb2
  go_wp2
  go_loopw [14, 15] (fun o k wr => ∃ (j : Nat) (zs : List ByteArray), j ≤ c ∧ k = .int .i64 j ∧ Hid (zs.length = j) ∧ Hid (Wide wd zs) ∧ Hid (wr.ownsRow w.heap.size 9 1 o j (zs.map Value.string)) ∧ Hid (Below w.heap.size w wr)) (fun _ k _ => (c - intOf k).toNat)
  case atStart => exact ⟨0, [], by omega, rfl, rfl, (fun x hx => by cases hx), World.ownsRow_nil _ _ _ _, B2⟩
  case round =>
    obtain ⟨j, zs, hj, rfl, HZL, HZW, HO, HB⟩ := hrel
    obtain ⟨oa, oc, ho⟩ := own_form HO.out
    subst ho
    by_cases hlt : j < c
    · have hlt' : (j : Int) < c := by omega
      have FIN : Hid (∀ y, y.size = wid wd → Wide wd (zs ++ [y])) := fun y hy x hx => by
        rcases List.mem_append.1 hx with h | h
        · exact HZW.out x h
        · simp only [List.mem_cons, List.not_mem_nil, or_false] at h; rw [h]; exact hy
      by_cases hl0 : l = 0
      · have d0 : decide ((0 : Int) < l) = false := decide_eq_false (by omega)
        have d0' : ¬ (0 < l) := by omega
        have SC2 : Hid (∀ w', Below w.heap.size w w' → Calls _ _ _ _ _) := fun w' hb => SC.out ⟨#[]⟩ w' (by show ByteArray.empty.size ≤ _; simp) (HR.out.2.down hb)
        have HYS : Hid ((cutS ⟨#[]⟩ wd).size = wid wd) := HW.out _
        obtain ⟨y, HYY⟩ : ∃ y, Hid (cutS ⟨#[]⟩ wd = y) := ⟨_, rfl⟩
        rw [HYY.out] at SC2 HYS
        clear hl0
        go_wp2_with fail
        refine (SC2.out _ HB.out).mono ?_
        rintro e w4 ⟨rfl, hb4⟩
        have B4 : Hid (Below w.heap.size w (w4.alloc (.cells #[.string y] 9))) := (over HB.out hb4).alloc (over HB.out hb4).size _
        have O4 : Hid ((w4.alloc (.cells #[.string y] 9)).ownsRow w.heap.size 9 1 (.slice oa j oc) j (zs.map Value.string)) := (own_later HO.out hb4).alloc _
        have NW : Hid (∀ (k : Nat) (x : Value), [Value.string y][k]? = some x → (w4.alloc (.cells #[.string y] 9)).cell? (Addr.add ⟨w4.heap.size, 0, none⟩ k) = some x) := new_one w4 _ _
        have MO : Hid (∀ u ∈ [Value.string y], u.oneCell' = true) := fun u hu => by simp only [List.mem_cons, List.not_mem_nil, or_false] at hu; subst hu; rfl
        clear hb4
        go_wp2_with (at_builtin; refine wpList_append_own _ rfl _ _ 22 rfl w.heap.size 9 i9 (.string ByteArray.empty) 1 16 Tryd.underlying22 HIN.out.1 HIN.out.2.1 HIN.out.2.2.1 HIN.out.2.2.2 rfl (by decide) _ j _ rfl O4.out ⟨w4.heap.size, 0, none⟩ 1 1 [.string y] rfl rfl NW.out MO.out (by unfold maxLen; omega) (by omega) B4.out.size ?_; intro p' w5 ho hg hnn; have HO5 : Hid (w5.ownsRow w.heap.size 9 1 p' (j + 1) (zs.map Value.string ++ [.string y])) := ho; have HB5 : Hid (Below w.heap.size w w5) := Below.grown B4.out hg B4.out.size (fun jj hj => (O4.out.lt _ hj).1); clear ho hg hnn)
        go_roundw
        case rel => exact ⟨j + 1, zs ++ [y], by omega, by go_num, by show _ = _; rw [List.length_append, HZL.out]; rfl, FIN.out y HYS.out, by show World.ownsRow _ _ _ _ _ _ _; rw [List.map_append]; exact HO5.out, HB5⟩
        case measure => simp [intOf]; omega
      · have d0 : decide ((0 : Int) < l) = true := decide_eq_true (by omega)
        have d0' : 0 < l := by omega
        obtain ⟨b, off, rfl, hcc⟩ : ∃ b off, va = some ⟨b, off, none⟩ ∧ ∀ i, i < l → w.cell? ⟨b, off + i, none⟩ = some (.string (xs.getD i ByteArray.empty)) := by
          rcases HXC.out with h | h
          · omega
          · exact h
        obtain ⟨m, HM⟩ : ∃ m, Hid (j % l = m) := ⟨_, rfl⟩
        have hm : m < l := by rw [← HM.out]; exact Nat.mod_lt _ d0'
        have hm2 : Int.tmod (j : Int) (l : Int) = (m : Int) := by rw [← HM.out]; rfl
        have hm3 : (j : Int) % (l : Int) = (m : Int) := by rw [← HM.out]; omega
        have hmi : (m : Int) < l := by omega
        have c0 := hcc m hm
        have c1 := (HB.out.cell (World.block_lt_of_cell? _ _ c0)).trans c0
        have SC2 : Hid (∀ w', Below w.heap.size w w' → Calls _ _ _ _ _) := fun w' hb => SC.out (xs.getD m ByteArray.empty) w' (XS.out m) (HR.out.2.down hb)
        have HYS : Hid ((cutS (xs.getD m ByteArray.empty) wd).size = wid wd) := HW.out _
        obtain ⟨x, HX⟩ : ∃ x, Hid (xs.getD m ByteArray.empty = x) := ⟨_, rfl⟩
        rw [HX.out] at c1 SC2 HYS
        obtain ⟨y, HYY⟩ : ∃ y, Hid (cutS x wd = y) := ⟨_, rfl⟩
        rw [HYY.out] at SC2 HYS
        have hl0' : ((l : Int) == 0) = false := by rw [beq_eq_false_iff_ne]; omega
        clear hl0 hcc c0 hm
        go_wp2_with fail
        refine (SC2.out _ HB.out).mono ?_
        rintro e w4 ⟨rfl, hb4⟩
        have B4 : Hid (Below w.heap.size w (w4.alloc (.cells #[.string y] 9))) := (over HB.out hb4).alloc (over HB.out hb4).size _
        have O4 : Hid ((w4.alloc (.cells #[.string y] 9)).ownsRow w.heap.size 9 1 (.slice oa j oc) j (zs.map Value.string)) := (own_later HO.out hb4).alloc _
        have NW : Hid (∀ (k : Nat) (x : Value), [Value.string y][k]? = some x → (w4.alloc (.cells #[.string y] 9)).cell? (Addr.add ⟨w4.heap.size, 0, none⟩ k) = some x) := new_one w4 _ _
        have MO : Hid (∀ u ∈ [Value.string y], u.oneCell' = true) := fun u hu => by simp only [List.mem_cons, List.not_mem_nil, or_false] at hu; subst hu; rfl
        clear hb4 c1
        go_wp2_with (at_builtin; refine wpList_append_own _ rfl _ _ 22 rfl w.heap.size 9 i9 (.string ByteArray.empty) 1 16 Tryd.underlying22 HIN.out.1 HIN.out.2.1 HIN.out.2.2.1 HIN.out.2.2.2 rfl (by decide) _ j _ rfl O4.out ⟨w4.heap.size, 0, none⟩ 1 1 [.string y] rfl rfl NW.out MO.out (by unfold maxLen; omega) (by omega) B4.out.size ?_; intro p' w5 ho hg hnn; have HO5 : Hid (w5.ownsRow w.heap.size 9 1 p' (j + 1) (zs.map Value.string ++ [.string y])) := ho; have HB5 : Hid (Below w.heap.size w w5) := Below.grown B4.out hg B4.out.size (fun jj hj => (O4.out.lt _ hj).1); clear ho hg hnn)
        go_roundw
        case rel => exact ⟨j + 1, zs ++ [y], by omega, by go_num, by show _ = _; rw [List.length_append, HZL.out]; rfl, FIN.out y HYS.out, by show World.ownsRow _ _ _ _ _ _ _; rw [List.map_append]; exact HO5.out, HB5⟩
        case measure => simp [intOf]; omega
    · have hlt' : ¬ (j : Int) < c := by omega
      obtain rfl : j = c := by omega
      have RZ : Hid (ReadsT wr (.slice oa j oc) zs) := own_readsT (by rw [HZL.out]; exact HO.out)
      obtain ⟨la1, la2⟩ := LA.out zs HZW.out HZL.out
      obtain ⟨root, HRT⟩ : ∃ r, Hid (ldP wd I N hc zs = r) := ⟨_, rfl⟩
      rw [HRT.out] at la1 la2
      have L1 : Hid (Calls _ _ _ _ _) := PL.out wr _ zs RZ.out (by rw [HZL.out]; omega) (HR.out.2.down HB.out)
      rw [la1] at L1
      have HRS : Hid (root.size = wid wd) := la2
      have I0 : Hid (∀ w', Below wr.heap.size wr w' → Calls _ _ _ _ _) := fun w' hb => PI.out w' (.slice oa j oc) zs root (RZ.out.later hb) (by rw [HZL.out]; omega) (HR.out.2.down (over HB.out hb))
      have e0 : incA wd I N hc zs root = 0 := by rw [IA.out zs root HZW.out la2, if_pos HZL.out, if_pos HRT.out]
      rw [e0] at I0
      have OT : Hid (∀ w', Below w.heap.size w w' → Calls _ _ _ _ _) := fun w' hb => SC.out (root ++ ⟨#[97, 110, 111, 116, 104, 101, 114]⟩) w' (by rw [ByteArray.size_append, la2]; have := W32.out; show _ + 7 ≤ _; omega) (HR.out.2.down hb)
      have HOS : Hid ((cutS (root ++ ⟨#[97, 110, 111, 116, 104, 101, 114]⟩) wd).size = wid wd) := HW.out _
      obtain ⟨other, HOT⟩ : ∃ r, Hid (cutS (root ++ ⟨#[97, 110, 111, 116, 104, 101, 114]⟩) wd = r) := ⟨_, rfl⟩
      rw [HOT.out] at OT HOS
      have I1 : Hid (other ≠ root → ∀ w', Below wr.heap.size wr w' → Calls Tryd.prog 11 #[.int .i64 wd, .int .i64 I, .int .i64 N, .string hc, .slice oa j oc, .string other] w' fun e w'' => e = .returned (.int .i64 90) ∧ Below w'.heap.size w' w'') := fun hne w' hb => by
        have z := PI.out w' (.slice oa j oc) zs other (RZ.out.later hb) (by rw [HZL.out]; omega) (HR.out.2.down (over HB.out hb))
        rw [IA.out zs other HZW.out HOS.out, if_pos HZL.out, if_neg (by rw [HRT.out]; exact fun e => hne e.symm)] at z
        exact z
      have WM : Hid (Wide wd (zs ++ [hc])) := fun x hx => by
        rcases List.mem_append.1 hx with h | h
        · exact HZW.out x h
        · simp only [List.mem_cons, List.not_mem_nil, or_false] at h; rw [h]; exact HSZ.out
      have IM : Hid (∀ w' u, ReadsT w' u (zs ++ [hc]) → Tab w' → Calls _ _ _ _ _) := fun w' u hu t => PI.out w' u (zs ++ [hc]) root hu (by rw [List.length_append, HZL.out]; show j + 1 ≤ 63; omega) t
      have eM : incA wd I N hc (zs ++ [hc]) root = 71 := by rw [IA.out _ root WM.out la2, if_neg (by rw [List.length_append, HZL.out]; show ¬ j + 1 = j; omega)]
      rw [eM] at IM
      have IP : Hid (∀ w' u, 1 ≤ j → ReadsT w' u (zs.take (j - 1)) → Tab w' → Calls Tryd.prog 11 #[.int .i64 wd, .int .i64 I, .int .i64 N, .string hc, u, .string root] w' fun e w'' => e = .returned (.int .i64 71) ∧ Below w'.heap.size w' w'') := fun w' u h1 hu t => by
        have z := PI.out w' u (zs.take (j - 1)) root hu (by rw [List.length_take]; omega) t
        rw [IA.out _ root (fun x hx => HZW.out x (List.mem_of_mem_take hx)) la2, if_neg (by rw [List.length_take, HZL.out]; omega)] at z
        exact z
      have qs : ((root.size : Int) == hc.size) = true := by rw [beq_iff_eq, la2, HSZ.out]
      have qs2 : (root.size == hc.size) = true := by rw [beq_iff_eq, la2, HSZ.out]
      obtain ⟨z, HZ⟩ : ∃ z : Bool, Hid (decide (other = root) = z) := ⟨_, rfl⟩
      have qz : (other.toList == root.toList) = z := by rw [beqL]; exact HZ.out
      have I1' : Hid (z = false → other ≠ root) := fun h e => by rw [← HZ.out] at h; exact absurd e (of_decide_eq_false h)
      have hrs : root.size ≤ 32 := by rw [la2]; exact W32.out
      clear la1 la2 e0 eM hlt hlt'
      go_wp2_with fail
      refine L1.out.mono ?_
      rintro e w4 ⟨rfl, hb4⟩
      have B4 : Hid (Below wr.heap.size wr w4) := hb4
      clear hb4
      go_wp2_with fail
      refine (I0.out _ B4.out).mono ?_
      rintro e w5 ⟨rfl, hb5⟩
      have B5 : Hid (Below wr.heap.size wr w5) := over B4.out hb5
      clear hb5
      go_wp2_with fail
      refine (OT.out _ (over HB.out B5.out)).mono ?_
      rintro e w6 ⟨rfl, hb6⟩
      have B6 : Hid (Below wr.heap.size wr w6) := over B5.out hb6
      clear hb6
      have APP : Hid (∀ w7, Below wr.heap.size wr w7 → (∀ (k : Nat) (x : Value), [Value.string hc][k]? = some x → (w7.alloc (.cells #[.string hc] 9)).cell? (Addr.add ⟨w7.heap.size, 0, none⟩ k) = some x) ∧ (w7.alloc (.cells #[.string hc] 9)).ownsRow w.heap.size 9 1 (.slice oa j oc) j (zs.map Value.string) ∧ Below w.heap.size w (w7.alloc (.cells #[.string hc] 9)) ∧ Below wr.heap.size wr (w7.alloc (.cells #[.string hc] 9))) := fun w7 hb => ⟨new_one w7 _ _, (own_later HO.out hb).alloc _, (over HB.out hb).alloc (over HB.out hb).size _, hb.alloc hb.size _⟩
      have MO : Hid (∀ u ∈ [Value.string hc], u.oneCell' = true) := fun u hu => by simp only [List.mem_cons, List.not_mem_nil, or_false] at hu; subst hu; rfl
      have RD : Hid (∀ (w8 : World) (B : Nat) (u : Value), w8.ownsRow B 9 1 u (j + 1) (zs.map Value.string ++ [.string hc]) → ReadsT w8 u (zs ++ [hc])) := fun w8 B u ho => own_readsT (by rw [List.length_append, HZL.out, List.map_append]; exact ho)
      cases z
      rotate_left
      · by_cases hj0 : j = 0
        · subst hj0
          obtain rfl : zs = [] := List.length_eq_zero_iff.1 HZL.out
          obtain ⟨n1, n2, n3, n4⟩ := APP.out _ B6.out
          have A2 : Hid (World.ownsRow _ w.heap.size 9 1 (.slice oa 0 oc) 0 (([] : List ByteArray).map Value.string)) := n2
          have A3 : Hid (Below w.heap.size w _) := n3
          have A1 : Hid (∀ (k : Nat) (x : Value), [Value.string hc][k]? = some x → _) := n1
          clear n1 n2 n3 n4
          go_wp2_with (at_builtin; refine wpList_append_own _ rfl _ _ 22 rfl w.heap.size 9 i9 (.string ByteArray.empty) 1 16 Tryd.underlying22 HIN.out.1 HIN.out.2.1 HIN.out.2.2.1 HIN.out.2.2.2 rfl (by decide) _ 0 _ rfl A2.out _ 1 1 [.string hc] rfl rfl A1.out MO.out (by unfold maxLen; omega) (by omega) A3.out.size ?_; intro p' w8 ho hg hnn; obtain ⟨ma, mc, rfl⟩ := own_form ho; have RM : Hid (ReadsT w8 (.slice ma (0 + 1) mc) ([] ++ [hc])) := RD.out _ _ _ ho; have HB8 : Hid (Below w.heap.size w w8) := Below.grown A3.out hg A3.out.size (fun jj hj => (A2.out.lt _ hj).1); clear ho hg hnn)
          have IM1 : Hid (Calls _ _ _ _ _) := IM.out w8 _ RM.out (HR.out.2.down HB8.out)
          go_wp2_with fail
          refine IM1.out.mono ?_
          rintro e w9 ⟨rfl, hb9⟩
          have B9 : Hid (Below w.heap.size w w9) := over HB8.out hb9
          clear hb9
          go_wp2
          go_ret
          exact ⟨by first | rfl | simp, B9.out⟩
        · have hj1 : 1 ≤ j := by omega
          obtain ⟨g, rfl⟩ : ∃ g, oa = some ⟨g, 0, none⟩ := by
            rcases HO.out.2 with ⟨_, h⟩ | ⟨g, cap', cur, h, _⟩
            · omega
            · injection h with e1; exact ⟨g, e1⟩
          have hoc : j ≤ oc := by
            rcases HO.out.2 with ⟨_, h⟩ | ⟨g, cap', cur, h, _, _, hcc, _⟩
            · omega
            · injection h with _ _ e3; omega
          obtain ⟨n1, n2, n3, n4⟩ := APP.out _ B6.out
          have A2 : Hid (World.ownsRow _ w.heap.size 9 1 (.slice (some ⟨g, 0, none⟩) j oc) j (zs.map Value.string)) := n2
          have A3 : Hid (Below w.heap.size w _) := n3
          have A4 : Hid (Below wr.heap.size wr _) := n4
          have A1 : Hid (∀ (k : Nat) (x : Value), [Value.string hc][k]? = some x → _) := n1
          have RT2 : Hid (ReadsT _ (.slice (some ⟨g, 0, none⟩) j oc) zs) := RZ.out.later n4
          clear n1 n2 n3 n4
          have hjc : (j : Int) - 1 ≤ oc := by omega
          have hjn : ((j - 1 : Nat) : Int) = (j : Int) - 1 := by omega
          have hjt : ((j : Int) - 1).toNat = j - 1 := by omega
          have hj0' : ((j : Int) == 0) = false := by rw [beq_eq_false_iff_ne]; omega
          have hj0'' : (0 : Int) ≤ (j : Int) - 1 := by omega
          have GB : Hid (∀ (a b : World), a.grownBy b none → Below a.heap.size a b) := fun a b h => ⟨h.os, h.tape, h.output, h.size, fun k hk => h.block k hk (by simp)⟩
          have RPT : Hid (∀ w8, ReadsT w8 (.slice (some ⟨g, 0, none⟩) j oc) zs → ReadsT w8 (.slice (some ⟨g, 0, none⟩) (j - 1) oc) (zs.take (j - 1))) := fun w8 h => by
            have := ReadsT.front (k := j - 1) h (by rw [HZL.out]; omega)
            exact this
          by_cases hroom : j + 1 ≤ oc
          · go_wp2_with (at_builtin; refine wpList_append_own_spare _ rfl _ _ 22 rfl w.heap.size 9 i9 1 Tryd.underlying22 HIN.out.1 HIN.out.2.2.1 g j oc _ rfl A2.out _ 1 1 [.string hc] rfl rfl A1.out MO.out hroom ?_; intro w8 ho hg; have RM : Hid (ReadsT w8 (.slice (some ⟨g, 0, none⟩) (j + 1) oc) (zs ++ [hc])) := RD.out _ _ _ ho; have RP : Hid (ReadsT w8 (.slice (some ⟨g, 0, none⟩) (j - 1) oc) (zs.take (j - 1))) := (by have z := ReadsT.front (k := j - 1) RM.out (by rw [List.length_append, HZL.out]; show j - 1 ≤ j + 1; omega); rw [List.take_append_of_le_length (by rw [HZL.out]; omega)] at z; exact z); have HB8 : Hid (Below w.heap.size w w8) := Below.grown A3.out hg A3.out.size (fun jj hj => (A2.out.lt _ hj).1); clear ho hg)
            have IM1 : Hid (Calls _ _ _ _ _) := IM.out w8 _ RM.out (HR.out.2.down HB8.out)
            go_wp2_with fail
            refine IM1.out.mono ?_
            rintro e w9 ⟨rfl, hb9⟩
            have B9 : Hid (Below w.heap.size w w9) := over HB8.out hb9
            have IP1 : Hid (Calls _ _ _ _ _) := IP.out w9 _ hj1 (RP.out.later hb9) (HR.out.2.down B9.out)
            clear hb9
            go_wp2_with fail
            refine IP1.out.mono ?_
            rintro e w10 ⟨rfl, hb10⟩
            have B10 : Hid (Below w.heap.size w w10) := over B9.out hb10
            clear hb10
            go_wp2
            go_ret
            exact ⟨by first | rfl | simp, B10.out⟩
          · go_wp2_with (at_builtin; refine wpList_append_arg _ rfl _ _ 22 rfl 9 i9 (.string ByteArray.empty) 1 16 Tryd.underlying22 HIN.out.1 HIN.out.2.1 HIN.out.2.2.1 HIN.out.2.2.2 rfl (by decide) g 0 j oc (zs.map Value.string) rfl (by rw [List.length_map, HZL.out]; omega) (fun k u hu => by rw [Nat.zero_add]; have hk := (List.getElem?_eq_some_iff.1 hu).1; rw [List.length_map, HZL.out] at hk; rw [A2.out.cellAt k (by omega)]; exact hu) _ 1 1 [.string hc] rfl rfl A1.out MO.out (fun h => absurd h hroom) (by unfold maxLen; omega) (by omega) (fun h => absurd h hroom) ?_; intro hcap8 p' w8 ho hg; obtain ⟨ma, mc, rfl⟩ := own_form ho; have RM : Hid (ReadsT w8 (.slice ma (j + 1) mc) (zs ++ [hc])) := RD.out _ _ _ ho; have RP : Hid (ReadsT w8 (.slice (some ⟨g, 0, none⟩) (j - 1) oc) (zs.take (j - 1))) := RPT.out w8 (RT2.out.later (GB.out _ _ hg)); have HB8 : Hid (Below w.heap.size w w8) := over A3.out (GB.out _ _ hg); clear ho hg hcap8)
            have IM1 : Hid (Calls _ _ _ _ _) := IM.out w8 _ RM.out (HR.out.2.down HB8.out)
            go_wp2_with fail
            refine IM1.out.mono ?_
            rintro e w9 ⟨rfl, hb9⟩
            have B9 : Hid (Below w.heap.size w w9) := over HB8.out hb9
            have IP1 : Hid (Calls _ _ _ _ _) := IP.out w9 _ hj1 (RP.out.later hb9) (HR.out.2.down B9.out)
            clear hb9
            go_wp2_with fail
            refine IP1.out.mono ?_
            rintro e w10 ⟨rfl, hb10⟩
            have B10 : Hid (Below w.heap.size w w10) := over B9.out hb10
            clear hb10
            go_wp2
            go_ret
            exact ⟨by first | rfl | simp, B10.out⟩
      · go_wp2_with fail
        refine (I1.out (I1'.out (by first | rfl | trivial)) _ B6.out).mono ?_
        rintro e w7 ⟨rfl, hb7⟩
        have B7 : Hid (Below wr.heap.size wr w7) := over B6.out hb7
        clear hb7 B6
        have B6 : Hid (Below wr.heap.size wr w7) := B7.out
        clear B7
        by_cases hj0 : j = 0
        · subst hj0
          obtain rfl : zs = [] := List.length_eq_zero_iff.1 HZL.out
          obtain ⟨n1, n2, n3, n4⟩ := APP.out _ B6.out
          have A2 : Hid (World.ownsRow _ w.heap.size 9 1 (.slice oa 0 oc) 0 (([] : List ByteArray).map Value.string)) := n2
          have A3 : Hid (Below w.heap.size w _) := n3
          have A1 : Hid (∀ (k : Nat) (x : Value), [Value.string hc][k]? = some x → _) := n1
          clear n1 n2 n3 n4
          go_wp2_with (at_builtin; refine wpList_append_own _ rfl _ _ 22 rfl w.heap.size 9 i9 (.string ByteArray.empty) 1 16 Tryd.underlying22 HIN.out.1 HIN.out.2.1 HIN.out.2.2.1 HIN.out.2.2.2 rfl (by decide) _ 0 _ rfl A2.out _ 1 1 [.string hc] rfl rfl A1.out MO.out (by unfold maxLen; omega) (by omega) A3.out.size ?_; intro p' w8 ho hg hnn; obtain ⟨ma, mc, rfl⟩ := own_form ho; have RM : Hid (ReadsT w8 (.slice ma (0 + 1) mc) ([] ++ [hc])) := RD.out _ _ _ ho; have HB8 : Hid (Below w.heap.size w w8) := Below.grown A3.out hg A3.out.size (fun jj hj => (A2.out.lt _ hj).1); clear ho hg hnn)
          have IM1 : Hid (Calls _ _ _ _ _) := IM.out w8 _ RM.out (HR.out.2.down HB8.out)
          go_wp2_with fail
          refine IM1.out.mono ?_
          rintro e w9 ⟨rfl, hb9⟩
          have B9 : Hid (Below w.heap.size w w9) := over HB8.out hb9
          clear hb9
          go_wp2
          go_ret
          exact ⟨by first | rfl | simp, B9.out⟩
        · have hj1 : 1 ≤ j := by omega
          obtain ⟨g, rfl⟩ : ∃ g, oa = some ⟨g, 0, none⟩ := by
            rcases HO.out.2 with ⟨_, h⟩ | ⟨g, cap', cur, h, _⟩
            · omega
            · injection h with e1; exact ⟨g, e1⟩
          have hoc : j ≤ oc := by
            rcases HO.out.2 with ⟨_, h⟩ | ⟨g, cap', cur, h, _, _, hcc, _⟩
            · omega
            · injection h with _ _ e3; omega
          obtain ⟨n1, n2, n3, n4⟩ := APP.out _ B6.out
          have A2 : Hid (World.ownsRow _ w.heap.size 9 1 (.slice (some ⟨g, 0, none⟩) j oc) j (zs.map Value.string)) := n2
          have A3 : Hid (Below w.heap.size w _) := n3
          have A4 : Hid (Below wr.heap.size wr _) := n4
          have A1 : Hid (∀ (k : Nat) (x : Value), [Value.string hc][k]? = some x → _) := n1
          have RT2 : Hid (ReadsT _ (.slice (some ⟨g, 0, none⟩) j oc) zs) := RZ.out.later n4
          clear n1 n2 n3 n4
          have hjc : (j : Int) - 1 ≤ oc := by omega
          have hjn : ((j - 1 : Nat) : Int) = (j : Int) - 1 := by omega
          have hjt : ((j : Int) - 1).toNat = j - 1 := by omega
          have hj0' : ((j : Int) == 0) = false := by rw [beq_eq_false_iff_ne]; omega
          have hj0'' : (0 : Int) ≤ (j : Int) - 1 := by omega
          have GB : Hid (∀ (a b : World), a.grownBy b none → Below a.heap.size a b) := fun a b h => ⟨h.os, h.tape, h.output, h.size, fun k hk => h.block k hk (by simp)⟩
          have RPT : Hid (∀ w8, ReadsT w8 (.slice (some ⟨g, 0, none⟩) j oc) zs → ReadsT w8 (.slice (some ⟨g, 0, none⟩) (j - 1) oc) (zs.take (j - 1))) := fun w8 h => by
            have := ReadsT.front (k := j - 1) h (by rw [HZL.out]; omega)
            exact this
          by_cases hroom : j + 1 ≤ oc
          · go_wp2_with (at_builtin; refine wpList_append_own_spare _ rfl _ _ 22 rfl w.heap.size 9 i9 1 Tryd.underlying22 HIN.out.1 HIN.out.2.2.1 g j oc _ rfl A2.out _ 1 1 [.string hc] rfl rfl A1.out MO.out hroom ?_; intro w8 ho hg; have RM : Hid (ReadsT w8 (.slice (some ⟨g, 0, none⟩) (j + 1) oc) (zs ++ [hc])) := RD.out _ _ _ ho; have RP : Hid (ReadsT w8 (.slice (some ⟨g, 0, none⟩) (j - 1) oc) (zs.take (j - 1))) := (by have z := ReadsT.front (k := j - 1) RM.out (by rw [List.length_append, HZL.out]; show j - 1 ≤ j + 1; omega); rw [List.take_append_of_le_length (by rw [HZL.out]; omega)] at z; exact z); have HB8 : Hid (Below w.heap.size w w8) := Below.grown A3.out hg A3.out.size (fun jj hj => (A2.out.lt _ hj).1); clear ho hg)
            have IM1 : Hid (Calls _ _ _ _ _) := IM.out w8 _ RM.out (HR.out.2.down HB8.out)
            go_wp2_with fail
            refine IM1.out.mono ?_
            rintro e w9 ⟨rfl, hb9⟩
            have B9 : Hid (Below w.heap.size w w9) := over HB8.out hb9
            have IP1 : Hid (Calls _ _ _ _ _) := IP.out w9 _ hj1 (RP.out.later hb9) (HR.out.2.down B9.out)
            clear hb9
            go_wp2_with fail
            refine IP1.out.mono ?_
            rintro e w10 ⟨rfl, hb10⟩
            have B10 : Hid (Below w.heap.size w w10) := over B9.out hb10
            clear hb10
            go_wp2
            go_ret
            exact ⟨by first | rfl | simp, B10.out⟩
          · go_wp2_with (at_builtin; refine wpList_append_arg _ rfl _ _ 22 rfl 9 i9 (.string ByteArray.empty) 1 16 Tryd.underlying22 HIN.out.1 HIN.out.2.1 HIN.out.2.2.1 HIN.out.2.2.2 rfl (by decide) g 0 j oc (zs.map Value.string) rfl (by rw [List.length_map, HZL.out]; omega) (fun k u hu => by rw [Nat.zero_add]; have hk := (List.getElem?_eq_some_iff.1 hu).1; rw [List.length_map, HZL.out] at hk; rw [A2.out.cellAt k (by omega)]; exact hu) _ 1 1 [.string hc] rfl rfl A1.out MO.out (fun h => absurd h hroom) (by unfold maxLen; omega) (by omega) (fun h => absurd h hroom) ?_; intro hcap8 p' w8 ho hg; obtain ⟨ma, mc, rfl⟩ := own_form ho; have RM : Hid (ReadsT w8 (.slice ma (j + 1) mc) (zs ++ [hc])) := RD.out _ _ _ ho; have RP : Hid (ReadsT w8 (.slice (some ⟨g, 0, none⟩) (j - 1) oc) (zs.take (j - 1))) := RPT.out w8 (RT2.out.later (GB.out _ _ hg)); have HB8 : Hid (Below w.heap.size w w8) := over A3.out (GB.out _ _ hg); clear ho hg hcap8)
            have IM1 : Hid (Calls _ _ _ _ _) := IM.out w8 _ RM.out (HR.out.2.down HB8.out)
            go_wp2_with fail
            refine IM1.out.mono ?_
            rintro e w9 ⟨rfl, hb9⟩
            have B9 : Hid (Below w.heap.size w w9) := over HB8.out hb9
            have IP1 : Hid (Calls _ _ _ _ _) := IP.out w9 _ hj1 (RP.out.later hb9) (HR.out.2.down B9.out)
            clear hb9
            go_wp2_with fail
            refine IP1.out.mono ?_
            rintro e w10 ⟨rfl, hb10⟩
            have B10 : Hid (Below w.heap.size w w10) := over B9.out hb10
            clear hb10
            go_wp2
            go_ret
            exact ⟨by first | rfl | simp, B10.out⟩
end Go.Proofs.YtgkhnjmbmbebiaaDoor.lb
