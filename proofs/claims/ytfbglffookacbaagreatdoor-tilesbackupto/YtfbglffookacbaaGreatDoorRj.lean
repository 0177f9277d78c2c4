import Derived.Test.YtfbglffookacbaaGreatDoorA1
import Derived.Test.YtfbglffookacbaaGreatDoorRa
namespace Go.Proofs.YtfbglffookacbaaGreatDoor.rj
open Go.RowKit Go.PlainAid Go.Shelf
open Go.Proofs.YtfbglffookacbaaGreatDoor.ta Go.Proofs.YtfbglffookacbaaGreatDoor.tb Go.Proofs.YtfbglffookacbaaGreatDoor.tc Go.Proofs.YtfbglffookacbaaGreatDoor.tj Go.Proofs.YtfbglffookacbaaGreatDoor.wa Go.Proofs.YtfbglffookacbaaGreatDoor.a1 Go.Proofs.YtfbglffookacbaaGreatDoor.r3 Go.Proofs.YtfbglffookacbaaGreatDoor.r9 Go.Proofs.YtfbglffookacbaaGreatDoor.ra
set_option linter.unusedVariables false
set_option maxRecDepth 4000

-- where a text stands in another one
theorem bt_left (a b : ByteArray) (j : Nat) (h : j < a.size) : bt (a ++ b) j = bt a j := by
  rw [← get_bt (a ++ b) j (by rw [ByteArray.size_append]; omega), ← get_bt a j h, ByteArray.getElem_append_left]
theorem bt_right (a b : ByteArray) (j : Nat) (h : j < b.size) : bt (a ++ b) (a.size + j) = bt b j := by
  rw [← get_bt (a ++ b) (a.size + j) (by rw [ByteArray.size_append]; omega), ← get_bt b j h, ByteArray.getElem_append_right (by omega)]
  simp
def occ (s sub : ByteArray) (i : Nat) : Bool := Lib.occAt s.data.toList sub.data.toList i
theorem occ_to (s sub : ByteArray) (i : Nat) (hi : i ≤ s.size) (h : occ s sub i = true) : ∃ x y : ByteArray, s = x ++ sub ++ y ∧ x.size = i := by
  unfold occ Lib.occAt at h
  rw [List.isPrefixOf_iff_prefix] at h
  obtain ⟨t, ht⟩ := h
  have hl : s.data.toList.length = s.size := Array.length_toList
  refine ⟨⟨(s.data.toList.take i).toArray⟩, ⟨t.toArray⟩, ?_, ?_⟩
  · apply ByteArray.ext
    apply Array.ext'
    simp only [ByteArray.data_append, Array.toList_append]
    show s.data.toList = s.data.toList.take i ++ sub.data.toList ++ t
    rw [List.append_assoc, ht, List.take_append_drop]
  · show (s.data.toList.take i).toArray.size = i
    rw [List.size_toArray, List.length_take, hl]
    omega
theorem occ_of (x sub y : ByteArray) : occ (x ++ sub ++ y) sub x.size = true := by
  unfold occ Lib.occAt
  rw [List.isPrefixOf_iff_prefix]
  refine ⟨y.data.toList, ?_⟩
  have e : (x ++ sub ++ y).data.toList = x.data.toList ++ (sub.data.toList ++ y.data.toList) := by
    simp only [ByteArray.data_append, Array.toList_append, List.append_assoc]
  have hl : x.size = x.data.toList.length := Array.length_toList.symm
  rw [e, hl, List.drop_left']
  rfl
theorem occ_bt (s sub : ByteArray) (j : Nat) (hj : j ≤ s.size) (h1 : 1 ≤ sub.size) (h : occ s sub j = true) : j < s.size ∧ bt s j = bt sub 0 := by
  obtain ⟨x, y, rfl, rfl⟩ := occ_to s sub j hj h
  refine ⟨by rw [ByteArray.size_append, ByteArray.size_append]; omega, ?_⟩
  rw [ByteArray.append_assoc]
  have := bt_right x (sub ++ y) 0 (by rw [ByteArray.size_append]; omega)
  rw [Nat.add_zero] at this
  rw [this, bt_left _ _ _ (by omega)]
-- a text without a byte
def nob (c : Int) (l : ByteArray) : Prop := ∀ x ∈ bs l, x ≠ c
theorem nob_bt {c : Int} {l : ByteArray} (h : nob c l) (j : Nat) (hj : j < l.size) : bt l j ≠ c := by
  rw [← bs_get l j hj]
  exact h _ (List.getElem_mem _)
theorem occ_front (x sub y : ByteArray) (h1 : 1 ≤ sub.size) (hx : nob (bt sub 0) x) (j : Nat) (hj : j < x.size) : occ (x ++ sub ++ y) sub j = false := by
  cases h : occ (x ++ sub ++ y) sub j with
  | false => rfl
  | true =>
    have := (occ_bt _ sub j (by rw [ByteArray.size_append, ByteArray.size_append]; omega) h1 h).2
    rw [ByteArray.append_assoc, bt_left _ _ _ hj] at this
    exact absurd this (nob_bt hx j hj)
theorem index_at (x sub y : ByteArray) (h1 : 1 ≤ sub.size) (hx : nob (bt sub 0) x) : Lib.index (x ++ sub ++ y).data.toList sub.data.toList = (x.size : Nat) := by
  refine Lib.index_first ?_ (occ_of x sub y) (occ_front x sub y h1 hx)
  rw [Array.length_toList]
  show _ ≤ (x ++ sub ++ y).size
  rw [ByteArray.size_append, ByteArray.size_append]
  omega
theorem split_at (x sub y : ByteArray) (k : Nat) (h1 : 1 ≤ sub.size) (hx : nob (bt sub 0) x) : Lib.splitB sub 0 (k + 1) (x ++ sub ++ y) = x :: Lib.splitB sub 0 k y := by
  rw [Lib.splitB_hit sub 0 k _ x.size (index_at x sub y h1 hx), Nat.add_zero]
  congr 1
  · apply bs_inj
    rw [bs_extract _ _ _ (by omega) (by rw [ByteArray.size_append, ByteArray.size_append]; omega), bs_two, bs_two, List.append_assoc, List.drop_zero, List.take_left' (bs_length x)]
  · congr 1
    apply bs_inj
    have hz : (x ++ sub ++ y).size = x.size + sub.size + y.size := by rw [ByteArray.size_append, ByteArray.size_append]
    rw [bs_extract _ _ _ (by omega) (Nat.le_refl _), List.take_of_length_le (by rw [bs_length]; omega), bs_two, List.drop_left' (by rw [bs_length, ByteArray.size_append])]
theorem cut_at (x sub y : ByteArray) (h1 : 1 ≤ sub.size) (hx : nob (bt sub 0) x) : Lib.cut (x ++ sub ++ y).data.toList sub.data.toList = (x.data.toList, y.data.toList, true) := by
  have e : (x ++ sub ++ y).data.toList = x.data.toList ++ (sub.data.toList ++ y.data.toList) := by
    simp only [ByteArray.data_append, Array.toList_append, List.append_assoc]
  have hl : x.size = x.data.toList.length := Array.length_toList.symm
  unfold Lib.cut
  rw [index_at x sub y h1 hx, if_pos (by omega), Int.toNat_natCast, e, hl, List.take_left', ← List.drop_drop, List.drop_left', List.drop_left']
  · rfl
  · rfl
  · rfl
theorem cut_no (x sub : ByteArray) (h1 : 1 ≤ sub.size) (hx : nob (bt sub 0) x) : Lib.cut x.data.toList sub.data.toList = (x.data.toList, [], false) := by
  have hi : Lib.index x.data.toList sub.data.toList = -1 := by
    refine Lib.index_none (fun j hj => ?_)
    rw [Array.length_toList] at hj
    cases h : occ x sub j with
    | false => exact h
    | true =>
      obtain ⟨h2, h3⟩ := occ_bt x sub j hj h1 h
      exact absurd h3 (nob_bt hx j h2)
  unfold Lib.cut
  rw [hi, if_neg (by omega)]
-- what digits say
def dig (l : List Int) : Prop := ∀ x ∈ l, 48 ≤ x ∧ x ≤ 57
def vl (a : Nat) (l : List Int) : Nat := l.foldl (fun a c => 10 * a + (c - 48).toNat) a
theorem vl_app (a : Nat) (l m : List Int) : vl a (l ++ m) = vl (vl a l) m := by unfold vl; rw [List.foldl_append]
theorem vl_ge : ∀ (l : List Int) (a : Nat), a ≤ vl a l
  | [], a => Nat.le_refl _
  | c :: l, a => by
    have := vl_ge l (10 * a + (c - 48).toNat)
    show a ≤ vl (10 * a + (c - 48).toNat) l
    omega
theorem dig_app {l m : List Int} (h : dig l) (h' : dig m) : dig (l ++ m) := by
  intro x hx
  rcases List.mem_append.1 hx with h1 | h1
  · exact h x h1
  · exact h' x h1
theorem dig_in {l : List Int} (h : dig l) : In 256 l := by
  intro x hx
  have := h x hx
  omega
theorem vl_lt : ∀ (l : List Int) (a k : Nat), dig l → a < 10 ^ k → vl a l < 10 ^ (k + l.length)
  | [], a, k, _, h => h
  | c :: l, a, k, hd, h => by
    have hc := hd c (List.mem_cons_self ..)
    have := vl_lt l (10 * a + (c - 48).toNat) (k + 1) (fun x hx => hd x (List.mem_cons_of_mem _ hx)) (by rw [Nat.pow_succ]; omega)
    rw [List.length_cons, show k + (l.length + 1) = k + 1 + l.length by omega]
    exact this
theorem dig_dg (u : Nat) : dig (dgN u) := dg_in u
theorem vl_dg (u : Nat) : vl 0 (dgN u) = u := by
  induction u using Nat.strongRecOn with
  | ind u ih =>
    by_cases h : u < 10
    · rw [dgN_small h]
      show 10 * 0 + (48 + (u : Int) - 48).toNat = u
      omega
    · rw [dgN_big h, vl_app, ih (u / 10) (by omega)]
      show 10 * (u / 10) + (48 + ((u % 10 : Nat) : Int) - 48).toNat = u
      omega
theorem dig_g3 {n : Nat} (h : n < 1000) : dig (g3L n) := by
  intro x hx
  simp only [g3L, List.mem_cons, List.not_mem_nil, or_false] at hx
  rcases hx with rfl | rfl | rfl <;> omega
theorem vl_g3 {n : Nat} (h : n < 1000) (a : Nat) : vl a (g3L n) = 1000 * a + n := by
  show 10 * (10 * (10 * a + (48 + ((n / 100 : Nat) : Int) - 48).toNat) + (48 + ((n / 10 % 10 : Nat) : Int) - 48).toNat) + (48 + ((n % 10 : Nat) : Int) - 48).toNat = _
  omega
theorem parse_vl : ∀ (l : List Int) (a : Nat), dig l → vl a l < 9223372036854775808 → Lib.parseUint10 a (l.map fun n => UInt8.ofNat n.toNat) = .ok (vl a l)
  | [], a, _, _ => rfl
  | c :: l, a, hd, hv => by
    have hc := hd c (List.mem_cons_self ..)
    have h1 := vl_ge l (10 * a + (c - 48).toNat)
    have hv' : vl (10 * a + (c - 48).toNat) l < 9223372036854775808 := hv
    have e : (UInt8.ofNat c.toNat).toNat = c.toNat := by
      rw [show c.toNat = 48 + (c - 48).toNat by omega]
      exact of48 _ (by omega)
    rw [List.map_cons]
    simp only [Lib.parseUint10, e]
    rw [if_pos (by omega), if_neg (by omega), if_neg (by omega)]
    have e2 : a * 10 + (c.toNat - 48) = 10 * a + (c - 48).toNat := by omega
    rw [e2]
    exact parse_vl l _ (fun x hx => hd x (List.mem_cons_of_mem _ hx)) hv'
theorem numV_dig (l : List Int) (h0 : l ≠ []) (hd : dig l) (hv : vl 0 l < 9223372036854775808) : numV (str l) = (vl 0 l : Nat) := by
  refine numV_ok ?_
  have e : (str l).data.toList = l.map fun n => UInt8.ofNat n.toNat := by rw [str_data]
  rw [e]
  have hp := parse_vl l 0 hd hv
  cases l with
  | nil => exact absurd rfl h0
  | cons c r =>
    have hc := hd c (List.mem_cons_self ..)
    have e1 : (UInt8.ofNat c.toNat).toNat = c.toNat := by
      rw [show c.toNat = 48 + (c - 48).toNat by omega]
      exact of48 _ (by omega)
    rw [List.map_cons] at hp ⊢
    rw [Lib.atoiAll_plain _ _ (by omega) (by omega)]
    unfold Lib.parseMag
    rw [if_neg (by simp), hp]
    unfold Lib.signless
    simp only
    rw [if_neg (by omega)]
theorem numV_dec (n : Int) (h : I64 n) : numV (decS n) = n := numV_ok (by rw [data_dec]; exact atoi_itoa n h)
-- the groups of an index
def gsN (n : Nat) : List Nat := if h : n = 0 then [] else gsN (n / 1000) ++ [n % 1000]
termination_by n
decreasing_by omega
theorem gsN_zero : gsN 0 = [] := by rw [gsN, dif_pos rfl]
theorem gsN_step {n : Nat} (h : n ≠ 0) : gsN n = gsN (n / 1000) ++ [n % 1000] := by rw [gsN, dif_neg h]
theorem gsN_lt (n : Nat) : ∀ g ∈ gsN n, g < 1000 := by
  induction n using Nat.strongRecOn with
  | ind n ih =>
    by_cases h : n = 0
    · subst h; rw [gsN_zero]; intro g hg; cases hg
    · rw [gsN_step h]
      intro g hg
      rcases List.mem_append.1 hg with h1 | h1
      · exact ih (n / 1000) (by omega) g h1
      · rw [List.mem_singleton.1 h1]; omega
def gv (a : Nat) (gs : List Nat) : Nat := gs.foldl (fun a g => 1000 * a + g) a
theorem gv_gsN (n : Nat) : gv 0 (gsN n) = n := by
  induction n using Nat.strongRecOn with
  | ind n ih =>
    by_cases h : n = 0
    · subst h; rw [gsN_zero]; rfl
    · rw [gsN_step h]
      unfold gv at ih ⊢
      rw [List.foldl_append, ih (n / 1000) (by omega)]
      show 1000 * (n / 1000) + n % 1000 = n
      omega
theorem gv_ge : ∀ (gs : List Nat) (a : Nat), a ≤ gv a gs
  | [], a => Nat.le_refl _
  | g :: gs, a => by
    have := gv_ge gs (1000 * a + g)
    show a ≤ gv (1000 * a + g) gs
    omega
def flX : List Nat → ByteArray
  | [] => ByteArray.empty
  | g :: gs => xB ++ grp g ++ slB ++ flX gs
theorem flX_app (a b : List Nat) : flX (a ++ b) = flX a ++ flX b := by
  induction a with
  | nil => show flX b = ByteArray.empty ++ flX b; rw [ByteArray.empty_append]
  | cons g a ih => show xB ++ grp g ++ slB ++ flX (a ++ b) = xB ++ grp g ++ slB ++ flX a ++ flX b; rw [ih]; simp only [ByteArray.append_assoc]
theorem ixA_fl (n : Nat) : ∀ s : ByteArray, ixA n s = flX (gsN n) ++ s := by
  induction n using Nat.strongRecOn with
  | ind n ih =>
    intro s
    by_cases h : n = 0
    · subst h; rw [gsN_zero, ixA_zero]; show s = ByteArray.empty ++ s; rw [ByteArray.empty_append]
    · rw [ixA_step h, ih (n / 1000) (by omega), gsN_step h, flX_app]
      show _ = flX (gsN (n / 1000)) ++ (xB ++ grp (n % 1000) ++ slB ++ ByteArray.empty) ++ s
      rw [ByteArray.append_empty]
      simp only [ByteArray.append_assoc]
theorem ixS_fl (n : Nat) : ixS n = flX (gsN (n / 1000)) ++ grp (n % 1000) := ixA_fl _ _
theorem bs_x : bs xB = [120] := by decide +kernel
theorem bs_sl : bs slB = [47] := by decide +kernel
theorem bs_pt : bs ptB = [46, 112, 47] := by decide +kernel
theorem bs_tl : bs tlB = [116, 105, 108, 101] := by decide +kernel
theorem bs_grp {n : Nat} (h : n < 1000) : bs (grp n) = g3L n := bs_str _ (g3_in h)
theorem keep_dig {l : List Int} (h : dig l) : keepL l = l := by
  unfold keepL
  rw [List.filter_eq_self]
  intro x hx
  have := h x hx
  exact decide_eq_true (by omega)
theorem keep_app (a b : List Int) : keepL (a ++ b) = keepL a ++ keepL b := by unfold keepL; rw [List.filter_append]
theorem keep_fl (t : ByteArray) : ∀ (gs : List Nat), (∀ g ∈ gs, g < 1000) → keepL (bs (flX gs ++ t)) = gs.flatMap g3L ++ keepL (bs t)
  | [], _ => by show keepL (bs (ByteArray.empty ++ t)) = _; rw [ByteArray.empty_append]; rfl
  | g :: gs, h => by
    have hg := h g (List.mem_cons_self ..)
    have ih := keep_fl t gs (fun x hx => h x (List.mem_cons_of_mem _ hx))
    show keepL (bs (xB ++ grp g ++ slB ++ flX gs ++ t)) = _
    rw [ByteArray.append_assoc, bs_two, keep_app, ih, bs_two, bs_two, keep_app, keep_app, bs_x, bs_sl, bs_grp hg, keep_dig (dig_g3 hg), List.flatMap_cons]
    show [] ++ g3L g ++ [] ++ _ = _
    simp
theorem dig_flat : ∀ (gs : List Nat), (∀ g ∈ gs, g < 1000) → dig (gs.flatMap g3L)
  | [], _ => by intro x hx; cases hx
  | g :: gs, h => by
    rw [List.flatMap_cons]
    exact dig_app (dig_g3 (h g (List.mem_cons_self ..))) (dig_flat gs (fun x hx => h x (List.mem_cons_of_mem _ hx)))
theorem vl_flat : ∀ (gs : List Nat) (a : Nat), (∀ g ∈ gs, g < 1000) → vl a (gs.flatMap g3L) = gv a gs
  | [], a, _ => rfl
  | g :: gs, a, h => by
    rw [List.flatMap_cons, vl_app, vl_g3 (h g (List.mem_cons_self ..)), vl_flat gs _ (fun x hx => h x (List.mem_cons_of_mem _ hx))]
    rfl
theorem numV_ix (n : Nat) (h : n < 9223372036854775808) : numV (kpB (ixS n)) = (n : Int) := by
  have hl := gsN_lt (n / 1000)
  have hm : n % 1000 < 1000 := by omega
  have e : keepL (bs (ixS n)) = (gsN (n / 1000)).flatMap g3L ++ g3L (n % 1000) := by
    rw [ixS_fl, keep_fl _ _ hl, bs_grp hm, keep_dig (dig_g3 hm)]
  have hv : vl 0 ((gsN (n / 1000)).flatMap g3L ++ g3L (n % 1000)) = n := by
    rw [vl_app, vl_flat _ _ hl, gv_gsN, vl_g3 hm]
    omega
  unfold kpB
  rw [e, numV_dig _ (by simp [g3L]) (dig_app (dig_flat _ hl) (dig_g3 hm)) (by rw [hv]; exact h), hv]
-- no dot, no slash
theorem dig_nob {l : List Int} (h : dig l) (c : Int) (hc : c = 46 ∨ c = 47) : ∀ x ∈ l, x ≠ c := by
  intro x hx e
  have := h x hx
  omega
theorem dec_bs (n : Int) (h : 0 ≤ n) : bs (decS n) = dgN n.toNat := by rw [bs_dec]; unfold decI; rw [if_neg (by omega)]
theorem dec_nob (n : Int) (h : 0 ≤ n) (c : Int) (hc : c = 46 ∨ c = 47) : nob c (decS n) := by
  unfold nob
  rw [dec_bs n h]
  exact dig_nob (dig_dg _) c hc
theorem fl_nob : ∀ (gs : List Nat), (∀ g ∈ gs, g < 1000) → nob 46 (flX gs)
  | [], _ => by intro x hx; cases hx
  | g :: gs, h => by
    have hg := h g (List.mem_cons_self ..)
    have ih := fl_nob gs (fun x hx => h x (List.mem_cons_of_mem _ hx))
    intro x hx
    rw [show flX (g :: gs) = xB ++ grp g ++ slB ++ flX gs from rfl, bs_two, bs_two, bs_two, bs_x, bs_sl, bs_grp hg] at hx
    rcases List.mem_append.1 hx with hx | hx
    · rcases List.mem_append.1 hx with hx | hx
      · rcases List.mem_append.1 hx with hx | hx
        · rw [List.mem_singleton.1 hx]; decide
        · exact dig_nob (dig_g3 hg) 46 (.inl rfl) x hx
      · rw [List.mem_singleton.1 hx]; decide
    · exact ih x hx
theorem ix_nob (n : Nat) : nob 46 (ixS n) := by
  rw [ixS_fl]
  intro x hx
  rw [bs_two] at hx
  rcases List.mem_append.1 hx with hx | hx
  · exact fl_nob _ (gsN_lt _) x hx
  · rw [bs_grp (by omega)] at hx
    exact dig_nob (dig_g3 (by omega)) 46 (.inl rfl) x hx
-- WHAT THE PROGRAM GUESSES OF A TILE'S PATH
def tailS (h i c : Int) : ByteArray := ixS i.toNat ++ (if c < 2 ^ h.toNat then ptB ++ decS c else ⟨#[]⟩)
theorem path_tail (h l i c : Int) : pathS h l i c = tlB ++ slB ++ (decS h ++ slB ++ (decS l ++ slB ++ tailS h i c)) := by
  unfold pathS tailS
  simp only [ByteArray.append_assoc]
theorem pts_path (h l i c : Int) (h0 : 0 ≤ h) (l0 : 0 ≤ l) : ptsL (pathS h l i c) = [tlB, decS h, decS l, tailS h i c] := by
  have hz : min 4 ((pathS h l i c).size + 1) - 1 = 3 := by
    have : 5 ≤ (pathS h l i c).size := by
      rw [path_tail, ByteArray.size_append, ByteArray.size_append, show tlB.size = 4 from rfl, show slB.size = 1 from rfl]
      omega
    omega
  have b0 : bt slB 0 = 47 := by decide +kernel
  have s1 : 1 ≤ slB.size := Nat.le_refl _
  unfold ptsL
  rw [hz, path_tail]
  show Lib.splitB slB 0 (2 + 1) _ = _
  rw [split_at _ _ _ _ s1 (by rw [b0]; intro x hx; rw [bs_tl] at hx; simp only [List.mem_cons, List.not_mem_nil, or_false] at hx; rcases hx with rfl | rfl | rfl | rfl <;> decide)]
  rw [split_at _ _ _ 1 s1 (by rw [b0]; exact dec_nob h h0 47 (.inr rfl)), split_at _ _ _ 0 s1 (by rw [b0]; exact dec_nob l l0 47 (.inr rfl)), Lib.splitB_zero]
theorem cut_path (h l i c : Int) (h0 : 0 ≤ h) (l0 : 0 ≤ l) : cutQ (pathS h l i c) = if c < 2 ^ h.toNat then ((ixS i.toNat).data.toList, (decS c).data.toList, true) else ((ixS i.toNat).data.toList, [], false) := by
  have b0 : bt ptB 0 = 46 := by decide +kernel
  have s1 : 1 ≤ ptB.size := by decide
  unfold cutQ
  rw [pts_path h l i c h0 l0]
  show Lib.cut (tailS h i c).data.toList ptB.data.toList = _
  unfold tailS
  by_cases g : c < 2 ^ h.toNat
  · rw [if_pos g, if_pos g, ← ByteArray.append_assoc]
    exact cut_at _ _ _ s1 (by rw [b0]; exact ix_nob _)
  · rw [if_neg g, if_neg g]
    show Lib.cut (ixS i.toNat ++ ByteArray.empty).data.toList ptB.data.toList = _
    rw [ByteArray.append_empty]
    exact cut_no _ _ s1 (by rw [b0]; exact ix_nob _)
theorem mk_list (s : ByteArray) : (⟨s.data.toList.toArray⟩ : ByteArray) = s := by simp
theorem gs_path (h l i c : Int) (g : Goes h l i c) (hl : l ≤ 62) (hi : i ≤ 4611686018427387904) (hc : c ≤ 256) : gsV (pathS h l i c) = .agg #[.int .i64 h, .int .i64 l, .int .i64 i, .int .i64 c] := by
  obtain ⟨g1, g2, g3, g4, g5, g6, g7, g8⟩ := g
  have ep := pts_path h l i c (by omega) g3
  have ec := cut_path h l i c (by omega) g3
  have eh : gsH (pathS h l i c) = h := by unfold gsH; rw [ep]; exact numV_dec h ⟨by omega, by omega⟩
  have el : gsL (pathS h l i c) = l := by unfold gsL; rw [ep]; exact numV_dec l ⟨by omega, by omega⟩
  have ei : gsI (pathS h l i c) = i := by
    have e : ixT (pathS h l i c) = ixS i.toNat := by
      unfold ixT
      rw [ec]
      split <;> exact mk_list _
    unfold gsI
    rw [e, numV_ix _ (by omega)]
    omega
  have ek : gsC (pathS h l i c) = c := by
    unfold gsC ctT
    rw [ec, eh]
    by_cases gc : c < 2 ^ h.toNat
    · rw [if_pos gc, if_neg (by intro e; cases e.1), mk_list]
      exact numV_dec c ⟨by omega, by omega⟩
    · rw [if_neg gc, if_pos ⟨rfl, by omega, by omega⟩]
      omega
  unfold gsV
  rw [if_neg (by rw [ep]; show ¬ 4 < 4; omega), eh, el, ei, ek]
end Go.Proofs.YtfbglffookacbaaGreatDoor.rj
