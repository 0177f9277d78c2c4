import Derived.Test.YtfbglffookacbaaGreatDoorRj
import Derived.Test.YtfbglffookacbaaGreatDoorA8
namespace Go.Proofs.YtfbglffookacbaaGreatDoor.rk
open Go.RowKit Go.PlainAid Go.Shelf
open Go.Proofs.YtfbglffookacbaaGreatDoor.ta Go.Proofs.YtfbglffookacbaaGreatDoor.tb Go.Proofs.YtfbglffookacbaaGreatDoor.tc Go.Proofs.YtfbglffookacbaaGreatDoor.tj Go.Proofs.YtfbglffookacbaaGreatDoor.wa Go.Proofs.YtfbglffookacbaaGreatDoor.a1 Go.Proofs.YtfbglffookacbaaGreatDoor.a7 Go.Proofs.YtfbglffookacbaaGreatDoor.a8 Go.Proofs.YtfbglffookacbaaGreatDoor.rj
set_option linter.unusedVariables false
set_option maxRecDepth 4000

-- THE DOCUMENT'S READING: the digits at the head
def isD (x : Int) : Bool := decide (48 ≤ x ∧ x ≤ 57)
def lead (s : ByteArray) : Nat := ((bs s).takeWhile isD).length
def dgV (s : ByteArray) : Int := if lead s = 0 ∨ 18 < lead s then -1 else (vl 0 ((bs s).take (lead s)) : Nat)
def dgR (s : ByteArray) : ByteArray := if lead s = 0 ∨ 18 < lead s then ByteArray.empty else s.extract (lead s) s.size
theorem lead_le (s : ByteArray) : lead s ≤ s.size := by
  have := (List.takeWhile_prefix (p := isD) (l := bs s)).length_le
  rw [bs_length] at this
  exact this
theorem lead_dig (s : ByteArray) (j : Nat) (h : j < lead s) : 48 ≤ bt s j ∧ bt s j ≤ 57 := by
  have hz := lead_le s
  have h1 : (bs s).takeWhile isD <+: bs s := List.takeWhile_prefix isD
  have h2 := h1.getElem h
  have h3 := List.all_takeWhile (p := isD) (l := bs s)
  have h4 := List.all_eq_true.1 h3 _ (List.getElem_mem h)
  rw [h2, bs_get s j (by omega)] at h4
  exact of_decide_eq_true h4
theorem take_len (p : Int → Bool) : ∀ (l : List Int) (h : (l.takeWhile p).length < l.length), p (l[(l.takeWhile p).length]'h) = false
  | x :: l, h => by
    by_cases hx : p x = true
    · simp only [List.takeWhile_cons, hx, if_true, List.length_cons, List.getElem_cons_succ]
      exact take_len p l (by simpa only [List.takeWhile_cons, hx, if_true, List.length_cons, Nat.add_lt_add_iff_right] using h)
    · simp only [List.takeWhile_cons, hx, Bool.false_eq_true, if_false, List.length_nil, List.getElem_cons_zero]
theorem lead_end (s : ByteArray) (h : lead s < s.size) : ¬ (48 ≤ bt s (lead s) ∧ bt s (lead s) ≤ 57) := by
  have := take_len isD (bs s) (by rw [bs_length]; exact h)
  intro e
  have e2 : bt s (lead s) = (bs s)[((bs s).takeWhile isD).length]'(by rw [bs_length]; exact h) := (bs_get s (lead s) h).symm
  rw [e2] at e
  rw [isD, decide_eq_true e] at this
  cases this
theorem take_snoc (s : ByteArray) (j : Nat) (h : j < s.size) : (bs s).take (j + 1) = (bs s).take j ++ [bt s j] := by
  rw [List.take_succ_eq_append_getElem (by rw [bs_length]; exact h), bs_get s j h]
theorem vl_snoc (s : ByteArray) (j : Nat) (h : j < s.size) : vl 0 ((bs s).take (j + 1)) = 10 * vl 0 ((bs s).take j) + (bt s j - 48).toNat := by rw [take_snoc s j h, vl_app]; rfl
theorem take_dig (s : ByteArray) (j : Nat) (h : j ≤ lead s) : dig ((bs s).take j) := by
  intro x hx
  have hz := lead_le s
  obtain ⟨k, hk, rfl⟩ := List.getElem_of_mem hx
  rw [List.length_take, bs_length] at hk
  rw [List.getElem_take, bs_get s k (by omega)]
  exact lead_dig s k (by omega)
theorem vl_bound (s : ByteArray) (j : Nat) (h : j ≤ lead s) (h18 : j ≤ 18) : vl 0 ((bs s).take j) < 1000000000000000000 := by
  have h1 := vl_lt ((bs s).take j) 0 0 (take_dig s j h) (by decide)
  have h2 : ((bs s).take j).length ≤ 18 := by rw [List.length_take]; omega
  have h3 : 10 ^ (0 + ((bs s).take j).length) ≤ 10 ^ 18 := Nat.pow_le_pow_right (by decide) (by omega)
  have e18 : (10 : Nat) ^ 18 = 1000000000000000000 := by decide
  omega
theorem dgV_in (s : ByteArray) : -1 ≤ dgV s ∧ dgV s < 1000000000000000000 := by
  unfold dgV
  split
  · omega
  · have := vl_bound s (lead s) (Nat.le_refl _) (by omega)
    omega
theorem dgR_size (s : ByteArray) : (dgR s).size ≤ s.size := by
  unfold dgR
  split
  · exact Nat.zero_le _
  · rw [ByteArray.size_extract]; omega
-- behind what must stand ahead
def hasP (s a : ByteArray) : Prop := a.size ≤ s.size ∧ s.extract 0 a.size = a
instance (s a : ByteArray) : Decidable (hasP s a) := by unfold hasP; infer_instance
def rdV (s a : ByteArray) : Int := if hasP s a then dgV (s.extract a.size s.size) else -1
def rdR (s a : ByteArray) : ByteArray := if hasP s a then dgR (s.extract a.size s.size) else ByteArray.empty
theorem rdV_in (s a : ByteArray) : -1 ≤ rdV s a ∧ rdV s a < 1000000000000000000 := by
  unfold rdV
  split
  · exact dgV_in _
  · omega
theorem rdR_size (s a : ByteArray) : (rdR s a).size ≤ s.size - a.size := by
  unfold rdR
  split
  · have := dgR_size (s.extract a.size s.size)
    rw [ByteArray.size_extract] at this
    omega
  · exact Nat.zero_le _
theorem rdV_some (s a : ByteArray) (h : 0 ≤ rdV s a) : a.size ≤ s.size := by
  unfold rdV at h
  split at h
  · rename_i g; exact g.1
  · omega
-- the groups
def sxB : ByteArray := ⟨#[47, 120]⟩
def stI (ix n : Int) : Int := IntKind.i64.wrap (IntKind.i64.wrap (1000 * ix) + n)
def lpF : Nat → Int → ByteArray → Int × ByteArray
  | 0, ix, r => (ix, r)
  | k + 1, ix, r => if 0 ≤ rdV r sxB ∧ ix < 4503599627370496 then lpF k (stI ix (rdV r sxB)) (rdR r sxB) else (ix, r)
theorem lp_no (k : Nat) (ix : Int) (r : ByteArray) (h : ¬ (0 ≤ rdV r sxB ∧ ix < 4503599627370496)) : lpF k ix r = (ix, r) := by
  cases k with
  | zero => rfl
  | succ k => show (if _ then _ else _) = _; rw [if_neg h]
theorem lp_yes (k : Nat) (ix : Int) (r : ByteArray) (hk : r.size ≤ k) (h : 0 ≤ rdV r sxB ∧ ix < 4503599627370496) : ∃ k', (rdR r sxB).size ≤ k' ∧ lpF k ix r = lpF k' (stI ix (rdV r sxB)) (rdR r sxB) := by
  have h1 := rdV_some r sxB h.1
  have h2 := rdR_size r sxB
  have h3 : sxB.size = 2 := rfl
  cases k with
  | zero => omega
  | succ k => exact ⟨k, by omega, by show (if _ then _ else _) = _; rw [if_pos h]⟩
-- the whole
structure Rdg where
  h : Int
  l : Int
  i : Int
  last : Int
  e : ByteArray
def dRd (p : ByteArray) : Rdg :=
  let r1 := rdR p tsB
  let r2 := rdR r1 slB
  let f := lpF p.size 0 r2
  ⟨rdV p tsB, rdV r1 slB, stI f.1 (rdV f.2 slB), rdV f.2 slB, rdR f.2 slB⟩
theorem dRd_h (p : ByteArray) : (dRd p).h = rdV p tsB := rfl
theorem dRd_l (p : ByteArray) : (dRd p).l = rdV (rdR p tsB) slB := rfl
theorem dRd_last (p : ByteArray) : (dRd p).last = rdV (lpF p.size 0 (rdR (rdR p tsB) slB)).2 slB := rfl
theorem dRd_e (p : ByteArray) : (dRd p).e = rdR (lpF p.size 0 (rdR (rdR p tsB) slB)).2 slB := rfl
theorem dRd_i (p : ByteArray) : (dRd p).i = stI (lpF p.size 0 (rdR (rdR p tsB) slB)).1 (rdV (lpF p.size 0 (rdR (rdR p tsB) slB)).2 slB) := rfl
def dCt (x : Rdg) : Int := if x.e.size = 0 then 2 ^ x.h.toNat else rdV x.e ptB
def dBad (x : Rdg) : Prop := x.h < 1 ∨ 8 < x.h ∨ x.last < 0
instance (x : Rdg) : Decidable (dBad x) := by unfold dBad; infer_instance
-- a number that is read
theorem lead_str (l : List Int) (t : ByteArray) (hd : dig l) (ht : t.size = 0 ∨ ¬ (48 ≤ bt t 0 ∧ bt t 0 ≤ 57)) : lead (str l ++ t) = l.length := by
  unfold lead
  rw [bs_two, bs_str l (dig_in hd), List.takeWhile_append_of_pos (p := isD) (fun x hx => (decide_eq_true (hd x hx) : isD x = true)), List.length_append]
  have : (bs t).takeWhile isD = [] := by
    cases hb : bs t with
    | nil => rfl
    | cons x m =>
      have hz : 0 < t.size := by rw [← bs_length, hb]; exact Nat.succ_pos _
      have e : bt t 0 = x := by rw [← bs_get t 0 hz]; simp [hb]
      rcases ht with ht | ht
      · omega
      · rw [e] at ht
        rw [List.takeWhile_cons, if_neg (by rw [isD, decide_eq_false ht]; decide)]
  rw [this]
  rfl
theorem read_str (l : List Int) (t : ByteArray) (hd : dig l) (h0 : l ≠ []) (h18 : l.length ≤ 18) (ht : t.size = 0 ∨ ¬ (48 ≤ bt t 0 ∧ bt t 0 ≤ 57)) : dgV (str l ++ t) = (vl 0 l : Nat) ∧ dgR (str l ++ t) = t := by
  have hl := lead_str l t hd ht
  have hp : l.length ≠ 0 := fun e => h0 (List.length_eq_zero_iff.1 e)
  have hi := bs_str l (dig_in hd)
  constructor
  · unfold dgV
    rw [hl, if_neg (by omega), bs_two, hi, List.take_left' rfl]
  · unfold dgR
    rw [hl, if_neg (by omega)]
    apply bs_inj
    have hz : (str l ++ t).size = l.length + t.size := by rw [ByteArray.size_append, str_size]
    rw [bs_extract _ _ _ (by omega) (Nat.le_refl _), List.take_of_length_le (by rw [bs_length]; omega), bs_two, hi, List.drop_left' rfl]
theorem ahead_rd (a s : ByteArray) : rdV (a ++ s) a = dgV s ∧ rdR (a ++ s) a = dgR s := by
  have hz : (a ++ s).size = a.size + s.size := ByteArray.size_append
  have h1 : (a ++ s).extract 0 a.size = a := by
    apply bs_inj
    rw [bs_extract _ _ _ (by omega) (by omega), bs_two, List.drop_zero, List.take_left' (bs_length a)]
  have h2 : (a ++ s).extract a.size (a ++ s).size = s := by
    apply bs_inj
    rw [bs_extract _ _ _ (by omega) (Nat.le_refl _), List.take_of_length_le (by rw [bs_length]; omega), bs_two, List.drop_left' (bs_length a)]
  have hp : hasP (a ++ s) a := ⟨by omega, h1⟩
  unfold rdV rdR
  rw [if_pos hp, if_pos hp, h2]
  exact ⟨rfl, rfl⟩
theorem bs_first (t : ByteArray) (x : Int) (m : List Int) (h : bs t = x :: m) : 0 < t.size ∧ bt t 0 = x := by
  have hz : 0 < t.size := by rw [← bs_length, h]; exact Nat.succ_pos _
  exact ⟨hz, by rw [← bs_get t 0 hz]; simp [h]⟩
theorem nd_sl (t : ByteArray) : (slB ++ t).size = 0 ∨ ¬ (48 ≤ bt (slB ++ t) 0 ∧ bt (slB ++ t) 0 ≤ 57) := by
  have h : bs (slB ++ t) = 47 :: bs t := by rw [bs_two, bs_sl]; rfl
  have := (bs_first _ _ _ h).2
  exact .inr (by omega)
theorem nd_pt (t : ByteArray) : (ptB ++ t).size = 0 ∨ ¬ (48 ≤ bt (ptB ++ t) 0 ∧ bt (ptB ++ t) 0 ≤ 57) := by
  have h : bs (ptB ++ t) = 46 :: ([112, 47] ++ bs t) := by rw [bs_two, bs_pt]; rfl
  have := (bs_first _ _ _ h).2
  exact .inr (by omega)
theorem dec_read (n : Int) (h0 : 0 ≤ n) (h1 : n < 10000) (t : ByteArray) (ht : t.size = 0 ∨ ¬ (48 ≤ bt t 0 ∧ bt t 0 ≤ 57)) : dgV (decS n ++ t) = n ∧ dgR (decS n ++ t) = t := by
  have e : decS n = str (dgN n.toNat) := by rw [← str_bs (decS n), dec_bs n h0]
  have hl := dg_len 3 n.toNat (by omega)
  have := read_str (dgN n.toNat) t (dig_dg _) (dg_ne _) (by omega) ht
  rw [e, vl_dg] at *
  exact ⟨by rw [this.1]; omega, this.2⟩
theorem grp_read (g : Nat) (h : g < 1000) (t : ByteArray) (ht : t.size = 0 ∨ ¬ (48 ≤ bt t 0 ∧ bt t 0 ≤ 57)) : dgV (grp g ++ t) = g ∧ dgR (grp g ++ t) = t := by
  have := read_str (g3L g) t (dig_g3 h) (by simp [g3L]) (by show 3 ≤ 18; omega) ht
  rw [vl_g3 h] at this
  exact ⟨by show dgV (str (g3L g) ++ t) = _; rw [this.1]; omega, this.2⟩
theorem sx_eq : sxB = slB ++ xB := by
  apply ByteArray.ext
  rw [ByteArray.data_append]
  rfl
theorem stI_id (ix n : Int) (h0 : 0 ≤ ix) (h1 : ix < 4503599627370496) (h2 : 0 ≤ n) (h3 : n < 1000) : stI ix n = 1000 * ix + n := by
  unfold stI
  rw [IntKind.wrap_i64, IntKind.wrap_i64]
  omega
theorem stI_back (i : Int) (h0 : 0 ≤ i) (h1 : i ≤ 4611686018427387904) : stI ((i.toNat / 1000 : Nat) : Int) ((i.toNat % 1000 : Nat) : Int) = i := by
  have a1 : (1000 * ((i.toNat / 1000 : Nat) : Int)) + ((i.toNat % 1000 : Nat) : Int) = i := by omega
  generalize ((i.toNat / 1000 : Nat) : Int) = a at a1 ⊢
  have b0 : 0 ≤ ((i.toNat % 1000 : Nat) : Int) := by omega
  have b1 : ((i.toNat % 1000 : Nat) : Int) < 1000 := by omega
  generalize ((i.toNat % 1000 : Nat) : Int) = b at a1 b0 b1 ⊢
  unfold stI
  rw [wrap_id (x := 1000 * a) ⟨by omega, by omega⟩, wrap_id ⟨by omega, by omega⟩]
  exact a1
theorem no_group (g : Nat) (h : g < 1000) (t : ByteArray) : rdV (slB ++ (grp g ++ t)) sxB = -1 := by
  unfold rdV
  rw [if_neg]
  rintro ⟨h1, h2⟩
  have e := congrArg (fun s => (bs s)[1]?) h2
  have hz : 2 ≤ (slB ++ (grp g ++ t)).size := h1
  replace e : (bs ((slB ++ (grp g ++ t)).extract 0 sxB.size))[1]? = (bs sxB)[1]? := e
  rw [bs_extract _ _ _ (by omega) h1, bs_two, bs_two, bs_sl, bs_grp h] at e
  have e2 : (bs sxB)[1]? = some 120 := by decide +kernel
  rw [e2] at e
  have e3 : ((([47] ++ (g3L g ++ bs t)).take sxB.size).drop 0)[1]? = some (48 + ((g / 100 : Nat) : Int)) := rfl
  rw [e3] at e
  injection e with e
  omega
theorem lp_groups (t : ByteArray) (g : Nat) (hg : g < 1000) : ∀ (gs : List Nat) (k : Nat) (a : Nat), (∀ x ∈ gs, x < 1000) → gs.length ≤ k → gv a gs ≤ 4611686018427387 → lpF k a (slB ++ (flX gs ++ (grp g ++ t))) = (((gv a gs : Nat) : Int), slB ++ (grp g ++ t))
  | [], k, a, _, _, _ => by
    show lpF k (a : Int) (slB ++ (ByteArray.empty ++ (grp g ++ t))) = ((a : Int), _)
    rw [ByteArray.empty_append]
    exact lp_no k a _ (by rw [no_group g hg]; omega)
  | x :: gs, 0, a, _, h, _ => absurd h (by simp)
  | x :: gs, k + 1, a, hx, hk, hv => by
    have hx0 := hx x (List.mem_cons_self ..)
    have hge := gv_ge gs (1000 * a + x)
    have hv' : gv (1000 * a + x) gs ≤ 4611686018427387 := hv
    have e : slB ++ (flX (x :: gs) ++ (grp g ++ t)) = sxB ++ (grp x ++ (slB ++ (flX gs ++ (grp g ++ t)))) := by
      rw [sx_eq]
      show slB ++ (xB ++ grp x ++ slB ++ flX gs ++ (grp g ++ t)) = _
      simp only [ByteArray.append_assoc]
    have h1 := ahead_rd sxB (grp x ++ (slB ++ (flX gs ++ (grp g ++ t))))
    have h2 := grp_read x hx0 (slB ++ (flX gs ++ (grp g ++ t))) (nd_sl _)
    rw [e]
    show (if _ then _ else _) = _
    rw [h1.1, h1.2, h2.1, h2.2, if_pos (by omega), stI_id a x (by omega) (by omega) (by omega) (by omega)]
    have := lp_groups t g hg gs k (1000 * a + x) (fun y hy => hx y (List.mem_cons_of_mem _ hy)) (by simpa using hk) hv'
    rw [show ((1000 * a + x : Nat) : Int) = 1000 * (a : Int) + x by omega] at this
    exact this
theorem fl_size : ∀ gs : List Nat, (flX gs).size = 5 * gs.length
  | [] => rfl
  | g :: gs => by
    show (xB ++ grp g ++ slB ++ flX gs).size = _
    rw [ByteArray.size_append, ByteArray.size_append, ByteArray.size_append, fl_size gs, grp_size, List.length_cons]
    show 1 + 3 + 1 + _ = _
    omega
-- WHAT THE DOCUMENT READS OF A TILE'S PATH
theorem rd_path (h l i c : Int) (g : Goes h l i c) (hl : l ≤ 62) (hi : i ≤ 4611686018427387904) (hc : c ≤ 256) : ¬ dBad (dRd (pathS h l i c)) ∧ (dRd (pathS h l i c)).h = h ∧ (dRd (pathS h l i c)).l = l ∧ (dRd (pathS h l i c)).i = i ∧ dCt (dRd (pathS h l i c)) = c := by
  obtain ⟨g1, g2, g3, g4, g5, g6, g7, g8⟩ := g
  obtain ⟨P, HP⟩ : ∃ P, P = pathS h l i c := ⟨_, rfl⟩
  obtain ⟨e, he⟩ : ∃ e : ByteArray, e = (if c < 2 ^ h.toNat then ptB ++ decS c else ByteArray.empty) := ⟨_, rfl⟩
  have hm : i.toNat % 1000 < 1000 := by omega
  have hne : e.size = 0 ∨ ¬ (48 ≤ bt e 0 ∧ bt e 0 ≤ 57) := by
    rw [he]
    split
    · exact nd_pt _
    · exact .inl rfl
  have hpath : P = tsB ++ (decS h ++ (slB ++ (decS l ++ (slB ++ (flX (gsN (i.toNat / 1000)) ++ (grp (i.toNat % 1000) ++ e)))))) := by
    rw [HP, path_tail, ts_eq, he]
    unfold tailS
    rw [ixS_fl]
    show _ = tlB ++ slB ++ (decS h ++ (slB ++ (decS l ++ (slB ++ (flX (gsN (i.toNat / 1000)) ++ (grp (i.toNat % 1000) ++ (if c < 2 ^ h.toNat then ptB ++ decS c else ⟨#[]⟩)))))))
    simp only [ByteArray.append_assoc]
  have a1 := ahead_rd tsB (decS h ++ (slB ++ (decS l ++ (slB ++ (flX (gsN (i.toNat / 1000)) ++ (grp (i.toNat % 1000) ++ e))))))
  have b1 := dec_read h (by omega) (by omega) (slB ++ (decS l ++ (slB ++ (flX (gsN (i.toNat / 1000)) ++ (grp (i.toNat % 1000) ++ e))))) (nd_sl _)
  have a2 := ahead_rd slB (decS l ++ (slB ++ (flX (gsN (i.toNat / 1000)) ++ (grp (i.toNat % 1000) ++ e))))
  have b2 := dec_read l g3 (by omega) (slB ++ (flX (gsN (i.toNat / 1000)) ++ (grp (i.toNat % 1000) ++ e))) (nd_sl _)
  have hk : (gsN (i.toNat / 1000)).length ≤ P.size := by
    have h2 := fl_size (gsN (i.toNat / 1000))
    have := congrArg ByteArray.size hpath
    simp only [ByteArray.size_append] at this
    omega
  have hL := lp_groups e (i.toNat % 1000) hm (gsN (i.toNat / 1000)) P.size 0 (gsN_lt _) hk (by rw [gv_gsN]; omega)
  rw [gv_gsN] at hL
  have a3 := ahead_rd slB (grp (i.toNat % 1000) ++ e)
  have b3 := grp_read (i.toNat % 1000) hm e hne
  have e1 : rdV P tsB = h := by rw [hpath, a1.1, b1.1]
  have e2 : rdR P tsB = slB ++ (decS l ++ (slB ++ (flX (gsN (i.toNat / 1000)) ++ (grp (i.toNat % 1000) ++ e)))) := by rw [hpath, a1.2, b1.2]
  have e3 : rdV (rdR P tsB) slB = l := by rw [e2, a2.1, b2.1]
  have e4 : rdR (rdR P tsB) slB = slB ++ (flX (gsN (i.toNat / 1000)) ++ (grp (i.toNat % 1000) ++ e)) := by rw [e2, a2.2, b2.2]
  have e5 : lpF P.size 0 (rdR (rdR P tsB) slB) = (((i.toNat / 1000 : Nat) : Int), slB ++ (grp (i.toNat % 1000) ++ e)) := by rw [e4]; exact hL
  have e6 : rdV (slB ++ (grp (i.toNat % 1000) ++ e)) slB = ((i.toNat % 1000 : Nat) : Int) := by rw [a3.1, b3.1]
  have e7 : (dRd P).e = e := by rw [dRd_e, e5]; exact a3.2.trans b3.2
  have ela : (dRd P).last = ((i.toNat % 1000 : Nat) : Int) := by rw [dRd_last, e5]; exact e6
  have e8 : (dRd P).i = i := by
    rw [dRd_i, e5]
    exact (congrArg (stI _) e6).trans (stI_back i g5 hi)
  have eh : (dRd P).h = h := by rw [dRd_h]; exact e1
  have el : (dRd P).l = l := by rw [dRd_l]; exact e3
  rw [← HP]
  refine ⟨?_, eh, el, e8, ?_⟩
  · unfold dBad
    rw [eh, ela]
    omega
  · unfold dCt
    rw [e7, eh, he]
    by_cases gc : c < 2 ^ h.toNat
    · have hz : (ptB ++ decS c).size ≠ 0 := by rw [ByteArray.size_append, show ptB.size = 3 from rfl]; omega
      have a4 := ahead_rd ptB (decS c ++ ByteArray.empty)
      have b4 := dec_read c (by omega) (by omega) ByteArray.empty (.inl rfl)
      rw [ByteArray.append_empty] at a4 b4
      rw [if_pos gc, if_neg hz, a4.1, b4.1]
    · rw [if_neg gc, if_pos (show ByteArray.empty.size = 0 from rfl)]
      omega
end Go.Proofs.YtfbglffookacbaaGreatDoor.rk
