import Derived.Test.YthblljfkodbbeabDoorYa
namespace Go.Proofs.YthblljfkodbbeabDoor.yb
open Go.RowKit Go.PlainAid
open Go.Proofs.YthblljfkodbbeabDoor.ta Go.Proofs.YthblljfkodbbeabDoor.tb Go.Proofs.YthblljfkodbbeabDoor.tc Go.Proofs.YthblljfkodbbeabDoor.td Go.Proofs.YthblljfkodbbeabDoor.te Go.Proofs.YthblljfkodbbeabDoor.tg Go.Proofs.YthblljfkodbbeabDoor.tj Go.Proofs.YthblljfkodbbeabDoor.ub Go.Proofs.YthblljfkodbbeabDoor.uc Go.Proofs.YthblljfkodbbeabDoor.ud Go.Proofs.YthblljfkodbbeabDoor.va Go.Proofs.YthblljfkodbbeabDoor.vb Go.Proofs.YthblljfkodbbeabDoor.vc Go.Proofs.YthblljfkodbbeabDoor.ya
set_option linter.unusedVariables false

theorem parts_snoc (x : List Int) : parts 10 (x ++ [10]) = parts 10 x ++ [[]] := by
  induction x with
  | nil => rfl
  | cons b r ih =>
    rw [List.cons_append]
    unfold parts
    split
    · rw [ih]; rfl
    · rw [ih]
      cases h : parts 10 r with
      | nil => exact absurd h (parts_ne 10 r)
      | cons p ps => rfl
theorem parts_snoc_ne (c : Int) (hc : c ≠ 10) (x : List Int) : ∃ ps p, parts 10 (x ++ [c]) = ps ++ [p ++ [c]] := by
  induction x with
  | nil => exact ⟨[], [], by simp [parts, hc]⟩
  | cons b r ih =>
    obtain ⟨ps, p, e⟩ := ih
    rw [List.cons_append]
    unfold parts
    split
    · exact ⟨[] :: ps, p, by rw [e]; rfl⟩
    · rw [e]
      cases ps with
      | nil => exact ⟨[], b :: p, rfl⟩
      | cons q qs => exact ⟨(b :: q) :: qs, p, rfl⟩
theorem lines_parts (l : List Int) (done : List (List Int)) (r : List Int) (h : parts 10 l = done ++ [r]) : linesP l = if r = [] then some done else none := by
  rcases List.eq_nil_or_concat l with rfl | ⟨x, c, rfl⟩
  · have h' : ([] : List (List Int)) ++ [[]] = done ++ [r] := h
    obtain ⟨h1, h2⟩ := List.append_inj' h' rfl
    have : r = [] := by simpa using h2.symm
    rw [if_pos this, ← h1]
    rfl
  · rw [List.concat_eq_append] at *
    have hne : x ++ [c] ≠ [] := by simp
    by_cases hc : c = 10
    · subst hc
      rw [parts_snoc] at h
      obtain ⟨h1, h2⟩ := List.append_inj' h rfl
      have : r = [] := by simpa using h2.symm
      rw [if_pos this, ← h1]
      unfold linesP
      rw [if_neg hne, if_pos (by simp)]
      simp
    · obtain ⟨ps, p, e⟩ := parts_snoc_ne c hc x
      rw [e] at h
      obtain ⟨h1, h2⟩ := List.append_inj' h rfl
      have hr : r = p ++ [c] := by simpa using h2.symm
      rw [if_neg (by rw [hr]; simp)]
      unfold linesP
      rw [if_neg hne, if_neg (by simp [hc])]
theorem own_reads' {w : World} {B : Nat} {v : Value} {xs : List ByteArray} (h : w.ownsRow B 9 1 v xs.length (xs.map Value.string)) : Reads w v xs ∧ v.oneCell' = true := by
  rcases h.2 with ⟨rfl, h0⟩ | ⟨g, cap, cur, rfl, _, hg, _, _, _, _⟩
  · have : xs = [] := List.length_eq_zero_iff.1 h0
    subst this
    exact ⟨⟨none, 0, rfl, .inl rfl⟩, rfl⟩
  · refine ⟨⟨_, cap, rfl, .inr ⟨g, 0, rfl, fun i hi => ?_⟩⟩, rfl⟩
    have := h.cells (g := g) rfl i (.string (xs.getD i ByteArray.empty)) (by rw [List.getElem?_map, List.getElem?_eq_getElem hi, List.getD_eq_getElem?_getD, List.getElem?_eq_getElem hi]; rfl)
    rwa [Addr.add_mid] at this
theorem drop_cons10 (s : ByteArray) (j : Nat) (h : j < s.size) : (bs s).drop j = bt s j :: (bs s).drop (j + 1) := by
  rw [List.drop_eq_getElem_cons (by rw [bs_length]; exact h), bs_get s j h]
theorem drop_mid (l : List Int) (f i : Nat) (h : f ≤ i) : l.drop f = (l.take i).drop f ++ l.drop i := by
  conv => lhs; rw [← List.take_append_drop i l]
  rw [List.drop_append]
  by_cases hl : i ≤ l.length
  · rw [List.length_take, Nat.min_eq_left hl, show f - i = 0 by omega, List.drop_zero]
  · have : l.drop i = [] := List.drop_of_length_le (by omega)
    rw [this, List.drop_nil]
theorem cut10 (s : ByteArray) (f i : Nat) (hf : f ≤ i) (hi : i < s.size) (hb : bt s i = 10) : (bs s).drop f = bs (s.extract f i) ++ 10 :: (bs s).drop (i + 1) := by
  rw [bs_extract s f i hf (by omega), ← hb, ← drop_cons10 s i hi, ← drop_mid (bs s) f i hf]
theorem no10 (s : ByteArray) (f i : Nat) (hf : f ≤ i) (hi : i ≤ s.size) (h : ∀ j, f ≤ j → j < i → bt s j ≠ 10) : ∀ x ∈ bs (s.extract f i), x ≠ 10 := by
  intro x hx
  obtain ⟨k, hk, rfl⟩ := List.getElem_of_mem hx
  have hz : (s.extract f i).size = i - f := by rw [ByteArray.size_extract]; omega
  rw [bs_length, hz] at hk
  rw [bs_get _ k (by rw [hz]; exact hk), bt_extract s f i k (by omega) hi]
  exact h (f + k) (by omega) (by omega)
def linesQ (w' : World) (o : Option (List (List Int))) (e : Ending) : Prop :=
  match o with
  | some xs => ∃ v, e = .returned (.tuple #[v, .int .i64 0]) ∧ Reads w' v (xs.map str) ∧ v.oneCell' = true
  | none => e = .returned (.tuple #[.slice none 0 0, .int .i64 43])
structure LInv (s : ByteArray) (f i : Nat) (done : List (List Int)) : Prop where
  le : f ≤ i
  no : ∀ j, f ≤ j → j < i → bt s j ≠ 10
  ps : parts 10 (bs s) = done ++ parts 10 ((bs s).drop f)
  len : done.length ≤ i
set_option maxHeartbeats 3200000 in
theorem rLines (s : ByteArray) (hs : s.size ≤ 1048577) (w : World) :
    Calls Tryd.prog 15 #[.string s] w fun e w' => linesQ w' (linesP (bs s)) e ∧ Below w.heap.size w w' := by
  obtain ⟨i9, hi, hz0, hz1, hz2⟩ := info_parts hi9
  have HIN : Hid (_ ∧ _ ∧ _ ∧ _) := ⟨hi, hz0, hz1, hz2⟩
  clear hi hz0 hz1 hz2
  have hgb := get_bt s
  obtain ⟨R, HR⟩ : ∃ R, Hid (linesP (bs s) = R) := ⟨_, rfl⟩
  rw [HR.out]
  go_enter Tryd.func15, Tryd.ntmps15
  go_wp2
  go_loopw [4, 5, 6] (fun o f i wr => ∃ (k j : Nat) (done : List (List Int)), k ≤ s.size ∧ i = .int .i64 k ∧ f = .int .i64 j ∧ Hid (LInv s j k done) ∧ Hid (wr.ownsRow w.heap.size 9 1 o (done.map str).length ((done.map str).map Value.string)) ∧ Hid (Below w.heap.size w wr)) (fun _ _ i _ => (s.size + 1 - intOf i).toNat)
  case atStart => exact ⟨0, 0, [], by omega, rfl, rfl, ⟨Nat.le_refl _, fun j h1 h2 => by omega, rfl, by simp⟩, World.ownsRow_nil _ _ _ _, Below.refl _ _⟩
  case round =>
    obtain ⟨k, j, done, hk, rfl, rfl, HI, HO, HB⟩ := hrel
    have hbase := HB.out.size
    have hjk := HI.out.le
    by_cases hlt : k < s.size
    · have hlt' : (k : Int) < s.size := by omega
      by_cases hbe : bt s k = 10
      · have hga : ∀ (h : k < s.size), ((s[k]'h).toNat : Int) = 10 := fun h => (hgb k h).trans hbe
        have e1 : (j : Int) ≤ k := by omega
        have e2 : (k : Int) ≤ s.size := by omega
        have HI2 : Hid (LInv s (k + 1) (k + 1) (done ++ [bs (s.extract j k)])) := by
          refine ⟨Nat.le_refl _, fun y y1 y2 => by omega, ?_, by have := HI.out.len; simp; omega⟩
          rw [HI.out.ps, cut10 s j k hjk hlt hbe, parts_at _ _ _ (no10 s j k hjk hk HI.out.no)]
          simp
        have hdl : (done.map str).length ≤ k := by rw [List.length_map]; exact HI.out.len
        have hdl2 : (done.map str).length + 1 ≤ 1048578 := by omega
        obtain ⟨m, HM⟩ : ∃ m, Hid ((done.map str).length = m) := ⟨_, rfl⟩
        rw [HM.out] at HO hdl2 hdl
        obtain ⟨Z, HZ⟩ : ∃ Z, Hid (s.extract j k = Z) := ⟨_, rfl⟩
        have hxe := HZ.out
        have HX2 : Hid ((done ++ [bs (s.extract j k)]).map str = done.map str ++ [Z]) := by show _ = _; rw [HZ.out]; simp [str_bs]
        clear hgb hbe
        have hbase1 := hbase
        go_wp2_with (at_builtin; refine wpList_append_own _ rfl _ _ 29 rfl w.heap.size 9 i9 (.string ByteArray.empty) 1 16 Tryd.underlying29 HIN.out.1 HIN.out.2.1 HIN.out.2.2.1 HIN.out.2.2.2 rfl (by decide) _ m _ rfl (HO.out.alloc _) ⟨wr.heap.size, 0, none⟩ 1 1 [.string Z] rfl rfl (fun i u hu => by cases i with | zero => (simp at hu; rw [← hu]; exact new_cell _ _ _) | succ i => simp at hu) (fun u hu => by simp at hu; subst hu; rfl) (by unfold maxLen; omega) (by omega) (by simp; omega) ?_; intro v' w3 hown' hgrow3 hnil3; have HO3 : Hid (World.ownsRow _ _ _ _ _ _ _) := hown'; have HB3 : Hid (Below w.heap.size w w3) := Below.grown (HB.out.alloc HB.out.size _) hgrow3 (by simp; omega) (fun j hj => (HO.out.lt _ hj).1); clear hown' hgrow3 hnil3)
        go_roundw
        case rel =>
          refine ⟨k + 1, k + 1, done ++ [bs (s.extract j k)], by omega, by go_num, by go_num, HI2.out, ?_, HB3.out⟩
          rw [HX2.out, List.length_append, HM.out, List.map_append]
          exact HO3.out
        case measure => simp [intOf]; omega
      · obtain ⟨a, HA⟩ : ∃ a, Hid (bt s k = a) := ⟨_, rfl⟩
        have hga : ∀ (h : k < s.size), ((s[k]'h).toNat : Int) = a := fun h => (hgb k h).trans HA.out
        have hab : (a == 10) = false := beq_eq_false_iff_ne.2 (by rw [← HA.out]; exact hbe)
        have HI2 : Hid (LInv s j (k + 1) done) := by
          refine ⟨by omega, fun x x1 x2 => ?_, HI.out.ps, by have := HI.out.len; omega⟩
          rcases Nat.lt_or_ge x k with g | g
          · exact HI.out.no x x1 g
          · obtain rfl : x = k := by omega
            exact hbe
        clear hgb hbe
        go_wp2
        go_roundw
        case rel => exact ⟨k + 1, j, done, by omega, by go_num, rfl, HI2.out, HO.out, HB.out⟩
        case measure => simp [intOf]; omega
    · have hlt' : ¬ (k : Int) < s.size := by omega
      have hke : k = s.size := by omega
      have hrest : (bs s).drop j = bs (s.extract j k) := by
        rw [bs_extract s j k hjk hk, List.take_of_length_le (by rw [bs_length]; omega)]
      have hl := lines_parts (bs s) done ((bs s).drop j) (by rw [HI.out.ps, hrest, parts_none _ _ (no10 s j k hjk hk HI.out.no)])
      rw [HR.out] at hl
      have HL : Hid (R = if (bs s).drop j = [] then some done else none) := hl
      obtain ⟨hrd, hone⟩ := own_reads' HO.out
      have HRD : Hid (Reads wr u4 (done.map str)) := hrd
      clear hl hrest hrd hgb
      by_cases hj : j < s.size
      · have hj' : (j : Int) < s.size := by omega
        have HE : Hid (R = none) := by
          show _ = _
          rw [HL.out, if_neg]
          intro h
          have := congrArg List.length h
          rw [List.length_drop, bs_length] at this
          simp at this
          omega
        clear hke
        go_wp2
        go_ret2
        refine ⟨?_, HB.out⟩
        rw [HE.out]
        exact rfl
      · have hj' : ¬ (j : Int) < s.size := by omega
        have HE : Hid (R = some done) := by
          show _ = _
          rw [HL.out, if_pos (List.drop_of_length_le (by rw [bs_length]; omega))]
        clear hke
        go_wp2
        go_ret2
        refine ⟨?_, HB.out⟩
        rw [HE.out]
        exact ⟨_, rfl, HRD.out, hone⟩
end Go.Proofs.YthblljfkodbbeabDoor.yb
