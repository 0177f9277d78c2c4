import Derived.Test.YthblljfkodbbeabDoorXc
namespace Go.Proofs.YthblljfkodbbeabDoor.xd
open Go.RowKit Go.PlainAid
open Go.Proofs.YthblljfkodbbeabDoor.ta Go.Proofs.YthblljfkodbbeabDoor.tb Go.Proofs.YthblljfkodbbeabDoor.tc Go.Proofs.YthblljfkodbbeabDoor.td Go.Proofs.YthblljfkodbbeabDoor.te Go.Proofs.YthblljfkodbbeabDoor.tg Go.Proofs.YthblljfkodbbeabDoor.tj Go.Proofs.YthblljfkodbbeabDoor.tk Go.Proofs.YthblljfkodbbeabDoor.tm Go.Proofs.YthblljfkodbbeabDoor.tn Go.Proofs.YthblljfkodbbeabDoor.ub Go.Proofs.YthblljfkodbbeabDoor.uc Go.Proofs.YthblljfkodbbeabDoor.ud Go.Proofs.YthblljfkodbbeabDoor.va Go.Proofs.YthblljfkodbbeabDoor.vb Go.Proofs.YthblljfkodbbeabDoor.vc Go.Proofs.YthblljfkodbbeabDoor.xa Go.Proofs.YthblljfkodbbeabDoor.xb Go.Proofs.YthblljfkodbbeabDoor.xc
set_option linter.unusedVariables false

theorem own_reads {w : World} {B : Nat} {v : Value} {xs : List ByteArray} (h : w.ownsRow B 9 1 v xs.length (xs.map Value.string)) : Reads w v xs ∧ v.oneCell' = true := by
  rcases h.2 with ⟨rfl, h0⟩ | ⟨g, cap, cur, rfl, _, hg, _, _, _, _⟩
  · have : xs = [] := List.length_eq_zero_iff.1 h0
    subst this
    exact ⟨⟨none, 0, rfl, .inl rfl⟩, rfl⟩
  · refine ⟨⟨_, cap, rfl, .inr ⟨g, 0, rfl, fun i hi => ?_⟩⟩, rfl⟩
    have := h.cells (g := g) rfl i (.string (xs.getD i ByteArray.empty)) (by rw [List.getElem?_map, List.getElem?_eq_getElem hi, List.getD_eq_getElem?_getD, List.getElem?_eq_getElem hi]; rfl)
    rwa [Addr.add_mid] at this
theorem cut_at (s : ByteArray) (f i : Nat) (hf : f ≤ i) (hi : i < s.size) (hb : bt s i = 32) : (bs s).drop f = bs (s.extract f i) ++ 32 :: (bs s).drop (i + 1) := by
  rw [bs_extract s f i hf (by omega), ← hb, ← drop_cons' s i hi, ← List.drop_drop_take_helper (bs s) f i hf]
where
  List.drop_drop_take_helper (l : List Int) (f i : Nat) (h : f ≤ i) : l.drop f = (l.take i).drop f ++ l.drop i := by
    conv => lhs; rw [← List.take_append_drop i l]
    rw [List.drop_append]
    by_cases hl : i ≤ l.length
    · rw [List.length_take, Nat.min_eq_left hl, show f - i = 0 by omega, List.drop_zero]
    · have : l.drop i = [] := List.drop_of_length_le (by omega)
      rw [this, List.drop_nil]
theorem no32 (s : ByteArray) (f i : Nat) (hf : f ≤ i) (hi : i ≤ s.size) (h : ∀ j, f ≤ j → j < i → bt s j ≠ 32) : ∀ x ∈ bs (s.extract f i), x ≠ 32 := by
  intro x hx
  obtain ⟨k, hk, rfl⟩ := List.getElem_of_mem hx
  have hz : (s.extract f i).size = i - f := by rw [ByteArray.size_extract]; omega
  rw [bs_length, hz] at hk
  rw [bs_get _ k (by rw [hz]; exact hk), bt_extract s f i k (by omega) hi]
  exact h (f + k) (by omega) (by omega)
def wordsQ (w' : World) (o : Option (List (List Int))) (e : Ending) : Prop :=
  match o with
  | some xs => ∃ v, e = .returned (.tuple #[v, .int .i64 0]) ∧ Reads w' v (xs.map str) ∧ v.oneCell' = true
  | none => e = .returned (.tuple #[.slice none 0 0, .int .i64 44])
-- where the document stands
structure WInv (s : ByteArray) (f i : Nat) (done : List (List Int)) : Prop where
  le : f ≤ i
  no : i ≤ s.size → ∀ j, f ≤ j → j < i → bt s j ≠ 32
  ps : ∃ ps, allP ps = some done ∧ (i ≤ s.size → parts 32 (bs s) = ps ++ parts 32 ((bs s).drop f)) ∧ (¬ i ≤ s.size → parts 32 (bs s) = ps)
  len : done.length ≤ i
set_option maxHeartbeats 3200000 in
theorem rWords (s : ByteArray) (hs : s.size ≤ 1048576) (w : World) :
    Calls Tryd.prog 12 #[.string s] w fun e w' => wordsQ w' (wordsP (bs s)) e ∧ Below w.heap.size w w' := by
  obtain ⟨i9, hi, hz0, hz1, hz2⟩ := info_parts hi9
  have HIN : Hid (_ ∧ _ ∧ _ ∧ _) := ⟨hi, hz0, hz1, hz2⟩
  clear hi hz0 hz1 hz2
  have hgb := get_bt s
  obtain ⟨R, HR⟩ : ∃ R, Hid (wordsP (bs s) = R) := ⟨_, rfl⟩
  rw [HR.out]
  by_cases h0 : s.size = 0
  · obtain ⟨h1, h2⟩ := yes_empty s h0
    have hb0 : bs s = [] := List.length_eq_zero_iff.1 (by rw [bs_length]; exact h0)
    have HE : Hid (R = some []) := by show _ = _; rw [← HR.out, hb0]; rfl
    have hle : (0 : Int) ≤ s.size := by omega
    clear hb0 hgb HR
    go_enter Tryd.func12, Tryd.ntmps12
    go_wp2
    go_loopw [4, 5, 6] (fun o f i wr => o = .slice none 0 0 ∧ i = .int .i64 0 ∧ wr = w) (fun _ _ _ _ => 0)
    case atStart => exact ⟨rfl, rfl, rfl⟩
    case round =>
      obtain ⟨rfl, rfl, rfl⟩ := hrel
      go_wp2
      go_ret2
      refine ⟨?_, Below.refl _ _⟩
      rw [HE.out]
      exact ⟨_, rfl, ⟨none, 0, rfl, .inl rfl⟩, rfl⟩
  · obtain ⟨h1, h2⟩ := ne_empty s h0
    have hnn : bs s ≠ [] := fun h => h0 (by rw [← bs_length, h]; rfl)
    have HWP : Hid (R = allP (parts 32 (bs s))) := by show _ = _; rw [← HR.out]; unfold wordsP; rw [if_neg hnn]
    clear hnn HR
    go_enter Tryd.func12, Tryd.ntmps12
    go_wp2
    go_loopw [4, 5, 6] (fun o f i wr => ∃ (k j : Nat) (done : List (List Int)), k ≤ s.size + 1 ∧ i = .int .i64 k ∧ f = .int .i64 j ∧ Hid (WInv s j k done) ∧ Hid (wr.ownsRow w.heap.size 9 1 o (done.map str).length ((done.map str).map Value.string)) ∧ Hid (Below w.heap.size w wr)) (fun _ _ i _ => (s.size + 2 - intOf i).toNat)
    case atStart => exact ⟨0, 0, [], by omega, rfl, rfl, ⟨Nat.le_refl _, fun _ j h1 h2 => by omega, ⟨[], rfl, fun _ => rfl, fun h => absurd (Nat.zero_le _) h⟩, by simp⟩, World.ownsRow_nil _ _ _ _, Below.refl _ _⟩
    case round =>
      obtain ⟨k, j, done, hk, rfl, rfl, HI, HO, HB⟩ := hrel
      have hbase := HB.out.size
      have hjk := HI.out.le
      by_cases hle : k ≤ s.size
      · have hle' : (k : Int) ≤ s.size := by omega
        by_cases hgo : k < s.size ∧ bt s k ≠ 32
        · obtain ⟨hlt, hne⟩ := hgo
          have hlt' : (k : Int) < s.size := by omega
          obtain ⟨a, HA⟩ : ∃ a, Hid (bt s k = a) := ⟨_, rfl⟩
          have hga : ∀ (h : k < s.size), ((s[k]'h).toNat : Int) = a := fun h => (hgb k h).trans HA.out
          have hab : (a == 32) = false := beq_eq_false_iff_ne.2 (by rw [← HA.out]; exact hne)
          have HI2 : Hid (WInv s j (k + 1) done) := by
            obtain ⟨ps, p1, p2, p3⟩ := HI.out.ps
            refine ⟨by omega, fun _ x x1 x2 => ?_, ⟨ps, p1, fun _ => p2 hle, fun h => absurd (show k + 1 ≤ s.size by omega) h⟩, by have := HI.out.len; omega⟩
            rcases Nat.lt_or_ge x k with g | g
            · exact HI.out.no hle x x1 g
            · obtain rfl : x = k := by omega
              exact hne
          clear hgb hne
          go_wp2
          go_roundw
          case rel => exact ⟨k + 1, j, done, by omega, by go_num, rfl, HI2.out, HO.out, HB.out⟩
          case measure => simp [intOf]; omega
        · -- a word ends here
          have hcase : (k < s.size ∧ bt s k = 32) ∨ k = s.size := by
            rcases Nat.lt_or_ge k s.size with g | g
            · left
              refine ⟨g, ?_⟩
              rcases Decidable.em (bt s k = 32) with e | e
              · exact e
              · exact absurd ⟨g, e⟩ hgo
            · exact .inr (by omega)
          have hxz : (s.extract j k).size ≤ s.size := by rw [ByteArray.size_extract]; omega
          have U : Hid (∀ w', Calls _ _ _ _ _) := fun w' => rUnescape (s.extract j k) (by omega) w'
          have hno := no32 s j k hjk hle (HI.out.no hle)
          obtain ⟨ps, p1, p2, p3⟩ := HI.out.ps
          have HP : Hid (∃ qs, parts 32 (bs s) = ps ++ bs (s.extract j k) :: qs ∧ (k < s.size → qs = parts 32 ((bs s).drop (k + 1))) ∧ (k = s.size → qs = [])) := by
            rcases hcase with ⟨g1, g2⟩ | g
            · refine ⟨parts 32 ((bs s).drop (k + 1)), ?_, fun _ => rfl, fun h => by omega⟩
              rw [p2 hle, cut_at s j k hjk g1 g2, parts_at _ _ _ hno]
            · refine ⟨[], ?_, fun h => by omega, fun _ => rfl⟩
              have : (bs s).drop j = bs (s.extract j k) := by
                rw [bs_extract s j k hjk hle, List.take_of_length_le (by rw [bs_length]; omega)]
              rw [p2 hle, this, parts_none _ _ hno]
          have e1 : (j : Int) ≤ k := by omega
          have hcb : k < s.size → bt s k = 32 := fun g => by
            rcases hcase with ⟨_, e⟩ | e
            · exact e
            · omega
          have HCB : Hid (k < s.size → bt s k = 32) := hcb
          have HPA : Hid (allP ps = some done) := p1
          have HLN : Hid (done.length ≤ k) := HI.out.len
          have hdl : (done.map str).length ≤ k := by rw [List.length_map]; exact HI.out.len
          clear p1 p2 p3 hno hcb hgo HI
          obtain ⟨X, HX⟩ : ∃ X, Hid (s.extract j k = X) := ⟨_, rfl⟩
          rw [HX.out] at U HP hxz
          -- the test ahead of it, in both ways
          cases hun : unP (bs X) with
          | none =>
            rw [show unV X = failV 44 by unfold unV; rw [hun]] at U
            unfold failV at U
            have HF : Hid (R = none) := by
              show _ = _
              obtain ⟨qs, q1, _⟩ := HP.out
              rw [HWP.out, q1]
              exact allP_bad _ _ _ _ HPA.out hun
            have hxe := HX.out
            clear hun
            rcases hcase with ⟨hlt, hbe⟩ | hke
            · have hlt' : (k : Int) < s.size := by omega
              have hga : ∀ (h : k < s.size), ((s[k]'h).toNat : Int) = 32 := fun h => (hgb k h).trans hbe
              clear hgb hbe
              go_wp2_with fail
              refine (U.out _).mono ?_
              rintro e w1 ⟨rfl, hb1⟩
              have HB1 : Hid (Below w.heap.size w w1) := over HB.out hb1
              clear hb1
              go_wp2
              go_ret2
              refine ⟨?_, HB1.out⟩
              rw [HF.out]
              exact rfl
            · have hlt' : ¬ (k : Int) < s.size := by omega
              clear hgb hke
              go_wp2_with fail
              refine (U.out _).mono ?_
              rintro e w1 ⟨rfl, hb1⟩
              have HB1 : Hid (Below w.heap.size w w1) := over HB.out hb1
              clear hb1
              go_wp2
              go_ret2
              refine ⟨?_, HB1.out⟩
              rw [HF.out]
              exact rfl
          | some x =>
            rw [show unV X = readV x by unfold unV; rw [hun]] at U
            unfold readV at U
            have HI2 : Hid (WInv s (k + 1) (k + 1) (done ++ [x])) := by
              obtain ⟨qs, q1, q2, q3⟩ := HP.out
              refine ⟨Nat.le_refl _, fun _ y y1 y2 => by omega, ⟨ps ++ [bs X], allP_snoc _ _ _ _ HPA.out hun, fun h => ?_, fun h => ?_⟩, by have := HLN.out; simp; omega⟩
              · rw [q1, q2 (by omega)]; simp
              · rw [q1, q3 (by omega)]
            have hxe := HX.out
            have hdl2 : (done.map str).length + 1 ≤ 1048578 := by omega
            obtain ⟨m, HM⟩ : ∃ m, Hid ((done.map str).length = m) := ⟨_, rfl⟩
            rw [HM.out] at HO hdl2 hdl
            have HX2 : Hid ((done ++ [x]).map str = done.map str ++ [str x]) := by show _ = _; simp
            generalize str x = Z at *
            clear hun
            rcases hcase with ⟨hlt, hbe⟩ | hke
            · have hlt' : (k : Int) < s.size := by omega
              have hga : ∀ (h : k < s.size), ((s[k]'h).toNat : Int) = 32 := fun h => (hgb k h).trans hbe
              clear hgb hbe
              go_wp2_with fail
              refine (U.out _).mono ?_
              rintro e w1 ⟨rfl, hb1⟩
              have HB1 : Hid (Below w.heap.size w w1) := over HB.out hb1
              have HO1 : Hid (World.ownsRow _ _ _ _ _ _ _) := (show w1.ownsRow w.heap.size 9 1 u4 m ((done.map str).map Value.string) from HO.out.kept (row := none) ⟨hb1.os, hb1.tape, hb1.output, hb1.size, fun k hk _ => hb1.block k hk⟩ (by cases hq : u4.ownBlock with | none => exact .inl rfl | some q => exact .inr (by simp)))
              have hbase1 := HB1.out.size
              clear hb1
              go_wp2_with (at_builtin; refine wpList_append_own _ rfl _ _ 29 rfl w.heap.size 9 i9 (.string ByteArray.empty) 1 16 Tryd.underlying29 HIN.out.1 HIN.out.2.1 HIN.out.2.2.1 HIN.out.2.2.2 rfl (by decide) _ m _ rfl (HO1.out.alloc _) ⟨w1.heap.size, 0, none⟩ 1 1 [.string Z] rfl rfl (fun i u hu => by cases i with | zero => (simp at hu; rw [← hu]; exact new_cell _ _ _) | succ i => simp at hu) (fun u hu => by simp at hu; subst hu; rfl) (by unfold maxLen; omega) (by omega) (by simp; omega) ?_; intro v' w3 hown' hgrow3 hnil3; have HO3 : Hid (World.ownsRow _ _ _ _ _ _ _) := hown'; have HB3 : Hid (Below w.heap.size w w3) := Below.grown (HB1.out.alloc HB1.out.size _) hgrow3 (by simp; omega) (fun j hj => (HO1.out.lt _ hj).1); clear hown' hgrow3 hnil3)
              go_roundw
              case rel =>
                refine ⟨k + 1, k + 1, done ++ [x], by omega, by go_num, by go_num, HI2.out, ?_, HB3.out⟩
                rw [HX2.out, List.length_append, HM.out, List.map_append]
                exact HO3.out
              case measure => simp [intOf]; omega
            · have hlt' : ¬ (k : Int) < s.size := by omega
              clear hgb hke
              go_wp2_with fail
              refine (U.out _).mono ?_
              rintro e w1 ⟨rfl, hb1⟩
              have HB1 : Hid (Below w.heap.size w w1) := over HB.out hb1
              have HO1 : Hid (World.ownsRow _ _ _ _ _ _ _) := (show w1.ownsRow w.heap.size 9 1 u4 m ((done.map str).map Value.string) from HO.out.kept (row := none) ⟨hb1.os, hb1.tape, hb1.output, hb1.size, fun k hk _ => hb1.block k hk⟩ (by cases hq : u4.ownBlock with | none => exact .inl rfl | some q => exact .inr (by simp)))
              have hbase1 := HB1.out.size
              clear hb1
              go_wp2_with (at_builtin; refine wpList_append_own _ rfl _ _ 29 rfl w.heap.size 9 i9 (.string ByteArray.empty) 1 16 Tryd.underlying29 HIN.out.1 HIN.out.2.1 HIN.out.2.2.1 HIN.out.2.2.2 rfl (by decide) _ m _ rfl (HO1.out.alloc _) ⟨w1.heap.size, 0, none⟩ 1 1 [.string Z] rfl rfl (fun i u hu => by cases i with | zero => (simp at hu; rw [← hu]; exact new_cell _ _ _) | succ i => simp at hu) (fun u hu => by simp at hu; subst hu; rfl) (by unfold maxLen; omega) (by omega) (by simp; omega) ?_; intro v' w3 hown' hgrow3 hnil3; have HO3 : Hid (World.ownsRow _ _ _ _ _ _ _) := hown'; have HB3 : Hid (Below w.heap.size w w3) := Below.grown (HB1.out.alloc HB1.out.size _) hgrow3 (by simp; omega) (fun j hj => (HO1.out.lt _ hj).1); clear hown' hgrow3 hnil3)
              go_roundw
              case rel =>
                refine ⟨k + 1, k + 1, done ++ [x], by omega, by go_num, by go_num, HI2.out, ?_, HB3.out⟩
                rw [HX2.out, List.length_append, HM.out, List.map_append]
                exact HO3.out
              case measure => simp [intOf]; omega
      · have hle' : ¬ (k : Int) ≤ s.size := by omega
        have HE : Hid (R = some done) := by
          show _ = _
          obtain ⟨ps, p1, _, p3⟩ := HI.out.ps
          rw [HWP.out, p3 hle, p1]
        obtain ⟨hrd, hone⟩ := own_reads HO.out
        have HRD : Hid (Reads wr u4 (done.map str)) := hrd
        clear hrd hgb
        go_wp2
        go_ret2
        refine ⟨?_, HB.out⟩
        rw [HE.out]
        exact ⟨_, rfl, HRD.out, hone⟩
end Go.Proofs.YthblljfkodbbeabDoor.xd
