import Derived.Test.YthblljfkodbbeabDoorYb
namespace Go.Proofs.YthblljfkodbbeabDoor.yi
open Go.RowKit Go.PlainAid
open Go.Proofs.YthblljfkodbbeabDoor.ta Go.Proofs.YthblljfkodbbeabDoor.tb Go.Proofs.YthblljfkodbbeabDoor.tc Go.Proofs.YthblljfkodbbeabDoor.td Go.Proofs.YthblljfkodbbeabDoor.te Go.Proofs.YthblljfkodbbeabDoor.tg Go.Proofs.YthblljfkodbbeabDoor.tj Go.Proofs.YthblljfkodbbeabDoor.ub Go.Proofs.YthblljfkodbbeabDoor.uc Go.Proofs.YthblljfkodbbeabDoor.ud Go.Proofs.YthblljfkodbbeabDoor.va Go.Proofs.YthblljfkodbbeabDoor.vb Go.Proofs.YthblljfkodbbeabDoor.vc Go.Proofs.YthblljfkodbbeabDoor.ya Go.Proofs.YthblljfkodbbeabDoor.yb
set_option linter.unusedVariables false

def linesQ2 (w w' : World) (o : Option (List (List Int))) (e : Ending) : Prop :=
  match o with
  | some xs => ∃ v, e = .returned (.tuple #[v, .int .i64 0]) ∧ w'.ownsRow w.heap.size 9 1 v (xs.map str).length ((xs.map str).map Value.string)
  | none => e = .returned (.tuple #[.slice none 0 0, .int .i64 43])
set_option maxHeartbeats 3200000 in
theorem rLines2 (s : ByteArray) (hs : s.size ≤ 1048577) (w : World) :
    Calls Tryd.prog 15 #[.string s] w fun e w' => linesQ2 w w' (linesP (bs s)) e ∧ Below w.heap.size w w' := by
  obtain ⟨i9, hi, hz0, hz1, hz2⟩ := info_parts hi9
  have HIN : Hid (_ ∧ _ ∧ _ ∧ _) := ⟨hi, hz0, hz1, hz2⟩
  clear hi hz0 hz1 hz2
  have hgb := get_bt s
  obtain ⟨R, HR⟩ : ∃ R, Hid (linesP (bs s) = R) := ⟨_, rfl⟩
  rw [HR.out]
  go_enter Tryd.func15, Tryd.ntmps15
  go_wp2
  go_loopw [4, 5, 6] (fun o f i wr => ∃ (k j : Nat) (done : List (List Int)), k ≤ s.size ∧ i = .int .i64 k ∧ f = .int .i64 j ∧ Hid (LInv s j k done) ∧ Hid (wr.ownsRow w.heap.size 9 1 o (done.map str).length ((done.map str).map Value.string)) ∧ Hid (Below w.heap.size w wr)) (fun _ _ i _ => (s.size + 1 - intOf i).toNat)
  case atStart => exact ⟨0, 0, [], by omega, rfl, rfl, ⟨Nat.le_refl _, fun j h1 h2 => by omega, rfl, by simp⟩, World.ownsRow_nil _ _ _ _, Below.refl _ _⟩
  case round =>
    obtain ⟨k, j, done, hk, rfl, rfl, HI, HO, HB⟩ := hrel
    have hbase := HB.out.size
    have hjk := HI.out.le
    by_cases hlt : k < s.size
    · have hlt' : (k : Int) < s.size := by omega
      by_cases hbe : bt s k = 10
      · have hga : ∀ (h : k < s.size), ((s[k]'h).toNat : Int) = 10 := fun h => (hgb k h).trans hbe
        have e1 : (j : Int) ≤ k := by omega
        have e2 : (k : Int) ≤ s.size := by omega
        have HI2 : Hid (LInv s (k + 1) (k + 1) (done ++ [bs (s.extract j k)])) := by
          refine ⟨Nat.le_refl _, fun y y1 y2 => by omega, ?_, by have := HI.out.len; simp; omega⟩
          rw [HI.out.ps, cut10 s j k hjk hlt hbe, parts_at _ _ _ (no10 s j k hjk hk HI.out.no)]
          simp
        have hdl : (done.map str).length ≤ k := by rw [List.length_map]; exact HI.out.len
        have hdl2 : (done.map str).length + 1 ≤ 1048578 := by omega
        obtain ⟨m, HM⟩ : ∃ m, Hid ((done.map str).length = m) := ⟨_, rfl⟩
        rw [HM.out] at HO hdl2 hdl
        obtain ⟨Z, HZ⟩ : ∃ Z, Hid (s.extract j k = Z) := ⟨_, rfl⟩
        have hxe := HZ.out
        have HX2 : Hid ((done ++ [bs (s.extract j k)]).map str = done.map str ++ [Z]) := by show _ = _; rw [HZ.out]; simp [str_bs]
        clear hgb hbe
        have hbase1 := hbase
        go_wp2_with (at_builtin; refine wpList_append_own _ rfl _ _ 29 rfl w.heap.size 9 i9 (.string ByteArray.empty) 1 16 Tryd.underlying29 HIN.out.1 HIN.out.2.1 HIN.out.2.2.1 HIN.out.2.2.2 rfl (by decide) _ m _ rfl (HO.out.alloc _) ⟨wr.heap.size, 0, none⟩ 1 1 [.string Z] rfl rfl (fun i u hu => by cases i with | zero => (simp at hu; rw [← hu]; exact new_cell _ _ _) | succ i => simp at hu) (fun u hu => by simp at hu; subst hu; rfl) (by unfold maxLen; omega) (by omega) (by simp; omega) ?_; intro v' w3 hown' hgrow3 hnil3; have HO3 : Hid (World.ownsRow _ _ _ _ _ _ _) := hown'; have HB3 : Hid (Below w.heap.size w w3) := Below.grown (HB.out.alloc HB.out.size _) hgrow3 (by simp; omega) (fun j hj => (HO.out.lt _ hj).1); clear hown' hgrow3 hnil3)
        go_roundw
        case rel =>
          refine ⟨k + 1, k + 1, done ++ [bs (s.extract j k)], by omega, by go_num, by go_num, HI2.out, ?_, HB3.out⟩
          rw [HX2.out, List.length_append, HM.out, List.map_append]
          exact HO3.out
        case measure => simp [intOf]; omega
      · obtain ⟨a, HA⟩ : ∃ a, Hid (bt s k = a) := ⟨_, rfl⟩
        have hga : ∀ (h : k < s.size), ((s[k]'h).toNat : Int) = a := fun h => (hgb k h).trans HA.out
        have hab : (a == 10) = false := beq_eq_false_iff_ne.2 (by rw [← HA.out]; exact hbe)
        have HI2 : Hid (LInv s j (k + 1) done) := by
          refine ⟨by omega, fun x x1 x2 => ?_, HI.out.ps, by have := HI.out.len; omega⟩
          rcases Nat.lt_or_ge x k with g | g
          · exact HI.out.no x x1 g
          · obtain rfl : x = k := by omega
            exact hbe
        clear hgb hbe
        go_wp2
        go_roundw
        case rel => exact ⟨k + 1, j, done, by omega, by go_num, rfl, HI2.out, HO.out, HB.out⟩
        case measure => simp [intOf]; omega
    · have hlt' : ¬ (k : Int) < s.size := by omega
      have hke : k = s.size := by omega
      have hrest : (bs s).drop j = bs (s.extract j k) := by
        rw [bs_extract s j k hjk hk, List.take_of_length_le (by rw [bs_length]; omega)]
      have hl := lines_parts (bs s) done ((bs s).drop j) (by rw [HI.out.ps, hrest, parts_none _ _ (no10 s j k hjk hk HI.out.no)])
      rw [HR.out] at hl
      have HL : Hid (R = if (bs s).drop j = [] then some done else none) := hl
      clear hl hrest hgb
      by_cases hj : j < s.size
      · have hj' : (j : Int) < s.size := by omega
        have HE : Hid (R = none) := by
          show _ = _
          rw [HL.out, if_neg]
          intro h
          have := congrArg List.length h
          rw [List.length_drop, bs_length] at this
          simp at this
          omega
        clear hke
        go_wp2
        go_ret2
        refine ⟨?_, HB.out⟩
        rw [HE.out]
        exact rfl
      · have hj' : ¬ (j : Int) < s.size := by omega
        have HE : Hid (R = some done) := by
          show _ = _
          rw [HL.out, if_pos (List.drop_of_length_le (by rw [bs_length]; omega))]
        clear hke
        go_wp2
        go_ret2
        refine ⟨?_, HB.out⟩
        rw [HE.out]
        exact ⟨_, rfl, HO.out⟩
end Go.Proofs.YthblljfkodbbeabDoor.yi
