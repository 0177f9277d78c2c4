import Derived.Test.YthblljfkodbbeabDoorXb
namespace Go.Proofs.YthblljfkodbbeabDoor.xc
open Go.RowKit Go.PlainAid
open Go.Proofs.YthblljfkodbbeabDoor.ta Go.Proofs.YthblljfkodbbeabDoor.tb Go.Proofs.YthblljfkodbbeabDoor.tc Go.Proofs.YthblljfkodbbeabDoor.td Go.Proofs.YthblljfkodbbeabDoor.te Go.Proofs.YthblljfkodbbeabDoor.tg Go.Proofs.YthblljfkodbbeabDoor.tj Go.Proofs.YthblljfkodbbeabDoor.tk Go.Proofs.YthblljfkodbbeabDoor.tm Go.Proofs.YthblljfkodbbeabDoor.tn Go.Proofs.YthblljfkodbbeabDoor.ub Go.Proofs.YthblljfkodbbeabDoor.uc Go.Proofs.YthblljfkodbbeabDoor.ud Go.Proofs.YthblljfkodbbeabDoor.va Go.Proofs.YthblljfkodbbeabDoor.vb Go.Proofs.YthblljfkodbbeabDoor.vc Go.Proofs.YthblljfkodbbeabDoor.xa Go.Proofs.YthblljfkodbbeabDoor.xb
set_option linter.unusedVariables false

theorem drop_cons' (s : ByteArray) (j : Nat) (h : j < s.size) : (bs s).drop j = bt s j :: (bs s).drop (j + 1) := by
  rw [List.drop_eq_getElem_cons (by rw [bs_length]; exact h), bs_get s j h]

set_option maxHeartbeats 3200000 in
theorem rUnescape (s : ByteArray) (hs : s.size ≤ 140737488355328) (w : World) :
    Calls Tryd.prog 10 #[.string s] w fun e w' => e = .returned (unV s) ∧ Below w.heap.size w w' := by
  obtain ⟨i5, hi, hz0, hz1, hz2⟩ := info_parts info5
  have HIN : Hid (_ ∧ _ ∧ _ ∧ _) := ⟨hi, hz0, hz1, hz2⟩
  clear hi hz0 hz1 hz2
  have hgb := get_bt s
  obtain ⟨R, HR⟩ : ∃ R, Hid (unV s = R) := ⟨_, rfl⟩
  rw [HR.out]
  by_cases h37 : bs s = [37]
  · have he : s = ⟨#[37]⟩ := bs_inj (h37.trans bs_37.symm)
    have HE : Hid (R = .tuple #[.string ByteArray.empty, .int .i64 0]) := by show _ = _; rw [← HR.out]; unfold unV unP; rw [if_pos h37]; rfl
    clear h37 HR hgb
    subst he
    go_enter Tryd.func10, Tryd.ntmps10
    go_wp2
    go_ret2
    exact ⟨by rw [HE.out]; rfl, Below.refl _ _⟩
  · have hne : s ≠ ⟨#[37]⟩ := fun h => h37 (by rw [h]; exact bs_37)
    have hne1 : (s.toList == (⟨#[37]⟩ : ByteArray).toList) = false := by rw [toList_bs]; exact decide_eq_false hne
    have hne2 : (s.toList == [37]) = false := by rw [toList_lit]; exact decide_eq_false hne
    have HT : Hid (_ = _) := refUn s h37
    rw [HR.out] at HT
    clear h37 hne HR
    go_enter Tryd.func10, Tryd.ntmps10
    go_wp2
    go_loopw [4, 5] (fun o i wr => ∃ (k : Nat) (done : List Int), k ≤ s.size ∧ i = .int .i64 k ∧ done.length ≤ k ∧ Hid (done ++ gu ((bs s).drop k) = gu (bs s)) ∧ Hid (wr.ownsRow w.heap.size 5 1 o done.length (done.map (Value.int .u8))) ∧ Hid (Below w.heap.size w wr)) (fun _ i _ => (s.size - intOf i).toNat)
    case atStart => exact ⟨0, [], by omega, rfl, by simp, rfl, World.ownsRow_nil _ _ _ _, Below.refl _ _⟩
    case round =>
      obtain ⟨k, done, hk, rfl, hdl, HD, HO, HB⟩ := hrel
      have hbase := HB.out.size
      by_cases hlt : k < s.size
      · have hlt' : (k : Int) < s.size := by omega
        have a0 := bt_nonneg s k
        have a1 := bt_le s k
        have hdk := drop_cons' s k hlt
        obtain ⟨m, HM⟩ : ∃ m, Hid (done.length = m) := ⟨_, rfl⟩
        rw [HM.out] at HO hdl
        obtain ⟨a, HA⟩ : ∃ a, Hid (bt s k = a) := ⟨_, rfl⟩
        have hga : ∀ (h : k < s.size), ((s[k]'h).toNat : Int) = a := fun h => (hgb k h).trans HA.out
        rw [HA.out] at a0 a1 hdk
        by_cases h37 : a = 37 ∧ k + 2 < s.size
        · obtain ⟨ha37, h2⟩ := h37
          have h2' : (k : Int) + 2 < s.size := by omega
          have h1' : (k : Int) + 1 < s.size := by omega
          have b0 := bt_nonneg s (k + 1); have b1 := bt_le s (k + 1)
          have c0 := bt_nonneg s (k + 2); have c1 := bt_le s (k + 2)
          have HN : Hid (done ++ [16 * rv AUP (bt s (k + 1)) + rv AUP (bt s (k + 2))] ++ gu ((bs s).drop (k + 3)) = gu (bs s)) := by
            show _ = _
            rw [← HD.out, hdk, drop_cons' s (k + 1) (by omega), drop_cons' s (k + 1 + 1) (by omega), gu, if_pos ha37]
            simp
          obtain ⟨b, HBB⟩ : ∃ b, Hid (bt s (k + 1) = b) := ⟨_, rfl⟩
          obtain ⟨c, HC⟩ : ∃ c, Hid (bt s (k + 2) = c) := ⟨_, rfl⟩
          have hgb1 : ∀ (h : k + 1 < s.size), ((s[k + 1]'h).toNat : Int) = b := fun h => (hgb (k + 1) h).trans HBB.out
          have hgc1 : ∀ (h : k + 2 < s.size), ((s[k + 2]'h).toNat : Int) = c := fun h => (hgb (k + 2) h).trans HC.out
          rw [HBB.out] at b0 b1 HN
          rw [HC.out] at c0 c1 HN
          obtain ⟨rb0, rb1⟩ := rvUP b
          obtain ⟨rc0, rc1⟩ := rvUP c
          obtain ⟨x, hx⟩ : ∃ x, rv AUP b = x := ⟨_, rfl⟩
          obtain ⟨y, hy⟩ : ∃ y, rv AUP c = y := ⟨_, rfl⟩
          rw [hx] at rb0 rb1 HN
          rw [hy] at rc0 rc1 HN
          have hwr : IntKind.u8.wrap (16 * x + y) = 16 * x + y := by rw [IntKind.wrap_u8']; omega
          have hw1 : IntKind.i64.wrap (16 * x) = 16 * x := by rw [IntKind.wrap_i64]; omega
          have hw2 : IntKind.i64.wrap (16 * x + y) = 16 * x + y := by rw [IntKind.wrap_i64]; omega
          have hw3 : IntKind.i64.wrap ((k : Int) + 1) = (k : Int) + 1 := by rw [IntKind.wrap_i64]; omega
          have hw4 : IntKind.i64.wrap ((k : Int) + 2) = (k : Int) + 2 := by rw [IntKind.wrap_i64]; omega
          have hj1 : ((k : Int) + 1).toNat = k + 1 := by omega
          have hj2 : ((k : Int) + 2).toNat = k + 2 := by omega
          have h37b : (a == 37) = true := by rw [ha37]; rfl
          clear hgb hdk ha37
          go_wp2_with fail
          go_region_held3 (fun w' => True) (trivial) ((first | (go_at_call 29; refine (valueUP _ (by omega) (by omega) _).mono ?_; rintro e w' ⟨rfl, rfl⟩) | (refine step_append_lies _ (by rfl) _ _ 39 (by rfl) w.heap.size 5 i5 (.int .u8 0) 1 1 Tryd.underlying39 HIN.out.1 HIN.out.2.1 HIN.out.2.2.1 HIN.out.2.2.2 rfl (by decide) _ m _ (by rfl) (World.ownsRow.drew (HO.out.alloc _)) ⟨wr.heap.size, 0, none⟩ 1 1 [.int .u8 (16 * x + y)] (by rfl) rfl (fun i u hu => by cases i with | zero => (simp at hu; rw [← hu]; exact new_cell_d _ _ _) | succ i => simp at hu) (fun u hu => by simp at hu; subst hu; rfl) (by omega) (by unfold maxLen; omega) (by omega) (by simp; omega) _ rfl ?_; intro g7 cap7 w7 hown7 hgrow7 hlies7 hglt7)))
          all_goals (
            have HO7 : Hid (World.ownsRow _ _ _ _ _ _ _) := hown7
            have HB7 : Hid (Below w.heap.size w w7) := Below.grown (HB.out.alloc (by omega) _) (grown_drew hgrow7) (by simp; omega) (fun j hj => (HO.out.lt _ hj).1)
            clear hown7 hgrow7 hlies7
            go_wp2
            go_roundw
            case rel =>
              refine ⟨k + 3, done ++ [16 * x + y], by omega, by go_num, by rw [List.length_append, HM.out]; simp; omega, HN.out, ?_, HB7.out⟩
              rw [List.length_append, HM.out, List.map_append]
              exact HO7.out
            case measure => simp [intOf]; omega)
        · have HN : Hid (done ++ [a] ++ gu ((bs s).drop (k + 1)) = gu (bs s)) := by
            show _ = _
            rw [← HD.out, hdk, gu_other a _ (by
              by_cases e : a = 37
              · right; rw [List.length_drop, bs_length]; have : ¬ k + 2 < s.size := fun h => h37 ⟨e, h⟩; omega
              · exact .inl e)]
            simp
          clear hdk hgb
          by_cases ha : a = 37
          · have hb : (a == 37) = true := by rw [ha]; rfl
            have h2' : ¬ (k : Int) + 2 < s.size := by have : ¬ k + 2 < s.size := fun h => h37 ⟨ha, h⟩; omega
            clear h37 ha
            go_wp2_with (at_builtin; refine wpList_append_own _ rfl _ _ 39 rfl w.heap.size 5 i5 (.int .u8 0) 1 1 Tryd.underlying39 HIN.out.1 HIN.out.2.1 HIN.out.2.2.1 HIN.out.2.2.2 rfl (by decide) _ m _ rfl (HO.out.alloc _) ⟨wr.heap.size, 0, none⟩ 1 1 [.int .u8 a] rfl rfl (fun i u hu => by cases i with | zero => (simp at hu; rw [← hu]; exact new_cell _ _ _) | succ i => simp at hu) (fun u hu => by simp at hu; subst hu; rfl) (by unfold maxLen; omega) (by omega) (by simp; omega) ?_; intro v' w3 hown' hgrow3 hnil3; have HO3 : Hid (World.ownsRow _ _ _ _ _ _ _) := hown'; have HB3 : Hid (Below w.heap.size w w3) := Below.grown (HB.out.alloc HB.out.size _) hgrow3 (by simp; omega) (fun j hj => (HO.out.lt _ hj).1); clear hown' hgrow3 hnil3)
            go_roundw
            case rel =>
              refine ⟨k + 1, done ++ [a], by omega, by go_num, by rw [List.length_append, HM.out]; simp; omega, HN.out, ?_, HB3.out⟩
              rw [List.length_append, HM.out, List.map_append]
              exact HO3.out
            case measure => simp [intOf]; omega
          · have hb : (a == 37) = false := beq_eq_false_iff_ne.2 ha
            clear h37 ha
            go_wp2_with (at_builtin; refine wpList_append_own _ rfl _ _ 39 rfl w.heap.size 5 i5 (.int .u8 0) 1 1 Tryd.underlying39 HIN.out.1 HIN.out.2.1 HIN.out.2.2.1 HIN.out.2.2.2 rfl (by decide) _ m _ rfl (HO.out.alloc _) ⟨wr.heap.size, 0, none⟩ 1 1 [.int .u8 a] rfl rfl (fun i u hu => by cases i with | zero => (simp at hu; rw [← hu]; exact new_cell _ _ _) | succ i => simp at hu) (fun u hu => by simp at hu; subst hu; rfl) (by unfold maxLen; omega) (by omega) (by simp; omega) ?_; intro v' w3 hown' hgrow3 hnil3; have HO3 : Hid (World.ownsRow _ _ _ _ _ _ _) := hown'; have HB3 : Hid (Below w.heap.size w w3) := Below.grown (HB.out.alloc HB.out.size _) hgrow3 (by simp; omega) (fun j hj => (HO.out.lt _ hj).1); clear hown' hgrow3 hnil3)
            go_roundw
            case rel =>
              refine ⟨k + 1, done ++ [a], by omega, by go_num, by rw [List.length_append, HM.out]; simp; omega, HN.out, ?_, HB3.out⟩
              rw [List.length_append, HM.out, List.map_append]
              exact HO3.out
            case measure => simp [intOf]; omega
      · have hlt' : ¬ (k : Int) < s.size := by omega
        have hdn : (bs s).drop k = [] := List.drop_of_length_le (by rw [bs_length]; omega)
        have hG : gu (bs s) = done := by rw [← HD.out, hdn]; simp [gu]
        have hcv := own_conv wr w.heap.size _ done done.length rfl HO.out
        have hin : In 256 done := by rw [← hG]; exact gu_in _ _ (Nat.le_refl _) (bs_in s)
        have HH : Hid (∀ w', Calls _ _ _ _ _) := fun w' => rEscape (str done) (by rw [str_size]; omega) w'
        rw [bs_str _ hin] at HH
        rw [hG] at HT
        unfold readV failV at HT
        clear HD HO hgb hdn hG hin
        by_cases he : str (escL done) = s
        · rw [if_pos he] at HT
          rw [he] at HH
          clear he
          generalize str done = G at *
          have hbb : (s.toList == s.toList) = true := beq_self_eq_true _
          go_wp2_with fail
          refine (HH.out _).mono ?_
          rintro e w1 ⟨rfl, hb1⟩
          have HB1 : Hid (Below w.heap.size w w1) := over HB.out hb1
          clear hb1
          go_wp2
          go_ret2
          exact ⟨by rw [← HT.out]; rfl, HB1.out⟩
        · rw [if_neg he] at HT
          have hbb : ((str (escL done)).toList == s.toList) = false := by rw [toList_bs]; exact decide_eq_false he
          clear he
          generalize str (escL done) = H at *
          generalize str done = G at *
          go_wp2_with fail
          refine (HH.out _).mono ?_
          rintro e w1 ⟨rfl, hb1⟩
          have HB1 : Hid (Below w.heap.size w w1) := over HB.out hb1
          clear hb1
          go_wp2
          go_ret2
          exact ⟨by rw [← HT.out]; rfl, HB1.out⟩
end Go.Proofs.YthblljfkodbbeabDoor.xc
