import Derived.Test.YthblljfkodbbeabDoorXd
namespace Go.Proofs.YthblljfkodbbeabDoor.xe
open Go.RowKit Go.PlainAid
open Go.Proofs.YthblljfkodbbeabDoor.ta Go.Proofs.YthblljfkodbbeabDoor.tb Go.Proofs.YthblljfkodbbeabDoor.tc Go.Proofs.YthblljfkodbbeabDoor.td Go.Proofs.YthblljfkodbbeabDoor.te Go.Proofs.YthblljfkodbbeabDoor.tg Go.Proofs.YthblljfkodbbeabDoor.tj Go.Proofs.YthblljfkodbbeabDoor.tk Go.Proofs.YthblljfkodbbeabDoor.tm Go.Proofs.YthblljfkodbbeabDoor.tn Go.Proofs.YthblljfkodbbeabDoor.ub Go.Proofs.YthblljfkodbbeabDoor.uc Go.Proofs.YthblljfkodbbeabDoor.ud Go.Proofs.YthblljfkodbbeabDoor.va Go.Proofs.YthblljfkodbbeabDoor.vb Go.Proofs.YthblljfkodbbeabDoor.vc Go.Proofs.YthblljfkodbbeabDoor.xa Go.Proofs.YthblljfkodbbeabDoor.xb Go.Proofs.YthblljfkodbbeabDoor.xc Go.Proofs.YthblljfkodbbeabDoor.xd
set_option linter.unusedVariables false

theorem allP_parts_len (s : ByteArray) (xs : List (List Int)) (h : wordsP (bs s) = some xs) : xs.length ≤ s.size + 1 := by
  unfold wordsP at h
  by_cases h0 : bs s = []
  · rw [if_pos h0] at h
    obtain rfl := Option.some.inj h
    simp
  · rw [if_neg h0] at h
    rw [allP_length _ _ h]
    rw [parts_length]
    have := List.count_le_length (a := (32 : Int)) (l := bs s)
    rw [bs_length] at this
    omega

set_option maxHeartbeats 3200000 in
theorem text_words (s : ByteArray) (w : World) (hz : s.size ≤ 1048576) :
    Calls Tryd.prog 3 #[.string s] w fun e w' => e = .returned (.bool true) ∧ Below w.heap.size w w' := by
  have hel := (escR_length (bs s)).2
  rw [bs_length] at hel
  have N1 : Hid (∀ w, Calls _ _ _ _ _) := fun w => name s (by omega) w
  have N2 : Hid (∀ w, Calls _ _ _ _ _) := fun w => rName s (by omega) w
  have E1 : Hid (∀ w, Calls _ _ _ _ _) := fun w => escape s (by omega) (by omega) w
  have E2 : Hid (∀ w, Calls _ _ _ _ _) := fun w => rEscape s (by omega) w
  have U1 : Hid (∀ w, Calls _ _ _ _ _) := fun w => unesc s (by omega) w
  have U2 : Hid (∀ w, Calls _ _ _ _ _) := fun w => rUnescape s (by omega) w
  have W1 : Hid (∀ w, Calls _ _ _ _ _) := fun w => words s (by omega) w
  have W2 : Hid (∀ w, Calls _ _ _ _ _) := fun w => rWords s hz w
  have HL := allP_parts_len s
  obtain ⟨R, HR⟩ : ∃ R, Hid (wordsP (bs s) = R) := ⟨_, rfl⟩
  rw [HR.out] at W1 W2 HL
  obtain ⟨E, HE⟩ : ∃ E, Hid (str (escL (bs s)) = E) := ⟨_, rfl⟩
  rw [HE.out] at E1 E2
  obtain ⟨T, te, HT⟩ : ∃ T te, Hid (unV s = .tuple #[.string T, .int .i64 te]) := by
    unfold unV
    cases unP (bs s) with
    | none => exact ⟨_, _, rfl⟩
    | some x => exact ⟨_, _, rfl⟩
  rw [HT.out] at U1 U2
  obtain ⟨b, HBn⟩ : ∃ b, Hid (nm s = b) := ⟨_, rfl⟩
  rw [HBn.out] at N1 N2
  clear hel
  have q0 : (b == b) = true := beq_self_eq_true _
  have q1 : (E.toList == E.toList) = true := beq_self_eq_true _
  have q2 : (T.toList == T.toList) = true := beq_self_eq_true _
  have q3 : (te == te) = true := beq_self_eq_true _
  cases R with
  | none =>
    unfold wordsR at W1
    unfold wordsQ at W2
    clear HL
    go_enter Tryd.func3, Tryd.ntmps3
    go_wp2_with fail
    refine (N1.out _).mono ?_
    rintro e w1 ⟨rfl, rfl⟩
    go_wp2_with fail
    refine (N2.out _).mono ?_
    rintro e w1 ⟨rfl, rfl⟩
    go_wp2_with fail
    refine (E1.out _).mono ?_
    rintro e w1 ⟨rfl, hb1⟩
    have B1 : Hid (Below _ _ _) := hb1
    clear hb1
    go_wp2_with fail
    refine (E2.out _).mono ?_
    rintro e w2 ⟨rfl, hb2⟩
    have B2 : Hid (Below _ _ _) := over B1.out hb2
    clear hb2
    go_wp2_with fail
    refine (U1.out _).mono ?_
    rintro e w3 ⟨rfl, hb3⟩
    have B3 : Hid (Below _ _ _) := over B2.out hb3
    clear hb3
    go_wp2_with fail
    refine (U2.out _).mono ?_
    rintro e w4 ⟨rfl, hb4⟩
    have B4 : Hid (Below _ _ _) := over B3.out hb4
    clear hb4
    go_wp2_with fail
    refine (W1.out _).mono ?_
    rintro e w5 ⟨rfl, hb5⟩
    have B5 : Hid (Below _ _ _) := over B4.out hb5
    clear hb5
    go_wp2_with fail
    refine (W2.out _).mono ?_
    rintro e w6 ⟨rfl, hb6⟩
    have B6 : Hid (Below _ _ _) := over B5.out hb6
    clear hb6
    have S1 := sameTexts (.slice none 0 0) (.slice none 0 0) [] [] w6 ⟨none, 0, rfl, .inl rfl⟩ ⟨none, 0, rfl, .inl rfl⟩ (by simp) (by simp)
    rw [decide_eq_true rfl] at S1
    have HS1 : Hid (Calls _ _ _ _ _) := S1
    clear S1
    go_wp2_with fail
    refine HS1.out.mono ?_
    rintro e w7 ⟨rfl, hb7⟩
    have B7 : Hid (Below _ _ _) := over B6.out hb7
    clear hb7
    go_wp2
    go_ret
    exact ⟨rfl, B7.out⟩
  | some xs =>
    unfold wordsR at W1
    unfold wordsQ at W2
    have hlen := HL xs rfl
    clear HL
    have hlen2 : (xs.map str).length ≤ 140737488355328 := by rw [List.length_map]; omega
    clear hlen
    obtain ⟨ys, HY⟩ : ∃ ys, Hid (xs.map str = ys) := ⟨_, rfl⟩
    have W1' : Hid (∀ w, Calls Tryd.prog 11 #[.string s] w fun e w' => (∃ v, e = .returned (.tuple #[v, .int .i64 0]) ∧ Texts w' w.heap.size v ys) ∧ Below w.heap.size w w') := by rw [← HY.out]; exact W1.out
    have W2' : Hid (∀ w, Calls Tryd.prog 12 #[.string s] w fun e w' => (∃ v, e = .returned (.tuple #[v, .int .i64 0]) ∧ Reads w' v ys ∧ v.oneCell' = true) ∧ Below w.heap.size w w') := by rw [← HY.out]; exact W2.out
    rw [HY.out] at hlen2
    clear W1 W2
    go_enter Tryd.func3, Tryd.ntmps3
    go_wp2_with fail
    refine (N1.out _).mono ?_
    rintro e w1 ⟨rfl, rfl⟩
    go_wp2_with fail
    refine (N2.out _).mono ?_
    rintro e w1 ⟨rfl, rfl⟩
    go_wp2_with fail
    refine (E1.out _).mono ?_
    rintro e w1 ⟨rfl, hb1⟩
    have B1 : Hid (Below _ _ _) := hb1
    clear hb1
    go_wp2_with fail
    refine (E2.out _).mono ?_
    rintro e w2 ⟨rfl, hb2⟩
    have B2 : Hid (Below _ _ _) := over B1.out hb2
    clear hb2
    go_wp2_with fail
    refine (U1.out _).mono ?_
    rintro e w3 ⟨rfl, hb3⟩
    have B3 : Hid (Below _ _ _) := over B2.out hb3
    clear hb3
    go_wp2_with fail
    refine (U2.out _).mono ?_
    rintro e w4 ⟨rfl, hb4⟩
    have B4 : Hid (Below _ _ _) := over B3.out hb4
    clear hb4
    go_wp2_with fail
    refine (W1'.out _).mono ?_
    rintro e w5 ⟨⟨v1, rfl, ht⟩, hb5⟩
    have B5 : Hid (Below _ _ _) := over B4.out hb5
    have HT5 : Hid (Reads w5 v1 ys) := Texts.reads ht
    have hv1 : v1.oneCell' = true := by
      rcases ht with ⟨rfl, _⟩ | ⟨g, rfl, _⟩
      · rfl
      · rfl
    clear hb5 ht
    go_wp2_with fail
    refine (W2'.out _).mono ?_
    rintro e w6 ⟨⟨v2, rfl, hrd, hv2⟩, hb6⟩
    have B6 : Hid (Below _ _ _) := over B5.out hb6
    have S1 := sameTexts v1 v2 ys ys w6 (HT5.out.later hb6) hrd hlen2 hlen2
    rw [decide_eq_true rfl] at S1
    have HS1 : Hid (Calls _ _ _ _ _) := S1
    clear S1 hb6 hrd
    go_wp2_with fail
    refine HS1.out.mono ?_
    rintro e w7 ⟨rfl, hb7⟩
    have B7 : Hid (Below _ _ _) := over B6.out hb7
    clear hb7
    go_wp2
    go_ret
    exact ⟨rfl, B7.out⟩
end Go.Proofs.YthblljfkodbbeabDoor.xe
