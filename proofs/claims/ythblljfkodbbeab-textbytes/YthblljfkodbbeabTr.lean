import Derived.Test.YthblljfkodbbeabTq
namespace Go.Proofs.Ythblljfkodbbeab.tr
open Go.RowKit Go.PlainAid
open Go.Proofs.Ythblljfkodbbeab.ta Go.Proofs.Ythblljfkodbbeab.tb Go.Proofs.Ythblljfkodbbeab.tc Go.Proofs.Ythblljfkodbbeab.td Go.Proofs.Ythblljfkodbbeab.te Go.Proofs.Ythblljfkodbbeab.tf Go.Proofs.Ythblljfkodbbeab.tg Go.Proofs.Ythblljfkodbbeab.th Go.Proofs.Ythblljfkodbbeab.ti Go.Proofs.Ythblljfkodbbeab.tj Go.Proofs.Ythblljfkodbbeab.tk Go.Proofs.Ythblljfkodbbeab.tm Go.Proofs.Ythblljfkodbbeab.tn Go.Proofs.Ythblljfkodbbeab.to Go.Proofs.Ythblljfkodbbeab.tp Go.Proofs.Ythblljfkodbbeab.tq
set_option linter.unusedVariables false

theorem un64_form (s : ByteArray) : ∃ q e, un64V s = .tuple #[.string q, .int .i64 e] := by
  unfold un64V; split
  · exact ⟨_, _, rfl⟩
  · exact ⟨_, _, rfl⟩
theorem unhex_form (s : ByteArray) : ∃ q e, unhexV s = .tuple #[.string q, .int .i64 e] := by
  unfold unhexV; split
  · exact ⟨_, _, rfl⟩
  · exact ⟨_, _, rfl⟩

set_option maxHeartbeats 1600000 in
theorem text_bytes (s : ByteArray) (hs : s.size ≤ 140737488351232) (w : World) :
    Calls Try.prog 3 #[.string s] w fun e w' => e = .returned (.bool true) ∧ Below w.heap.size w w' := by
  have C1 : Hid (∀ w, Calls _ _ _ _ _) := fun w => b64 s (by omega) w
  have C2 : Hid (∀ w, Calls _ _ _ _ _) := fun w => rB64 s (by omega) w
  have C3 : Hid (∀ w, Calls _ _ _ _ _) := fun w => hex s (by omega) w
  have C4 : Hid (∀ w, Calls _ _ _ _ _) := fun w => rHex s (by omega) w
  have C5 : Hid (∀ w, Calls _ _ _ _ _) := fun w => unb64 s (by omega) w
  have C6 : Hid (∀ w, Calls _ _ _ _ _) := fun w => rUn64 s (by omega) w
  have C7 : Hid (∀ w, Calls _ _ _ _ _) := fun w => unhex s (by omega) w
  have C8 : Hid (∀ w, Calls _ _ _ _ _) := fun w => rUnHex s (by omega) w
  obtain ⟨q1, e1, h1⟩ := un64_form s
  obtain ⟨q2, e2, h2⟩ := unhex_form s
  rw [h1] at C5 C6
  rw [h2] at C7 C8
  clear h1 h2
  generalize str (b64L (bs s)) = X at *
  generalize str (hexL (bs s)) = Y at *
  have b1 : (X.toList == X.toList) = true := beq_self_eq_true _
  have b2 : (Y.toList == Y.toList) = true := beq_self_eq_true _
  have b3 : (q1.toList == q1.toList) = true := beq_self_eq_true _
  have b4 : (q2.toList == q2.toList) = true := beq_self_eq_true _
  go_enter Try.func3, Try.ntmps3
  go_wp2_with fail
  refine (C1.out _).mono ?_
  rintro e w1 ⟨rfl, hb1⟩
  have B1 : Hid (Below _ _ _) := hb1
  clear hb1
  go_wp2_with fail
  refine (C2.out _).mono ?_
  rintro e w2 ⟨rfl, rfl⟩
  go_wp2_with fail
  refine (C3.out _).mono ?_
  rintro e w3 ⟨rfl, hb3⟩
  have B3 : Hid (Below w.heap.size w w3) := over B1.out hb3
  clear hb3 B1
  go_wp2_with fail
  refine (C4.out _).mono ?_
  rintro e w4 ⟨rfl, hb4⟩
  have B4 : Hid (Below w.heap.size w w4) := over B3.out hb4
  clear hb4 B3
  go_wp2_with fail
  refine (C5.out _).mono ?_
  rintro e w5 ⟨rfl, hb5⟩
  have B5 : Hid (Below w.heap.size w w5) := over B4.out hb5
  clear hb5 B4
  go_wp2_with fail
  refine (C6.out _).mono ?_
  rintro e w6 ⟨rfl, hb6⟩
  have B6 : Hid (Below w.heap.size w w6) := over B5.out hb6
  clear hb6 B5
  go_wp2_with fail
  refine (C7.out _).mono ?_
  rintro e w7 ⟨rfl, hb7⟩
  have B7 : Hid (Below w.heap.size w w7) := over B6.out hb7
  clear hb7 B6
  go_wp2_with fail
  refine (C8.out _).mono ?_
  rintro e w8 ⟨rfl, hb8⟩
  have B8 : Hid (Below w.heap.size w w8) := over B7.out hb8
  clear hb8 B7
  go_wp2
  go_ret
  exact ⟨rfl, B8.out⟩
end Go.Proofs.Ythblljfkodbbeab.tr
