import Derived.Test.YthblljfkodbbeaaDoorWc
namespace Go.Proofs.YthblljfkodbbeaaDoor.wd
open Go.RowKit Go.PlainAid Go.Shelf
open Go.Proofs.YthblljfkodbbeaaDoor.ta Go.Proofs.YthblljfkodbbeaaDoor.tb Go.Proofs.YthblljfkodbbeaaDoor.tc Go.Proofs.YthblljfkodbbeaaDoor.tj Go.Proofs.YthblljfkodbbeaaDoor.wa Go.Proofs.YthblljfkodbbeaaDoor.wb Go.Proofs.YthblljfkodbbeaaDoor.wc
set_option linter.unusedVariables false

theorem unDecV_two (s : ByteArray) : ∃ a b, unDecV s = .tuple #[.int .i64 a, .int .i64 b] := by
  unfold unDecV
  split
  · exact ⟨_, _, rfl⟩
  · exact ⟨_, _, rfl⟩
set_option maxHeartbeats 800000 in
theorem text_numbers (n : Int) (s : ByteArray) (hn : I64 n) (hs : s.size ≤ 281474976710656) (w : World) (hw : NumW w) :
    Calls Tryd.prog 4 #[.int .i64 n, .string s] w fun e w' => e = .returned (.bool true) ∧ Below w.heap.size w w' := by
  have D1 : Hid (Calls _ _ _ _ _) := dec n hn w hw
  have D2 : Hid (∀ w, Calls _ _ _ _ _) := fun w => rDec (n.natAbs + 1) n hn (by omega) w
  have U1 : Hid (∀ w, NumW w → Calls Tryd.prog 13 #[.string s] w fun e w' => e = .returned (unDecV s) ∧ Below w.heap.size w w') := fun w hw => unDec s hs w hw
  have U2 : Hid (∀ w, Calls _ _ _ _ _) := fun w => rUnDec s hs w
  have HW : Hid (NumW w) := hw
  obtain ⟨a, b, hab⟩ := unDecV_two s
  rw [hab] at U1 U2
  obtain ⟨X, HX⟩ : ∃ X, Hid (decS n = X) := ⟨_, rfl⟩
  rw [HX.out] at D1 D2
  clear hab hw
  have q1 : (X.toList == X.toList) = true := beq_self_eq_true _
  have q2 : (a == a) = true := beq_self_eq_true _
  have q3 : (b == b) = true := beq_self_eq_true _
  go_enter Tryd.func4, Tryd.ntmps4
  go_wp2_with fail
  refine D1.out.mono ?_
  rintro e w1 ⟨rfl, hb1⟩
  have B1 : Hid (Below w.heap.size w w1) := hb1
  clear hb1
  go_wp2_with fail
  refine (D2.out _).mono ?_
  rintro e w1 ⟨rfl, rfl⟩
  go_wp2_with fail
  refine (U1.out _ (HW.out.down B1.out)).mono ?_
  rintro e w2 ⟨rfl, hb2⟩
  have B2 : Hid (Below w.heap.size w w2) := over B1.out hb2
  clear hb2
  go_wp2_with fail
  refine (U2.out _).mono ?_
  rintro e w2 ⟨rfl, rfl⟩
  go_wp2
  go_ret
  exact ⟨rfl, B2.out⟩
end Go.Proofs.YthblljfkodbbeaaDoor.wd
