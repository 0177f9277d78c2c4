import Derived.Test.YtommongnhcofnaaYc
import Derived.Test.YtommongnhcofnaaMc
namespace Go.Proofs.Ytommongnhcofnaa.sn
open Go.RowKit Go.PlainAid Go.Maps Go.Shelf
open Go.Proofs.Ytommongnhcofnaa.ca Go.Proofs.Ytommongnhcofnaa.cb Go.Proofs.Ytommongnhcofnaa.cp Go.Proofs.Ytommongnhcofnaa.kp Go.Proofs.Ytommongnhcofnaa.ka Go.Proofs.Ytommongnhcofnaa.ya Go.Proofs.Ytommongnhcofnaa.yb Go.Proofs.Ytommongnhcofnaa.yc Go.Proofs.Ytommongnhcofnaa.mc
set_option linter.unusedVariables false

theorem num17 (x : Int) (w : World) : Calls Try.prog 6 #[.int .i64 x] w fun e w' => e = .returned (.int .i64 x) ∧ w' = w := by
  go_enter Try.func6, Try.ntmps6
  go_wp2
  go_ret
  exact ⟨rfl, rfl⟩
-- an empty store, wherever it lies
set_option maxHeartbeats 1600000 in
theorem storeOfS (b : Nat) (c : Int) (w : World) (h : Mp b [] w) :
    Calls Try.prog 11 #[.map (some b), .int .i64 c] w fun e w' => (∃ g, e = .returned (.pointer (some ⟨g, 0, none⟩))) ∧ Below w.heap.size w w' := by
  have C1 : Hid (Calls _ _ _ _ _) := mc.cloneM b [] w h
  have C2 : Hid (∀ w', Below w.heap.size w w' → Calls _ _ _ (w' : World) _) := fun w' hb' => totalM b [] w' (h.keep (Kp.of_below (A := fun _ => False) hb') (fun e => e)) (by intro p hp; cases hp) (by decide)
  clear h
  go_enter Try.func11, Try.ntmps11
  go_wp2_with (first | (go_at_call 15; refine C1.out.mono ?_; rintro _ w1 ⟨rfl, m1, b1⟩; have B1 : Hid (Below w.heap.size w w1) := b1; clear m1 b1) | (go_at_call 16; refine (C2.out _ B1.out).mono ?_; rintro _ w2 ⟨rfl, b2⟩; have B2 : Hid (Below w.heap.size w w2) := over B1.out b2; clear b2) | go_in)
  go_ret
  exact ⟨⟨_, rfl⟩, over B2.out ((Below.refl _ w2).alloc (Nat.le_refl _) _)⟩
theorem newS (w : World) : Calls Try.prog 5 #[.int .i64 1000] w fun e w' => (∃ g, e = .returned (.pointer (some ⟨g, 0, none⟩))) ∧ Below w.heap.size w w' := by
  have CC : Hid (∀ w, Calls _ _ _ _ _) := fun w => capC 1000 w
  have hmm := @run_makeMap Try.prog
  rw [decide_eq_true (show (0 : Int) ≤ 1000 ∧ (1000 : Int) ≤ 1073741824 by decide)] at CC
  have hM : Mp w.heap.size [] (w.alloc (.map #[] 0)) := World.ownsMap_made _ _ _ _
  have C2 : Hid (Calls _ _ _ _ _) := storeOfS w.heap.size 1000 (w.alloc (.map #[] 0)) hM
  have HB : Hid (Below w.heap.size w (w.alloc (.map #[] 0))) := (Below.refl _ w).alloc (Nat.le_refl _) _
  clear hM
  go_enter Try.func5, Try.ntmps5
  go_wp2_with (first | (go_at_call 10; refine (CC.out _).mono ?_; rintro _ _ ⟨rfl, hw⟩; rw [hw]; clear hw) | (go_at_call 11; refine C2.out.mono ?_; rintro _ w2 ⟨⟨g, rfl⟩, b2⟩; have B2 : Hid (Below _ _ _) := b2; clear b2) | go_in)
  go_ret
  exact ⟨⟨g, rfl⟩, over HB.out B2.out⟩
-- options without an engine are refused
theorem kOptsNo (w : World) : Calls Try.prog 12 #[.agg #[.int .i64 0, .int .i64 1, .int .i64 0, .int .i64 0, .int .i64 0, .int .i64 0], .int .i64 3] w fun e w' => e = .returned (.bool false) ∧ Below w.heap.size w w' := by
  have HB : Hid (Below w.heap.size w (w.alloc (.cells #[.int .i64 0, .int .i64 1, .int .i64 0, .int .i64 0, .int .i64 0, .int .i64 0] 29))) := (Below.refl _ w).alloc (Nat.le_refl _) _
  go_enter Try.func12, Try.ntmps12
  go_wp2
  go_ret
  exact ⟨rfl, HB.out⟩
theorem optsNo (w : World) : Calls Try.prog 7 #[.agg #[.int .i64 0, .int .i64 1, .int .i64 0, .int .i64 0, .int .i64 0, .int .i64 0]] w fun e w' => e = .returned (.bool false) ∧ Below w.heap.size w w' := by
  have HB : Hid (Below w.heap.size w (w.alloc (.cells #[.int .i64 0, .int .i64 1, .int .i64 0, .int .i64 0, .int .i64 0, .int .i64 0] 29))) := (Below.refl _ w).alloc (Nat.le_refl _) _
  have C : Hid (∀ w, Calls _ _ _ (w : World) _) := fun w => kOptsNo w
  go_enter Try.func7, Try.ntmps7
  go_wp2_with (go_at_call 12; refine (C.out _).mono ?_; rintro _ w2 ⟨rfl, b2⟩; have B2 : Hid (Below w.heap.size w w2) := over HB.out b2; clear b2)
  go_ret
  exact ⟨rfl, B2.out⟩
theorem makeNo (p : Option Addr) (w : World) : Calls Try.prog 4 #[.pointer p, .agg #[.int .i64 0, .int .i64 1, .int .i64 0, .int .i64 0, .int .i64 0, .int .i64 0], .int .i64 1] w fun e w' => e = .returned (.tuple #[.pointer none, .int .i64 150]) ∧ Below w.heap.size w w' := by
  have HB : Hid (Below w.heap.size w (w.alloc (.cells #[.int .i64 0, .int .i64 1, .int .i64 0, .int .i64 0, .int .i64 0, .int .i64 0] 29))) := (Below.refl _ w).alloc (Nat.le_refl _) _
  have C : Hid (∀ w, Calls _ _ _ (w : World) _) := fun w => optsNo w
  go_enter Try.func4, Try.ntmps4
  go_wp2_with (go_at_call 7; refine (C.out _).mono ?_; rintro _ w2 ⟨rfl, b2⟩; have B2 : Hid (Below w.heap.size w w2) := over HB.out b2; clear b2)
  go_ret2
  exact ⟨rfl, B2.out⟩
theorem names_walk (w : World) : Calls Try.prog 3 #[] w fun e w' => e = .returned (.bool true) ∧ Below w.heap.size w w' := by
  have C1 : Hid (∀ w, Calls _ _ _ (w : World) _) := fun w => newS w
  have C2 : Hid (∀ p w, Calls _ _ _ (w : World) _) := fun p w => makeNo p w
  go_enter Try.func3, Try.ntmps3
  go_wp2_with (first
    | (go_at_call 5; refine (C1.out _).mono ?_; rintro _ w1 ⟨⟨g, rfl⟩, b1⟩; have B1 : Hid (Below w.heap.size w w1) := b1; clear b1)
    | (go_at_call 4; refine (C2.out _ _).mono ?_; rintro _ w2 ⟨rfl, b2⟩; have B2 : Hid (Below w.heap.size w w2) := over B1.out b2; clear b2)
    | (go_at_call 6; refine (num17 _ _).mono ?_; rintro _ wz ⟨rfl, hz⟩; rw [hz]; clear hz))
  go_ret
  exact ⟨rfl, B2.out⟩
end Go.Proofs.Ytommongnhcofnaa.sn
