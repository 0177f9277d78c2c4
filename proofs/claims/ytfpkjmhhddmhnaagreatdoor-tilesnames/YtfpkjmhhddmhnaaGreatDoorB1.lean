import Derived.Test.YtfpkjmhhddmhnaaGreatDoorA4
namespace Go.Proofs.YtfpkjmhhddmhnaaGreatDoor.b1
open Go.RowKit Go.PlainAid Go.Shelf
open Go.Proofs.YtfpkjmhhddmhnaaGreatDoor.ca Go.Proofs.YtfpkjmhhddmhnaaGreatDoor.cp Go.Proofs.YtfpkjmhhddmhnaaGreatDoor.a1 Go.Proofs.YtfpkjmhhddmhnaaGreatDoor.a2 Go.Proofs.YtfpkjmhhddmhnaaGreatDoor.a4
set_option linter.unusedVariables false
set_option maxRecDepth 4000

theorem numC (n : Int) (w : World) : Calls Tryz.prog 6 #[.int .i64 n] w fun e w' => e = .returned (.int .i64 n) ∧ w' = w := by
  go_enter Tryz.func6, Tryz.ntmps6
  go_wp2
  go_ret
  exact ⟨rfl, rfl⟩
theorem sizeC (n : Int) (w : World) : Calls Tryz.prog 8 #[.int .i64 n] w fun e w' => e = .returned (.bool (decide (0 ≤ n) && decide (n ≤ 4611686018427387904))) ∧ w' = w := by
  by_cases h1 : (0 : Int) ≤ n
  · have d1 : decide ((0 : Int) ≤ n) = true := decide_eq_true h1
    clear h1
    go_enter Tryz.func8, Tryz.ntmps8
    go_wp2
    go_ret
    exact ⟨by rw [d1]; rfl, rfl⟩
  · have d1 : decide ((0 : Int) ≤ n) = false := decide_eq_false h1
    clear h1
    go_enter Tryz.func8, Tryz.ntmps8
    go_wp2
    go_ret
    exact ⟨by rw [d1]; rfl, rfl⟩
theorem eqF1 (d : Nat) (w : World) : (Op.equalIn (d + 1) 25 .nilFunc .nilFunc).run Tryz.prog w = .ok true w := by
  simp [Op.equalIn, run_underlying Tryz.underlying25]
theorem eqFn (w : World) : (binOp .eql 25 .nilFunc .nilFunc).run Tryz.prog w = .ok (.bool true) w := by
  simp only [binOp]
  simp [Op.equal, Op.maxDepth, eqF1 9999 w]
theorem eqF2 (d : Nat) (w : World) : (Op.equalIn (d + 1) 30 .nilFunc .nilFunc).run Tryz.prog w = .ok true w := by
  simp [Op.equalIn, run_underlying Tryz.underlying30]
theorem eqFm (w : World) : (binOp .eql 30 .nilFunc .nilFunc).run Tryz.prog w = .ok (.bool true) w := by
  simp only [binOp]
  simp [Op.equal, Op.maxDepth, eqF2 9999 w]
theorem goes1 : Goes 2 0 0 4 := by unfold Goes; decide
theorem ends1 (w : World) : Calls Tryz.prog 7 #[.agg #[.int .i64 2, .int .i64 0, .int .i64 0, .int .i64 4]] w fun e w' => e = .returned (.tuple #[.int .i64 4, .bool true]) ∧ Below w.heap.size w w' := by
  have := endsC 2 0 0 4 ⟨by omega, by omega⟩ ⟨by omega, by omega⟩ ⟨by omega, by omega⟩ ⟨by omega, by omega⟩ w
  rw [decide_eq_true goes1] at this
  have e : endT 2 0 0 4 = 4 := by unfold endT; rw [if_pos goes1]; decide
  rwa [e] at this
theorem serve1 (w : World) : Calls Tryz.prog 4 #[.agg #[.int .i64 1, .int .i64 4, .nilFunc], .agg #[.int .i64 2, .int .i64 0, .int .i64 0, .int .i64 4], .int .i64 9] w fun e w' => e = .returned (.tuple #[.string ⟨#[]⟩, .int .i64 10]) ∧ Below w.heap.size w w' := by
  have C1 : Hid (∀ w, Calls _ _ _ _ _) := ends1
  have C2 : Hid (∀ w, Calls Tryz.prog 8 #[.int .i64 4] w fun e w' => e = .returned (.bool true) ∧ w' = w) := fun w => sizeC 4 w
  obtain ⟨W, HW⟩ : ∃ W, Hid ((w.alloc (.cells #[.int .i64 1, .int .i64 4, .nilFunc] 27)).alloc (.cells #[.int .i64 2, .int .i64 0, .int .i64 0, .int .i64 4] 29) = W) := ⟨_, rfl⟩
  have BW : Hid (Below w.heap.size w W) := by rw [← HW.out]; exact ((Below.refl _ _).alloc (Nat.le_refl _) _).alloc (by simp) _
  have zW : Hid (W.heap.size = w.heap.size + 2) := by show _ = _; rw [← HW.out]; simp
  have RX : Hid (∀ w', Below (w.heap.size + 2) W w' → (w'.cell? ⟨w.heap.size, 1, none⟩ = some (.int .i64 4) ∧ w'.cell? ⟨w.heap.size, 2, none⟩ = some .nilFunc) ∧ w'.cell? ⟨w.heap.size + 1, 0, none⟩ = some (.int .i64 2) ∧ w'.cell? ⟨w.heap.size + 1, 1, none⟩ = some (.int .i64 0) ∧ w'.cell? ⟨w.heap.size + 1, 2, none⟩ = some (.int .i64 0) ∧ w'.cell? ⟨w.heap.size + 1, 3, none⟩ = some (.int .i64 4)) := by
    rw [← HW.out]
    intro w' h
    have hA := heap_alloc_new w (.cells #[.int .i64 1, .int .i64 4, .nilFunc] 27)
    have hB := heap_alloc_new (w.alloc (.cells #[.int .i64 1, .int .i64 4, .nilFunc] 27)) (.cells #[.int .i64 2, .int .i64 0, .int .i64 0, .int .i64 4] 29)
    rw [show (w.alloc (.cells #[.int .i64 1, .int .i64 4, .nilFunc] 27)).heap.size = w.heap.size + 1 by simp] at hB
    have BB : Below (w.heap.size + 1) (w.alloc (.cells #[.int .i64 1, .int .i64 4, .nilFunc] 27)) ((w.alloc (.cells #[.int .i64 1, .int .i64 4, .nilFunc] 27)).alloc (.cells #[.int .i64 2, .int .i64 0, .int .i64 0, .int .i64 4] 29)) := (Below.refl _ _).alloc (by simp) _
    have hA2 := (h.block w.heap.size (by omega)).trans ((BB.block w.heap.size (by omega)).trans hA)
    have hB2 := (h.block (w.heap.size + 1) (by omega)).trans hB
    exact ⟨⟨by rw [cell_of_row _ _ 1 _ _ _ hA2]; rfl, by rw [cell_of_row _ _ 2 _ _ _ hA2]; rfl⟩, by rw [cell_of_row _ _ 0 _ _ _ hB2]; rfl, by rw [cell_of_row _ _ 1 _ _ _ hB2]; rfl, by rw [cell_of_row _ _ 2 _ _ _ hB2]; rfl, by rw [cell_of_row _ _ 3 _ _ _ hB2]; rfl⟩
  obtain ⟨⟨r1, r2⟩, k0, k1, k2, k3⟩ := RX.out W (Below.refl _ _)
  go_enter Tryz.func4, Tryz.ntmps4
  go_wp2_with fail
  rw [HW.out]
  go_wp2_with fail
  refine (C1.out _).mono ?_
  rintro e w1 ⟨rfl, hb⟩
  have B0 : Hid (Below (w.heap.size + 2) W w1) := hb.mono (by have := zW.out; omega)
  have B1 : Hid (Below w.heap.size w w1) := BW.out.trans (B0.out.mono (by omega))
  clear hb r1 r2 k0 k1 k2 k3
  obtain ⟨⟨r1, r2⟩, k0, k1, k2, k3⟩ := RX.out w1 B0.out
  have q1 := eqFn
  go_wp2_with fail
  refine (C2.out _).mono ?_
  rintro e w2 ⟨rfl, rfl⟩
  go_wp2
  go_ret2
  exact ⟨rfl, B1.out⟩
theorem heightC2 (w : World) : Calls Tryz.prog 11 #[.int .i64 2] w fun e w' => e = .returned (.bool true) ∧ w' = w := highC 2 w
theorem client1 (w : World) : Calls Tryz.prog 5 #[.agg #[.int .i64 2, .int .i64 1, .int .i64 4, .string ⟨#[]⟩, .nilFunc]] w fun e w' => e = .returned (.tuple #[.agg #[.int .i64 0, .int .i64 0, .nilFunc], .int .i64 10]) ∧ Below w.heap.size w w' := by
  have C1 : Hid (∀ w, Calls _ _ _ _ _) := heightC2
  have C2 : Hid (∀ w, Calls Tryz.prog 8 #[.int .i64 4] w fun e w' => e = .returned (.bool true) ∧ w' = w) := fun w => sizeC 4 w
  have hb : ∀ W, (Instr.build 27 #[]).run Tryz.prog W = .ok (.agg #[.int .i64 0, .int .i64 0, .nilFunc]) W := fun W => by kernel_rfl
  have q2 := eqFm
  go_enter Tryz.func5, Tryz.ntmps5
  go_wp2_with (first | (go_at_call 11; refine (C1.out _).mono ?_; rintro e w1 ⟨rfl, rfl⟩) | (go_at_call 8; refine (C2.out _).mono ?_; rintro e w1 ⟨rfl, rfl⟩))
  refine bodyPost_ret (v := .tuple #[.agg #[.int .i64 0, .int .i64 0, .nilFunc], .int .i64 10]) (by simp [results, Tryz.results5, go_sem]) rfl ⟨rfl, ?_⟩
  exact ((Below.refl _ _).alloc (Nat.le_refl _) _).alloc (by simp) _
theorem build1 (W : World) : (Instr.build 27 #[(0, .int .i64 1), (1, .int .i64 4)]).run Tryz.prog W = .ok (.agg #[.int .i64 1, .int .i64 4, .nilFunc]) W := by kernel_rfl
theorem build2 (W : World) : (Instr.build 29 #[(0, .int .i64 2), (3, .int .i64 4)]).run Tryz.prog W = .ok (.agg #[.int .i64 2, .int .i64 0, .int .i64 0, .int .i64 4]) W := by kernel_rfl
theorem build3 (W : World) : (Instr.build 32 #[(0, .int .i64 2), (1, .int .i64 1), (2, .int .i64 4)]).run Tryz.prog W = .ok (.agg #[.int .i64 2, .int .i64 1, .int .i64 4, .string ⟨#[]⟩, .nilFunc]) W := by kernel_rfl
theorem law_names (w : World) :
    Calls Tryz.prog 3 #[] w fun e w' => e = .returned (.bool true) ∧ Below w.heap.size w w' := by
  have C1 : Hid (∀ w, Calls _ _ _ _ _) := serve1
  have C2 : Hid (∀ w, Calls _ _ _ _ _) := client1
  have C3 : Hid (∀ n w, Calls _ _ _ _ _) := numC
  have b1 := build1
  have b2 := build2
  have b3 := build3
  have q1 := eqFn
  go_enter Tryz.func3, Tryz.ntmps3
  go_wp2_with fail
  refine (C1.out _).mono ?_
  rintro e w1 ⟨rfl, hb⟩
  have B1 : Hid (Below w.heap.size w w1) := hb
  clear hb
  go_wp2_with fail
  refine (C2.out _).mono ?_
  rintro e w2 ⟨rfl, hb⟩
  have B2 : Hid (Below w.heap.size w w2) := (B1.out.alloc B1.out.size _).trans (hb.mono (by have := B1.out.size; simp; omega))
  clear hb
  go_wp2_with (go_at_call 6; refine (C3.out _ _).mono ?_; rintro e w1 ⟨rfl, rfl⟩)
  go_ret
  exact ⟨rfl, B2.out.alloc B2.out.size _⟩
end Go.Proofs.YtfpkjmhhddmhnaaGreatDoor.b1
