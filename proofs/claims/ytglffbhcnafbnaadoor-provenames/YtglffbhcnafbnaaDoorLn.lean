import Derived.Test.YtglffbhcnafbnaaDoorBh
import Derived.Test.YtglffbhcnafbnaaDoorBn
import Derived.Laws.EntriesVeiled
namespace Go.Proofs.YtglffbhcnafbnaaDoor.ln
open Go.RowKit Go.PlainAid
open Go.Proofs.YtglffbhcnafbnaaDoor.cp Go.Proofs.YtglffbhcnafbnaaDoor.bh Go.Proofs.YtglffbhcnafbnaaDoor.bn
set_option linter.unusedVariables false

theorem check0 (n : Int) (w : World) : Calls Tryd.prog 30 #[.agg #[.int .i64 4, .int .i64 5, .nilFunc], .int .i64 n] w fun e w' => e = .returned (.int .i64 10) ∧ Below w.heap.size w w' := by
  have B0 : Hid (Below w.heap.size w (w.alloc (.cells #[.int .i64 4, .int .i64 5, .nilFunc] 24))) := (Below.refl _ _).alloc (Nat.le_refl _) _
  have qf := eqFn
  go_enter Tryd.func30, Tryd.ntmps30
  go_wp2
  go_ret
  exact ⟨rfl, B0.out⟩
theorem root0 (w : World) : Calls Tryd.prog 9 #[.agg #[.int .i64 4, .int .i64 5, .nilFunc], .int .i64 9] w fun e w' => e = .returned (.tuple #[.string ⟨#[]⟩, .int .i64 10]) ∧ Below w.heap.size w w' := by
  have B0 : Hid (Below w.heap.size w (w.alloc (.cells #[.int .i64 4, .int .i64 5, .nilFunc] 24))) := (Below.refl _ _).alloc (Nat.le_refl _) _
  have CC : Hid (∀ w, Calls _ _ _ _ _) := fun w => check0 9 w
  go_enter Tryd.func9, Tryd.ntmps9
  go_wp2_with fail
  refine (CC.out _).mono ?_
  rintro e w1 ⟨rfl, hb⟩
  have B1 : Hid (Below w.heap.size w w1) := over B0.out hb
  clear hb
  go_wp2
  go_ret2
  exact ⟨rfl, B1.out⟩
theorem incl0 (w : World) : Calls Tryd.prog 10 #[.agg #[.int .i64 4, .int .i64 5, .nilFunc], .int .i64 9, .int .i64 9] w fun e w' => e = .returned (.tuple #[.slice none 0 0, .int .i64 10]) ∧ Below w.heap.size w w' := by
  have B0 : Hid (Below w.heap.size w ((w.alloc (.cells #[.int .i64 4, .int .i64 5, .nilFunc] 24)).alloc (.cells #[.int .i64 9] 3))) := ((Below.refl _ _).alloc (Nat.le_refl _) _).alloc (by simp) _
  have CC : Hid (∀ w, Calls _ _ _ _ _) := fun w => check0 9 w
  go_enter Tryd.func10, Tryd.ntmps10
  go_wp2_with fail
  refine (CC.out _).mono ?_
  rintro e w1 ⟨rfl, hb⟩
  have B1 : Hid (Below w.heap.size w w1) := over B0.out hb
  clear hb
  go_wp2
  go_ret2
  exact ⟨rfl, B1.out⟩
theorem cons0 (w : World) : Calls Tryd.prog 11 #[.agg #[.int .i64 4, .int .i64 5, .nilFunc], .int .i64 9, .int .i64 9] w fun e w' => e = .returned (.tuple #[.slice none 0 0, .int .i64 10]) ∧ Below w.heap.size w w' := by
  have B0 : Hid (Below w.heap.size w ((w.alloc (.cells #[.int .i64 4, .int .i64 5, .nilFunc] 24)).alloc (.cells #[.int .i64 9] 3))) := ((Below.refl _ _).alloc (Nat.le_refl _) _).alloc (by simp) _
  have CC : Hid (∀ w, Calls _ _ _ _ _) := fun w => check0 9 w
  go_enter Tryd.func11, Tryd.ntmps11
  go_wp2_with fail
  refine (CC.out _).mono ?_
  rintro e w1 ⟨rfl, hb⟩
  have B1 : Hid (Below w.heap.size w w1) := over B0.out hb
  clear hb
  go_wp2
  go_ret2
  exact ⟨rfl, B1.out⟩
theorem range0 (w : World) : Calls Tryd.prog 12 #[.agg #[.int .i64 4, .int .i64 5, .nilFunc], .int .i64 3, .int .i64 2, .int .i64 9] w fun e w' => e = .returned (.tuple #[.slice none 0 0, .int .i64 10]) ∧ Below w.heap.size w w' := by
  have B0 : Hid (Below w.heap.size w (((w.alloc (.cells #[.int .i64 4, .int .i64 5, .nilFunc] 24)).alloc (.cells #[.int .i64 3] 3)).alloc (.cells #[.int .i64 2] 3))) := (((Below.refl _ _).alloc (Nat.le_refl _) _).alloc (by simp) _).alloc (by simp; omega) _
  have CC : Hid (∀ w, Calls _ _ _ _ _) := fun w => check0 9 w
  go_enter Tryd.func12, Tryd.ntmps12
  go_wp2_with fail
  refine (CC.out _).mono ?_
  rintro e w1 ⟨rfl, hb⟩
  have B1 : Hid (Below w.heap.size w w1) := over B0.out hb
  clear hb
  go_wp2
  go_ret2
  exact ⟨rfl, B1.out⟩
theorem multi0 (w : World) : Calls Tryd.prog 13 #[.agg #[.int .i64 4, .int .i64 5, .nilFunc], .slice none 0 0, .int .i64 9] w fun e w' => e = .returned (.tuple #[.slice none 0 0, .int .i64 10]) ∧ Below w.heap.size w w' := by
  have B0 : Hid (Below w.heap.size w (w.alloc (.cells #[.int .i64 4, .int .i64 5, .nilFunc] 24))) := (Below.refl _ _).alloc (Nat.le_refl _) _
  have CC : Hid (∀ w, Calls _ _ _ _ _) := fun w => check0 9 w
  go_enter Tryd.func13, Tryd.ntmps13
  go_wp2_with fail
  refine (CC.out _).mono ?_
  rintro e w1 ⟨rfl, hb⟩
  have B1 : Hid (Below w.heap.size w w1) := over B0.out hb
  clear hb
  go_wp2
  go_ret2
  exact ⟨rfl, B1.out⟩
theorem box3 (w : World) : (w.alloc (.cells #[.int .i64 4, .int .i64 5, .nilFunc] 24)).cell? ⟨w.heap.size, 0, none⟩ = some (.int .i64 4) ∧ (w.alloc (.cells #[.int .i64 4, .int .i64 5, .nilFunc] 24)).cell? ⟨w.heap.size, 1, none⟩ = some (.int .i64 5) ∧ (w.alloc (.cells #[.int .i64 4, .int .i64 5, .nilFunc] 24)).cell? ⟨w.heap.size, 2, none⟩ = some .nilFunc := by
  refine ⟨?_, ?_, ?_⟩ <;> (rw [World.cell?_alloc_at _ _ _ _ rfl]; rfl)
set_option maxHeartbeats 1600000 in
theorem names (w : World) : Calls Tryd.prog 3 #[] w fun e w' => e = .returned (.bool true) ∧ Below w.heap.size w w' := by
  have B0 : Hid (Below w.heap.size w (w.alloc (.cells #[.int .i64 4, .int .i64 5, .nilFunc] 24))) := (Below.refl _ _).alloc (Nat.le_refl _) _
  have X0 : Hid (_ ∧ _ ∧ _) := box3 w
  have R : Hid (∀ w, Calls _ _ _ _ _) := root0
  have I : Hid (∀ w, Calls _ _ _ _ _) := incl0
  have C : Hid (∀ w, Calls _ _ _ _ _) := cons0
  have G : Hid (∀ w, Calls _ _ _ _ _) := range0
  have M : Hid (∀ w, Calls _ _ _ _ _) := multi0
  have NM : Hid (∀ x w, Calls _ _ _ _ _) := num
  go_enter Tryd.func3, Tryd.ntmps3
  go_wp2_with fail
  refine (R.out _).mono ?_
  rintro e w1 ⟨rfl, hb⟩
  have B1 : Hid (Below (w.alloc (.cells #[.int .i64 4, .int .i64 5, .nilFunc] 24)).heap.size (w.alloc (.cells #[.int .i64 4, .int .i64 5, .nilFunc] 24)) w1) := hb
  have c0 := (B1.out.cell (World.block_lt_of_cell? _ _ X0.out.1)).trans X0.out.1
  have c1 := (B1.out.cell (World.block_lt_of_cell? _ _ X0.out.2.1)).trans X0.out.2.1
  have c2 := (B1.out.cell (World.block_lt_of_cell? _ _ X0.out.2.2)).trans X0.out.2.2
  clear hb
  go_wp2_with fail
  refine (I.out _).mono ?_
  rintro e w2 ⟨rfl, hb⟩
  have B2 : Hid (Below (w.alloc (.cells #[.int .i64 4, .int .i64 5, .nilFunc] 24)).heap.size (w.alloc (.cells #[.int .i64 4, .int .i64 5, .nilFunc] 24)) w2) := over B1.out hb
  clear hb c0 c1 c2 B1
  have c0 := (B2.out.cell (World.block_lt_of_cell? _ _ X0.out.1)).trans X0.out.1
  have c1 := (B2.out.cell (World.block_lt_of_cell? _ _ X0.out.2.1)).trans X0.out.2.1
  have c2 := (B2.out.cell (World.block_lt_of_cell? _ _ X0.out.2.2)).trans X0.out.2.2
  go_wp2_with fail
  refine (C.out _).mono ?_
  rintro e w3 ⟨rfl, hb⟩
  have B3 : Hid (Below (w.alloc (.cells #[.int .i64 4, .int .i64 5, .nilFunc] 24)).heap.size (w.alloc (.cells #[.int .i64 4, .int .i64 5, .nilFunc] 24)) w3) := over B2.out hb
  clear hb c0 c1 c2 B2
  have c0 := (B3.out.cell (World.block_lt_of_cell? _ _ X0.out.1)).trans X0.out.1
  have c1 := (B3.out.cell (World.block_lt_of_cell? _ _ X0.out.2.1)).trans X0.out.2.1
  have c2 := (B3.out.cell (World.block_lt_of_cell? _ _ X0.out.2.2)).trans X0.out.2.2
  go_wp2_with fail
  refine (G.out _).mono ?_
  rintro e w4 ⟨rfl, hb⟩
  have B4 : Hid (Below (w.alloc (.cells #[.int .i64 4, .int .i64 5, .nilFunc] 24)).heap.size (w.alloc (.cells #[.int .i64 4, .int .i64 5, .nilFunc] 24)) w4) := over B3.out hb
  clear hb c0 c1 c2 B3
  have c0 := (B4.out.cell (World.block_lt_of_cell? _ _ X0.out.1)).trans X0.out.1
  have c1 := (B4.out.cell (World.block_lt_of_cell? _ _ X0.out.2.1)).trans X0.out.2.1
  have c2 := (B4.out.cell (World.block_lt_of_cell? _ _ X0.out.2.2)).trans X0.out.2.2
  go_wp2_with fail
  refine (M.out _).mono ?_
  rintro e w5 ⟨rfl, hb⟩
  have B5 : Hid (Below w.heap.size w w5) := over B0.out (over B4.out hb)
  clear hb c0 c1 c2 B4
  go_wp2_with fail
  refine (NM.out _ _).mono ?_
  rintro e w6 ⟨rfl, hw⟩
  subst hw
  go_wp2_with fail
  refine (NM.out _ _).mono ?_
  rintro e w7 ⟨rfl, hw⟩
  subst hw
  go_wp2_with fail
  refine (NM.out _ _).mono ?_
  rintro e w8 ⟨rfl, hw⟩
  subst hw
  go_wp2_with fail
  refine (NM.out _ _).mono ?_
  rintro e w9 ⟨rfl, hw⟩
  subst hw
  go_wp2_with fail
  refine (NM.out _ _).mono ?_
  rintro e wA ⟨rfl, hw⟩
  subst hw
  go_wp2
  go_ret
  exact ⟨rfl, B5.out⟩
end Go.Proofs.YtglffbhcnafbnaaDoor.ln
