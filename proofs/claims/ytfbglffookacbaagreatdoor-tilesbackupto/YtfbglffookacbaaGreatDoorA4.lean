import Derived.Deep.RegionHeldLaw
import Derived.Deep.RegionHeld3
import Derived.Deep.QuietTactic
import Derived.BigQuiet
import Derived.Test.YtfbglffookacbaaGreatDoorA2
namespace Go.Proofs.YtfbglffookacbaaGreatDoor.a4
open Go.RowKit Go.PlainAid Go.Shelf
open Go.Proofs.YtfbglffookacbaaGreatDoor.tc Go.Proofs.YtfbglffookacbaaGreatDoor.wa Go.Proofs.YtfbglffookacbaaGreatDoor.ca Go.Proofs.YtfbglffookacbaaGreatDoor.cp Go.Proofs.YtfbglffookacbaaGreatDoor.a1 Go.Proofs.YtfbglffookacbaaGreatDoor.a2
set_option linter.unusedVariables false
set_option maxRecDepth 4000

theorem fullI (h : Int) (h0 : 0 ≤ h) (h1 : h ≤ 62) (w : World) : Calls Tryz.prog 14 #[.int .i64 h] w fun e w' => e = .returned (.int .i64 (2 ^ h.toNat)) ∧ w' = w := by
  have := fullC h.toNat (by omega) w
  rw [show ((h.toNat : Nat) : Int) = h by omega] at this
  rw [show ((2 ^ h.toNat : Nat) : Int) = (2 : Int) ^ h.toNat by rw [Int.natCast_pow]; rfl] at this
  exact this
theorem pow8 (h : Int) (h0 : 1 ≤ h) (h1 : h ≤ 8) : (2 : Int) ≤ 2 ^ h.toNat ∧ (2 : Int) ^ h.toNat ≤ 256 := by
  have : h = 1 ∨ h = 2 ∨ h = 3 ∨ h = 4 ∨ h = 5 ∨ h = 6 ∨ h = 7 ∨ h = 8 := by omega
  rcases this with rfl | rfl | rfl | rfl | rfl | rfl | rfl | rfl <;> decide
theorem powS (s : Nat) (h : s ≤ 62) : (1 : Int) ≤ 2 ^ s ∧ (2 : Int) ^ s ≤ 4611686018427387904 := by
  have h1 := p2 s
  have h2 := p2le h
  rw [p62] at h2
  rw [cast_pow]
  omega
theorem level_le {h l : Int} (h0 : 1 ≤ h) (h1 : h ≤ 8) : (62 / h < l) ↔ 62 < l * h := by
  rw [Int.ediv_lt_iff_lt_mul (by omega)]
-- the place behind the last leaf
def endT (h l i c : Int) : Int := if Goes h l i c then (i * 2 ^ h.toNat + c) * 2 ^ (l * h).toNat else 0
set_option maxHeartbeats 3200000 in
theorem ends_h (h l i c : Int) (zh : i64 h) (zl : i64 l) (zi : i64 i) (zc : i64 c) (g : ¬ (1 ≤ h ∧ h ≤ 8)) (w : World) :
    Calls Tryz.prog 10 #[.agg #[.int .i64 h, .int .i64 l, .int .i64 i, .int .i64 c]] w fun e w' => e = .returned (.tuple #[.int .i64 (endT h l i c), .bool (decide (Goes h l i c))]) ∧ Below w.heap.size w w' := by
  obtain ⟨W, HW⟩ : ∃ W, Hid (w.alloc (.cells #[.int .i64 h, .int .i64 l, .int .i64 i, .int .i64 c] 23) = W) := ⟨_, rfl⟩
  have BW : Hid (Below w.heap.size w W) := by rw [← HW.out]; exact (Below.refl _ _).alloc (Nat.le_refl _) _
  obtain ⟨k0, k1, k2, k3⟩ := box4 w W _ _ _ _ _ (by rw [← HW.out]; exact Below.refl _ _)
  obtain ⟨l1, l2⟩ := zl
  obtain ⟨h1, h2⟩ := zh
  obtain ⟨i1, i2⟩ := zi
  obtain ⟨c1, c2⟩ := zc
  have HG : Hid (decide (Goes h l i c) = false) := decide_eq_false (fun x => g ⟨x.1, x.2.1⟩)
  have HE : Hid (endT h l i c = 0) := by unfold endT; exact if_neg (of_decide_eq_false HG.out)
  rw [HG.out, HE.out]
  have C1 : Hid (∀ w, Calls _ _ _ _ _) := fun w => highC h w
  have dd : (decide (1 ≤ h) && decide (h ≤ 8)) = false := by
    cases e : (decide (1 ≤ h) && decide (h ≤ 8))
    · rfl
    · rw [Bool.and_eq_true, decide_eq_true_iff, decide_eq_true_iff] at e; exact absurd e g
  rw [dd] at C1
  clear dd g
  go_enter Tryz.func10, Tryz.ntmps10
  go_wp2_with fail
  rw [HW.out]
  go_quiet ((go_at_call 18; exact Calls.quiet_of_same (C1.out _)))
  go_wp2
  go_ret2
  exact ⟨rfl, by first | exact BZ.out | exact below_dN BY.out _ | exact below_dN BX.out _ | exact below_dN BW.out _⟩
set_option maxHeartbeats 3200000 in
theorem ends_l (h l i c : Int) (zh : i64 h) (zl : i64 l) (zi : i64 i) (zc : i64 c) (g1 : 1 ≤ h) (g2 : h ≤ 8) (g : l < 0) (w : World) :
    Calls Tryz.prog 10 #[.agg #[.int .i64 h, .int .i64 l, .int .i64 i, .int .i64 c]] w fun e w' => e = .returned (.tuple #[.int .i64 (endT h l i c), .bool (decide (Goes h l i c))]) ∧ Below w.heap.size w w' := by
  obtain ⟨W, HW⟩ : ∃ W, Hid (w.alloc (.cells #[.int .i64 h, .int .i64 l, .int .i64 i, .int .i64 c] 23) = W) := ⟨_, rfl⟩
  have BW : Hid (Below w.heap.size w W) := by rw [← HW.out]; exact (Below.refl _ _).alloc (Nat.le_refl _) _
  obtain ⟨k0, k1, k2, k3⟩ := box4 w W _ _ _ _ _ (by rw [← HW.out]; exact Below.refl _ _)
  obtain ⟨l1, l2⟩ := zl
  obtain ⟨h1, h2⟩ := zh
  obtain ⟨i1, i2⟩ := zi
  obtain ⟨c1, c2⟩ := zc
  have HG : Hid (decide (Goes h l i c) = false) := decide_eq_false (fun x => by have := x.2.2.1; omega)
  have HE : Hid (endT h l i c = 0) := by unfold endT; exact if_neg (of_decide_eq_false HG.out)
  rw [HG.out, HE.out]
  have C1 : Hid (∀ w, Calls _ _ _ _ _) := fun w => highC h w
  have dd : (decide (1 ≤ h) && decide (h ≤ 8)) = true := by rw [decide_eq_true g1, decide_eq_true g2]; rfl
  rw [dd] at C1
  have hn : (h != 0) = true := by rw [bne_iff_ne]; omega
  have hz : ¬ h = 0 := by omega
  have hb : (h == 0) = false := beq_eq_false_iff_ne.2 hz
  have hq0 : 0 ≤ 62 / h := Int.ediv_nonneg (by omega) (by omega)
  have hq1 : 62 / h ≤ 62 := Int.ediv_le_self _ (by omega)
  have ht : IntKind.i64.wrap (Int.tdiv 62 h) = 62 / h := by rw [Int.tdiv_eq_ediv_of_nonneg (by omega), IntKind.wrap_i64]; omega
  have d1 : decide (l < 0) = true := decide_eq_true g
  clear g g1 g2 dd
  go_enter Tryz.func10, Tryz.ntmps10
  go_wp2_with fail
  rw [HW.out]
  go_quiet ((go_at_call 18; exact Calls.quiet_of_same (C1.out _)))
  go_wp2
  go_ret2
  exact ⟨rfl, by first | exact BZ.out | exact below_dN BY.out _ | exact below_dN BX.out _ | exact below_dN BW.out _⟩
set_option maxHeartbeats 3200000 in
theorem ends_L (h l i c : Int) (zh : i64 h) (zl : i64 l) (zi : i64 i) (zc : i64 c) (g1 : 1 ≤ h) (g2 : h ≤ 8) (g3 : ¬ l < 0) (g : 62 / h < l) (w : World) :
    Calls Tryz.prog 10 #[.agg #[.int .i64 h, .int .i64 l, .int .i64 i, .int .i64 c]] w fun e w' => e = .returned (.tuple #[.int .i64 (endT h l i c), .bool (decide (Goes h l i c))]) ∧ Below w.heap.size w w' := by
  obtain ⟨W, HW⟩ : ∃ W, Hid (w.alloc (.cells #[.int .i64 h, .int .i64 l, .int .i64 i, .int .i64 c] 23) = W) := ⟨_, rfl⟩
  have BW : Hid (Below w.heap.size w W) := by rw [← HW.out]; exact (Below.refl _ _).alloc (Nat.le_refl _) _
  obtain ⟨k0, k1, k2, k3⟩ := box4 w W _ _ _ _ _ (by rw [← HW.out]; exact Below.refl _ _)
  obtain ⟨l1, l2⟩ := zl
  obtain ⟨h1, h2⟩ := zh
  obtain ⟨i1, i2⟩ := zi
  obtain ⟨c1, c2⟩ := zc
  have HG : Hid (decide (Goes h l i c) = false) := decide_eq_false (fun x => by have := x.2.2.2.1; have := (level_le g1 g2).1 g; omega)
  have HE : Hid (endT h l i c = 0) := by unfold endT; exact if_neg (of_decide_eq_false HG.out)
  rw [HG.out, HE.out]
  have C1 : Hid (∀ w, Calls _ _ _ _ _) := fun w => highC h w
  have dd : (decide (1 ≤ h) && decide (h ≤ 8)) = true := by rw [decide_eq_true g1, decide_eq_true g2]; rfl
  rw [dd] at C1
  have hn : (h != 0) = true := by rw [bne_iff_ne]; omega
  have hz : ¬ h = 0 := by omega
  have hb : (h == 0) = false := beq_eq_false_iff_ne.2 hz
  have hq0 : 0 ≤ 62 / h := Int.ediv_nonneg (by omega) (by omega)
  have hq1 : 62 / h ≤ 62 := Int.ediv_le_self _ (by omega)
  have ht : IntKind.i64.wrap (Int.tdiv 62 h) = 62 / h := by rw [Int.tdiv_eq_ediv_of_nonneg (by omega), IntKind.wrap_i64]; omega
  have d1 : decide (l < 0) = false := decide_eq_false g3
  have d2 : decide (62 / h < l) = true := decide_eq_true g
  clear g g1 g2 g3 dd
  go_enter Tryz.func10, Tryz.ntmps10
  go_wp2_with fail
  rw [HW.out]
  go_quiet ((go_at_call 18; exact Calls.quiet_of_same (C1.out _)))
  go_wp2
  go_ret2
  exact ⟨rfl, by first | exact BZ.out | exact below_dN BY.out _ | exact below_dN BX.out _ | exact below_dN BW.out _⟩
set_option maxHeartbeats 3200000 in
theorem ends_c (h l i c : Int) (zh : i64 h) (zl : i64 l) (zi : i64 i) (zc : i64 c) (g1 : 1 ≤ h) (g2 : h ≤ 8) (g3 : ¬ l < 0) (g4 : ¬ 62 / h < l) (g : c < 1) (w : World) :
    Calls Tryz.prog 10 #[.agg #[.int .i64 h, .int .i64 l, .int .i64 i, .int .i64 c]] w fun e w' => e = .returned (.tuple #[.int .i64 (endT h l i c), .bool (decide (Goes h l i c))]) ∧ Below w.heap.size w w' := by
  obtain ⟨W, HW⟩ : ∃ W, Hid (w.alloc (.cells #[.int .i64 h, .int .i64 l, .int .i64 i, .int .i64 c] 23) = W) := ⟨_, rfl⟩
  have BW : Hid (Below w.heap.size w W) := by rw [← HW.out]; exact (Below.refl _ _).alloc (Nat.le_refl _) _
  obtain ⟨k0, k1, k2, k3⟩ := box4 w W _ _ _ _ _ (by rw [← HW.out]; exact Below.refl _ _)
  obtain ⟨l1, l2⟩ := zl
  obtain ⟨h1, h2⟩ := zh
  obtain ⟨i1, i2⟩ := zi
  obtain ⟨c1, c2⟩ := zc
  have HG : Hid (decide (Goes h l i c) = false) := decide_eq_false (fun x => by have := x.2.2.2.2.2.1; omega)
  have HE : Hid (endT h l i c = 0) := by unfold endT; exact if_neg (of_decide_eq_false HG.out)
  rw [HG.out, HE.out]
  have C1 : Hid (∀ w, Calls _ _ _ _ _) := fun w => highC h w
  have dd : (decide (1 ≤ h) && decide (h ≤ 8)) = true := by rw [decide_eq_true g1, decide_eq_true g2]; rfl
  rw [dd] at C1
  have hn : (h != 0) = true := by rw [bne_iff_ne]; omega
  have hz : ¬ h = 0 := by omega
  have hb : (h == 0) = false := beq_eq_false_iff_ne.2 hz
  have hq0 : 0 ≤ 62 / h := Int.ediv_nonneg (by omega) (by omega)
  have hq1 : 62 / h ≤ 62 := Int.ediv_le_self _ (by omega)
  have ht : IntKind.i64.wrap (Int.tdiv 62 h) = 62 / h := by rw [Int.tdiv_eq_ediv_of_nonneg (by omega), IntKind.wrap_i64]; omega
  have d1 : decide (l < 0) = false := decide_eq_false g3
  have d2 : decide (62 / h < l) = false := decide_eq_false g4
  have C2 : Hid (∀ w, Calls _ _ _ _ _) := fun w => fullI h (by omega) (by omega) w
  obtain ⟨f0, f1⟩ := pow8 h g1 g2
  have d3 : decide (c < 1) = true := decide_eq_true g
  generalize (2 : Int) ^ h.toNat = F at *
  clear g g1 g2 g3 g4 dd
  go_enter Tryz.func10, Tryz.ntmps10
  go_wp2_with fail
  rw [HW.out]
  go_quiet ((go_at_call 18; exact Calls.quiet_of_same (C1.out _)))
  obtain ⟨X, HX⟩ : ∃ V, Hid (W.drewN nq = V) := ⟨_, rfl⟩
  rw [HX.out]
  have m0 : X.cell? ⟨w.heap.size, 0, none⟩ = some (.int .i64 h) := by rw [← HX.out]; exact k0
  have m1 : X.cell? ⟨w.heap.size, 1, none⟩ = some (.int .i64 l) := by rw [← HX.out]; exact k1
  have m2 : X.cell? ⟨w.heap.size, 2, none⟩ = some (.int .i64 i) := by rw [← HX.out]; exact k2
  have m3 : X.cell? ⟨w.heap.size, 3, none⟩ = some (.int .i64 c) := by rw [← HX.out]; exact k3
  have BX : Hid (Below w.heap.size w X) := by rw [← HX.out]; exact below_dN BW.out _
  clear k0 k1 k2 k3
  go_wp2_with fail
  go_quiet ((go_at_call 14; exact Calls.quiet_of_same (C2.out _)))
  go_wp2
  go_ret2
  exact ⟨rfl, by first | exact BZ.out | exact below_dN BY.out _ | exact below_dN BX.out _ | exact below_dN BW.out _⟩
set_option maxHeartbeats 3200000 in
theorem ends_C (h l i c : Int) (zh : i64 h) (zl : i64 l) (zi : i64 i) (zc : i64 c) (g1 : 1 ≤ h) (g2 : h ≤ 8) (g3 : ¬ l < 0) (g4 : ¬ 62 / h < l) (g5 : ¬ c < 1) (g : 2 ^ h.toNat < c) (w : World) :
    Calls Tryz.prog 10 #[.agg #[.int .i64 h, .int .i64 l, .int .i64 i, .int .i64 c]] w fun e w' => e = .returned (.tuple #[.int .i64 (endT h l i c), .bool (decide (Goes h l i c))]) ∧ Below w.heap.size w w' := by
  obtain ⟨W, HW⟩ : ∃ W, Hid (w.alloc (.cells #[.int .i64 h, .int .i64 l, .int .i64 i, .int .i64 c] 23) = W) := ⟨_, rfl⟩
  have BW : Hid (Below w.heap.size w W) := by rw [← HW.out]; exact (Below.refl _ _).alloc (Nat.le_refl _) _
  obtain ⟨k0, k1, k2, k3⟩ := box4 w W _ _ _ _ _ (by rw [← HW.out]; exact Below.refl _ _)
  obtain ⟨l1, l2⟩ := zl
  obtain ⟨h1, h2⟩ := zh
  obtain ⟨i1, i2⟩ := zi
  obtain ⟨c1, c2⟩ := zc
  have HG : Hid (decide (Goes h l i c) = false) := decide_eq_false (fun x => by have := x.2.2.2.2.2.2.1; omega)
  have HE : Hid (endT h l i c = 0) := by unfold endT; exact if_neg (of_decide_eq_false HG.out)
  rw [HG.out, HE.out]
  have C1 : Hid (∀ w, Calls _ _ _ _ _) := fun w => highC h w
  have dd : (decide (1 ≤ h) && decide (h ≤ 8)) = true := by rw [decide_eq_true g1, decide_eq_true g2]; rfl
  rw [dd] at C1
  have hn : (h != 0) = true := by rw [bne_iff_ne]; omega
  have hz : ¬ h = 0 := by omega
  have hb : (h == 0) = false := beq_eq_false_iff_ne.2 hz
  have hq0 : 0 ≤ 62 / h := Int.ediv_nonneg (by omega) (by omega)
  have hq1 : 62 / h ≤ 62 := Int.ediv_le_self _ (by omega)
  have ht : IntKind.i64.wrap (Int.tdiv 62 h) = 62 / h := by rw [Int.tdiv_eq_ediv_of_nonneg (by omega), IntKind.wrap_i64]; omega
  have d1 : decide (l < 0) = false := decide_eq_false g3
  have d2 : decide (62 / h < l) = false := decide_eq_false g4
  have C2 : Hid (∀ w, Calls _ _ _ _ _) := fun w => fullI h (by omega) (by omega) w
  obtain ⟨f0, f1⟩ := pow8 h g1 g2
  have d3 : decide (c < 1) = false := decide_eq_false g5
  generalize (2 : Int) ^ h.toNat = F at *
  have d4 : decide (F < c) = true := decide_eq_true g
  clear g g1 g2 g3 g4 g5 dd
  go_enter Tryz.func10, Tryz.ntmps10
  go_wp2_with fail
  rw [HW.out]
  go_quiet ((go_at_call 18; exact Calls.quiet_of_same (C1.out _)))
  obtain ⟨X, HX⟩ : ∃ V, Hid (W.drewN nq = V) := ⟨_, rfl⟩
  rw [HX.out]
  have m0 : X.cell? ⟨w.heap.size, 0, none⟩ = some (.int .i64 h) := by rw [← HX.out]; exact k0
  have m1 : X.cell? ⟨w.heap.size, 1, none⟩ = some (.int .i64 l) := by rw [← HX.out]; exact k1
  have m2 : X.cell? ⟨w.heap.size, 2, none⟩ = some (.int .i64 i) := by rw [← HX.out]; exact k2
  have m3 : X.cell? ⟨w.heap.size, 3, none⟩ = some (.int .i64 c) := by rw [← HX.out]; exact k3
  have BX : Hid (Below w.heap.size w X) := by rw [← HX.out]; exact below_dN BW.out _
  clear k0 k1 k2 k3
  go_wp2_with fail
  go_quiet ((go_at_call 14; exact Calls.quiet_of_same (C2.out _)))
  go_wp2
  go_ret2
  exact ⟨rfl, by first | exact BZ.out | exact below_dN BY.out _ | exact below_dN BX.out _ | exact below_dN BW.out _⟩
set_option maxHeartbeats 3200000 in
theorem ends_i (h l i c : Int) (zh : i64 h) (zl : i64 l) (zi : i64 i) (zc : i64 c) (g1 : 1 ≤ h) (g2 : h ≤ 8) (g3 : ¬ l < 0) (g4 : ¬ 62 / h < l) (g5 : ¬ c < 1) (g6 : ¬ 2 ^ h.toNat < c) (g : i < 0) (w : World) :
    Calls Tryz.prog 10 #[.agg #[.int .i64 h, .int .i64 l, .int .i64 i, .int .i64 c]] w fun e w' => e = .returned (.tuple #[.int .i64 (endT h l i c), .bool (decide (Goes h l i c))]) ∧ Below w.heap.size w w' := by
  obtain ⟨W, HW⟩ : ∃ W, Hid (w.alloc (.cells #[.int .i64 h, .int .i64 l, .int .i64 i, .int .i64 c] 23) = W) := ⟨_, rfl⟩
  have BW : Hid (Below w.heap.size w W) := by rw [← HW.out]; exact (Below.refl _ _).alloc (Nat.le_refl _) _
  obtain ⟨k0, k1, k2, k3⟩ := box4 w W _ _ _ _ _ (by rw [← HW.out]; exact Below.refl _ _)
  obtain ⟨l1, l2⟩ := zl
  obtain ⟨h1, h2⟩ := zh
  obtain ⟨i1, i2⟩ := zi
  obtain ⟨c1, c2⟩ := zc
  have HG : Hid (decide (Goes h l i c) = false) := decide_eq_false (fun x => by have := x.2.2.2.2.1; omega)
  have HE : Hid (endT h l i c = 0) := by unfold endT; exact if_neg (of_decide_eq_false HG.out)
  rw [HG.out, HE.out]
  have C1 : Hid (∀ w, Calls _ _ _ _ _) := fun w => highC h w
  have dd : (decide (1 ≤ h) && decide (h ≤ 8)) = true := by rw [decide_eq_true g1, decide_eq_true g2]; rfl
  rw [dd] at C1
  have hn : (h != 0) = true := by rw [bne_iff_ne]; omega
  have hz : ¬ h = 0 := by omega
  have hb : (h == 0) = false := beq_eq_false_iff_ne.2 hz
  have hq0 : 0 ≤ 62 / h := Int.ediv_nonneg (by omega) (by omega)
  have hq1 : 62 / h ≤ 62 := Int.ediv_le_self _ (by omega)
  have ht : IntKind.i64.wrap (Int.tdiv 62 h) = 62 / h := by rw [Int.tdiv_eq_ediv_of_nonneg (by omega), IntKind.wrap_i64]; omega
  have d1 : decide (l < 0) = false := decide_eq_false g3
  have d2 : decide (62 / h < l) = false := decide_eq_false g4
  have C2 : Hid (∀ w, Calls _ _ _ _ _) := fun w => fullI h (by omega) (by omega) w
  obtain ⟨f0, f1⟩ := pow8 h g1 g2
  have d3 : decide (c < 1) = false := decide_eq_false g5
  have C3 : Hid (∀ w, Calls _ _ _ _ _) := fun w => mulI i (2 ^ h.toNat) i1 i2 (by omega) (by omega) w
  rw [if_pos g, if_pos g] at C3
  generalize (2 : Int) ^ h.toNat = F at *
  have d4 : decide (F < c) = false := decide_eq_false g6
  clear g g1 g2 g3 g4 g5 g6 dd
  go_enter Tryz.func10, Tryz.ntmps10
  go_wp2_with fail
  rw [HW.out]
  go_quiet ((go_at_call 18; exact Calls.quiet_of_same (C1.out _)))
  obtain ⟨X, HX⟩ : ∃ V, Hid (W.drewN nq = V) := ⟨_, rfl⟩
  rw [HX.out]
  have m0 : X.cell? ⟨w.heap.size, 0, none⟩ = some (.int .i64 h) := by rw [← HX.out]; exact k0
  have m1 : X.cell? ⟨w.heap.size, 1, none⟩ = some (.int .i64 l) := by rw [← HX.out]; exact k1
  have m2 : X.cell? ⟨w.heap.size, 2, none⟩ = some (.int .i64 i) := by rw [← HX.out]; exact k2
  have m3 : X.cell? ⟨w.heap.size, 3, none⟩ = some (.int .i64 c) := by rw [← HX.out]; exact k3
  have BX : Hid (Below w.heap.size w X) := by rw [← HX.out]; exact below_dN BW.out _
  clear k0 k1 k2 k3
  go_wp2_with fail
  go_quiet ((go_at_call 14; exact Calls.quiet_of_same (C2.out _)))
  obtain ⟨Y, HY⟩ : ∃ V, Hid (X.drewN nq = V) := ⟨_, rfl⟩
  rw [HY.out]
  have n0 : Y.cell? ⟨w.heap.size, 0, none⟩ = some (.int .i64 h) := by rw [← HY.out]; exact m0
  have n1 : Y.cell? ⟨w.heap.size, 1, none⟩ = some (.int .i64 l) := by rw [← HY.out]; exact m1
  have n2 : Y.cell? ⟨w.heap.size, 2, none⟩ = some (.int .i64 i) := by rw [← HY.out]; exact m2
  have n3 : Y.cell? ⟨w.heap.size, 3, none⟩ = some (.int .i64 c) := by rw [← HY.out]; exact m3
  have BY : Hid (Below w.heap.size w Y) := by rw [← HY.out]; exact below_dN BX.out _
  clear m0 m1 m2 m3
  go_wp2_with fail
  go_quiet (first | (go_at_call 14; exact Calls.quiet_of_same (C2.out _)) | (go_at_call 19; exact Calls.quiet_of_same (C3.out _)))
  go_wp2
  go_ret2
  exact ⟨rfl, by first | exact BZ.out | exact below_dN BY.out _ | exact below_dN BX.out _ | exact below_dN BW.out _⟩
set_option maxHeartbeats 3200000 in
theorem ends_I (h l i c : Int) (zh : i64 h) (zl : i64 l) (zi : i64 i) (zc : i64 c) (g1 : 1 ≤ h) (g2 : h ≤ 8) (g3 : ¬ l < 0) (g4 : ¬ 62 / h < l) (g5 : ¬ c < 1) (g6 : ¬ 2 ^ h.toNat < c) (g7 : ¬ i < 0) (g : 9223372036854775807 < i * 2 ^ h.toNat) (w : World) :
    Calls Tryz.prog 10 #[.agg #[.int .i64 h, .int .i64 l, .int .i64 i, .int .i64 c]] w fun e w' => e = .returned (.tuple #[.int .i64 (endT h l i c), .bool (decide (Goes h l i c))]) ∧ Below w.heap.size w w' := by
  obtain ⟨W, HW⟩ : ∃ W, Hid (w.alloc (.cells #[.int .i64 h, .int .i64 l, .int .i64 i, .int .i64 c] 23) = W) := ⟨_, rfl⟩
  have BW : Hid (Below w.heap.size w W) := by rw [← HW.out]; exact (Below.refl _ _).alloc (Nat.le_refl _) _
  obtain ⟨k0, k1, k2, k3⟩ := box4 w W _ _ _ _ _ (by rw [← HW.out]; exact Below.refl _ _)
  obtain ⟨l1, l2⟩ := zl
  obtain ⟨h1, h2⟩ := zh
  obtain ⟨i1, i2⟩ := zi
  obtain ⟨c1, c2⟩ := zc
  have HG : Hid (decide (Goes h l i c) = false) := decide_eq_false (fun x => by have e := x.2.2.2.2.2.2.2; have p1 := (powS (l * h).toNat (by have := x.2.2.2.1; omega)).1; have p0 : 0 ≤ i * 2 ^ h.toNat := Int.mul_nonneg (by omega) (by have := (pow8 h g1 g2).1; omega); have p2 := Int.mul_le_mul_of_nonneg_left p1 (show 0 ≤ i * 2 ^ h.toNat + c by omega); omega)
  have HE : Hid (endT h l i c = 0) := by unfold endT; exact if_neg (of_decide_eq_false HG.out)
  rw [HG.out, HE.out]
  have C1 : Hid (∀ w, Calls _ _ _ _ _) := fun w => highC h w
  have dd : (decide (1 ≤ h) && decide (h ≤ 8)) = true := by rw [decide_eq_true g1, decide_eq_true g2]; rfl
  rw [dd] at C1
  have hn : (h != 0) = true := by rw [bne_iff_ne]; omega
  have hz : ¬ h = 0 := by omega
  have hb : (h == 0) = false := beq_eq_false_iff_ne.2 hz
  have hq0 : 0 ≤ 62 / h := Int.ediv_nonneg (by omega) (by omega)
  have hq1 : 62 / h ≤ 62 := Int.ediv_le_self _ (by omega)
  have ht : IntKind.i64.wrap (Int.tdiv 62 h) = 62 / h := by rw [Int.tdiv_eq_ediv_of_nonneg (by omega), IntKind.wrap_i64]; omega
  have d1 : decide (l < 0) = false := decide_eq_false g3
  have d2 : decide (62 / h < l) = false := decide_eq_false g4
  have C2 : Hid (∀ w, Calls _ _ _ _ _) := fun w => fullI h (by omega) (by omega) w
  obtain ⟨f0, f1⟩ := pow8 h g1 g2
  have d3 : decide (c < 1) = false := decide_eq_false g5
  have C3 : Hid (∀ w, Calls _ _ _ _ _) := fun w => mulI i (2 ^ h.toNat) i1 i2 (by omega) (by omega) w
  rw [if_neg g7, if_neg g7, if_pos g, if_pos g] at C3
  generalize (2 : Int) ^ h.toNat = F at *
  have d4 : decide (F < c) = false := decide_eq_false g6
  clear g g1 g2 g3 g4 g5 g6 g7 dd
  go_enter Tryz.func10, Tryz.ntmps10
  go_wp2_with fail
  rw [HW.out]
  go_quiet ((go_at_call 18; exact Calls.quiet_of_same (C1.out _)))
  obtain ⟨X, HX⟩ : ∃ V, Hid (W.drewN nq = V) := ⟨_, rfl⟩
  rw [HX.out]
  have m0 : X.cell? ⟨w.heap.size, 0, none⟩ = some (.int .i64 h) := by rw [← HX.out]; exact k0
  have m1 : X.cell? ⟨w.heap.size, 1, none⟩ = some (.int .i64 l) := by rw [← HX.out]; exact k1
  have m2 : X.cell? ⟨w.heap.size, 2, none⟩ = some (.int .i64 i) := by rw [← HX.out]; exact k2
  have m3 : X.cell? ⟨w.heap.size, 3, none⟩ = some (.int .i64 c) := by rw [← HX.out]; exact k3
  have BX : Hid (Below w.heap.size w X) := by rw [← HX.out]; exact below_dN BW.out _
  clear k0 k1 k2 k3
  go_wp2_with fail
  go_quiet ((go_at_call 14; exact Calls.quiet_of_same (C2.out _)))
  obtain ⟨Y, HY⟩ : ∃ V, Hid (X.drewN nq = V) := ⟨_, rfl⟩
  rw [HY.out]
  have n0 : Y.cell? ⟨w.heap.size, 0, none⟩ = some (.int .i64 h) := by rw [← HY.out]; exact m0
  have n1 : Y.cell? ⟨w.heap.size, 1, none⟩ = some (.int .i64 l) := by rw [← HY.out]; exact m1
  have n2 : Y.cell? ⟨w.heap.size, 2, none⟩ = some (.int .i64 i) := by rw [← HY.out]; exact m2
  have n3 : Y.cell? ⟨w.heap.size, 3, none⟩ = some (.int .i64 c) := by rw [← HY.out]; exact m3
  have BY : Hid (Below w.heap.size w Y) := by rw [← HY.out]; exact below_dN BX.out _
  clear m0 m1 m2 m3
  go_wp2_with fail
  go_quiet (first | (go_at_call 14; exact Calls.quiet_of_same (C2.out _)) | (go_at_call 19; exact Calls.quiet_of_same (C3.out _)))
  go_wp2
  go_ret2
  exact ⟨rfl, by first | exact BZ.out | exact below_dN BY.out _ | exact below_dN BX.out _ | exact below_dN BW.out _⟩
set_option maxHeartbeats 3200000 in
theorem ends_A (h l i c : Int) (zh : i64 h) (zl : i64 l) (zi : i64 i) (zc : i64 c) (g1 : 1 ≤ h) (g2 : h ≤ 8) (g3 : ¬ l < 0) (g4 : ¬ 62 / h < l) (g5 : ¬ c < 1) (g6 : ¬ 2 ^ h.toNat < c) (g7 : ¬ i < 0) (g8 : ¬ 9223372036854775807 < i * 2 ^ h.toNat) (g : 9223372036854775807 - i * 2 ^ h.toNat < c) (w : World) :
    Calls Tryz.prog 10 #[.agg #[.int .i64 h, .int .i64 l, .int .i64 i, .int .i64 c]] w fun e w' => e = .returned (.tuple #[.int .i64 (endT h l i c), .bool (decide (Goes h l i c))]) ∧ Below w.heap.size w w' := by
  obtain ⟨W, HW⟩ : ∃ W, Hid (w.alloc (.cells #[.int .i64 h, .int .i64 l, .int .i64 i, .int .i64 c] 23) = W) := ⟨_, rfl⟩
  have BW : Hid (Below w.heap.size w W) := by rw [← HW.out]; exact (Below.refl _ _).alloc (Nat.le_refl _) _
  obtain ⟨k0, k1, k2, k3⟩ := box4 w W _ _ _ _ _ (by rw [← HW.out]; exact Below.refl _ _)
  obtain ⟨l1, l2⟩ := zl
  obtain ⟨h1, h2⟩ := zh
  obtain ⟨i1, i2⟩ := zi
  obtain ⟨c1, c2⟩ := zc
  have HG : Hid (decide (Goes h l i c) = false) := decide_eq_false (fun x => by have e := x.2.2.2.2.2.2.2; have p1 := (powS (l * h).toNat (by have := x.2.2.2.1; omega)).1; have p0 : 0 ≤ i * 2 ^ h.toNat := Int.mul_nonneg (by omega) (by have := (pow8 h g1 g2).1; omega); have p2 := Int.mul_le_mul_of_nonneg_left p1 (show 0 ≤ i * 2 ^ h.toNat + c by omega); omega)
  have HE : Hid (endT h l i c = 0) := by unfold endT; exact if_neg (of_decide_eq_false HG.out)
  rw [HG.out, HE.out]
  have C1 : Hid (∀ w, Calls _ _ _ _ _) := fun w => highC h w
  have dd : (decide (1 ≤ h) && decide (h ≤ 8)) = true := by rw [decide_eq_true g1, decide_eq_true g2]; rfl
  rw [dd] at C1
  have hn : (h != 0) = true := by rw [bne_iff_ne]; omega
  have hz : ¬ h = 0 := by omega
  have hb : (h == 0) = false := beq_eq_false_iff_ne.2 hz
  have hq0 : 0 ≤ 62 / h := Int.ediv_nonneg (by omega) (by omega)
  have hq1 : 62 / h ≤ 62 := Int.ediv_le_self _ (by omega)
  have ht : IntKind.i64.wrap (Int.tdiv 62 h) = 62 / h := by rw [Int.tdiv_eq_ediv_of_nonneg (by omega), IntKind.wrap_i64]; omega
  have d1 : decide (l < 0) = false := decide_eq_false g3
  have d2 : decide (62 / h < l) = false := decide_eq_false g4
  have C2 : Hid (∀ w, Calls _ _ _ _ _) := fun w => fullI h (by omega) (by omega) w
  obtain ⟨f0, f1⟩ := pow8 h g1 g2
  have d3 : decide (c < 1) = false := decide_eq_false g5
  have C3 : Hid (∀ w, Calls _ _ _ _ _) := fun w => mulI i (2 ^ h.toNat) i1 i2 (by omega) (by omega) w
  rw [if_neg g7, if_neg g7, if_neg g8, if_neg g8] at C3
  have p0 : 0 ≤ i * 2 ^ h.toNat := Int.mul_nonneg (by omega) (by omega)
  have C4 : Hid (∀ w, Calls _ _ _ _ _) := fun w => addC (i * 2 ^ h.toNat) c ⟨p0, by omega⟩ ⟨by omega, c2⟩ w
  rw [if_pos g, if_pos g] at C4
  obtain ⟨F, HF⟩ : ∃ F, Hid ((2 : Int) ^ h.toNat = F) := ⟨_, rfl⟩
  simp only [HF.out] at *
  have d4 : decide (F < c) = false := decide_eq_false g6
  obtain ⟨M, HM⟩ : ∃ M, Hid (i * F = M) := ⟨_, rfl⟩
  simp only [HM.out] at *
  clear g g1 g2 g3 g4 g5 g6 g7 g8 dd
  go_enter Tryz.func10, Tryz.ntmps10
  go_wp2_with fail
  rw [HW.out]
  go_quiet ((go_at_call 18; exact Calls.quiet_of_same (C1.out _)))
  obtain ⟨X, HX⟩ : ∃ V, Hid (W.drewN nq = V) := ⟨_, rfl⟩
  rw [HX.out]
  have m0 : X.cell? ⟨w.heap.size, 0, none⟩ = some (.int .i64 h) := by rw [← HX.out]; exact k0
  have m1 : X.cell? ⟨w.heap.size, 1, none⟩ = some (.int .i64 l) := by rw [← HX.out]; exact k1
  have m2 : X.cell? ⟨w.heap.size, 2, none⟩ = some (.int .i64 i) := by rw [← HX.out]; exact k2
  have m3 : X.cell? ⟨w.heap.size, 3, none⟩ = some (.int .i64 c) := by rw [← HX.out]; exact k3
  have BX : Hid (Below w.heap.size w X) := by rw [← HX.out]; exact below_dN BW.out _
  clear k0 k1 k2 k3
  go_wp2_with fail
  go_quiet ((go_at_call 14; exact Calls.quiet_of_same (C2.out _)))
  obtain ⟨Y, HY⟩ : ∃ V, Hid (X.drewN nq = V) := ⟨_, rfl⟩
  rw [HY.out]
  have n0 : Y.cell? ⟨w.heap.size, 0, none⟩ = some (.int .i64 h) := by rw [← HY.out]; exact m0
  have n1 : Y.cell? ⟨w.heap.size, 1, none⟩ = some (.int .i64 l) := by rw [← HY.out]; exact m1
  have n2 : Y.cell? ⟨w.heap.size, 2, none⟩ = some (.int .i64 i) := by rw [← HY.out]; exact m2
  have n3 : Y.cell? ⟨w.heap.size, 3, none⟩ = some (.int .i64 c) := by rw [← HY.out]; exact m3
  have BY : Hid (Below w.heap.size w Y) := by rw [← HY.out]; exact below_dN BX.out _
  clear m0 m1 m2 m3
  go_wp2_with fail
  go_quiet (first | (go_at_call 14; exact Calls.quiet_of_same (C2.out _)) | (go_at_call 19; exact Calls.quiet_of_same (C3.out _)))
  obtain ⟨Z, HZ⟩ : ∃ V, Hid (Y.drewN nq = V) := ⟨_, rfl⟩
  rw [HZ.out]
  have o0 : Z.cell? ⟨w.heap.size, 0, none⟩ = some (.int .i64 h) := by rw [← HZ.out]; exact n0
  have o1 : Z.cell? ⟨w.heap.size, 1, none⟩ = some (.int .i64 l) := by rw [← HZ.out]; exact n1
  have o2 : Z.cell? ⟨w.heap.size, 2, none⟩ = some (.int .i64 i) := by rw [← HZ.out]; exact n2
  have o3 : Z.cell? ⟨w.heap.size, 3, none⟩ = some (.int .i64 c) := by rw [← HZ.out]; exact n3
  have BZ : Hid (Below w.heap.size w Z) := by rw [← HZ.out]; exact below_dN BY.out _
  clear n0 n1 n2 n3
  go_wp2_with fail
  refine (C4.out _).mono ?_
  rintro e w1 ⟨rfl, rfl⟩
  go_wp2
  go_ret2
  exact ⟨rfl, by first | exact BZ.out | exact below_dN BY.out _ | exact below_dN BX.out _ | exact below_dN BW.out _⟩
set_option maxHeartbeats 3200000 in
theorem ends_P (h l i c : Int) (zh : i64 h) (zl : i64 l) (zi : i64 i) (zc : i64 c) (g1 : 1 ≤ h) (g2 : h ≤ 8) (g3 : ¬ l < 0) (g4 : ¬ 62 / h < l) (g5 : ¬ c < 1) (g6 : ¬ 2 ^ h.toNat < c) (g7 : ¬ i < 0) (g8 : ¬ 9223372036854775807 < i * 2 ^ h.toNat) (g9 : ¬ 9223372036854775807 - i * 2 ^ h.toNat < c) (g : 9223372036854775807 < (i * 2 ^ h.toNat + c) * 2 ^ (l * h).toNat) (w : World) :
    Calls Tryz.prog 10 #[.agg #[.int .i64 h, .int .i64 l, .int .i64 i, .int .i64 c]] w fun e w' => e = .returned (.tuple #[.int .i64 (endT h l i c), .bool (decide (Goes h l i c))]) ∧ Below w.heap.size w w' := by
  obtain ⟨W, HW⟩ : ∃ W, Hid (w.alloc (.cells #[.int .i64 h, .int .i64 l, .int .i64 i, .int .i64 c] 23) = W) := ⟨_, rfl⟩
  have BW : Hid (Below w.heap.size w W) := by rw [← HW.out]; exact (Below.refl _ _).alloc (Nat.le_refl _) _
  obtain ⟨k0, k1, k2, k3⟩ := box4 w W _ _ _ _ _ (by rw [← HW.out]; exact Below.refl _ _)
  obtain ⟨l1, l2⟩ := zl
  obtain ⟨h1, h2⟩ := zh
  obtain ⟨i1, i2⟩ := zi
  obtain ⟨c1, c2⟩ := zc
  have C1 : Hid (∀ w, Calls _ _ _ _ _) := fun w => highC h w
  have dd : (decide (1 ≤ h) && decide (h ≤ 8)) = true := by rw [decide_eq_true g1, decide_eq_true g2]; rfl
  rw [dd] at C1
  have hn : (h != 0) = true := by rw [bne_iff_ne]; omega
  have hz : ¬ h = 0 := by omega
  have hb : (h == 0) = false := beq_eq_false_iff_ne.2 hz
  have hq0 : 0 ≤ 62 / h := Int.ediv_nonneg (by omega) (by omega)
  have hq1 : 62 / h ≤ 62 := Int.ediv_le_self _ (by omega)
  have ht : IntKind.i64.wrap (Int.tdiv 62 h) = 62 / h := by rw [Int.tdiv_eq_ediv_of_nonneg (by omega), IntKind.wrap_i64]; omega
  have d1 : decide (l < 0) = false := decide_eq_false g3
  have d2 : decide (62 / h < l) = false := decide_eq_false g4
  have C2 : Hid (∀ w, Calls _ _ _ _ _) := fun w => fullI h (by omega) (by omega) w
  obtain ⟨f0, f1⟩ := pow8 h g1 g2
  have d3 : decide (c < 1) = false := decide_eq_false g5
  have C3 : Hid (∀ w, Calls _ _ _ _ _) := fun w => mulI i (2 ^ h.toNat) i1 i2 (by omega) (by omega) w
  rw [if_neg g7, if_neg g7, if_neg g8, if_neg g8] at C3
  have p0 : 0 ≤ i * 2 ^ h.toNat := Int.mul_nonneg (by omega) (by omega)
  have C4 : Hid (∀ w, Calls _ _ _ _ _) := fun w => addC (i * 2 ^ h.toNat) c ⟨p0, by omega⟩ ⟨by omega, c2⟩ w
  rw [if_neg g9, if_neg g9] at C4
  have HL := (level_le (l := l) g1 g2)
  have z0 : 0 ≤ l * h := Int.mul_nonneg (by omega) (by omega)
  obtain ⟨s, hs⟩ : ∃ s : Nat, l * h = (s : Int) := ⟨(l * h).toNat, by omega⟩
  have hs62 : s ≤ 62 := by omega
  obtain ⟨q0, q1⟩ := powS s hs62
  have hp : IntKind.i64.wrap ((2 : Int) ^ s) = (2 : Int) ^ s := by rw [IntKind.wrap_i64]; omega
  have C5 : Hid (∀ w, Calls _ _ _ _ _) := fun w => mulI (i * 2 ^ h.toNat + c) (2 ^ s) (by omega) (by omega) (by omega) (by omega) w
  have n0 : ¬ i * 2 ^ h.toNat + c < 0 := by omega
  rw [if_neg n0, if_neg n0] at C5
  have HG : Hid (decide (Goes h l i c) = false) := decide_eq_false (fun x => by have e := x.2.2.2.2.2.2.2; omega)
  have HE : Hid (endT h l i c = 0) := by unfold endT; exact if_neg (of_decide_eq_false HG.out)
  rw [HG.out, HE.out]
  have gg : 9223372036854775807 < (i * 2 ^ h.toNat + c) * 2 ^ s := by rw [hs, Int.toNat_natCast] at g; exact g
  rw [if_pos gg, if_pos gg] at C5
  clear g gg
  obtain ⟨F, HF⟩ : ∃ F, Hid ((2 : Int) ^ h.toNat = F) := ⟨_, rfl⟩
  simp only [HF.out] at *
  have d4 : decide (F < c) = false := decide_eq_false g6
  obtain ⟨M, HM⟩ : ∃ M, Hid (i * F = M) := ⟨_, rfl⟩
  simp only [HM.out] at *
  obtain ⟨P, HP⟩ : ∃ P, Hid ((2 : Int) ^ s = P) := ⟨_, rfl⟩
  have hp' : IntKind.i64.wrap ((2 : Int) ^ s) = P := hp.trans HP.out
  rw [HP.out] at C5 q0 q1
  clear hp
  obtain ⟨E, HEE⟩ : ∃ E, Hid ((M + c) * P = E) := ⟨_, rfl⟩
  clear g1 g2 g3 g4 g5 g6 g7 g8 g9 dd HL n0
  go_enter Tryz.func10, Tryz.ntmps10
  go_wp2_with fail
  rw [HW.out]
  go_quiet ((go_at_call 18; exact Calls.quiet_of_same (C1.out _)))
  obtain ⟨X, HX⟩ : ∃ V, Hid (W.drewN nq = V) := ⟨_, rfl⟩
  rw [HX.out]
  have m0 : X.cell? ⟨w.heap.size, 0, none⟩ = some (.int .i64 h) := by rw [← HX.out]; exact k0
  have m1 : X.cell? ⟨w.heap.size, 1, none⟩ = some (.int .i64 l) := by rw [← HX.out]; exact k1
  have m2 : X.cell? ⟨w.heap.size, 2, none⟩ = some (.int .i64 i) := by rw [← HX.out]; exact k2
  have m3 : X.cell? ⟨w.heap.size, 3, none⟩ = some (.int .i64 c) := by rw [← HX.out]; exact k3
  have BX : Hid (Below w.heap.size w X) := by rw [← HX.out]; exact below_dN BW.out _
  clear k0 k1 k2 k3
  go_wp2_with fail
  go_quiet ((go_at_call 14; exact Calls.quiet_of_same (C2.out _)))
  obtain ⟨Y, HY⟩ : ∃ V, Hid (X.drewN nq = V) := ⟨_, rfl⟩
  rw [HY.out]
  have n0 : Y.cell? ⟨w.heap.size, 0, none⟩ = some (.int .i64 h) := by rw [← HY.out]; exact m0
  have n1 : Y.cell? ⟨w.heap.size, 1, none⟩ = some (.int .i64 l) := by rw [← HY.out]; exact m1
  have n2 : Y.cell? ⟨w.heap.size, 2, none⟩ = some (.int .i64 i) := by rw [← HY.out]; exact m2
  have n3 : Y.cell? ⟨w.heap.size, 3, none⟩ = some (.int .i64 c) := by rw [← HY.out]; exact m3
  have BY : Hid (Below w.heap.size w Y) := by rw [← HY.out]; exact below_dN BX.out _
  clear m0 m1 m2 m3
  go_wp2_with fail
  go_quiet (first | (go_at_call 14; exact Calls.quiet_of_same (C2.out _)) | (go_at_call 19; exact Calls.quiet_of_same (C3.out _)))
  obtain ⟨Z, HZ⟩ : ∃ V, Hid (Y.drewN nq = V) := ⟨_, rfl⟩
  rw [HZ.out]
  have o0 : Z.cell? ⟨w.heap.size, 0, none⟩ = some (.int .i64 h) := by rw [← HZ.out]; exact n0
  have o1 : Z.cell? ⟨w.heap.size, 1, none⟩ = some (.int .i64 l) := by rw [← HZ.out]; exact n1
  have o2 : Z.cell? ⟨w.heap.size, 2, none⟩ = some (.int .i64 i) := by rw [← HZ.out]; exact n2
  have o3 : Z.cell? ⟨w.heap.size, 3, none⟩ = some (.int .i64 c) := by rw [← HZ.out]; exact n3
  have BZ : Hid (Below w.heap.size w Z) := by rw [← HZ.out]; exact below_dN BY.out _
  clear n0 n1 n2 n3
  go_wp2_with fail
  refine (C4.out _).mono ?_
  rintro e w1 ⟨rfl, rfl⟩
  go_wp2_with fail
  refine (C5.out _).mono ?_
  rintro e w1 ⟨rfl, rfl⟩
  go_wp2
  go_ret2
  exact ⟨rfl, by first | exact BZ.out | exact below_dN BY.out _ | exact below_dN BX.out _ | exact below_dN BW.out _⟩
set_option maxHeartbeats 3200000 in
theorem ends_M (h l i c : Int) (zh : i64 h) (zl : i64 l) (zi : i64 i) (zc : i64 c) (g1 : 1 ≤ h) (g2 : h ≤ 8) (g3 : ¬ l < 0) (g4 : ¬ 62 / h < l) (g5 : ¬ c < 1) (g6 : ¬ 2 ^ h.toNat < c) (g7 : ¬ i < 0) (g8 : ¬ 9223372036854775807 < i * 2 ^ h.toNat) (g9 : ¬ 9223372036854775807 - i * 2 ^ h.toNat < c) (g : ¬ 9223372036854775807 < (i * 2 ^ h.toNat + c) * 2 ^ (l * h).toNat) (g0 : 4611686018427387904 < (i * 2 ^ h.toNat + c) * 2 ^ (l * h).toNat) (w : World) :
    Calls Tryz.prog 10 #[.agg #[.int .i64 h, .int .i64 l, .int .i64 i, .int .i64 c]] w fun e w' => e = .returned (.tuple #[.int .i64 (endT h l i c), .bool (decide (Goes h l i c))]) ∧ Below w.heap.size w w' := by
  obtain ⟨W, HW⟩ : ∃ W, Hid (w.alloc (.cells #[.int .i64 h, .int .i64 l, .int .i64 i, .int .i64 c] 23) = W) := ⟨_, rfl⟩
  have BW : Hid (Below w.heap.size w W) := by rw [← HW.out]; exact (Below.refl _ _).alloc (Nat.le_refl _) _
  obtain ⟨k0, k1, k2, k3⟩ := box4 w W _ _ _ _ _ (by rw [← HW.out]; exact Below.refl _ _)
  obtain ⟨l1, l2⟩ := zl
  obtain ⟨h1, h2⟩ := zh
  obtain ⟨i1, i2⟩ := zi
  obtain ⟨c1, c2⟩ := zc
  have C1 : Hid (∀ w, Calls _ _ _ _ _) := fun w => highC h w
  have dd : (decide (1 ≤ h) && decide (h ≤ 8)) = true := by rw [decide_eq_true g1, decide_eq_true g2]; rfl
  rw [dd] at C1
  have hn : (h != 0) = true := by rw [bne_iff_ne]; omega
  have hz : ¬ h = 0 := by omega
  have hb : (h == 0) = false := beq_eq_false_iff_ne.2 hz
  have hq0 : 0 ≤ 62 / h := Int.ediv_nonneg (by omega) (by omega)
  have hq1 : 62 / h ≤ 62 := Int.ediv_le_self _ (by omega)
  have ht : IntKind.i64.wrap (Int.tdiv 62 h) = 62 / h := by rw [Int.tdiv_eq_ediv_of_nonneg (by omega), IntKind.wrap_i64]; omega
  have d1 : decide (l < 0) = false := decide_eq_false g3
  have d2 : decide (62 / h < l) = false := decide_eq_false g4
  have C2 : Hid (∀ w, Calls _ _ _ _ _) := fun w => fullI h (by omega) (by omega) w
  obtain ⟨f0, f1⟩ := pow8 h g1 g2
  have d3 : decide (c < 1) = false := decide_eq_false g5
  have C3 : Hid (∀ w, Calls _ _ _ _ _) := fun w => mulI i (2 ^ h.toNat) i1 i2 (by omega) (by omega) w
  rw [if_neg g7, if_neg g7, if_neg g8, if_neg g8] at C3
  have p0 : 0 ≤ i * 2 ^ h.toNat := Int.mul_nonneg (by omega) (by omega)
  have C4 : Hid (∀ w, Calls _ _ _ _ _) := fun w => addC (i * 2 ^ h.toNat) c ⟨p0, by omega⟩ ⟨by omega, c2⟩ w
  rw [if_neg g9, if_neg g9] at C4
  have HL := (level_le (l := l) g1 g2)
  have z0 : 0 ≤ l * h := Int.mul_nonneg (by omega) (by omega)
  obtain ⟨s, hs⟩ : ∃ s : Nat, l * h = (s : Int) := ⟨(l * h).toNat, by omega⟩
  have hs62 : s ≤ 62 := by omega
  obtain ⟨q0, q1⟩ := powS s hs62
  have hp : IntKind.i64.wrap ((2 : Int) ^ s) = (2 : Int) ^ s := by rw [IntKind.wrap_i64]; omega
  have C5 : Hid (∀ w, Calls _ _ _ _ _) := fun w => mulI (i * 2 ^ h.toNat + c) (2 ^ s) (by omega) (by omega) (by omega) (by omega) w
  have n0 : ¬ i * 2 ^ h.toNat + c < 0 := by omega
  rw [if_neg n0, if_neg n0] at C5
  have HG : Hid (decide (Goes h l i c) = false) := decide_eq_false (fun x => by have e := x.2.2.2.2.2.2.2; omega)
  have HE : Hid (endT h l i c = 0) := by unfold endT; exact if_neg (of_decide_eq_false HG.out)
  rw [HG.out, HE.out]
  have gg : ¬ 9223372036854775807 < (i * 2 ^ h.toNat + c) * 2 ^ s := by rw [hs, Int.toNat_natCast] at g; exact g
  have g00 : 4611686018427387904 < (i * 2 ^ h.toNat + c) * 2 ^ s := by rw [hs, Int.toNat_natCast] at g0; exact g0
  rw [if_neg gg, if_neg gg] at C5
  clear g g0
  obtain ⟨F, HF⟩ : ∃ F, Hid ((2 : Int) ^ h.toNat = F) := ⟨_, rfl⟩
  simp only [HF.out] at *
  have d4 : decide (F < c) = false := decide_eq_false g6
  obtain ⟨M, HM⟩ : ∃ M, Hid (i * F = M) := ⟨_, rfl⟩
  simp only [HM.out] at *
  obtain ⟨P, HP⟩ : ∃ P, Hid ((2 : Int) ^ s = P) := ⟨_, rfl⟩
  have hp' : IntKind.i64.wrap ((2 : Int) ^ s) = P := hp.trans HP.out
  rw [HP.out] at C5 q0 q1
  clear hp
  obtain ⟨E, HEE⟩ : ∃ E, Hid ((M + c) * P = E) := ⟨_, rfl⟩
  rw [HEE.out] at C5
  rw [HP.out, HEE.out] at gg g00
  have d6 : decide (4611686018427387904 < E) = true := decide_eq_true g00
  clear gg g00 g1 g2 g3 g4 g5 g6 g7 g8 g9 dd HL n0
  go_enter Tryz.func10, Tryz.ntmps10
  go_wp2_with fail
  rw [HW.out]
  go_quiet ((go_at_call 18; exact Calls.quiet_of_same (C1.out _)))
  obtain ⟨X, HX⟩ : ∃ V, Hid (W.drewN nq = V) := ⟨_, rfl⟩
  rw [HX.out]
  have m0 : X.cell? ⟨w.heap.size, 0, none⟩ = some (.int .i64 h) := by rw [← HX.out]; exact k0
  have m1 : X.cell? ⟨w.heap.size, 1, none⟩ = some (.int .i64 l) := by rw [← HX.out]; exact k1
  have m2 : X.cell? ⟨w.heap.size, 2, none⟩ = some (.int .i64 i) := by rw [← HX.out]; exact k2
  have m3 : X.cell? ⟨w.heap.size, 3, none⟩ = some (.int .i64 c) := by rw [← HX.out]; exact k3
  have BX : Hid (Below w.heap.size w X) := by rw [← HX.out]; exact below_dN BW.out _
  clear k0 k1 k2 k3
  go_wp2_with fail
  go_quiet ((go_at_call 14; exact Calls.quiet_of_same (C2.out _)))
  obtain ⟨Y, HY⟩ : ∃ V, Hid (X.drewN nq = V) := ⟨_, rfl⟩
  rw [HY.out]
  have n0 : Y.cell? ⟨w.heap.size, 0, none⟩ = some (.int .i64 h) := by rw [← HY.out]; exact m0
  have n1 : Y.cell? ⟨w.heap.size, 1, none⟩ = some (.int .i64 l) := by rw [← HY.out]; exact m1
  have n2 : Y.cell? ⟨w.heap.size, 2, none⟩ = some (.int .i64 i) := by rw [← HY.out]; exact m2
  have n3 : Y.cell? ⟨w.heap.size, 3, none⟩ = some (.int .i64 c) := by rw [← HY.out]; exact m3
  have BY : Hid (Below w.heap.size w Y) := by rw [← HY.out]; exact below_dN BX.out _
  clear m0 m1 m2 m3
  go_wp2_with fail
  go_quiet (first | (go_at_call 14; exact Calls.quiet_of_same (C2.out _)) | (go_at_call 19; exact Calls.quiet_of_same (C3.out _)))
  obtain ⟨Z, HZ⟩ : ∃ V, Hid (Y.drewN nq = V) := ⟨_, rfl⟩
  rw [HZ.out]
  have o0 : Z.cell? ⟨w.heap.size, 0, none⟩ = some (.int .i64 h) := by rw [← HZ.out]; exact n0
  have o1 : Z.cell? ⟨w.heap.size, 1, none⟩ = some (.int .i64 l) := by rw [← HZ.out]; exact n1
  have o2 : Z.cell? ⟨w.heap.size, 2, none⟩ = some (.int .i64 i) := by rw [← HZ.out]; exact n2
  have o3 : Z.cell? ⟨w.heap.size, 3, none⟩ = some (.int .i64 c) := by rw [← HZ.out]; exact n3
  have BZ : Hid (Below w.heap.size w Z) := by rw [← HZ.out]; exact below_dN BY.out _
  clear n0 n1 n2 n3
  go_wp2_with fail
  refine (C4.out _).mono ?_
  rintro e w1 ⟨rfl, rfl⟩
  go_wp2_with fail
  refine (C5.out _).mono ?_
  rintro e w1 ⟨rfl, rfl⟩
  go_wp2
  go_ret2
  exact ⟨rfl, by first | exact BZ.out | exact below_dN BY.out _ | exact below_dN BX.out _ | exact below_dN BW.out _⟩
set_option maxHeartbeats 3200000 in
theorem ends_Y (h l i c : Int) (zh : i64 h) (zl : i64 l) (zi : i64 i) (zc : i64 c) (g1 : 1 ≤ h) (g2 : h ≤ 8) (g3 : ¬ l < 0) (g4 : ¬ 62 / h < l) (g5 : ¬ c < 1) (g6 : ¬ 2 ^ h.toNat < c) (g7 : ¬ i < 0) (g8 : ¬ 9223372036854775807 < i * 2 ^ h.toNat) (g9 : ¬ 9223372036854775807 - i * 2 ^ h.toNat < c) (g : ¬ 4611686018427387904 < (i * 2 ^ h.toNat + c) * 2 ^ (l * h).toNat) (w : World) :
    Calls Tryz.prog 10 #[.agg #[.int .i64 h, .int .i64 l, .int .i64 i, .int .i64 c]] w fun e w' => e = .returned (.tuple #[.int .i64 (endT h l i c), .bool (decide (Goes h l i c))]) ∧ Below w.heap.size w w' := by
  obtain ⟨W, HW⟩ : ∃ W, Hid (w.alloc (.cells #[.int .i64 h, .int .i64 l, .int .i64 i, .int .i64 c] 23) = W) := ⟨_, rfl⟩
  have BW : Hid (Below w.heap.size w W) := by rw [← HW.out]; exact (Below.refl _ _).alloc (Nat.le_refl _) _
  obtain ⟨k0, k1, k2, k3⟩ := box4 w W _ _ _ _ _ (by rw [← HW.out]; exact Below.refl _ _)
  obtain ⟨l1, l2⟩ := zl
  obtain ⟨h1, h2⟩ := zh
  obtain ⟨i1, i2⟩ := zi
  obtain ⟨c1, c2⟩ := zc
  have C1 : Hid (∀ w, Calls _ _ _ _ _) := fun w => highC h w
  have dd : (decide (1 ≤ h) && decide (h ≤ 8)) = true := by rw [decide_eq_true g1, decide_eq_true g2]; rfl
  rw [dd] at C1
  have hn : (h != 0) = true := by rw [bne_iff_ne]; omega
  have hz : ¬ h = 0 := by omega
  have hb : (h == 0) = false := beq_eq_false_iff_ne.2 hz
  have hq0 : 0 ≤ 62 / h := Int.ediv_nonneg (by omega) (by omega)
  have hq1 : 62 / h ≤ 62 := Int.ediv_le_self _ (by omega)
  have ht : IntKind.i64.wrap (Int.tdiv 62 h) = 62 / h := by rw [Int.tdiv_eq_ediv_of_nonneg (by omega), IntKind.wrap_i64]; omega
  have d1 : decide (l < 0) = false := decide_eq_false g3
  have d2 : decide (62 / h < l) = false := decide_eq_false g4
  have C2 : Hid (∀ w, Calls _ _ _ _ _) := fun w => fullI h (by omega) (by omega) w
  obtain ⟨f0, f1⟩ := pow8 h g1 g2
  have d3 : decide (c < 1) = false := decide_eq_false g5
  have C3 : Hid (∀ w, Calls _ _ _ _ _) := fun w => mulI i (2 ^ h.toNat) i1 i2 (by omega) (by omega) w
  rw [if_neg g7, if_neg g7, if_neg g8, if_neg g8] at C3
  have p0 : 0 ≤ i * 2 ^ h.toNat := Int.mul_nonneg (by omega) (by omega)
  have C4 : Hid (∀ w, Calls _ _ _ _ _) := fun w => addC (i * 2 ^ h.toNat) c ⟨p0, by omega⟩ ⟨by omega, c2⟩ w
  rw [if_neg g9, if_neg g9] at C4
  have HL := (level_le (l := l) g1 g2)
  have z0 : 0 ≤ l * h := Int.mul_nonneg (by omega) (by omega)
  obtain ⟨s, hs⟩ : ∃ s : Nat, l * h = (s : Int) := ⟨(l * h).toNat, by omega⟩
  have hs62 : s ≤ 62 := by omega
  obtain ⟨q0, q1⟩ := powS s hs62
  have hp : IntKind.i64.wrap ((2 : Int) ^ s) = (2 : Int) ^ s := by rw [IntKind.wrap_i64]; omega
  have C5 : Hid (∀ w, Calls _ _ _ _ _) := fun w => mulI (i * 2 ^ h.toNat + c) (2 ^ s) (by omega) (by omega) (by omega) (by omega) w
  have n0 : ¬ i * 2 ^ h.toNat + c < 0 := by omega
  rw [if_neg n0, if_neg n0] at C5
  have gg : ¬ 4611686018427387904 < (i * 2 ^ h.toNat + c) * 2 ^ s := by rw [hs, Int.toNat_natCast] at g; exact g
  have HG : Hid (decide (Goes h l i c) = true) := decide_eq_true ⟨g1, g2, by omega, by omega, by omega, by omega, by omega, by omega⟩
  have HE : Hid (endT h l i c = (i * 2 ^ h.toNat + c) * 2 ^ s) := by show _ = _; unfold endT; rw [if_pos (of_decide_eq_true HG.out), hs, Int.toNat_natCast]
  rw [HG.out, HE.out]
  rw [if_neg (by omega), if_neg (by omega)] at C5
  clear g HG HE
  obtain ⟨F, HF⟩ : ∃ F, Hid ((2 : Int) ^ h.toNat = F) := ⟨_, rfl⟩
  simp only [HF.out] at *
  have d4 : decide (F < c) = false := decide_eq_false g6
  obtain ⟨M, HM⟩ : ∃ M, Hid (i * F = M) := ⟨_, rfl⟩
  simp only [HM.out] at *
  obtain ⟨P, HP⟩ : ∃ P, Hid ((2 : Int) ^ s = P) := ⟨_, rfl⟩
  have hp' : IntKind.i64.wrap ((2 : Int) ^ s) = P := hp.trans HP.out
  rw [HP.out] at C5 q0 q1
  clear hp
  obtain ⟨E, HEE⟩ : ∃ E, Hid ((M + c) * P = E) := ⟨_, rfl⟩
  rw [HEE.out] at C5
  rw [HP.out, HEE.out] at gg ⊢
  have d6 : decide (4611686018427387904 < E) = false := decide_eq_false gg
  clear gg g1 g2 g3 g4 g5 g6 g7 g8 g9 dd HL n0
  go_enter Tryz.func10, Tryz.ntmps10
  go_wp2_with fail
  rw [HW.out]
  go_quiet ((go_at_call 18; exact Calls.quiet_of_same (C1.out _)))
  obtain ⟨X, HX⟩ : ∃ V, Hid (W.drewN nq = V) := ⟨_, rfl⟩
  rw [HX.out]
  have m0 : X.cell? ⟨w.heap.size, 0, none⟩ = some (.int .i64 h) := by rw [← HX.out]; exact k0
  have m1 : X.cell? ⟨w.heap.size, 1, none⟩ = some (.int .i64 l) := by rw [← HX.out]; exact k1
  have m2 : X.cell? ⟨w.heap.size, 2, none⟩ = some (.int .i64 i) := by rw [← HX.out]; exact k2
  have m3 : X.cell? ⟨w.heap.size, 3, none⟩ = some (.int .i64 c) := by rw [← HX.out]; exact k3
  have BX : Hid (Below w.heap.size w X) := by rw [← HX.out]; exact below_dN BW.out _
  clear k0 k1 k2 k3
  go_wp2_with fail
  go_quiet ((go_at_call 14; exact Calls.quiet_of_same (C2.out _)))
  obtain ⟨Y, HY⟩ : ∃ V, Hid (X.drewN nq = V) := ⟨_, rfl⟩
  rw [HY.out]
  have n0 : Y.cell? ⟨w.heap.size, 0, none⟩ = some (.int .i64 h) := by rw [← HY.out]; exact m0
  have n1 : Y.cell? ⟨w.heap.size, 1, none⟩ = some (.int .i64 l) := by rw [← HY.out]; exact m1
  have n2 : Y.cell? ⟨w.heap.size, 2, none⟩ = some (.int .i64 i) := by rw [← HY.out]; exact m2
  have n3 : Y.cell? ⟨w.heap.size, 3, none⟩ = some (.int .i64 c) := by rw [← HY.out]; exact m3
  have BY : Hid (Below w.heap.size w Y) := by rw [← HY.out]; exact below_dN BX.out _
  clear m0 m1 m2 m3
  go_wp2_with fail
  go_quiet (first | (go_at_call 14; exact Calls.quiet_of_same (C2.out _)) | (go_at_call 19; exact Calls.quiet_of_same (C3.out _)))
  obtain ⟨Z, HZ⟩ : ∃ V, Hid (Y.drewN nq = V) := ⟨_, rfl⟩
  rw [HZ.out]
  have o0 : Z.cell? ⟨w.heap.size, 0, none⟩ = some (.int .i64 h) := by rw [← HZ.out]; exact n0
  have o1 : Z.cell? ⟨w.heap.size, 1, none⟩ = some (.int .i64 l) := by rw [← HZ.out]; exact n1
  have o2 : Z.cell? ⟨w.heap.size, 2, none⟩ = some (.int .i64 i) := by rw [← HZ.out]; exact n2
  have o3 : Z.cell? ⟨w.heap.size, 3, none⟩ = some (.int .i64 c) := by rw [← HZ.out]; exact n3
  have BZ : Hid (Below w.heap.size w Z) := by rw [← HZ.out]; exact below_dN BY.out _
  clear n0 n1 n2 n3
  go_wp2_with fail
  refine (C4.out _).mono ?_
  rintro e w1 ⟨rfl, rfl⟩
  go_wp2_with fail
  refine (C5.out _).mono ?_
  rintro e w1 ⟨rfl, rfl⟩
  go_wp2
  go_ret2
  exact ⟨rfl, by first | exact BZ.out | exact below_dN BY.out _ | exact below_dN BX.out _ | exact below_dN BW.out _⟩
theorem endsC (h l i c : Int) (zh : i64 h) (zl : i64 l) (zi : i64 i) (zc : i64 c) (w : World) :
    Calls Tryz.prog 10 #[.agg #[.int .i64 h, .int .i64 l, .int .i64 i, .int .i64 c]] w fun e w' => e = .returned (.tuple #[.int .i64 (endT h l i c), .bool (decide (Goes h l i c))]) ∧ Below w.heap.size w w' := by
  by_cases g12 : 1 ≤ h ∧ h ≤ 8
  · obtain ⟨g1, g2⟩ := g12
    by_cases g3 : l < 0
    · exact ends_l h l i c zh zl zi zc g1 g2 g3 w
    by_cases g4 : 62 / h < l
    · exact ends_L h l i c zh zl zi zc g1 g2 g3 g4 w
    by_cases g5 : c < 1
    · exact ends_c h l i c zh zl zi zc g1 g2 g3 g4 g5 w
    by_cases g6 : 2 ^ h.toNat < c
    · exact ends_C h l i c zh zl zi zc g1 g2 g3 g4 g5 g6 w
    by_cases g7 : i < 0
    · exact ends_i h l i c zh zl zi zc g1 g2 g3 g4 g5 g6 g7 w
    by_cases g8 : 9223372036854775807 < i * 2 ^ h.toNat
    · exact ends_I h l i c zh zl zi zc g1 g2 g3 g4 g5 g6 g7 g8 w
    by_cases g9 : 9223372036854775807 - i * 2 ^ h.toNat < c
    · exact ends_A h l i c zh zl zi zc g1 g2 g3 g4 g5 g6 g7 g8 g9 w
    by_cases g : 9223372036854775807 < (i * 2 ^ h.toNat + c) * 2 ^ (l * h).toNat
    · exact ends_P h l i c zh zl zi zc g1 g2 g3 g4 g5 g6 g7 g8 g9 g w
    by_cases g0 : 4611686018427387904 < (i * 2 ^ h.toNat + c) * 2 ^ (l * h).toNat
    · exact ends_M h l i c zh zl zi zc g1 g2 g3 g4 g5 g6 g7 g8 g9 g g0 w
    · exact ends_Y h l i c zh zl zi zc g1 g2 g3 g4 g5 g6 g7 g8 g9 g0 w
  · exact ends_h h l i c zh zl zi zc g12 w
end Go.Proofs.YtfbglffookacbaaGreatDoor.a4
