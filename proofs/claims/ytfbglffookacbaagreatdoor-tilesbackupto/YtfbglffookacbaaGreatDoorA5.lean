import Derived.Test.YtfbglffookacbaaGreatDoorA3
import Derived.Test.YtfbglffookacbaaGreatDoorA4
namespace Go.Proofs.YtfbglffookacbaaGreatDoor.a5
open Go.RowKit Go.PlainAid Go.Shelf
open Go.Proofs.YtfbglffookacbaaGreatDoor.tc Go.Proofs.YtfbglffookacbaaGreatDoor.wa Go.Proofs.YtfbglffookacbaaGreatDoor.ca Go.Proofs.YtfbglffookacbaaGreatDoor.cp Go.Proofs.YtfbglffookacbaaGreatDoor.a1 Go.Proofs.YtfbglffookacbaaGreatDoor.a2 Go.Proofs.YtfbglffookacbaaGreatDoor.a3 Go.Proofs.YtfbglffookacbaaGreatDoor.a4
set_option linter.unusedVariables false
set_option maxRecDepth 4000

-- a tile lies in a tree of n leaves
def Lies (h l i c n : Int) : Prop := 1 ≤ h ∧ h ≤ 8 ∧ 0 ≤ l ∧ l * h ≤ 62 ∧ 0 ≤ i ∧ 1 ≤ c ∧ c ≤ 2 ^ h.toNat ∧ (i * 2 ^ h.toNat + c) * 2 ^ (l * h).toNat ≤ n
instance (h l i c n : Int) : Decidable (Lies h l i c n) := by unfold Lies; infer_instance
theorem lies_goes (h l i c : Int) : Lies h l i c 4611686018427387904 ↔ Goes h l i c := Iff.rfl
theorem mul_bound {h l : Int} (h0 : 1 ≤ h) (h1 : h ≤ 8) (l0 : 0 ≤ l) (l1 : l ≤ 62) : 0 ≤ l * h ∧ l * h ≤ 496 := by
  have : h = 1 ∨ h = 2 ∨ h = 3 ∨ h = 4 ∨ h = 5 ∨ h = 6 ∨ h = 7 ∨ h = 8 := by omega
  rcases this with rfl | rfl | rfl | rfl | rfl | rfl | rfl | rfl <;> omega
theorem lev_small {h l : Int} (h0 : 1 ≤ h) (h1 : h ≤ 8) (l0 : 0 ≤ l) (g : l * h ≤ 62) : l ≤ 62 := by
  have : h = 1 ∨ h = 2 ∨ h = 3 ∨ h = 4 ∨ h = 5 ∨ h = 6 ∨ h = 7 ∨ h = 8 := by omega
  rcases this with rfl | rfl | rfl | rfl | rfl | rfl | rfl | rfl <;> omega
theorem room {i F c P n : Int} (hP : 1 ≤ P) (hF : 1 ≤ F) (hi : 0 ≤ i) : (i * F + c) * P ≤ n ↔ c ≤ n / P ∧ i ≤ (n / P - c) / F := by
  rw [← Int.le_ediv_iff_mul_le (show 0 < P by omega), Int.le_ediv_iff_mul_le (show 0 < F by omega)]
  have := Int.mul_nonneg hi (show 0 ≤ F by omega)
  generalize n / P = R
  generalize i * F = M at *
  omega
set_option maxHeartbeats 3200000 in
theorem lies_0 (h l i c n : Int) (zh : i64 h) (zl : i64 l) (zi : i64 i) (zc : i64 c) (n0 : 0 ≤ n) (n1 : n ≤ 9223372036854775807) (g : h < 1) (w : World) :
    Calls Tryz.prog 42 #[.agg #[.int .i64 h, .int .i64 l, .int .i64 i, .int .i64 c], .int .i64 n] w fun e w' => e = .returned (.bool (decide (Lies h l i c n))) ∧ Below w.heap.size w w' := by
  obtain ⟨W, HW⟩ : ∃ W, Hid (w.alloc (.cells #[.int .i64 h, .int .i64 l, .int .i64 i, .int .i64 c] 23) = W) := ⟨_, rfl⟩
  have BW : Hid (Below w.heap.size w W) := by rw [← HW.out]; exact (Below.refl _ _).alloc (Nat.le_refl _) _
  obtain ⟨k0, k1, k2, k3⟩ := box4 w W _ _ _ _ _ (by rw [← HW.out]; exact Below.refl _ _)
  obtain ⟨l1, l2⟩ := zl
  obtain ⟨h1, h2⟩ := zh
  obtain ⟨i1, i2⟩ := zi
  obtain ⟨c1, c2⟩ := zc
  have HG : Hid (decide (Lies h l i c n) = false) := decide_eq_false (fun x => by have := x.1; omega)
  rw [HG.out]
  have d0 : decide (h < 1) = true := decide_eq_true g
  clear g
  go_enter Tryz.func42, Tryz.ntmps42
  go_wp2_with fail
  rw [HW.out]
  go_wp2
  go_ret
  exact ⟨rfl, BW.out⟩
set_option maxHeartbeats 3200000 in
theorem lies_8 (h l i c n : Int) (zh : i64 h) (zl : i64 l) (zi : i64 i) (zc : i64 c) (n0 : 0 ≤ n) (n1 : n ≤ 9223372036854775807) (g1 : ¬ h < 1) (g : 8 < h) (w : World) :
    Calls Tryz.prog 42 #[.agg #[.int .i64 h, .int .i64 l, .int .i64 i, .int .i64 c], .int .i64 n] w fun e w' => e = .returned (.bool (decide (Lies h l i c n))) ∧ Below w.heap.size w w' := by
  obtain ⟨W, HW⟩ : ∃ W, Hid (w.alloc (.cells #[.int .i64 h, .int .i64 l, .int .i64 i, .int .i64 c] 23) = W) := ⟨_, rfl⟩
  have BW : Hid (Below w.heap.size w W) := by rw [← HW.out]; exact (Below.refl _ _).alloc (Nat.le_refl _) _
  obtain ⟨k0, k1, k2, k3⟩ := box4 w W _ _ _ _ _ (by rw [← HW.out]; exact Below.refl _ _)
  obtain ⟨l1, l2⟩ := zl
  obtain ⟨h1, h2⟩ := zh
  obtain ⟨i1, i2⟩ := zi
  obtain ⟨c1, c2⟩ := zc
  have HG : Hid (decide (Lies h l i c n) = false) := decide_eq_false (fun x => by have := x.2.1; omega)
  rw [HG.out]
  have d0 : decide (h < 1) = false := decide_eq_false g1
  have d1 : decide (8 < h) = true := decide_eq_true g
  clear g g1
  go_enter Tryz.func42, Tryz.ntmps42
  go_wp2_with fail
  rw [HW.out]
  go_wp2
  go_ret
  exact ⟨rfl, BW.out⟩
set_option maxHeartbeats 3200000 in
theorem lies_l (h l i c n : Int) (zh : i64 h) (zl : i64 l) (zi : i64 i) (zc : i64 c) (n0 : 0 ≤ n) (n1 : n ≤ 9223372036854775807) (g1 : ¬ h < 1) (g2 : ¬ 8 < h) (g : l < 0) (w : World) :
    Calls Tryz.prog 42 #[.agg #[.int .i64 h, .int .i64 l, .int .i64 i, .int .i64 c], .int .i64 n] w fun e w' => e = .returned (.bool (decide (Lies h l i c n))) ∧ Below w.heap.size w w' := by
  obtain ⟨W, HW⟩ : ∃ W, Hid (w.alloc (.cells #[.int .i64 h, .int .i64 l, .int .i64 i, .int .i64 c] 23) = W) := ⟨_, rfl⟩
  have BW : Hid (Below w.heap.size w W) := by rw [← HW.out]; exact (Below.refl _ _).alloc (Nat.le_refl _) _
  obtain ⟨k0, k1, k2, k3⟩ := box4 w W _ _ _ _ _ (by rw [← HW.out]; exact Below.refl _ _)
  obtain ⟨l1, l2⟩ := zl
  obtain ⟨h1, h2⟩ := zh
  obtain ⟨i1, i2⟩ := zi
  obtain ⟨c1, c2⟩ := zc
  have HG : Hid (decide (Lies h l i c n) = false) := decide_eq_false (fun x => by have := x.2.2.1; omega)
  rw [HG.out]
  have d0 : decide (h < 1) = false := decide_eq_false g1
  have d1 : decide (8 < h) = false := decide_eq_false g2
  have d2 : decide (l < 0) = true := decide_eq_true g
  clear g g1 g2
  go_enter Tryz.func42, Tryz.ntmps42
  go_wp2_with fail
  rw [HW.out]
  go_wp2
  go_ret
  exact ⟨rfl, BW.out⟩
set_option maxHeartbeats 3200000 in
theorem lies_L (h l i c n : Int) (zh : i64 h) (zl : i64 l) (zi : i64 i) (zc : i64 c) (n0 : 0 ≤ n) (n1 : n ≤ 9223372036854775807) (g1 : ¬ h < 1) (g2 : ¬ 8 < h) (g3 : ¬ l < 0) (g : 62 < l) (w : World) :
    Calls Tryz.prog 42 #[.agg #[.int .i64 h, .int .i64 l, .int .i64 i, .int .i64 c], .int .i64 n] w fun e w' => e = .returned (.bool (decide (Lies h l i c n))) ∧ Below w.heap.size w w' := by
  obtain ⟨W, HW⟩ : ∃ W, Hid (w.alloc (.cells #[.int .i64 h, .int .i64 l, .int .i64 i, .int .i64 c] 23) = W) := ⟨_, rfl⟩
  have BW : Hid (Below w.heap.size w W) := by rw [← HW.out]; exact (Below.refl _ _).alloc (Nat.le_refl _) _
  obtain ⟨k0, k1, k2, k3⟩ := box4 w W _ _ _ _ _ (by rw [← HW.out]; exact Below.refl _ _)
  obtain ⟨l1, l2⟩ := zl
  obtain ⟨h1, h2⟩ := zh
  obtain ⟨i1, i2⟩ := zi
  obtain ⟨c1, c2⟩ := zc
  have HG : Hid (decide (Lies h l i c n) = false) := decide_eq_false (fun x => by have := lev_small x.1 x.2.1 x.2.2.1 x.2.2.2.1; omega)
  rw [HG.out]
  have d0 : decide (h < 1) = false := decide_eq_false g1
  have d1 : decide (8 < h) = false := decide_eq_false g2
  have d2 : decide (l < 0) = false := decide_eq_false g3
  have d3 : decide (62 < l) = true := decide_eq_true g
  clear g g1 g2 g3
  go_enter Tryz.func42, Tryz.ntmps42
  go_wp2_with fail
  rw [HW.out]
  go_wp2
  go_ret
  exact ⟨rfl, BW.out⟩
set_option maxHeartbeats 3200000 in
theorem lies_S (h l i c n : Int) (zh : i64 h) (zl : i64 l) (zi : i64 i) (zc : i64 c) (n0 : 0 ≤ n) (n1 : n ≤ 9223372036854775807) (g1 : ¬ h < 1) (g2 : ¬ 8 < h) (g3 : ¬ l < 0) (g4 : ¬ 62 < l) (g : 62 < l * h) (w : World) :
    Calls Tryz.prog 42 #[.agg #[.int .i64 h, .int .i64 l, .int .i64 i, .int .i64 c], .int .i64 n] w fun e w' => e = .returned (.bool (decide (Lies h l i c n))) ∧ Below w.heap.size w w' := by
  obtain ⟨W, HW⟩ : ∃ W, Hid (w.alloc (.cells #[.int .i64 h, .int .i64 l, .int .i64 i, .int .i64 c] 23) = W) := ⟨_, rfl⟩
  have BW : Hid (Below w.heap.size w W) := by rw [← HW.out]; exact (Below.refl _ _).alloc (Nat.le_refl _) _
  obtain ⟨k0, k1, k2, k3⟩ := box4 w W _ _ _ _ _ (by rw [← HW.out]; exact Below.refl _ _)
  obtain ⟨l1, l2⟩ := zl
  obtain ⟨h1, h2⟩ := zh
  obtain ⟨i1, i2⟩ := zi
  obtain ⟨c1, c2⟩ := zc
  have HG : Hid (decide (Lies h l i c n) = false) := decide_eq_false (fun x => by have := x.2.2.2.1; omega)
  rw [HG.out]
  have d0 : decide (h < 1) = false := decide_eq_false g1
  have d1 : decide (8 < h) = false := decide_eq_false g2
  have d2 : decide (l < 0) = false := decide_eq_false g3
  have d3 : decide (62 < l) = false := decide_eq_false g4
  have hb := mul_bound (h := h) (l := l) (by omega) (by omega) (by omega) (by omega)
  obtain ⟨s, hs⟩ : ∃ s : Nat, l * h = (s : Int) := ⟨(l * h).toNat, by omega⟩
  have hs4 : s ≤ 496 := by omega
  have d4 : decide (62 < (s : Int)) = true := decide_eq_true (by omega)
  clear g g1 g2 g3 g4 hb
  go_enter Tryz.func42, Tryz.ntmps42
  go_wp2_with fail
  rw [HW.out]
  go_wp2
  go_ret
  exact ⟨rfl, BW.out⟩
set_option maxHeartbeats 3200000 in
theorem lies_i (h l i c n : Int) (zh : i64 h) (zl : i64 l) (zi : i64 i) (zc : i64 c) (n0 : 0 ≤ n) (n1 : n ≤ 9223372036854775807) (g1 : ¬ h < 1) (g2 : ¬ 8 < h) (g3 : ¬ l < 0) (g4 : ¬ 62 < l) (g5 : ¬ 62 < l * h) (g : i < 0) (w : World) :
    Calls Tryz.prog 42 #[.agg #[.int .i64 h, .int .i64 l, .int .i64 i, .int .i64 c], .int .i64 n] w fun e w' => e = .returned (.bool (decide (Lies h l i c n))) ∧ Below w.heap.size w w' := by
  obtain ⟨W, HW⟩ : ∃ W, Hid (w.alloc (.cells #[.int .i64 h, .int .i64 l, .int .i64 i, .int .i64 c] 23) = W) := ⟨_, rfl⟩
  have BW : Hid (Below w.heap.size w W) := by rw [← HW.out]; exact (Below.refl _ _).alloc (Nat.le_refl _) _
  obtain ⟨k0, k1, k2, k3⟩ := box4 w W _ _ _ _ _ (by rw [← HW.out]; exact Below.refl _ _)
  obtain ⟨l1, l2⟩ := zl
  obtain ⟨h1, h2⟩ := zh
  obtain ⟨i1, i2⟩ := zi
  obtain ⟨c1, c2⟩ := zc
  have HG : Hid (decide (Lies h l i c n) = false) := decide_eq_false (fun x => by have := x.2.2.2.2.1; omega)
  rw [HG.out]
  have d0 : decide (h < 1) = false := decide_eq_false g1
  have d1 : decide (8 < h) = false := decide_eq_false g2
  have d2 : decide (l < 0) = false := decide_eq_false g3
  have d3 : decide (62 < l) = false := decide_eq_false g4
  have hb := mul_bound (h := h) (l := l) (by omega) (by omega) (by omega) (by omega)
  obtain ⟨s, hs⟩ : ∃ s : Nat, l * h = (s : Int) := ⟨(l * h).toNat, by omega⟩
  have hs4 : s ≤ 496 := by omega
  have hs62 : s ≤ 62 := by omega
  have d4 : decide (62 < (s : Int)) = false := decide_eq_false (by omega)
  have d5 : decide (i < 0) = true := decide_eq_true g
  clear g g1 g2 g3 g4 hb g5
  go_enter Tryz.func42, Tryz.ntmps42
  go_wp2_with fail
  rw [HW.out]
  go_wp2
  go_ret
  exact ⟨rfl, BW.out⟩
set_option maxHeartbeats 3200000 in
theorem lies_c (h l i c n : Int) (zh : i64 h) (zl : i64 l) (zi : i64 i) (zc : i64 c) (n0 : 0 ≤ n) (n1 : n ≤ 9223372036854775807) (g1 : ¬ h < 1) (g2 : ¬ 8 < h) (g3 : ¬ l < 0) (g4 : ¬ 62 < l) (g5 : ¬ 62 < l * h) (g6 : ¬ i < 0) (g : c < 1) (w : World) :
    Calls Tryz.prog 42 #[.agg #[.int .i64 h, .int .i64 l, .int .i64 i, .int .i64 c], .int .i64 n] w fun e w' => e = .returned (.bool (decide (Lies h l i c n))) ∧ Below w.heap.size w w' := by
  obtain ⟨W, HW⟩ : ∃ W, Hid (w.alloc (.cells #[.int .i64 h, .int .i64 l, .int .i64 i, .int .i64 c] 23) = W) := ⟨_, rfl⟩
  have BW : Hid (Below w.heap.size w W) := by rw [← HW.out]; exact (Below.refl _ _).alloc (Nat.le_refl _) _
  obtain ⟨k0, k1, k2, k3⟩ := box4 w W _ _ _ _ _ (by rw [← HW.out]; exact Below.refl _ _)
  obtain ⟨l1, l2⟩ := zl
  obtain ⟨h1, h2⟩ := zh
  obtain ⟨i1, i2⟩ := zi
  obtain ⟨c1, c2⟩ := zc
  have HG : Hid (decide (Lies h l i c n) = false) := decide_eq_false (fun x => by have := x.2.2.2.2.2.1; omega)
  rw [HG.out]
  have d0 : decide (h < 1) = false := decide_eq_false g1
  have d1 : decide (8 < h) = false := decide_eq_false g2
  have d2 : decide (l < 0) = false := decide_eq_false g3
  have d3 : decide (62 < l) = false := decide_eq_false g4
  have hb := mul_bound (h := h) (l := l) (by omega) (by omega) (by omega) (by omega)
  obtain ⟨s, hs⟩ : ∃ s : Nat, l * h = (s : Int) := ⟨(l * h).toNat, by omega⟩
  have hs4 : s ≤ 496 := by omega
  have hs62 : s ≤ 62 := by omega
  have d4 : decide (62 < (s : Int)) = false := decide_eq_false (by omega)
  have d5 : decide (i < 0) = false := decide_eq_false g6
  obtain ⟨f0, f1⟩ := pow8 h (by omega) (by omega)
  obtain ⟨k, hk⟩ : ∃ k : Nat, h = (k : Int) := ⟨h.toNat, by omega⟩
  have hkn : h.toNat = k := by omega
  have hk8 : k ≤ 8 := by omega
  have hu : IntKind.u64.wrap h = (k : Int) := by rw [IntKind.wrap_u64]; omega
  obtain ⟨F, HF⟩ : ∃ F, Hid ((2 : Int) ^ k = F) := ⟨_, rfl⟩
  rw [hkn] at f0 f1
  rw [HF.out] at f0 f1
  have hp : IntKind.i64.wrap ((2 : Int) ^ k) = F := by rw [HF.out, IntKind.wrap_i64]; omega
  have d6 : decide (c < 1) = true := decide_eq_true g
  clear g g1 g2 g3 g4 hb g5 g6 hk hkn
  go_enter Tryz.func42, Tryz.ntmps42
  go_wp2_with fail
  rw [HW.out]
  go_wp2
  go_ret
  exact ⟨rfl, BW.out⟩
set_option maxHeartbeats 3200000 in
theorem lies_C (h l i c n : Int) (zh : i64 h) (zl : i64 l) (zi : i64 i) (zc : i64 c) (n0 : 0 ≤ n) (n1 : n ≤ 9223372036854775807) (g1 : ¬ h < 1) (g2 : ¬ 8 < h) (g3 : ¬ l < 0) (g4 : ¬ 62 < l) (g5 : ¬ 62 < l * h) (g6 : ¬ i < 0) (g7 : ¬ c < 1) (g : 2 ^ h.toNat < c) (w : World) :
    Calls Tryz.prog 42 #[.agg #[.int .i64 h, .int .i64 l, .int .i64 i, .int .i64 c], .int .i64 n] w fun e w' => e = .returned (.bool (decide (Lies h l i c n))) ∧ Below w.heap.size w w' := by
  obtain ⟨W, HW⟩ : ∃ W, Hid (w.alloc (.cells #[.int .i64 h, .int .i64 l, .int .i64 i, .int .i64 c] 23) = W) := ⟨_, rfl⟩
  have BW : Hid (Below w.heap.size w W) := by rw [← HW.out]; exact (Below.refl _ _).alloc (Nat.le_refl _) _
  obtain ⟨k0, k1, k2, k3⟩ := box4 w W _ _ _ _ _ (by rw [← HW.out]; exact Below.refl _ _)
  obtain ⟨l1, l2⟩ := zl
  obtain ⟨h1, h2⟩ := zh
  obtain ⟨i1, i2⟩ := zi
  obtain ⟨c1, c2⟩ := zc
  have HG : Hid (decide (Lies h l i c n) = false) := decide_eq_false (fun x => by have := x.2.2.2.2.2.2.1; omega)
  rw [HG.out]
  have d0 : decide (h < 1) = false := decide_eq_false g1
  have d1 : decide (8 < h) = false := decide_eq_false g2
  have d2 : decide (l < 0) = false := decide_eq_false g3
  have d3 : decide (62 < l) = false := decide_eq_false g4
  have hb := mul_bound (h := h) (l := l) (by omega) (by omega) (by omega) (by omega)
  obtain ⟨s, hs⟩ : ∃ s : Nat, l * h = (s : Int) := ⟨(l * h).toNat, by omega⟩
  have hs4 : s ≤ 496 := by omega
  have hs62 : s ≤ 62 := by omega
  have d4 : decide (62 < (s : Int)) = false := decide_eq_false (by omega)
  have d5 : decide (i < 0) = false := decide_eq_false g6
  obtain ⟨f0, f1⟩ := pow8 h (by omega) (by omega)
  obtain ⟨k, hk⟩ : ∃ k : Nat, h = (k : Int) := ⟨h.toNat, by omega⟩
  have hkn : h.toNat = k := by omega
  have hk8 : k ≤ 8 := by omega
  have hu : IntKind.u64.wrap h = (k : Int) := by rw [IntKind.wrap_u64]; omega
  have d6 : decide (c < 1) = false := decide_eq_false g7
  obtain ⟨F, HF⟩ : ∃ F, Hid ((2 : Int) ^ k = F) := ⟨_, rfl⟩
  rw [hkn] at f0 f1
  rw [HF.out] at f0 f1
  have hp : IntKind.i64.wrap ((2 : Int) ^ k) = F := by rw [HF.out, IntKind.wrap_i64]; omega
  rw [hkn, HF.out] at g
  have d7 : decide (F < c) = true := decide_eq_true g
  clear g g1 g2 g3 g4 hb g5 g6 g7 hk hkn
  go_enter Tryz.func42, Tryz.ntmps42
  go_wp2_with fail
  rw [HW.out]
  go_wp2
  go_ret
  exact ⟨rfl, BW.out⟩
set_option maxHeartbeats 3200000 in
theorem lies_R (h l i c n : Int) (zh : i64 h) (zl : i64 l) (zi : i64 i) (zc : i64 c) (n0 : 0 ≤ n) (n1 : n ≤ 9223372036854775807) (g1 : ¬ h < 1) (g2 : ¬ 8 < h) (g3 : ¬ l < 0) (g4 : ¬ 62 < l) (g5 : ¬ 62 < l * h) (g6 : ¬ i < 0) (g7 : ¬ c < 1) (g8 : ¬ 2 ^ h.toNat < c) (g : ¬ c ≤ n / 2 ^ (l * h).toNat) (w : World) :
    Calls Tryz.prog 42 #[.agg #[.int .i64 h, .int .i64 l, .int .i64 i, .int .i64 c], .int .i64 n] w fun e w' => e = .returned (.bool (decide (Lies h l i c n))) ∧ Below w.heap.size w w' := by
  obtain ⟨W, HW⟩ : ∃ W, Hid (w.alloc (.cells #[.int .i64 h, .int .i64 l, .int .i64 i, .int .i64 c] 23) = W) := ⟨_, rfl⟩
  have BW : Hid (Below w.heap.size w W) := by rw [← HW.out]; exact (Below.refl _ _).alloc (Nat.le_refl _) _
  obtain ⟨k0, k1, k2, k3⟩ := box4 w W _ _ _ _ _ (by rw [← HW.out]; exact Below.refl _ _)
  obtain ⟨l1, l2⟩ := zl
  obtain ⟨h1, h2⟩ := zh
  obtain ⟨i1, i2⟩ := zi
  obtain ⟨c1, c2⟩ := zc
  have d0 : decide (h < 1) = false := decide_eq_false g1
  have d1 : decide (8 < h) = false := decide_eq_false g2
  have d2 : decide (l < 0) = false := decide_eq_false g3
  have d3 : decide (62 < l) = false := decide_eq_false g4
  have hb := mul_bound (h := h) (l := l) (by omega) (by omega) (by omega) (by omega)
  obtain ⟨s, hs⟩ : ∃ s : Nat, l * h = (s : Int) := ⟨(l * h).toNat, by omega⟩
  have hs4 : s ≤ 496 := by omega
  have hs62 : s ≤ 62 := by omega
  have d4 : decide (62 < (s : Int)) = false := decide_eq_false (by omega)
  have d5 : decide (i < 0) = false := decide_eq_false g6
  obtain ⟨f0, f1⟩ := pow8 h (by omega) (by omega)
  obtain ⟨k, hk⟩ : ∃ k : Nat, h = (k : Int) := ⟨h.toNat, by omega⟩
  have hkn : h.toNat = k := by omega
  have hk8 : k ≤ 8 := by omega
  have hu : IntKind.u64.wrap h = (k : Int) := by rw [IntKind.wrap_u64]; omega
  have d6 : decide (c < 1) = false := decide_eq_false g7
  obtain ⟨q0, q1⟩ := powS s hs62
  have hr0 := room (i := i) (F := 2 ^ h.toNat) (c := c) (P := 2 ^ s) (n := n) q0 (by omega) (by omega)
  have hr1 : 0 ≤ n / 2 ^ s := Int.ediv_nonneg n0 (by omega)
  have hr2 : n / 2 ^ s ≤ n := Int.ediv_le_self _ n0
  have hw : IntKind.u64.wrap (s : Int) = (s : Int) := by rw [IntKind.wrap_u64]; omega
  obtain ⟨F, HF⟩ : ∃ F, Hid ((2 : Int) ^ k = F) := ⟨_, rfl⟩
  rw [hkn] at f0 f1
  rw [HF.out] at f0 f1
  have hp : IntKind.i64.wrap ((2 : Int) ^ k) = F := by rw [HF.out, IntKind.wrap_i64]; omega
  rw [hkn, HF.out] at g8
  have d7 : decide (F < c) = false := decide_eq_false g8
  obtain ⟨R, HR⟩ : ∃ R, Hid (n / (2 : Int) ^ s = R) := ⟨_, rfl⟩
  rw [hkn, HF.out, HR.out] at hr0
  rw [HR.out] at hr1 hr2
  have hR := HR.out
  have LI : Lies h l i c n ↔ c ≤ R ∧ i ≤ (R - c) / F := by
    rw [← hr0]
    refine ⟨fun x => ?_, fun x => ⟨by omega, by omega, by omega, by omega, by omega, by omega, ?_, ?_⟩⟩
    · have := x.2.2.2.2.2.2.2; rwa [hs, Int.toNat_natCast, hkn, HF.out] at this
    · rw [hkn, HF.out]; omega
    · rw [hs, Int.toNat_natCast, hkn, HF.out]; exact x
  rw [hs, Int.toNat_natCast, HR.out] at g
  have HG : Hid (decide (Lies h l i c n) = false) := decide_eq_false (fun x => g (LI.1 x).1)
  rw [HG.out]
  have d8 : decide (c ≤ R) = false := decide_eq_false g
  clear g g1 g2 g3 g4 hb g5 g6 g7 g8 hk hkn LI hr0
  go_enter Tryz.func42, Tryz.ntmps42
  go_wp2_with fail
  rw [HW.out]
  go_wp2_with fail
  go_quiet (fail)
  go_wp2
  go_ret
  exact ⟨rfl, below_dN BW.out _⟩
set_option maxHeartbeats 3200000 in
theorem lies_Y (h l i c n : Int) (zh : i64 h) (zl : i64 l) (zi : i64 i) (zc : i64 c) (n0 : 0 ≤ n) (n1 : n ≤ 9223372036854775807) (g1 : ¬ h < 1) (g2 : ¬ 8 < h) (g3 : ¬ l < 0) (g4 : ¬ 62 < l) (g5 : ¬ 62 < l * h) (g6 : ¬ i < 0) (g7 : ¬ c < 1) (g8 : ¬ 2 ^ h.toNat < c) (g9 : c ≤ n / 2 ^ (l * h).toNat) (w : World) :
    Calls Tryz.prog 42 #[.agg #[.int .i64 h, .int .i64 l, .int .i64 i, .int .i64 c], .int .i64 n] w fun e w' => e = .returned (.bool (decide (Lies h l i c n))) ∧ Below w.heap.size w w' := by
  obtain ⟨W, HW⟩ : ∃ W, Hid (w.alloc (.cells #[.int .i64 h, .int .i64 l, .int .i64 i, .int .i64 c] 23) = W) := ⟨_, rfl⟩
  have BW : Hid (Below w.heap.size w W) := by rw [← HW.out]; exact (Below.refl _ _).alloc (Nat.le_refl _) _
  obtain ⟨k0, k1, k2, k3⟩ := box4 w W _ _ _ _ _ (by rw [← HW.out]; exact Below.refl _ _)
  obtain ⟨l1, l2⟩ := zl
  obtain ⟨h1, h2⟩ := zh
  obtain ⟨i1, i2⟩ := zi
  obtain ⟨c1, c2⟩ := zc
  have d0 : decide (h < 1) = false := decide_eq_false g1
  have d1 : decide (8 < h) = false := decide_eq_false g2
  have d2 : decide (l < 0) = false := decide_eq_false g3
  have d3 : decide (62 < l) = false := decide_eq_false g4
  have hb := mul_bound (h := h) (l := l) (by omega) (by omega) (by omega) (by omega)
  obtain ⟨s, hs⟩ : ∃ s : Nat, l * h = (s : Int) := ⟨(l * h).toNat, by omega⟩
  have hs4 : s ≤ 496 := by omega
  have hs62 : s ≤ 62 := by omega
  have d4 : decide (62 < (s : Int)) = false := decide_eq_false (by omega)
  have d5 : decide (i < 0) = false := decide_eq_false g6
  obtain ⟨f0, f1⟩ := pow8 h (by omega) (by omega)
  obtain ⟨k, hk⟩ : ∃ k : Nat, h = (k : Int) := ⟨h.toNat, by omega⟩
  have hkn : h.toNat = k := by omega
  have hk8 : k ≤ 8 := by omega
  have hu : IntKind.u64.wrap h = (k : Int) := by rw [IntKind.wrap_u64]; omega
  have d6 : decide (c < 1) = false := decide_eq_false g7
  obtain ⟨q0, q1⟩ := powS s hs62
  have hr0 := room (i := i) (F := 2 ^ h.toNat) (c := c) (P := 2 ^ s) (n := n) q0 (by omega) (by omega)
  have hr1 : 0 ≤ n / 2 ^ s := Int.ediv_nonneg n0 (by omega)
  have hr2 : n / 2 ^ s ≤ n := Int.ediv_le_self _ n0
  have hw : IntKind.u64.wrap (s : Int) = (s : Int) := by rw [IntKind.wrap_u64]; omega
  obtain ⟨F, HF⟩ : ∃ F, Hid ((2 : Int) ^ k = F) := ⟨_, rfl⟩
  rw [hkn] at f0 f1
  rw [HF.out] at f0 f1
  have hp : IntKind.i64.wrap ((2 : Int) ^ k) = F := by rw [HF.out, IntKind.wrap_i64]; omega
  rw [hkn, HF.out] at g8
  have d7 : decide (F < c) = false := decide_eq_false g8
  obtain ⟨R, HR⟩ : ∃ R, Hid (n / (2 : Int) ^ s = R) := ⟨_, rfl⟩
  rw [hkn, HF.out, HR.out] at hr0
  rw [HR.out] at hr1 hr2
  have hR := HR.out
  have LI : Lies h l i c n ↔ c ≤ R ∧ i ≤ (R - c) / F := by
    rw [← hr0]
    refine ⟨fun x => ?_, fun x => ⟨by omega, by omega, by omega, by omega, by omega, by omega, ?_, ?_⟩⟩
    · have := x.2.2.2.2.2.2.2; rwa [hs, Int.toNat_natCast, hkn, HF.out] at this
    · rw [hkn, HF.out]; omega
    · rw [hs, Int.toNat_natCast, hkn, HF.out]; exact x
  rw [hs, Int.toNat_natCast, HR.out] at g9
  have LJ : Lies h l i c n ↔ i ≤ (R - c) / F := LI.trans ⟨fun x => x.2, fun x => ⟨g9, x⟩⟩
  have HG : Hid (decide (Lies h l i c n) = decide (i ≤ (R - c) / F)) := by
    by_cases e : i ≤ (R - c) / F
    · exact (decide_eq_true (LJ.2 e)).trans (decide_eq_true e).symm
    · exact (decide_eq_false (fun x => e (LJ.1 x))).trans (decide_eq_false e).symm
  rw [HG.out]
  have d8 : decide (c ≤ R) = true := decide_eq_true g9
  have hsub : IntKind.i64.wrap (R - c) = R - c := by rw [IntKind.wrap_i64]; omega
  have hq0 : 0 ≤ (R - c) / F := Int.ediv_nonneg (by omega) (by omega)
  have hq1 : (R - c) / F ≤ R - c := Int.ediv_le_self _ (by omega)
  have ht : IntKind.i64.wrap (Int.tdiv (R - c) F) = (R - c) / F := by rw [Int.tdiv_eq_ediv_of_nonneg (by omega), IntKind.wrap_i64]; omega
  have hz : ¬ F = 0 := by omega
  have hzb : (F == 0) = false := beq_eq_false_iff_ne.2 hz
  have hzn : (F != 0) = true := by rw [bne_iff_ne]; omega
  clear g9 g1 g2 g3 g4 hb g5 g6 g7 g8 hk hkn LI LJ hr0
  go_enter Tryz.func42, Tryz.ntmps42
  go_wp2_with fail
  rw [HW.out]
  go_wp2_with fail
  go_quiet (fail)
  go_wp2
  go_ret
  exact ⟨rfl, below_dN BW.out _⟩
theorem liesC (h l i c n : Int) (zh : i64 h) (zl : i64 l) (zi : i64 i) (zc : i64 c) (n0 : 0 ≤ n) (n1 : n ≤ 9223372036854775807) (w : World) :
    Calls Tryz.prog 42 #[.agg #[.int .i64 h, .int .i64 l, .int .i64 i, .int .i64 c], .int .i64 n] w fun e w' => e = .returned (.bool (decide (Lies h l i c n))) ∧ Below w.heap.size w w' := by
  by_cases g1 : h < 1
  · exact lies_0 h l i c n zh zl zi zc n0 n1 g1 w
  by_cases g2 : 8 < h
  · exact lies_8 h l i c n zh zl zi zc n0 n1 g1 g2 w
  by_cases g3 : l < 0
  · exact lies_l h l i c n zh zl zi zc n0 n1 g1 g2 g3 w
  by_cases g4 : 62 < l
  · exact lies_L h l i c n zh zl zi zc n0 n1 g1 g2 g3 g4 w
  by_cases g5 : 62 < l * h
  · exact lies_S h l i c n zh zl zi zc n0 n1 g1 g2 g3 g4 g5 w
  by_cases g6 : i < 0
  · exact lies_i h l i c n zh zl zi zc n0 n1 g1 g2 g3 g4 g5 g6 w
  by_cases g7 : c < 1
  · exact lies_c h l i c n zh zl zi zc n0 n1 g1 g2 g3 g4 g5 g6 g7 w
  by_cases g8 : 2 ^ h.toNat < c
  · exact lies_C h l i c n zh zl zi zc n0 n1 g1 g2 g3 g4 g5 g6 g7 g8 w
  by_cases g9 : c ≤ n / 2 ^ (l * h).toNat
  · exact lies_Y h l i c n zh zl zi zc n0 n1 g1 g2 g3 g4 g5 g6 g7 g8 g9 w
  · exact lies_R h l i c n zh zl zi zc n0 n1 g1 g2 g3 g4 g5 g6 g7 g8 g9 w
theorem goesC (h l i c : Int) (zh : i64 h) (zl : i64 l) (zi : i64 i) (zc : i64 c) (w : World) :
    Calls Tryz.prog 31 #[.agg #[.int .i64 h, .int .i64 l, .int .i64 i, .int .i64 c]] w fun e w' => e = .returned (.bool (decide (Goes h l i c))) ∧ Below w.heap.size w w' := by
  have C : Hid (∀ w, Calls _ _ _ _ _) := fun w => liesC h l i c 4611686018427387904 zh zl zi zc (by omega) (by omega) w
  have e : decide (Lies h l i c 4611686018427387904) = decide (Goes h l i c) := rfl
  rw [e] at C
  generalize decide (Goes h l i c) = x at C ⊢
  obtain ⟨W, HW⟩ : ∃ W, Hid (w.alloc (.cells #[.int .i64 h, .int .i64 l, .int .i64 i, .int .i64 c] 23) = W) := ⟨_, rfl⟩
  have BW : Hid (Below w.heap.size w W) := by rw [← HW.out]; exact (Below.refl _ _).alloc (Nat.le_refl _) _
  obtain ⟨k0, k1, k2, k3⟩ := box4 w W _ _ _ _ _ (by rw [← HW.out]; exact Below.refl _ _)
  go_enter Tryz.func31, Tryz.ntmps31
  go_wp2_with fail
  rw [HW.out]
  go_wp2_with fail
  refine (C.out _).mono ?_
  rintro e w1 ⟨rfl, hb⟩
  have B1 : Hid (Below w.heap.size w w1) := over BW.out hb
  clear hb
  go_wp2
  go_ret
  exact ⟨rfl, B1.out⟩
end Go.Proofs.YtfbglffookacbaaGreatDoor.a5
