import Derived.Test.YtgioekepoebibaaQf
import Derived.Test.YtgioekepoebibaaQc
import Derived.Test.YtgioekepoebibaaBa
namespace Go.Proofs.Ytgioekepoebibaa.bc
open Go.RowKit Go.PlainAid Go.Shelf
open Go.Proofs.Ytgioekepoebibaa.na Go.Proofs.Ytgioekepoebibaa.nb Go.Proofs.Ytgioekepoebibaa.pa Go.Proofs.Ytgioekepoebibaa.pd Go.Proofs.Ytgioekepoebibaa.qa Go.Proofs.Ytgioekepoebibaa.qb Go.Proofs.Ytgioekepoebibaa.qd Go.Proofs.Ytgioekepoebibaa.qe
open Go.Proofs.Ytgioekepoebibaa.qf (cutL_size cutL_at nx_at)
open Go.Proofs.Ytgioekepoebibaa.qc (keyT_space keyT_kind keyT_number)
set_option linter.unusedVariables false
set_option linter.unusedSimpArgs false
-- a text read as a key
def sg (x : Int) : Int := if 9223372036854775807 < x then x - 18446744073709551616 else x
theorem sg_wrap (x : Int) (h0 : 0 ≤ x) (h1 : x ≤ 18446744073709551615) : IntKind.i64.wrap x = sg x := by
  rw [IntKind.wrap_i64]; unfold sg; split <;> omega
theorem sg_rng (x : Int) (h0 : 0 ≤ x) (h1 : x ≤ 18446744073709551615) : -9223372036854775808 ≤ sg x ∧ sg x ≤ 9223372036854775807 := by unfold sg; split <;> omega
def r1 (b : ByteArray) := cutL b 1
def r2 (b : ByteArray) := cutL (r1 b) 8
def r3 (b : ByteArray) := cutL (r2 b) 1
def kH (b : ByteArray) : Int := nx (r1 b) 8
def kC (b : ByteArray) : Int := nx (r2 b) 1
def kL (b : ByteArray) : Int := nx (r3 b) 8
def isKey (b : ByteArray) : Bool := decide ((0 ≤ sg (kH b) ∧ 1 ≤ kC b ∧ kC b ≤ 255 ∧ 0 ≤ sg (kL b)) ∧ keyT (sg (kH b)) (kC b) (sg (kL b)) = b)
theorem nx8_rng (b : ByteArray) : 0 ≤ nx b 8 ∧ nx b 8 ≤ 18446744073709551615 := by
  have h := nx_range b 8
  have e : (256 : Int) ^ 8 = 18446744073709551616 := by decide
  omega
theorem nx1_rng (b : ByteArray) : 0 ≤ nx b 1 ∧ nx b 1 ≤ 255 := by
  have h := nx_range b 1
  have e : (256 : Int) ^ 1 = 256 := by decide
  omega
def rkV (b : ByteArray) : Value := if isKey b then .tuple #[.int .i64 (sg (kH b)), .int .i64 (sg (kL b)), .bool true] else .tuple #[.int .i64 0, .int .i64 0, .bool false]
theorem one_box {w w1 : World} {o : Obj} (b : Below (w.alloc o).heap.size (w.alloc o) w1) : w1.heap[w.heap.size]? = some o := by
  refine (b.block _ (by simp)).trans ?_
  exact heap_alloc_new w _
theorem text_eq (a b : ByteArray) : (a.toList == b.toList) = decide (a = b) := by
  by_cases h : a = b
  · subst h; simp
  · rw [decide_eq_false h, beq_eq_false_iff_ne]
    intro e
    rw [ByteArray.toList_eq, ByteArray.toList_eq] at e
    exact h (ByteArray.ext (Array.toList_inj.1 e))
set_option maxRecDepth 100000 in
set_option maxHeartbeats 6400000 in
theorem readKeyC (b : ByteArray) (w : World) (hs : b.size ≤ 281474976710656) :
    Calls Try.prog 50 #[.string b] w fun e w' => e = .returned (rkV b) ∧ Below w.heap.size w w' := by
  have s1 : (r1 b).size ≤ b.size := by rw [r1, cutL_size]; omega
  have s2 : (r2 b).size ≤ b.size := by rw [r2, cutL_size]; omega
  have s3 : (r3 b).size ≤ b.size := by rw [r3, cutL_size]; omega
  have C1 : Hid (∀ w, Calls Try.prog 58 #[.agg #[.string b], .int .i64 1] w fun e w' => e = .returned (.tuple #[.string (b.extract 0 (min 1 b.size)), .agg #[.string (r1 b)]]) ∧ Below w.heap.size w w') := fun w => takeC b 1 _ w hs (by omega) rfl
  have C2 : Hid (∀ w, Calls Try.prog 56 #[.agg #[.string (r1 b)]] w fun e w' => e = .returned (.tuple #[.int .u64 (kH b), .agg #[.string (r2 b)]]) ∧ Below w.heap.size w w') := fun w => next64C (r1 b) w (by omega)
  have C3 : Hid (∀ w, Calls Try.prog 55 #[.agg #[.string (r2 b)]] w fun e w' => e = .returned (.tuple #[.int .u8 (kC b), .agg #[.string (r3 b)]]) ∧ Below w.heap.size w w') := fun w => next8C (r2 b) w (by omega)
  have C4 : Hid (∀ w, Calls Try.prog 56 #[.agg #[.string (r3 b)]] w fun e w' => e = .returned (.tuple #[.int .u64 (kL b), .agg #[.string (cutL (r3 b) 8)]]) ∧ Below w.heap.size w w') := fun w => next64C (r3 b) w (by omega)
  have hH := nx8_rng (r1 b)
  have hL := nx8_rng (r3 b)
  have hC := nx1_rng (r2 b)
  have wH : IntKind.i64.wrap (kH b) = sg (kH b) := sg_wrap _ hH.1 hH.2
  have wL : IntKind.i64.wrap (kL b) = sg (kL b) := sg_wrap _ hL.1 hL.2
  have wC : IntKind.i64.wrap (kC b) = kC b := by rw [IntKind.wrap_i64]; have := hC; unfold kC; omega
  have gH := sg_rng (kH b) hH.1 hH.2
  have gL := sg_rng (kL b) hL.1 hL.2
  have C5 : Hid (∃ (t : ByteArray) (e : Int), (∀ w, Calls Try.prog 9 #[.int .i64 (sg (kH b)), .int .i64 (kC b), .int .i64 (sg (kL b))] w fun x w' => x = .returned (.tuple #[.string t, .int .i64 e]) ∧ Below w.heap.size w w') ∧ ((isKey b = true ∧ e = 0 ∧ t = b) ∨ (isKey b = false ∧ ((e != 0) = true ∨ (e = 0 ∧ (t.toList == b.toList) = false)))) ) := by
    by_cases h : 0 ≤ sg (kH b) ∧ 1 ≤ kC b ∧ kC b ≤ 255 ∧ 0 ≤ sg (kL b)
    · refine ⟨keyT (sg (kH b)) (kC b) (sg (kL b)), 0, fun w => keyC _ _ _ w h.1 gH.2 h.2.1 h.2.2.1 h.2.2.2 gL.2, ?_⟩
      by_cases e : keyT (sg (kH b)) (kC b) (sg (kL b)) = b
      · exact .inl ⟨decide_eq_true ⟨h, e⟩, rfl, e⟩
      · exact .inr ⟨decide_eq_false (fun h2 => e h2.2), .inr ⟨rfl, by rw [text_eq, decide_eq_false e]⟩⟩
    · exact ⟨ByteArray.empty, 10, fun w => (keyNo _ _ _ w h).mono (by rintro _ _ ⟨rfl, hw⟩; exact ⟨rfl, by rw [hw]; exact Below.refl _ _⟩), .inr ⟨decide_eq_false (fun h2 => h h2.1), .inl (by decide)⟩⟩
  obtain ⟨t, e, c5, key⟩ := C5.out
  have C5' : Hid (∀ w, Calls _ _ _ _ _) := c5
  have HV : Hid ((isKey b = true → rkV b = .tuple #[.int .i64 (sg (kH b)), .int .i64 (sg (kL b)), .bool true]) ∧ (isKey b = false → rkV b = .tuple #[.int .i64 0, .int .i64 0, .bool false])) := ⟨fun h => by unfold rkV; rw [if_pos h], fun h => by unfold rkV; rw [if_neg (by simp [h])]⟩
  clear C5 c5 s1 s2 s3 hH hL hC gH gL
  generalize rkV b = rv at *
  generalize isKey b = ik at *
  generalize kH b = h1 at *
  generalize kC b = h2 at *
  generalize kL b = h3 at *
  generalize cutL (r3 b) 8 = z4 at *
  generalize r1 b = z1 at *
  generalize r2 b = z2 at *
  generalize r3 b = z3 at *
  generalize b.extract 0 (min 1 b.size) = z0 at *
  generalize sg h1 = x1 at *
  generalize sg h3 = x3 at *
  have key2 : (ik = true ∧ e = 0 ∧ t = b) ∨ (ik = false ∧ (e != 0) = true) ∨ (ik = false ∧ e = 0 ∧ (t.toList == b.toList) = false) := by
    rcases key with h | ⟨h, h2 | ⟨h2, h3⟩⟩
    · exact .inl h
    · exact .inr (.inl ⟨h, h2⟩)
    · exact .inr (.inr ⟨h, h2, h3⟩)
  clear key
  have tb : (b.toList == b.toList) = true := by simp
  go_enter Try.func50, Try.ntmps50
  go_wp2_with fail
  refine (C1.out _).mono ?_
  rintro _ w1 ⟨rfl, b1⟩
  have B1 : Hid (Below w.heap.size w w1) := b1
  clear b1
  go_wp2_with fail
  refine (C2.out _).mono ?_
  rintro _ w2 ⟨rfl, b2⟩
  have h0 := one_box b2
  have B2 : Hid (Below w.heap.size w w2) := over (B1.out.alloc B1.out.size _) b2
  have HS2 : Hid (w.heap.size ≤ w1.heap.size) := B1.out.size
  have c0 : w2.cell? ⟨w1.heap.size, 0, none⟩ = some (.string z1) := by rw [cell_of_row _ _ _ _ _ _ h0]; rfl
  have f0 : w2.frozen? ⟨w1.heap.size, 0, none⟩ = false := frozen_of_row _ _ _ _ _ h0
  have H0 : Hid _ := heap_setCell_same w2 _ 0 _ _ (.string z2) h0
  clear h0 b2
  go_wp2_with fail
  obtain ⟨x2, HX2⟩ : ∃ x, x = w2.setCell ⟨w1.heap.size, 0, none⟩ (.string z2) := ⟨_, rfl⟩
  rw [← HX2] at H0 ⊢
  have BX2 : Hid (Below w.heap.size w x2) := by rw [HX2]; exact B2.out.setCell HS2.out _
  clear HX2 c0 f0
  refine (C3.out _).mono ?_
  rintro _ w3 ⟨rfl, b3⟩
  have h0 : w3.heap[w1.heap.size]? = some (.cells #[.string z2] 93 (0, 0)) := (b3.block _ (Array.getElem?_eq_some_iff.1 H0.out).1).trans H0.out
  have B3 : Hid (Below w.heap.size w w3) := over BX2.out b3
  have c0 : w3.cell? ⟨w1.heap.size, 0, none⟩ = some (.string z2) := by rw [cell_of_row _ _ _ _ _ _ h0]; rfl
  have f0 : w3.frozen? ⟨w1.heap.size, 0, none⟩ = false := frozen_of_row _ _ _ _ _ h0
  have H1 : Hid _ := heap_setCell_same w3 _ 0 _ _ (.string z3) h0
  clear h0 b3 H0 BX2
  go_wp2_with fail
  obtain ⟨x3', HX3⟩ : ∃ x, x = w3.setCell ⟨w1.heap.size, 0, none⟩ (.string z3) := ⟨_, rfl⟩
  rw [← HX3] at H1 ⊢
  have BX3 : Hid (Below w.heap.size w x3') := by rw [HX3]; exact B3.out.setCell HS2.out _
  clear HX3 c0 f0
  refine (C4.out _).mono ?_
  rintro _ w4 ⟨rfl, b4⟩
  have B4 : Hid (Below w.heap.size w (w4.alloc (.cells #[.string z4] 93))) := (over BX3.out b4).alloc (over BX3.out b4).size _
  clear b4 H1 BX3
  go_wp2_with fail
  refine (C5'.out _).mono ?_
  rintro _ w5 ⟨rfl, b5⟩
  have B5 : Hid (Below w.heap.size w w5) := over B4.out b5
  clear b5
  rcases key2 with ⟨rfl, rfl, rfl⟩ | ⟨rfl, k2⟩ | ⟨rfl, rfl, k2⟩
  · have HR : Hid _ := HV.out.1 rfl
    go_wp2
    go_ret3
    exact ⟨by rw [HR.out]; rfl, B5.out⟩
  all_goals
    have HR : Hid _ := HV.out.2 rfl
    go_wp2
    go_ret3
    exact ⟨by rw [HR.out]; rfl, B5.out⟩
-- keys are read
theorem isKey_of (s k n : Int) (s0 : 0 ≤ s) (s1 : s ≤ 9223372036854775807) (k0 : 1 ≤ k) (k1 : k ≤ 255) (n0 : 0 ≤ n) (n1 : n ≤ 9223372036854775807) : sg (kH (keyT s k n)) = s ∧ kC (keyT s k n) = k ∧ sg (kL (keyT s k n)) = n ∧ isKey (keyT s k n) = true := by
  have hz := keyT_size s k n
  have e1 : r1 (keyT s k n) = (keyT s k n).extract 1 (keyT s k n).size := by
    have h := cutL_at (keyT s k n) 0 1 (by omega)
    rw [ext_all (keyT s k n) (keyT s k n).size rfl] at h
    exact h
  have e2 : r2 (keyT s k n) = (keyT s k n).extract 9 (keyT s k n).size := by rw [r2, e1, cutL_at _ 1 8 (by omega)]
  have e3 : r3 (keyT s k n) = (keyT s k n).extract 10 (keyT s k n).size := by rw [r3, e2, cutL_at _ 9 1 (by omega)]
  have hH : kH (keyT s k n) = s := by rw [kH, e1, nx_at _ 1 8 (by omega)]; exact keyT_space s k n s0 (by omega)
  have hC : kC (keyT s k n) = k := by rw [kC, e2, nx_at _ 9 1 (by omega)]; exact keyT_kind s k n (by omega) k1
  have hL : kL (keyT s k n) = n := by rw [kL, e3, nx_at _ 10 8 (by omega)]; exact keyT_number s k n n0 (by omega)
  have g1 : sg s = s := by unfold sg; rw [if_neg (by omega)]
  have g2 : sg n = n := by unfold sg; rw [if_neg (by omega)]
  refine ⟨by rw [hH, g1], hC, by rw [hL, g2], ?_⟩
  unfold isKey
  rw [hH, hC, hL, g1, g2]
  exact decide_eq_true ⟨⟨s0, k0, k1, n0⟩, rfl⟩
end Go.Proofs.Ytgioekepoebibaa.bc
