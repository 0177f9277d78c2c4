import Derived.Test.YtgioekepoebibaaQd
import Derived.Test.YtgioekepoebibaaRi
import Derived.Deep.RegionWith
namespace Go.Proofs.Ytgioekepoebibaa.qe
open Go.RowKit Go.PlainAid
open Go.Proofs.Ytgioekepoebibaa.na Go.Proofs.Ytgioekepoebibaa.nb Go.Proofs.Ytgioekepoebibaa.pa Go.Proofs.Ytgioekepoebibaa.pd Go.Proofs.Ytgioekepoebibaa.pe Go.Proofs.Ytgioekepoebibaa.ra Go.Proofs.Ytgioekepoebibaa.rb Go.Proofs.Ytgioekepoebibaa.ri Go.Proofs.Ytgioekepoebibaa.qa Go.Proofs.Ytgioekepoebibaa.qb Go.Proofs.Ytgioekepoebibaa.qd
set_option linter.unusedVariables false
set_option linter.unusedSimpArgs false

def frC (b : ByteArray) (m k n l : Int) (p : ByteArray) (u : Int) : Array Value := #[.string b, .int .u8 m, .int .u8 k, .int .u64 n, .int .u32 l, .string p, .int .u32 u]
theorem cell7 {w : World} {g : Nat} {x0 x1 x2 x3 x4 x5 x6 : Value} {t : TypeId} {f : Nat × Nat} (h : w.heap[g]? = some (.cells #[x0, x1, x2, x3, x4, x5, x6] t f)) :
    w.cell? ⟨g, 0, none⟩ = some x0 ∧ w.cell? ⟨g, 1, none⟩ = some x1 ∧ w.cell? ⟨g, 2, none⟩ = some x2 ∧ w.cell? ⟨g, 3, none⟩ = some x3 ∧ w.cell? ⟨g, 4, none⟩ = some x4 ∧ w.cell? ⟨g, 5, none⟩ = some x5 ∧ w.cell? ⟨g, 6, none⟩ = some x6 := by
  refine ⟨?_, ?_, ?_, ?_, ?_, ?_, ?_⟩ <;> (rw [cell_of_row _ _ _ _ _ _ h]; rfl)
theorem new_below (w : World) (o : Obj) : Below w.heap.size w (w.alloc o) := (Below.refl _ _).alloc (Nat.le_refl _) _
theorem toldC (b p : ByteArray) (m k n l u : Int) (w : World) (l0 : 0 ≤ l) (l1 : l < 4294967296) :
    Calls Try.prog 66 #[.agg (frC b m k n l p u)] w fun e w' => e = .returned (.int .i64 (14 + l + 4)) ∧ Below w.heap.size w w' := by
  unfold frC
  go_enter Try.func66, Try.ntmps66
  go_wp2
  go_ret
  exact ⟨rfl, new_below _ _⟩
theorem reckC (b p : ByteArray) (m k n l u : Int) (w : World) (h0 : 4 ≤ b.size) (h1 : b.size ≤ 281474976710656) :
    Calls Try.prog 69 #[.agg (frC b m k n l p u)] w fun e w' => e = .returned (.int .u32 (crcF (b.extract 0 (b.size - 4)) : Nat)) ∧ Below w.heap.size w w' := by
  have CC : Hid (∀ w, Calls _ _ _ _ _) := fun w => Crc (b.extract 0 (b.size - 4)) w (by rw [ext_size]; omega)
  have h4 : ((b.size : Int) - 4).toNat = b.size - 4 := by omega
  unfold frC
  go_enter Try.func69, Try.ntmps69
  go_wp2_with fail
  refine (CC.out _).mono ?_
  rintro _ w1 ⟨rfl, b1⟩
  have B1 : Hid (Below w.heap.size w w1) := over (new_below _ _) b1
  clear b1
  go_wp2
  go_ret
  exact ⟨rfl, B1.out⟩
-- what each fault tells
theorem f1C (b p : ByteArray) (m k n l u : Int) (w : World) (x : Bool) (hx : (b.toList == []) = x) :
    Calls Try.prog 59 #[.agg (frC b m k n l p u)] w fun e w' => e = .returned (.bool x) ∧ Below w.heap.size w w' := by
  unfold frC
  go_enter Try.func59, Try.ntmps59
  go_wp2
  go_ret
  exact ⟨rfl, new_below _ _⟩
theorem f2C (b p : ByteArray) (m k n l u : Int) (w : World) :
    Calls Try.prog 60 #[.agg (frC b m k n l p u)] w fun e w' => e = .returned (.bool (m != 165)) ∧ Below w.heap.size w w' := by
  unfold frC
  go_enter Try.func60, Try.ntmps60
  go_wp2
  go_ret
  exact ⟨rfl, new_below _ _⟩
theorem f3C (b p : ByteArray) (m k n l u : Int) (w : World) :
    Calls Try.prog 61 #[.agg (frC b m k n l p u)] w fun e w' => e = .returned (.bool (decide ((b.size : Int) < 14))) ∧ Below w.heap.size w w' := by
  unfold frC
  go_enter Try.func61, Try.ntmps61
  go_wp2
  go_ret
  exact ⟨rfl, new_below _ _⟩
theorem f4C (b p : ByteArray) (m k n l u : Int) (w : World) (k0 : 0 ≤ k) (k1 : k ≤ 255) :
    Calls Try.prog 62 #[.agg (frC b m k n l p u)] w fun e w' => e = .returned (.bool (!decide (1 ≤ k ∧ k ≤ 255))) ∧ Below w.heap.size w w' := by
  have CC : Hid (∀ w, Calls _ _ _ _ _) := fun w => isKindC k w
  obtain ⟨q, HQ⟩ : ∃ q : Bool, Hid (decide (1 ≤ k ∧ k ≤ 255) = q) := ⟨_, rfl⟩
  rw [HQ.out] at CC ⊢
  unfold frC
  go_enter Try.func62, Try.ntmps62
  go_wp2_with fail
  refine (CC.out _).mono ?_
  rintro _ w1 ⟨rfl, hw⟩; rw [hw]; clear hw
  go_wp2
  go_ret
  exact ⟨rfl, new_below _ _⟩
theorem f5C (b p : ByteArray) (m k n l u : Int) (w : World) :
    Calls Try.prog 63 #[.agg (frC b m k n l p u)] w fun e w' => e = .returned (.bool (decide (9223372036854775807 < n))) ∧ Below w.heap.size w w' := by
  unfold frC
  go_enter Try.func63, Try.ntmps63
  go_wp2
  go_ret
  exact ⟨rfl, new_below _ _⟩
theorem f6C (b p : ByteArray) (m k n l u : Int) (w : World) :
    Calls Try.prog 64 #[.agg (frC b m k n l p u)] w fun e w' => e = .returned (.bool (decide (524288 < l))) ∧ Below w.heap.size w w' := by
  unfold frC
  go_enter Try.func64, Try.ntmps64
  go_wp2
  go_ret
  exact ⟨rfl, new_below _ _⟩
set_option maxHeartbeats 1600000 in
theorem f7C (b p : ByteArray) (m k n l u : Int) (w : World) (l0 : 0 ≤ l) (l1 : l < 4294967296) :
    Calls Try.prog 65 #[.agg (frC b m k n l p u)] w fun e w' => e = .returned (.bool (decide ((b.size : Int) < 14 + l + 4))) ∧ Below w.heap.size w w' := by
  have CC : Hid (∀ w, Calls _ _ _ _ _) := fun w => toldC b p m k n l u w l0 l1
  unfold frC at CC ⊢
  go_enter Try.func65, Try.ntmps65
  go_upto_region 1 with fail
  have HH : Hid (∀ w1, Below (w.alloc (.cells #[.string b, .int .u8 m, .int .u8 k, .int .u64 n, .int .u32 l, .string p, .int .u32 u] 63)).drew.heap.size (w.alloc (.cells #[.string b, .int .u8 m, .int .u8 k, .int .u64 n, .int .u32 l, .string p, .int .u32 u] 63)).drew w1 → Below w.heap.size w w1 ∧ w1.cell? ⟨w.heap.size, 0, none⟩ = some (.string b)) := fun w1 h1 => ⟨over (new_below _ _).drew h1, by rw [h1.cell (show w.heap.size < (w.alloc (.cells #[.string b, .int .u8 m, .int .u8 k, .int .u64 n, .int .u32 l, .string p, .int .u32 u] 63)).drew.heap.size by show w.heap.size < (w.alloc (.cells #[.string b, .int .u8 m, .int .u8 k, .int .u64 n, .int .u32 l, .string p, .int .u32 u] 63)).heap.size; simp)]; exact (cell7 (heap_alloc_new w _)).1⟩
  go_region_with (go_at_call 66; refine (CC.out _).mono ?_; rintro _ w1 ⟨rfl, b1⟩; obtain ⟨B1, c1⟩ := HH.out w1 b1; clear b1)
  all_goals
    go_wp2
    go_ret
    exact ⟨rfl, by first | exact B1.drew | exact B1⟩
set_option maxHeartbeats 1600000 in
theorem f8C (b p : ByteArray) (m k n l u : Int) (w : World) (l0 : 0 ≤ l) (l1 : l < 4294967296) :
    Calls Try.prog 67 #[.agg (frC b m k n l p u)] w fun e w' => e = .returned (.bool (decide (14 + l + 4 < (b.size : Int)))) ∧ Below w.heap.size w w' := by
  have CC : Hid (∀ w, Calls _ _ _ _ _) := fun w => toldC b p m k n l u w l0 l1
  unfold frC at CC ⊢
  go_enter Try.func67, Try.ntmps67
  go_upto_region 1 with fail
  have HH : Hid (∀ w1, Below (w.alloc (.cells #[.string b, .int .u8 m, .int .u8 k, .int .u64 n, .int .u32 l, .string p, .int .u32 u] 63)).drew.heap.size (w.alloc (.cells #[.string b, .int .u8 m, .int .u8 k, .int .u64 n, .int .u32 l, .string p, .int .u32 u] 63)).drew w1 → Below w.heap.size w w1 ∧ w1.cell? ⟨w.heap.size, 0, none⟩ = some (.string b)) := fun w1 h1 => ⟨over (new_below _ _).drew h1, by rw [h1.cell (show w.heap.size < (w.alloc (.cells #[.string b, .int .u8 m, .int .u8 k, .int .u64 n, .int .u32 l, .string p, .int .u32 u] 63)).drew.heap.size by show w.heap.size < (w.alloc (.cells #[.string b, .int .u8 m, .int .u8 k, .int .u64 n, .int .u32 l, .string p, .int .u32 u] 63)).heap.size; simp)]; exact (cell7 (heap_alloc_new w _)).1⟩
  go_region_with (go_at_call 66; refine (CC.out _).mono ?_; rintro _ w1 ⟨rfl, b1⟩; obtain ⟨B1, c1⟩ := HH.out w1 b1; clear b1)
  all_goals
    go_wp2
    go_ret
    exact ⟨rfl, by first | exact B1.drew | exact B1⟩
set_option maxHeartbeats 1600000 in
theorem f9C (b p : ByteArray) (m k n l u : Int) (w : World) (h0 : 4 ≤ b.size) (h1 : b.size ≤ 281474976710656) :
    Calls Try.prog 68 #[.agg (frC b m k n l p u)] w fun e w' => e = .returned (.bool (u != (crcF (b.extract 0 (b.size - 4)) : Nat))) ∧ Below w.heap.size w w' := by
  have CC : Hid (∀ w, Calls _ _ _ _ _) := fun w => reckC b p m k n l u w h0 h1
  obtain ⟨x, HX⟩ : ∃ x : Nat, Hid (crcF (b.extract 0 (b.size - 4)) = x) := ⟨_, rfl⟩
  rw [HX.out] at CC ⊢
  unfold frC at CC ⊢
  go_enter Try.func68, Try.ntmps68
  go_upto_region 1 with fail
  have HH : Hid (∀ w1, Below (w.alloc (.cells #[.string b, .int .u8 m, .int .u8 k, .int .u64 n, .int .u32 l, .string p, .int .u32 u] 63)).drew.heap.size (w.alloc (.cells #[.string b, .int .u8 m, .int .u8 k, .int .u64 n, .int .u32 l, .string p, .int .u32 u] 63)).drew w1 → Below w.heap.size w w1 ∧ w1.cell? ⟨w.heap.size, 6, none⟩ = some (.int .u32 u)) := fun w1 h1 => ⟨over (new_below _ _).drew h1, by rw [h1.cell (show w.heap.size < (w.alloc (.cells #[.string b, .int .u8 m, .int .u8 k, .int .u64 n, .int .u32 l, .string p, .int .u32 u] 63)).drew.heap.size by show w.heap.size < (w.alloc (.cells #[.string b, .int .u8 m, .int .u8 k, .int .u64 n, .int .u32 l, .string p, .int .u32 u] 63)).heap.size; simp)]; exact (cell7 (heap_alloc_new w _)).2.2.2.2.2.2⟩
  go_region_with (go_at_call 69; refine (CC.out _).mono ?_; rintro _ w1 ⟨rfl, b1⟩; obtain ⟨B1, c1⟩ := HH.out w1 b1; clear b1)
  all_goals
    go_wp2
    go_ret
    exact ⟨rfl, by first | exact B1.drew | exact B1⟩
end Go.Proofs.Ytgioekepoebibaa.qe
