import Derived.Test.YtmindflfjocjlaaGreatRa0
import Derived.Test.YtmindflfjocjlaaGreatQ13
import Derived.Deep.RegionWith
import Derived.Test.YtmindflfjocjlaaGreatQ01
namespace Go.Proofs.YtmindflfjocjlaaGreat.tqe
open Go.RowKit Go.PlainAid
open Go.Proofs.YtmindflfjocjlaaGreat.na Go.Proofs.YtmindflfjocjlaaGreat.nb Go.Proofs.YtmindflfjocjlaaGreat.tpa Go.Proofs.YtmindflfjocjlaaGreat.tpd Go.Proofs.YtmindflfjocjlaaGreat.tpe Go.Proofs.YtmindflfjocjlaaGreat.tra Go.Proofs.YtmindflfjocjlaaGreat.trb Go.Proofs.YtmindflfjocjlaaGreat.tri Go.Proofs.YtmindflfjocjlaaGreat.tqa Go.Proofs.YtmindflfjocjlaaGreat.tqb Go.Proofs.YtmindflfjocjlaaGreat.tqd
set_option linter.unusedVariables false
set_option linter.unusedSimpArgs false

def frC (b : ByteArray) (m k n l : Int) (p : ByteArray) (u : Int) : Array Value := #[.string b, .int .u8 m, .int .u8 k, .int .u64 n, .int .u32 l, .string p, .int .u32 u]
theorem cell7 {w : World} {g : Nat} {x0 x1 x2 x3 x4 x5 x6 : Value} {t : TypeId} {f : Nat × Nat} (h : w.heap[g]? = some (.cells #[x0, x1, x2, x3, x4, x5, x6] t f)) :
    w.cell? ⟨g, 0, none⟩ = some x0 ∧ w.cell? ⟨g, 1, none⟩ = some x1 ∧ w.cell? ⟨g, 2, none⟩ = some x2 ∧ w.cell? ⟨g, 3, none⟩ = some x3 ∧ w.cell? ⟨g, 4, none⟩ = some x4 ∧ w.cell? ⟨g, 5, none⟩ = some x5 ∧ w.cell? ⟨g, 6, none⟩ = some x6 := by
  refine ⟨?_, ?_, ?_, ?_, ?_, ?_, ?_⟩ <;> (rw [cell_of_row _ _ _ _ _ _ h]; rfl)
theorem new_below (w : World) (o : Obj) : Below w.heap.size w (w.alloc o) := (Below.refl _ _).alloc (Nat.le_refl _) _
theorem toldC (b p : ByteArray) (m k n l u : Int) (w : World) (l0 : 0 ≤ l) (l1 : l < 4294967296) :
    Calls Tryz.prog 103 #[.agg (frC b m k n l p u)] w fun e w' => e = .returned (.int .i64 (14 + l + 4)) ∧ Below w.heap.size w w' := by
  unfold frC
  go_enter Tryz.func103, Tryz.ntmps103
  go_wp2
  go_ret
  exact ⟨rfl, new_below _ _⟩
theorem reckC (b p : ByteArray) (m k n l u : Int) (w : World) (h0 : 4 ≤ b.size) (h1 : b.size ≤ 281474976710656) :
    Calls Tryz.prog 106 #[.agg (frC b m k n l p u)] w fun e w' => e = .returned (.int .u32 (crcF (b.extract 0 (b.size - 4)) : Nat)) ∧ Below w.heap.size w w' := by
  have CC : Hid (∀ w, Calls _ _ _ _ _) := fun w => Crc (b.extract 0 (b.size - 4)) w (by rw [ext_size]; omega)
  have h4 : ((b.size : Int) - 4).toNat = b.size - 4 := by omega
  unfold frC
  go_enter Tryz.func106, Tryz.ntmps106
  go_wp2_with fail
  refine (CC.out _).mono ?_
  rintro _ w1 ⟨rfl, b1⟩
  have B1 : Hid (Below w.heap.size w w1) := over (new_below _ _) b1
  clear b1
  go_wp2
  go_ret
  exact ⟨rfl, B1.out⟩
-- what each fault tells
theorem f1C (b p : ByteArray) (m k n l u : Int) (w : World) (x : Bool) (hx : (b.toList == []) = x) :
    Calls Tryz.prog 96 #[.agg (frC b m k n l p u)] w fun e w' => e = .returned (.bool x) ∧ Below w.heap.size w w' := by
  unfold frC
  go_enter Tryz.func96, Tryz.ntmps96
  go_wp2
  go_ret
  exact ⟨rfl, new_below _ _⟩
theorem f2C (b p : ByteArray) (m k n l u : Int) (w : World) :
    Calls Tryz.prog 97 #[.agg (frC b m k n l p u)] w fun e w' => e = .returned (.bool (m != 165)) ∧ Below w.heap.size w w' := by
  unfold frC
  go_enter Tryz.func97, Tryz.ntmps97
  go_wp2
  go_ret
  exact ⟨rfl, new_below _ _⟩
theorem f3C (b p : ByteArray) (m k n l u : Int) (w : World) :
    Calls Tryz.prog 98 #[.agg (frC b m k n l p u)] w fun e w' => e = .returned (.bool (decide ((b.size : Int) < 14))) ∧ Below w.heap.size w w' := by
  unfold frC
  go_enter Tryz.func98, Tryz.ntmps98
  go_wp2
  go_ret
  exact ⟨rfl, new_below _ _⟩
theorem f4C (b p : ByteArray) (m k n l u : Int) (w : World) (k0 : 0 ≤ k) (k1 : k ≤ 255) :
    Calls Tryz.prog 99 #[.agg (frC b m k n l p u)] w fun e w' => e = .returned (.bool (!decide (1 ≤ k ∧ k ≤ 255))) ∧ Below w.heap.size w w' := by
  have CC : Hid (∀ w, Calls _ _ _ _ _) := fun w => isKindC k w
  obtain ⟨q, HQ⟩ : ∃ q : Bool, Hid (decide (1 ≤ k ∧ k ≤ 255) = q) := ⟨_, rfl⟩
  rw [HQ.out] at CC ⊢
  unfold frC
  go_enter Tryz.func99, Tryz.ntmps99
  go_wp2_with fail
  refine (CC.out _).mono ?_
  rintro _ w1 ⟨rfl, hw⟩; rw [hw]; clear hw
  go_wp2
  go_ret
  exact ⟨rfl, new_below _ _⟩
theorem f5C (b p : ByteArray) (m k n l u : Int) (w : World) :
    Calls Tryz.prog 100 #[.agg (frC b m k n l p u)] w fun e w' => e = .returned (.bool (decide (9223372036854775807 < n))) ∧ Below w.heap.size w w' := by
  unfold frC
  go_enter Tryz.func100, Tryz.ntmps100
  go_wp2
  go_ret
  exact ⟨rfl, new_below _ _⟩
theorem f6C (b p : ByteArray) (m k n l u : Int) (w : World) :
    Calls Tryz.prog 101 #[.agg (frC b m k n l p u)] w fun e w' => e = .returned (.bool (decide (524288 < l))) ∧ Below w.heap.size w w' := by
  unfold frC
  go_enter Tryz.func101, Tryz.ntmps101
  go_wp2
  go_ret
  exact ⟨rfl, new_below _ _⟩
set_option maxHeartbeats 1600000 in
theorem f7C (b p : ByteArray) (m k n l u : Int) (w : World) (l0 : 0 ≤ l) (l1 : l < 4294967296) :
    Calls Tryz.prog 102 #[.agg (frC b m k n l p u)] w fun e w' => e = .returned (.bool (decide ((b.size : Int) < 14 + l + 4))) ∧ Below w.heap.size w w' := by
  have CC : Hid (∀ w, Calls _ _ _ _ _) := fun w => toldC b p m k n l u w l0 l1
  unfold frC at CC ⊢
  go_enter Tryz.func102, Tryz.ntmps102
  go_upto_region 1 with fail
  have HH : Hid (∀ w1, Below (w.alloc (.cells #[.string b, .int .u8 m, .int .u8 k, .int .u64 n, .int .u32 l, .string p, .int .u32 u] 126)).drew.heap.size (w.alloc (.cells #[.string b, .int .u8 m, .int .u8 k, .int .u64 n, .int .u32 l, .string p, .int .u32 u] 126)).drew w1 → Below w.heap.size w w1 ∧ w1.cell? ⟨w.heap.size, 0, none⟩ = some (.string b)) := fun w1 h1 => ⟨over (new_below _ _).drew h1, by rw [h1.cell (show w.heap.size < (w.alloc (.cells #[.string b, .int .u8 m, .int .u8 k, .int .u64 n, .int .u32 l, .string p, .int .u32 u] 126)).drew.heap.size by show w.heap.size < (w.alloc (.cells #[.string b, .int .u8 m, .int .u8 k, .int .u64 n, .int .u32 l, .string p, .int .u32 u] 126)).heap.size; simp)]; exact (cell7 (heap_alloc_new w _)).1⟩
  go_region_with (go_at_call 103; refine (CC.out _).mono ?_; rintro _ w1 ⟨rfl, b1⟩; obtain ⟨B1, c1⟩ := HH.out w1 b1; clear b1)
  all_goals
    go_wp2
    go_ret
    exact ⟨rfl, by first | exact B1.drew | exact B1⟩
set_option maxHeartbeats 1600000 in
theorem f8C (b p : ByteArray) (m k n l u : Int) (w : World) (l0 : 0 ≤ l) (l1 : l < 4294967296) :
    Calls Tryz.prog 104 #[.agg (frC b m k n l p u)] w fun e w' => e = .returned (.bool (decide (14 + l + 4 < (b.size : Int)))) ∧ Below w.heap.size w w' := by
  have CC : Hid (∀ w, Calls _ _ _ _ _) := fun w => toldC b p m k n l u w l0 l1
  unfold frC at CC ⊢
  go_enter Tryz.func104, Tryz.ntmps104
  go_upto_region 1 with fail
  have HH : Hid (∀ w1, Below (w.alloc (.cells #[.string b, .int .u8 m, .int .u8 k, .int .u64 n, .int .u32 l, .string p, .int .u32 u] 126)).drew.heap.size (w.alloc (.cells #[.string b, .int .u8 m, .int .u8 k, .int .u64 n, .int .u32 l, .string p, .int .u32 u] 126)).drew w1 → Below w.heap.size w w1 ∧ w1.cell? ⟨w.heap.size, 0, none⟩ = some (.string b)) := fun w1 h1 => ⟨over (new_below _ _).drew h1, by rw [h1.cell (show w.heap.size < (w.alloc (.cells #[.string b, .int .u8 m, .int .u8 k, .int .u64 n, .int .u32 l, .string p, .int .u32 u] 126)).drew.heap.size by show w.heap.size < (w.alloc (.cells #[.string b, .int .u8 m, .int .u8 k, .int .u64 n, .int .u32 l, .string p, .int .u32 u] 126)).heap.size; simp)]; exact (cell7 (heap_alloc_new w _)).1⟩
  go_region_with (go_at_call 103; refine (CC.out _).mono ?_; rintro _ w1 ⟨rfl, b1⟩; obtain ⟨B1, c1⟩ := HH.out w1 b1; clear b1)
  all_goals
    go_wp2
    go_ret
    exact ⟨rfl, by first | exact B1.drew | exact B1⟩
set_option maxHeartbeats 1600000 in
theorem f9C (b p : ByteArray) (m k n l u : Int) (w : World) (h0 : 4 ≤ b.size) (h1 : b.size ≤ 281474976710656) :
    Calls Tryz.prog 105 #[.agg (frC b m k n l p u)] w fun e w' => e = .returned (.bool (u != (crcF (b.extract 0 (b.size - 4)) : Nat))) ∧ Below w.heap.size w w' := by
  have CC : Hid (∀ w, Calls _ _ _ _ _) := fun w => reckC b p m k n l u w h0 h1
  obtain ⟨x, HX⟩ : ∃ x : Nat, Hid (crcF (b.extract 0 (b.size - 4)) = x) := ⟨_, rfl⟩
  rw [HX.out] at CC ⊢
  unfold frC at CC ⊢
  go_enter Tryz.func105, Tryz.ntmps105
  go_upto_region 1 with fail
  have HH : Hid (∀ w1, Below (w.alloc (.cells #[.string b, .int .u8 m, .int .u8 k, .int .u64 n, .int .u32 l, .string p, .int .u32 u] 126)).drew.heap.size (w.alloc (.cells #[.string b, .int .u8 m, .int .u8 k, .int .u64 n, .int .u32 l, .string p, .int .u32 u] 126)).drew w1 → Below w.heap.size w w1 ∧ w1.cell? ⟨w.heap.size, 6, none⟩ = some (.int .u32 u)) := fun w1 h1 => ⟨over (new_below _ _).drew h1, by rw [h1.cell (show w.heap.size < (w.alloc (.cells #[.string b, .int .u8 m, .int .u8 k, .int .u64 n, .int .u32 l, .string p, .int .u32 u] 126)).drew.heap.size by show w.heap.size < (w.alloc (.cells #[.string b, .int .u8 m, .int .u8 k, .int .u64 n, .int .u32 l, .string p, .int .u32 u] 126)).heap.size; simp)]; exact (cell7 (heap_alloc_new w _)).2.2.2.2.2.2⟩
  go_region_with (go_at_call 106; refine (CC.out _).mono ?_; rintro _ w1 ⟨rfl, b1⟩; obtain ⟨B1, c1⟩ := HH.out w1 b1; clear b1)
  all_goals
    go_wp2
    go_ret
    exact ⟨rfl, by first | exact B1.drew | exact B1⟩
end Go.Proofs.YtmindflfjocjlaaGreat.tqe

namespace Go.Proofs.YtmindflfjocjlaaGreat.tqf
open Go.RowKit Go.PlainAid Go.Shelf
open Go.Proofs.YtmindflfjocjlaaGreat.na Go.Proofs.YtmindflfjocjlaaGreat.nb Go.Proofs.YtmindflfjocjlaaGreat.tpa Go.Proofs.YtmindflfjocjlaaGreat.tpd Go.Proofs.YtmindflfjocjlaaGreat.tpe Go.Proofs.YtmindflfjocjlaaGreat.tra Go.Proofs.YtmindflfjocjlaaGreat.trb Go.Proofs.YtmindflfjocjlaaGreat.tri Go.Proofs.YtmindflfjocjlaaGreat.tqa Go.Proofs.YtmindflfjocjlaaGreat.tqb Go.Proofs.YtmindflfjocjlaaGreat.tqd Go.Proofs.YtmindflfjocjlaaGreat.tqe Go.Proofs.YtmindflfjocjlaaGreat.sb
set_option linter.unusedVariables false
set_option linter.unusedSimpArgs false

theorem cloneC (s : ByteArray) (w : World) (h : s.size ≤ 140737488355328) :
    Calls Tryz.prog 63 #[.string s] w fun e w' => e = .returned (.string s) ∧ Below w.heap.size w w' := by
  have CC : Hid (∀ w, Calls Tryz.prog 87 #[.string s] w fun e w' => e = .returned (.string s) ∧ Below w.heap.size w w') := fun w => AnyPu.stringslite_Clone laysC s w (by omega)
  go_enter Tryz.func63, Tryz.ntmps63
  go_wp2_with (go_at_call 87; refine (CC.out _).mono ?_; rintro _ w1 ⟨rfl, k1⟩; have K1 : Hid (Below w.heap.size w w1) := k1; clear k1)
  go_ret
  exact ⟨rfl, K1.out⟩
-- reading, a part at a time
def q1 (b : ByteArray) := cutL b 1
def q2 (b : ByteArray) := cutL (q1 b) 1
def q3 (b : ByteArray) := cutL (q2 b) 8
def q4 (b : ByteArray) := cutL (q3 b) 4
def fM (b : ByteArray) : Int := nx b 1
def fK (b : ByteArray) : Int := nx (q1 b) 1
def fN (b : ByteArray) : Int := nx (q2 b) 8
def fL (b : ByteArray) : Nat := (nx (q3 b) 4).toNat
def fP (b : ByteArray) : ByteArray := (q4 b).extract 0 (min (fL b) (q4 b).size)
def q5 (b : ByteArray) := cutL (q4 b) (fL b)
def fU (b : ByteArray) : Int := nx (q5 b) 4
theorem cutL_size (s : ByteArray) (n : Nat) : (cutL s n).size = s.size - n := by rw [cutL, ext_size]; omega
theorem cutL_at (b : ByteArray) (i n : Nat) (h : i + n ≤ b.size) : cutL (b.extract i b.size) n = b.extract (i + n) b.size := by
  have h1 := ext_size b i b.size
  rw [cutL]
  have h2 := ext_size (b.extract i b.size) (min n (b.extract i b.size).size) (b.extract i b.size).size
  have h3 := ext_size b (i + n) b.size
  refine ext_bt _ _ (by omega) ?_
  intro k hk
  rw [bt_extract _ _ _ k (by omega) (by omega), bt_extract b i b.size _ (by omega) (by omega), bt_extract b (i + n) b.size k (by omega) (by omega)]
  congr 1; omega
theorem nx_at (b : ByteArray) (i n : Nat) (h : i + n ≤ b.size) : nx (b.extract i b.size) n = beR b i n := by
  have h1 := ext_size b i b.size
  rw [nx, if_neg (by omega), beR_ext b i b.size 0 n (by omega) (by omega)]
  rfl
theorem q1_is (b : ByteArray) (h : 1 ≤ b.size) : q1 b = b.extract 1 b.size := by
  have := cutL_at b 0 1 (by omega)
  rw [ext_all b b.size rfl] at this
  exact this
theorem q2_is (b : ByteArray) (h : 2 ≤ b.size) : q2 b = b.extract 2 b.size := by rw [q2, q1_is b (by omega), cutL_at b 1 1 (by omega)]
theorem q3_is (b : ByteArray) (h : 10 ≤ b.size) : q3 b = b.extract 10 b.size := by rw [q3, q2_is b (by omega), cutL_at b 2 8 (by omega)]
theorem q4_is (b : ByteArray) (h : 14 ≤ b.size) : q4 b = b.extract 14 b.size := by rw [q4, q3_is b (by omega), cutL_at b 10 4 (by omega)]
theorem fM_is (b : ByteArray) (h : 1 ≤ b.size) : fM b = bt b 0 := by rw [fM, nx, if_neg (by omega), beR_one]
theorem fK_is (b : ByteArray) (h : 2 ≤ b.size) : fK b = bt b 1 := by rw [fK, q1_is b (by omega), nx_at b 1 1 (by omega), beR_one]
theorem fN_is (b : ByteArray) (h : 10 ≤ b.size) : fN b = beR b 2 8 := by rw [fN, q2_is b (by omega), nx_at b 2 8 (by omega)]
theorem fL_is (b : ByteArray) (h : 14 ≤ b.size) : (fL b : Int) = beR b 10 4 := by
  have h0 := beR_nonneg b 10 4
  rw [fL, q3_is b (by omega), nx_at b 10 4 (by omega)]; omega
theorem fP_is (b : ByteArray) (h : b.size = 18 + fL b) : fP b = b.extract 14 (b.size - 4) := by
  rw [fP, q4_is b (by omega)]
  generalize fL b = l at *
  have h1 := ext_size b 14 b.size
  have h2 := ext_size b 14 (b.size - 4)
  have h3 := ext_size (b.extract 14 b.size) 0 (min l (b.extract 14 b.size).size)
  refine ext_bt _ _ (by omega) ?_
  intro k hk
  rw [bt_extract _ _ _ k (by omega) (by omega), bt_extract b 14 b.size _ (by omega) (by omega), bt_extract b 14 _ k (by omega) (by omega)]
  exact congrArg (bt b) (by omega)
theorem fU_is (b : ByteArray) (h : b.size = 18 + fL b) : fU b = beR b (b.size - 4) 4 := by
  rw [fU, q5, q4_is b (by omega)]
  generalize fL b = l at *
  rw [cutL_at b 14 l (by omega), nx_at b (14 + l) 4 (by omega), show 14 + l = b.size - 4 by omega]
theorem fL_lt (b : ByteArray) : fL b < 4294967296 := by
  have h := nx_range (q3 b) 4
  have h256 : (256 : Int) ^ 4 = 4294967296 := by decide
  rw [h256] at h
  unfold fL; omega
theorem fM_rng (b : ByteArray) : 0 ≤ fM b ∧ fM b ≤ 255 := by
  have h := nx_range b 1
  have h256 : (256 : Int) ^ 1 = 256 := by decide
  rw [h256] at h
  unfold fM; omega
theorem fK_rng (b : ByteArray) : 0 ≤ fK b ∧ fK b ≤ 255 := by
  have h := nx_range (q1 b) 1
  have h256 : (256 : Int) ^ 1 = 256 := by decide
  rw [h256] at h
  unfold fK; omega
theorem fN_rng (b : ByteArray) : 0 ≤ fN b ∧ fN b ≤ 18446744073709551615 := by
  have h := nx_range (q2 b) 8
  have h256 : (256 : Int) ^ 8 = 18446744073709551616 := by decide
  rw [h256] at h
  unfold fN; omega
theorem fP_size (b : ByteArray) : (fP b).size ≤ fL b ∧ (fP b).size ≤ b.size := by
  have h1 : (q4 b).size ≤ b.size := by
    rw [q4, cutL_size, q3, cutL_size, q2, cutL_size, q1, cutL_size]; omega
  rw [fP, ext_size]; omega

-- the world while a frame is read
structure RF (w : World) (cs : Array Value) (s : ByteArray) (w' : World) : Prop where
  z : w'.heap[w.heap.size]? = some (.cells #[.string ⟨#[]⟩, .int .u8 0, .int .u8 0, .int .u64 0, .int .u32 0, .string ⟨#[]⟩, .int .u32 0] 126 (0, 0))
  f : w'.heap[w.heap.size + 1]? = some (.cells cs 126 (0, 0))
  r : w'.heap[w.heap.size + 2]? = some (.cells #[.string s] 114 (0, 0))
  b : Below w.heap.size w w'
theorem RF.later {w : World} {cs : Array Value} {s : ByteArray} {w1 w2 : World} (h : RF w cs s w1) (k : Below w1.heap.size w1 w2) : RF w cs s w2 := by
  have h1 := (Array.getElem?_eq_some_iff.1 h.r).1
  exact ⟨(k.block _ (by omega)).trans h.z, (k.block _ (by omega)).trans h.f, (k.block _ (by omega)).trans h.r, over h.b k⟩
theorem RF.step {w : World} {cs cs' : Array Value} {s : ByteArray} {w1 : World} (h : RF w cs s w1) (i : Nat) (v : Value) (s' : ByteArray) (hc : cs.setIfInBounds i v = cs') : RF w cs' s' ((w1.setCell ⟨w.heap.size + 1, i, none⟩ v).setCell ⟨w.heap.size + 2, 0, none⟩ (.string s')) := by
  have h1 := heap_setCell_same w1 _ i _ _ v h.f
  rw [hc] at h1
  have h2 : (w1.setCell ⟨w.heap.size + 1, i, none⟩ v).heap[w.heap.size + 2]? = some (.cells #[.string s] 114 (0, 0)) := by rw [Below.heap_setCell _ _ _ _ (by simp)]; exact h.r
  refine ⟨?_, ?_, ?_, ?_⟩
  · rw [Below.heap_setCell _ _ _ _ (by simp), Below.heap_setCell _ _ _ _ (by simp)]; exact h.z
  · rw [Below.heap_setCell _ _ _ _ (by simp)]; exact h1
  · exact heap_setCell_same _ _ 0 _ _ (.string s') h2
  · exact (h.b.setCell (by simp) _).setCell (by simp) _
theorem RF.rc {w : World} {cs : Array Value} {s : ByteArray} {w1 : World} (h : RF w cs s w1) : w1.cell? ⟨w.heap.size + 2, 0, none⟩ = some (.string s) := by rw [cell_of_row _ _ _ _ _ _ h.r]; rfl
theorem RF.rf {w : World} {cs : Array Value} {s : ByteArray} {w1 : World} (h : RF w cs s w1) : w1.frozen? ⟨w.heap.size + 2, 0, none⟩ = false := frozen_of_row _ _ _ _ _ h.r
theorem RF.fc {w : World} {cs : Array Value} {s : ByteArray} {w1 : World} (h : RF w cs s w1) (i : Nat) : w1.cell? ⟨w.heap.size + 1, i, none⟩ = cs[i]? := by rw [cell_of_row _ _ _ _ _ _ h.f]
theorem RF.ff {w : World} {cs : Array Value} {s : ByteArray} {w1 : World} (h : RF w cs s w1) (i : Nat) : w1.frozen? ⟨w.heap.size + 1, i, none⟩ = false := frozen_of_row _ _ _ _ _ h.f
-- seven cells written one behind the other
theorem put7 (w : World) (p : Nat) (a0 a1 a2 a3 a4 a5 a6 x0 x1 x2 x3 x4 x5 x6 : Value) (t : TypeId) (h : w.heap[p]? = some (.cells #[a0, a1, a2, a3, a4, a5, a6] t (0, 0))) (W : World)
    (hW : W = ((((((w.setCell ⟨p, 0, none⟩ x0).setCell ⟨p, 1, none⟩ x1).setCell ⟨p, 2, none⟩ x2).setCell ⟨p, 3, none⟩ x3).setCell ⟨p, 4, none⟩ x4).setCell ⟨p, 5, none⟩ x5).setCell ⟨p, 6, none⟩ x6) :
      W.heap[p]? = some (.cells #[x0, x1, x2, x3, x4, x5, x6] t (0, 0)) ∧ ∀ a, Below p a w → Below p a W := by
  obtain ⟨u0, e0⟩ : ∃ v, v = w.setCell ⟨p, 0, none⟩ x0 := ⟨_, rfl⟩
  rw [← e0] at hW
  have h0 : u0.heap[p]? = some (.cells #[x0, a1, a2, a3, a4, a5, a6] t (0, 0)) := by rw [e0]; exact heap_setCell_same _ _ 0 _ _ x0 h
  have k0 : ∀ a, Below p a w → Below p a u0 := by rw [e0]; exact fun a b => b.setCell (Nat.le_refl _) _
  clear e0
  obtain ⟨u1, e1⟩ : ∃ v, v = u0.setCell ⟨p, 1, none⟩ x1 := ⟨_, rfl⟩
  rw [← e1] at hW
  have h1 : u1.heap[p]? = some (.cells #[x0, x1, a2, a3, a4, a5, a6] t (0, 0)) := by rw [e1]; exact heap_setCell_same _ _ 1 _ _ x1 h0
  have k1 : ∀ a, Below p a u0 → Below p a u1 := by rw [e1]; exact fun a b => b.setCell (Nat.le_refl _) _
  clear e1
  obtain ⟨u2, e2⟩ : ∃ v, v = u1.setCell ⟨p, 2, none⟩ x2 := ⟨_, rfl⟩
  rw [← e2] at hW
  have h2 : u2.heap[p]? = some (.cells #[x0, x1, x2, a3, a4, a5, a6] t (0, 0)) := by rw [e2]; exact heap_setCell_same _ _ 2 _ _ x2 h1
  have k2 : ∀ a, Below p a u1 → Below p a u2 := by rw [e2]; exact fun a b => b.setCell (Nat.le_refl _) _
  clear e2
  obtain ⟨u3, e3⟩ : ∃ v, v = u2.setCell ⟨p, 3, none⟩ x3 := ⟨_, rfl⟩
  rw [← e3] at hW
  have h3 : u3.heap[p]? = some (.cells #[x0, x1, x2, x3, a4, a5, a6] t (0, 0)) := by rw [e3]; exact heap_setCell_same _ _ 3 _ _ x3 h2
  have k3 : ∀ a, Below p a u2 → Below p a u3 := by rw [e3]; exact fun a b => b.setCell (Nat.le_refl _) _
  clear e3
  obtain ⟨u4, e4⟩ : ∃ v, v = u3.setCell ⟨p, 4, none⟩ x4 := ⟨_, rfl⟩
  rw [← e4] at hW
  have h4 : u4.heap[p]? = some (.cells #[x0, x1, x2, x3, x4, a5, a6] t (0, 0)) := by rw [e4]; exact heap_setCell_same _ _ 4 _ _ x4 h3
  have k4 : ∀ a, Below p a u3 → Below p a u4 := by rw [e4]; exact fun a b => b.setCell (Nat.le_refl _) _
  clear e4
  obtain ⟨u5, e5⟩ : ∃ v, v = u4.setCell ⟨p, 5, none⟩ x5 := ⟨_, rfl⟩
  rw [← e5] at hW
  have h5 : u5.heap[p]? = some (.cells #[x0, x1, x2, x3, x4, x5, a6] t (0, 0)) := by rw [e5]; exact heap_setCell_same _ _ 5 _ _ x5 h4
  have k5 : ∀ a, Below p a u4 → Below p a u5 := by rw [e5]; exact fun a b => b.setCell (Nat.le_refl _) _
  clear e5
  have h6 : W.heap[p]? = some (.cells #[x0, x1, x2, x3, x4, x5, x6] t (0, 0)) := by rw [hW]; exact heap_setCell_same _ _ 6 _ _ x6 h5
  have k6 : ∀ a, Below p a u5 → Below p a W := by rw [hW]; exact fun a b => b.setCell (Nat.le_refl _) _
  exact ⟨h6, fun a b => k6 a (k5 a (k4 a (k3 a (k2 a (k1 a (k0 a b))))))⟩
theorem rf_new (w : World) (b : ByteArray) : RF w #[.string b, .int .u8 0, .int .u8 0, .int .u64 0, .int .u32 0, .string ⟨#[]⟩, .int .u32 0] b
    (((w.alloc (.cells #[.string ⟨#[]⟩, .int .u8 0, .int .u8 0, .int .u64 0, .int .u32 0, .string ⟨#[]⟩, .int .u32 0] 126)).alloc (.cells #[.string b, .int .u8 0, .int .u8 0, .int .u64 0, .int .u32 0, .string ⟨#[]⟩, .int .u32 0] 126)).alloc (.cells #[.string b] 114)) := by
  refine ⟨?_, ?_, ?_, ?_⟩
  · rw [heap_alloc_old _ _ (by simp; omega), heap_alloc_old _ _ (by simp)]; exact heap_alloc_new w _
  · rw [heap_alloc_old _ _ (by simp)]; exact heap_alloc2_new w _ _
  · have := heap_alloc_new ((w.alloc (.cells #[.string ⟨#[]⟩, .int .u8 0, .int .u8 0, .int .u64 0, .int .u32 0, .string ⟨#[]⟩, .int .u32 0] 126)).alloc (.cells #[.string b, .int .u8 0, .int .u8 0, .int .u64 0, .int .u32 0, .string ⟨#[]⟩, .int .u32 0] 126)) (.cells #[.string b] 114)
    simpa using this
  · exact (((Below.refl _ _).alloc (Nat.le_refl _) _).alloc (by simp) _).alloc (by simp; omega) _
set_option maxHeartbeats 6400000 in
theorem readFrameC (b : ByteArray) (w : World) (hs : b.size ≤ 281474976710656) :
    Calls Tryz.prog 81 #[.string b] w fun e w' => e = .returned (.agg (frC b (fM b) (fK b) (fN b) (fL b) (fP b) (fU b))) ∧ Below w.heap.size w w' := by
  have s1 : (q1 b).size ≤ b.size := by rw [q1, cutL_size]; omega
  have s2 : (q2 b).size ≤ b.size := by rw [q2, cutL_size]; omega
  have s3 : (q3 b).size ≤ b.size := by rw [q3, cutL_size]; omega
  have s4 : (q4 b).size ≤ b.size := by rw [q4, cutL_size]; omega
  have s5 : (q5 b).size ≤ b.size := by rw [q5, cutL_size]; omega
  have C1 : Hid (∀ w, Calls Tryz.prog 76 #[.agg #[.string b]] w fun e w' => e = .returned (.tuple #[.int .u8 (fM b), .agg #[.string (q1 b)]]) ∧ Below w.heap.size w w') := fun w => next8C b w hs
  have C2 : Hid (∀ w, Calls Tryz.prog 76 #[.agg #[.string (q1 b)]] w fun e w' => e = .returned (.tuple #[.int .u8 (fK b), .agg #[.string (q2 b)]]) ∧ Below w.heap.size w w') := fun w => next8C (q1 b) w (by omega)
  have C3 : Hid (∀ w, Calls Tryz.prog 75 #[.agg #[.string (q2 b)]] w fun e w' => e = .returned (.tuple #[.int .u64 (fN b), .agg #[.string (q3 b)]]) ∧ Below w.heap.size w w') := fun w => next64C (q2 b) w (by omega)
  have C4 : Hid (∀ w, Calls Tryz.prog 95 #[.agg #[.string (q3 b)]] w fun e w' => e = .returned (.tuple #[.int .u32 (fL b : Nat), .agg #[.string (q4 b)]]) ∧ Below w.heap.size w w') := fun w => by
    have h := next32C (q3 b) w (by omega)
    have e : ((fL b : Nat) : Int) = nx (q3 b) 4 := by have := (nx_range (q3 b) 4).1; unfold fL; omega
    rw [e]; exact h
  have hl := fL_lt b
  have C5 : Hid (∀ w, Calls Tryz.prog 74 #[.agg #[.string (q4 b)], .int .i64 (fL b : Nat)] w fun e w' => e = .returned (.tuple #[.string (fP b), .agg #[.string (q5 b)]]) ∧ Below w.heap.size w w') := fun w => takeC (q4 b) (fL b) _ w (by omega) (by omega) rfl
  have C6 : Hid (∀ w, Calls Tryz.prog 95 #[.agg #[.string (q5 b)]] w fun e w' => e = .returned (.tuple #[.int .u32 (fU b), .agg #[.string (cutL (q5 b) 4)]]) ∧ Below w.heap.size w w') := fun w => next32C (q5 b) w (by omega)
  have HN : Hid (RF _ _ _ _) := rf_new w b
  generalize fM b = m at *
  generalize fK b = k at *
  generalize fN b = n at *
  generalize fL b = l at *
  generalize fP b = p at *
  generalize fU b = u at *
  generalize cutL (q5 b) 4 = z6 at *
  generalize q1 b = z1 at *
  generalize q2 b = z2 at *
  generalize q3 b = z3 at *
  generalize q4 b = z4 at *
  generalize q5 b = z5 at *
  clear s1 s2 s3 s4 s5
  unfold frC
  go_enter Tryz.func81, Tryz.ntmps81
  go_wp2_with fail
  refine (C1.out _).mono ?_
  rintro _ w1 ⟨rfl, b1⟩
  have R1 : Hid (RF w #[.string b, .int .u8 0, .int .u8 0, .int .u64 0, .int .u32 0, .string ⟨#[]⟩, .int .u32 0] b w1) := HN.out.later b1
  clear b1
  have c1 := R1.out.fc 1
  have d1 := R1.out.ff 1
  have e1 := R1.out.rc
  have g1 := R1.out.rf
  simp only [List.getElem?_toArray, List.getElem?_cons_succ, List.getElem?_cons_zero] at c1
  go_wp2_with fail
  obtain ⟨x1, HX1⟩ : ∃ x, x = (w1.setCell ⟨w.heap.size + 1, 1, none⟩ (.int .u8 m)).setCell ⟨w.heap.size + 2, 0, none⟩ (.string z1) := ⟨_, rfl⟩
  have S1 : Hid (RF w #[.string b, .int .u8 m, .int .u8 0, .int .u64 0, .int .u32 0, .string ⟨#[]⟩, .int .u32 0] z1 x1) := by rw [HX1]; exact R1.out.step 1 _ _ rfl
  rw [← HX1]
  clear HX1 c1 d1 e1 g1 R1
  refine (C2.out _).mono ?_
  rintro _ w2 ⟨rfl, b2⟩
  have R2 : Hid (RF w #[.string b, .int .u8 m, .int .u8 0, .int .u64 0, .int .u32 0, .string ⟨#[]⟩, .int .u32 0] z1 w2) := S1.out.later b2
  clear b2
  have c2 := R2.out.fc 2
  have d2 := R2.out.ff 2
  have e2 := R2.out.rc
  have g2 := R2.out.rf
  simp only [List.getElem?_toArray, List.getElem?_cons_succ, List.getElem?_cons_zero] at c2
  go_wp2_with fail
  obtain ⟨x2, HX2⟩ : ∃ x, x = (w2.setCell ⟨w.heap.size + 1, 2, none⟩ (.int .u8 k)).setCell ⟨w.heap.size + 2, 0, none⟩ (.string z2) := ⟨_, rfl⟩
  have S2 : Hid (RF w #[.string b, .int .u8 m, .int .u8 k, .int .u64 0, .int .u32 0, .string ⟨#[]⟩, .int .u32 0] z2 x2) := by rw [HX2]; exact R2.out.step 2 _ _ rfl
  rw [← HX2]
  clear HX2 c2 d2 e2 g2 R2
  refine (C3.out _).mono ?_
  rintro _ w3 ⟨rfl, b3⟩
  have R3 : Hid (RF w #[.string b, .int .u8 m, .int .u8 k, .int .u64 0, .int .u32 0, .string ⟨#[]⟩, .int .u32 0] z2 w3) := S2.out.later b3
  clear b3
  have c3 := R3.out.fc 3
  have d3 := R3.out.ff 3
  have e3 := R3.out.rc
  have g3 := R3.out.rf
  simp only [List.getElem?_toArray, List.getElem?_cons_succ, List.getElem?_cons_zero] at c3
  go_wp2_with fail
  obtain ⟨x3, HX3⟩ : ∃ x, x = (w3.setCell ⟨w.heap.size + 1, 3, none⟩ (.int .u64 n)).setCell ⟨w.heap.size + 2, 0, none⟩ (.string z3) := ⟨_, rfl⟩
  have S3 : Hid (RF w #[.string b, .int .u8 m, .int .u8 k, .int .u64 n, .int .u32 0, .string ⟨#[]⟩, .int .u32 0] z3 x3) := by rw [HX3]; exact R3.out.step 3 _ _ rfl
  rw [← HX3]
  clear HX3 c3 d3 e3 g3 R3
  refine (C4.out _).mono ?_
  rintro _ w4 ⟨rfl, b4⟩
  have R4 : Hid (RF w #[.string b, .int .u8 m, .int .u8 k, .int .u64 n, .int .u32 0, .string ⟨#[]⟩, .int .u32 0] z3 w4) := S3.out.later b4
  clear b4
  have c4 := R4.out.fc 4
  have d4 := R4.out.ff 4
  have e4 := R4.out.rc
  have g4 := R4.out.rf
  simp only [List.getElem?_toArray, List.getElem?_cons_succ, List.getElem?_cons_zero] at c4
  go_wp2_with fail
  obtain ⟨x4, HX4⟩ : ∃ x, x = (w4.setCell ⟨w.heap.size + 1, 4, none⟩ (.int .u32 l)).setCell ⟨w.heap.size + 2, 0, none⟩ (.string z4) := ⟨_, rfl⟩
  have S4 : Hid (RF w #[.string b, .int .u8 m, .int .u8 k, .int .u64 n, .int .u32 l, .string ⟨#[]⟩, .int .u32 0] z4 x4) := by rw [HX4]; exact R4.out.step 4 _ _ rfl
  rw [← HX4]
  clear HX4 c4 d4 e4 g4 R4
  refine (C5.out _).mono ?_
  rintro _ w5 ⟨rfl, b5⟩
  have R5 : Hid (RF w #[.string b, .int .u8 m, .int .u8 k, .int .u64 n, .int .u32 l, .string ⟨#[]⟩, .int .u32 0] z4 w5) := S4.out.later b5
  clear b5
  have c5 := R5.out.fc 5
  have d5 := R5.out.ff 5
  have e5 := R5.out.rc
  have g5 := R5.out.rf
  simp only [List.getElem?_toArray, List.getElem?_cons_succ, List.getElem?_cons_zero] at c5
  go_wp2_with fail
  obtain ⟨x5, HX5⟩ : ∃ x, x = (w5.setCell ⟨w.heap.size + 1, 5, none⟩ (.string p)).setCell ⟨w.heap.size + 2, 0, none⟩ (.string z5) := ⟨_, rfl⟩
  have S5 : Hid (RF w #[.string b, .int .u8 m, .int .u8 k, .int .u64 n, .int .u32 l, .string p, .int .u32 0] z5 x5) := by rw [HX5]; exact R5.out.step 5 _ _ rfl
  rw [← HX5]
  clear HX5 c5 d5 e5 g5 R5
  refine (C6.out _).mono ?_
  rintro _ w6 ⟨rfl, b6⟩
  have R6 : Hid (RF w #[.string b, .int .u8 m, .int .u8 k, .int .u64 n, .int .u32 l, .string p, .int .u32 0] z5 w6) := S5.out.later b6
  clear b6
  have c6 := R6.out.fc 6
  have d6 := R6.out.ff 6
  have e6 := R6.out.rc
  have g6 := R6.out.rf
  simp only [List.getElem?_toArray, List.getElem?_cons_succ, List.getElem?_cons_zero] at c6
  have HF : Hid (RF w #[.string b, .int .u8 m, .int .u8 k, .int .u64 n, .int .u32 l, .string p, .int .u32 u] z5 (w6.setCell ⟨w.heap.size + 1, 6, none⟩ (.int .u32 u))) := by
    refine ⟨?_, ?_, ?_, ?_⟩
    · rw [Below.heap_setCell _ _ _ _ (by simp)]; exact R6.out.z
    · exact heap_setCell_same w6 _ 6 _ _ (.int .u32 u) R6.out.f
    · rw [Below.heap_setCell _ _ _ _ (by simp)]; exact R6.out.r
    · exact R6.out.b.setCell (by simp) _
  go_upto_region 9 with fail
  obtain ⟨x6, HX6⟩ : ∃ x, x = w6.setCell ⟨w.heap.size + 1, 6, none⟩ (.int .u32 u) := ⟨_, rfl⟩
  rw [← HX6] at HF ⊢
  clear HX6 c6 d6 e6 g6 R6
  obtain ⟨c0, c1, c2, c3, c4, c5, c6⟩ := cell7 HF.out.f
  obtain ⟨d0, d1, d2, d3, d4, d5, d6⟩ := cell7 HF.out.z
  have g0 := frozen_of_row _ _ 0 _ _ HF.out.z
  have g1 := frozen_of_row _ _ 1 _ _ HF.out.z
  have g2 := frozen_of_row _ _ 2 _ _ HF.out.z
  have g3 := frozen_of_row _ _ 3 _ _ HF.out.z
  have g4 := frozen_of_row _ _ 4 _ _ HF.out.z
  have g5 := frozen_of_row _ _ 5 _ _ HF.out.z
  have g6 := frozen_of_row _ _ 6 _ _ HF.out.z
  have FIN : Hid (∀ W', W' = _ → _) := put7 x6 w.heap.size _ _ _ _ _ _ _ (.string b) (.int .u8 m) (.int .u8 k) (.int .u64 n) (.int .u32 l) (.string p) (.int .u32 u) _ HF.out.z
  go_wp2
  generalize hWW : (World.setCell _ ⟨w.heap.size, 6, none⟩ (.int .u32 u)) = W'
  obtain ⟨G, GB⟩ := FIN.out W' hWW.symm
  obtain ⟨y0, y1, y2, y3, y4, y5, y6⟩ := cell7 G
  refine bodyPost_ret (by simp [results, Tryz.results81, go_sem, y0, y1, y2, y3, y4, y5, y6]; try rfl) rfl ?_
  exact ⟨rfl, GB _ HF.out.b⟩

end Go.Proofs.YtmindflfjocjlaaGreat.tqf
