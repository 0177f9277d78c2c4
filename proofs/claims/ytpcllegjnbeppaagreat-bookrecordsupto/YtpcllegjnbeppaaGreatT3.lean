import Derived.Test.YtpcllegjnbeppaaGreatT1
import Derived.Lib.MinMax
import Derived.RegionTactic
import Derived.BigRegion
import Derived.BigQuiet
import Derived.Deep.QuietTactic
import Derived.Handy
import Derived.Deep.MidRow
import Derived.Laws.Rows
import Derived.Deep.DeepCutAuto
import Derived.Deep.RegionHeld3
import Derived.Laws.Strings2
import Derived.Deep.RegionWith
import Derived.Test.YtpcllegjnbeppaaGreatG2
import Derived.Deep.LoopGhost
import Derived.Laws.EntriesVeiled
import Derived.Shelf.Abstract
namespace Go.Proofs.YtpcllegjnbeppaaGreat.tqc
open Go.RowKit Go.PlainAid
open Go.Proofs.YtpcllegjnbeppaaGreat.na Go.Proofs.YtpcllegjnbeppaaGreat.nb Go.Proofs.YtpcllegjnbeppaaGreat.tpa Go.Proofs.YtpcllegjnbeppaaGreat.tpd Go.Proofs.YtpcllegjnbeppaaGreat.tra Go.Proofs.YtpcllegjnbeppaaGreat.trb Go.Proofs.YtpcllegjnbeppaaGreat.tqa Go.Proofs.YtpcllegjnbeppaaGreat.tqb
set_option linter.unusedVariables false
set_option linter.unusedSimpArgs false

def wi (n : Int) : Int := if n < 0 then 0 else n
def kd (k : Int) : Int := k % 255 + 1
theorem wi_ok (n : Int) (h : n ≤ 9223372036854775807) : 0 ≤ wi n ∧ wi n ≤ 9223372036854775807 := by unfold wi; split <;> omega
theorem kd_ok (k : Int) : 1 ≤ kd k ∧ kd k ≤ 255 := by unfold kd; omega
theorem ret_i (x y : Int) (h : x = y) : Ending.returned (.int .i64 x) = .returned (.int .i64 y) := by rw [h]
-- a key as a number
theorem beR_split (b : ByteArray) (p k m : Nat) : beR b p (k + m) = beR b p k * 256 ^ m + beR b (p + k) m := by
  induction m with
  | zero => simp [beR]
  | succ m ih =>
    have e : beR b p (k + (m + 1)) = beR b p (k + m) * 256 + bt b (p + (k + m)) := rfl
    have e2 : beR b (p + k) (m + 1) = beR b (p + k) m * 256 + bt b (p + k + m) := rfl
    rw [e, e2, ih, Int.pow_succ, Nat.add_assoc]
    rw [Int.add_mul, Int.mul_assoc, Int.add_assoc]
theorem keyT_space (s k n : Int) (h0 : 0 ≤ s) (h1 : s ≤ 18446744073709551615) : beR (keyT s k n) 1 8 = s := by
  have h := read_mid (str [66]) (str [k] ++ str (lowB n 8)) s 8 (fit8 s h0 h1)
  rw [keyT_parts, app_assoc (str [66] ++ str (lowB s 8))]
  exact h
theorem keyT_kind (s k n : Int) (h0 : 0 ≤ k) (h1 : k ≤ 255) : beR (keyT s k n) 9 1 = k := by
  have e := app_size (str [66]) (str (lowB s 8))
  have e66 := str_size [(66 : Int)]
  have e8 := str_size (lowB s 8)
  have ek := str_size [k]
  rw [lowB_length] at e8
  have e2 := app_size (str [66] ++ str (lowB s 8)) (str [k])
  simp only [List.length_cons, List.length_nil] at e66 ek
  rw [e66, e8] at e
  rw [e, ek] at e2
  rw [beR_one, keyT_parts, bt_append_left _ _ _ (by omega)]
  have h := bt_append_right (str [66] ++ str (lowB s 8)) (str [k]) 0
  rw [e] at h
  rw [h]
  exact one_bt k h0 h1
theorem keyT_number (s k n : Int) (h0 : 0 ≤ n) (h1 : n ≤ 18446744073709551615) : beR (keyT s k n) 10 8 = n := by
  have e := app_size (str [66]) (str (lowB s 8))
  have e66 := str_size [(66 : Int)]
  have e8 := str_size (lowB s 8)
  have ek := str_size [k]
  rw [lowB_length] at e8
  have e2 := app_size (str [66] ++ str (lowB s 8)) (str [k])
  simp only [List.length_cons, List.length_nil] at e66 ek
  rw [e66, e8] at e
  rw [e, ek] at e2
  have h := read_mid (str [66] ++ str (lowB s 8) ++ str [k]) ByteArray.empty n 8 (fit8 n h0 h1)
  rw [e2, ByteArray.append_empty] at h
  rw [keyT_parts]
  exact h
theorem keyT_letter (s k n : Int) : beR (keyT s k n) 0 1 = 66 := by
  have e := app_size (str [66]) (str (lowB s 8))
  have e0 := str_size [(66 : Int)]
  simp at e0
  have e2 := app_size (str [66] ++ str (lowB s 8)) (str [k])
  rw [beR_one, keyT_parts, bt_append_left _ _ _ (by omega), bt_append_left _ _ _ (by omega), bt_append_left _ _ _ (by omega)]
  exact one_bt 66 (by omega) (by omega)
def keyV (s k n : Int) : Int := ((66 * 18446744073709551616 + s) * 256 + k) * 18446744073709551616 + n
theorem keyT_val (s k n : Int) (s0 : 0 ≤ s) (s1 : s ≤ 18446744073709551615) (k0 : 0 ≤ k) (k1 : k ≤ 255) (n0 : 0 ≤ n) (n1 : n ≤ 18446744073709551615) : beR (keyT s k n) 0 18 = keyV s k n := by
  rw [beR_split (keyT s k n) 0 10 8, beR_split (keyT s k n) 0 9 1, beR_split (keyT s k n) 0 1 8, Nat.zero_add, Nat.zero_add, Nat.zero_add, keyT_letter, keyT_space s k n s0 s1, keyT_kind s k n k0 k1, keyT_number s k n n0 n1]
  rfl
theorem keyT_low (s k n : Int) (s0 : 0 ≤ s) (s1 : s ≤ 18446744073709551615) (k0 : 0 ≤ k) (k1 : k ≤ 255) (n0 : 0 ≤ n) (n1 : n ≤ 18446744073709551615) : keyT s k n = str (lowB (keyV s k n) 18) ∧ keyV s k n / 256 ^ 18 = 0 := by
  rw [← keyT_val s k n s0 s1 k0 k1 n0 n1]
  have hz := keyT_size s k n
  refine ⟨?_, read_fits _ _ _⟩
  rw [put_read (keyT s k n) 0 18 (by omega), ext_all _ _ (by omega)]
theorem key_same (s k n t l m : Int) (s0 : 0 ≤ s) (s1 : s ≤ 9223372036854775807) (k0 : 0 ≤ k) (k1 : k ≤ 255) (n0 : 0 ≤ n) (n1 : n ≤ 9223372036854775807) (t0 : 0 ≤ t) (t1 : t ≤ 9223372036854775807) (l0 : 0 ≤ l) (l1 : l ≤ 255) (m0 : 0 ≤ m) (m1 : m ≤ 9223372036854775807) :
    ((keyT s k n).toList == (keyT t l m).toList) = ((s == t) && (k == l) && (n == m)) := by
  obtain ⟨e1, f1⟩ := keyT_low s k n s0 (by omega) k0 k1 n0 (by omega)
  obtain ⟨e2, f2⟩ := keyT_low t l m t0 (by omega) l0 l1 m0 (by omega)
  rw [e1, e2, same_iff _ _ 18 f1 f2]
  rw [Bool.eq_iff_iff]
  simp only [beq_iff_eq, Bool.and_eq_true]
  unfold keyV
  omega
theorem key_less (s k n t l m : Int) (s0 : 0 ≤ s) (s1 : s ≤ 9223372036854775807) (k0 : 0 ≤ k) (k1 : k ≤ 255) (n0 : 0 ≤ n) (n1 : n ≤ 9223372036854775807) (t0 : 0 ≤ t) (t1 : t ≤ 9223372036854775807) (l0 : 0 ≤ l) (l1 : l ≤ 255) (m0 : 0 ≤ m) (m1 : m ≤ 9223372036854775807) :
    Op.bytesLess (keyT s k n).toList (keyT t l m).toList = decide (s < t ∨ s = t ∧ (k < l ∨ k = l ∧ n < m)) := by
  obtain ⟨e1, f1⟩ := keyT_low s k n s0 (by omega) k0 k1 n0 (by omega)
  obtain ⟨e2, f2⟩ := keyT_low t l m t0 (by omega) l0 l1 m0 (by omega)
  rw [e1, e2, less_iff _ _ 18 f1 f2, decide_eq_decide]
  unfold keyV
  omega

end Go.Proofs.YtpcllegjnbeppaaGreat.tqc

namespace Go.Proofs.YtpcllegjnbeppaaGreat.tqd
open Go.RowKit Go.PlainAid
open Go.Proofs.YtpcllegjnbeppaaGreat.na Go.Proofs.YtpcllegjnbeppaaGreat.nb Go.Proofs.YtpcllegjnbeppaaGreat.tpa Go.Proofs.YtpcllegjnbeppaaGreat.tpd Go.Proofs.YtpcllegjnbeppaaGreat.tpe Go.Proofs.YtpcllegjnbeppaaGreat.tra Go.Proofs.YtpcllegjnbeppaaGreat.trb Go.Proofs.YtpcllegjnbeppaaGreat.tqa Go.Proofs.YtpcllegjnbeppaaGreat.tqb
set_option linter.unusedVariables false
set_option linter.unusedSimpArgs false

set_option maxRecDepth 100000 in
theorem len8 (w : World) : Calls Tryz.prog 139 #[.int .u64 255] w fun e w' => e = .returned (.int .i64 8) ∧ w' = w := by
  go_enter Tryz.func139, Tryz.ntmps139
  go_wp2
  go_ret
  exact ⟨by kernel_rfl, rfl⟩
set_option maxRecDepth 100000 in
theorem len32 (w : World) : Calls Tryz.prog 139 #[.int .u64 4294967295] w fun e w' => e = .returned (.int .i64 32) ∧ w' = w := by
  go_enter Tryz.func139, Tryz.ntmps139
  go_wp2
  go_ret
  exact ⟨by kernel_rfl, rfl⟩
set_option maxRecDepth 100000 in
theorem len64 (w : World) : Calls Tryz.prog 139 #[.int .u64 18446744073709551615] w fun e w' => e = .returned (.int .i64 64) ∧ w' = w := by
  go_enter Tryz.func139, Tryz.ntmps139
  go_wp2
  go_ret
  exact ⟨by kernel_rfl, rfl⟩

theorem takeC (s : ByteArray) (c m : Nat) (w : World) (hs : s.size ≤ 281474976710656) (hc : c ≤ 9223372036854775807) (HM : Hid (min c s.size = m)) :
    Calls Tryz.prog 110 #[.agg #[.string s], .int .i64 c] w fun e w' => e = .returned (.tuple #[.string (s.extract 0 m), .agg #[.string (s.extract m s.size)]]) ∧ Below w.heap.size w w' := by
  have hm : m ≤ s.size := by have := HM.out; omega
  have hmi : min (c : Int) (s.size : Int) = (m : Int) := by have := HM.out; omega
  have hm0 : (0 : Int) ≤ (m : Int) := by omega
  have hm1 : (m : Int) ≤ (s.size : Int) := by omega
  go_enter Tryz.func110, Tryz.ntmps110
  go_upto_region 2 with fail
  go_region
  go_wp2
  refine bodyPost_ret (by simp [results, Tryz.results110, go_sem]; try rfl) rfl ?_
  exact ⟨rfl, (((Below.refl _ _).alloc (Nat.le_refl _) _).alloc (by simp) _).drew⟩
def nx (s : ByteArray) (n : Nat) : Int := if s.size < n then 0 else beR s 0 n
def cutL (s : ByteArray) (n : Nat) : ByteArray := s.extract (min n s.size) s.size
theorem nx_range (s : ByteArray) (n : Nat) : 0 ≤ nx s n ∧ nx s n < 256 ^ n := by
  unfold nx
  split
  · exact ⟨by omega, Int.pow_pos (by omega)⟩
  · exact ⟨beR_nonneg _ _ _, beR_lt _ _ _⟩
def nxE (s : ByteArray) (n : Nat) : Int := if s.size < n then 10 else 0
theorem beC (s : ByteArray) (n : Nat) (w : World) (hs : s.size ≤ 281474976710656) (h1 : 1 ≤ n) (h8 : n ≤ 8) : Calls Tryz.prog 140 #[.string (s.extract 0 (min n s.size)), .int .i64 0, .int .i64 n] w fun e w' => e = .returned (.tuple #[.int .u64 (nx s n), .int .i64 (nxE s n)]) ∧ w' = w := by
  have hz := ext_size s 0 (min n s.size)
  unfold nx nxE
  by_cases h : s.size < n
  · rw [if_pos h, if_pos h]
    exact be_range _ 0 n w (by omega) (by omega)
  · rw [if_neg h, if_neg h]
    have e : beR s 0 n = beR (s.extract 0 (min n s.size)) 0 n := (beR_ext s 0 (min n s.size) 0 n (by omega) (by omega)).symm
    rw [e]
    exact be_any _ 0 n w (by omega) h1 h8 (by omega)
theorem two_new {w w1 : World} {o1 o2 : Obj} (b : Below ((w.alloc o1).alloc o2).heap.size ((w.alloc o1).alloc o2) w1) : w1.heap[w.heap.size]? = some o1 ∧ w1.heap[w.heap.size + 1]? = some o2 := by
  refine ⟨(b.block _ (by simp; omega)).trans ?_, (b.block _ (by simp)).trans ?_⟩
  · rw [heap_alloc_old _ _ (by simp)]; exact heap_alloc_new w _
  · exact heap_alloc2_new w _ _
theorem two_below {w w1 : World} {o1 o2 : Obj} (b : Below ((w.alloc o1).alloc o2).heap.size ((w.alloc o1).alloc o2) w1) : Below w.heap.size w w1 :=
  (((Below.refl _ _).alloc (Nat.le_refl _) _).alloc (by simp) _).trans (b.mono (by simp; omega))
set_option maxHeartbeats 1600000 in
theorem next8C (s : ByteArray) (w : World) (hs : s.size ≤ 281474976710656) :
    Calls Tryz.prog 112 #[.agg #[.string s]] w fun e w' => e = .returned (.tuple #[.int .u8 (nx s 1), .agg #[.string (cutL s 1)]]) ∧ Below w.heap.size w w' := by
  have CL : Hid (∀ w, Calls _ _ _ _ _) := fun w => len8 w
  have CT : Hid (∀ w, Calls _ _ _ _ _) := fun w => takeC s 1 _ w hs (by omega) rfl
  have CB : Hid (∀ w, Calls _ _ _ _ _) := fun w => beC s 1 w hs (by omega) (by omega)
  have hr := nx_range s 1
  have h256 : (256 : Int) ^ 1 = 256 := by decide
  rw [h256] at hr
  have hr0 := hr.1
  have hr1 := hr.2
  have HXO : Hid (IntKind.u64.wrap (bits BinOp.xor IntKind.u8 IntKind.u8.max 0) = 255) := by show _ = _; decide +kernel
  obtain ⟨r, HR⟩ : ∃ r, Hid (cutL s 1 = r) := ⟨_, rfl⟩
  have HR' : Hid (s.extract (min 1 s.size) s.size = r) := HR.out
  obtain ⟨q, HQ⟩ : ∃ q, Hid (s.extract 0 (min 1 s.size) = q) := ⟨_, rfl⟩
  obtain ⟨x, HX⟩ : ∃ x, Hid (nx s 1 = x) := ⟨_, rfl⟩
  obtain ⟨y, HY⟩ : ∃ y, Hid (nxE s 1 = y) := ⟨_, rfl⟩
  rw [HQ.out, HR'.out] at CT
  rw [HQ.out, HX.out, HY.out] at CB
  rw [HX.out] at hr0 hr1 ⊢
  rw [HR.out]
  have hwr : IntKind.u8.wrap x = x := by rw [IntKind.wrap_u8]; omega
  clear hr h256 HR HR' HQ HX HY
  go_enter Tryz.func112, Tryz.ntmps112
  go_wp2_with fail
  rw [HXO.out]
  refine (CL.out _).mono ?_
  rintro _ _ ⟨rfl, hw⟩; rw [hw]; clear hw
  go_wp2_with fail
  refine (CT.out _).mono ?_
  rintro _ w1 ⟨rfl, b1⟩
  have B1 : Hid (Below w.heap.size w w1) := two_below b1
  obtain ⟨h0, h1⟩ := two_new b1
  clear b1
  have c0 : w1.cell? ⟨w.heap.size, 0, none⟩ = some (.string s) := by rw [cell_of_row _ _ _ _ _ _ h0]; rfl
  have f0 : w1.frozen? ⟨w.heap.size, 0, none⟩ = false := frozen_of_row _ _ _ _ _ h0
  have H1 : Hid _ := h1
  have H0 : Hid _ := heap_setCell_same w1 _ 0 _ _ (.string r) h0
  clear h0 h1
  go_wp2_with fail
  refine (CB.out _).mono ?_
  rintro _ _ ⟨rfl, hw⟩; rw [hw]; clear hw
  obtain ⟨w2, HW⟩ : ∃ w2, w2 = w1.setCell ⟨w.heap.size, 0, none⟩ (.string r) := ⟨_, rfl⟩
  have B2 : Hid (Below w.heap.size w w2) := by rw [HW]; exact B1.out.setCell (Nat.le_refl _) _
  have h1 : w2.heap[w.heap.size + 1]? = some (.cells #[.string ⟨#[]⟩] 170) := by rw [HW, Below.heap_setCell _ _ _ _ (by simp)]; exact H1.out
  have h0 : w2.heap[w.heap.size]? = some (.cells #[.string r] 170) := by rw [HW]; exact H0.out
  rw [← HW]
  clear HW c0 f0 H1 H0 B1
  have c0 : w2.cell? ⟨w.heap.size, 0, none⟩ = some (.string r) := by rw [cell_of_row _ _ _ _ _ _ h0]; rfl
  have c1 : w2.cell? ⟨w.heap.size + 1, 0, none⟩ = some (.string ⟨#[]⟩) := by rw [cell_of_row _ _ _ _ _ _ h1]; rfl
  have f1 : w2.frozen? ⟨w.heap.size + 1, 0, none⟩ = false := frozen_of_row _ _ _ _ _ h1
  have HF : Hid _ := heap_setCell_same w2 _ 0 _ _ (.string r) h1
  clear h0 h1
  go_upto_region 4 with fail
  go_region
  go_wp2
  have G : ((w2.setCell ⟨w.heap.size + 1, 0, none⟩ (.string r)).drew).cell? ⟨w.heap.size + 1, 0, none⟩ = some (.string r) := (cell_of_row _ _ 0 _ _ _ HF.out)
  refine bodyPost_ret (by simp [results, Tryz.results112, go_sem, G]; try rfl) rfl ?_
  exact ⟨rfl, (B2.out.setCell (by simp) _).drew⟩
set_option maxHeartbeats 1600000 in
theorem next32C (s : ByteArray) (w : World) (hs : s.size ≤ 281474976710656) :
    Calls Tryz.prog 127 #[.agg #[.string s]] w fun e w' => e = .returned (.tuple #[.int .u32 (nx s 4), .agg #[.string (cutL s 4)]]) ∧ Below w.heap.size w w' := by
  have CL : Hid (∀ w, Calls _ _ _ _ _) := fun w => len32 w
  have CT : Hid (∀ w, Calls _ _ _ _ _) := fun w => takeC s 4 _ w hs (by omega) rfl
  have CB : Hid (∀ w, Calls _ _ _ _ _) := fun w => beC s 4 w hs (by omega) (by omega)
  have hr := nx_range s 4
  have h256 : (256 : Int) ^ 4 = 4294967296 := by decide
  rw [h256] at hr
  have hr0 := hr.1
  have hr1 := hr.2
  have HXO : Hid (IntKind.u64.wrap (bits BinOp.xor IntKind.u32 IntKind.u32.max 0) = 4294967295) := by show _ = _; decide +kernel
  obtain ⟨r, HR⟩ : ∃ r, Hid (cutL s 4 = r) := ⟨_, rfl⟩
  have HR' : Hid (s.extract (min 4 s.size) s.size = r) := HR.out
  obtain ⟨q, HQ⟩ : ∃ q, Hid (s.extract 0 (min 4 s.size) = q) := ⟨_, rfl⟩
  obtain ⟨x, HX⟩ : ∃ x, Hid (nx s 4 = x) := ⟨_, rfl⟩
  obtain ⟨y, HY⟩ : ∃ y, Hid (nxE s 4 = y) := ⟨_, rfl⟩
  rw [HQ.out, HR'.out] at CT
  rw [HQ.out, HX.out, HY.out] at CB
  rw [HX.out] at hr0 hr1 ⊢
  rw [HR.out]
  have hwr : IntKind.u32.wrap x = x := by rw [IntKind.wrap_u32]; omega
  clear hr h256 HR HR' HQ HX HY
  go_enter Tryz.func127, Tryz.ntmps127
  go_wp2_with fail
  rw [HXO.out]
  refine (CL.out _).mono ?_
  rintro _ _ ⟨rfl, hw⟩; rw [hw]; clear hw
  go_wp2_with fail
  refine (CT.out _).mono ?_
  rintro _ w1 ⟨rfl, b1⟩
  have B1 : Hid (Below w.heap.size w w1) := two_below b1
  obtain ⟨h0, h1⟩ := two_new b1
  clear b1
  have c0 : w1.cell? ⟨w.heap.size, 0, none⟩ = some (.string s) := by rw [cell_of_row _ _ _ _ _ _ h0]; rfl
  have f0 : w1.frozen? ⟨w.heap.size, 0, none⟩ = false := frozen_of_row _ _ _ _ _ h0
  have H1 : Hid _ := h1
  have H0 : Hid _ := heap_setCell_same w1 _ 0 _ _ (.string r) h0
  clear h0 h1
  go_wp2_with fail
  refine (CB.out _).mono ?_
  rintro _ _ ⟨rfl, hw⟩; rw [hw]; clear hw
  obtain ⟨w2, HW⟩ : ∃ w2, w2 = w1.setCell ⟨w.heap.size, 0, none⟩ (.string r) := ⟨_, rfl⟩
  have B2 : Hid (Below w.heap.size w w2) := by rw [HW]; exact B1.out.setCell (Nat.le_refl _) _
  have h1 : w2.heap[w.heap.size + 1]? = some (.cells #[.string ⟨#[]⟩] 170) := by rw [HW, Below.heap_setCell _ _ _ _ (by simp)]; exact H1.out
  have h0 : w2.heap[w.heap.size]? = some (.cells #[.string r] 170) := by rw [HW]; exact H0.out
  rw [← HW]
  clear HW c0 f0 H1 H0 B1
  have c0 : w2.cell? ⟨w.heap.size, 0, none⟩ = some (.string r) := by rw [cell_of_row _ _ _ _ _ _ h0]; rfl
  have c1 : w2.cell? ⟨w.heap.size + 1, 0, none⟩ = some (.string ⟨#[]⟩) := by rw [cell_of_row _ _ _ _ _ _ h1]; rfl
  have f1 : w2.frozen? ⟨w.heap.size + 1, 0, none⟩ = false := frozen_of_row _ _ _ _ _ h1
  have HF : Hid _ := heap_setCell_same w2 _ 0 _ _ (.string r) h1
  clear h0 h1
  go_upto_region 4 with fail
  go_region
  go_wp2
  have G : ((w2.setCell ⟨w.heap.size + 1, 0, none⟩ (.string r)).drew).cell? ⟨w.heap.size + 1, 0, none⟩ = some (.string r) := (cell_of_row _ _ 0 _ _ _ HF.out)
  refine bodyPost_ret (by simp [results, Tryz.results127, go_sem, G]; try rfl) rfl ?_
  exact ⟨rfl, (B2.out.setCell (by simp) _).drew⟩
set_option maxHeartbeats 1600000 in
theorem next64C (s : ByteArray) (w : World) (hs : s.size ≤ 281474976710656) :
    Calls Tryz.prog 111 #[.agg #[.string s]] w fun e w' => e = .returned (.tuple #[.int .u64 (nx s 8), .agg #[.string (cutL s 8)]]) ∧ Below w.heap.size w w' := by
  have CL : Hid (∀ w, Calls _ _ _ _ _) := fun w => len64 w
  have CT : Hid (∀ w, Calls _ _ _ _ _) := fun w => takeC s 8 _ w hs (by omega) rfl
  have CB : Hid (∀ w, Calls _ _ _ _ _) := fun w => beC s 8 w hs (by omega) (by omega)
  have hr := nx_range s 8
  have h256 : (256 : Int) ^ 8 = 18446744073709551616 := by decide
  rw [h256] at hr
  have hr0 := hr.1
  have hr1 := hr.2
  have HXO : Hid (bits BinOp.xor IntKind.u64 IntKind.u64.max 0 = 18446744073709551615) := by show _ = _; decide +kernel
  obtain ⟨r, HR⟩ : ∃ r, Hid (cutL s 8 = r) := ⟨_, rfl⟩
  have HR' : Hid (s.extract (min 8 s.size) s.size = r) := HR.out
  obtain ⟨q, HQ⟩ : ∃ q, Hid (s.extract 0 (min 8 s.size) = q) := ⟨_, rfl⟩
  obtain ⟨x, HX⟩ : ∃ x, Hid (nx s 8 = x) := ⟨_, rfl⟩
  obtain ⟨y, HY⟩ : ∃ y, Hid (nxE s 8 = y) := ⟨_, rfl⟩
  rw [HQ.out, HR'.out] at CT
  rw [HQ.out, HX.out, HY.out] at CB
  rw [HX.out] at hr0 hr1 ⊢
  rw [HR.out]
  have hwr : IntKind.u64.wrap x = x := by exact u64_nonneg hr0 (by omega)
  clear hr h256 HR HR' HQ HX HY
  go_enter Tryz.func111, Tryz.ntmps111
  go_wp2_with fail
  rw [HXO.out]
  refine (CL.out _).mono ?_
  rintro _ _ ⟨rfl, hw⟩; rw [hw]; clear hw
  go_wp2_with fail
  refine (CT.out _).mono ?_
  rintro _ w1 ⟨rfl, b1⟩
  have B1 : Hid (Below w.heap.size w w1) := two_below b1
  obtain ⟨h0, h1⟩ := two_new b1
  clear b1
  have c0 : w1.cell? ⟨w.heap.size, 0, none⟩ = some (.string s) := by rw [cell_of_row _ _ _ _ _ _ h0]; rfl
  have f0 : w1.frozen? ⟨w.heap.size, 0, none⟩ = false := frozen_of_row _ _ _ _ _ h0
  have H1 : Hid _ := h1
  have H0 : Hid _ := heap_setCell_same w1 _ 0 _ _ (.string r) h0
  clear h0 h1
  go_wp2_with fail
  refine (CB.out _).mono ?_
  rintro _ _ ⟨rfl, hw⟩; rw [hw]; clear hw
  obtain ⟨w2, HW⟩ : ∃ w2, w2 = w1.setCell ⟨w.heap.size, 0, none⟩ (.string r) := ⟨_, rfl⟩
  have B2 : Hid (Below w.heap.size w w2) := by rw [HW]; exact B1.out.setCell (Nat.le_refl _) _
  have h1 : w2.heap[w.heap.size + 1]? = some (.cells #[.string ⟨#[]⟩] 170) := by rw [HW, Below.heap_setCell _ _ _ _ (by simp)]; exact H1.out
  have h0 : w2.heap[w.heap.size]? = some (.cells #[.string r] 170) := by rw [HW]; exact H0.out
  rw [← HW]
  clear HW c0 f0 H1 H0 B1
  have c0 : w2.cell? ⟨w.heap.size, 0, none⟩ = some (.string r) := by rw [cell_of_row _ _ _ _ _ _ h0]; rfl
  have c1 : w2.cell? ⟨w.heap.size + 1, 0, none⟩ = some (.string ⟨#[]⟩) := by rw [cell_of_row _ _ _ _ _ _ h1]; rfl
  have f1 : w2.frozen? ⟨w.heap.size + 1, 0, none⟩ = false := frozen_of_row _ _ _ _ _ h1
  have HF : Hid _ := heap_setCell_same w2 _ 0 _ _ (.string r) h1
  clear h0 h1
  go_upto_region 4 with fail
  go_region
  go_wp2
  have G : ((w2.setCell ⟨w.heap.size + 1, 0, none⟩ (.string r)).drew).cell? ⟨w.heap.size + 1, 0, none⟩ = some (.string r) := (cell_of_row _ _ 0 _ _ _ HF.out)
  refine bodyPost_ret (by simp [results, Tryz.results111, go_sem, G]; try rfl) rfl ?_
  exact ⟨rfl, (B2.out.setCell (by simp) _).drew⟩
end Go.Proofs.YtpcllegjnbeppaaGreat.tqd

namespace Go.Proofs.YtpcllegjnbeppaaGreat.tqe
open Go.RowKit Go.PlainAid
open Go.Proofs.YtpcllegjnbeppaaGreat.na Go.Proofs.YtpcllegjnbeppaaGreat.nb Go.Proofs.YtpcllegjnbeppaaGreat.tpa Go.Proofs.YtpcllegjnbeppaaGreat.tpd Go.Proofs.YtpcllegjnbeppaaGreat.tpe Go.Proofs.YtpcllegjnbeppaaGreat.tra Go.Proofs.YtpcllegjnbeppaaGreat.trb Go.Proofs.YtpcllegjnbeppaaGreat.tri Go.Proofs.YtpcllegjnbeppaaGreat.tqa Go.Proofs.YtpcllegjnbeppaaGreat.tqb Go.Proofs.YtpcllegjnbeppaaGreat.tqd
set_option linter.unusedVariables false
set_option linter.unusedSimpArgs false

def frC (b : ByteArray) (m k n l : Int) (p : ByteArray) (u : Int) : Array Value := #[.string b, .int .u8 m, .int .u8 k, .int .u64 n, .int .u32 l, .string p, .int .u32 u]
theorem cell7 {w : World} {g : Nat} {x0 x1 x2 x3 x4 x5 x6 : Value} {t : TypeId} {f : Nat × Nat} (h : w.heap[g]? = some (.cells #[x0, x1, x2, x3, x4, x5, x6] t f)) :
    w.cell? ⟨g, 0, none⟩ = some x0 ∧ w.cell? ⟨g, 1, none⟩ = some x1 ∧ w.cell? ⟨g, 2, none⟩ = some x2 ∧ w.cell? ⟨g, 3, none⟩ = some x3 ∧ w.cell? ⟨g, 4, none⟩ = some x4 ∧ w.cell? ⟨g, 5, none⟩ = some x5 ∧ w.cell? ⟨g, 6, none⟩ = some x6 := by
  refine ⟨?_, ?_, ?_, ?_, ?_, ?_, ?_⟩ <;> (rw [cell_of_row _ _ _ _ _ _ h]; rfl)
theorem new_below (w : World) (o : Obj) : Below w.heap.size w (w.alloc o) := (Below.refl _ _).alloc (Nat.le_refl _) _
theorem toldC (b p : ByteArray) (m k n l u : Int) (w : World) (l0 : 0 ≤ l) (l1 : l < 4294967296) :
    Calls Tryz.prog 135 #[.agg (frC b m k n l p u)] w fun e w' => e = .returned (.int .i64 (14 + l + 4)) ∧ Below w.heap.size w w' := by
  unfold frC
  go_enter Tryz.func135, Tryz.ntmps135
  go_wp2
  go_ret
  exact ⟨rfl, new_below _ _⟩
theorem reckC (b p : ByteArray) (m k n l u : Int) (w : World) (h0 : 4 ≤ b.size) (h1 : b.size ≤ 281474976710656) :
    Calls Tryz.prog 138 #[.agg (frC b m k n l p u)] w fun e w' => e = .returned (.int .u32 (crcF (b.extract 0 (b.size - 4)) : Nat)) ∧ Below w.heap.size w w' := by
  have CC : Hid (∀ w, Calls _ _ _ _ _) := fun w => Crc (b.extract 0 (b.size - 4)) w (by rw [ext_size]; omega)
  have h4 : ((b.size : Int) - 4).toNat = b.size - 4 := by omega
  unfold frC
  go_enter Tryz.func138, Tryz.ntmps138
  go_wp2_with fail
  refine (CC.out _).mono ?_
  rintro _ w1 ⟨rfl, b1⟩
  have B1 : Hid (Below w.heap.size w w1) := over (new_below _ _) b1
  clear b1
  go_wp2
  go_ret
  exact ⟨rfl, B1.out⟩
-- what each fault tells
theorem f1C (b p : ByteArray) (m k n l u : Int) (w : World) (x : Bool) (hx : (b.toList == []) = x) :
    Calls Tryz.prog 128 #[.agg (frC b m k n l p u)] w fun e w' => e = .returned (.bool x) ∧ Below w.heap.size w w' := by
  unfold frC
  go_enter Tryz.func128, Tryz.ntmps128
  go_wp2
  go_ret
  exact ⟨rfl, new_below _ _⟩
theorem f2C (b p : ByteArray) (m k n l u : Int) (w : World) :
    Calls Tryz.prog 129 #[.agg (frC b m k n l p u)] w fun e w' => e = .returned (.bool (m != 165)) ∧ Below w.heap.size w w' := by
  unfold frC
  go_enter Tryz.func129, Tryz.ntmps129
  go_wp2
  go_ret
  exact ⟨rfl, new_below _ _⟩
theorem f3C (b p : ByteArray) (m k n l u : Int) (w : World) :
    Calls Tryz.prog 130 #[.agg (frC b m k n l p u)] w fun e w' => e = .returned (.bool (decide ((b.size : Int) < 14))) ∧ Below w.heap.size w w' := by
  unfold frC
  go_enter Tryz.func130, Tryz.ntmps130
  go_wp2
  go_ret
  exact ⟨rfl, new_below _ _⟩
theorem f4C (b p : ByteArray) (m k n l u : Int) (w : World) (k0 : 0 ≤ k) (k1 : k ≤ 255) :
    Calls Tryz.prog 131 #[.agg (frC b m k n l p u)] w fun e w' => e = .returned (.bool (!decide (1 ≤ k ∧ k ≤ 255))) ∧ Below w.heap.size w w' := by
  have CC : Hid (∀ w, Calls _ _ _ _ _) := fun w => isKindC k w
  obtain ⟨q, HQ⟩ : ∃ q : Bool, Hid (decide (1 ≤ k ∧ k ≤ 255) = q) := ⟨_, rfl⟩
  rw [HQ.out] at CC ⊢
  unfold frC
  go_enter Tryz.func131, Tryz.ntmps131
  go_wp2_with fail
  refine (CC.out _).mono ?_
  rintro _ w1 ⟨rfl, hw⟩; rw [hw]; clear hw
  go_wp2
  go_ret
  exact ⟨rfl, new_below _ _⟩
theorem f5C (b p : ByteArray) (m k n l u : Int) (w : World) :
    Calls Tryz.prog 132 #[.agg (frC b m k n l p u)] w fun e w' => e = .returned (.bool (decide (9223372036854775807 < n))) ∧ Below w.heap.size w w' := by
  unfold frC
  go_enter Tryz.func132, Tryz.ntmps132
  go_wp2
  go_ret
  exact ⟨rfl, new_below _ _⟩
theorem f6C (b p : ByteArray) (m k n l u : Int) (w : World) :
    Calls Tryz.prog 133 #[.agg (frC b m k n l p u)] w fun e w' => e = .returned (.bool (decide (524288 < l))) ∧ Below w.heap.size w w' := by
  unfold frC
  go_enter Tryz.func133, Tryz.ntmps133
  go_wp2
  go_ret
  exact ⟨rfl, new_below _ _⟩
set_option maxHeartbeats 1600000 in
theorem f7C (b p : ByteArray) (m k n l u : Int) (w : World) (l0 : 0 ≤ l) (l1 : l < 4294967296) :
    Calls Tryz.prog 134 #[.agg (frC b m k n l p u)] w fun e w' => e = .returned (.bool (decide ((b.size : Int) < 14 + l + 4))) ∧ Below w.heap.size w w' := by
  have CC : Hid (∀ w, Calls _ _ _ _ _) := fun w => toldC b p m k n l u w l0 l1
  unfold frC at CC ⊢
  go_enter Tryz.func134, Tryz.ntmps134
  go_upto_region 1 with fail
  have HH : Hid (∀ w1, Below (w.alloc (.cells #[.string b, .int .u8 m, .int .u8 k, .int .u64 n, .int .u32 l, .string p, .int .u32 u] 159)).drew.heap.size (w.alloc (.cells #[.string b, .int .u8 m, .int .u8 k, .int .u64 n, .int .u32 l, .string p, .int .u32 u] 159)).drew w1 → Below w.heap.size w w1 ∧ w1.cell? ⟨w.heap.size, 0, none⟩ = some (.string b)) := fun w1 h1 => ⟨over (new_below _ _).drew h1, by rw [h1.cell (show w.heap.size < (w.alloc (.cells #[.string b, .int .u8 m, .int .u8 k, .int .u64 n, .int .u32 l, .string p, .int .u32 u] 159)).drew.heap.size by show w.heap.size < (w.alloc (.cells #[.string b, .int .u8 m, .int .u8 k, .int .u64 n, .int .u32 l, .string p, .int .u32 u] 159)).heap.size; simp)]; exact (cell7 (heap_alloc_new w _)).1⟩
  go_region_with (go_at_call 135; refine (CC.out _).mono ?_; rintro _ w1 ⟨rfl, b1⟩; obtain ⟨B1, c1⟩ := HH.out w1 b1; clear b1)
  all_goals
    go_wp2
    go_ret
    exact ⟨rfl, by first | exact B1.drew | exact B1⟩
set_option maxHeartbeats 1600000 in
theorem f8C (b p : ByteArray) (m k n l u : Int) (w : World) (l0 : 0 ≤ l) (l1 : l < 4294967296) :
    Calls Tryz.prog 136 #[.agg (frC b m k n l p u)] w fun e w' => e = .returned (.bool (decide (14 + l + 4 < (b.size : Int)))) ∧ Below w.heap.size w w' := by
  have CC : Hid (∀ w, Calls _ _ _ _ _) := fun w => toldC b p m k n l u w l0 l1
  unfold frC at CC ⊢
  go_enter Tryz.func136, Tryz.ntmps136
  go_upto_region 1 with fail
  have HH : Hid (∀ w1, Below (w.alloc (.cells #[.string b, .int .u8 m, .int .u8 k, .int .u64 n, .int .u32 l, .string p, .int .u32 u] 159)).drew.heap.size (w.alloc (.cells #[.string b, .int .u8 m, .int .u8 k, .int .u64 n, .int .u32 l, .string p, .int .u32 u] 159)).drew w1 → Below w.heap.size w w1 ∧ w1.cell? ⟨w.heap.size, 0, none⟩ = some (.string b)) := fun w1 h1 => ⟨over (new_below _ _).drew h1, by rw [h1.cell (show w.heap.size < (w.alloc (.cells #[.string b, .int .u8 m, .int .u8 k, .int .u64 n, .int .u32 l, .string p, .int .u32 u] 159)).drew.heap.size by show w.heap.size < (w.alloc (.cells #[.string b, .int .u8 m, .int .u8 k, .int .u64 n, .int .u32 l, .string p, .int .u32 u] 159)).heap.size; simp)]; exact (cell7 (heap_alloc_new w _)).1⟩
  go_region_with (go_at_call 135; refine (CC.out _).mono ?_; rintro _ w1 ⟨rfl, b1⟩; obtain ⟨B1, c1⟩ := HH.out w1 b1; clear b1)
  all_goals
    go_wp2
    go_ret
    exact ⟨rfl, by first | exact B1.drew | exact B1⟩
set_option maxHeartbeats 1600000 in
theorem f9C (b p : ByteArray) (m k n l u : Int) (w : World) (h0 : 4 ≤ b.size) (h1 : b.size ≤ 281474976710656) :
    Calls Tryz.prog 137 #[.agg (frC b m k n l p u)] w fun e w' => e = .returned (.bool (u != (crcF (b.extract 0 (b.size - 4)) : Nat))) ∧ Below w.heap.size w w' := by
  have CC : Hid (∀ w, Calls _ _ _ _ _) := fun w => reckC b p m k n l u w h0 h1
  obtain ⟨x, HX⟩ : ∃ x : Nat, Hid (crcF (b.extract 0 (b.size - 4)) = x) := ⟨_, rfl⟩
  rw [HX.out] at CC ⊢
  unfold frC at CC ⊢
  go_enter Tryz.func137, Tryz.ntmps137
  go_upto_region 1 with fail
  have HH : Hid (∀ w1, Below (w.alloc (.cells #[.string b, .int .u8 m, .int .u8 k, .int .u64 n, .int .u32 l, .string p, .int .u32 u] 159)).drew.heap.size (w.alloc (.cells #[.string b, .int .u8 m, .int .u8 k, .int .u64 n, .int .u32 l, .string p, .int .u32 u] 159)).drew w1 → Below w.heap.size w w1 ∧ w1.cell? ⟨w.heap.size, 6, none⟩ = some (.int .u32 u)) := fun w1 h1 => ⟨over (new_below _ _).drew h1, by rw [h1.cell (show w.heap.size < (w.alloc (.cells #[.string b, .int .u8 m, .int .u8 k, .int .u64 n, .int .u32 l, .string p, .int .u32 u] 159)).drew.heap.size by show w.heap.size < (w.alloc (.cells #[.string b, .int .u8 m, .int .u8 k, .int .u64 n, .int .u32 l, .string p, .int .u32 u] 159)).heap.size; simp)]; exact (cell7 (heap_alloc_new w _)).2.2.2.2.2.2⟩
  go_region_with (go_at_call 138; refine (CC.out _).mono ?_; rintro _ w1 ⟨rfl, b1⟩; obtain ⟨B1, c1⟩ := HH.out w1 b1; clear b1)
  all_goals
    go_wp2
    go_ret
    exact ⟨rfl, by first | exact B1.drew | exact B1⟩
end Go.Proofs.YtpcllegjnbeppaaGreat.tqe

namespace Go.Proofs.YtpcllegjnbeppaaGreat.tqf
open Go.RowKit Go.PlainAid Go.Shelf
open Go.Proofs.YtpcllegjnbeppaaGreat.na Go.Proofs.YtpcllegjnbeppaaGreat.nb Go.Proofs.YtpcllegjnbeppaaGreat.tpa Go.Proofs.YtpcllegjnbeppaaGreat.tpd Go.Proofs.YtpcllegjnbeppaaGreat.tpe Go.Proofs.YtpcllegjnbeppaaGreat.tra Go.Proofs.YtpcllegjnbeppaaGreat.trb Go.Proofs.YtpcllegjnbeppaaGreat.tri Go.Proofs.YtpcllegjnbeppaaGreat.tqa Go.Proofs.YtpcllegjnbeppaaGreat.tqb Go.Proofs.YtpcllegjnbeppaaGreat.tqd Go.Proofs.YtpcllegjnbeppaaGreat.tqe Go.Proofs.YtpcllegjnbeppaaGreat.sb
set_option linter.unusedVariables false
set_option linter.unusedSimpArgs false

theorem cloneC (s : ByteArray) (w : World) (h : s.size ≤ 140737488355328) :
    Calls Tryz.prog 78 #[.string s] w fun e w' => e = .returned (.string s) ∧ Below w.heap.size w w' := by
  have CC : Hid (∀ w, Calls Tryz.prog 115 #[.string s] w fun e w' => e = .returned (.string s) ∧ Below w.heap.size w w') := fun w => AnyPu.stringslite_Clone laysC s w (by omega)
  go_enter Tryz.func78, Tryz.ntmps78
  go_wp2_with (go_at_call 115; refine (CC.out _).mono ?_; rintro _ w1 ⟨rfl, k1⟩; have K1 : Hid (Below w.heap.size w w1) := k1; clear k1)
  go_ret
  exact ⟨rfl, K1.out⟩
-- reading, a part at a time
def q1 (b : ByteArray) := cutL b 1
def q2 (b : ByteArray) := cutL (q1 b) 1
def q3 (b : ByteArray) := cutL (q2 b) 8
def q4 (b : ByteArray) := cutL (q3 b) 4
def fM (b : ByteArray) : Int := nx b 1
def fK (b : ByteArray) : Int := nx (q1 b) 1
def fN (b : ByteArray) : Int := nx (q2 b) 8
def fL (b : ByteArray) : Nat := (nx (q3 b) 4).toNat
def fP (b : ByteArray) : ByteArray := (q4 b).extract 0 (min (fL b) (q4 b).size)
def q5 (b : ByteArray) := cutL (q4 b) (fL b)
def fU (b : ByteArray) : Int := nx (q5 b) 4
theorem cutL_size (s : ByteArray) (n : Nat) : (cutL s n).size = s.size - n := by rw [cutL, ext_size]; omega
theorem cutL_at (b : ByteArray) (i n : Nat) (h : i + n ≤ b.size) : cutL (b.extract i b.size) n = b.extract (i + n) b.size := by
  have h1 := ext_size b i b.size
  rw [cutL]
  have h2 := ext_size (b.extract i b.size) (min n (b.extract i b.size).size) (b.extract i b.size).size
  have h3 := ext_size b (i + n) b.size
  refine ext_bt _ _ (by omega) ?_
  intro k hk
  rw [bt_extract _ _ _ k (by omega) (by omega), bt_extract b i b.size _ (by omega) (by omega), bt_extract b (i + n) b.size k (by omega) (by omega)]
  congr 1; omega
theorem nx_at (b : ByteArray) (i n : Nat) (h : i + n ≤ b.size) : nx (b.extract i b.size) n = beR b i n := by
  have h1 := ext_size b i b.size
  rw [nx, if_neg (by omega), beR_ext b i b.size 0 n (by omega) (by omega)]
  rfl
theorem q1_is (b : ByteArray) (h : 1 ≤ b.size) : q1 b = b.extract 1 b.size := by
  have := cutL_at b 0 1 (by omega)
  rw [ext_all b b.size rfl] at this
  exact this
theorem q2_is (b : ByteArray) (h : 2 ≤ b.size) : q2 b = b.extract 2 b.size := by rw [q2, q1_is b (by omega), cutL_at b 1 1 (by omega)]
theorem q3_is (b : ByteArray) (h : 10 ≤ b.size) : q3 b = b.extract 10 b.size := by rw [q3, q2_is b (by omega), cutL_at b 2 8 (by omega)]
theorem q4_is (b : ByteArray) (h : 14 ≤ b.size) : q4 b = b.extract 14 b.size := by rw [q4, q3_is b (by omega), cutL_at b 10 4 (by omega)]
theorem fM_is (b : ByteArray) (h : 1 ≤ b.size) : fM b = bt b 0 := by rw [fM, nx, if_neg (by omega), beR_one]
theorem fK_is (b : ByteArray) (h : 2 ≤ b.size) : fK b = bt b 1 := by rw [fK, q1_is b (by omega), nx_at b 1 1 (by omega), beR_one]
theorem fN_is (b : ByteArray) (h : 10 ≤ b.size) : fN b = beR b 2 8 := by rw [fN, q2_is b (by omega), nx_at b 2 8 (by omega)]
theorem fL_is (b : ByteArray) (h : 14 ≤ b.size) : (fL b : Int) = beR b 10 4 := by
  have h0 := beR_nonneg b 10 4
  rw [fL, q3_is b (by omega), nx_at b 10 4 (by omega)]; omega
theorem fP_is (b : ByteArray) (h : b.size = 18 + fL b) : fP b = b.extract 14 (b.size - 4) := by
  rw [fP, q4_is b (by omega)]
  generalize fL b = l at *
  have h1 := ext_size b 14 b.size
  have h2 := ext_size b 14 (b.size - 4)
  have h3 := ext_size (b.extract 14 b.size) 0 (min l (b.extract 14 b.size).size)
  refine ext_bt _ _ (by omega) ?_
  intro k hk
  rw [bt_extract _ _ _ k (by omega) (by omega), bt_extract b 14 b.size _ (by omega) (by omega), bt_extract b 14 _ k (by omega) (by omega)]
  exact congrArg (bt b) (by omega)
theorem fU_is (b : ByteArray) (h : b.size = 18 + fL b) : fU b = beR b (b.size - 4) 4 := by
  rw [fU, q5, q4_is b (by omega)]
  generalize fL b = l at *
  rw [cutL_at b 14 l (by omega), nx_at b (14 + l) 4 (by omega), show 14 + l = b.size - 4 by omega]
theorem fL_lt (b : ByteArray) : fL b < 4294967296 := by
  have h := nx_range (q3 b) 4
  have h256 : (256 : Int) ^ 4 = 4294967296 := by decide
  rw [h256] at h
  unfold fL; omega
theorem fM_rng (b : ByteArray) : 0 ≤ fM b ∧ fM b ≤ 255 := by
  have h := nx_range b 1
  have h256 : (256 : Int) ^ 1 = 256 := by decide
  rw [h256] at h
  unfold fM; omega
theorem fK_rng (b : ByteArray) : 0 ≤ fK b ∧ fK b ≤ 255 := by
  have h := nx_range (q1 b) 1
  have h256 : (256 : Int) ^ 1 = 256 := by decide
  rw [h256] at h
  unfold fK; omega
theorem fN_rng (b : ByteArray) : 0 ≤ fN b ∧ fN b ≤ 18446744073709551615 := by
  have h := nx_range (q2 b) 8
  have h256 : (256 : Int) ^ 8 = 18446744073709551616 := by decide
  rw [h256] at h
  unfold fN; omega
theorem fP_size (b : ByteArray) : (fP b).size ≤ fL b ∧ (fP b).size ≤ b.size := by
  have h1 : (q4 b).size ≤ b.size := by
    rw [q4, cutL_size, q3, cutL_size, q2, cutL_size, q1, cutL_size]; omega
  rw [fP, ext_size]; omega

-- the world while a frame is read
structure RF (w : World) (cs : Array Value) (s : ByteArray) (w' : World) : Prop where
  z : w'.heap[w.heap.size]? = some (.cells #[.string ⟨#[]⟩, .int .u8 0, .int .u8 0, .int .u64 0, .int .u32 0, .string ⟨#[]⟩, .int .u32 0] 159 (0, 0))
  f : w'.heap[w.heap.size + 1]? = some (.cells cs 159 (0, 0))
  r : w'.heap[w.heap.size + 2]? = some (.cells #[.string s] 170 (0, 0))
  b : Below w.heap.size w w'
theorem RF.later {w : World} {cs : Array Value} {s : ByteArray} {w1 w2 : World} (h : RF w cs s w1) (k : Below w1.heap.size w1 w2) : RF w cs s w2 := by
  have h1 := (Array.getElem?_eq_some_iff.1 h.r).1
  exact ⟨(k.block _ (by omega)).trans h.z, (k.block _ (by omega)).trans h.f, (k.block _ (by omega)).trans h.r, over h.b k⟩
theorem RF.step {w : World} {cs cs' : Array Value} {s : ByteArray} {w1 : World} (h : RF w cs s w1) (i : Nat) (v : Value) (s' : ByteArray) (hc : cs.setIfInBounds i v = cs') : RF w cs' s' ((w1.setCell ⟨w.heap.size + 1, i, none⟩ v).setCell ⟨w.heap.size + 2, 0, none⟩ (.string s')) := by
  have h1 := heap_setCell_same w1 _ i _ _ v h.f
  rw [hc] at h1
  have h2 : (w1.setCell ⟨w.heap.size + 1, i, none⟩ v).heap[w.heap.size + 2]? = some (.cells #[.string s] 170 (0, 0)) := by rw [Below.heap_setCell _ _ _ _ (by simp)]; exact h.r
  refine ⟨?_, ?_, ?_, ?_⟩
  · rw [Below.heap_setCell _ _ _ _ (by simp), Below.heap_setCell _ _ _ _ (by simp)]; exact h.z
  · rw [Below.heap_setCell _ _ _ _ (by simp)]; exact h1
  · exact heap_setCell_same _ _ 0 _ _ (.string s') h2
  · exact (h.b.setCell (by simp) _).setCell (by simp) _
theorem RF.rc {w : World} {cs : Array Value} {s : ByteArray} {w1 : World} (h : RF w cs s w1) : w1.cell? ⟨w.heap.size + 2, 0, none⟩ = some (.string s) := by rw [cell_of_row _ _ _ _ _ _ h.r]; rfl
theorem RF.rf {w : World} {cs : Array Value} {s : ByteArray} {w1 : World} (h : RF w cs s w1) : w1.frozen? ⟨w.heap.size + 2, 0, none⟩ = false := frozen_of_row _ _ _ _ _ h.r
theorem RF.fc {w : World} {cs : Array Value} {s : ByteArray} {w1 : World} (h : RF w cs s w1) (i : Nat) : w1.cell? ⟨w.heap.size + 1, i, none⟩ = cs[i]? := by rw [cell_of_row _ _ _ _ _ _ h.f]
theorem RF.ff {w : World} {cs : Array Value} {s : ByteArray} {w1 : World} (h : RF w cs s w1) (i : Nat) : w1.frozen? ⟨w.heap.size + 1, i, none⟩ = false := frozen_of_row _ _ _ _ _ h.f
-- seven cells written one behind the other
theorem put7 (w : World) (p : Nat) (a0 a1 a2 a3 a4 a5 a6 x0 x1 x2 x3 x4 x5 x6 : Value) (t : TypeId) (h : w.heap[p]? = some (.cells #[a0, a1, a2, a3, a4, a5, a6] t (0, 0))) (W : World)
    (hW : W = ((((((w.setCell ⟨p, 0, none⟩ x0).setCell ⟨p, 1, none⟩ x1).setCell ⟨p, 2, none⟩ x2).setCell ⟨p, 3, none⟩ x3).setCell ⟨p, 4, none⟩ x4).setCell ⟨p, 5, none⟩ x5).setCell ⟨p, 6, none⟩ x6) :
      W.heap[p]? = some (.cells #[x0, x1, x2, x3, x4, x5, x6] t (0, 0)) ∧ ∀ a, Below p a w → Below p a W := by
  obtain ⟨u0, e0⟩ : ∃ v, v = w.setCell ⟨p, 0, none⟩ x0 := ⟨_, rfl⟩
  rw [← e0] at hW
  have h0 : u0.heap[p]? = some (.cells #[x0, a1, a2, a3, a4, a5, a6] t (0, 0)) := by rw [e0]; exact heap_setCell_same _ _ 0 _ _ x0 h
  have k0 : ∀ a, Below p a w → Below p a u0 := by rw [e0]; exact fun a b => b.setCell (Nat.le_refl _) _
  clear e0
  obtain ⟨u1, e1⟩ : ∃ v, v = u0.setCell ⟨p, 1, none⟩ x1 := ⟨_, rfl⟩
  rw [← e1] at hW
  have h1 : u1.heap[p]? = some (.cells #[x0, x1, a2, a3, a4, a5, a6] t (0, 0)) := by rw [e1]; exact heap_setCell_same _ _ 1 _ _ x1 h0
  have k1 : ∀ a, Below p a u0 → Below p a u1 := by rw [e1]; exact fun a b => b.setCell (Nat.le_refl _) _
  clear e1
  obtain ⟨u2, e2⟩ : ∃ v, v = u1.setCell ⟨p, 2, none⟩ x2 := ⟨_, rfl⟩
  rw [← e2] at hW
  have h2 : u2.heap[p]? = some (.cells #[x0, x1, x2, a3, a4, a5, a6] t (0, 0)) := by rw [e2]; exact heap_setCell_same _ _ 2 _ _ x2 h1
  have k2 : ∀ a, Below p a u1 → Below p a u2 := by rw [e2]; exact fun a b => b.setCell (Nat.le_refl _) _
  clear e2
  obtain ⟨u3, e3⟩ : ∃ v, v = u2.setCell ⟨p, 3, none⟩ x3 := ⟨_, rfl⟩
  rw [← e3] at hW
  have h3 : u3.heap[p]? = some (.cells #[x0, x1, x2, x3, a4, a5, a6] t (0, 0)) := by rw [e3]; exact heap_setCell_same _ _ 3 _ _ x3 h2
  have k3 : ∀ a, Below p a u2 → Below p a u3 := by rw [e3]; exact fun a b => b.setCell (Nat.le_refl _) _
  clear e3
  obtain ⟨u4, e4⟩ : ∃ v, v = u3.setCell ⟨p, 4, none⟩ x4 := ⟨_, rfl⟩
  rw [← e4] at hW
  have h4 : u4.heap[p]? = some (.cells #[x0, x1, x2, x3, x4, a5, a6] t (0, 0)) := by rw [e4]; exact heap_setCell_same _ _ 4 _ _ x4 h3
  have k4 : ∀ a, Below p a u3 → Below p a u4 := by rw [e4]; exact fun a b => b.setCell (Nat.le_refl _) _
  clear e4
  obtain ⟨u5, e5⟩ : ∃ v, v = u4.setCell ⟨p, 5, none⟩ x5 := ⟨_, rfl⟩
  rw [← e5] at hW
  have h5 : u5.heap[p]? = some (.cells #[x0, x1, x2, x3, x4, x5, a6] t (0, 0)) := by rw [e5]; exact heap_setCell_same _ _ 5 _ _ x5 h4
  have k5 : ∀ a, Below p a u4 → Below p a u5 := by rw [e5]; exact fun a b => b.setCell (Nat.le_refl _) _
  clear e5
  have h6 : W.heap[p]? = some (.cells #[x0, x1, x2, x3, x4, x5, x6] t (0, 0)) := by rw [hW]; exact heap_setCell_same _ _ 6 _ _ x6 h5
  have k6 : ∀ a, Below p a u5 → Below p a W := by rw [hW]; exact fun a b => b.setCell (Nat.le_refl _) _
  exact ⟨h6, fun a b => k6 a (k5 a (k4 a (k3 a (k2 a (k1 a (k0 a b))))))⟩
theorem rf_new (w : World) (b : ByteArray) : RF w #[.string b, .int .u8 0, .int .u8 0, .int .u64 0, .int .u32 0, .string ⟨#[]⟩, .int .u32 0] b
    (((w.alloc (.cells #[.string ⟨#[]⟩, .int .u8 0, .int .u8 0, .int .u64 0, .int .u32 0, .string ⟨#[]⟩, .int .u32 0] 159)).alloc (.cells #[.string b, .int .u8 0, .int .u8 0, .int .u64 0, .int .u32 0, .string ⟨#[]⟩, .int .u32 0] 159)).alloc (.cells #[.string b] 170)) := by
  refine ⟨?_, ?_, ?_, ?_⟩
  · rw [heap_alloc_old _ _ (by simp; omega), heap_alloc_old _ _ (by simp)]; exact heap_alloc_new w _
  · rw [heap_alloc_old _ _ (by simp)]; exact heap_alloc2_new w _ _
  · have := heap_alloc_new ((w.alloc (.cells #[.string ⟨#[]⟩, .int .u8 0, .int .u8 0, .int .u64 0, .int .u32 0, .string ⟨#[]⟩, .int .u32 0] 159)).alloc (.cells #[.string b, .int .u8 0, .int .u8 0, .int .u64 0, .int .u32 0, .string ⟨#[]⟩, .int .u32 0] 159)) (.cells #[.string b] 170)
    simpa using this
  · exact (((Below.refl _ _).alloc (Nat.le_refl _) _).alloc (by simp) _).alloc (by simp; omega) _
set_option maxHeartbeats 6400000 in
theorem readFrameC (b : ByteArray) (w : World) (hs : b.size ≤ 281474976710656) :
    Calls Tryz.prog 105 #[.string b] w fun e w' => e = .returned (.agg (frC b (fM b) (fK b) (fN b) (fL b) (fP b) (fU b))) ∧ Below w.heap.size w w' := by
  have s1 : (q1 b).size ≤ b.size := by rw [q1, cutL_size]; omega
  have s2 : (q2 b).size ≤ b.size := by rw [q2, cutL_size]; omega
  have s3 : (q3 b).size ≤ b.size := by rw [q3, cutL_size]; omega
  have s4 : (q4 b).size ≤ b.size := by rw [q4, cutL_size]; omega
  have s5 : (q5 b).size ≤ b.size := by rw [q5, cutL_size]; omega
  have C1 : Hid (∀ w, Calls Tryz.prog 112 #[.agg #[.string b]] w fun e w' => e = .returned (.tuple #[.int .u8 (fM b), .agg #[.string (q1 b)]]) ∧ Below w.heap.size w w') := fun w => next8C b w hs
  have C2 : Hid (∀ w, Calls Tryz.prog 112 #[.agg #[.string (q1 b)]] w fun e w' => e = .returned (.tuple #[.int .u8 (fK b), .agg #[.string (q2 b)]]) ∧ Below w.heap.size w w') := fun w => next8C (q1 b) w (by omega)
  have C3 : Hid (∀ w, Calls Tryz.prog 111 #[.agg #[.string (q2 b)]] w fun e w' => e = .returned (.tuple #[.int .u64 (fN b), .agg #[.string (q3 b)]]) ∧ Below w.heap.size w w') := fun w => next64C (q2 b) w (by omega)
  have C4 : Hid (∀ w, Calls Tryz.prog 127 #[.agg #[.string (q3 b)]] w fun e w' => e = .returned (.tuple #[.int .u32 (fL b : Nat), .agg #[.string (q4 b)]]) ∧ Below w.heap.size w w') := fun w => by
    have h := next32C (q3 b) w (by omega)
    have e : ((fL b : Nat) : Int) = nx (q3 b) 4 := by have := (nx_range (q3 b) 4).1; unfold fL; omega
    rw [e]; exact h
  have hl := fL_lt b
  have C5 : Hid (∀ w, Calls Tryz.prog 110 #[.agg #[.string (q4 b)], .int .i64 (fL b : Nat)] w fun e w' => e = .returned (.tuple #[.string (fP b), .agg #[.string (q5 b)]]) ∧ Below w.heap.size w w') := fun w => takeC (q4 b) (fL b) _ w (by omega) (by omega) rfl
  have C6 : Hid (∀ w, Calls Tryz.prog 127 #[.agg #[.string (q5 b)]] w fun e w' => e = .returned (.tuple #[.int .u32 (fU b), .agg #[.string (cutL (q5 b) 4)]]) ∧ Below w.heap.size w w') := fun w => next32C (q5 b) w (by omega)
  have HN : Hid (RF _ _ _ _) := rf_new w b
  generalize fM b = m at *
  generalize fK b = k at *
  generalize fN b = n at *
  generalize fL b = l at *
  generalize fP b = p at *
  generalize fU b = u at *
  generalize cutL (q5 b) 4 = z6 at *
  generalize q1 b = z1 at *
  generalize q2 b = z2 at *
  generalize q3 b = z3 at *
  generalize q4 b = z4 at *
  generalize q5 b = z5 at *
  clear s1 s2 s3 s4 s5
  unfold frC
  go_enter Tryz.func105, Tryz.ntmps105
  go_wp2_with fail
  refine (C1.out _).mono ?_
  rintro _ w1 ⟨rfl, b1⟩
  have R1 : Hid (RF w #[.string b, .int .u8 0, .int .u8 0, .int .u64 0, .int .u32 0, .string ⟨#[]⟩, .int .u32 0] b w1) := HN.out.later b1
  clear b1
  have c1 := R1.out.fc 1
  have d1 := R1.out.ff 1
  have e1 := R1.out.rc
  have g1 := R1.out.rf
  simp only [List.getElem?_toArray, List.getElem?_cons_succ, List.getElem?_cons_zero] at c1
  go_wp2_with fail
  obtain ⟨x1, HX1⟩ : ∃ x, x = (w1.setCell ⟨w.heap.size + 1, 1, none⟩ (.int .u8 m)).setCell ⟨w.heap.size + 2, 0, none⟩ (.string z1) := ⟨_, rfl⟩
  have S1 : Hid (RF w #[.string b, .int .u8 m, .int .u8 0, .int .u64 0, .int .u32 0, .string ⟨#[]⟩, .int .u32 0] z1 x1) := by rw [HX1]; exact R1.out.step 1 _ _ rfl
  rw [← HX1]
  clear HX1 c1 d1 e1 g1 R1
  refine (C2.out _).mono ?_
  rintro _ w2 ⟨rfl, b2⟩
  have R2 : Hid (RF w #[.string b, .int .u8 m, .int .u8 0, .int .u64 0, .int .u32 0, .string ⟨#[]⟩, .int .u32 0] z1 w2) := S1.out.later b2
  clear b2
  have c2 := R2.out.fc 2
  have d2 := R2.out.ff 2
  have e2 := R2.out.rc
  have g2 := R2.out.rf
  simp only [List.getElem?_toArray, List.getElem?_cons_succ, List.getElem?_cons_zero] at c2
  go_wp2_with fail
  obtain ⟨x2, HX2⟩ : ∃ x, x = (w2.setCell ⟨w.heap.size + 1, 2, none⟩ (.int .u8 k)).setCell ⟨w.heap.size + 2, 0, none⟩ (.string z2) := ⟨_, rfl⟩
  have S2 : Hid (RF w #[.string b, .int .u8 m, .int .u8 k, .int .u64 0, .int .u32 0, .string ⟨#[]⟩, .int .u32 0] z2 x2) := by rw [HX2]; exact R2.out.step 2 _ _ rfl
  rw [← HX2]
  clear HX2 c2 d2 e2 g2 R2
  refine (C3.out _).mono ?_
  rintro _ w3 ⟨rfl, b3⟩
  have R3 : Hid (RF w #[.string b, .int .u8 m, .int .u8 k, .int .u64 0, .int .u32 0, .string ⟨#[]⟩, .int .u32 0] z2 w3) := S2.out.later b3
  clear b3
  have c3 := R3.out.fc 3
  have d3 := R3.out.ff 3
  have e3 := R3.out.rc
  have g3 := R3.out.rf
  simp only [List.getElem?_toArray, List.getElem?_cons_succ, List.getElem?_cons_zero] at c3
  go_wp2_with fail
  obtain ⟨x3, HX3⟩ : ∃ x, x = (w3.setCell ⟨w.heap.size + 1, 3, none⟩ (.int .u64 n)).setCell ⟨w.heap.size + 2, 0, none⟩ (.string z3) := ⟨_, rfl⟩
  have S3 : Hid (RF w #[.string b, .int .u8 m, .int .u8 k, .int .u64 n, .int .u32 0, .string ⟨#[]⟩, .int .u32 0] z3 x3) := by rw [HX3]; exact R3.out.step 3 _ _ rfl
  rw [← HX3]
  clear HX3 c3 d3 e3 g3 R3
  refine (C4.out _).mono ?_
  rintro _ w4 ⟨rfl, b4⟩
  have R4 : Hid (RF w #[.string b, .int .u8 m, .int .u8 k, .int .u64 n, .int .u32 0, .string ⟨#[]⟩, .int .u32 0] z3 w4) := S3.out.later b4
  clear b4
  have c4 := R4.out.fc 4
  have d4 := R4.out.ff 4
  have e4 := R4.out.rc
  have g4 := R4.out.rf
  simp only [List.getElem?_toArray, List.getElem?_cons_succ, List.getElem?_cons_zero] at c4
  go_wp2_with fail
  obtain ⟨x4, HX4⟩ : ∃ x, x = (w4.setCell ⟨w.heap.size + 1, 4, none⟩ (.int .u32 l)).setCell ⟨w.heap.size + 2, 0, none⟩ (.string z4) := ⟨_, rfl⟩
  have S4 : Hid (RF w #[.string b, .int .u8 m, .int .u8 k, .int .u64 n, .int .u32 l, .string ⟨#[]⟩, .int .u32 0] z4 x4) := by rw [HX4]; exact R4.out.step 4 _ _ rfl
  rw [← HX4]
  clear HX4 c4 d4 e4 g4 R4
  refine (C5.out _).mono ?_
  rintro _ w5 ⟨rfl, b5⟩
  have R5 : Hid (RF w #[.string b, .int .u8 m, .int .u8 k, .int .u64 n, .int .u32 l, .string ⟨#[]⟩, .int .u32 0] z4 w5) := S4.out.later b5
  clear b5
  have c5 := R5.out.fc 5
  have d5 := R5.out.ff 5
  have e5 := R5.out.rc
  have g5 := R5.out.rf
  simp only [List.getElem?_toArray, List.getElem?_cons_succ, List.getElem?_cons_zero] at c5
  go_wp2_with fail
  obtain ⟨x5, HX5⟩ : ∃ x, x = (w5.setCell ⟨w.heap.size + 1, 5, none⟩ (.string p)).setCell ⟨w.heap.size + 2, 0, none⟩ (.string z5) := ⟨_, rfl⟩
  have S5 : Hid (RF w #[.string b, .int .u8 m, .int .u8 k, .int .u64 n, .int .u32 l, .string p, .int .u32 0] z5 x5) := by rw [HX5]; exact R5.out.step 5 _ _ rfl
  rw [← HX5]
  clear HX5 c5 d5 e5 g5 R5
  refine (C6.out _).mono ?_
  rintro _ w6 ⟨rfl, b6⟩
  have R6 : Hid (RF w #[.string b, .int .u8 m, .int .u8 k, .int .u64 n, .int .u32 l, .string p, .int .u32 0] z5 w6) := S5.out.later b6
  clear b6
  have c6 := R6.out.fc 6
  have d6 := R6.out.ff 6
  have e6 := R6.out.rc
  have g6 := R6.out.rf
  simp only [List.getElem?_toArray, List.getElem?_cons_succ, List.getElem?_cons_zero] at c6
  have HF : Hid (RF w #[.string b, .int .u8 m, .int .u8 k, .int .u64 n, .int .u32 l, .string p, .int .u32 u] z5 (w6.setCell ⟨w.heap.size + 1, 6, none⟩ (.int .u32 u))) := by
    refine ⟨?_, ?_, ?_, ?_⟩
    · rw [Below.heap_setCell _ _ _ _ (by simp)]; exact R6.out.z
    · exact heap_setCell_same w6 _ 6 _ _ (.int .u32 u) R6.out.f
    · rw [Below.heap_setCell _ _ _ _ (by simp)]; exact R6.out.r
    · exact R6.out.b.setCell (by simp) _
  go_upto_region 9 with fail
  obtain ⟨x6, HX6⟩ : ∃ x, x = w6.setCell ⟨w.heap.size + 1, 6, none⟩ (.int .u32 u) := ⟨_, rfl⟩
  rw [← HX6] at HF ⊢
  clear HX6 c6 d6 e6 g6 R6
  obtain ⟨c0, c1, c2, c3, c4, c5, c6⟩ := cell7 HF.out.f
  obtain ⟨d0, d1, d2, d3, d4, d5, d6⟩ := cell7 HF.out.z
  have g0 := frozen_of_row _ _ 0 _ _ HF.out.z
  have g1 := frozen_of_row _ _ 1 _ _ HF.out.z
  have g2 := frozen_of_row _ _ 2 _ _ HF.out.z
  have g3 := frozen_of_row _ _ 3 _ _ HF.out.z
  have g4 := frozen_of_row _ _ 4 _ _ HF.out.z
  have g5 := frozen_of_row _ _ 5 _ _ HF.out.z
  have g6 := frozen_of_row _ _ 6 _ _ HF.out.z
  have FIN : Hid (∀ W', W' = _ → _) := put7 x6 w.heap.size _ _ _ _ _ _ _ (.string b) (.int .u8 m) (.int .u8 k) (.int .u64 n) (.int .u32 l) (.string p) (.int .u32 u) _ HF.out.z
  go_wp2
  generalize hWW : (World.setCell _ ⟨w.heap.size, 6, none⟩ (.int .u32 u)) = W'
  obtain ⟨G, GB⟩ := FIN.out W' hWW.symm
  obtain ⟨y0, y1, y2, y3, y4, y5, y6⟩ := cell7 G
  refine bodyPost_ret (by simp [results, Tryz.results105, go_sem, y0, y1, y2, y3, y4, y5, y6]; try rfl) rfl ?_
  exact ⟨rfl, GB _ HF.out.b⟩

end Go.Proofs.YtpcllegjnbeppaaGreat.tqf

namespace Go.Proofs.YtpcllegjnbeppaaGreat.tqg
open Go.RowKit Go.PlainAid Go.Shelf
open Go.Proofs.YtpcllegjnbeppaaGreat.na Go.Proofs.YtpcllegjnbeppaaGreat.nb Go.Proofs.YtpcllegjnbeppaaGreat.tpa Go.Proofs.YtpcllegjnbeppaaGreat.tpd Go.Proofs.YtpcllegjnbeppaaGreat.tpe Go.Proofs.YtpcllegjnbeppaaGreat.tra Go.Proofs.YtpcllegjnbeppaaGreat.trb Go.Proofs.YtpcllegjnbeppaaGreat.tri Go.Proofs.YtpcllegjnbeppaaGreat.tqa Go.Proofs.YtpcllegjnbeppaaGreat.tqb Go.Proofs.YtpcllegjnbeppaaGreat.tqd Go.Proofs.YtpcllegjnbeppaaGreat.tqe Go.Proofs.YtpcllegjnbeppaaGreat.tqf
set_option linter.unusedVariables false
set_option linter.unusedSimpArgs false

def codes : List Int := [12, 130, 12, 110, 10, 121, 12, 111, 131]
def fns : List Nat := [128, 129, 130, 131, 132, 133, 134, 136, 137]
def fcs : Array Value := #[.int .i64 12, .func (.func 128) #[] #[], .int .i64 130, .func (.func 129) #[] #[], .int .i64 12, .func (.func 130) #[] #[], .int .i64 110, .func (.func 131) #[] #[], .int .i64 10, .func (.func 132) #[] #[], .int .i64 121, .func (.func 133) #[] #[], .int .i64 12, .func (.func 134) #[] #[], .int .i64 111, .func (.func 136) #[] #[], .int .i64 131, .func (.func 137) #[] #[]]
set_option maxHeartbeats 1600000 in
theorem faultsC (w : World) : Calls Tryz.prog 106 #[] w fun e w' => e = .returned (.slice (some ⟨w.heap.size, 0, none⟩) 9 9) ∧ w' = w.alloc (.cells fcs 165) := by
  unfold fcs
  go_enter Tryz.func106, Tryz.ntmps106
  go_wp2
  go_ret
  exact ⟨rfl, rfl⟩
-- the nine tests
def tst (b : ByteArray) : Nat → Bool
  | 0 => b.toList == []
  | 1 => fM b != 165
  | 2 => decide ((b.size : Int) < 14)
  | 3 => !decide (1 ≤ fK b ∧ fK b ≤ 255)
  | 4 => decide (9223372036854775807 < fN b)
  | 5 => decide (524288 < (fL b : Int))
  | 6 => decide ((b.size : Int) < 14 + (fL b : Int) + 4)
  | 7 => decide (14 + (fL b : Int) + 4 < (b.size : Int))
  | 8 => fU b != (crcF (b.extract 0 (b.size - 4)) : Nat)
  | _ => false
theorem empty_tst (b : ByteArray) : (b.toList == []) = decide (b.size = 0) := by
  rw [ByteArray.toList_eq]
  have h : b.data.toList.length = b.size := Array.length_toList
  by_cases hz : b.size = 0
  · rw [decide_eq_true hz]
    have : b.data.toList = [] := List.length_eq_zero_iff.1 (by omega)
    rw [this]; rfl
  · rw [decide_eq_false hz, beq_eq_false_iff_ne]
    intro e
    rw [e] at h
    simp at h
    omega
def chk (b : ByteArray) : Int := if tst b 0 then 12 else if tst b 1 then 130 else if tst b 2 then 12 else if tst b 3 then 110 else if tst b 4 then 10 else if tst b 5 then 121 else if tst b 6 then 12 else if tst b 7 then 111 else if tst b 8 then 131 else 0
theorem if_eq {p : Prop} [Decidable p] {x : Bool} {a b c : Int} (h : x = decide p) (g : ¬ p → b = c) : (if x then a else b) = (if p then a else c) := by
  subst h
  by_cases hp : p
  · simp [hp]
  · simp [hp]; exact g hp
theorem chk_is (b : ByteArray) : chk b = parseE b := by
  unfold chk parseE
  refine if_eq (by rw [tst, empty_tst]) fun h0 => ?_
  refine if_eq (by rw [tst, fM_is b (by omega)]; by_cases h : bt b 0 = 165 <;> simp [h]) fun h1 => ?_
  refine if_eq (by rw [tst]; apply decide_eq_decide.2; omega) fun h2 => ?_
  refine if_eq (by rw [tst, fK_is b (by omega), ← decide_not]; apply decide_eq_decide.2; have := bt_nonneg b 1; have := bt_le b 1; omega) fun h3 => ?_
  refine if_eq (by rw [tst, fN_is b (by omega)]) fun h4 => ?_
  refine if_eq (by rw [tst, fL_is b (by omega)]) fun h5 => ?_
  refine if_eq (by rw [tst, fL_is b (by omega)]; apply decide_eq_decide.2; omega) fun h6 => ?_
  refine if_eq (by rw [tst, fL_is b (by omega)]; apply decide_eq_decide.2; omega) fun h7 => ?_
  have hl := fL_is b (by omega)
  refine if_eq (by rw [tst, fU_is b (by omega)]; by_cases h : beR b (b.size - 4) 4 = (crcF (b.extract 0 (b.size - 4)) : Nat) <;> simp [h]) fun h8 => rfl
theorem chk_at (b : ByteArray) (k : Nat) (hk : k < 9) (hn : ∀ j, j < k → tst b j = false) (ht : tst b k = true) : chk b = codes.getD k 0 := by
  unfold chk
  have h0 : 0 < k → tst b 0 = false := hn 0
  have h1 : 1 < k → tst b 1 = false := hn 1
  have h2 : 2 < k → tst b 2 = false := hn 2
  have h3 : 3 < k → tst b 3 = false := hn 3
  have h4 : 4 < k → tst b 4 = false := hn 4
  have h5 : 5 < k → tst b 5 = false := hn 5
  have h6 : 6 < k → tst b 6 = false := hn 6
  have h7 : 7 < k → tst b 7 = false := hn 7
  have : k = 0 ∨ k = 1 ∨ k = 2 ∨ k = 3 ∨ k = 4 ∨ k = 5 ∨ k = 6 ∨ k = 7 ∨ k = 8 := by omega
  rcases this with rfl | rfl | rfl | rfl | rfl | rfl | rfl | rfl | rfl <;> simp_all [codes]
theorem chk_none (b : ByteArray) (hn : ∀ j, j < 9 → tst b j = false) : chk b = 0 := by
  unfold chk
  simp [hn 0, hn 1, hn 2, hn 3, hn 4, hn 5, hn 6, hn 7, hn 8]
theorem size_ok (b : ByteArray) (hn : ∀ j, j < 8 → tst b j = false) : 4 ≤ b.size := by
  have h := hn 2 (by omega)
  rw [tst] at h
  have := of_decide_eq_false h
  omega
theorem tstC (b : ByteArray) (k : Nat) (hk : k < 9) (hn : ∀ j, j < k → tst b j = false) (hs : b.size ≤ 281474976710656) (w : World) :
    Calls Tryz.prog (fns.getD k 0) #[.agg (frC b (fM b) (fK b) (fN b) (fL b) (fP b) (fU b))] w fun e w' => e = .returned (.bool (tst b k)) ∧ Below w.heap.size w w' := by
  have hl := fL_lt b
  have hkk := fK_rng b
  have : k = 0 ∨ k = 1 ∨ k = 2 ∨ k = 3 ∨ k = 4 ∨ k = 5 ∨ k = 6 ∨ k = 7 ∨ k = 8 := by omega
  rcases this with rfl | rfl | rfl | rfl | rfl | rfl | rfl | rfl | rfl
  · exact f1C _ _ _ _ _ _ _ w _ rfl
  · exact f2C _ _ _ _ _ _ _ w
  · exact f3C _ _ _ _ _ _ _ w
  · exact f4C _ _ _ _ _ _ _ w hkk.1 hkk.2
  · exact f5C _ _ _ _ _ _ _ w
  · exact f6C _ _ _ _ _ _ _ w
  · exact f7C _ _ _ _ _ _ _ w (by omega) (by omega)
  · exact f8C _ _ _ _ _ _ _ w (by omega) (by omega)
  · exact f9C _ _ _ _ _ _ _ w (size_ok b hn) hs
theorem fcs_at (k : Nat) (hk : k < 9) : fcs[k * 2]? = some (.int .i64 (codes.getD k 0)) ∧ fcs[k * 2 + 1]? = some (.func (.func (fns.getD k 0)) #[] #[]) := by
  have : k = 0 ∨ k = 1 ∨ k = 2 ∨ k = 3 ∨ k = 4 ∨ k = 5 ∨ k = 6 ∨ k = 7 ∨ k = 8 := by omega
  rcases this with rfl | rfl | rfl | rfl | rfl | rfl | rfl | rfl | rfl <;> exact ⟨rfl, rfl⟩
theorem fns_in (k : Nat) (hk : k < 9) : ∀ args w, (callFunc (fns.getD k 0) args).run Tryz.prog w = .ok (.enter (fns.getD k 0) args) w := by
  have : k = 0 ∨ k = 1 ∨ k = 2 ∨ k = 3 ∨ k = 4 ∨ k = 5 ∨ k = 6 ∨ k = 7 ∨ k = 8 := by omega
  rcases this with rfl | rfl | rfl | rfl | rfl | rfl | rfl | rfl | rfl
  · exact enters_of Tryz.func128 (by kernel_rfl) rfl
  · exact enters_of Tryz.func129 (by kernel_rfl) rfl
  · exact enters_of Tryz.func130 (by kernel_rfl) rfl
  · exact enters_of Tryz.func131 (by kernel_rfl) rfl
  · exact enters_of Tryz.func132 (by kernel_rfl) rfl
  · exact enters_of Tryz.func133 (by kernel_rfl) rfl
  · exact enters_of Tryz.func134 (by kernel_rfl) rfl
  · exact enters_of Tryz.func136 (by kernel_rfl) rfl
  · exact enters_of Tryz.func137 (by kernel_rfl) rfl
structure PW (w : World) (cs : Array Value) (g q : Nat) (w' : World) : Prop where
  f : w'.heap[g]? = some (.cells cs 159 (0, 0))
  t : w'.heap[q]? = some (.cells fcs 165 (0, 0))
  b : Below w.heap.size w w'
theorem PW.later {w : World} {cs : Array Value} {g q : Nat} {w1 w2 : World} (h : PW w cs g q w1) (k : Below w1.heap.size w1 w2) : PW w cs g q w2 := by
  have h1 := (Array.getElem?_eq_some_iff.1 h.f).1
  have h2 := (Array.getElem?_eq_some_iff.1 h.t).1
  exact ⟨(k.block _ (by omega)).trans h.f, (k.block _ (by omega)).trans h.t, over h.b k⟩
set_option maxRecDepth 100000 in
set_option maxHeartbeats 3200000 in
theorem parseC (b : ByteArray) (w : World) (hs : b.size ≤ 281474976710656) :
    Calls Tryz.prog 61 #[.string b] w fun e w' => e = .returned (.tuple #[.int .i64 (parseK b), .int .i64 (parseN b), .string (parseP b), .int .i64 (parseE b)]) ∧ Below w.heap.size w w' := by
  have CR : Hid (∀ w, Calls _ _ _ _ _) := fun w => readFrameC b w hs
  have CT : Hid (∀ k, k < 9 → (∀ j, j < k → tst b j = false) → ∀ w, Calls _ _ _ _ _) := fun k hk hn w => tstC b k hk hn hs w
  have hl := fL_lt b
  have hK := fK_rng b
  have hN := fN_rng b
  obtain ⟨m, HM⟩ : ∃ m, Hid (fM b = m) := ⟨_, rfl⟩
  obtain ⟨k, HK⟩ : ∃ k, Hid (fK b = k) := ⟨_, rfl⟩
  obtain ⟨n, HN⟩ : ∃ n, Hid (fN b = n) := ⟨_, rfl⟩
  obtain ⟨l, HL⟩ : ∃ l, Hid (fL b = l) := ⟨_, rfl⟩
  obtain ⟨p, HP⟩ : ∃ p, Hid (fP b = p) := ⟨_, rfl⟩
  obtain ⟨u, HU⟩ : ∃ u, Hid (fU b = u) := ⟨_, rfl⟩
  rw [HM.out, HK.out, HN.out, HL.out, HP.out, HU.out] at CR CT
  unfold frC at CR CT
  go_enter Tryz.func61, Tryz.ntmps61
  go_wp2_with fail
  refine (CR.out _).mono ?_
  rintro _ w1 ⟨rfl, b1⟩
  have B1 : Hid (Below w.heap.size w w1) := b1
  clear b1
  go_wp2_with fail
  refine (faultsC _).mono ?_
  rintro _ w2 ⟨rfl, hw⟩
  have P2 : Hid (PW w #[.string b, .int .u8 m, .int .u8 k, .int .u64 n, .int .u32 l, .string p, .int .u32 u] w1.heap.size (w1.heap.size + 1) w2) := by
    rw [hw]
    refine ⟨?_, ?_, ?_⟩
    · rw [heap_alloc_old _ _ (by simp)]; exact heap_alloc_new w1 _
    · exact heap_alloc2_new w1 _ _
    · exact (B1.out.alloc B1.out.size _).alloc (by have := B1.out.size; simp; omega) _
  clear hw
  go_wp2_with fail
  go_loopw [13] (fun i wr => ∃ t : Nat, t ≤ 9 ∧ i = .int .i64 t ∧ Hid (∀ j, j < t → tst b j = false) ∧ Hid (PW w #[.string b, .int .u8 m, .int .u8 k, .int .u64 n, .int .u32 l, .string p, .int .u32 u] w1.heap.size (w1.heap.size + 1) wr)) (fun i _ => (9 - intOf i).toNat)
  case atStart => exact ⟨0, by omega, rfl, fun j hj => by omega, P2.out⟩
  case round =>
    clear P2
    obtain ⟨t, ht, rfl, HT, PR⟩ := hrel
    have hg : w1.heap.size < wr.heap.size := (Array.getElem?_eq_some_iff.1 PR.out.f).1
    have hq : w1.heap.size + 1 < wr.heap.size := (Array.getElem?_eq_some_iff.1 PR.out.t).1
    obtain ⟨c0, c1, c2, c3, c4, c5, c6⟩ := cell7 PR.out.f
    by_cases h9 : t < 9
    · have h9' : (t : Int) < 9 := by omega
      obtain ⟨fa, fb⟩ := fcs_at t h9
      have ca : wr.cell? ⟨w1.heap.size + 1, t * 2, none⟩ = some (.int .i64 (codes.getD t 0)) := by rw [cell_of_row _ _ _ _ _ _ PR.out.t]; exact fa
      have cb : wr.cell? ⟨w1.heap.size + 1, t * 2 + 1, none⟩ = some (.func (.func (fns.getD t 0)) #[] #[]) := by rw [cell_of_row _ _ _ _ _ _ PR.out.t]; exact fb
      have CC : Hid (∀ w, Calls _ _ _ _ _) := fun w => CT.out t h9 HT.out w
      have eF := fns_in t h9
      have HE : Hid (tst b t = true → parseE b = codes.getD t 0) := fun h => by rw [← chk_is]; exact chk_at b t h9 HT.out h
      obtain ⟨x, HX⟩ : ∃ x, Hid (tst b t = x) := ⟨_, rfl⟩
      obtain ⟨F, HF⟩ : ∃ F, Hid (fns.getD t 0 = F) := ⟨_, rfl⟩
      obtain ⟨c, HC⟩ : ∃ c, Hid (codes.getD t 0 = c) := ⟨_, rfl⟩
      rw [HX.out] at CC HE
      rw [HF.out] at cb CC eF
      rw [HC.out] at ca HE
      clear fa fb
      have P3 : Hid (PW _ _ _ _ _) := PR.out.later (new_below wr (.cells #[.int .i64 c, .func (.func F) #[] #[]] 165))
      have H3 : Hid _ := heap_alloc_new wr (.cells #[.int .i64 c, .func (.func F) #[] #[]] 165)
      go_upto_region 5 with fail
      obtain ⟨wa, HW⟩ : ∃ x, x = wr.alloc (.cells #[.int .i64 c, .func (.func F) #[] #[]] 165) := ⟨_, rfl⟩
      rw [← HW] at P3 H3 ⊢
      clear HW c0 c1 c2 c3 c4 c5 c6 ca cb PR hg hq
      obtain ⟨c0, c1, c2, c3, c4, c5, c6⟩ := cell7 P3.out.f
      have cb : wa.cell? ⟨wr.heap.size, 1, none⟩ = some (.func (.func F) #[] #[]) := by rw [cell_of_row _ _ _ _ _ _ H3.out]; rfl
      go_wp2_with fail
      refine (CC.out _).mono ?_
      rintro _ wb ⟨rfl, bb⟩
      have P4 : Hid (PW _ _ _ _ _) := P3.out.later bb
      have cd : wb.cell? ⟨wr.heap.size, 0, none⟩ = some (.int .i64 c) := by
        rw [bb.cell (Array.getElem?_eq_some_iff.1 H3.out).1, cell_of_row _ _ _ _ _ _ H3.out]; rfl
      clear c0 c1 c2 c3 c4 c5 c6 cb bb
      cases x with
      | true =>
        have HE2 : Hid _ := HE.out rfl
        have HZ : Hid (parseE b ≠ 0) := by
          rw [HE2.out, ← HC.out]
          have : t = 0 ∨ t = 1 ∨ t = 2 ∨ t = 3 ∨ t = 4 ∨ t = 5 ∨ t = 6 ∨ t = 7 ∨ t = 8 := by omega
          show _ ≠ _
          rcases this with rfl | rfl | rfl | rfl | rfl | rfl | rfl | rfl | rfl <;> decide
        have HK2 : Hid (parseK b = 0 ∧ parseN b = 0 ∧ parseP b = ⟨#[]⟩) := ⟨by rw [parseK, if_neg HZ.out], by rw [parseN, if_neg HZ.out], by rw [parseP, if_neg HZ.out]; rfl⟩
        go_upto_region 6 with fail
        go_region
        go_wp2
        refine bodyPost_ret (by simp [results, Tryz.results61, go_sem]; try rfl) rfl ?_
        exact ⟨by rw [HK2.out.1, HK2.out.2.1, HK2.out.2.2, HE2.out], P4.out.b.drew⟩
      | false =>
        go_wp2
        go_roundw
        case rel => exact ⟨t + 1, by omega, by go_num, fun j hj => by rcases Nat.lt_or_ge j t with h | h; exact HT.out j h; rw [show j = t by omega]; exact HX.out, P4.out⟩
        case measure => simp [intOf]; omega
    · have h9' : ¬ (t : Int) < 9 := by omega
      obtain rfl : t = 9 := by omega
      have HE : Hid (parseE b = 0) := by show _ = _; rw [← chk_is]; exact chk_none b HT.out
      obtain ⟨h18, hb0, hb1, hb2, hb3, hb4, hb5⟩ := parse_ok b HE.out
      have hlb := fL_is b (by omega)
      have HV : Hid (parseK b = k ∧ parseN b = n ∧ parseP b = p ∧ n ≤ 9223372036854775807 ∧ 0 ≤ n ∧ 0 ≤ k ∧ k ≤ 255 ∧ p.size ≤ 524288) := by
        refine ⟨?_, ?_, ?_, ?_, ?_, ?_, ?_, ?_⟩
        · rw [parseK, if_pos HE.out, ← HK.out, fK_is b (by omega)]
        · rw [parseN, if_pos HE.out, ← HN.out, fN_is b (by omega)]
        · rw [parseP, if_pos HE.out, ← HP.out, fP_is b (by omega)]
        · rw [← HN.out, fN_is b (by omega)]; exact hb2
        · rw [← HN.out]; exact hN.1
        · rw [← HK.out]; exact hK.1
        · rw [← HK.out]; exact hK.2
        · rw [← HP.out]; have := (fP_size b).1; omega
      have hn1 := HV.out.2.2.2.1
      have hn0 := HV.out.2.2.2.2.1
      have hk0 := HV.out.2.2.2.2.2.1
      have hk1 := HV.out.2.2.2.2.2.2.1
      have CL : Hid (∀ w, Calls _ _ _ _ _) := fun w => cloneC p w (by have := HV.out.2.2.2.2.2.2.2; omega)
      have hw2 : IntKind.i64.wrap k = k := by rw [IntKind.wrap_i64]; omega
      have hw1 : IntKind.i64.wrap n = n := by rw [IntKind.wrap_i64]; omega
      have HH : Hid (∀ W, Below wr.drew.heap.size wr.drew W → Below w.heap.size w W ∧ W.cell? ⟨w1.heap.size, 2, none⟩ = some (.int .u8 k) ∧ W.cell? ⟨w1.heap.size, 3, none⟩ = some (.int .u64 n)) := fun W hb => by
        have h1 : w1.heap.size < wr.drew.heap.size := hg
        exact ⟨over PR.out.b.drew hb, by rw [hb.cell h1]; exact c2, by rw [hb.cell h1]; exact c3⟩
      clear h18 hb0 hb1 hb2 hb3 hb4 hb5 hlb hK hN
      go_upto_region 8 with fail
      go_region_with (go_at_call 78; refine (CL.out _).mono ?_; rintro _ w5 ⟨rfl, b5⟩; obtain ⟨B5, x2, x3⟩ := HH.out w5 b5; clear b5)
      all_goals
        go_wp2
        refine bodyPost_ret (by simp [results, Tryz.results61, go_sem]; try rfl) rfl ?_
        exact ⟨by rw [HV.out.1, HV.out.2.1, HV.out.2.2.1, HE.out], by first | exact B5.drew | exact B5⟩
end Go.Proofs.YtpcllegjnbeppaaGreat.tqg

namespace Go.Proofs.YtpcllegjnbeppaaGreat.tqh
open Go.RowKit Go.PlainAid
open Go.Proofs.YtpcllegjnbeppaaGreat.na Go.Proofs.YtpcllegjnbeppaaGreat.nb Go.Proofs.YtpcllegjnbeppaaGreat.tpa Go.Proofs.YtpcllegjnbeppaaGreat.tpd Go.Proofs.YtpcllegjnbeppaaGreat.tra Go.Proofs.YtpcllegjnbeppaaGreat.trb Go.Proofs.YtpcllegjnbeppaaGreat.tri Go.Proofs.YtpcllegjnbeppaaGreat.tqa Go.Proofs.YtpcllegjnbeppaaGreat.tqb
set_option linter.unusedVariables false
set_option linter.unusedSimpArgs false
theorem body_is (k n : Int) (p : ByteArray) : bodyT k n p = str [165] ++ str [k] ++ str (lowB n 8) ++ str (lowB (p.size : Int) 4) ++ p := by rw [bodyT, headT_parts]
set_option maxHeartbeats 1600000 in
theorem frameC (k n : Int) (p : ByteArray) (w : World) (k0 : 1 ≤ k) (k1 : k ≤ 255) (n0 : 0 ≤ n) (n1 : n ≤ 9223372036854775807) (hp : p.size ≤ 524288) :
    Calls Tryz.prog 59 #[.int .i64 k, .int .i64 n, .string p] w fun e w' => e = .returned (.tuple #[.string (frameT k n p), .int .i64 0]) ∧ Below w.heap.size w w' := by
  have CK : Hid (∀ w, Calls _ _ _ _ _) := fun w => isKindC k w
  rw [decide_eq_true ⟨k0, k1⟩] at CK
  have C1 : Hid (∀ w, Calls _ _ _ _ _) := fun w => oneByteC 165 w (by omega) (by omega)
  have C2 : Hid (∀ w, Calls _ _ _ _ _) := fun w => oneByteC k w (by omega) k1
  have C3 : Hid (∀ w, Calls _ _ _ _ _) := fun w => big8C n w n0 n1
  have C4 : Hid (∀ w, Calls _ _ _ _ _) := fun w => big4C (p.size : Int) w (by omega) (by omega)
  have hu : IntKind.u32.wrap (p.size : Int) = (p.size : Int) := by rw [IntKind.wrap_u32]; omega
  have hz1 : (str [(165 : Int)]).size = 1 := str_size [165]
  have hz2 : (str [k]).size = 1 := str_size [k]
  have hz3 : (str (lowB n 8)).size = 8 := by rw [str_size, lowB_length]
  have hz4 : (str (lowB (p.size : Int) 4)).size = 4 := by rw [str_size, lowB_length]
  have HB : Hid _ := body_is k n p
  have hlt := crcF_lt (bodyT k n p)
  have CC : Hid (∀ w, Calls _ _ _ _ _) := fun w => Crc (bodyT k n p) w (by rw [bodyT_size]; omega)
  have C5 : Hid (∀ w, Calls _ _ _ _ _) := fun w => big4C ((crcF (bodyT k n p) : Nat) : Int) w (by omega) (by omega)
  have hz5 : (str (lowB ((crcF (bodyT k n p) : Nat) : Int) 4)).size = 4 := by rw [str_size, lowB_length]
  have hzb := bodyT_size k n p
  unfold frameT
  generalize str (lowB ((crcF (bodyT k n p) : Nat) : Int) 4) = t5 at *
  generalize crcF (bodyT k n p) = x at *
  obtain ⟨B, HBB⟩ : ∃ B, Hid (bodyT k n p = B) := ⟨_, rfl⟩
  rw [HBB.out] at HB CC hzb ⊢
  generalize str [(165 : Int)] = t1 at *
  generalize str [k] = t2 at *
  generalize str (lowB n 8) = t3 at *
  generalize str (lowB (p.size : Int) 4) = t4 at *
  clear HBB hlt
  go_enter Tryz.func59, Tryz.ntmps59
  go_wp2_with fail
  refine (CK.out _).mono ?_
  rintro _ w0 ⟨rfl, hw⟩; rw [hw]; clear hw
  go_wp2_with fail
  refine (C1.out _).mono ?_
  rintro _ w1 ⟨rfl, b1⟩
  go_wp2_with fail
  refine (C2.out _).mono ?_
  rintro _ w2 ⟨rfl, b2⟩
  have B2 : Hid (Below w.heap.size w w2) := over b1 b2
  clear b1 b2
  go_wp2_with fail
  refine (C3.out _).mono ?_
  rintro _ w3 ⟨rfl, b3⟩
  have B3 : Hid (Below w.heap.size w w3) := over B2.out b3
  clear b3 B2
  go_wp2_with fail
  refine (C4.out _).mono ?_
  rintro _ w4 ⟨rfl, b4⟩
  have B4 : Hid (Below w.heap.size w w4) := over B3.out b4
  clear b4 B3
  go_wp2_with fail
  rw [← HB.out]
  refine (CC.out _).mono ?_
  rintro _ w5 ⟨rfl, b5⟩
  have B5 : Hid (Below w.heap.size w w5) := over B4.out b5
  clear b5 B4
  go_wp2_with fail
  refine (C5.out _).mono ?_
  rintro _ w6 ⟨rfl, b6⟩
  have B6 : Hid (Below w.heap.size w w6) := over B5.out b6
  clear b6 B5
  go_wp2
  go_ret2
  exact ⟨rfl, B6.out⟩
theorem frameNo (k n : Int) (p : ByteArray) (w : World) (h : ¬ (1 ≤ k ∧ k ≤ 255 ∧ 0 ≤ n)) :
    Calls Tryz.prog 59 #[.int .i64 k, .int .i64 n, .string p] w fun e w' => e = .returned (.tuple #[.string ByteArray.empty, .int .i64 10]) ∧ w' = w := by
  have CK : Hid (∀ w, Calls _ _ _ _ _) := fun w => isKindC k w
  by_cases hk : 1 ≤ k ∧ k ≤ 255
  · rw [decide_eq_true hk] at CK
    have hn : n < 0 := by omega
    clear h hk
    go_enter Tryz.func59, Tryz.ntmps59
    go_wp2_with fail
    refine (CK.out _).mono ?_
    rintro _ w0 ⟨rfl, hw⟩; rw [hw]; clear hw
    go_wp2
    go_ret2
    exact ⟨rfl, rfl⟩
  · rw [decide_eq_false hk] at CK
    clear h hk
    go_enter Tryz.func59, Tryz.ntmps59
    go_wp2_with fail
    refine (CK.out _).mono ?_
    rintro _ w0 ⟨rfl, hw⟩; rw [hw]; clear hw
    go_wp2
    go_ret2
    exact ⟨rfl, rfl⟩
theorem frameBig (k n : Int) (p : ByteArray) (w : World) (k0 : 1 ≤ k) (k1 : k ≤ 255) (n0 : 0 ≤ n) (hp : 524288 < p.size) :
    Calls Tryz.prog 59 #[.int .i64 k, .int .i64 n, .string p] w fun e w' => e = .returned (.tuple #[.string ByteArray.empty, .int .i64 121]) ∧ w' = w := by
  have CK : Hid (∀ w, Calls _ _ _ _ _) := fun w => isKindC k w
  rw [decide_eq_true ⟨k0, k1⟩] at CK
  have hp' : (524288 : Int) < p.size := by omega
  go_enter Tryz.func59, Tryz.ntmps59
  go_wp2_with fail
  refine (CK.out _).mono ?_
  rintro _ w0 ⟨rfl, hw⟩; rw [hw]; clear hw
  go_wp2
  go_ret2
  exact ⟨rfl, rfl⟩
end Go.Proofs.YtpcllegjnbeppaaGreat.tqh
