import Derived.Test.YtgioekepoebibaaQb
import Derived.Test.YtgioekepoebibaaPe
import Derived.Lib.MinMax
import Derived.RegionTactic
import Derived.BigRegion
import Derived.BigQuiet
import Derived.Deep.QuietTactic
import Derived.Handy
import Derived.Deep.MidRow
import Derived.Laws.Rows
import Derived.Deep.DeepCutAuto
import Derived.Deep.RegionHeld3
import Derived.Laws.Strings2
namespace Go.Proofs.Ytgioekepoebibaa.qd
open Go.RowKit Go.PlainAid
open Go.Proofs.Ytgioekepoebibaa.na Go.Proofs.Ytgioekepoebibaa.nb Go.Proofs.Ytgioekepoebibaa.pa Go.Proofs.Ytgioekepoebibaa.pd Go.Proofs.Ytgioekepoebibaa.pe Go.Proofs.Ytgioekepoebibaa.ra Go.Proofs.Ytgioekepoebibaa.rb Go.Proofs.Ytgioekepoebibaa.qa Go.Proofs.Ytgioekepoebibaa.qb
set_option linter.unusedVariables false
set_option linter.unusedSimpArgs false

set_option maxRecDepth 100000 in
theorem len8 (w : World) : Calls Try.prog 84 #[.int .u64 255] w fun e w' => e = .returned (.int .i64 8) ∧ w' = w := by
  go_enter Try.func84, Try.ntmps84
  go_wp2
  go_ret
  exact ⟨by kernel_rfl, rfl⟩
set_option maxRecDepth 100000 in
theorem len32 (w : World) : Calls Try.prog 84 #[.int .u64 4294967295] w fun e w' => e = .returned (.int .i64 32) ∧ w' = w := by
  go_enter Try.func84, Try.ntmps84
  go_wp2
  go_ret
  exact ⟨by kernel_rfl, rfl⟩
set_option maxRecDepth 100000 in
theorem len64 (w : World) : Calls Try.prog 84 #[.int .u64 18446744073709551615] w fun e w' => e = .returned (.int .i64 64) ∧ w' = w := by
  go_enter Try.func84, Try.ntmps84
  go_wp2
  go_ret
  exact ⟨by kernel_rfl, rfl⟩

theorem takeC (s : ByteArray) (c m : Nat) (w : World) (hs : s.size ≤ 281474976710656) (hc : c ≤ 9223372036854775807) (HM : Hid (min c s.size = m)) :
    Calls Try.prog 58 #[.agg #[.string s], .int .i64 c] w fun e w' => e = .returned (.tuple #[.string (s.extract 0 m), .agg #[.string (s.extract m s.size)]]) ∧ Below w.heap.size w w' := by
  have hm : m ≤ s.size := by have := HM.out; omega
  have hmi : min (c : Int) (s.size : Int) = (m : Int) := by have := HM.out; omega
  have hm0 : (0 : Int) ≤ (m : Int) := by omega
  have hm1 : (m : Int) ≤ (s.size : Int) := by omega
  go_enter Try.func58, Try.ntmps58
  go_upto_region 2 with fail
  go_region
  go_wp2
  refine bodyPost_ret (by simp [results, Try.results58, go_sem]; try rfl) rfl ?_
  exact ⟨rfl, (((Below.refl _ _).alloc (Nat.le_refl _) _).alloc (by simp) _).drew⟩
def nx (s : ByteArray) (n : Nat) : Int := if s.size < n then 0 else beR s 0 n
def cutL (s : ByteArray) (n : Nat) : ByteArray := s.extract (min n s.size) s.size
theorem nx_range (s : ByteArray) (n : Nat) : 0 ≤ nx s n ∧ nx s n < 256 ^ n := by
  unfold nx
  split
  · exact ⟨by omega, Int.pow_pos (by omega)⟩
  · exact ⟨beR_nonneg _ _ _, beR_lt _ _ _⟩
def nxE (s : ByteArray) (n : Nat) : Int := if s.size < n then 10 else 0
theorem beC (s : ByteArray) (n : Nat) (w : World) (hs : s.size ≤ 281474976710656) (h1 : 1 ≤ n) (h8 : n ≤ 8) : Calls Try.prog 85 #[.string (s.extract 0 (min n s.size)), .int .i64 0, .int .i64 n] w fun e w' => e = .returned (.tuple #[.int .u64 (nx s n), .int .i64 (nxE s n)]) ∧ w' = w := by
  have hz := ext_size s 0 (min n s.size)
  unfold nx nxE
  by_cases h : s.size < n
  · rw [if_pos h, if_pos h]
    exact be_range _ 0 n w (by omega) (by omega)
  · rw [if_neg h, if_neg h]
    have e : beR s 0 n = beR (s.extract 0 (min n s.size)) 0 n := (beR_ext s 0 (min n s.size) 0 n (by omega) (by omega)).symm
    rw [e]
    exact be_any _ 0 n w (by omega) h1 h8 (by omega)
theorem two_new {w w1 : World} {o1 o2 : Obj} (b : Below ((w.alloc o1).alloc o2).heap.size ((w.alloc o1).alloc o2) w1) : w1.heap[w.heap.size]? = some o1 ∧ w1.heap[w.heap.size + 1]? = some o2 := by
  refine ⟨(b.block _ (by simp; omega)).trans ?_, (b.block _ (by simp)).trans ?_⟩
  · rw [heap_alloc_old _ _ (by simp)]; exact heap_alloc_new w _
  · exact heap_alloc2_new w _ _
theorem two_below {w w1 : World} {o1 o2 : Obj} (b : Below ((w.alloc o1).alloc o2).heap.size ((w.alloc o1).alloc o2) w1) : Below w.heap.size w w1 :=
  (((Below.refl _ _).alloc (Nat.le_refl _) _).alloc (by simp) _).trans (b.mono (by simp; omega))
set_option maxHeartbeats 1600000 in
theorem next8C (s : ByteArray) (w : World) (hs : s.size ≤ 281474976710656) :
    Calls Try.prog 55 #[.agg #[.string s]] w fun e w' => e = .returned (.tuple #[.int .u8 (nx s 1), .agg #[.string (cutL s 1)]]) ∧ Below w.heap.size w w' := by
  have CL : Hid (∀ w, Calls _ _ _ _ _) := fun w => len8 w
  have CT : Hid (∀ w, Calls _ _ _ _ _) := fun w => takeC s 1 _ w hs (by omega) rfl
  have CB : Hid (∀ w, Calls _ _ _ _ _) := fun w => beC s 1 w hs (by omega) (by omega)
  have hr := nx_range s 1
  have h256 : (256 : Int) ^ 1 = 256 := by decide
  rw [h256] at hr
  have hr0 := hr.1
  have hr1 := hr.2
  have HXO : Hid (IntKind.u64.wrap (bits BinOp.xor IntKind.u8 IntKind.u8.max 0) = 255) := by show _ = _; decide +kernel
  obtain ⟨r, HR⟩ : ∃ r, Hid (cutL s 1 = r) := ⟨_, rfl⟩
  have HR' : Hid (s.extract (min 1 s.size) s.size = r) := HR.out
  obtain ⟨q, HQ⟩ : ∃ q, Hid (s.extract 0 (min 1 s.size) = q) := ⟨_, rfl⟩
  obtain ⟨x, HX⟩ : ∃ x, Hid (nx s 1 = x) := ⟨_, rfl⟩
  obtain ⟨y, HY⟩ : ∃ y, Hid (nxE s 1 = y) := ⟨_, rfl⟩
  rw [HQ.out, HR'.out] at CT
  rw [HQ.out, HX.out, HY.out] at CB
  rw [HX.out] at hr0 hr1 ⊢
  rw [HR.out]
  have hwr : IntKind.u8.wrap x = x := by rw [IntKind.wrap_u8]; omega
  clear hr h256 HR HR' HQ HX HY
  go_enter Try.func55, Try.ntmps55
  go_wp2_with fail
  rw [HXO.out]
  refine (CL.out _).mono ?_
  rintro _ _ ⟨rfl, hw⟩; rw [hw]; clear hw
  go_wp2_with fail
  refine (CT.out _).mono ?_
  rintro _ w1 ⟨rfl, b1⟩
  have B1 : Hid (Below w.heap.size w w1) := two_below b1
  obtain ⟨h0, h1⟩ := two_new b1
  clear b1
  have c0 : w1.cell? ⟨w.heap.size, 0, none⟩ = some (.string s) := by rw [cell_of_row _ _ _ _ _ _ h0]; rfl
  have f0 : w1.frozen? ⟨w.heap.size, 0, none⟩ = false := frozen_of_row _ _ _ _ _ h0
  have H1 : Hid _ := h1
  have H0 : Hid _ := heap_setCell_same w1 _ 0 _ _ (.string r) h0
  clear h0 h1
  go_wp2_with fail
  refine (CB.out _).mono ?_
  rintro _ _ ⟨rfl, hw⟩; rw [hw]; clear hw
  obtain ⟨w2, HW⟩ : ∃ w2, w2 = w1.setCell ⟨w.heap.size, 0, none⟩ (.string r) := ⟨_, rfl⟩
  have B2 : Hid (Below w.heap.size w w2) := by rw [HW]; exact B1.out.setCell (Nat.le_refl _) _
  have h1 : w2.heap[w.heap.size + 1]? = some (.cells #[.string ⟨#[]⟩] 93) := by rw [HW, Below.heap_setCell _ _ _ _ (by simp)]; exact H1.out
  have h0 : w2.heap[w.heap.size]? = some (.cells #[.string r] 93) := by rw [HW]; exact H0.out
  rw [← HW]
  clear HW c0 f0 H1 H0 B1
  have c0 : w2.cell? ⟨w.heap.size, 0, none⟩ = some (.string r) := by rw [cell_of_row _ _ _ _ _ _ h0]; rfl
  have c1 : w2.cell? ⟨w.heap.size + 1, 0, none⟩ = some (.string ⟨#[]⟩) := by rw [cell_of_row _ _ _ _ _ _ h1]; rfl
  have f1 : w2.frozen? ⟨w.heap.size + 1, 0, none⟩ = false := frozen_of_row _ _ _ _ _ h1
  have HF : Hid _ := heap_setCell_same w2 _ 0 _ _ (.string r) h1
  clear h0 h1
  go_upto_region 4 with fail
  go_region
  go_wp2
  have G : ((w2.setCell ⟨w.heap.size + 1, 0, none⟩ (.string r)).drew).cell? ⟨w.heap.size + 1, 0, none⟩ = some (.string r) := (cell_of_row _ _ 0 _ _ _ HF.out)
  refine bodyPost_ret (by simp [results, Try.results55, go_sem, G]; try rfl) rfl ?_
  exact ⟨rfl, (B2.out.setCell (by simp) _).drew⟩
set_option maxHeartbeats 1600000 in
theorem next32C (s : ByteArray) (w : World) (hs : s.size ≤ 281474976710656) :
    Calls Try.prog 57 #[.agg #[.string s]] w fun e w' => e = .returned (.tuple #[.int .u32 (nx s 4), .agg #[.string (cutL s 4)]]) ∧ Below w.heap.size w w' := by
  have CL : Hid (∀ w, Calls _ _ _ _ _) := fun w => len32 w
  have CT : Hid (∀ w, Calls _ _ _ _ _) := fun w => takeC s 4 _ w hs (by omega) rfl
  have CB : Hid (∀ w, Calls _ _ _ _ _) := fun w => beC s 4 w hs (by omega) (by omega)
  have hr := nx_range s 4
  have h256 : (256 : Int) ^ 4 = 4294967296 := by decide
  rw [h256] at hr
  have hr0 := hr.1
  have hr1 := hr.2
  have HXO : Hid (IntKind.u64.wrap (bits BinOp.xor IntKind.u32 IntKind.u32.max 0) = 4294967295) := by show _ = _; decide +kernel
  obtain ⟨r, HR⟩ : ∃ r, Hid (cutL s 4 = r) := ⟨_, rfl⟩
  have HR' : Hid (s.extract (min 4 s.size) s.size = r) := HR.out
  obtain ⟨q, HQ⟩ : ∃ q, Hid (s.extract 0 (min 4 s.size) = q) := ⟨_, rfl⟩
  obtain ⟨x, HX⟩ : ∃ x, Hid (nx s 4 = x) := ⟨_, rfl⟩
  obtain ⟨y, HY⟩ : ∃ y, Hid (nxE s 4 = y) := ⟨_, rfl⟩
  rw [HQ.out, HR'.out] at CT
  rw [HQ.out, HX.out, HY.out] at CB
  rw [HX.out] at hr0 hr1 ⊢
  rw [HR.out]
  have hwr : IntKind.u32.wrap x = x := by rw [IntKind.wrap_u32]; omega
  clear hr h256 HR HR' HQ HX HY
  go_enter Try.func57, Try.ntmps57
  go_wp2_with fail
  rw [HXO.out]
  refine (CL.out _).mono ?_
  rintro _ _ ⟨rfl, hw⟩; rw [hw]; clear hw
  go_wp2_with fail
  refine (CT.out _).mono ?_
  rintro _ w1 ⟨rfl, b1⟩
  have B1 : Hid (Below w.heap.size w w1) := two_below b1
  obtain ⟨h0, h1⟩ := two_new b1
  clear b1
  have c0 : w1.cell? ⟨w.heap.size, 0, none⟩ = some (.string s) := by rw [cell_of_row _ _ _ _ _ _ h0]; rfl
  have f0 : w1.frozen? ⟨w.heap.size, 0, none⟩ = false := frozen_of_row _ _ _ _ _ h0
  have H1 : Hid _ := h1
  have H0 : Hid _ := heap_setCell_same w1 _ 0 _ _ (.string r) h0
  clear h0 h1
  go_wp2_with fail
  refine (CB.out _).mono ?_
  rintro _ _ ⟨rfl, hw⟩; rw [hw]; clear hw
  obtain ⟨w2, HW⟩ : ∃ w2, w2 = w1.setCell ⟨w.heap.size, 0, none⟩ (.string r) := ⟨_, rfl⟩
  have B2 : Hid (Below w.heap.size w w2) := by rw [HW]; exact B1.out.setCell (Nat.le_refl _) _
  have h1 : w2.heap[w.heap.size + 1]? = some (.cells #[.string ⟨#[]⟩] 93) := by rw [HW, Below.heap_setCell _ _ _ _ (by simp)]; exact H1.out
  have h0 : w2.heap[w.heap.size]? = some (.cells #[.string r] 93) := by rw [HW]; exact H0.out
  rw [← HW]
  clear HW c0 f0 H1 H0 B1
  have c0 : w2.cell? ⟨w.heap.size, 0, none⟩ = some (.string r) := by rw [cell_of_row _ _ _ _ _ _ h0]; rfl
  have c1 : w2.cell? ⟨w.heap.size + 1, 0, none⟩ = some (.string ⟨#[]⟩) := by rw [cell_of_row _ _ _ _ _ _ h1]; rfl
  have f1 : w2.frozen? ⟨w.heap.size + 1, 0, none⟩ = false := frozen_of_row _ _ _ _ _ h1
  have HF : Hid _ := heap_setCell_same w2 _ 0 _ _ (.string r) h1
  clear h0 h1
  go_upto_region 4 with fail
  go_region
  go_wp2
  have G : ((w2.setCell ⟨w.heap.size + 1, 0, none⟩ (.string r)).drew).cell? ⟨w.heap.size + 1, 0, none⟩ = some (.string r) := (cell_of_row _ _ 0 _ _ _ HF.out)
  refine bodyPost_ret (by simp [results, Try.results57, go_sem, G]; try rfl) rfl ?_
  exact ⟨rfl, (B2.out.setCell (by simp) _).drew⟩
set_option maxHeartbeats 1600000 in
theorem next64C (s : ByteArray) (w : World) (hs : s.size ≤ 281474976710656) :
    Calls Try.prog 56 #[.agg #[.string s]] w fun e w' => e = .returned (.tuple #[.int .u64 (nx s 8), .agg #[.string (cutL s 8)]]) ∧ Below w.heap.size w w' := by
  have CL : Hid (∀ w, Calls _ _ _ _ _) := fun w => len64 w
  have CT : Hid (∀ w, Calls _ _ _ _ _) := fun w => takeC s 8 _ w hs (by omega) rfl
  have CB : Hid (∀ w, Calls _ _ _ _ _) := fun w => beC s 8 w hs (by omega) (by omega)
  have hr := nx_range s 8
  have h256 : (256 : Int) ^ 8 = 18446744073709551616 := by decide
  rw [h256] at hr
  have hr0 := hr.1
  have hr1 := hr.2
  have HXO : Hid (bits BinOp.xor IntKind.u64 IntKind.u64.max 0 = 18446744073709551615) := by show _ = _; decide +kernel
  obtain ⟨r, HR⟩ : ∃ r, Hid (cutL s 8 = r) := ⟨_, rfl⟩
  have HR' : Hid (s.extract (min 8 s.size) s.size = r) := HR.out
  obtain ⟨q, HQ⟩ : ∃ q, Hid (s.extract 0 (min 8 s.size) = q) := ⟨_, rfl⟩
  obtain ⟨x, HX⟩ : ∃ x, Hid (nx s 8 = x) := ⟨_, rfl⟩
  obtain ⟨y, HY⟩ : ∃ y, Hid (nxE s 8 = y) := ⟨_, rfl⟩
  rw [HQ.out, HR'.out] at CT
  rw [HQ.out, HX.out, HY.out] at CB
  rw [HX.out] at hr0 hr1 ⊢
  rw [HR.out]
  have hwr : IntKind.u64.wrap x = x := by exact u64_nonneg hr0 (by omega)
  clear hr h256 HR HR' HQ HX HY
  go_enter Try.func56, Try.ntmps56
  go_wp2_with fail
  rw [HXO.out]
  refine (CL.out _).mono ?_
  rintro _ _ ⟨rfl, hw⟩; rw [hw]; clear hw
  go_wp2_with fail
  refine (CT.out _).mono ?_
  rintro _ w1 ⟨rfl, b1⟩
  have B1 : Hid (Below w.heap.size w w1) := two_below b1
  obtain ⟨h0, h1⟩ := two_new b1
  clear b1
  have c0 : w1.cell? ⟨w.heap.size, 0, none⟩ = some (.string s) := by rw [cell_of_row _ _ _ _ _ _ h0]; rfl
  have f0 : w1.frozen? ⟨w.heap.size, 0, none⟩ = false := frozen_of_row _ _ _ _ _ h0
  have H1 : Hid _ := h1
  have H0 : Hid _ := heap_setCell_same w1 _ 0 _ _ (.string r) h0
  clear h0 h1
  go_wp2_with fail
  refine (CB.out _).mono ?_
  rintro _ _ ⟨rfl, hw⟩; rw [hw]; clear hw
  obtain ⟨w2, HW⟩ : ∃ w2, w2 = w1.setCell ⟨w.heap.size, 0, none⟩ (.string r) := ⟨_, rfl⟩
  have B2 : Hid (Below w.heap.size w w2) := by rw [HW]; exact B1.out.setCell (Nat.le_refl _) _
  have h1 : w2.heap[w.heap.size + 1]? = some (.cells #[.string ⟨#[]⟩] 93) := by rw [HW, Below.heap_setCell _ _ _ _ (by simp)]; exact H1.out
  have h0 : w2.heap[w.heap.size]? = some (.cells #[.string r] 93) := by rw [HW]; exact H0.out
  rw [← HW]
  clear HW c0 f0 H1 H0 B1
  have c0 : w2.cell? ⟨w.heap.size, 0, none⟩ = some (.string r) := by rw [cell_of_row _ _ _ _ _ _ h0]; rfl
  have c1 : w2.cell? ⟨w.heap.size + 1, 0, none⟩ = some (.string ⟨#[]⟩) := by rw [cell_of_row _ _ _ _ _ _ h1]; rfl
  have f1 : w2.frozen? ⟨w.heap.size + 1, 0, none⟩ = false := frozen_of_row _ _ _ _ _ h1
  have HF : Hid _ := heap_setCell_same w2 _ 0 _ _ (.string r) h1
  clear h0 h1
  go_upto_region 4 with fail
  go_region
  go_wp2
  have G : ((w2.setCell ⟨w.heap.size + 1, 0, none⟩ (.string r)).drew).cell? ⟨w.heap.size + 1, 0, none⟩ = some (.string r) := (cell_of_row _ _ 0 _ _ _ HF.out)
  refine bodyPost_ret (by simp [results, Try.results56, go_sem, G]; try rfl) rfl ?_
  exact ⟨rfl, (B2.out.setCell (by simp) _).drew⟩
end Go.Proofs.Ytgioekepoebibaa.qd
