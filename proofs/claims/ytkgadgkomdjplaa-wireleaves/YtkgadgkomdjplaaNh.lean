import Derived.Test.YtkgadgkomdjplaaNe
import Derived.RowKit3
import Derived.WalkLawsBesides
namespace Go.Proofs.Ytkgadgkomdjplaa.nh
open Go.RowKit Go.PlainAid
open Go.Proofs.Ytkgadgkomdjplaa.na Go.Proofs.Ytkgadgkomdjplaa.nb Go.Proofs.Ytkgadgkomdjplaa.nc
set_option linter.unusedVariables false

theorem str_app (xs ys : List Int) : str xs ++ str ys = str (xs ++ ys) := by
  apply ByteArray.ext
  rw [ByteArray.data_append, str_data, str_data, str_data]
  simp

theorem conv_one (W : World) (c : Int) :
    (convert 64 9 (.slice (some ⟨W.heap.size, 0, none⟩) 1 1)).run Try.prog (W.alloc (.cells #[.int .u8 c] 5)) = .ok (.string (str [c])) (W.alloc (.cells #[.int .u8 c] 5)) :=
  conv_row [c] W 1 rfl

theorem quo128 (v : Int) (k : Nat) : v / 128 ^ k / 128 = v / 128 ^ (k + 1) := by
  have hc : (0 : Int) ≤ 128 ^ k := Int.pow_nonneg (by omega)
  rw [Int.pow_succ, Int.ediv_ediv_of_nonneg hc]

theorem wants_ge (v : Int) (m k : Nat) (hw : Wants v m) (h : k + 1 < m) : 128 ≤ v / 128 ^ k := by
  have hc : (0 : Int) < 128 ^ k := Int.pow_pos (by omega)
  have h1 := hw.2.2.2 (by omega)
  have h2 : (128 : Int) ^ (k + 1) ≤ 128 ^ (m - 1) := ipow_le 128 (by omega) (show k + 1 ≤ m - 1 by omega)
  rw [Int.pow_succ] at h2
  exact (Int.le_ediv_iff_mul_le hc).2 (by omega)

theorem wants_lt (v : Int) (m : Nat) (hw : Wants v m) : v / 128 ^ (m - 1) < 128 := by
  have hc : (0 : Int) < 128 ^ (m - 1) := Int.pow_pos (by omega)
  apply Int.ediv_lt_of_lt_mul hc
  have e : (128 : Int) * 128 ^ (m - 1) = 128 ^ m := by
    have := hw.1
    rw [Int.mul_comm, ← Int.pow_succ]; congr 1; omega
  rw [e]; exact hw.2.2.1

def gs (v : Int) (k : Nat) : List Int := (List.range k).map (gB v)
theorem gs_length (v : Int) (k : Nat) : (gs v k).length = k := by simp [gs]
theorem gs_next (v : Int) (k : Nat) : gs v k ++ [v / 128 ^ k % 128 + 128] = gs v (k + 1) := by simp [gs, List.range_succ, gB]
theorem gs_last (v : Int) (m : Nat) (h0 : 0 ≤ v) (hw : Wants v m) : gs v (m - 1) ++ [v / 128 ^ (m - 1)] = putL v m := by
  have h1 := wants_lt v m hw
  have h2 : 0 ≤ v / 128 ^ (m - 1) := Int.ediv_nonneg h0 (Int.pow_nonneg (by omega))
  have e : v / 128 ^ (m - 1) % 128 = v / 128 ^ (m - 1) := Int.emod_eq_of_lt h2 h1
  simp [gs, putL, e]

theorem ret_s (s t : ByteArray) (h : s = t) : Ending.returned (.string s) = .returned (.string t) := by rw [h]

set_option maxHeartbeats 800000 in
theorem rpv_any (v : Int) (m : Nat) (w : World) (v0 : 0 ≤ v) (v1 : v ≤ 18446744073709551615) (m1 : 1 ≤ m) (m2 : m ≤ 10) (HW : Hid (Wants v m)) :
    Calls Try.prog 65 #[.int .u64 v] w fun e w' => e = .returned (.string (str (putL v m))) ∧ Below w.heap.size w w' := by
  have hcv := conv_one
  have hst : ∀ c : Int, (str [c]).size = 1 := fun c => str_size [c]
  go_enter Try.func65, Try.ntmps65
  go_wp2
  go_loopw [0, 3] (fun x t wr => ∃ k : Nat, k + 1 ≤ m ∧ x = .int .u64 (v / 128 ^ k) ∧ t = .string (str (gs v k)) ∧ Below w.heap.size w wr) (fun x _ _ => (intOf x).toNat)
  case atStart => exact ⟨0, by omega, by simp, rfl, Below.refl _ _⟩
  case round =>
    obtain ⟨k, hk, rfl, rfl, hg⟩ := hrel
    have G : Hid (Below w.heap.size w wr) := hg
    clear hg
    have hlen : (str (gs v k)).size = k := by rw [str_size, gs_length]
    have q0 : 0 ≤ v / 128 ^ k := Int.ediv_nonneg v0 (Int.pow_nonneg (by omega))
    have q1 : v / 128 ^ k ≤ 18446744073709551615 := Int.le_trans (Int.ediv_le_self _ v0) v1
    by_cases hlt : k + 1 < m
    · have hq := wants_ge v m k HW.out hlt
      go_wp2
      go_roundw
      case rel => exact ⟨k + 1, by omega, by rw [quo128], by rw [str_app, gs_next], G.out.alloc G.out.size _⟩
      case measure => simp [intOf]; omega
    · obtain rfl : k = m - 1 := by omega
      have hq := wants_lt v m HW.out
      have HL : Hid _ := gs_last v m v0 HW.out
      go_wp2
      go_ret
      exact ⟨ret_s _ _ (by rw [str_app, HL.out]), G.out.alloc G.out.size _⟩
end Go.Proofs.Ytkgadgkomdjplaa.nh
