import Derived.Test.YtkgadgkomdjplaaNc
import Derived.Test.YtkgadgkomdjplaaXb
import Derived.Test.YtkgadgkomdjplaaNf
import Derived.Lib.MinMax
import Derived.RowKit3
namespace Go.Proofs.Ytkgadgkomdjplaa.ne
open Go.RowKit Go.PlainAid
open Go.Proofs.Ytkgadgkomdjplaa.na Go.Proofs.Ytkgadgkomdjplaa.nb Go.Proofs.Ytkgadgkomdjplaa.xb Go.Proofs.Ytkgadgkomdjplaa.nc
set_option linter.unusedVariables false

set_option maxHeartbeats 800000 in
theorem pv_core (v : Int) (m l : Nat) (w : World) (h0 : 0 ≤ v) (h1 : v ≤ 18446744073709551615) (m1 : 1 ≤ m) (m2 : m ≤ 10) (hl : l ≤ 64)
    (HM : Hid (max 1 (((l : Int) + 6) / 7) = (m : Int)))
    (HC : Hid (∀ w, Calls Try.prog 90 #[.int .u64 v] w fun e w' => e = .returned (.int .i64 l) ∧ w' = w)) :
    Calls Try.prog 64 #[.int .u64 v] w fun e w' => e = .returned (.string (str (putL v m))) ∧ w' = w.alloc (.cells (row (putL v m)) 5) := by
  go_enter Try.func64, Try.ntmps64
  go_wp2_with fail
  refine (HC.out _).mono ?_
  rintro e w' ⟨rfl, rfl⟩
  have hmk := make_row m (by omega)
  have hm := HM.out
  go_wp2
  clear hm
  go_loopw [14] (fun i wr => ∃ k : Nat, k ≤ m ∧ i = .int .i64 k ∧ wr = w'.alloc (.cells (row (varL v m k)) 5)) (fun i _ => (m - intOf i).toNat)
  case atStart => exact ⟨0, by omega, rfl, by rw [varL_zero]⟩
  case round =>
    obtain ⟨k, hk, rfl, rfl⟩ := hrel
    have HL : Hid _ := varL_length v m k hk
    by_cases hlt : k < m
    · have hlt' : (k : Int) < m := by omega
      have hsz : k < (row (varL v m k)).size := by rw [row_size, HL.out]; omega
      have HB : Hid _ := or128 (v / 2 ^ (7 * k) % 256) (by omega) (by omega)
      have HG : Hid (v / 2 ^ (7 * k) % 256 % 128 + 128 = gB v k) := by show _ = _; rw [pow128, gB]; omega
      go_wp2
      go_roundw
      case rel => exact ⟨k + 1, by omega, by go_num, by rw [HB.out, HG.out, row_set, varL_set v m k hlt]⟩
      case measure => simp [intOf]; omega
    · have hlt' : ¬ (k : Int) < m := by omega
      have e : k = m := by omega
      subst e
      have hsz : k - 1 < (row (varL v k k)).size := by rw [row_size, HL.out]; omega
      have hix : ((k : Int) - 1).toNat = k - 1 := by omega
      have hget : (row (varL v k k))[k - 1]'hsz = .int .u8 (gB v (k - 1)) := by
        have h : (row (varL v k k))[k - 1]? = some (.int .u8 (gB v (k - 1))) := by rw [row_get, varL_last v k m1]; rfl
        exact (Array.getElem?_eq_some_iff.1 h).2
      have hg := gB_byte v (k - 1)
      have HA : Hid (bits .and .u8 (gB v (k - 1)) 127 = v / 128 ^ (k - 1) % 128) := by show _ = _; rw [and127 _ (by omega) (by omega), gB]; omega
      have HE : Hid ((row (varL v k k)).setIfInBounds (k - 1) (.int .u8 (bits .and .u8 (gB v (k - 1)) 127)) = row (putL v k)) := by
        show _ = _
        rw [HA.out, row_set, varL_put v k m1]
      have hcv := conv_row (putL v k) w' k (putL_length v k m1).symm
      rw [← HE.out] at hcv
      go_wp2
      go_ret
      exact ⟨rfl, by rw [HE.out]⟩

theorem pv_any (v : Int) (h0 : 0 ≤ v) (h1 : v ≤ 18446744073709551615) : ∃ m, Wants v m ∧
    ∀ w, Calls Try.prog 64 #[.int .u64 v] w fun e w' => e = .returned (.string (str (putL v m))) ∧ w' = w.alloc (.cells (row (putL v m)) 5) := by
  have hw := wants_len v h0 h1
  refine ⟨_, hw, fun w => ?_⟩
  have hl : Lib.bitLen v.toNat ≤ 64 := Lib.bitLenAux_le 64 v.toNat 64 (by omega)
  refine pv_core v _ (Lib.bitLen v.toNat) w h0 h1 hw.1 hw.2.1 hl ?_ (fun w => len_any v w h0 h1)
  show _ = _
  by_cases hv : v = 0
  · subst hv
    have e : Lib.bitLen (0 : Int).toNat = 0 := bitLen_zero
    rw [e]; decide
  · have h2 := (Go.Proofs.Ytkgadgkomdjplaa.nc.bitLen_spec v.toNat (by omega)).2 (by omega)
    rw [if_neg hv]
    omega
end Go.Proofs.Ytkgadgkomdjplaa.ne
