import Derived.Test.YtgioekepoebibaaRb
namespace Go.Proofs.Ytgioekepoebibaa.rq
open Go.RowKit Go.PlainAid
open Go.Proofs.Ytgioekepoebibaa.ra Go.Proofs.Ytgioekepoebibaa.rb
set_option linter.unusedVariables false

set_option maxHeartbeats 800000 in
theorem rcrcOn (crc : Nat) (s : ByteArray) (w : World) (hs : s.size ≤ 281474976710656) (hc : crc < 4294967296) :
    Calls Try.prog 86 #[.int .u32 crc, .string s] w fun e w' => e = .returned (.int .u32 (onF crc (nl s s.size) : Nat)) ∧ w' = w := by
  have HF : Hid _ := xor_ff crc hc
  go_enter Try.func86, Try.ntmps86
  go_wp2
  rw [HF.out]
  go_loop [5, 6] (fun r i => ∃ k R : Nat, k ≤ s.size ∧ i = .int .i64 k ∧ r = .int .u32 R ∧ R < 4294967296 ∧ Hid (R = crcR (crc ^^^ FF) (nl s k))) (fun _ i => (s.size - intOf i).toNat)
  case atStart => exact ⟨0, crc ^^^ FF, by omega, rfl, rfl, xor_ff_lt crc hc, rfl⟩
  case round =>
    obtain ⟨k, R, hk, rfl, rfl, hR, HR⟩ := hrel
    by_cases hlt : k < s.size
    · have hlt' : (k : Int) < s.size := by omega
      have hbt := get_bt s
      have b0 := bt_nonneg s k
      have b1 := bt_le s k
      have HXC : Hid _ := u32_xor_nat R (nt s k) hR (by have := nt_lt s k; omega)
      have HN : Hid _ := nt_bt s k
      have HRX : Hid (R ^^^ nt s k < 4294967296) := Nat.xor_lt_two_pow (n := 32) hR (by have := nt_lt s k; omega)
      go_wp2
      rw [HN.out, HXC.out]
      go_loop [5, 7] (fun r j => ∃ t X : Nat, t ≤ 8 ∧ j = .int .i64 t ∧ r = .int .u32 X ∧ X < 4294967296 ∧ Hid (X = sts t (R ^^^ nt s k))) (fun _ j => (8 - intOf j).toNat)
      case atStart => exact ⟨0, R ^^^ nt s k, by omega, rfl, rfl, HRX.out, rfl⟩
      case round =>
        obtain ⟨t, X, ht, rfl, rfl, hX, HT⟩ := hrel
        by_cases hl8 : t < 8
        · have hl8' : (t : Int) < 8 := by omega
          have HA : Hid _ := and_one X hX
          have HP : Hid _ := xor_po (X / 2) (by omega)
          rcases Nat.mod_two_eq_zero_or_one X with hm | hm
          · have HS : Hid (X / 2 = st X) := st0 X hm
            rw [hm] at HA
            have h01 : (bits .and .u32 (X : Int) 1 == 1) = false := by rw [HA.out]; rfl
            go_wp2
            go_round
            case rel => exact ⟨t + 1, X / 2, by omega, by go_num, by go_num, by omega, by rw [sts_succ, ← HT.out]; exact HS.out⟩
            case measure => simp [intOf]; omega
          · have HS : Hid ((X / 2) ^^^ PO = st X) := st1 X hm
            rw [hm] at HA
            have h01 : (bits .and .u32 (X : Int) 1 == 1) = true := by rw [HA.out]; rfl
            go_wp2
            go_round
            case rel => exact ⟨t + 1, (X / 2) ^^^ PO, by omega, by go_num, by rw [← HP.out]; go_num, by rw [HS.out]; exact st_lt X hX, by rw [sts_succ, ← HT.out]; exact HS.out⟩
            case measure => simp [intOf]; omega
        · have hl8' : ¬ (t : Int) < 8 := by omega
          obtain rfl : t = 8 := by omega
          go_wp2
          go_round
          case rel => exact ⟨k + 1, X, by omega, by go_num, rfl, hX, by rw [nl_succ, crcR_snoc, ← HR.out]; exact HT.out⟩
          case measure => simp [intOf]; omega
    · have hlt' : ¬ (k : Int) < s.size := by omega
      obtain rfl : k = s.size := by omega
      have HX : Hid _ := xor_ff R hR
      go_wp2
      rw [HX.out]
      go_ret
      exact ⟨by rw [HR.out]; rfl, rfl⟩

theorem rcrc (s : ByteArray) (w : World) (hs : s.size ≤ 281474976710656) :
    Calls Try.prog 72 #[.string s] w fun e w' => e = .returned (.int .u32 (onF 0 (nl s s.size) : Nat)) ∧ w' = w := by
  have X : Hid (Calls _ _ _ _ _) := rcrcOn 0 s w hs (by omega)
  go_enter Try.func72, Try.ntmps72
  go_wp2_with fail
  refine X.out.mono ?_
  rintro e w' ⟨rfl, rfl⟩
  go_wp2
  go_ret
  exact ⟨rfl, rfl⟩
end Go.Proofs.Ytgioekepoebibaa.rq
