import Derived.Test.YtgioekepoebibaaRh
namespace Go.Proofs.Ytgioekepoebibaa.ri
open Go.RowKit Go.PlainAid
open Go.Proofs.Ytgioekepoebibaa.ra Go.Proofs.Ytgioekepoebibaa.rb Go.Proofs.Ytgioekepoebibaa.nb Go.Proofs.Ytgioekepoebibaa.rc Go.Proofs.Ytgioekepoebibaa.rg Go.Proofs.Ytgioekepoebibaa.rh
set_option linter.unusedVariables false

theorem not_ff (r : Nat) (h : r < 4294967296) : bits .xor .u32 IntKind.u32.max (r : Int) = ((r ^^^ FF : Nat) : Int) := by
  rw [show IntKind.u32.max = ((4294967295 : Nat) : Int) by rfl, u32_xor_nat _ r (by omega) h, Nat.xor_comm]; rfl
theorem u8_xor (a b : Nat) (ha : a < 256) (hb : b < 256) : bits .xor .u8 (a : Int) (b : Int) = ((a ^^^ b : Nat) : Int) := by
  first | exact u8_xor_nat a b ha hb | exact u8_xor_nat a b (by omega) (by omega)

set_option maxHeartbeats 1600000 in
set_option maxRecDepth 100000 in
theorem CrcOn (crc : Nat) (s : ByteArray) (w : World) (hs : s.size ≤ 281474976710656) (hc : crc < 4294967296) :
    Calls Try.prog 54 #[.int .u32 crc, .string s] w fun e w' => e = .returned (.int .u32 (crcOnF crc s : Nat)) ∧ Below w.heap.size w w' := by
  have hsg : IntKind.u32.signed = false := rfl
  have hlen : (row32 (tabL 256)).size = 256 := by rw [row32_size, tabL_length]
  have HI : Hid ((Try.prog.info? 112).map (·.size) = some (row32 (tabL 256)).size) := by show _ = _; rw [hlen]; exact info256
  have H3 : Hid ((row32 (tabL 256)).all (·.oneCell') = true) := by show _ = _; simp [row32, Value.oneCell']
  have H4 : Hid (zT.size = (row32 (tabL 256)).size) := by show _ = _; rw [hlen, tabL_one, row32_size, tabL_length]
  have HW : Hid (∀ j, j < 256 → (row32 (tabL 256))[j]? = some (.int .u32 ((sts 8 j : Nat) : Int))) := fun j hj => by
    rw [row32_get, tabL_low _ _ hj hj]; rfl
  have X : Hid (Calls _ _ _ _ _) := byteSums w
  clear hlen
  generalize row32 (tabL 256) = WL at *
  go_enter Try.func54, Try.ntmps54
  go_wp2_with fail
  refine X.out.mono ?_
  rintro e w1 ⟨rfl, hb1⟩
  have HB : Hid (Below w.heap.size w (w1.alloc (.cells WL 112))) := hb1.alloc hb1.size _
  clear hb1 X
  go_wp2_with (first | (refine wpList_alloc rfl 112 rfl _ _ (alloc256 _) ?_) | (refine wpList_store_row rfl 112 (.tmp 5) (.tmp 8) rfl w1.heap.size WL rfl rfl 112 zT (heap_alloc_new w1 _) HI.out H4.out H3.out ?_; rw [World.setRow_alloc_new]))
  rw [(not_ff crc hc)]
  go_loop [6, 13] (fun r i => ∃ k R : Nat, k ≤ s.size ∧ i = .int .i64 k ∧ r = .int .u32 R ∧ R < 4294967296 ∧ Hid (R = crcR (crc ^^^ FF) (nl s k))) (fun _ i => (s.size - intOf i).toNat)
  case atStart => exact ⟨0, crc ^^^ FF, by omega, rfl, rfl, xor_ff_lt crc hc, rfl⟩
  case round =>
    obtain ⟨k, R, hk, rfl, rfl, hR, HR⟩ := hrel
    by_cases hlt : k < s.size
    · have hlt' : (k : Int) < s.size := by omega
      have hbt := get_bt s
      have b0 := bt_nonneg s k
      have b1 := bt_le s k
      have hn := nt_lt s k
      obtain ⟨J, HJ⟩ : ∃ J, Hid (J = (R % 256) ^^^ nt s k) := ⟨_, rfl⟩
      have hJ : J < 256 := by rw [HJ.out]; exact Nat.xor_lt_two_pow (n := 8) (by omega) (by omega)
      have hJ' : (J : Int) < 256 := by omega
      have hidx : bits .xor .u8 ((R : Int) % 256) (bt s k) = (J : Int) := by
        rw [nt_bt s k, show (R : Int) % 256 = ((R % 256 : Nat) : Int) by omega, u8_xor _ _ (by omega) hn, HJ.out]
      have C1 : (w1.alloc (.cells WL 112)).cell? ⟨w1.heap.size, J, none⟩ = some (.int .u32 ((sts 8 J : Nat) : Int)) := by
        rw [cell_of_row _ _ _ _ _ _ (heap_alloc_new w1 _)]; exact HW.out J hJ
      have sJ := sts_lt 8 J (by omega)
      have HX : Hid (bits .xor .u32 ((R : Int) / 256) ((sts 8 J : Nat) : Int) = ((bs R (nt s k) : Nat) : Int)) := by
        show _ = _
        rw [show (R : Int) / 256 = ((R / 256 : Nat) : Int) by omega, u32_xor_nat _ _ (by omega) sJ, bs_look R _ hn, HJ.out]
      clear hn
      have hb := bs_lt R (nt s k) hR (nt_lt s k)
      go_wp2
      go_round
      case rel => exact ⟨k + 1, bs R (nt s k), by omega, by go_num, by rw [HX.out], hb, by rw [nl_succ, crcR_snoc, ← HR.out]; exact rfl⟩
      case measure => simp [intOf]; omega
    · have hlt' : ¬ (k : Int) < s.size := by omega
      obtain rfl : k = s.size := by omega
      have HX : Hid _ := not_ff R hR
      go_wp2
      rw [HX.out]
      go_ret
      exact ⟨by rw [HR.out]; rfl, HB.out⟩

theorem Crc (s : ByteArray) (w : World) (hs : s.size ≤ 281474976710656) :
    Calls Try.prog 32 #[.string s] w fun e w' => e = .returned (.int .u32 (crcF s : Nat)) ∧ Below w.heap.size w w' := by
  have X : Hid (Calls _ _ _ _ _) := CrcOn 0 s w hs (by omega)
  go_enter Try.func32, Try.ntmps32
  go_wp2_with fail
  refine X.out.mono ?_
  rintro e w' ⟨rfl, hb⟩
  go_wp2
  go_ret
  exact ⟨rfl, hb⟩
end Go.Proofs.Ytgioekepoebibaa.ri
