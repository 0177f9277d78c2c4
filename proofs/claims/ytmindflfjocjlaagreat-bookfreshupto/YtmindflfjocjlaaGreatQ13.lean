import Derived.Test.YtmindflfjocjlaaGreatQ12
import Derived.Test.YtmindflfjocjlaaGreatQ11
import Derived.RowKit3
import Derived.WalkLawsBesides
import Derived.Laws.Strings2
import Derived.Deep.RegionWith
import Derived.Deep.DeepCutAuto
import Derived.Deep.QuietTactic
import Derived.BigQuiet
import Derived.RegionTactic
import Derived.Laws.BytesString
namespace Go.Proofs.YtmindflfjocjlaaGreat.tri
open Go.RowKit Go.PlainAid
open Go.Proofs.YtmindflfjocjlaaGreat.tra Go.Proofs.YtmindflfjocjlaaGreat.trb Go.Proofs.YtmindflfjocjlaaGreat.nb Go.Proofs.YtmindflfjocjlaaGreat.trc Go.Proofs.YtmindflfjocjlaaGreat.trg Go.Proofs.YtmindflfjocjlaaGreat.trh
set_option linter.unusedVariables false

theorem not_ff (r : Nat) (h : r < 4294967296) : bits .xor .u32 IntKind.u32.max (r : Int) = ((r ^^^ FF : Nat) : Int) := by
  rw [show IntKind.u32.max = ((4294967295 : Nat) : Int) by rfl, u32_xor_nat _ r (by omega) h, Nat.xor_comm]; rfl
theorem u8_xor (a b : Nat) (ha : a < 256) (hb : b < 256) : bits .xor .u8 (a : Int) (b : Int) = ((a ^^^ b : Nat) : Int) := by
  first | exact u8_xor_nat a b ha hb | exact u8_xor_nat a b (by omega) (by omega)

set_option maxHeartbeats 1600000 in
set_option maxRecDepth 100000 in
theorem CrcOn (crc : Nat) (s : ByteArray) (w : World) (hs : s.size ≤ 281474976710656) (hc : crc < 4294967296) :
    Calls Tryz.prog 94 #[.int .u32 crc, .string s] w fun e w' => e = .returned (.int .u32 (crcOnF crc s : Nat)) ∧ Below w.heap.size w w' := by
  have hsg : IntKind.u32.signed = false := rfl
  have hlen : (row32 (tabL 256)).size = 256 := by rw [row32_size, tabL_length]
  have HI : Hid ((Tryz.prog.info? 150).map (·.size) = some (row32 (tabL 256)).size) := by show _ = _; rw [hlen]; exact info256
  have H3 : Hid ((row32 (tabL 256)).all (·.oneCell') = true) := by show _ = _; simp [row32, Value.oneCell']
  have H4 : Hid (zT.size = (row32 (tabL 256)).size) := by show _ = _; rw [hlen, tabL_one, row32_size, tabL_length]
  have HW : Hid (∀ j, j < 256 → (row32 (tabL 256))[j]? = some (.int .u32 ((sts 8 j : Nat) : Int))) := fun j hj => by
    rw [row32_get, tabL_low _ _ hj hj]; rfl
  have X : Hid (Calls _ _ _ _ _) := byteSums w
  clear hlen
  generalize row32 (tabL 256) = WL at *
  go_enter Tryz.func94, Tryz.ntmps94
  go_wp2_with fail
  refine X.out.mono ?_
  rintro e w1 ⟨rfl, hb1⟩
  have HB : Hid (Below w.heap.size w (w1.alloc (.cells WL 150))) := hb1.alloc hb1.size _
  clear hb1 X
  go_wp2_with (first | (refine wpList_alloc rfl 150 rfl _ _ (alloc256 _) ?_) | (refine wpList_store_row rfl 150 (.tmp 5) (.tmp 8) rfl w1.heap.size WL rfl rfl 150 zT (heap_alloc_new w1 _) HI.out H4.out H3.out ?_; rw [World.setRow_alloc_new]))
  rw [(not_ff crc hc)]
  go_loop [6, 13] (fun r i => ∃ k R : Nat, k ≤ s.size ∧ i = .int .i64 k ∧ r = .int .u32 R ∧ R < 4294967296 ∧ Hid (R = crcR (crc ^^^ FF) (nl s k))) (fun _ i => (s.size - intOf i).toNat)
  case atStart => exact ⟨0, crc ^^^ FF, by omega, rfl, rfl, xor_ff_lt crc hc, rfl⟩
  case round =>
    obtain ⟨k, R, hk, rfl, rfl, hR, HR⟩ := hrel
    by_cases hlt : k < s.size
    · have hlt' : (k : Int) < s.size := by omega
      have hbt := get_bt s
      have b0 := bt_nonneg s k
      have b1 := bt_le s k
      have hn := nt_lt s k
      obtain ⟨J, HJ⟩ : ∃ J, Hid (J = (R % 256) ^^^ nt s k) := ⟨_, rfl⟩
      have hJ : J < 256 := by rw [HJ.out]; exact Nat.xor_lt_two_pow (n := 8) (by omega) (by omega)
      have hJ' : (J : Int) < 256 := by omega
      have hidx : bits .xor .u8 ((R : Int) % 256) (bt s k) = (J : Int) := by
        rw [nt_bt s k, show (R : Int) % 256 = ((R % 256 : Nat) : Int) by omega, u8_xor _ _ (by omega) hn, HJ.out]
      have C1 : (w1.alloc (.cells WL 150)).cell? ⟨w1.heap.size, J, none⟩ = some (.int .u32 ((sts 8 J : Nat) : Int)) := by
        rw [cell_of_row _ _ _ _ _ _ (heap_alloc_new w1 _)]; exact HW.out J hJ
      have sJ := sts_lt 8 J (by omega)
      have HX : Hid (bits .xor .u32 ((R : Int) / 256) ((sts 8 J : Nat) : Int) = ((bs R (nt s k) : Nat) : Int)) := by
        show _ = _
        rw [show (R : Int) / 256 = ((R / 256 : Nat) : Int) by omega, u32_xor_nat _ _ (by omega) sJ, bs_look R _ hn, HJ.out]
      clear hn
      have hb := bs_lt R (nt s k) hR (nt_lt s k)
      go_wp2
      go_round
      case rel => exact ⟨k + 1, bs R (nt s k), by omega, by go_num, by rw [HX.out], hb, by rw [nl_succ, crcR_snoc, ← HR.out]; exact rfl⟩
      case measure => simp [intOf]; omega
    · have hlt' : ¬ (k : Int) < s.size := by omega
      obtain rfl : k = s.size := by omega
      have HX : Hid _ := not_ff R hR
      go_wp2
      rw [HX.out]
      go_ret
      exact ⟨by rw [HR.out]; rfl, HB.out⟩

theorem Crc (s : ByteArray) (w : World) (hs : s.size ≤ 281474976710656) :
    Calls Tryz.prog 80 #[.string s] w fun e w' => e = .returned (.int .u32 (crcF s : Nat)) ∧ Below w.heap.size w w' := by
  have X : Hid (Calls _ _ _ _ _) := CrcOn 0 s w hs (by omega)
  go_enter Tryz.func80, Tryz.ntmps80
  go_wp2_with fail
  refine X.out.mono ?_
  rintro e w' ⟨rfl, hb⟩
  go_wp2
  go_ret
  exact ⟨rfl, hb⟩
end Go.Proofs.YtmindflfjocjlaaGreat.tri

namespace Go.Proofs.YtmindflfjocjlaaGreat.tpe
open Go.RowKit Go.PlainAid
open Go.Proofs.YtmindflfjocjlaaGreat.na Go.Proofs.YtmindflfjocjlaaGreat.nb Go.Proofs.YtmindflfjocjlaaGreat.tpa
set_option linter.unusedVariables false

theorem sum_over (a b m : Int) (w : World) (ha : 0 ≤ a) (hm : 0 ≤ m) (hm' : m ≤ 9223372036854775807) (h : m - a < b) :
    Calls Tryz.prog 112 #[.int .i64 a, .int .i64 b, .int .i64 m] w fun e w' => e = .returned (.tuple #[.int .i64 0, .int .i64 11]) ∧ w' = w := by
  by_cases h1 : m < a
  · go_enter Tryz.func112, Tryz.ntmps112
    go_wp2
    go_ret2
    exact ⟨rfl, rfl⟩
  · go_enter Tryz.func112, Tryz.ntmps112
    go_wp2
    go_ret2
    exact ⟨rfl, rfl⟩

theorem sum_ok (a b m : Int) (w : World) (ha : 0 ≤ a) (hb : 0 ≤ b) (hm : a ≤ m) (hm' : m ≤ 9223372036854775807) (h : ¬ m - a < b) :
    Calls Tryz.prog 112 #[.int .i64 a, .int .i64 b, .int .i64 m] w fun e w' => e = .returned (.tuple #[.int .i64 (a + b), .int .i64 0]) ∧ w' = w := by
  have h1 : ¬ m < a := by omega
  go_enter Tryz.func112, Tryz.ntmps112
  go_wp2
  go_ret2
  exact ⟨rfl, rfl⟩

theorem be_range (b : ByteArray) (p n : Int) (w : World) (hb : b.size ≤ 9223372036854775807) (h : n < 1 ∨ 8 < n ∨ p < 0 ∨ (b.size : Int) - p < n) :
    Calls Tryz.prog 92 #[.string b, .int .i64 p, .int .i64 n] w fun e w' => e = .returned (.tuple #[.int .u64 0, .int .i64 10]) ∧ w' = w := by
  by_cases h1 : n < 1 ∨ 8 < n
  · have H1 : Hid _ := h1
    clear h1 h
    go_enter Tryz.func92, Tryz.ntmps92
    go_wp2_with (go_at_call 111; refine (len_no n _ H1.out).mono ?_; rintro e w' ⟨rfl, rfl⟩)
    go_ret2
    exact ⟨rfl, rfl⟩
  by_cases h2 : p < 0
  · have g1 : 1 ≤ n := by omega
    have g2 : n ≤ 8 := by omega
    clear h1 h
    go_enter Tryz.func92, Tryz.ntmps92
    go_wp2_with (go_at_call 111; refine (len_yes n _ g1 g2).mono ?_; rintro e w' ⟨rfl, rfl⟩)
    go_ret2
    exact ⟨rfl, rfl⟩
  have g1 : 1 ≤ n := by omega
  have g2 : n ≤ 8 := by omega
  have g3 : (b.size : Int) - p < n := by omega
  clear h1 h
  go_enter Tryz.func92, Tryz.ntmps92
  go_wp2_with (first | (go_at_call 111; refine (len_yes n _ g1 g2).mono ?_; rintro e w' ⟨rfl, rfl⟩) | (go_at_call 112; refine (sum_over p n _ _ (by omega) (by omega) (by omega) g3).mono ?_; rintro e w' ⟨rfl, rfl⟩))
  go_ret2
  exact ⟨rfl, rfl⟩

theorem ret2_u (x y z : Int) (h : x = y) : Ending.returned (.tuple #[.int .u64 x, .int .i64 z]) = .returned (.tuple #[.int .u64 y, .int .i64 z]) := by
  subst h; rfl

set_option maxHeartbeats 800000 in
theorem be_any (b : ByteArray) (p n : Nat) (w : World) (hb : b.size ≤ 9223372036854775807) (h1 : 1 ≤ n) (h2 : n ≤ 8) (hp : p + n ≤ b.size) :
    Calls Tryz.prog 92 #[.string b, .int .i64 p, .int .i64 n] w fun e w' => e = .returned (.tuple #[.int .u64 (beR b p n), .int .i64 0]) ∧ w' = w := by
  have hbt := get_bt b
  have hd0 : decide ((p : Int) < 0) = false := by simp
  go_enter Tryz.func92, Tryz.ntmps92
  go_wp2_with (first | (go_at_call 111; refine (len_yes n _ (by omega) (by omega)).mono ?_; rintro e w' ⟨rfl, rfl⟩) | (go_at_call 112; refine (sum_ok p n _ _ (by omega) (by omega) (by omega) (by omega) (by omega)).mono ?_; rintro e w' ⟨rfl, rfl⟩))
  go_loop [10, 30] (fun v i => ∃ (k : Nat), k ≤ n ∧ v = .int .u64 (beR b p k) ∧ i = .int .i64 k) (fun _ i => (n - intOf i).toNat)
  case atStart => exact ⟨0, by omega, rfl, rfl⟩
  case round =>
    obtain ⟨k, hk, rfl, rfl⟩ := hrel
    by_cases hlt : k < n
    · have hlt' : (k : Int) < n := by omega
      have hpk : p + k < b.size := by omega
      have hc0 := bt_nonneg b (p + k)
      have hc1 := bt_le b (p + k)
      have hv0 := beR_nonneg b p k
      have hv1 := beR_seven b p k (by omega)
      have HO : Hid _ := or_low (beR b p k) (bt b (p + k)) hv0 hv1 hc0 hc1
      go_wp2
      go_round
      case rel => exact ⟨k + 1, by omega, by rw [HO.out]; rfl, by go_num⟩
      case measure => simp [intOf]; omega
    · have hlt' : ¬ (k : Int) < n := by omega
      have e : k = n := by omega
      have HE : Hid _ := e
      clear e
      go_wp2
      go_ret2
      exact ⟨ret2_u _ _ _ (by rw [HE.out]), rfl⟩

end Go.Proofs.YtmindflfjocjlaaGreat.tpe

namespace Go.Proofs.YtmindflfjocjlaaGreat.tqb
open Go.RowKit Go.PlainAid
open Go.Proofs.YtmindflfjocjlaaGreat.na Go.Proofs.YtmindflfjocjlaaGreat.nb Go.Proofs.YtmindflfjocjlaaGreat.tpa Go.Proofs.YtmindflfjocjlaaGreat.tpd Go.Proofs.YtmindflfjocjlaaGreat.tra Go.Proofs.YtmindflfjocjlaaGreat.trb Go.Proofs.YtmindflfjocjlaaGreat.tqa
set_option linter.unusedVariables false

theorem over {w w1 w2 : World} (h : Below w.heap.size w w1) (b : Below w1.heap.size w1 w2) : Below w.heap.size w w2 := h.trans (b.mono h.size)
theorem conv_one (W : World) (c : Int) :
    (convert 108 9 (.slice (some ⟨W.heap.size, 0, none⟩) 1 1)).run Tryz.prog (W.alloc (.cells #[.int .u8 c] 5)) = .ok (.string (str [c])) (W.alloc (.cells #[.int .u8 c] 5)) :=
  conv_row [c] W 1 rfl
theorem isKindC (k : Int) (w : World) : Calls Tryz.prog 41 #[.int .i64 k] w fun e w' => e = .returned (.bool (decide (1 ≤ k ∧ k ≤ 255))) ∧ w' = w := by
  by_cases h1 : 1 ≤ k
  · by_cases h2 : k ≤ 255
    · rw [decide_eq_true ⟨h1, h2⟩]
      go_enter Tryz.func41, Tryz.ntmps41
      go_wp2
      go_ret
      exact ⟨rfl, rfl⟩
    · rw [decide_eq_false (fun h => h2 h.2)]
      go_enter Tryz.func41, Tryz.ntmps41
      go_wp2
      go_ret
      exact ⟨rfl, rfl⟩
  · rw [decide_eq_false (fun h => h1 h.1)]
    go_enter Tryz.func41, Tryz.ntmps41
    go_wp2
    go_ret
    exact ⟨rfl, rfl⟩
theorem oneByteC (v : Int) (w : World) (h0 : 0 ≤ v) (h1 : v ≤ 255) : Calls Tryz.prog 73 #[.int .i64 v] w fun e w' => e = .returned (.string (str [v])) ∧ Below w.heap.size w w' := by
  have hcv := conv_one w v
  have hw : IntKind.u8.wrap v = v := by rw [IntKind.wrap_u8]; omega
  go_enter Tryz.func73, Tryz.ntmps73
  go_wp2
  go_ret
  exact ⟨rfl, (Below.refl _ _).alloc (Nat.le_refl _) _⟩
theorem put8 (v : Int) (w : World) (h0 : 0 ≤ v) (h1 : v ≤ 18446744073709551615) :
    Calls Tryz.prog 93 #[.int .u64 v, .int .i64 8] w fun e w' => e = .returned (.tuple #[.string (str (lowB v 8)), .int .i64 0]) ∧ Below w.heap.size w w' :=
  (put_any v 8 w (by omega) (by omega) (fit8 v h0 h1)).mono (by rintro e w' ⟨rfl, rfl⟩; exact ⟨rfl, (Below.refl _ _).alloc (Nat.le_refl _) _⟩)
theorem put4 (v : Int) (w : World) (h0 : 0 ≤ v) (h1 : v < 4294967296) :
    Calls Tryz.prog 93 #[.int .u64 v, .int .i64 4] w fun e w' => e = .returned (.tuple #[.string (str (lowB v 4)), .int .i64 0]) ∧ Below w.heap.size w w' :=
  (put_any v 4 w (by omega) (by omega) (fit4 v h0 h1)).mono (by rintro e w' ⟨rfl, rfl⟩; exact ⟨rfl, (Below.refl _ _).alloc (Nat.le_refl _) _⟩)
theorem big8C (v : Int) (w : World) (h0 : 0 ≤ v) (h1 : v ≤ 9223372036854775807) : Calls Tryz.prog 78 #[.int .i64 v] w fun e w' => e = .returned (.string (str (lowB v 8))) ∧ Below w.heap.size w w' := by
  have hw : IntKind.u64.wrap v = v := u64_nonneg h0 (by omega)
  go_enter Tryz.func78, Tryz.ntmps78
  go_wp2_with fail
  refine (put8 v w h0 (by omega)).mono ?_
  rintro e w1 ⟨rfl, hb⟩
  go_wp2
  go_ret
  exact ⟨rfl, hb⟩
theorem big4C (v : Int) (w : World) (h0 : 0 ≤ v) (h1 : v < 4294967296) : Calls Tryz.prog 79 #[.int .u32 v] w fun e w' => e = .returned (.string (str (lowB v 4))) ∧ Below w.heap.size w w' := by
  have hw : IntKind.u64.wrap v = v := u64_nonneg h0 (by omega)
  go_enter Tryz.func79, Tryz.ntmps79
  go_wp2_with fail
  refine (put4 v w h0 (by omega)).mono ?_
  rintro e w1 ⟨rfl, hb⟩
  go_wp2
  go_ret
  exact ⟨rfl, hb⟩
theorem letterB : (⟨#[66]⟩ : ByteArray) = str [66] := rfl
def spaceT (s : Int) : ByteArray := str (66 :: lowB s 8)
theorem spaceT_size (s : Int) : (spaceT s).size = 9 := by rw [spaceT, str_size]; simp [lowB_length]
theorem spaceC (v : Int) (w : World) (h0 : 0 ≤ v) (h1 : v ≤ 9223372036854775807) : Calls Tryz.prog 56 #[.int .i64 v] w fun e w' => e = .returned (.string (spaceT v)) ∧ Below w.heap.size w w' := by
  have C : Hid (Calls _ _ _ _ _) := big8C v w h0 h1
  have HE : Hid (spaceT v = ⟨#[66]⟩ ++ str (lowB v 8)) := by show _ = _; rw [letterB, str_app]; rfl
  have hz : (str (lowB v 8)).size = 8 := by rw [str_size, lowB_length]
  rw [HE.out]
  generalize str (lowB v 8) = t at *
  go_enter Tryz.func56, Tryz.ntmps56
  go_wp2_with fail
  refine C.out.mono ?_
  rintro e w1 ⟨rfl, hb⟩
  go_wp2
  go_ret
  exact ⟨rfl, hb⟩
def kindT (s k : Int) : ByteArray := str (66 :: (lowB s 8 ++ [k]))
theorem kindT_size (s k : Int) : (kindT s k).size = 10 := by rw [kindT, str_size]; simp [lowB_length]
theorem kindKeysC (s k : Int) (w : World) (h0 : 0 ≤ s) (h1 : s ≤ 9223372036854775807) (k0 : 0 ≤ k) (k1 : k ≤ 255) : Calls Tryz.prog 43 #[.int .i64 s, .int .i64 k] w fun e w' => e = .returned (.string (kindT s k)) ∧ Below w.heap.size w w' := by
  have C : Hid (Calls _ _ _ _ _) := spaceC s w h0 h1
  have C2 : Hid (∀ w, Calls _ _ _ _ _) := fun w => oneByteC k w k0 k1
  have HE : Hid (kindT s k = spaceT s ++ str [k]) := by show _ = _; rw [spaceT, str_app]; rfl
  have hz := spaceT_size s
  have hz2 : (str [k]).size = 1 := str_size [k]
  rw [HE.out]
  generalize spaceT s = t at *
  generalize str [k] = t2 at *
  go_enter Tryz.func43, Tryz.ntmps43
  go_wp2_with fail
  refine C.out.mono ?_
  rintro e w1 ⟨rfl, hb⟩
  go_wp2_with fail
  refine (C2.out w1).mono ?_
  rintro e w2 ⟨rfl, hb2⟩
  go_wp2
  go_ret
  exact ⟨rfl, over hb hb2⟩
def keyOk (s k n : Int) : Bool := decide (0 ≤ s ∧ 1 ≤ k ∧ k ≤ 255 ∧ 0 ≤ n)
theorem key_is (s k n : Int) : keyT s k n = kindT s k ++ str (lowB n 8) := by
  rw [kindT, str_app, keyT]; simp
theorem keyC (s k n : Int) (w : World) (h0 : 0 ≤ s) (h1 : s ≤ 9223372036854775807) (k0 : 1 ≤ k) (k1 : k ≤ 255) (n0 : 0 ≤ n) (n1 : n ≤ 9223372036854775807) :
    Calls Tryz.prog 47 #[.int .i64 s, .int .i64 k, .int .i64 n] w fun e w' => e = .returned (.tuple #[.string (keyT s k n), .int .i64 0]) ∧ Below w.heap.size w w' := by
  have C : Hid (∀ w, Calls _ _ _ _ _) := fun w => kindKeysC s k w h0 h1 (by omega) k1
  have C2 : Hid (∀ w, Calls _ _ _ _ _) := fun w => big8C n w n0 n1
  have C3 : Hid (∀ w, Calls _ _ _ _ _) := fun w => isKindC k w
  rw [decide_eq_true ⟨k0, k1⟩] at C3
  have HE : Hid _ := key_is s k n
  have hz := kindT_size s k
  have hz2 : (str (lowB n 8)).size = 8 := by rw [str_size, lowB_length]
  rw [HE.out]
  generalize kindT s k = t at *
  generalize str (lowB n 8) = t2 at *
  clear HE
  go_enter Tryz.func47, Tryz.ntmps47
  go_wp2_with fail
  refine (C3.out _).mono ?_
  rintro e w0 ⟨rfl, hw⟩
  rw [hw]; clear hw
  go_wp2_with fail
  refine (C.out _).mono ?_
  rintro e w1 ⟨rfl, hb⟩
  go_wp2_with fail
  refine (C2.out w1).mono ?_
  rintro e w2 ⟨rfl, hb2⟩
  go_wp2
  go_ret2
  exact ⟨rfl, over hb hb2⟩
theorem keyNo (s k n : Int) (w : World) (h : ¬ (0 ≤ s ∧ 1 ≤ k ∧ k ≤ 255 ∧ 0 ≤ n)) :
    Calls Tryz.prog 47 #[.int .i64 s, .int .i64 k, .int .i64 n] w fun e w' => e = .returned (.tuple #[.string ByteArray.empty, .int .i64 10]) ∧ w' = w := by
  have C3 : Hid (∀ w, Calls _ _ _ _ _) := fun w => isKindC k w
  by_cases h1 : s < 0
  · clear h
    go_enter Tryz.func47, Tryz.ntmps47
    go_wp2
    go_ret2
    exact ⟨rfl, rfl⟩
  by_cases h2 : 1 ≤ k ∧ k ≤ 255
  · rw [decide_eq_true h2] at C3
    have h3 : n < 0 := by omega
    clear h h2
    go_enter Tryz.func47, Tryz.ntmps47
    go_wp2_with fail
    refine (C3.out _).mono ?_
    rintro e w0 ⟨rfl, hw⟩
    rw [hw]; clear hw
    go_wp2
    go_ret2
    exact ⟨rfl, rfl⟩
  · rw [decide_eq_false h2] at C3
    clear h h2
    go_enter Tryz.func47, Tryz.ntmps47
    go_wp2_with fail
    refine (C3.out _).mono ?_
    rintro e w0 ⟨rfl, hw⟩
    rw [hw]; clear hw
    go_wp2
    go_ret2
    exact ⟨rfl, rfl⟩
end Go.Proofs.YtmindflfjocjlaaGreat.tqb

namespace Go.Proofs.YtmindflfjocjlaaGreat.tpb
open Go.RowKit Go.PlainAid
open Go.Proofs.YtmindflfjocjlaaGreat.na Go.Proofs.YtmindflfjocjlaaGreat.nb Go.Proofs.YtmindflfjocjlaaGreat.tpa
set_option linter.unusedVariables false

theorem str_app (xs ys : List Int) : str xs ++ str ys = str (xs ++ ys) := by
  apply ByteArray.ext
  rw [ByteArray.data_append, str_data, str_data, str_data]
  simp

theorem conv_one (W : World) (c : Int) :
    (convert 108 9 (.slice (some ⟨W.heap.size, 0, none⟩) 1 1)).run Tryz.prog (W.alloc (.cells #[.int .u8 c] 5)) = .ok (.string (str [c])) (W.alloc (.cells #[.int .u8 c] 5)) :=
  conv_row [c] W 1 rfl

theorem quo256 (v : Int) (k : Nat) : v / 256 ^ k / 256 = v / 256 ^ (k + 1) := by
  have hc : (0 : Int) ≤ 256 ^ k := Int.pow_nonneg (by omega)
  rw [Int.pow_succ, Int.ediv_ediv_of_nonneg hc]

theorem quo128 (v : Int) (k : Nat) : v / 128 ^ k / 128 = v / 128 ^ (k + 1) := by
  have hc : (0 : Int) ≤ 128 ^ k := Int.pow_nonneg (by omega)
  rw [Int.pow_succ, Int.ediv_ediv_of_nonneg hc]

theorem rput_range (v n : Int) (w : World) (h : n < 1 ∨ 8 < n) :
    Calls Tryz.prog 85 #[.int .u64 v, .int .i64 n] w fun e w' => e = .returned (.tuple #[.string ByteArray.empty, .int .i64 10]) ∧ w' = w := by
  by_cases h1 : n < 1
  · clear h
    go_enter Tryz.func85, Tryz.ntmps85
    go_wp2
    go_ret2
    exact ⟨rfl, rfl⟩
  · have h2 : 8 < n := by omega
    clear h
    go_enter Tryz.func85, Tryz.ntmps85
    go_wp2
    go_ret2
    exact ⟨rfl, rfl⟩

theorem ret_si (s t : ByteArray) (c : Int) (h : s = t) : Ending.returned (.tuple #[.string s, .int .i64 c]) = .returned (.tuple #[.string t, .int .i64 c]) := by rw [h]

set_option maxHeartbeats 800000 in
theorem rput_any (v : Int) (n : Nat) (w : World) (v0 : 0 ≤ v) (v1 : v ≤ 18446744073709551615) (h1 : 1 ≤ n) (h2 : n ≤ 8) (s : ByteArray) (c : Int)
    (HC : Hid ((v / 256 ^ n = 0 ∧ s = str (lowB v n) ∧ c = 0) ∨ (v / 256 ^ n ≠ 0 ∧ s = ByteArray.empty ∧ c = 11))) :
    Calls Tryz.prog 85 #[.int .u64 v, .int .i64 n] w fun e w' => e = .returned (.tuple #[.string s, .int .i64 c]) ∧ Below w.heap.size w w' := by
  have d1 : decide ((n : Int) < 1) = false := by simp; omega
  have d2 : decide (8 < (n : Int)) = false := by simp; omega
  have hcv := conv_one
  have hst : ∀ c : Int, (str [c]).size = 1 := fun c => str_size [c]
  go_enter Tryz.func85, Tryz.ntmps85
  go_wp2
  go_loopw [0, 6, 7] (fun x t i wr => ∃ k : Nat, k ≤ n ∧ x = .int .u64 (v / 256 ^ k) ∧ t = .string (str (lowB v k)) ∧ i = .int .i64 k ∧ Below w.heap.size w wr) (fun _ _ i _ => (n - intOf i).toNat)
  case atStart => exact ⟨0, by omega, by simp, rfl, rfl, Below.refl _ _⟩
  case round =>
    obtain ⟨k, hk, rfl, rfl, rfl, hg⟩ := hrel
    have G : Hid (Below w.heap.size w wr) := hg
    clear hg
    have hlen : (str (lowB v k)).size = k := by rw [str_size, lowB_length]
    have q0 : 0 ≤ v / 256 ^ k := Int.ediv_nonneg v0 (Int.pow_nonneg (by omega))
    have q1 : v / 256 ^ k ≤ 18446744073709551615 := Int.le_trans (Int.ediv_le_self _ v0) v1
    by_cases hlt : k < n
    · have hlt' : (k : Int) < n := by omega
      go_wp2
      go_roundw
      case rel => exact ⟨k + 1, by omega, by rw [quo256], by rw [str_app]; rfl, by go_num, G.out.alloc G.out.size _⟩
      case measure => simp [intOf]; omega
    · have hlt' : ¬ (k : Int) < n := by omega
      have e : k = n := by omega
      subst e
      rcases HC.out with ⟨hz, hs, hc⟩ | ⟨hz, hs, hc⟩
      · have hz' : (v / 256 ^ k != 0) = false := by simp [hz]
        subst hs hc
        clear hz
        go_wp2
        go_ret2
        exact ⟨rfl, G.out⟩
      · have hz' : (v / 256 ^ k != 0) = true := by rw [bne_iff_ne]; exact hz
        subst hs hc
        clear hz
        go_wp2
        go_ret2
        exact ⟨rfl, G.out⟩

end Go.Proofs.YtmindflfjocjlaaGreat.tpb

namespace Go.Proofs.YtmindflfjocjlaaGreat.tpf
open Go.RowKit Go.PlainAid
open Go.Proofs.YtmindflfjocjlaaGreat.na Go.Proofs.YtmindflfjocjlaaGreat.nb Go.Proofs.YtmindflfjocjlaaGreat.tpa Go.Proofs.YtmindflfjocjlaaGreat.tpe
set_option linter.unusedVariables false

theorem rbe_range (b : ByteArray) (p n : Int) (w : World) (hb : b.size ≤ 9223372036854775807) (h : n < 1 ∨ 8 < n ∨ p < 0 ∨ (b.size : Int) - p < n) :
    Calls Tryz.prog 71 #[.string b, .int .i64 p, .int .i64 n] w fun e w' => e = .returned (.tuple #[.int .u64 0, .int .i64 10]) ∧ w' = w := by
  by_cases h1 : n < 1
  · clear h
    go_enter Tryz.func71, Tryz.ntmps71
    go_wp2
    go_ret2
    exact ⟨rfl, rfl⟩
  by_cases h2 : 8 < n
  · clear h
    go_enter Tryz.func71, Tryz.ntmps71
    go_wp2
    go_ret2
    exact ⟨rfl, rfl⟩
  by_cases h3 : p < 0
  · clear h
    go_enter Tryz.func71, Tryz.ntmps71
    go_wp2
    go_ret2
    exact ⟨rfl, rfl⟩
  by_cases h4 : (b.size : Int) < n
  · clear h
    go_enter Tryz.func71, Tryz.ntmps71
    go_wp2
    go_ret2
    exact ⟨rfl, rfl⟩
  have h5 : (b.size : Int) - n < p := by omega
  clear h
  go_enter Tryz.func71, Tryz.ntmps71
  go_wp2
  go_ret2
  exact ⟨rfl, rfl⟩

set_option maxHeartbeats 800000 in
theorem rbe_any (b : ByteArray) (p n : Nat) (w : World) (hb : b.size ≤ 9223372036854775807) (h1 : 1 ≤ n) (h2 : n ≤ 8) (hp : p + n ≤ b.size) :
    Calls Tryz.prog 71 #[.string b, .int .i64 p, .int .i64 n] w fun e w' => e = .returned (.tuple #[.int .u64 (beR b p n), .int .i64 0]) ∧ w' = w := by
  have hbt := get_bt b
  have d1 : decide ((n : Int) < 1) = false := by simp; omega
  have d2 : decide (8 < (n : Int)) = false := by simp; omega
  have d3 : decide ((p : Int) < 0) = false := by simp
  have d4 : decide (b.size < n) = false := by simp; omega
  have d5 : decide ((b.size : Int) - n < p) = false := by simp; omega
  go_enter Tryz.func71, Tryz.ntmps71
  go_wp2
  go_loop [8, 9] (fun v i => ∃ (k : Nat), k ≤ n ∧ v = .int .u64 (beR b p k) ∧ i = .int .i64 k) (fun _ i => (n - intOf i).toNat)
  case atStart => exact ⟨0, by omega, rfl, rfl⟩
  case round =>
    obtain ⟨k, hk, rfl, rfl⟩ := hrel
    by_cases hlt : k < n
    · have hlt' : (k : Int) < n := by omega
      have hpk : p + k < b.size := by omega
      have hc0 := bt_nonneg b (p + k)
      have hc1 := bt_le b (p + k)
      have hv0 := beR_nonneg b p k
      have hv1 := beR_seven b p k (by omega)
      go_wp2
      go_round
      case rel => exact ⟨k + 1, by omega, rfl, by go_num⟩
      case measure => simp [intOf]; omega
    · have hlt' : ¬ (k : Int) < n := by omega
      have e : k = n := by omega
      have HE : Hid _ := e
      clear e
      go_wp2
      go_ret2
      exact ⟨ret2_u _ _ _ (by rw [HE.out]), rfl⟩

end Go.Proofs.YtmindflfjocjlaaGreat.tpf

namespace Go.Proofs.YtmindflfjocjlaaGreat.trq
open Go.RowKit Go.PlainAid
open Go.Proofs.YtmindflfjocjlaaGreat.tra Go.Proofs.YtmindflfjocjlaaGreat.trb
set_option linter.unusedVariables false

set_option maxHeartbeats 800000 in
theorem rcrcOn (crc : Nat) (s : ByteArray) (w : World) (hs : s.size ≤ 281474976710656) (hc : crc < 4294967296) :
    Calls Tryz.prog 107 #[.int .u32 crc, .string s] w fun e w' => e = .returned (.int .u32 (onF crc (nl s s.size) : Nat)) ∧ w' = w := by
  have HF : Hid _ := xor_ff crc hc
  go_enter Tryz.func107, Tryz.ntmps107
  go_wp2
  rw [HF.out]
  go_loop [5, 6] (fun r i => ∃ k R : Nat, k ≤ s.size ∧ i = .int .i64 k ∧ r = .int .u32 R ∧ R < 4294967296 ∧ Hid (R = crcR (crc ^^^ FF) (nl s k))) (fun _ i => (s.size - intOf i).toNat)
  case atStart => exact ⟨0, crc ^^^ FF, by omega, rfl, rfl, xor_ff_lt crc hc, rfl⟩
  case round =>
    obtain ⟨k, R, hk, rfl, rfl, hR, HR⟩ := hrel
    by_cases hlt : k < s.size
    · have hlt' : (k : Int) < s.size := by omega
      have hbt := get_bt s
      have b0 := bt_nonneg s k
      have b1 := bt_le s k
      have HXC : Hid _ := u32_xor_nat R (nt s k) hR (by have := nt_lt s k; omega)
      have HN : Hid _ := nt_bt s k
      have HRX : Hid (R ^^^ nt s k < 4294967296) := Nat.xor_lt_two_pow (n := 32) hR (by have := nt_lt s k; omega)
      go_wp2
      rw [HN.out, HXC.out]
      go_loop [5, 7] (fun r j => ∃ t X : Nat, t ≤ 8 ∧ j = .int .i64 t ∧ r = .int .u32 X ∧ X < 4294967296 ∧ Hid (X = sts t (R ^^^ nt s k))) (fun _ j => (8 - intOf j).toNat)
      case atStart => exact ⟨0, R ^^^ nt s k, by omega, rfl, rfl, HRX.out, rfl⟩
      case round =>
        obtain ⟨t, X, ht, rfl, rfl, hX, HT⟩ := hrel
        by_cases hl8 : t < 8
        · have hl8' : (t : Int) < 8 := by omega
          have HA : Hid _ := and_one X hX
          have HP : Hid _ := xor_po (X / 2) (by omega)
          rcases Nat.mod_two_eq_zero_or_one X with hm | hm
          · have HS : Hid (X / 2 = st X) := st0 X hm
            rw [hm] at HA
            have h01 : (bits .and .u32 (X : Int) 1 == 1) = false := by rw [HA.out]; rfl
            go_wp2
            go_round
            case rel => exact ⟨t + 1, X / 2, by omega, by go_num, by go_num, by omega, by rw [sts_succ, ← HT.out]; exact HS.out⟩
            case measure => simp [intOf]; omega
          · have HS : Hid ((X / 2) ^^^ PO = st X) := st1 X hm
            rw [hm] at HA
            have h01 : (bits .and .u32 (X : Int) 1 == 1) = true := by rw [HA.out]; rfl
            go_wp2
            go_round
            case rel => exact ⟨t + 1, (X / 2) ^^^ PO, by omega, by go_num, by rw [← HP.out]; go_num, by rw [HS.out]; exact st_lt X hX, by rw [sts_succ, ← HT.out]; exact HS.out⟩
            case measure => simp [intOf]; omega
        · have hl8' : ¬ (t : Int) < 8 := by omega
          obtain rfl : t = 8 := by omega
          go_wp2
          go_round
          case rel => exact ⟨k + 1, X, by omega, by go_num, rfl, hX, by rw [nl_succ, crcR_snoc, ← HR.out]; exact HT.out⟩
          case measure => simp [intOf]; omega
    · have hlt' : ¬ (k : Int) < s.size := by omega
      obtain rfl : k = s.size := by omega
      have HX : Hid _ := xor_ff R hR
      go_wp2
      rw [HX.out]
      go_ret
      exact ⟨by rw [HR.out]; rfl, rfl⟩

theorem rcrc (s : ByteArray) (w : World) (hs : s.size ≤ 281474976710656) :
    Calls Tryz.prog 88 #[.string s] w fun e w' => e = .returned (.int .u32 (onF 0 (nl s s.size) : Nat)) ∧ w' = w := by
  have X : Hid (Calls _ _ _ _ _) := rcrcOn 0 s w hs (by omega)
  go_enter Tryz.func88, Tryz.ntmps88
  go_wp2_with fail
  refine X.out.mono ?_
  rintro e w' ⟨rfl, rfl⟩
  go_wp2
  go_ret
  exact ⟨rfl, rfl⟩
end Go.Proofs.YtmindflfjocjlaaGreat.trq

namespace Go.Proofs.YtmindflfjocjlaaGreat.tda
open Go.RowKit Go.PlainAid
open Go.Proofs.YtmindflfjocjlaaGreat.na Go.Proofs.YtmindflfjocjlaaGreat.nb Go.Proofs.YtmindflfjocjlaaGreat.tpa Go.Proofs.YtmindflfjocjlaaGreat.tpb Go.Proofs.YtmindflfjocjlaaGreat.tpd Go.Proofs.YtmindflfjocjlaaGreat.tpe Go.Proofs.YtmindflfjocjlaaGreat.tpf Go.Proofs.YtmindflfjocjlaaGreat.tra Go.Proofs.YtmindflfjocjlaaGreat.trb Go.Proofs.YtmindflfjocjlaaGreat.trq Go.Proofs.YtmindflfjocjlaaGreat.tqa
open Go.Proofs.YtmindflfjocjlaaGreat.tqb (over letterB kindT spaceT)
set_option linter.unusedVariables false
set_option linter.unusedSimpArgs false
theorem add_text (a b : ByteArray) (h : a.size + b.size ≤ 9223372036854775807) : Op.stringOp .add a b = pure (.string (a ++ b)) := by
  unfold Op.stringOp
  rw [if_neg]
  have e : IntKind.i64.max = 9223372036854775807 := by decide
  rw [e]
  omega
theorem below_dr {B : Nat} {w w' : World} (h : Below B w w') : Below B w w'.drew := h.drew
theorem conv_at (W : World) (b : Nat) (c : Int) (hc : W.cell? ⟨b, 0, none⟩ = some (.int .u8 c)) :
    (convert 108 9 (.slice (some ⟨b, 0, none⟩) 1 1)).run Tryz.prog W = .ok (.string (str [c])) W := by
  rw [run_convert_bytes_string _ 108 9 5 _ _ _ Tryz.underlying108 Tryz.underlying5 Tryz.underlying9]
  refine run_bytesToString _ _ _ _ [c] ?_
  have h := run_loadCells_list (P := Tryz.prog) (w := W) ⟨b, 0, none⟩ ([c].map (Value.int .u8)) ?_
  · simpa using h
  · intro j v hj
    cases j with
    | zero => simp at hj; subst hj; simpa [Addr.add] using hc
    | succ j => simp at hj
theorem cell_one (w w2 : World) (c : Int) (k : Below (w.alloc (.cells #[.int .u8 c] 5)).heap.size (w.alloc (.cells #[.int .u8 c] 5)) w2) : w2.cell? ⟨w.heap.size, 0, none⟩ = some (.int .u8 c) := by
  have h : (w.alloc (.cells #[.int .u8 c] 5)).cell? ⟨w.heap.size, 0, none⟩ = some (.int .u8 c) := by
    rw [World.cell?_alloc_at _ _ _ _ rfl]; rfl
  exact (k.cell (World.block_lt_of_cell? _ _ h)).trans h
theorem cell_kept (w2 w3 : World) (b : Nat) (c : Int) (k : Below w2.heap.size w2 w3) (h : w2.cell? ⟨b, 0, none⟩ = some (.int .u8 c)) : w3.cell? ⟨b, 0, none⟩ = some (.int .u8 c) :=
  (k.cell (World.block_lt_of_cell? _ _ h)).trans h
theorem below2 {B : Nat} {w w1 w2 : World} (h : Below B w w1) (b : Below w1.heap.size w1 w2) (hB : B ≤ w.heap.size) : Below B w w2 := h.trans (b.mono (Nat.le_trans hB h.size))
theorem rput (v : Int) (n : Nat) (w : World) (h0 : 0 ≤ v) (h1 : v ≤ 18446744073709551615) (hn : 1 ≤ n) (hn8 : n ≤ 8) (hf : v / 256 ^ n = 0) :
    Calls Tryz.prog 85 #[.int .u64 v, .int .i64 n] w fun e w' => e = .returned (.tuple #[.string (str (lowB v n)), .int .i64 0]) ∧ Below w.heap.size w w' :=
  rput_any v n w h0 h1 hn hn8 _ _ (.inl ⟨hf, rfl, rfl⟩)
theorem bigC (v : Int) (n : Nat) (w : World) (h0 : 0 ≤ v) (h1 : v ≤ 9223372036854775807) (hn : 1 ≤ n) (hn8 : n ≤ 8) (hf : v / 256 ^ n = 0) :
    Calls Tryz.prog 58 #[.int .i64 v, .int .i64 n] w fun e w' => e = .returned (.string (str (lowB v n))) ∧ Below w.heap.size w w' := by
  have hw : IntKind.u64.wrap v = v := u64_nonneg h0 (by omega)
  have C : Hid (∀ w, Calls _ _ _ _ _) := fun w => rput v n w h0 (by omega) hn hn8 hf
  clear hf
  go_enter Tryz.func58, Tryz.ntmps58
  go_wp2_with fail
  refine (C.out _).mono ?_
  rintro e w1 ⟨rfl, hb⟩
  go_wp2
  go_ret
  exact ⟨rfl, hb⟩
theorem big8R (v : Int) (w : World) (h0 : 0 ≤ v) (h1 : v ≤ 9223372036854775807) : Calls Tryz.prog 58 #[.int .i64 v, .int .i64 8] w fun e w' => e = .returned (.string (str (lowB v 8))) ∧ Below w.heap.size w w' := bigC v 8 w h0 h1 (by omega) (by omega) (Go.Proofs.YtmindflfjocjlaaGreat.tqa.fit8 v h0 (by omega))
theorem big4R (v : Int) (w : World) (h0 : 0 ≤ v) (h1 : v < 4294967296) : Calls Tryz.prog 58 #[.int .i64 v, .int .i64 4] w fun e w' => e = .returned (.string (str (lowB v 4))) ∧ Below w.heap.size w w' := bigC v 4 w h0 (by omega) (by omega) (by omega) (Go.Proofs.YtmindflfjocjlaaGreat.tqa.fit4 v h0 (by omega))
theorem sumR (s : ByteArray) (w : World) (hs : s.size ≤ 281474976710656) : Calls Tryz.prog 69 #[.string s] w fun e w' => e = .returned (.string (str (lowB ((crcF s : Nat) : Int) 4))) ∧ Below w.heap.size w w' := by
  have C1 : Hid (∀ w, Calls Tryz.prog 88 #[.string s] w fun e w' => e = .returned (.int .u32 ((crcF s : Nat) : Int)) ∧ w' = w) := fun w => rcrc s w hs
  have hlt := crcF_lt s
  have C2 : Hid (∀ w, Calls _ _ _ _ _) := fun w => big4R ((crcF s : Nat) : Int) w (by omega) (by omega)
  generalize crcF s = x at *
  go_enter Tryz.func69, Tryz.ntmps69
  go_wp2_with fail
  refine (C1.out _).mono ?_
  rintro _ _ ⟨rfl, hw⟩; rw [hw]; clear hw
  go_wp2_with fail
  refine (C2.out _).mono ?_
  rintro _ w1 ⟨rfl, hb⟩
  go_wp2
  go_ret
  exact ⟨rfl, hb⟩
set_option maxRecDepth 100000 in
set_option maxHeartbeats 3200000 in
theorem keyR (s k n : Int) (w : World) (h0 : 0 ≤ s) (h1 : s ≤ 9223372036854775807) (k0 : 1 ≤ k) (k1 : k ≤ 255) (n0 : 0 ≤ n) (n1 : n ≤ 9223372036854775807) :
    Calls Tryz.prog 29 #[.int .i64 s, .int .i64 k, .int .i64 n] w fun e w' => e = .returned (.tuple #[.string (keyT s k n), .int .i64 0]) ∧ Below w.heap.size w w' := by
  have C1 : Hid (∀ w, Calls _ _ _ _ _) := fun w => big8R s w h0 h1
  have C2 : Hid (∀ w, Calls _ _ _ _ _) := fun w => big8R n w n0 n1
  have HE : Hid (keyT s k n = ⟨#[66]⟩ ++ str (lowB s 8) ++ str [k] ++ str (lowB n 8)) := by show _ = _; rw [letterB]; exact keyT_parts s k n
  have hz1 : (str (lowB s 8)).size = 8 := by rw [str_size, lowB_length]
  have hz2 : (str (lowB n 8)).size = 8 := by rw [str_size, lowB_length]
  have hz3 : (str [k]).size = 1 := str_size [k]
  have hz0 : (⟨#[66]⟩ : ByteArray).size = 1 := rfl
  have hcv := conv_one
  have hcv1 : (convert 108 9 (.slice (some ⟨w.heap.size, 0, none⟩) 1 1)).run Tryz.prog ((w.alloc (.cells #[.int .u8 k] 5)).drew) = .ok (.string (str [k])) ((w.alloc (.cells #[.int .u8 k] 5)).drew) := conv_one w.drew k
  rw [HE.out]
  have a1 := add_text (⟨#[66]⟩ : ByteArray) (str (lowB s 8)) (by omega)
  have z1 : ((⟨#[66]⟩ : ByteArray) ++ str (lowB s 8)).size = 9 := by rw [app_size]; omega
  have a2 := add_text ((⟨#[66]⟩ : ByteArray) ++ str (lowB s 8)) (str [k]) (by omega)
  have z2 : ((⟨#[66]⟩ : ByteArray) ++ str (lowB s 8) ++ str [k]).size = 10 := by rw [app_size]; omega
  have a3 := add_text ((⟨#[66]⟩ : ByteArray) ++ str (lowB s 8) ++ str [k]) (str (lowB n 8)) (by omega)
  have hu : IntKind.u8.wrap k = k := by rw [IntKind.wrap_u8]; omega
  have KA : Hid (∀ w2, Below w.drew.heap.size w.drew w2 → Below w.heap.size w w2) := fun w2 h => below2 (below_dr (Below.refl _ _)) h (Nat.le_refl _)
  have KB : Hid (∀ w2, Below ((w.alloc (.cells #[.int .u8 k] 5)).drew).heap.size ((w.alloc (.cells #[.int .u8 k] 5)).drew) w2 → Below w.heap.size w w2) := fun w2 h => below2 (below_dr ((Below.refl _ _).alloc (Nat.le_refl _) _)) h (Nat.le_refl _)
  clear HE
  go_enter Tryz.func29, Tryz.ntmps29
  go_upto_region 3 with fail
  go_region_with (go_at_call 58; first
      | ((with_reducible refine (C1.out _).mono ?_); rintro _ w2 ⟨rfl, k2⟩; first
          | (have B2 : Hid (Below w.heap.size w w2) := KA.out _ k2; have hcv2 := conv_one w2 k; clear k2)
          | (have B2 : Hid (Below w.heap.size w w2) := KB.out _ k2; have c2 : Hid (w2.cell? ⟨w.heap.size, 0, none⟩ = some (.int .u8 k)) := cell_one w.drew w2 k k2; have hcv2 := conv_at w2 _ k c2.out; clear k2))
      | ((with_reducible refine (C2.out _).mono ?_); rintro _ w3 ⟨rfl, k3⟩; first
          | (have B3 : Hid (Below w.heap.size w w3) := below2 B2.out k3 (Nat.le_refl _); first
              | (have c3 : Hid (w3.cell? ⟨w.heap.size, 0, none⟩ = some (.int .u8 k)) := cell_kept _ w3 _ k k3 c2.out; have hcv3 := conv_at w3 _ k c3.out; clear k3)
              | (have hcv3 := conv_one w3 k; clear k3))
          | (have B3 : Hid (Below w.heap.size w w3) := below2 (B2.out.alloc B2.out.size _) k3 (Nat.le_refl _); have hcv3 := conv_at w3 _ k (cell_one w2 w3 k k3); clear k3)))
  all_goals (
    go_wp2
    go_ret2
    exact ⟨rfl, by first | exact B3.out | exact B3.out.alloc B3.out.size _⟩)
theorem keyNoR (s k n : Int) (w : World) (h : ¬ (0 ≤ s ∧ 1 ≤ k ∧ k ≤ 255 ∧ 0 ≤ n)) :
    Calls Tryz.prog 29 #[.int .i64 s, .int .i64 k, .int .i64 n] w fun e w' => e = .returned (.tuple #[.string ByteArray.empty, .int .i64 10]) ∧ w' = w := by
  have : s < 0 ∨ (¬ s < 0 ∧ k < 1) ∨ (¬ s < 0 ∧ ¬ k < 1 ∧ 255 < k) ∨ (¬ s < 0 ∧ ¬ k < 1 ∧ ¬ 255 < k ∧ n < 0) := by omega
  clear h
  rcases this with h1 | ⟨h1, h2⟩ | ⟨h1, h2, h3⟩ | ⟨h1, h2, h3, h4⟩
  all_goals
    go_enter Tryz.func29, Tryz.ntmps29
    go_wp2
    go_ret2
    exact ⟨rfl, rfl⟩
end Go.Proofs.YtmindflfjocjlaaGreat.tda
