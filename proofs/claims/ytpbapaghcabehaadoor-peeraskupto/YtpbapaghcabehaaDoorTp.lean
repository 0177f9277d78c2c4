import Derived.Test.YtpbapaghcabehaaDoorTo
namespace Go.Proofs.YtpbapaghcabehaaDoor.tp
open Go.RowKit Go.PlainAid
open Go.Proofs.YtpbapaghcabehaaDoor.ta Go.Proofs.YtpbapaghcabehaaDoor.tb Go.Proofs.YtpbapaghcabehaaDoor.tc Go.Proofs.YtpbapaghcabehaaDoor.td Go.Proofs.YtpbapaghcabehaaDoor.te Go.Proofs.YtpbapaghcabehaaDoor.tf Go.Proofs.YtpbapaghcabehaaDoor.tg Go.Proofs.YtpbapaghcabehaaDoor.th Go.Proofs.YtpbapaghcabehaaDoor.ti Go.Proofs.YtpbapaghcabehaaDoor.tj Go.Proofs.YtpbapaghcabehaaDoor.tk Go.Proofs.YtpbapaghcabehaaDoor.tm Go.Proofs.YtpbapaghcabehaaDoor.tn Go.Proofs.YtpbapaghcabehaaDoor.to
set_option linter.unusedVariables false

theorem sign64 (v : Int) (h0 : 0 ≤ v) (h1 : v < 64) (w : World) : Calls Tryd.prog 32 #[.string L64, .int .i64 v] w fun e w' => e = .returned (.string (str [sg A64 v])) ∧ w' = w := by
  have := sign L64 v h0 (by show v < (64 : Nat); omega) (by decide) w
  rw [bt64] at this
  exact this
theorem byteZ (s : ByteArray) (i : Int) (j : Nat) (hi : i = j) (hj : j ≤ 4611686018427387904) (hs : s.size ≤ 4611686018427387904) (w : World) : Calls Tryd.prog 33 #[.string s, .int .i64 i] w fun e w' => e = .returned (.int .i64 (bt s j)) ∧ w' = w := by
  subst hi; exact byteAt s j hj hs w
theorem sg_in64 (v : Int) (h0 : 0 ≤ v) (h1 : v < 64) : 0 ≤ sg A64 v ∧ sg A64 v < 256 := a64.sg_in v h0 h1
theorem str_four (x y z u : Int) : str [x] ++ str [y] ++ str [z] ++ str [u] = str [x, y, z, u] := by rw [← str_two, ← str_two, ← str_two]; rfl
theorem four_part (x y z u : Int) (hi : In 256 [x, y, z, u]) (n : Nat) (hn : n ≤ 4) : (str [x, y, z, u]).extract 0 n = str ([x, y, z, u].take n) := by
  apply bs_inj
  rw [bs_extract _ 0 n (by omega) (by rw [str_size]; exact hn), bs_str _ hi, List.drop_zero, bs_str _ (fun y hy => hi y (List.mem_of_mem_take hy))]
theorem lit2 : (⟨#[61, 61]⟩ : ByteArray) = str [61, 61] := by apply bs_inj; decide +kernel
theorem lit1 : (⟨#[61]⟩ : ByteArray) = str [61] := by apply bs_inj; decide +kernel
theorem bt_out (s : ByteArray) (j : Nat) (h : s.size ≤ j) : bt s j = 0 := by unfold bt; rw [dif_neg (by omega)]

-- one group
theorem group (s : ByteArray) (j : Nat) (h3 : j % 3 = 0) (hj : j < s.size) (x y z u : Int) (hx : x = sg A64 (bt s j / 4)) (hy : y = sg A64 (bt s j % 4 * 16 + bt s (j + 1) / 16)) (hz : z = sg A64 (bt s (j + 1) % 16 * 4 + bt s (j + 2) / 64)) (hu : u = sg A64 (bt s (j + 2) % 64)) (hi : In 256 [x, y, z, u]) :
    (s.size - j = 1 → str (b64L ((bs s).take (j + 3))) = str (b64L ((bs s).take j)) ++ ((str [x, y, z, u]).extract 0 2 ++ ⟨#[61, 61]⟩)) ∧
    (s.size - j = 2 → str (b64L ((bs s).take (j + 3))) = str (b64L ((bs s).take j)) ++ ((str [x, y, z, u]).extract 0 3 ++ ⟨#[61]⟩)) ∧
    (3 ≤ s.size - j → str (b64L ((bs s).take (j + 3))) = str (b64L ((bs s).take j)) ++ str [x, y, z, u]) := by
  have e := b64_step (bs s) j h3 (by rw [bs_length]; omega)
  refine ⟨fun h => ?_, fun h => ?_, fun h => ?_⟩
  · have h1 := bt_out s (j + 1) (by omega)
    rw [e, drop_cons s j hj, drop_nil s (j + 1) (by omega), show [bt s j].take 3 = [bt s j] from rfl, chunk1, four_part _ _ _ _ hi 2 (by omega), lit2, ← str_two, ← str_two, hx, hy, h1]
    simp
  · have h1 := bt_out s (j + 2) (by omega)
    rw [e, drop_cons s j hj, drop_cons s (j + 1) (by omega), drop_nil s (j + 1 + 1) (by omega), show [bt s j, bt s (j + 1)].take 3 = [bt s j, bt s (j + 1)] from rfl, chunk2, four_part _ _ _ _ hi 3 (by omega), lit1, ← str_two, ← str_two, hx, hy, hz, h1]
    simp
  · rw [e, drop_cons s j hj, drop_cons s (j + 1) (by omega), drop_cons s (j + 1 + 1) (by omega), show (bt s j :: bt s (j + 1) :: bt s (j + 1 + 1) :: (bs s).drop (j + 1 + 1 + 1)).take 3 = [bt s j, bt s (j + 1), bt s (j + 2)] from rfl, chunk3, str_two, hx, hy, hz, hu]

set_option maxHeartbeats 3200000 in
theorem rB64 (s : ByteArray) (hs : s.size ≤ 281474976710656) (w : World) :
    Calls Tryd.prog 19 #[.string s] w fun e w' => e = .returned (.string (str (b64L (bs s)))) ∧ w' = w := by
  have HE : Hid (∀ j, s.size ≤ j → (bs s).take j = bs s) := fun j hj => List.take_of_length_le (by rw [bs_length]; exact hj)
  go_enter Tryd.func19, Tryd.ntmps19
  go_wp2
  go_loop [3, 4] (fun o i => ∃ (j : Nat) (O : ByteArray), j ≤ s.size + 2 ∧ i = .int .i64 j ∧ o = .string O ∧ Hid (j % 3 = 0 ∧ O = str (b64L ((bs s).take j)) ∧ O.size ≤ 4 * s.size + 12)) (fun _ i => (s.size + 3 - intOf i).toNat)
  case atStart => exact ⟨0, ByteArray.empty, by omega, rfl, rfl, by omega, (by rw [List.take_zero]; rfl), by simp⟩
  case round =>
    obtain ⟨j, O, hj, rfl, rfl, HO⟩ := hrel
    by_cases hlt : j < s.size
    · have hlt' : (j : Int) < s.size := by omega
      have hOz : O.size ≤ 4 * s.size + 12 := HO.out.2.2
      have a0 := bt_nonneg s j; have a1 := bt_le s j
      have b0 := bt_nonneg s (j + 1); have b1 := bt_le s (j + 1)
      have c0 := bt_nonneg s (j + 2); have c1 := bt_le s (j + 2)
      have BA : Hid (∀ w', Calls _ _ _ _ _) := fun w' => byteZ s (j : Int) j rfl (by omega) (by omega) w'
      have BB : Hid (∀ w', Calls _ _ _ _ _) := fun w' => byteZ s ((j : Int) + 1) (j + 1) (by omega) (by omega) (by omega) w'
      have BC : Hid (∀ w', Calls _ _ _ _ _) := fun w' => byteZ s ((j : Int) + 2) (j + 2) (by omega) (by omega) (by omega) w'
      have HG : Hid (_ ∧ _ ∧ _) := group s j HO.out.1 hlt _ _ _ _ rfl rfl rfl rfl (fun v hv => by
        simp only [List.mem_cons, List.not_mem_nil, or_false] at hv
        rcases hv with rfl | rfl | rfl | rfl
        · exact sg_in64 _ (by omega) (by omega)
        · exact sg_in64 _ (by omega) (by omega)
        · exact sg_in64 _ (by omega) (by omega)
        · exact sg_in64 _ (by omega) (by omega))
      generalize bt s j = a at *
      generalize bt s (j + 1) = b at *
      generalize bt s (j + 2) = c at *
      obtain ⟨n, HN⟩ : ∃ n, Hid (a * 65536 + b * 256 + c = n) := ⟨_, rfl⟩
      have hn := HN.out
      have n0 : 0 ≤ n := by omega
      have n1 : n < 16777216 := by omega
      have p1 : n / 262144 = a / 4 := by omega
      have p2 : n / 4096 % 64 = a % 4 * 16 + b / 16 := by omega
      have p3 : n / 64 % 64 = b % 16 * 4 + c / 64 := by omega
      have p4 : n % 64 = c % 64 := by omega
      have S1 : Hid (∀ w', Calls _ _ _ _ _) := fun w' => sign64 (a / 4) (by omega) (by omega) w'
      have S2 : Hid (∀ w', Calls _ _ _ _ _) := fun w' => sign64 (a % 4 * 16 + b / 16) (by omega) (by omega) w'
      have S3 : Hid (∀ w', Calls _ _ _ _ _) := fun w' => sign64 (b % 16 * 4 + c / 64) (by omega) (by omega) w'
      have S4 : Hid (∀ w', Calls _ _ _ _ _) := fun w' => sign64 (c % 64) (by omega) (by omega) w'
      have HF : Hid (_ = _) := str_four (sg A64 (a / 4)) (sg A64 (a % 4 * 16 + b / 16)) (sg A64 (b % 16 * 4 + c / 64)) (sg A64 (c % 64))
      have z1 := str1_size (sg A64 (a / 4)); have z2 := str1_size (sg A64 (a % 4 * 16 + b / 16)); have z3 := str1_size (sg A64 (b % 16 * 4 + c / 64)); have z4 := str1_size (sg A64 (c % 64))
      have zF : (str [sg A64 (a / 4), sg A64 (a % 4 * 16 + b / 16), sg A64 (b % 16 * 4 + c / 64), sg A64 (c % 64)]).size = 4 := by rw [str_size]; rfl
      generalize str [sg A64 (a / 4), sg A64 (a % 4 * 16 + b / 16), sg A64 (b % 16 * 4 + c / 64), sg A64 (c % 64)] = F at *
      generalize str [sg A64 (a / 4)] = X1 at *
      generalize str [sg A64 (a % 4 * 16 + b / 16)] = X2 at *
      generalize str [sg A64 (b % 16 * 4 + c / 64)] = X3 at *
      generalize str [sg A64 (c % 64)] = X4 at *
      generalize a / 4 = q1 at *
      generalize a % 4 * 16 + b / 16 = q2 at *
      generalize b % 16 * 4 + c / 64 = q3 at *
      generalize c % 64 = q4 at *
      have hF := HF.out
      unfold L64 at S1 S2 S3 S4
      rcases (by omega : s.size - j = 1 ∨ s.size - j = 2 ∨ 3 ≤ s.size - j) with hd | hd | hd
      all_goals
        first
        | have hdi : (s.size : Int) - (j : Int) = 1 := by omega
        | have hdi : (s.size : Int) - (j : Int) = 2 := by omega
        | (obtain ⟨D, HD⟩ : ∃ D, Hid ((s.size : Int) - (j : Int) = D) := ⟨_, rfl⟩
           have hdi := HD.out
           have hd1 : (D == 1) = false := beq_eq_false_iff_ne.2 (by omega)
           have hd2 : (D == 2) = false := beq_eq_false_iff_ne.2 (by omega))
      all_goals (
        go_wp2_with fail
        refine (BA.out _).mono ?_
        rintro e w1 ⟨rfl, rfl⟩
        go_wp2_with fail
        refine (BB.out _).mono ?_
        rintro e w1 ⟨rfl, rfl⟩
        go_wp2_with fail
        refine (BC.out _).mono ?_
        rintro e w1 ⟨rfl, rfl⟩
        go_wp2_with fail
        refine (S1.out _).mono ?_
        rintro e w1 ⟨rfl, rfl⟩
        go_wp2_with fail
        refine (S2.out _).mono ?_
        rintro e w1 ⟨rfl, rfl⟩
        go_wp2_with fail
        refine (S3.out _).mono ?_
        rintro e w1 ⟨rfl, rfl⟩
        go_wp2_with fail
        refine (S4.out _).mono ?_
        rintro e w1 ⟨rfl, rfl⟩
        go_wp2
        first
          | have HX : Hid (_ = _) := HG.out.1 hd
          | have HX : Hid (_ = _) := HG.out.2.1 hd
          | have HX : Hid (_ = _) := HG.out.2.2 hd
        rw [← HO.out.2.1] at HX
        go_round
        case rel =>
          refine ⟨j + 3, _, by omega, by go_num, rfl, by have := HO.out.1; omega, HX.out.symm, ?_⟩
          rw [← HX.out, str_size, b64L_length, List.length_take, bs_length]
          omega
        case measure => simp [intOf]; omega)
    · have hlt' : ¬ (j : Int) < s.size := by omega
      have HT : Hid (_ = _) := HE.out j (by omega)
      go_wp2
      go_ret
      exact ⟨by rw [HO.out.2.1, HT.out]; rfl, rfl⟩
end Go.Proofs.YtpbapaghcabehaaDoor.tp
