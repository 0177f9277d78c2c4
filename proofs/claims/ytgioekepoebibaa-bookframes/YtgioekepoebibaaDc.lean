import Derived.Test.YtgioekepoebibaaDa
import Derived.Test.YtgioekepoebibaaQc
namespace Go.Proofs.Ytgioekepoebibaa.dc
open Go.RowKit Go.PlainAid
open Go.Proofs.Ytgioekepoebibaa.na Go.Proofs.Ytgioekepoebibaa.nb Go.Proofs.Ytgioekepoebibaa.pa Go.Proofs.Ytgioekepoebibaa.pb Go.Proofs.Ytgioekepoebibaa.pd Go.Proofs.Ytgioekepoebibaa.pe Go.Proofs.Ytgioekepoebibaa.pf Go.Proofs.Ytgioekepoebibaa.ra Go.Proofs.Ytgioekepoebibaa.rb Go.Proofs.Ytgioekepoebibaa.rq Go.Proofs.Ytgioekepoebibaa.qa Go.Proofs.Ytgioekepoebibaa.da
open Go.Proofs.Ytgioekepoebibaa.qb (over)
open Go.Proofs.Ytgioekepoebibaa.qc (beR_split)
set_option linter.unusedVariables false
set_option linter.unusedSimpArgs false
theorem no_parse (b : ByteArray) (x : Int) (h : parseE b = x) (hx : x ≠ 0) : parseK b = 0 ∧ parseN b = 0 ∧ parseP b = ⟨#[]⟩ ∧ parseE b = x :=
  ⟨by rw [parseK, if_neg (by omega)], by rw [parseN, if_neg (by omega)], by rw [parseP, if_neg (by omega)]; rfl, h⟩
theorem be28 (b : ByteArray) (w : World) (hb : b.size ≤ 281474976710656) (h : 14 ≤ b.size) : Calls Try.prog 38 #[.string b, .int .i64 2, .int .i64 8] w fun e w' => e = .returned (.tuple #[.int .u64 (beR b 2 8), .int .i64 0]) ∧ w' = w := rbe_any b 2 8 w (by omega) (by omega) (by omega) (by omega)
theorem be104 (b : ByteArray) (w : World) (hb : b.size ≤ 281474976710656) (h : 14 ≤ b.size) : Calls Try.prog 38 #[.string b, .int .i64 10, .int .i64 4] w fun e w' => e = .returned (.tuple #[.int .u64 (beR b 10 4), .int .i64 0]) ∧ w' = w := rbe_any b 10 4 w (by omega) (by omega) (by omega) (by omega)
theorem high (b : ByteArray) : 128 ≤ bt b 2 ↔ 9223372036854775807 < beR b 2 8 := by
  have h := beR_split b 2 1 7
  rw [show (1 : Nat) + 7 = 8 by rfl, beR_one] at h
  have h0 := beR_nonneg b (2 + 1) 7
  have h1 := beR_lt b (2 + 1) 7
  have e : (256 : Int) ^ 7 = 72057594037927936 := by decide
  rw [e] at h h1
  rw [h]; omega
set_option maxRecDepth 100000 in
set_option maxHeartbeats 6400000 in
theorem parseR (b : ByteArray) (w : World) (hs : b.size ≤ 281474976710656) :
    Calls Try.prog 17 #[.string b] w fun e w' => e = .returned (.tuple #[.int .i64 (parseK b), .int .i64 (parseN b), .string (parseP b), .int .i64 (parseE b)]) ∧ Below w.heap.size w w' := by
  have hbt := get_bt b
  by_cases t0 : b.size = 0
  · obtain ⟨e1, e2, e3, e4⟩ := no_parse b 12 (by unfold parseE; rw [if_pos t0]) (by omega)
    have g : b.toList = [] := by
      rw [ByteArray.toList_eq]
      exact List.length_eq_zero_iff.1 (by rw [Array.length_toList]; exact t0)
    rw [e1, e2, e3, e4]
    clear t0 e1 e2 e3 e4
    go_enter Try.func17, Try.ntmps17
    go_wp2
    refine bodyPost_ret (by simp [results, Try.results17, go_sem]; try rfl) rfl ?_
    exact ⟨rfl, Below.refl _ _⟩
  have g0 : ¬ b.toList = [] := by
    rw [ByteArray.toList_eq]
    intro h
    have := congrArg List.length h
    rw [Array.length_toList] at this
    exact t0 this
  have g : b.toList.isEmpty = false := by simpa using g0
  have gb : (b.toList == []) = false := by rw [beq_eq_false_iff_ne]; exact g0
  clear g0
  have z0 : 0 < b.size := by omega
  by_cases t1 : bt b 0 = 165
  rotate_left
  · obtain ⟨e1, e2, e3, e4⟩ := no_parse b 130 (by unfold parseE; rw [if_neg t0, if_pos t1]) (by omega)
    have g1 : (bt b 0 != 165) = true := by rw [bne_iff_ne]; exact t1
    rw [e1, e2, e3, e4]
    clear t0 t1 e1 e2 e3 e4
    go_enter Try.func17, Try.ntmps17
    go_wp2
    refine bodyPost_ret (by simp [results, Try.results17, go_sem]; try rfl) rfl ?_
    exact ⟨rfl, Below.refl _ _⟩
  have g1 : (bt b 0 != 165) = false := by rw [t1]; rfl
  by_cases t2 : b.size < 14
  · obtain ⟨e1, e2, e3, e4⟩ := no_parse b 12 (by unfold parseE; rw [if_neg t0, if_neg (by simp [t1]), if_pos t2]) (by omega)
    have g2 : (b.size : Int) < 14 := by omega
    rw [e1, e2, e3, e4]
    clear t0 t1 t2 e1 e2 e3 e4
    go_enter Try.func17, Try.ntmps17
    go_wp2
    refine bodyPost_ret (by simp [results, Try.results17, go_sem]; try rfl) rfl ?_
    exact ⟨rfl, Below.refl _ _⟩
  have g2 : ¬ (b.size : Int) < 14 := by omega
  have z14 : 14 ≤ b.size := by omega
  by_cases t3 : bt b 1 = 0
  · obtain ⟨e1, e2, e3, e4⟩ := no_parse b 110 (by unfold parseE; rw [if_neg t0, if_neg (by simp [t1]), if_neg t2, if_pos t3]) (by omega)
    have g3 : (bt b 1 == 0) = true := by rw [beq_iff_eq]; exact t3
    rw [e1, e2, e3, e4]
    clear t0 t1 t2 t3 e1 e2 e3 e4
    go_enter Try.func17, Try.ntmps17
    go_wp2
    refine bodyPost_ret (by simp [results, Try.results17, go_sem]; try rfl) rfl ?_
    exact ⟨rfl, Below.refl _ _⟩
  have g3 : (bt b 1 == 0) = false := by rw [beq_eq_false_iff_ne]; exact t3
  have CA : Hid (∀ w, Calls _ _ _ _ _) := fun w => be28 b w hs z14
  have CB : Hid (∀ w, Calls _ _ _ _ _) := fun w => be104 b w hs z14
  have hh := high b
  have n0 := beR_nonneg b 2 8
  have n1 : beR b 2 8 ≤ 18446744073709551615 := by
    have h := beR_lt b 2 8
    have e : (256 : Int) ^ 8 = 18446744073709551616 := by decide
    omega
  have l0 := beR_nonneg b 10 4
  have l1 : beR b 10 4 < 4294967296 := by
    have h := beR_lt b 10 4
    have e : (256 : Int) ^ 4 = 4294967296 := by decide
    omega
  obtain ⟨n, HN⟩ : ∃ n, Hid (beR b 2 8 = n) := ⟨_, rfl⟩
  obtain ⟨l, HL⟩ : ∃ l : Nat, Hid (beR b 10 4 = (l : Int)) := ⟨(beR b 10 4).toNat, by show _ = _; omega⟩
  obtain ⟨li, HLI⟩ : ∃ li : Int, Hid ((l : Int) = li) := ⟨_, rfl⟩
  rw [HN.out] at CA hh n0 n1
  rw [HL.out, HLI.out] at CB l0 l1
  have hw : IntKind.i64.wrap li = li := by rw [IntKind.wrap_i64]; omega
  by_cases t4 : 9223372036854775807 < n
  · obtain ⟨e1, e2, e3, e4⟩ := no_parse b 10 (by unfold parseE; rw [if_neg t0, if_neg (by simp [t1]), if_neg t2, if_neg t3, HN.out, if_pos t4]) (by omega)
    have g4 : 128 ≤ bt b 2 := hh.2 t4
    have g4' : bt b 2 ≥ 128 := g4
    rw [e1, e2, e3, e4]
    clear t0 t1 t2 t3 t4 e1 e2 e3 e4 hh
    go_enter Try.func17, Try.ntmps17
    go_wp2_with (go_at_call 38; first | ((with_reducible refine (CA.out _).mono ?_); rintro _ _ ⟨rfl, hz⟩; rw [hz]; clear hz) | ((with_reducible refine (CB.out _).mono ?_); rintro _ _ ⟨rfl, hz⟩; rw [hz]; clear hz))
    refine bodyPost_ret (by simp [results, Try.results17, go_sem]; try rfl) rfl ?_
    exact ⟨rfl, Below.refl _ _⟩
  have g4 : ¬ 128 ≤ bt b 2 := fun h => t4 (hh.1 h)
  by_cases t5 : 524288 < l
  · obtain ⟨e1, e2, e3, e4⟩ := no_parse b 121 (by unfold parseE; rw [if_neg t0, if_neg (by simp [t1]), if_neg t2, if_neg t3, HN.out, if_neg t4, HL.out, if_pos (by omega)]) (by omega)
    have g5 : 524288 < li := by have := HLI.out; omega
    rw [e1, e2, e3, e4]
    clear t0 t1 t2 t3 t4 t5 e1 e2 e3 e4 hh
    go_enter Try.func17, Try.ntmps17
    go_wp2_with (go_at_call 38; first | ((with_reducible refine (CA.out _).mono ?_); rintro _ _ ⟨rfl, hz⟩; rw [hz]; clear hz) | ((with_reducible refine (CB.out _).mono ?_); rintro _ _ ⟨rfl, hz⟩; rw [hz]; clear hz))
    refine bodyPost_ret (by simp [results, Try.results17, go_sem]; try rfl) rfl ?_
    exact ⟨rfl, Below.refl _ _⟩
  have g5 : ¬ 524288 < li := by have := HLI.out; omega
  by_cases t6 : b.size < 18 + l
  · obtain ⟨e1, e2, e3, e4⟩ := no_parse b 12 (by unfold parseE; rw [if_neg t0, if_neg (by simp [t1]), if_neg t2, if_neg t3, HN.out, if_neg t4, HL.out, if_neg (by omega), if_pos (by omega)]) (by omega)
    have g6 : (b.size : Int) < 18 + li := by have := HLI.out; omega
    rw [e1, e2, e3, e4]
    clear t0 t1 t2 t3 t4 t5 t6 e1 e2 e3 e4 hh
    go_enter Try.func17, Try.ntmps17
    go_wp2_with (go_at_call 38; first | ((with_reducible refine (CA.out _).mono ?_); rintro _ _ ⟨rfl, hz⟩; rw [hz]; clear hz) | ((with_reducible refine (CB.out _).mono ?_); rintro _ _ ⟨rfl, hz⟩; rw [hz]; clear hz))
    refine bodyPost_ret (by simp [results, Try.results17, go_sem]; try rfl) rfl ?_
    exact ⟨rfl, Below.refl _ _⟩
  have g6 : ¬ (b.size : Int) < 18 + li := by have := HLI.out; omega
  by_cases t7 : 18 + l < b.size
  · obtain ⟨e1, e2, e3, e4⟩ := no_parse b 111 (by unfold parseE; rw [if_neg t0, if_neg (by simp [t1]), if_neg t2, if_neg t3, HN.out, if_neg t4, HL.out, if_neg (by omega), if_neg (by omega), if_pos (by omega)]) (by omega)
    have g7 : 18 + li < (b.size : Int) := by have := HLI.out; omega
    rw [e1, e2, e3, e4]
    clear t0 t1 t2 t3 t4 t5 t6 t7 e1 e2 e3 e4 hh
    go_enter Try.func17, Try.ntmps17
    go_wp2_with (go_at_call 38; first | ((with_reducible refine (CA.out _).mono ?_); rintro _ _ ⟨rfl, hz⟩; rw [hz]; clear hz) | ((with_reducible refine (CB.out _).mono ?_); rintro _ _ ⟨rfl, hz⟩; rw [hz]; clear hz))
    refine bodyPost_ret (by simp [results, Try.results17, go_sem]; try rfl) rfl ?_
    exact ⟨rfl, Below.refl _ _⟩
  have g7 : ¬ 18 + li < (b.size : Int) := by have := HLI.out; omega
  have hz : b.size = 18 + l := by omega
  have CS : Hid (∀ w, Calls Try.prog 37 #[.string (b.extract 0 (14 + l))] w fun e w' => e = .returned (.string (str (lowB ((crcF (b.extract 0 (14 + l)) : Nat) : Int) 4))) ∧ Below w.heap.size w w') := fun w => sumR _ w (by rw [ext_size]; omega)
  have hlt := crcF_lt (b.extract 0 (14 + l))
  have HLE : Hid (b.extract (14 + l) b.size = str (lowB (beR b (14 + l) 4) 4)) := by
    show _ = _
    rw [put_read b (14 + l) 4 (by omega), show 14 + l + 4 = b.size by omega]
  have HSA : Hid _ := same_iff (beR b (14 + l) 4) ((crcF (b.extract 0 (14 + l)) : Nat) : Int) 4 (read_fits _ _ _) (fit4 _ (by omega) (by omega))
  have hb4 : b.size - 4 = 14 + l := by omega
  obtain ⟨x, HX⟩ : ∃ x : Nat, Hid (crcF (b.extract 0 (14 + l)) = x) := ⟨_, rfl⟩
  obtain ⟨y, HY⟩ : ∃ y : Int, Hid (beR b (14 + l) 4 = y) := ⟨_, rfl⟩
  rw [HX.out] at CS hlt HSA
  rw [HY.out] at HLE HSA
  have hi1 : (14 + li).toNat = 14 + l := by have := HLI.out; omega
  have hi2 : 14 + li ≤ (b.size : Int) := by have := HLI.out; omega
  have hi3 : 0 ≤ 14 + li := by omega
  have hw14 : IntKind.i64.wrap (14 + li) = 14 + li := by rw [IntKind.wrap_i64]; omega
  have hP : Hid (parseE b = if y = (x : Int) then 0 else 131) := by
    show _ = _
    unfold parseE
    rw [if_neg t0, if_neg (by simp [t1]), if_neg t2, if_neg t3, HN.out, if_neg t4, HL.out, if_neg (by omega), if_neg (by omega), if_neg (by omega), hb4, HY.out, HX.out]
    by_cases e : y = (x : Int)
    · rw [if_pos e, if_neg (by simp [e])]
    · rw [if_neg e, if_pos e]
  have HK : Hid (parseE b = 0 → parseK b = bt b 1 ∧ parseN b = n ∧ parseP b = b.extract 14 (14 + l)) := fun h => ⟨by rw [parseK, if_pos h], by rw [parseN, if_pos h, HN.out], by rw [parseP, if_pos h, hb4]⟩
  have k0 := bt_nonneg b 1
  have k1 := bt_le b 1
  have n2 : n ≤ 9223372036854775807 := by omega
  have z2 : 2 < b.size := by omega
  have z1 : 1 < b.size := by omega
  have zi1 : (1 : Int) < (b.size : Int) := by omega
  have hi4 : (14 : Int) ≤ 14 + li := by omega
  have hwn : IntKind.i64.wrap n = n := by rw [IntKind.wrap_i64]; omega
  have hwk : IntKind.i64.wrap (bt b 1) = bt b 1 := by rw [IntKind.wrap_i64]; omega
  by_cases t8 : y = (x : Int)
  · rw [if_pos t8] at hP
    obtain ⟨e1, e2, e3⟩ := HK.out hP.out
    rw [e1, e2, e3, hP.out]
    have g8 : ((str (lowB y 4)).toList == (str (lowB (x : Int) 4)).toList) = true := by rw [HSA.out]; simp [t8]
    obtain ⟨u1, HU1⟩ : ∃ u, Hid (str (lowB y 4) = u) := ⟨_, rfl⟩
    obtain ⟨u2, HU2⟩ : ∃ u, Hid (str (lowB (x : Int) 4) = u) := ⟨_, rfl⟩
    rw [HU1.out] at g8 HLE
    rw [HU2.out] at g8 CS
    have hle := HLE.out
    clear t0 t1 t2 t3 t4 t5 t6 t7 t8 e1 e2 e3 hh hlt HSA hz hb4
    go_enter Try.func17, Try.ntmps17
    go_upto_region 20 with (go_at_call 38; first | ((with_reducible refine (CA.out _).mono ?_); rintro _ _ ⟨rfl, hz⟩; rw [hz]; clear hz) | ((with_reducible refine (CB.out _).mono ?_); rintro _ _ ⟨rfl, hz⟩; rw [hz]; clear hz))
    go_region_with (go_at_call 37; refine (CS.out _).mono ?_; rintro _ w3 ⟨rfl, k3⟩; have B3 : Hid (Below w.heap.size w w3) := below2 (below_dr (Below.refl _ _)) k3 (Nat.le_refl _); clear k3)
    all_goals
      go_upto_region 22 with fail
      go_region
      go_wp2
      refine bodyPost_ret (by simp [results, Try.results17, go_sem]; try rfl) rfl ?_
      exact ⟨rfl, B3.out.drew⟩
  · rw [if_neg t8] at hP
    obtain ⟨e1, e2, e3, e4⟩ := no_parse b 131 hP.out (by omega)
    rw [e1, e2, e3, e4]
    have g8 : ((str (lowB y 4)).toList == (str (lowB (x : Int) 4)).toList) = false := by rw [HSA.out]; simp [t8]
    obtain ⟨u1, HU1⟩ : ∃ u, Hid (str (lowB y 4) = u) := ⟨_, rfl⟩
    obtain ⟨u2, HU2⟩ : ∃ u, Hid (str (lowB (x : Int) 4) = u) := ⟨_, rfl⟩
    rw [HU1.out] at g8 HLE
    rw [HU2.out] at g8 CS
    have hle := HLE.out
    clear t0 t1 t2 t3 t4 t5 t6 t7 t8 e1 e2 e3 e4 hh hlt HSA hz hb4
    go_enter Try.func17, Try.ntmps17
    go_upto_region 20 with (go_at_call 38; first | ((with_reducible refine (CA.out _).mono ?_); rintro _ _ ⟨rfl, hz⟩; rw [hz]; clear hz) | ((with_reducible refine (CB.out _).mono ?_); rintro _ _ ⟨rfl, hz⟩; rw [hz]; clear hz))
    go_region_with (go_at_call 37; refine (CS.out _).mono ?_; rintro _ w3 ⟨rfl, k3⟩; have B3 : Hid (Below w.heap.size w w3) := below2 (below_dr (Below.refl _ _)) k3 (Nat.le_refl _); clear k3)
    all_goals
      go_wp2
      refine bodyPost_ret (by simp [results, Try.results17, go_sem]; try rfl) rfl ?_
      exact ⟨rfl, B3.out⟩
end Go.Proofs.Ytgioekepoebibaa.dc
