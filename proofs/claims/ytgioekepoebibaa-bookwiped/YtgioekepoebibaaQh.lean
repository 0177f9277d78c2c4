import Derived.Test.YtgioekepoebibaaQb
import Derived.Test.YtgioekepoebibaaRi
namespace Go.Proofs.Ytgioekepoebibaa.qh
open Go.RowKit Go.PlainAid
open Go.Proofs.Ytgioekepoebibaa.na Go.Proofs.Ytgioekepoebibaa.nb Go.Proofs.Ytgioekepoebibaa.pa Go.Proofs.Ytgioekepoebibaa.pd Go.Proofs.Ytgioekepoebibaa.ra Go.Proofs.Ytgioekepoebibaa.rb Go.Proofs.Ytgioekepoebibaa.ri Go.Proofs.Ytgioekepoebibaa.qa Go.Proofs.Ytgioekepoebibaa.qb
set_option linter.unusedVariables false
set_option linter.unusedSimpArgs false
theorem body_is (k n : Int) (p : ByteArray) : bodyT k n p = str [165] ++ str [k] ++ str (lowB n 8) ++ str (lowB (p.size : Int) 4) ++ p := by rw [bodyT, headT_parts]
set_option maxHeartbeats 1600000 in
theorem frameC (k n : Int) (p : ByteArray) (w : World) (k0 : 1 ≤ k) (k1 : k ≤ 255) (n0 : 0 ≤ n) (n1 : n ≤ 9223372036854775807) (hp : p.size ≤ 524288) :
    Calls Try.prog 13 #[.int .i64 k, .int .i64 n, .string p] w fun e w' => e = .returned (.tuple #[.string (frameT k n p), .int .i64 0]) ∧ Below w.heap.size w w' := by
  have CK : Hid (∀ w, Calls _ _ _ _ _) := fun w => isKindC k w
  rw [decide_eq_true ⟨k0, k1⟩] at CK
  have C1 : Hid (∀ w, Calls _ _ _ _ _) := fun w => oneByteC 165 w (by omega) (by omega)
  have C2 : Hid (∀ w, Calls _ _ _ _ _) := fun w => oneByteC k w (by omega) k1
  have C3 : Hid (∀ w, Calls _ _ _ _ _) := fun w => big8C n w n0 n1
  have C4 : Hid (∀ w, Calls _ _ _ _ _) := fun w => big4C (p.size : Int) w (by omega) (by omega)
  have hu : IntKind.u32.wrap (p.size : Int) = (p.size : Int) := by rw [IntKind.wrap_u32]; omega
  have hz1 : (str [(165 : Int)]).size = 1 := str_size [165]
  have hz2 : (str [k]).size = 1 := str_size [k]
  have hz3 : (str (lowB n 8)).size = 8 := by rw [str_size, lowB_length]
  have hz4 : (str (lowB (p.size : Int) 4)).size = 4 := by rw [str_size, lowB_length]
  have HB : Hid _ := body_is k n p
  have hlt := crcF_lt (bodyT k n p)
  have CC : Hid (∀ w, Calls _ _ _ _ _) := fun w => Crc (bodyT k n p) w (by rw [bodyT_size]; omega)
  have C5 : Hid (∀ w, Calls _ _ _ _ _) := fun w => big4C ((crcF (bodyT k n p) : Nat) : Int) w (by omega) (by omega)
  have hz5 : (str (lowB ((crcF (bodyT k n p) : Nat) : Int) 4)).size = 4 := by rw [str_size, lowB_length]
  have hzb := bodyT_size k n p
  unfold frameT
  generalize str (lowB ((crcF (bodyT k n p) : Nat) : Int) 4) = t5 at *
  generalize crcF (bodyT k n p) = x at *
  obtain ⟨B, HBB⟩ : ∃ B, Hid (bodyT k n p = B) := ⟨_, rfl⟩
  rw [HBB.out] at HB CC hzb ⊢
  generalize str [(165 : Int)] = t1 at *
  generalize str [k] = t2 at *
  generalize str (lowB n 8) = t3 at *
  generalize str (lowB (p.size : Int) 4) = t4 at *
  clear HBB hlt
  go_enter Try.func13, Try.ntmps13
  go_wp2_with fail
  refine (CK.out _).mono ?_
  rintro _ w0 ⟨rfl, hw⟩; rw [hw]; clear hw
  go_wp2_with fail
  refine (C1.out _).mono ?_
  rintro _ w1 ⟨rfl, b1⟩
  go_wp2_with fail
  refine (C2.out _).mono ?_
  rintro _ w2 ⟨rfl, b2⟩
  have B2 : Hid (Below w.heap.size w w2) := over b1 b2
  clear b1 b2
  go_wp2_with fail
  refine (C3.out _).mono ?_
  rintro _ w3 ⟨rfl, b3⟩
  have B3 : Hid (Below w.heap.size w w3) := over B2.out b3
  clear b3 B2
  go_wp2_with fail
  refine (C4.out _).mono ?_
  rintro _ w4 ⟨rfl, b4⟩
  have B4 : Hid (Below w.heap.size w w4) := over B3.out b4
  clear b4 B3
  go_wp2_with fail
  rw [← HB.out]
  refine (CC.out _).mono ?_
  rintro _ w5 ⟨rfl, b5⟩
  have B5 : Hid (Below w.heap.size w w5) := over B4.out b5
  clear b5 B4
  go_wp2_with fail
  refine (C5.out _).mono ?_
  rintro _ w6 ⟨rfl, b6⟩
  have B6 : Hid (Below w.heap.size w w6) := over B5.out b6
  clear b6 B5
  go_wp2
  go_ret2
  exact ⟨rfl, B6.out⟩
theorem frameNo (k n : Int) (p : ByteArray) (w : World) (h : ¬ (1 ≤ k ∧ k ≤ 255 ∧ 0 ≤ n)) :
    Calls Try.prog 13 #[.int .i64 k, .int .i64 n, .string p] w fun e w' => e = .returned (.tuple #[.string ByteArray.empty, .int .i64 10]) ∧ w' = w := by
  have CK : Hid (∀ w, Calls _ _ _ _ _) := fun w => isKindC k w
  by_cases hk : 1 ≤ k ∧ k ≤ 255
  · rw [decide_eq_true hk] at CK
    have hn : n < 0 := by omega
    clear h hk
    go_enter Try.func13, Try.ntmps13
    go_wp2_with fail
    refine (CK.out _).mono ?_
    rintro _ w0 ⟨rfl, hw⟩; rw [hw]; clear hw
    go_wp2
    go_ret2
    exact ⟨rfl, rfl⟩
  · rw [decide_eq_false hk] at CK
    clear h hk
    go_enter Try.func13, Try.ntmps13
    go_wp2_with fail
    refine (CK.out _).mono ?_
    rintro _ w0 ⟨rfl, hw⟩; rw [hw]; clear hw
    go_wp2
    go_ret2
    exact ⟨rfl, rfl⟩
theorem frameBig (k n : Int) (p : ByteArray) (w : World) (k0 : 1 ≤ k) (k1 : k ≤ 255) (n0 : 0 ≤ n) (hp : 524288 < p.size) :
    Calls Try.prog 13 #[.int .i64 k, .int .i64 n, .string p] w fun e w' => e = .returned (.tuple #[.string ByteArray.empty, .int .i64 121]) ∧ w' = w := by
  have CK : Hid (∀ w, Calls _ _ _ _ _) := fun w => isKindC k w
  rw [decide_eq_true ⟨k0, k1⟩] at CK
  have hp' : (524288 : Int) < p.size := by omega
  go_enter Try.func13, Try.ntmps13
  go_wp2_with fail
  refine (CK.out _).mono ?_
  rintro _ w0 ⟨rfl, hw⟩; rw [hw]; clear hw
  go_wp2
  go_ret2
  exact ⟨rfl, rfl⟩
end Go.Proofs.Ytgioekepoebibaa.qh
