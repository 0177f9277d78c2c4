import Derived.Test.YtmindflfjocjlaaGreatQ13
import Derived.Lib.MinMax
import Derived.RegionTactic
import Derived.BigRegion
import Derived.BigQuiet
import Derived.Deep.QuietTactic
import Derived.Handy
import Derived.Deep.MidRow
import Derived.Laws.Rows
import Derived.Deep.DeepCutAuto
import Derived.Deep.RegionHeld3
import Derived.Laws.Strings2
namespace Go.Proofs.YtmindflfjocjlaaGreat.tdb
open Go.RowKit Go.PlainAid
open Go.Proofs.YtmindflfjocjlaaGreat.na Go.Proofs.YtmindflfjocjlaaGreat.nb Go.Proofs.YtmindflfjocjlaaGreat.tpa Go.Proofs.YtmindflfjocjlaaGreat.tpb Go.Proofs.YtmindflfjocjlaaGreat.tpd Go.Proofs.YtmindflfjocjlaaGreat.tpe Go.Proofs.YtmindflfjocjlaaGreat.tpf Go.Proofs.YtmindflfjocjlaaGreat.tra Go.Proofs.YtmindflfjocjlaaGreat.trb Go.Proofs.YtmindflfjocjlaaGreat.trq Go.Proofs.YtmindflfjocjlaaGreat.tqa Go.Proofs.YtmindflfjocjlaaGreat.tda
open Go.Proofs.YtmindflfjocjlaaGreat.tqb (over)
set_option linter.unusedVariables false
set_option linter.unusedSimpArgs false
theorem letterA : (⟨#[165]⟩ : ByteArray) = str [165] := rfl
set_option maxRecDepth 100000 in
set_option maxHeartbeats 6400000 in
theorem frameR (k n : Int) (p : ByteArray) (w : World) (k0 : 1 ≤ k) (k1 : k ≤ 255) (n0 : 0 ≤ n) (n1 : n ≤ 9223372036854775807) (hp : p.size ≤ 524288) :
    Calls Tryz.prog 28 #[.int .i64 k, .int .i64 n, .string p] w fun e w' => e = .returned (.tuple #[.string (frameT k n p), .int .i64 0]) ∧ Below w.heap.size w w' := by
  have C1 : Hid (∀ w, Calls _ _ _ _ _) := fun w => big8R n w n0 n1
  have C2 : Hid (∀ w, Calls _ _ _ _ _) := fun w => big4R (p.size : Int) w (by omega) (by omega)
  have hz1 : (str (lowB n 8)).size = 8 := by rw [str_size, lowB_length]
  have hz2 : (str (lowB (p.size : Int) 4)).size = 4 := by rw [str_size, lowB_length]
  have hz3 : (str [k]).size = 1 := str_size [k]
  have hz0 : (⟨#[165]⟩ : ByteArray).size = 1 := rfl
  have HB : Hid (bodyT k n p = ⟨#[165]⟩ ++ str [k] ++ str (lowB n 8) ++ str (lowB (p.size : Int) 4) ++ p) := by show _ = _; rw [letterA, bodyT, headT_parts]
  have hlt := crcF_lt (bodyT k n p)
  have hzb := bodyT_size k n p
  have CC : Hid (∀ w, Calls _ _ _ _ _) := fun w => sumR (bodyT k n p) w (by omega)
  have hz5 : (str (lowB ((crcF (bodyT k n p) : Nat) : Int) 4)).size = 4 := by rw [str_size, lowB_length]
  unfold frameT
  generalize str (lowB ((crcF (bodyT k n p) : Nat) : Int) 4) = t5 at *
  clear hlt
  obtain ⟨B, HBB⟩ : ∃ B, Hid (bodyT k n p = B) := ⟨_, rfl⟩
  rw [HBB.out] at HB CC hzb ⊢
  clear HBB
  have hcv := conv_one
  have hcv1 : (convert 108 9 (.slice (some ⟨w.heap.size, 0, none⟩) 1 1)).run Tryz.prog ((w.alloc (.cells #[.int .u8 k] 5)).drew) = .ok (.string (str [k])) ((w.alloc (.cells #[.int .u8 k] 5)).drew) := conv_one w.drew k
  have a1 := add_text (⟨#[165]⟩ : ByteArray) (str [k]) (by omega)
  have z1 : ((⟨#[165]⟩ : ByteArray) ++ str [k]).size = 2 := by rw [app_size]; omega
  have a2 := add_text ((⟨#[165]⟩ : ByteArray) ++ str [k]) (str (lowB n 8)) (by omega)
  have z2 : ((⟨#[165]⟩ : ByteArray) ++ str [k] ++ str (lowB n 8)).size = 10 := by rw [app_size]; omega
  have a3 := add_text ((⟨#[165]⟩ : ByteArray) ++ str [k] ++ str (lowB n 8)) (str (lowB (p.size : Int) 4)) (by omega)
  have z3 : ((⟨#[165]⟩ : ByteArray) ++ str [k] ++ str (lowB n 8) ++ str (lowB (p.size : Int) 4)).size = 14 := by rw [app_size]; omega
  have a4 := add_text ((⟨#[165]⟩ : ByteArray) ++ str [k] ++ str (lowB n 8) ++ str (lowB (p.size : Int) 4)) p (by omega)
  have hu : IntKind.u8.wrap k = k := by rw [IntKind.wrap_u8]; omega
  have KA : Hid (∀ w2, Below w.drew.heap.size w.drew w2 → Below w.heap.size w w2) := fun w2 h => below2 (below_dr (Below.refl _ _)) h (Nat.le_refl _)
  have KB : Hid (∀ w2, Below ((w.alloc (.cells #[.int .u8 k] 5)).drew).heap.size ((w.alloc (.cells #[.int .u8 k] 5)).drew) w2 → Below w.heap.size w w2) := fun w2 h => below2 (below_dr ((Below.refl _ _).alloc (Nat.le_refl _) _)) h (Nat.le_refl _)
  go_enter Tryz.func28, Tryz.ntmps28
  go_upto_region 5 with fail
  go_region_with (go_at_call 58; first
      | ((with_reducible refine (C1.out _).mono ?_); rintro _ w2 ⟨rfl, k2⟩; first
          | (have B2 : Hid (Below w.heap.size w w2) := KA.out _ k2; have hcv2 := conv_one w2 k; clear k2)
          | (have B2 : Hid (Below w.heap.size w w2) := KB.out _ k2; have c2 : Hid (w2.cell? ⟨w.heap.size, 0, none⟩ = some (.int .u8 k)) := cell_one w.drew w2 k k2; have hcv2 := conv_at w2 _ k c2.out; clear k2))
      | ((with_reducible refine (C2.out _).mono ?_); rintro _ w3 ⟨rfl, k3⟩; first
          | (have B3 : Hid (Below w.heap.size w w3) := below2 B2.out k3 (Nat.le_refl _); first
              | (have c3 : Hid (w3.cell? ⟨w.heap.size, 0, none⟩ = some (.int .u8 k)) := cell_kept _ w3 _ k k3 c2.out; have hcv3 := conv_at w3 _ k c3.out; clear k3)
              | (have hcv3 := conv_one w3 k; clear k3))
          | (have B3 : Hid (Below w.heap.size w w3) := below2 (B2.out.alloc B2.out.size _) k3 (Nat.le_refl _); have hcv3 := conv_at w3 _ k (cell_one w2 w3 k k3); clear k3)))
  all_goals (
    rw [← HB.out]
    go_wp2_with fail
    refine (CC.out _).mono ?_
    rintro _ w5 ⟨rfl, b5⟩
    have B5 : Hid (Below w.heap.size w w5) := by first | exact below2 B3.out b5 (Nat.le_refl _) | exact below2 (B3.out.alloc B3.out.size _) b5 (Nat.le_refl _)
    clear b5
    go_wp2
    go_ret2
    exact ⟨rfl, B5.out⟩)
theorem frameNoR (k n : Int) (p : ByteArray) (w : World) (h : ¬ (1 ≤ k ∧ k ≤ 255 ∧ 0 ≤ n)) :
    Calls Tryz.prog 28 #[.int .i64 k, .int .i64 n, .string p] w fun e w' => e = .returned (.tuple #[.string ByteArray.empty, .int .i64 10]) ∧ w' = w := by
  have : k < 1 ∨ (¬ k < 1 ∧ 255 < k) ∨ (¬ k < 1 ∧ ¬ 255 < k ∧ n < 0) := by omega
  clear h
  rcases this with h1 | ⟨h1, h2⟩ | ⟨h1, h2, h3⟩
  all_goals
    go_enter Tryz.func28, Tryz.ntmps28
    go_wp2
    go_ret2
    exact ⟨rfl, rfl⟩
theorem frameBigR (k n : Int) (p : ByteArray) (w : World) (k0 : 1 ≤ k) (k1 : k ≤ 255) (n0 : 0 ≤ n) (hp : 524288 < p.size) :
    Calls Tryz.prog 28 #[.int .i64 k, .int .i64 n, .string p] w fun e w' => e = .returned (.tuple #[.string ByteArray.empty, .int .i64 121]) ∧ w' = w := by
  have h1 : ¬ k < 1 := by omega
  have h2 : ¬ 255 < k := by omega
  have h3 : ¬ n < 0 := by omega
  have hp' : (524288 : Int) < p.size := by omega
  go_enter Tryz.func28, Tryz.ntmps28
  go_wp2
  go_ret2
  exact ⟨rfl, rfl⟩
end Go.Proofs.YtmindflfjocjlaaGreat.tdb

namespace Go.Proofs.YtmindflfjocjlaaGreat.tqc
open Go.RowKit Go.PlainAid
open Go.Proofs.YtmindflfjocjlaaGreat.na Go.Proofs.YtmindflfjocjlaaGreat.nb Go.Proofs.YtmindflfjocjlaaGreat.tpa Go.Proofs.YtmindflfjocjlaaGreat.tpd Go.Proofs.YtmindflfjocjlaaGreat.tra Go.Proofs.YtmindflfjocjlaaGreat.trb Go.Proofs.YtmindflfjocjlaaGreat.tqa Go.Proofs.YtmindflfjocjlaaGreat.tqb
set_option linter.unusedVariables false
set_option linter.unusedSimpArgs false

def wi (n : Int) : Int := if n < 0 then 0 else n
def kd (k : Int) : Int := k % 255 + 1
theorem wi_ok (n : Int) (h : n ≤ 9223372036854775807) : 0 ≤ wi n ∧ wi n ≤ 9223372036854775807 := by unfold wi; split <;> omega
theorem kd_ok (k : Int) : 1 ≤ kd k ∧ kd k ≤ 255 := by unfold kd; omega
theorem ret_i (x y : Int) (h : x = y) : Ending.returned (.int .i64 x) = .returned (.int .i64 y) := by rw [h]
-- a key as a number
theorem beR_split (b : ByteArray) (p k m : Nat) : beR b p (k + m) = beR b p k * 256 ^ m + beR b (p + k) m := by
  induction m with
  | zero => simp [beR]
  | succ m ih =>
    have e : beR b p (k + (m + 1)) = beR b p (k + m) * 256 + bt b (p + (k + m)) := rfl
    have e2 : beR b (p + k) (m + 1) = beR b (p + k) m * 256 + bt b (p + k + m) := rfl
    rw [e, e2, ih, Int.pow_succ, Nat.add_assoc]
    rw [Int.add_mul, Int.mul_assoc, Int.add_assoc]
theorem keyT_space (s k n : Int) (h0 : 0 ≤ s) (h1 : s ≤ 18446744073709551615) : beR (keyT s k n) 1 8 = s := by
  have h := read_mid (str [66]) (str [k] ++ str (lowB n 8)) s 8 (fit8 s h0 h1)
  rw [keyT_parts, app_assoc (str [66] ++ str (lowB s 8))]
  exact h
theorem keyT_kind (s k n : Int) (h0 : 0 ≤ k) (h1 : k ≤ 255) : beR (keyT s k n) 9 1 = k := by
  have e := app_size (str [66]) (str (lowB s 8))
  have e66 := str_size [(66 : Int)]
  have e8 := str_size (lowB s 8)
  have ek := str_size [k]
  rw [lowB_length] at e8
  have e2 := app_size (str [66] ++ str (lowB s 8)) (str [k])
  simp only [List.length_cons, List.length_nil] at e66 ek
  rw [e66, e8] at e
  rw [e, ek] at e2
  rw [beR_one, keyT_parts, bt_append_left _ _ _ (by omega)]
  have h := bt_append_right (str [66] ++ str (lowB s 8)) (str [k]) 0
  rw [e] at h
  rw [h]
  exact one_bt k h0 h1
theorem keyT_number (s k n : Int) (h0 : 0 ≤ n) (h1 : n ≤ 18446744073709551615) : beR (keyT s k n) 10 8 = n := by
  have e := app_size (str [66]) (str (lowB s 8))
  have e66 := str_size [(66 : Int)]
  have e8 := str_size (lowB s 8)
  have ek := str_size [k]
  rw [lowB_length] at e8
  have e2 := app_size (str [66] ++ str (lowB s 8)) (str [k])
  simp only [List.length_cons, List.length_nil] at e66 ek
  rw [e66, e8] at e
  rw [e, ek] at e2
  have h := read_mid (str [66] ++ str (lowB s 8) ++ str [k]) ByteArray.empty n 8 (fit8 n h0 h1)
  rw [e2, ByteArray.append_empty] at h
  rw [keyT_parts]
  exact h
theorem keyT_letter (s k n : Int) : beR (keyT s k n) 0 1 = 66 := by
  have e := app_size (str [66]) (str (lowB s 8))
  have e0 := str_size [(66 : Int)]
  simp at e0
  have e2 := app_size (str [66] ++ str (lowB s 8)) (str [k])
  rw [beR_one, keyT_parts, bt_append_left _ _ _ (by omega), bt_append_left _ _ _ (by omega), bt_append_left _ _ _ (by omega)]
  exact one_bt 66 (by omega) (by omega)
def keyV (s k n : Int) : Int := ((66 * 18446744073709551616 + s) * 256 + k) * 18446744073709551616 + n
theorem keyT_val (s k n : Int) (s0 : 0 ≤ s) (s1 : s ≤ 18446744073709551615) (k0 : 0 ≤ k) (k1 : k ≤ 255) (n0 : 0 ≤ n) (n1 : n ≤ 18446744073709551615) : beR (keyT s k n) 0 18 = keyV s k n := by
  rw [beR_split (keyT s k n) 0 10 8, beR_split (keyT s k n) 0 9 1, beR_split (keyT s k n) 0 1 8, Nat.zero_add, Nat.zero_add, Nat.zero_add, keyT_letter, keyT_space s k n s0 s1, keyT_kind s k n k0 k1, keyT_number s k n n0 n1]
  rfl
theorem keyT_low (s k n : Int) (s0 : 0 ≤ s) (s1 : s ≤ 18446744073709551615) (k0 : 0 ≤ k) (k1 : k ≤ 255) (n0 : 0 ≤ n) (n1 : n ≤ 18446744073709551615) : keyT s k n = str (lowB (keyV s k n) 18) ∧ keyV s k n / 256 ^ 18 = 0 := by
  rw [← keyT_val s k n s0 s1 k0 k1 n0 n1]
  have hz := keyT_size s k n
  refine ⟨?_, read_fits _ _ _⟩
  rw [put_read (keyT s k n) 0 18 (by omega), ext_all _ _ (by omega)]
theorem key_same (s k n t l m : Int) (s0 : 0 ≤ s) (s1 : s ≤ 9223372036854775807) (k0 : 0 ≤ k) (k1 : k ≤ 255) (n0 : 0 ≤ n) (n1 : n ≤ 9223372036854775807) (t0 : 0 ≤ t) (t1 : t ≤ 9223372036854775807) (l0 : 0 ≤ l) (l1 : l ≤ 255) (m0 : 0 ≤ m) (m1 : m ≤ 9223372036854775807) :
    ((keyT s k n).toList == (keyT t l m).toList) = ((s == t) && (k == l) && (n == m)) := by
  obtain ⟨e1, f1⟩ := keyT_low s k n s0 (by omega) k0 k1 n0 (by omega)
  obtain ⟨e2, f2⟩ := keyT_low t l m t0 (by omega) l0 l1 m0 (by omega)
  rw [e1, e2, same_iff _ _ 18 f1 f2]
  rw [Bool.eq_iff_iff]
  simp only [beq_iff_eq, Bool.and_eq_true]
  unfold keyV
  omega
theorem key_less (s k n t l m : Int) (s0 : 0 ≤ s) (s1 : s ≤ 9223372036854775807) (k0 : 0 ≤ k) (k1 : k ≤ 255) (n0 : 0 ≤ n) (n1 : n ≤ 9223372036854775807) (t0 : 0 ≤ t) (t1 : t ≤ 9223372036854775807) (l0 : 0 ≤ l) (l1 : l ≤ 255) (m0 : 0 ≤ m) (m1 : m ≤ 9223372036854775807) :
    Op.bytesLess (keyT s k n).toList (keyT t l m).toList = decide (s < t ∨ s = t ∧ (k < l ∨ k = l ∧ n < m)) := by
  obtain ⟨e1, f1⟩ := keyT_low s k n s0 (by omega) k0 k1 n0 (by omega)
  obtain ⟨e2, f2⟩ := keyT_low t l m t0 (by omega) l0 l1 m0 (by omega)
  rw [e1, e2, less_iff _ _ 18 f1 f2, decide_eq_decide]
  unfold keyV
  omega

end Go.Proofs.YtmindflfjocjlaaGreat.tqc

namespace Go.Proofs.YtmindflfjocjlaaGreat.tdc
open Go.RowKit Go.PlainAid
open Go.Proofs.YtmindflfjocjlaaGreat.na Go.Proofs.YtmindflfjocjlaaGreat.nb Go.Proofs.YtmindflfjocjlaaGreat.tpa Go.Proofs.YtmindflfjocjlaaGreat.tpb Go.Proofs.YtmindflfjocjlaaGreat.tpd Go.Proofs.YtmindflfjocjlaaGreat.tpe Go.Proofs.YtmindflfjocjlaaGreat.tpf Go.Proofs.YtmindflfjocjlaaGreat.tra Go.Proofs.YtmindflfjocjlaaGreat.trb Go.Proofs.YtmindflfjocjlaaGreat.trq Go.Proofs.YtmindflfjocjlaaGreat.tqa Go.Proofs.YtmindflfjocjlaaGreat.tda
open Go.Proofs.YtmindflfjocjlaaGreat.tqb (over)
open Go.Proofs.YtmindflfjocjlaaGreat.tqc (beR_split)
set_option linter.unusedVariables false
set_option linter.unusedSimpArgs false
theorem no_parse (b : ByteArray) (x : Int) (h : parseE b = x) (hx : x ≠ 0) : parseK b = 0 ∧ parseN b = 0 ∧ parseP b = ⟨#[]⟩ ∧ parseE b = x :=
  ⟨by rw [parseK, if_neg (by omega)], by rw [parseN, if_neg (by omega)], by rw [parseP, if_neg (by omega)]; rfl, h⟩
theorem be28 (b : ByteArray) (w : World) (hb : b.size ≤ 281474976710656) (h : 14 ≤ b.size) : Calls Tryz.prog 71 #[.string b, .int .i64 2, .int .i64 8] w fun e w' => e = .returned (.tuple #[.int .u64 (beR b 2 8), .int .i64 0]) ∧ w' = w := rbe_any b 2 8 w (by omega) (by omega) (by omega) (by omega)
theorem be104 (b : ByteArray) (w : World) (hb : b.size ≤ 281474976710656) (h : 14 ≤ b.size) : Calls Tryz.prog 71 #[.string b, .int .i64 10, .int .i64 4] w fun e w' => e = .returned (.tuple #[.int .u64 (beR b 10 4), .int .i64 0]) ∧ w' = w := rbe_any b 10 4 w (by omega) (by omega) (by omega) (by omega)
theorem high (b : ByteArray) : 128 ≤ bt b 2 ↔ 9223372036854775807 < beR b 2 8 := by
  have h := beR_split b 2 1 7
  rw [show (1 : Nat) + 7 = 8 by rfl, beR_one] at h
  have h0 := beR_nonneg b (2 + 1) 7
  have h1 := beR_lt b (2 + 1) 7
  have e : (256 : Int) ^ 7 = 72057594037927936 := by decide
  rw [e] at h h1
  rw [h]; omega
set_option maxRecDepth 100000 in
set_option maxHeartbeats 6400000 in
theorem parseR (b : ByteArray) (w : World) (hs : b.size ≤ 281474976710656) :
    Calls Tryz.prog 52 #[.string b] w fun e w' => e = .returned (.tuple #[.int .i64 (parseK b), .int .i64 (parseN b), .string (parseP b), .int .i64 (parseE b)]) ∧ Below w.heap.size w w' := by
  have hbt := get_bt b
  by_cases t0 : b.size = 0
  · obtain ⟨e1, e2, e3, e4⟩ := no_parse b 12 (by unfold parseE; rw [if_pos t0]) (by omega)
    have g : b.toList = [] := by
      rw [ByteArray.toList_eq]
      exact List.length_eq_zero_iff.1 (by rw [Array.length_toList]; exact t0)
    rw [e1, e2, e3, e4]
    clear t0 e1 e2 e3 e4
    go_enter Tryz.func52, Tryz.ntmps52
    go_wp2
    refine bodyPost_ret (by simp [results, Tryz.results52, go_sem]; try rfl) rfl ?_
    exact ⟨rfl, Below.refl _ _⟩
  have g0 : ¬ b.toList = [] := by
    rw [ByteArray.toList_eq]
    intro h
    have := congrArg List.length h
    rw [Array.length_toList] at this
    exact t0 this
  have g : b.toList.isEmpty = false := by simpa using g0
  have gb : (b.toList == []) = false := by rw [beq_eq_false_iff_ne]; exact g0
  clear g0
  have z0 : 0 < b.size := by omega
  by_cases t1 : bt b 0 = 165
  rotate_left
  · obtain ⟨e1, e2, e3, e4⟩ := no_parse b 130 (by unfold parseE; rw [if_neg t0, if_pos t1]) (by omega)
    have g1 : (bt b 0 != 165) = true := by rw [bne_iff_ne]; exact t1
    rw [e1, e2, e3, e4]
    clear t0 t1 e1 e2 e3 e4
    go_enter Tryz.func52, Tryz.ntmps52
    go_wp2
    refine bodyPost_ret (by simp [results, Tryz.results52, go_sem]; try rfl) rfl ?_
    exact ⟨rfl, Below.refl _ _⟩
  have g1 : (bt b 0 != 165) = false := by rw [t1]; rfl
  by_cases t2 : b.size < 14
  · obtain ⟨e1, e2, e3, e4⟩ := no_parse b 12 (by unfold parseE; rw [if_neg t0, if_neg (by simp [t1]), if_pos t2]) (by omega)
    have g2 : (b.size : Int) < 14 := by omega
    rw [e1, e2, e3, e4]
    clear t0 t1 t2 e1 e2 e3 e4
    go_enter Tryz.func52, Tryz.ntmps52
    go_wp2
    refine bodyPost_ret (by simp [results, Tryz.results52, go_sem]; try rfl) rfl ?_
    exact ⟨rfl, Below.refl _ _⟩
  have g2 : ¬ (b.size : Int) < 14 := by omega
  have z14 : 14 ≤ b.size := by omega
  by_cases t3 : bt b 1 = 0
  · obtain ⟨e1, e2, e3, e4⟩ := no_parse b 110 (by unfold parseE; rw [if_neg t0, if_neg (by simp [t1]), if_neg t2, if_pos t3]) (by omega)
    have g3 : (bt b 1 == 0) = true := by rw [beq_iff_eq]; exact t3
    rw [e1, e2, e3, e4]
    clear t0 t1 t2 t3 e1 e2 e3 e4
    go_enter Tryz.func52, Tryz.ntmps52
    go_wp2
    refine bodyPost_ret (by simp [results, Tryz.results52, go_sem]; try rfl) rfl ?_
    exact ⟨rfl, Below.refl _ _⟩
  have g3 : (bt b 1 == 0) = false := by rw [beq_eq_false_iff_ne]; exact t3
  have CA : Hid (∀ w, Calls _ _ _ _ _) := fun w => be28 b w hs z14
  have CB : Hid (∀ w, Calls _ _ _ _ _) := fun w => be104 b w hs z14
  have hh := high b
  have n0 := beR_nonneg b 2 8
  have n1 : beR b 2 8 ≤ 18446744073709551615 := by
    have h := beR_lt b 2 8
    have e : (256 : Int) ^ 8 = 18446744073709551616 := by decide
    omega
  have l0 := beR_nonneg b 10 4
  have l1 : beR b 10 4 < 4294967296 := by
    have h := beR_lt b 10 4
    have e : (256 : Int) ^ 4 = 4294967296 := by decide
    omega
  obtain ⟨n, HN⟩ : ∃ n, Hid (beR b 2 8 = n) := ⟨_, rfl⟩
  obtain ⟨l, HL⟩ : ∃ l : Nat, Hid (beR b 10 4 = (l : Int)) := ⟨(beR b 10 4).toNat, by show _ = _; omega⟩
  obtain ⟨li, HLI⟩ : ∃ li : Int, Hid ((l : Int) = li) := ⟨_, rfl⟩
  rw [HN.out] at CA hh n0 n1
  rw [HL.out, HLI.out] at CB l0 l1
  have hw : IntKind.i64.wrap li = li := by rw [IntKind.wrap_i64]; omega
  by_cases t4 : 9223372036854775807 < n
  · obtain ⟨e1, e2, e3, e4⟩ := no_parse b 10 (by unfold parseE; rw [if_neg t0, if_neg (by simp [t1]), if_neg t2, if_neg t3, HN.out, if_pos t4]) (by omega)
    have g4 : 128 ≤ bt b 2 := hh.2 t4
    have g4' : bt b 2 ≥ 128 := g4
    rw [e1, e2, e3, e4]
    clear t0 t1 t2 t3 t4 e1 e2 e3 e4 hh
    go_enter Tryz.func52, Tryz.ntmps52
    go_wp2_with (go_at_call 71; first | ((with_reducible refine (CA.out _).mono ?_); rintro _ _ ⟨rfl, hz⟩; rw [hz]; clear hz) | ((with_reducible refine (CB.out _).mono ?_); rintro _ _ ⟨rfl, hz⟩; rw [hz]; clear hz))
    refine bodyPost_ret (by simp [results, Tryz.results52, go_sem]; try rfl) rfl ?_
    exact ⟨rfl, Below.refl _ _⟩
  have g4 : ¬ 128 ≤ bt b 2 := fun h => t4 (hh.1 h)
  by_cases t5 : 524288 < l
  · obtain ⟨e1, e2, e3, e4⟩ := no_parse b 121 (by unfold parseE; rw [if_neg t0, if_neg (by simp [t1]), if_neg t2, if_neg t3, HN.out, if_neg t4, HL.out, if_pos (by omega)]) (by omega)
    have g5 : 524288 < li := by have := HLI.out; omega
    rw [e1, e2, e3, e4]
    clear t0 t1 t2 t3 t4 t5 e1 e2 e3 e4 hh
    go_enter Tryz.func52, Tryz.ntmps52
    go_wp2_with (go_at_call 71; first | ((with_reducible refine (CA.out _).mono ?_); rintro _ _ ⟨rfl, hz⟩; rw [hz]; clear hz) | ((with_reducible refine (CB.out _).mono ?_); rintro _ _ ⟨rfl, hz⟩; rw [hz]; clear hz))
    refine bodyPost_ret (by simp [results, Tryz.results52, go_sem]; try rfl) rfl ?_
    exact ⟨rfl, Below.refl _ _⟩
  have g5 : ¬ 524288 < li := by have := HLI.out; omega
  by_cases t6 : b.size < 18 + l
  · obtain ⟨e1, e2, e3, e4⟩ := no_parse b 12 (by unfold parseE; rw [if_neg t0, if_neg (by simp [t1]), if_neg t2, if_neg t3, HN.out, if_neg t4, HL.out, if_neg (by omega), if_pos (by omega)]) (by omega)
    have g6 : (b.size : Int) < 18 + li := by have := HLI.out; omega
    rw [e1, e2, e3, e4]
    clear t0 t1 t2 t3 t4 t5 t6 e1 e2 e3 e4 hh
    go_enter Tryz.func52, Tryz.ntmps52
    go_wp2_with (go_at_call 71; first | ((with_reducible refine (CA.out _).mono ?_); rintro _ _ ⟨rfl, hz⟩; rw [hz]; clear hz) | ((with_reducible refine (CB.out _).mono ?_); rintro _ _ ⟨rfl, hz⟩; rw [hz]; clear hz))
    refine bodyPost_ret (by simp [results, Tryz.results52, go_sem]; try rfl) rfl ?_
    exact ⟨rfl, Below.refl _ _⟩
  have g6 : ¬ (b.size : Int) < 18 + li := by have := HLI.out; omega
  by_cases t7 : 18 + l < b.size
  · obtain ⟨e1, e2, e3, e4⟩ := no_parse b 111 (by unfold parseE; rw [if_neg t0, if_neg (by simp [t1]), if_neg t2, if_neg t3, HN.out, if_neg t4, HL.out, if_neg (by omega), if_neg (by omega), if_pos (by omega)]) (by omega)
    have g7 : 18 + li < (b.size : Int) := by have := HLI.out; omega
    rw [e1, e2, e3, e4]
    clear t0 t1 t2 t3 t4 t5 t6 t7 e1 e2 e3 e4 hh
    go_enter Tryz.func52, Tryz.ntmps52
    go_wp2_with (go_at_call 71; first | ((with_reducible refine (CA.out _).mono ?_); rintro _ _ ⟨rfl, hz⟩; rw [hz]; clear hz) | ((with_reducible refine (CB.out _).mono ?_); rintro _ _ ⟨rfl, hz⟩; rw [hz]; clear hz))
    refine bodyPost_ret (by simp [results, Tryz.results52, go_sem]; try rfl) rfl ?_
    exact ⟨rfl, Below.refl _ _⟩
  have g7 : ¬ 18 + li < (b.size : Int) := by have := HLI.out; omega
  have hz : b.size = 18 + l := by omega
  have CS : Hid (∀ w, Calls Tryz.prog 69 #[.string (b.extract 0 (14 + l))] w fun e w' => e = .returned (.string (str (lowB ((crcF (b.extract 0 (14 + l)) : Nat) : Int) 4))) ∧ Below w.heap.size w w') := fun w => sumR _ w (by rw [ext_size]; omega)
  have hlt := crcF_lt (b.extract 0 (14 + l))
  have HLE : Hid (b.extract (14 + l) b.size = str (lowB (beR b (14 + l) 4) 4)) := by
    show _ = _
    rw [put_read b (14 + l) 4 (by omega), show 14 + l + 4 = b.size by omega]
  have HSA : Hid _ := same_iff (beR b (14 + l) 4) ((crcF (b.extract 0 (14 + l)) : Nat) : Int) 4 (read_fits _ _ _) (fit4 _ (by omega) (by omega))
  have hb4 : b.size - 4 = 14 + l := by omega
  obtain ⟨x, HX⟩ : ∃ x : Nat, Hid (crcF (b.extract 0 (14 + l)) = x) := ⟨_, rfl⟩
  obtain ⟨y, HY⟩ : ∃ y : Int, Hid (beR b (14 + l) 4 = y) := ⟨_, rfl⟩
  rw [HX.out] at CS hlt HSA
  rw [HY.out] at HLE HSA
  have hi1 : (14 + li).toNat = 14 + l := by have := HLI.out; omega
  have hi2 : 14 + li ≤ (b.size : Int) := by have := HLI.out; omega
  have hi3 : 0 ≤ 14 + li := by omega
  have hw14 : IntKind.i64.wrap (14 + li) = 14 + li := by rw [IntKind.wrap_i64]; omega
  have hP : Hid (parseE b = if y = (x : Int) then 0 else 131) := by
    show _ = _
    unfold parseE
    rw [if_neg t0, if_neg (by simp [t1]), if_neg t2, if_neg t3, HN.out, if_neg t4, HL.out, if_neg (by omega), if_neg (by omega), if_neg (by omega), hb4, HY.out, HX.out]
    by_cases e : y = (x : Int)
    · rw [if_pos e, if_neg (by simp [e])]
    · rw [if_neg e, if_pos e]
  have HK : Hid (parseE b = 0 → parseK b = bt b 1 ∧ parseN b = n ∧ parseP b = b.extract 14 (14 + l)) := fun h => ⟨by rw [parseK, if_pos h], by rw [parseN, if_pos h, HN.out], by rw [parseP, if_pos h, hb4]⟩
  have k0 := bt_nonneg b 1
  have k1 := bt_le b 1
  have n2 : n ≤ 9223372036854775807 := by omega
  have z2 : 2 < b.size := by omega
  have z1 : 1 < b.size := by omega
  have zi1 : (1 : Int) < (b.size : Int) := by omega
  have hi4 : (14 : Int) ≤ 14 + li := by omega
  have hwn : IntKind.i64.wrap n = n := by rw [IntKind.wrap_i64]; omega
  have hwk : IntKind.i64.wrap (bt b 1) = bt b 1 := by rw [IntKind.wrap_i64]; omega
  by_cases t8 : y = (x : Int)
  · rw [if_pos t8] at hP
    obtain ⟨e1, e2, e3⟩ := HK.out hP.out
    rw [e1, e2, e3, hP.out]
    have g8 : ((str (lowB y 4)).toList == (str (lowB (x : Int) 4)).toList) = true := by rw [HSA.out]; simp [t8]
    obtain ⟨u1, HU1⟩ : ∃ u, Hid (str (lowB y 4) = u) := ⟨_, rfl⟩
    obtain ⟨u2, HU2⟩ : ∃ u, Hid (str (lowB (x : Int) 4) = u) := ⟨_, rfl⟩
    rw [HU1.out] at g8 HLE
    rw [HU2.out] at g8 CS
    have hle := HLE.out
    clear t0 t1 t2 t3 t4 t5 t6 t7 t8 e1 e2 e3 hh hlt HSA hz hb4
    go_enter Tryz.func52, Tryz.ntmps52
    go_upto_region 20 with (go_at_call 71; first | ((with_reducible refine (CA.out _).mono ?_); rintro _ _ ⟨rfl, hz⟩; rw [hz]; clear hz) | ((with_reducible refine (CB.out _).mono ?_); rintro _ _ ⟨rfl, hz⟩; rw [hz]; clear hz))
    go_region_with (go_at_call 69; refine (CS.out _).mono ?_; rintro _ w3 ⟨rfl, k3⟩; have B3 : Hid (Below w.heap.size w w3) := below2 (below_dr (Below.refl _ _)) k3 (Nat.le_refl _); clear k3)
    all_goals
      go_upto_region 22 with fail
      go_region
      go_wp2
      refine bodyPost_ret (by simp [results, Tryz.results52, go_sem]; try rfl) rfl ?_
      exact ⟨rfl, B3.out.drew⟩
  · rw [if_neg t8] at hP
    obtain ⟨e1, e2, e3, e4⟩ := no_parse b 131 hP.out (by omega)
    rw [e1, e2, e3, e4]
    have g8 : ((str (lowB y 4)).toList == (str (lowB (x : Int) 4)).toList) = false := by rw [HSA.out]; simp [t8]
    obtain ⟨u1, HU1⟩ : ∃ u, Hid (str (lowB y 4) = u) := ⟨_, rfl⟩
    obtain ⟨u2, HU2⟩ : ∃ u, Hid (str (lowB (x : Int) 4) = u) := ⟨_, rfl⟩
    rw [HU1.out] at g8 HLE
    rw [HU2.out] at g8 CS
    have hle := HLE.out
    clear t0 t1 t2 t3 t4 t5 t6 t7 t8 e1 e2 e3 e4 hh hlt HSA hz hb4
    go_enter Tryz.func52, Tryz.ntmps52
    go_upto_region 20 with (go_at_call 71; first | ((with_reducible refine (CA.out _).mono ?_); rintro _ _ ⟨rfl, hz⟩; rw [hz]; clear hz) | ((with_reducible refine (CB.out _).mono ?_); rintro _ _ ⟨rfl, hz⟩; rw [hz]; clear hz))
    go_region_with (go_at_call 69; refine (CS.out _).mono ?_; rintro _ w3 ⟨rfl, k3⟩; have B3 : Hid (Below w.heap.size w w3) := below2 (below_dr (Below.refl _ _)) k3 (Nat.le_refl _); clear k3)
    all_goals
      go_wp2
      refine bodyPost_ret (by simp [results, Tryz.results52, go_sem]; try rfl) rfl ?_
      exact ⟨rfl, B3.out⟩
end Go.Proofs.YtmindflfjocjlaaGreat.tdc

namespace Go.Proofs.YtmindflfjocjlaaGreat.tqd
open Go.RowKit Go.PlainAid
open Go.Proofs.YtmindflfjocjlaaGreat.na Go.Proofs.YtmindflfjocjlaaGreat.nb Go.Proofs.YtmindflfjocjlaaGreat.tpa Go.Proofs.YtmindflfjocjlaaGreat.tpd Go.Proofs.YtmindflfjocjlaaGreat.tpe Go.Proofs.YtmindflfjocjlaaGreat.tra Go.Proofs.YtmindflfjocjlaaGreat.trb Go.Proofs.YtmindflfjocjlaaGreat.tqa Go.Proofs.YtmindflfjocjlaaGreat.tqb
set_option linter.unusedVariables false
set_option linter.unusedSimpArgs false

set_option maxRecDepth 100000 in
theorem len8 (w : World) : Calls Tryz.prog 91 #[.int .u64 255] w fun e w' => e = .returned (.int .i64 8) ∧ w' = w := by
  go_enter Tryz.func91, Tryz.ntmps91
  go_wp2
  go_ret
  exact ⟨by kernel_rfl, rfl⟩
set_option maxRecDepth 100000 in
theorem len32 (w : World) : Calls Tryz.prog 91 #[.int .u64 4294967295] w fun e w' => e = .returned (.int .i64 32) ∧ w' = w := by
  go_enter Tryz.func91, Tryz.ntmps91
  go_wp2
  go_ret
  exact ⟨by kernel_rfl, rfl⟩
set_option maxRecDepth 100000 in
theorem len64 (w : World) : Calls Tryz.prog 91 #[.int .u64 18446744073709551615] w fun e w' => e = .returned (.int .i64 64) ∧ w' = w := by
  go_enter Tryz.func91, Tryz.ntmps91
  go_wp2
  go_ret
  exact ⟨by kernel_rfl, rfl⟩

theorem takeC (s : ByteArray) (c m : Nat) (w : World) (hs : s.size ≤ 281474976710656) (hc : c ≤ 9223372036854775807) (HM : Hid (min c s.size = m)) :
    Calls Tryz.prog 74 #[.agg #[.string s], .int .i64 c] w fun e w' => e = .returned (.tuple #[.string (s.extract 0 m), .agg #[.string (s.extract m s.size)]]) ∧ Below w.heap.size w w' := by
  have hm : m ≤ s.size := by have := HM.out; omega
  have hmi : min (c : Int) (s.size : Int) = (m : Int) := by have := HM.out; omega
  have hm0 : (0 : Int) ≤ (m : Int) := by omega
  have hm1 : (m : Int) ≤ (s.size : Int) := by omega
  go_enter Tryz.func74, Tryz.ntmps74
  go_upto_region 2 with fail
  go_region
  go_wp2
  refine bodyPost_ret (by simp [results, Tryz.results74, go_sem]; try rfl) rfl ?_
  exact ⟨rfl, (((Below.refl _ _).alloc (Nat.le_refl _) _).alloc (by simp) _).drew⟩
def nx (s : ByteArray) (n : Nat) : Int := if s.size < n then 0 else beR s 0 n
def cutL (s : ByteArray) (n : Nat) : ByteArray := s.extract (min n s.size) s.size
theorem nx_range (s : ByteArray) (n : Nat) : 0 ≤ nx s n ∧ nx s n < 256 ^ n := by
  unfold nx
  split
  · exact ⟨by omega, Int.pow_pos (by omega)⟩
  · exact ⟨beR_nonneg _ _ _, beR_lt _ _ _⟩
def nxE (s : ByteArray) (n : Nat) : Int := if s.size < n then 10 else 0
theorem beC (s : ByteArray) (n : Nat) (w : World) (hs : s.size ≤ 281474976710656) (h1 : 1 ≤ n) (h8 : n ≤ 8) : Calls Tryz.prog 92 #[.string (s.extract 0 (min n s.size)), .int .i64 0, .int .i64 n] w fun e w' => e = .returned (.tuple #[.int .u64 (nx s n), .int .i64 (nxE s n)]) ∧ w' = w := by
  have hz := ext_size s 0 (min n s.size)
  unfold nx nxE
  by_cases h : s.size < n
  · rw [if_pos h, if_pos h]
    exact be_range _ 0 n w (by omega) (by omega)
  · rw [if_neg h, if_neg h]
    have e : beR s 0 n = beR (s.extract 0 (min n s.size)) 0 n := (beR_ext s 0 (min n s.size) 0 n (by omega) (by omega)).symm
    rw [e]
    exact be_any _ 0 n w (by omega) h1 h8 (by omega)
theorem two_new {w w1 : World} {o1 o2 : Obj} (b : Below ((w.alloc o1).alloc o2).heap.size ((w.alloc o1).alloc o2) w1) : w1.heap[w.heap.size]? = some o1 ∧ w1.heap[w.heap.size + 1]? = some o2 := by
  refine ⟨(b.block _ (by simp; omega)).trans ?_, (b.block _ (by simp)).trans ?_⟩
  · rw [heap_alloc_old _ _ (by simp)]; exact heap_alloc_new w _
  · exact heap_alloc2_new w _ _
theorem two_below {w w1 : World} {o1 o2 : Obj} (b : Below ((w.alloc o1).alloc o2).heap.size ((w.alloc o1).alloc o2) w1) : Below w.heap.size w w1 :=
  (((Below.refl _ _).alloc (Nat.le_refl _) _).alloc (by simp) _).trans (b.mono (by simp; omega))
set_option maxHeartbeats 1600000 in
theorem next8C (s : ByteArray) (w : World) (hs : s.size ≤ 281474976710656) :
    Calls Tryz.prog 76 #[.agg #[.string s]] w fun e w' => e = .returned (.tuple #[.int .u8 (nx s 1), .agg #[.string (cutL s 1)]]) ∧ Below w.heap.size w w' := by
  have CL : Hid (∀ w, Calls _ _ _ _ _) := fun w => len8 w
  have CT : Hid (∀ w, Calls _ _ _ _ _) := fun w => takeC s 1 _ w hs (by omega) rfl
  have CB : Hid (∀ w, Calls _ _ _ _ _) := fun w => beC s 1 w hs (by omega) (by omega)
  have hr := nx_range s 1
  have h256 : (256 : Int) ^ 1 = 256 := by decide
  rw [h256] at hr
  have hr0 := hr.1
  have hr1 := hr.2
  have HXO : Hid (IntKind.u64.wrap (bits BinOp.xor IntKind.u8 IntKind.u8.max 0) = 255) := by show _ = _; decide +kernel
  obtain ⟨r, HR⟩ : ∃ r, Hid (cutL s 1 = r) := ⟨_, rfl⟩
  have HR' : Hid (s.extract (min 1 s.size) s.size = r) := HR.out
  obtain ⟨q, HQ⟩ : ∃ q, Hid (s.extract 0 (min 1 s.size) = q) := ⟨_, rfl⟩
  obtain ⟨x, HX⟩ : ∃ x, Hid (nx s 1 = x) := ⟨_, rfl⟩
  obtain ⟨y, HY⟩ : ∃ y, Hid (nxE s 1 = y) := ⟨_, rfl⟩
  rw [HQ.out, HR'.out] at CT
  rw [HQ.out, HX.out, HY.out] at CB
  rw [HX.out] at hr0 hr1 ⊢
  rw [HR.out]
  have hwr : IntKind.u8.wrap x = x := by rw [IntKind.wrap_u8]; omega
  clear hr h256 HR HR' HQ HX HY
  go_enter Tryz.func76, Tryz.ntmps76
  go_wp2_with fail
  rw [HXO.out]
  refine (CL.out _).mono ?_
  rintro _ _ ⟨rfl, hw⟩; rw [hw]; clear hw
  go_wp2_with fail
  refine (CT.out _).mono ?_
  rintro _ w1 ⟨rfl, b1⟩
  have B1 : Hid (Below w.heap.size w w1) := two_below b1
  obtain ⟨h0, h1⟩ := two_new b1
  clear b1
  have c0 : w1.cell? ⟨w.heap.size, 0, none⟩ = some (.string s) := by rw [cell_of_row _ _ _ _ _ _ h0]; rfl
  have f0 : w1.frozen? ⟨w.heap.size, 0, none⟩ = false := frozen_of_row _ _ _ _ _ h0
  have H1 : Hid _ := h1
  have H0 : Hid _ := heap_setCell_same w1 _ 0 _ _ (.string r) h0
  clear h0 h1
  go_wp2_with fail
  refine (CB.out _).mono ?_
  rintro _ _ ⟨rfl, hw⟩; rw [hw]; clear hw
  obtain ⟨w2, HW⟩ : ∃ w2, w2 = w1.setCell ⟨w.heap.size, 0, none⟩ (.string r) := ⟨_, rfl⟩
  have B2 : Hid (Below w.heap.size w w2) := by rw [HW]; exact B1.out.setCell (Nat.le_refl _) _
  have h1 : w2.heap[w.heap.size + 1]? = some (.cells #[.string ⟨#[]⟩] 114) := by rw [HW, Below.heap_setCell _ _ _ _ (by simp)]; exact H1.out
  have h0 : w2.heap[w.heap.size]? = some (.cells #[.string r] 114) := by rw [HW]; exact H0.out
  rw [← HW]
  clear HW c0 f0 H1 H0 B1
  have c0 : w2.cell? ⟨w.heap.size, 0, none⟩ = some (.string r) := by rw [cell_of_row _ _ _ _ _ _ h0]; rfl
  have c1 : w2.cell? ⟨w.heap.size + 1, 0, none⟩ = some (.string ⟨#[]⟩) := by rw [cell_of_row _ _ _ _ _ _ h1]; rfl
  have f1 : w2.frozen? ⟨w.heap.size + 1, 0, none⟩ = false := frozen_of_row _ _ _ _ _ h1
  have HF : Hid _ := heap_setCell_same w2 _ 0 _ _ (.string r) h1
  clear h0 h1
  go_upto_region 4 with fail
  go_region
  go_wp2
  have G : ((w2.setCell ⟨w.heap.size + 1, 0, none⟩ (.string r)).drew).cell? ⟨w.heap.size + 1, 0, none⟩ = some (.string r) := (cell_of_row _ _ 0 _ _ _ HF.out)
  refine bodyPost_ret (by simp [results, Tryz.results76, go_sem, G]; try rfl) rfl ?_
  exact ⟨rfl, (B2.out.setCell (by simp) _).drew⟩
set_option maxHeartbeats 1600000 in
theorem next32C (s : ByteArray) (w : World) (hs : s.size ≤ 281474976710656) :
    Calls Tryz.prog 95 #[.agg #[.string s]] w fun e w' => e = .returned (.tuple #[.int .u32 (nx s 4), .agg #[.string (cutL s 4)]]) ∧ Below w.heap.size w w' := by
  have CL : Hid (∀ w, Calls _ _ _ _ _) := fun w => len32 w
  have CT : Hid (∀ w, Calls _ _ _ _ _) := fun w => takeC s 4 _ w hs (by omega) rfl
  have CB : Hid (∀ w, Calls _ _ _ _ _) := fun w => beC s 4 w hs (by omega) (by omega)
  have hr := nx_range s 4
  have h256 : (256 : Int) ^ 4 = 4294967296 := by decide
  rw [h256] at hr
  have hr0 := hr.1
  have hr1 := hr.2
  have HXO : Hid (IntKind.u64.wrap (bits BinOp.xor IntKind.u32 IntKind.u32.max 0) = 4294967295) := by show _ = _; decide +kernel
  obtain ⟨r, HR⟩ : ∃ r, Hid (cutL s 4 = r) := ⟨_, rfl⟩
  have HR' : Hid (s.extract (min 4 s.size) s.size = r) := HR.out
  obtain ⟨q, HQ⟩ : ∃ q, Hid (s.extract 0 (min 4 s.size) = q) := ⟨_, rfl⟩
  obtain ⟨x, HX⟩ : ∃ x, Hid (nx s 4 = x) := ⟨_, rfl⟩
  obtain ⟨y, HY⟩ : ∃ y, Hid (nxE s 4 = y) := ⟨_, rfl⟩
  rw [HQ.out, HR'.out] at CT
  rw [HQ.out, HX.out, HY.out] at CB
  rw [HX.out] at hr0 hr1 ⊢
  rw [HR.out]
  have hwr : IntKind.u32.wrap x = x := by rw [IntKind.wrap_u32]; omega
  clear hr h256 HR HR' HQ HX HY
  go_enter Tryz.func95, Tryz.ntmps95
  go_wp2_with fail
  rw [HXO.out]
  refine (CL.out _).mono ?_
  rintro _ _ ⟨rfl, hw⟩; rw [hw]; clear hw
  go_wp2_with fail
  refine (CT.out _).mono ?_
  rintro _ w1 ⟨rfl, b1⟩
  have B1 : Hid (Below w.heap.size w w1) := two_below b1
  obtain ⟨h0, h1⟩ := two_new b1
  clear b1
  have c0 : w1.cell? ⟨w.heap.size, 0, none⟩ = some (.string s) := by rw [cell_of_row _ _ _ _ _ _ h0]; rfl
  have f0 : w1.frozen? ⟨w.heap.size, 0, none⟩ = false := frozen_of_row _ _ _ _ _ h0
  have H1 : Hid _ := h1
  have H0 : Hid _ := heap_setCell_same w1 _ 0 _ _ (.string r) h0
  clear h0 h1
  go_wp2_with fail
  refine (CB.out _).mono ?_
  rintro _ _ ⟨rfl, hw⟩; rw [hw]; clear hw
  obtain ⟨w2, HW⟩ : ∃ w2, w2 = w1.setCell ⟨w.heap.size, 0, none⟩ (.string r) := ⟨_, rfl⟩
  have B2 : Hid (Below w.heap.size w w2) := by rw [HW]; exact B1.out.setCell (Nat.le_refl _) _
  have h1 : w2.heap[w.heap.size + 1]? = some (.cells #[.string ⟨#[]⟩] 114) := by rw [HW, Below.heap_setCell _ _ _ _ (by simp)]; exact H1.out
  have h0 : w2.heap[w.heap.size]? = some (.cells #[.string r] 114) := by rw [HW]; exact H0.out
  rw [← HW]
  clear HW c0 f0 H1 H0 B1
  have c0 : w2.cell? ⟨w.heap.size, 0, none⟩ = some (.string r) := by rw [cell_of_row _ _ _ _ _ _ h0]; rfl
  have c1 : w2.cell? ⟨w.heap.size + 1, 0, none⟩ = some (.string ⟨#[]⟩) := by rw [cell_of_row _ _ _ _ _ _ h1]; rfl
  have f1 : w2.frozen? ⟨w.heap.size + 1, 0, none⟩ = false := frozen_of_row _ _ _ _ _ h1
  have HF : Hid _ := heap_setCell_same w2 _ 0 _ _ (.string r) h1
  clear h0 h1
  go_upto_region 4 with fail
  go_region
  go_wp2
  have G : ((w2.setCell ⟨w.heap.size + 1, 0, none⟩ (.string r)).drew).cell? ⟨w.heap.size + 1, 0, none⟩ = some (.string r) := (cell_of_row _ _ 0 _ _ _ HF.out)
  refine bodyPost_ret (by simp [results, Tryz.results95, go_sem, G]; try rfl) rfl ?_
  exact ⟨rfl, (B2.out.setCell (by simp) _).drew⟩
set_option maxHeartbeats 1600000 in
theorem next64C (s : ByteArray) (w : World) (hs : s.size ≤ 281474976710656) :
    Calls Tryz.prog 75 #[.agg #[.string s]] w fun e w' => e = .returned (.tuple #[.int .u64 (nx s 8), .agg #[.string (cutL s 8)]]) ∧ Below w.heap.size w w' := by
  have CL : Hid (∀ w, Calls _ _ _ _ _) := fun w => len64 w
  have CT : Hid (∀ w, Calls _ _ _ _ _) := fun w => takeC s 8 _ w hs (by omega) rfl
  have CB : Hid (∀ w, Calls _ _ _ _ _) := fun w => beC s 8 w hs (by omega) (by omega)
  have hr := nx_range s 8
  have h256 : (256 : Int) ^ 8 = 18446744073709551616 := by decide
  rw [h256] at hr
  have hr0 := hr.1
  have hr1 := hr.2
  have HXO : Hid (bits BinOp.xor IntKind.u64 IntKind.u64.max 0 = 18446744073709551615) := by show _ = _; decide +kernel
  obtain ⟨r, HR⟩ : ∃ r, Hid (cutL s 8 = r) := ⟨_, rfl⟩
  have HR' : Hid (s.extract (min 8 s.size) s.size = r) := HR.out
  obtain ⟨q, HQ⟩ : ∃ q, Hid (s.extract 0 (min 8 s.size) = q) := ⟨_, rfl⟩
  obtain ⟨x, HX⟩ : ∃ x, Hid (nx s 8 = x) := ⟨_, rfl⟩
  obtain ⟨y, HY⟩ : ∃ y, Hid (nxE s 8 = y) := ⟨_, rfl⟩
  rw [HQ.out, HR'.out] at CT
  rw [HQ.out, HX.out, HY.out] at CB
  rw [HX.out] at hr0 hr1 ⊢
  rw [HR.out]
  have hwr : IntKind.u64.wrap x = x := by exact u64_nonneg hr0 (by omega)
  clear hr h256 HR HR' HQ HX HY
  go_enter Tryz.func75, Tryz.ntmps75
  go_wp2_with fail
  rw [HXO.out]
  refine (CL.out _).mono ?_
  rintro _ _ ⟨rfl, hw⟩; rw [hw]; clear hw
  go_wp2_with fail
  refine (CT.out _).mono ?_
  rintro _ w1 ⟨rfl, b1⟩
  have B1 : Hid (Below w.heap.size w w1) := two_below b1
  obtain ⟨h0, h1⟩ := two_new b1
  clear b1
  have c0 : w1.cell? ⟨w.heap.size, 0, none⟩ = some (.string s) := by rw [cell_of_row _ _ _ _ _ _ h0]; rfl
  have f0 : w1.frozen? ⟨w.heap.size, 0, none⟩ = false := frozen_of_row _ _ _ _ _ h0
  have H1 : Hid _ := h1
  have H0 : Hid _ := heap_setCell_same w1 _ 0 _ _ (.string r) h0
  clear h0 h1
  go_wp2_with fail
  refine (CB.out _).mono ?_
  rintro _ _ ⟨rfl, hw⟩; rw [hw]; clear hw
  obtain ⟨w2, HW⟩ : ∃ w2, w2 = w1.setCell ⟨w.heap.size, 0, none⟩ (.string r) := ⟨_, rfl⟩
  have B2 : Hid (Below w.heap.size w w2) := by rw [HW]; exact B1.out.setCell (Nat.le_refl _) _
  have h1 : w2.heap[w.heap.size + 1]? = some (.cells #[.string ⟨#[]⟩] 114) := by rw [HW, Below.heap_setCell _ _ _ _ (by simp)]; exact H1.out
  have h0 : w2.heap[w.heap.size]? = some (.cells #[.string r] 114) := by rw [HW]; exact H0.out
  rw [← HW]
  clear HW c0 f0 H1 H0 B1
  have c0 : w2.cell? ⟨w.heap.size, 0, none⟩ = some (.string r) := by rw [cell_of_row _ _ _ _ _ _ h0]; rfl
  have c1 : w2.cell? ⟨w.heap.size + 1, 0, none⟩ = some (.string ⟨#[]⟩) := by rw [cell_of_row _ _ _ _ _ _ h1]; rfl
  have f1 : w2.frozen? ⟨w.heap.size + 1, 0, none⟩ = false := frozen_of_row _ _ _ _ _ h1
  have HF : Hid _ := heap_setCell_same w2 _ 0 _ _ (.string r) h1
  clear h0 h1
  go_upto_region 4 with fail
  go_region
  go_wp2
  have G : ((w2.setCell ⟨w.heap.size + 1, 0, none⟩ (.string r)).drew).cell? ⟨w.heap.size + 1, 0, none⟩ = some (.string r) := (cell_of_row _ _ 0 _ _ _ HF.out)
  refine bodyPost_ret (by simp [results, Tryz.results75, go_sem, G]; try rfl) rfl ?_
  exact ⟨rfl, (B2.out.setCell (by simp) _).drew⟩
end Go.Proofs.YtmindflfjocjlaaGreat.tqd
