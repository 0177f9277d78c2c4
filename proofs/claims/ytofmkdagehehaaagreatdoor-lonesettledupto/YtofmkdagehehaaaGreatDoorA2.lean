import Derived.Lib.BitFns
import Derived.Lib.TrailingZeros
import Derived.PlainAid
import Derived.Laws.BitsAllLaws
import Derived.WalkKit
import Derived.Test.YtofmkdagehehaaaGreatDoorA1
import Derived.Test.YtofmkdagehehaaaGreatDoorProg
import Derived.WalkSpells
import Derived.Deep.RegionHeld3
import Derived.Handy
namespace Go.Proofs.YtofmkdagehehaaaGreatDoor.xa
open Go.Lib Go.Proofs.YtofmkdagehehaaaGreatDoor.ca
set_option linter.unusedVariables false

theorem bitLen_zero : Lib.bitLen 0 = 0 := by decide

theorem bitLen_lt : ∀ (f x : Nat), x < 2 ^ f → f ≤ 64 → x < 2 ^ Lib.bitLen x ∧ (x ≠ 0 → 2 ^ (Lib.bitLen x - 1) ≤ x ∧ 1 ≤ Lib.bitLen x)
  | 0, x, h, _ => by
    have : x = 0 := by simpa using h
    subst this
    rw [bitLen_zero]; exact ⟨by decide, fun h => absurd rfl h⟩
  | f + 1, x, h, hf => by
    by_cases hx : x = 0
    · subst hx; rw [bitLen_zero]; exact ⟨by decide, fun h => absurd rfl h⟩
    · have hp := Nat.pow_le_pow_right (n := 2) (by omega) hf
      have e := Lib.bitLen_half x hx (Nat.lt_of_lt_of_le h hp)
      have ih := bitLen_lt f (x / 2) (by rw [Nat.pow_succ] at h; omega) (by omega)
      rw [e]
      refine ⟨?_, fun _ => ⟨?_, by omega⟩⟩
      · rw [Nat.add_comm, Nat.pow_succ]; omega
      · by_cases h2 : x / 2 = 0
        · rw [h2, bitLen_zero]; simp; omega
        · obtain ⟨h3, h4⟩ := ih.2 h2
          obtain ⟨l, hl⟩ : ∃ l, Lib.bitLen (x / 2) = l + 1 := ⟨Lib.bitLen (x / 2) - 1, by omega⟩
          rw [hl] at h3 ⊢
          rw [show 1 + (l + 1) - 1 = l + 1 by omega, Nat.pow_succ]
          rw [show l + 1 - 1 = l by omega] at h3
          omega

theorem len_spec (x : Nat) (h : x < 18446744073709551616) : x < 2 ^ Lib.bitLen x ∧ (x ≠ 0 → 2 ^ (Lib.bitLen x - 1) ≤ x ∧ 1 ≤ Lib.bitLen x) :=
  bitLen_lt 64 x h (by omega)

theorem len_le63 (x : Nat) (h : x ≤ 9223372036854775807) : Lib.bitLen x ≤ 63 := bitLenAux_le 64 x 63 (by omega)

theorem bits_out (x : Int) (h : x ≤ 0) : Lib.bitLen x.toNat = 0 := by
  rw [show x.toNat = 0 by omega]; exact bitLen_zero

theorem ctz_spec (x : Nat) (h0 : 0 < x) (h : x < 9223372036854775808) : ∃ m, x = 2 ^ ctz 64 x * (2 * m + 1) ∧ ctz 64 x ≤ 62 := by
  have hx : x ≠ 0 := by omega
  obtain ⟨m, hm, hk⟩ := ctzFrom_spec 64 x h0 (by omega)
  have e : ctz 64 x = ctzFrom 64 x := by unfold ctz; rw [if_neg hx]
  rw [e]
  refine ⟨m, hm, ?_⟩
  apply Nat.le_of_not_lt
  intro hlt
  have hp := Nat.pow_le_pow_right (n := 2) (by omega) (show 63 ≤ ctzFrom 64 x by omega)
  have e63 : (2 : Nat) ^ 63 = 9223372036854775808 := by decide
  have : 2 ^ ctzFrom 64 x ≤ x := by
    conv => rhs; rw [hm]
    exact Nat.le_mul_of_pos_right _ (by omega)
  omega

-- the noughts behind p, as the program counts them
def zer (p : Nat) : Nat := if p = 0 then 63 else ctz 64 p
theorem level (p d : Nat) (hp : p < 9223372036854775808) (h0 : 0 < d) (hd : d ≤ 4611686018427387904) : Lv p d (min (zer p) (Lib.bitLen d - 1)) ∧ 1 ≤ Lib.bitLen d ∧ Lib.bitLen d ≤ 63 ∧ zer p ≤ 63 := by
  obtain ⟨l1, l2⟩ := len_spec d (by omega)
  obtain ⟨l3, l4⟩ := l2 (by omega)
  have l5 := len_le63 d (by omega)
  obtain ⟨b, hb⟩ : ∃ b, Lib.bitLen d = b + 1 := ⟨Lib.bitLen d - 1, by omega⟩
  rw [hb] at l1 l3 l5 ⊢
  rw [Nat.add_sub_cancel] at l3 ⊢
  have key : 2 ^ min (zer p) b ∣ p ∧ (zer p < b → ¬ 2 ^ (zer p + 1) ∣ p) ∧ zer p ≤ 63 := by
    unfold zer
    split
    · rename_i h
      subst h
      exact ⟨Nat.dvd_zero _, fun h => by omega, by omega⟩
    · rename_i h
      obtain ⟨m, hm, hk⟩ := ctz_spec p (by omega) hp
      refine ⟨?_, fun _ => ?_, by omega⟩
      · refine Nat.dvd_trans (p2dvd (Nat.min_le_left _ _)) ?_
        exact ⟨_, hm⟩
      · rintro ⟨c, hc⟩
        rw [p2s] at hc
        have e : 2 ^ ctz 64 p * (2 * m + 1) = 2 ^ ctz 64 p * (2 * c) := by
          rw [← hm]
          conv => lhs; rw [hc]
          rw [Nat.mul_comm 2 (2 ^ ctz 64 p), Nat.mul_assoc]
        have := Nat.eq_of_mul_eq_mul_left (p2 _) e
        omega
  have hmin : min (zer p) b ≤ b := Nat.min_le_right _ _
  refine ⟨⟨by omega, key.1, Nat.le_trans (p2le hmin) l3, ?_⟩, by omega, l5, key.2.2⟩
  rcases Nat.lt_or_ge (zer p) b with e | e
  · rw [Nat.min_eq_left (by omega)]
    exact .inr (.inl (key.2.1 e))
  · rw [Nat.min_eq_right e]
    exact .inr (.inr l1)
end Go.Proofs.YtofmkdagehehaaaGreatDoor.xa

namespace Go.Proofs.YtofmkdagehehaaaGreatDoor.xb
open Go.RowKit Go.PlainAid
set_option linter.unusedVariables false

theorem ret_i64 {a b : Int} (h : a = b) : Ending.returned (.int .i64 a) = .returned (.int .i64 b) := by rw [h]

theorem bt_len8 (k : Nat) (h : k < 256) : bt Lib.len8tab k = Lib.bitLen k := by
  have key : ∀ n : Fin 256, bt Lib.len8tab n.val = Lib.bitLen n.val := by decide +kernel
  exact key ⟨k, h⟩

theorem sh (x : Int) (k : Nat) (y n : Int) (h0 : 0 ≤ x) (h1 : x ≤ 18446744073709551615) (hy : y = x / 2 ^ k) (hk : 2 ^ k ≤ x.toNat) (hn : n = k) (hk' : k ≤ 64) (hb : y ≤ 255) (hy0 : 0 ≤ y) :
    wrap64 (n + wrap64 (bt Lib.len8tab y.toNat)) = Lib.bitLen x.toNat := by
  have e : y.toNat = x.toNat / 2 ^ k := by
    subst hy
    obtain ⟨m, rfl⟩ := Int.eq_ofNat_of_zero_le h0
    simp only [Int.toNat_natCast]
    have : ((m : Int) / 2 ^ k) = ((m / 2 ^ k : Nat) : Int) := by simp
    rw [this, Int.toNat_natCast]
  have l := Lib.bitLen_le8' y hy0 hb
  rw [bt_len8 y.toNat (by omega), Lib.bitLen_shift k x.toNat hk (by omega), hn, ← e, IntWalk.wrap64_in (Lib.bitLen y.toNat) ⟨by omega, by omega⟩, IntWalk.wrap64_in _ ⟨by omega, by omega⟩]
  omega

theorem sh0 (x : Int) (h0 : 0 ≤ x) (hb : x ≤ 255) : wrap64 (wrap64 (bt Lib.len8tab x.toNat)) = Lib.bitLen x.toNat := by
  have l := Lib.bitLen_le8' x h0 hb
  rw [bt_len8 x.toNat (by omega), IntWalk.wrap64_in (Lib.bitLen x.toNat) ⟨by omega, by omega⟩, IntWalk.wrap64_in _ ⟨by omega, by omega⟩]

set_option maxHeartbeats 1600000 in
set_option maxRecDepth 100000 in
theorem len_any (x : Int) (w : World) (h0 : 0 ≤ x) (h1 : x ≤ 18446744073709551615) :
    Calls Tryz.prog 186 #[.int .u64 x] w fun e w' => e = .returned (.int .i64 (Lib.bitLen x.toNat)) ∧ w' = w := by
  have hsz : Lib.len8tab.size = 256 ∧ True := ⟨Lib.len8tab_size, trivial⟩
  have hbt := get_bt Lib.len8tab
  go_enter Tryz.func186, Tryz.ntmps186
  go_wp2
  all_goals
    go_ret
    refine ⟨ret_i64 ?_, rfl⟩
    first
      | exact sh x 56 _ _ h0 h1 (by omega) (by omega) (by omega) (by omega) (by omega) (by omega)
      | exact sh x 48 _ _ h0 h1 (by omega) (by omega) (by omega) (by omega) (by omega) (by omega)
      | exact sh x 40 _ _ h0 h1 (by omega) (by omega) (by omega) (by omega) (by omega) (by omega)
      | exact sh x 32 _ _ h0 h1 (by omega) (by omega) (by omega) (by omega) (by omega) (by omega)
      | exact sh x 24 _ _ h0 h1 (by omega) (by omega) (by omega) (by omega) (by omega) (by omega)
      | exact sh x 16 _ _ h0 h1 (by omega) (by omega) (by omega) (by omega) (by omega) (by omega)
      | exact sh x 8 _ _ h0 h1 (by omega) (by omega) (by omega) (by omega) (by omega) (by omega)
      | exact sh0 x h0 (by omega)
end Go.Proofs.YtofmkdagehehaaaGreatDoor.xb

namespace Go.Proofs.YtofmkdagehehaaaGreatDoor.va
open Go.RowKit Go.PlainAid
open Go.Proofs.YtofmkdagehehaaaGreatDoor.ca Go.Proofs.YtofmkdagehehaaaGreatDoor.cp Go.Proofs.YtofmkdagehehaaaGreatDoor.cu Go.Proofs.YtofmkdagehehaaaGreatDoor.cq
set_option linter.unusedVariables false

set_option maxHeartbeats 800000 in
theorem valid (L I : Int) (w : World) :
    Calls Tryz.prog 137 #[.agg #[.int .i64 L, .int .i64 I]] w fun e w' => e = .returned (.bool (decide (okA L I))) ∧ Below w.heap.size w w' := by
  obtain ⟨r, HR⟩ : ∃ r, Hid (decide (okA L I) = r) := ⟨_, rfl⟩
  rw [HR.out]
  have B0 : Hid (Below w.heap.size w (w.alloc (.cells #[.int .i64 L, .int .i64 I] 38))) := (Below.refl _ _).alloc (Nat.le_refl _) _
  have HF : ¬ okA L I → Hid (r = false) := fun h => by show _ = _; rw [← HR.out]; exact decide_eq_false h
  by_cases a1 : L < 0
  · have HV : Hid (r = false) := HF (fun h => by have := h.1; omega)
    clear HF
    go_enter Tryz.func137, Tryz.ntmps137
    go_wp2
    go_ret
    exact ⟨by rw [HV.out]; rfl, B0.out⟩
  · by_cases a2 : L > 62
    · have HV : Hid (r = false) := HF (fun h => by have := h.2.1; omega)
      clear HF
      go_enter Tryz.func137, Tryz.ntmps137
      go_wp2
      go_ret
      exact ⟨by rw [HV.out]; rfl, B0.out⟩
    · by_cases a3 : 0 ≤ I
      · obtain ⟨k, rfl⟩ : ∃ k : Nat, L = k := ⟨L.toNat, by omega⟩
        have hk : k ≤ 62 := by omega
        obtain ⟨t, HT⟩ : ∃ t : Nat, Hid (2 ^ k = t) := ⟨_, rfl⟩
        have hT : (2 : Int) ^ k = (t : Int) := by rw [cast_pow, HT.out]
        have HV : Hid (r = decide (I < 4611686018427387904 / (t : Int))) := by
          show _ = _
          rw [← HR.out]
          refine decide_eq_decide.2 ?_
          unfold okA
          rw [Int.toNat_natCast, hT]
          omega
        have hw3 : min (k : Int).toNat 64 = k := by omega
        have hw4 : min k 64 = k := by omega
        clear HF
        go_enter Tryz.func137, Tryz.ntmps137
        go_wp2_with fail
        go_quiet (fail)
        go_wp2
        go_ret
        exact ⟨by rw [HV.out]; rfl, below_dN B0.out _⟩
      · have HV : Hid (r = false) := HF (fun h => by have := h.2.2.1; omega)
        have a4 : decide (0 ≤ I) = false := decide_eq_false a3
        clear HF
        go_enter Tryz.func137, Tryz.ntmps137
        go_wp2_with fail
        go_quiet (fail)
        go_wp2
        go_ret
        exact ⟨by rw [HV.out]; rfl, below_dN B0.out _⟩
theorem validC : ValidC := fun L I _ _ w => valid L I w
set_option maxHeartbeats 800000 in
theorem span (L I : Int) (w : World) :
    Calls Tryz.prog 86 #[.agg #[.int .i64 L, .int .i64 I]] w fun e w' => e = .returned (spV L I) ∧ Below w.heap.size w w' := by
  have V1 : Hid (∀ w, Calls _ _ _ _ _) := fun w => valid L I w
  by_cases hok : okA L I
  · obtain ⟨k, i, rfl, rfl, hk, hf⟩ := okA_form hok
    rw [decide_eq_true hok] at V1
    rw [spV_nat hok]
    have HX : Hid (Bx (w.alloc (.cells #[.int .i64 (k : Int), .int .i64 (i : Int)] 38)) w.heap.size k i) := bx_new _ _ _
    obtain ⟨f, HF⟩ : ∃ f, Hid (i * 2 ^ k = f) := ⟨_, rfl⟩
    obtain ⟨g, HG⟩ : ∃ g, Hid ((i + 1) * 2 ^ k = g) := ⟨_, rfl⟩
    rw [HF.out, HG.out]
    rw [HG.out] at hf
    clear hok
    go_enter Tryz.func86, Tryz.ntmps86
    go_wp2_with fail
    refine (V1.out _).mono ?_
    rintro e w1 ⟨rfl, hb⟩
    have B1 : Hid (Below w.heap.size w w1) := over ((Below.refl _ _).alloc (Nat.le_refl _) _) hb
    obtain ⟨c1, c2⟩ := HX.out.later hb
    have him : i ≤ 4611686018427387904 := by
      have := Nat.le_mul_of_pos_right (i + 1) (p2 k)
      rw [HG.out] at this
      omega
    have hfg : f ≤ g := by rw [← HF.out, ← HG.out]; exact Nat.mul_le_mul_right _ (by omega)
    have hw2 : IntKind.u64.wrap (k : Int) = k := u64_is k (by omega)
    have hw3 : min (k : Int).toNat 64 = k := by omega
    have hw4 : min k 64 = k := by omega
    have hw5 : IntKind.i64.wrap ((i : Int) * 2 ^ k) = f := by rw [cast_pow, ← Int.natCast_mul, HF.out]; exact wrap_is f (by omega)
    have hw6 : IntKind.i64.wrap ((i : Int) + 1) = (i : Int) + 1 := by rw [IntKind.wrap_i64]; omega
    have hw7 : IntKind.i64.wrap (((i : Int) + 1) * 2 ^ k) = g := by rw [cast_pow, show (i : Int) + 1 = ((i + 1 : Nat) : Int) by omega, ← Int.natCast_mul, HG.out]; exact wrap_is g (by omega)
    clear hb
    go_wp2_with fail
    go_quiet (fail)
    go_wp2
    go_returns
    exact ⟨rfl, below_dN B1.out _⟩
  · rw [decide_eq_false hok] at V1
    rw [show spV L I = .tuple #[.int .i64 0, .int .i64 0, .int .i64 50] by unfold spV; rw [if_neg hok]]
    clear hok
    go_enter Tryz.func86, Tryz.ntmps86
    go_wp2_with fail
    refine (V1.out _).mono ?_
    rintro e w1 ⟨rfl, hb⟩
    have B1 : Hid (Below w.heap.size w w1) := over ((Below.refl _ _).alloc (Nat.le_refl _) _) hb
    clear hb
    go_wp2
    go_returns
    exact ⟨rfl, B1.out⟩
theorem spanC : SpanC := fun L I _ _ w => span L I w
end Go.Proofs.YtofmkdagehehaaaGreatDoor.va
