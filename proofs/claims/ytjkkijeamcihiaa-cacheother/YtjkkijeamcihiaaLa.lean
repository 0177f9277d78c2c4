import Derived.Test.YtjkkijeamcihiaaLz
import Derived.Laws.Strings2
namespace Go.Proofs.Ytjkkijeamcihiaa.la
open Go.RowKit Go.PlainAid Go.Maps
open Go.Proofs.Ytjkkijeamcihiaa.cp Go.Proofs.Ytjkkijeamcihiaa.kp Go.Proofs.Ytjkkijeamcihiaa.ka
set_option linter.unusedVariables false
set_option linter.unusedSimpArgs false
-- a number's digits
def dg (u : Nat) : List Nat := if u < 10 then [u] else dg (u / 10) ++ [u % 10]
termination_by u
decreasing_by omega
theorem dg_one {u : Nat} (h : u < 10) : dg u = [u] := by rw [dg, if_pos h]
theorem dg_more {u : Nat} (h : ¬ u < 10) : dg u = dg (u / 10) ++ [u % 10] := by rw [dg, if_neg h]
theorem dg_len (n : Nat) : ∀ u, u < 10 ^ (n + 1) → (dg u).length ≤ n + 1 := by
  induction n with
  | zero => intro u hu; rw [dg_one (by simpa using hu)]; simp
  | succ n ih =>
    intro u hu
    by_cases h : u < 10
    · rw [dg_one h]; simp
    · rw [dg_more h, List.length_append]
      have := ih (u / 10) (by rw [Nat.pow_succ] at hu; omega)
      simp only [List.length_singleton]
      omega
def txt (l : List Nat) : ByteArray := ⟨(l.map fun d => UInt8.ofNat (48 + d)).toArray⟩
theorem txt_app (a b : List Nat) : txt a ++ txt b = txt (a ++ b) := by
  unfold txt
  apply ByteArray.ext
  simp [ByteArray.data_append]
theorem txt_size (l : List Nat) : (txt l).size = l.length := by simp [txt, ByteArray.size]
def C10 : ByteArray := ⟨#[48, 49, 50, 51, 52, 53, 54, 55, 56, 57]⟩
theorem c10 : ∀ d, d < 10 → C10.extract d (d + 1) = txt [d] := by decide +kernel
def un (n : Int) : Nat := (n % 18446744073709551616).toNat
def digS (n : Int) : ByteArray := ⟨#[107]⟩ ++ txt (dg (un n))
theorem digS_size (n : Int) : (digS n).size ≤ 30 := by
  have h : un n < 10 ^ (19 + 1) := by unfold un; omega
  have := dg_len 19 _ h
  unfold digS
  rw [ByteArray.size_append, txt_size]
  show 1 + _ ≤ 30
  omega
theorem digS_ok (n : Int) : (digS n).size ≤ maxLen := Nat.le_trans (digS_size n) (by unfold maxLen; omega)
theorem sl10 (w : World) (x : Int) (h0 : 0 ≤ x) (h1 : x ≤ 9) : (Instr.slice 9 (.string ⟨#[48, 49, 50, 51, 52, 53, 54, 55, 56, 57]⟩) (some (.int .u64 x)) (some (.int .u64 (x + 1))) none).run Try.prog w = .ok (.string (txt [x.toNat])) w := by
  have h := run_slice_string (P := Try.prog) w 9 C10 .u64 .u64 x (x + 1) Try.underlying9 h0 (by omega) (by show x + 1 ≤ 10; omega)
  rw [show (x + 1).toNat = x.toNat + 1 by omega, c10 _ (by omega)] at h
  exact h
theorem digitsC (n : Int) (w : World) : Calls Try.prog 14 #[.int .i64 n] w fun e w' => e = .returned (.string (digS n)) ∧ w' = w := by
  have hu : un n < 18446744073709551616 := by unfold un; omega
  have HU : IntKind.u64.wrap n = ((un n : Nat) : Int) := by rw [IntKind.wrap_u64]; unfold un; omega
  have HD : Hid (digS n = ⟨#[107]⟩ ++ txt (dg (un n))) := rfl
  obtain ⟨u0, HU0⟩ : ∃ u, Hid (un n = u) := ⟨_, rfl⟩
  rw [HU0.out] at hu HU HD
  have HL : Hid ((dg u0).length ≤ 20) := dg_len 19 _ (by show u0 < 10 ^ 20; omega)
  have hui : (0 : Int) ≤ (u0 : Int) ∧ (u0 : Int) ≤ 18446744073709551615 := by omega
  obtain ⟨y0, HY0⟩ : ∃ y : Int, Hid ((u0 : Int) = y) := ⟨_, rfl⟩
  rw [HY0.out] at HU hui
  have HT0 : Hid (y0.toNat = u0) := by show _ = _; rw [← HY0.out]; exact Int.toNat_natCast _
  clear hu
  go_enter Try.func14, Try.ntmps14
  go_wp2
  go_loopw [3, 4] (fun sv uv wr => ∃ (x : Int) (acc : List Nat), 0 ≤ x ∧ x ≤ 18446744073709551615 ∧ uv = .int .u64 x ∧ sv = .string (txt acc) ∧ Hid (dg x.toNat ++ acc = dg u0) ∧ w = wr) (fun _ uv _ => (intOf uv).toNat)
  case atStart => exact ⟨y0, [], hui.1, hui.2, rfl, rfl, by show _ = _; rw [HT0.out, List.append_nil], rfl⟩
  case round =>
    obtain ⟨x, acc, hx0, hx1, rfl, rfl, HA, rfl⟩ := hrel
    have hal : (txt acc).size ≤ 20 := by
      rw [txt_size]
      have := congrArg List.length HA.out
      rw [List.length_append] at this
      have := HL.out
      omega
    by_cases h : x ≤ 9
    · have hsl := fun w => sl10 w x hx0 h
      have hx : (txt [x.toNat]).size = 1 := by rw [txt_size]; rfl
      have HE : Hid ((⟨#[107]⟩ : ByteArray) ++ txt [x.toNat] ++ txt acc = digS n) := by
        show _ = _
        rw [HD.out, ← HA.out, dg_one (by omega), ByteArray.append_assoc, txt_app]
      go_wp2
      go_ret
      exact ⟨by rw [← HE.out]; rfl, rfl⟩
    · have h1 : x > 9 := by omega
      have h10 : x % 10 < 10 := by omega
      have h11 : 0 ≤ x % 10 := by omega
      have h12 : x / 10 < x := by omega
      have hsl := fun w => sl10 w (x % 10) h11 (by omega)
      have hx : (txt [(x % 10).toNat]).size = 1 := by rw [txt_size]; rfl
      go_wp2
      go_roundw
      case rel =>
        refine ⟨x / 10, (x % 10).toNat :: acc, by omega, by omega, rfl, ?_, ?_, trivial⟩
        · rw [txt_app]; rfl
        · show _ = _
          rw [← HA.out, dg_more (u := x.toNat) (by omega), List.append_assoc, show x.toNat / 10 = (x / 10).toNat by omega, show x.toNat % 10 = (x % 10).toNat by omega]
          rfl
      case measure => show (x / 10).toNat < x.toNat; omega
def pickS (k n : Int) : Int := if k.tmod n < 0 then k.tmod n + n else k.tmod n
theorem pick_in (k : Int) {n : Int} (h : 0 < n) : 0 ≤ pickS k n ∧ pickS k n < n := by
  unfold pickS
  have h1 := Int.tmod_lt_of_pos k h
  have h2 : -n < k.tmod n := by
    have := Int.tmod_lt_of_pos (-k) h
    rw [Int.neg_tmod] at this
    omega
  split <;> omega
theorem pickC (k n : Int) (hk : -9223372036854775808 ≤ k) (hk' : k ≤ 9223372036854775807) (hn : 0 < n) (hn' : n ≤ 1000000) (w : World) : Calls Try.prog 13 #[.int .i64 k, .int .i64 n] w fun e w' => e = .returned (.int .i64 (pickS k n)) ∧ w' = w := by
  have h1 := Int.tmod_lt_of_pos k hn
  have h2 : -n < k.tmod n := by
    have := Int.tmod_lt_of_pos (-k) hn
    rw [Int.neg_tmod] at this
    omega
  unfold pickS
  obtain ⟨r, HR⟩ : ∃ r, k.tmod n = r := ⟨_, rfl⟩
  rw [HR] at h1 h2 ⊢
  have hw : IntKind.i64.wrap r = r := by rw [IntKind.wrap_i64]; omega
  have hne : n ≠ 0 := by omega
  by_cases h : r < 0
  · rw [if_pos h]
    go_enter Try.func13, Try.ntmps13
    go_wp2
    go_ret
    exact ⟨rfl, rfl⟩
  · rw [if_neg h]
    go_enter Try.func13, Try.ntmps13
    go_wp2
    go_ret
    exact ⟨rfl, rfl⟩
end Go.Proofs.Ytjkkijeamcihiaa.la
