import Derived.Test.YtgioekepoebibaaDa
namespace Go.Proofs.Ytgioekepoebibaa.db
open Go.RowKit Go.PlainAid
open Go.Proofs.Ytgioekepoebibaa.na Go.Proofs.Ytgioekepoebibaa.nb Go.Proofs.Ytgioekepoebibaa.pa Go.Proofs.Ytgioekepoebibaa.pb Go.Proofs.Ytgioekepoebibaa.pd Go.Proofs.Ytgioekepoebibaa.pe Go.Proofs.Ytgioekepoebibaa.pf Go.Proofs.Ytgioekepoebibaa.ra Go.Proofs.Ytgioekepoebibaa.rb Go.Proofs.Ytgioekepoebibaa.rq Go.Proofs.Ytgioekepoebibaa.qa Go.Proofs.Ytgioekepoebibaa.da
open Go.Proofs.Ytgioekepoebibaa.qb (over)
set_option linter.unusedVariables false
set_option linter.unusedSimpArgs false
theorem letterA : (⟨#[165]⟩ : ByteArray) = str [165] := rfl
set_option maxRecDepth 100000 in
set_option maxHeartbeats 6400000 in
theorem frameR (k n : Int) (p : ByteArray) (w : World) (k0 : 1 ≤ k) (k1 : k ≤ 255) (n0 : 0 ≤ n) (n1 : n ≤ 9223372036854775807) (hp : p.size ≤ 524288) :
    Calls Try.prog 16 #[.int .i64 k, .int .i64 n, .string p] w fun e w' => e = .returned (.tuple #[.string (frameT k n p), .int .i64 0]) ∧ Below w.heap.size w w' := by
  have C1 : Hid (∀ w, Calls _ _ _ _ _) := fun w => big8R n w n0 n1
  have C2 : Hid (∀ w, Calls _ _ _ _ _) := fun w => big4R (p.size : Int) w (by omega) (by omega)
  have hz1 : (str (lowB n 8)).size = 8 := by rw [str_size, lowB_length]
  have hz2 : (str (lowB (p.size : Int) 4)).size = 4 := by rw [str_size, lowB_length]
  have hz3 : (str [k]).size = 1 := str_size [k]
  have hz0 : (⟨#[165]⟩ : ByteArray).size = 1 := rfl
  have HB : Hid (bodyT k n p = ⟨#[165]⟩ ++ str [k] ++ str (lowB n 8) ++ str (lowB (p.size : Int) 4) ++ p) := by show _ = _; rw [letterA, bodyT, headT_parts]
  have hlt := crcF_lt (bodyT k n p)
  have hzb := bodyT_size k n p
  have CC : Hid (∀ w, Calls _ _ _ _ _) := fun w => sumR (bodyT k n p) w (by omega)
  have hz5 : (str (lowB ((crcF (bodyT k n p) : Nat) : Int) 4)).size = 4 := by rw [str_size, lowB_length]
  unfold frameT
  generalize str (lowB ((crcF (bodyT k n p) : Nat) : Int) 4) = t5 at *
  clear hlt
  obtain ⟨B, HBB⟩ : ∃ B, Hid (bodyT k n p = B) := ⟨_, rfl⟩
  rw [HBB.out] at HB CC hzb ⊢
  clear HBB
  have hcv := conv_one
  have hcv1 : (convert 33 9 (.slice (some ⟨w.heap.size, 0, none⟩) 1 1)).run Try.prog ((w.alloc (.cells #[.int .u8 k] 5)).drew) = .ok (.string (str [k])) ((w.alloc (.cells #[.int .u8 k] 5)).drew) := conv_one w.drew k
  have a1 := add_text (⟨#[165]⟩ : ByteArray) (str [k]) (by omega)
  have z1 : ((⟨#[165]⟩ : ByteArray) ++ str [k]).size = 2 := by rw [app_size]; omega
  have a2 := add_text ((⟨#[165]⟩ : ByteArray) ++ str [k]) (str (lowB n 8)) (by omega)
  have z2 : ((⟨#[165]⟩ : ByteArray) ++ str [k] ++ str (lowB n 8)).size = 10 := by rw [app_size]; omega
  have a3 := add_text ((⟨#[165]⟩ : ByteArray) ++ str [k] ++ str (lowB n 8)) (str (lowB (p.size : Int) 4)) (by omega)
  have z3 : ((⟨#[165]⟩ : ByteArray) ++ str [k] ++ str (lowB n 8) ++ str (lowB (p.size : Int) 4)).size = 14 := by rw [app_size]; omega
  have a4 := add_text ((⟨#[165]⟩ : ByteArray) ++ str [k] ++ str (lowB n 8) ++ str (lowB (p.size : Int) 4)) p (by omega)
  have hu : IntKind.u8.wrap k = k := by rw [IntKind.wrap_u8]; omega
  have KA : Hid (∀ w2, Below w.drew.heap.size w.drew w2 → Below w.heap.size w w2) := fun w2 h => below2 (below_dr (Below.refl _ _)) h (Nat.le_refl _)
  have KB : Hid (∀ w2, Below ((w.alloc (.cells #[.int .u8 k] 5)).drew).heap.size ((w.alloc (.cells #[.int .u8 k] 5)).drew) w2 → Below w.heap.size w w2) := fun w2 h => below2 (below_dr ((Below.refl _ _).alloc (Nat.le_refl _) _)) h (Nat.le_refl _)
  go_enter Try.func16, Try.ntmps16
  go_upto_region 5 with fail
  go_region_with (go_at_call 36; first
      | ((with_reducible refine (C1.out _).mono ?_); rintro _ w2 ⟨rfl, k2⟩; first
          | (have B2 : Hid (Below w.heap.size w w2) := KA.out _ k2; have hcv2 := conv_one w2 k; clear k2)
          | (have B2 : Hid (Below w.heap.size w w2) := KB.out _ k2; have c2 : Hid (w2.cell? ⟨w.heap.size, 0, none⟩ = some (.int .u8 k)) := cell_one w.drew w2 k k2; have hcv2 := conv_at w2 _ k c2.out; clear k2))
      | ((with_reducible refine (C2.out _).mono ?_); rintro _ w3 ⟨rfl, k3⟩; first
          | (have B3 : Hid (Below w.heap.size w w3) := below2 B2.out k3 (Nat.le_refl _); first
              | (have c3 : Hid (w3.cell? ⟨w.heap.size, 0, none⟩ = some (.int .u8 k)) := cell_kept _ w3 _ k k3 c2.out; have hcv3 := conv_at w3 _ k c3.out; clear k3)
              | (have hcv3 := conv_one w3 k; clear k3))
          | (have B3 : Hid (Below w.heap.size w w3) := below2 (B2.out.alloc B2.out.size _) k3 (Nat.le_refl _); have hcv3 := conv_at w3 _ k (cell_one w2 w3 k k3); clear k3)))
  all_goals (
    rw [← HB.out]
    go_wp2_with fail
    refine (CC.out _).mono ?_
    rintro _ w5 ⟨rfl, b5⟩
    have B5 : Hid (Below w.heap.size w w5) := by first | exact below2 B3.out b5 (Nat.le_refl _) | exact below2 (B3.out.alloc B3.out.size _) b5 (Nat.le_refl _)
    clear b5
    go_wp2
    go_ret2
    exact ⟨rfl, B5.out⟩)
theorem frameNoR (k n : Int) (p : ByteArray) (w : World) (h : ¬ (1 ≤ k ∧ k ≤ 255 ∧ 0 ≤ n)) :
    Calls Try.prog 16 #[.int .i64 k, .int .i64 n, .string p] w fun e w' => e = .returned (.tuple #[.string ByteArray.empty, .int .i64 10]) ∧ w' = w := by
  have : k < 1 ∨ (¬ k < 1 ∧ 255 < k) ∨ (¬ k < 1 ∧ ¬ 255 < k ∧ n < 0) := by omega
  clear h
  rcases this with h1 | ⟨h1, h2⟩ | ⟨h1, h2, h3⟩
  all_goals
    go_enter Try.func16, Try.ntmps16
    go_wp2
    go_ret2
    exact ⟨rfl, rfl⟩
theorem frameBigR (k n : Int) (p : ByteArray) (w : World) (k0 : 1 ≤ k) (k1 : k ≤ 255) (n0 : 0 ≤ n) (hp : 524288 < p.size) :
    Calls Try.prog 16 #[.int .i64 k, .int .i64 n, .string p] w fun e w' => e = .returned (.tuple #[.string ByteArray.empty, .int .i64 121]) ∧ w' = w := by
  have h1 : ¬ k < 1 := by omega
  have h2 : ¬ 255 < k := by omega
  have h3 : ¬ n < 0 := by omega
  have hp' : (524288 : Int) < p.size := by omega
  go_enter Try.func16, Try.ntmps16
  go_wp2
  go_ret2
  exact ⟨rfl, rfl⟩
end Go.Proofs.Ytgioekepoebibaa.db
