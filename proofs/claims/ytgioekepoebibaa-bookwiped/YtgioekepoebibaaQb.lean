import Derived.Test.YtgioekepoebibaaQa
import Derived.RowKit3
import Derived.WalkLawsBesides
import Derived.Laws.Strings2
namespace Go.Proofs.Ytgioekepoebibaa.qb
open Go.RowKit Go.PlainAid
open Go.Proofs.Ytgioekepoebibaa.na Go.Proofs.Ytgioekepoebibaa.nb Go.Proofs.Ytgioekepoebibaa.pa Go.Proofs.Ytgioekepoebibaa.pd Go.Proofs.Ytgioekepoebibaa.ra Go.Proofs.Ytgioekepoebibaa.rb Go.Proofs.Ytgioekepoebibaa.qa
set_option linter.unusedVariables false

theorem over {w w1 w2 : World} (h : Below w.heap.size w w1) (b : Below w1.heap.size w1 w2) : Below w.heap.size w w2 := h.trans (b.mono h.size)
theorem conv_one (W : World) (c : Int) :
    (convert 33 9 (.slice (some ⟨W.heap.size, 0, none⟩) 1 1)).run Try.prog (W.alloc (.cells #[.int .u8 c] 5)) = .ok (.string (str [c])) (W.alloc (.cells #[.int .u8 c] 5)) :=
  conv_row [c] W 1 rfl
theorem isKindC (k : Int) (w : World) : Calls Try.prog 27 #[.int .i64 k] w fun e w' => e = .returned (.bool (decide (1 ≤ k ∧ k ≤ 255))) ∧ w' = w := by
  by_cases h1 : 1 ≤ k
  · by_cases h2 : k ≤ 255
    · rw [decide_eq_true ⟨h1, h2⟩]
      go_enter Try.func27, Try.ntmps27
      go_wp2
      go_ret
      exact ⟨rfl, rfl⟩
    · rw [decide_eq_false (fun h => h2 h.2)]
      go_enter Try.func27, Try.ntmps27
      go_wp2
      go_ret
      exact ⟨rfl, rfl⟩
  · rw [decide_eq_false (fun h => h1 h.1)]
    go_enter Try.func27, Try.ntmps27
    go_wp2
    go_ret
    exact ⟨rfl, rfl⟩
theorem oneByteC (v : Int) (w : World) (h0 : 0 ≤ v) (h1 : v ≤ 255) : Calls Try.prog 30 #[.int .i64 v] w fun e w' => e = .returned (.string (str [v])) ∧ Below w.heap.size w w' := by
  have hcv := conv_one w v
  have hw : IntKind.u8.wrap v = v := by rw [IntKind.wrap_u8]; omega
  go_enter Try.func30, Try.ntmps30
  go_wp2
  go_ret
  exact ⟨rfl, (Below.refl _ _).alloc (Nat.le_refl _) _⟩
theorem put8 (v : Int) (w : World) (h0 : 0 ≤ v) (h1 : v ≤ 18446744073709551615) :
    Calls Try.prog 53 #[.int .u64 v, .int .i64 8] w fun e w' => e = .returned (.tuple #[.string (str (lowB v 8)), .int .i64 0]) ∧ Below w.heap.size w w' :=
  (put_any v 8 w (by omega) (by omega) (fit8 v h0 h1)).mono (by rintro e w' ⟨rfl, rfl⟩; exact ⟨rfl, (Below.refl _ _).alloc (Nat.le_refl _) _⟩)
theorem put4 (v : Int) (w : World) (h0 : 0 ≤ v) (h1 : v < 4294967296) :
    Calls Try.prog 53 #[.int .u64 v, .int .i64 4] w fun e w' => e = .returned (.tuple #[.string (str (lowB v 4)), .int .i64 0]) ∧ Below w.heap.size w w' :=
  (put_any v 4 w (by omega) (by omega) (fit4 v h0 h1)).mono (by rintro e w' ⟨rfl, rfl⟩; exact ⟨rfl, (Below.refl _ _).alloc (Nat.le_refl _) _⟩)
theorem big8C (v : Int) (w : World) (h0 : 0 ≤ v) (h1 : v ≤ 9223372036854775807) : Calls Try.prog 29 #[.int .i64 v] w fun e w' => e = .returned (.string (str (lowB v 8))) ∧ Below w.heap.size w w' := by
  have hw : IntKind.u64.wrap v = v := u64_nonneg h0 (by omega)
  go_enter Try.func29, Try.ntmps29
  go_wp2_with fail
  refine (put8 v w h0 (by omega)).mono ?_
  rintro e w1 ⟨rfl, hb⟩
  go_wp2
  go_ret
  exact ⟨rfl, hb⟩
theorem big4C (v : Int) (w : World) (h0 : 0 ≤ v) (h1 : v < 4294967296) : Calls Try.prog 31 #[.int .u32 v] w fun e w' => e = .returned (.string (str (lowB v 4))) ∧ Below w.heap.size w w' := by
  have hw : IntKind.u64.wrap v = v := u64_nonneg h0 (by omega)
  go_enter Try.func31, Try.ntmps31
  go_wp2_with fail
  refine (put4 v w h0 (by omega)).mono ?_
  rintro e w1 ⟨rfl, hb⟩
  go_wp2
  go_ret
  exact ⟨rfl, hb⟩
theorem letterB : (⟨#[66]⟩ : ByteArray) = str [66] := rfl
def spaceT (s : Int) : ByteArray := str (66 :: lowB s 8)
theorem spaceT_size (s : Int) : (spaceT s).size = 9 := by rw [spaceT, str_size]; simp [lowB_length]
theorem spaceC (v : Int) (w : World) (h0 : 0 ≤ v) (h1 : v ≤ 9223372036854775807) : Calls Try.prog 51 #[.int .i64 v] w fun e w' => e = .returned (.string (spaceT v)) ∧ Below w.heap.size w w' := by
  have C : Hid (Calls _ _ _ _ _) := big8C v w h0 h1
  have HE : Hid (spaceT v = ⟨#[66]⟩ ++ str (lowB v 8)) := by show _ = _; rw [letterB, str_app]; rfl
  have hz : (str (lowB v 8)).size = 8 := by rw [str_size, lowB_length]
  rw [HE.out]
  generalize str (lowB v 8) = t at *
  go_enter Try.func51, Try.ntmps51
  go_wp2_with fail
  refine C.out.mono ?_
  rintro e w1 ⟨rfl, hb⟩
  go_wp2
  go_ret
  exact ⟨rfl, hb⟩
def kindT (s k : Int) : ByteArray := str (66 :: (lowB s 8 ++ [k]))
theorem kindT_size (s k : Int) : (kindT s k).size = 10 := by rw [kindT, str_size]; simp [lowB_length]
theorem kindKeysC (s k : Int) (w : World) (h0 : 0 ≤ s) (h1 : s ≤ 9223372036854775807) (k0 : 0 ≤ k) (k1 : k ≤ 255) : Calls Try.prog 28 #[.int .i64 s, .int .i64 k] w fun e w' => e = .returned (.string (kindT s k)) ∧ Below w.heap.size w w' := by
  have C : Hid (Calls _ _ _ _ _) := spaceC s w h0 h1
  have C2 : Hid (∀ w, Calls _ _ _ _ _) := fun w => oneByteC k w k0 k1
  have HE : Hid (kindT s k = spaceT s ++ str [k]) := by show _ = _; rw [spaceT, str_app]; rfl
  have hz := spaceT_size s
  have hz2 : (str [k]).size = 1 := str_size [k]
  rw [HE.out]
  generalize spaceT s = t at *
  generalize str [k] = t2 at *
  go_enter Try.func28, Try.ntmps28
  go_wp2_with fail
  refine C.out.mono ?_
  rintro e w1 ⟨rfl, hb⟩
  go_wp2_with fail
  refine (C2.out w1).mono ?_
  rintro e w2 ⟨rfl, hb2⟩
  go_wp2
  go_ret
  exact ⟨rfl, over hb hb2⟩
def keyOk (s k n : Int) : Bool := decide (0 ≤ s ∧ 1 ≤ k ∧ k ≤ 255 ∧ 0 ≤ n)
theorem key_is (s k n : Int) : keyT s k n = kindT s k ++ str (lowB n 8) := by
  rw [kindT, str_app, keyT]; simp
theorem keyC (s k n : Int) (w : World) (h0 : 0 ≤ s) (h1 : s ≤ 9223372036854775807) (k0 : 1 ≤ k) (k1 : k ≤ 255) (n0 : 0 ≤ n) (n1 : n ≤ 9223372036854775807) :
    Calls Try.prog 9 #[.int .i64 s, .int .i64 k, .int .i64 n] w fun e w' => e = .returned (.tuple #[.string (keyT s k n), .int .i64 0]) ∧ Below w.heap.size w w' := by
  have C : Hid (∀ w, Calls _ _ _ _ _) := fun w => kindKeysC s k w h0 h1 (by omega) k1
  have C2 : Hid (∀ w, Calls _ _ _ _ _) := fun w => big8C n w n0 n1
  have C3 : Hid (∀ w, Calls _ _ _ _ _) := fun w => isKindC k w
  rw [decide_eq_true ⟨k0, k1⟩] at C3
  have HE : Hid _ := key_is s k n
  have hz := kindT_size s k
  have hz2 : (str (lowB n 8)).size = 8 := by rw [str_size, lowB_length]
  rw [HE.out]
  generalize kindT s k = t at *
  generalize str (lowB n 8) = t2 at *
  clear HE
  go_enter Try.func9, Try.ntmps9
  go_wp2_with fail
  refine (C3.out _).mono ?_
  rintro e w0 ⟨rfl, hw⟩
  rw [hw]; clear hw
  go_wp2_with fail
  refine (C.out _).mono ?_
  rintro e w1 ⟨rfl, hb⟩
  go_wp2_with fail
  refine (C2.out w1).mono ?_
  rintro e w2 ⟨rfl, hb2⟩
  go_wp2
  go_ret2
  exact ⟨rfl, over hb hb2⟩
theorem keyNo (s k n : Int) (w : World) (h : ¬ (0 ≤ s ∧ 1 ≤ k ∧ k ≤ 255 ∧ 0 ≤ n)) :
    Calls Try.prog 9 #[.int .i64 s, .int .i64 k, .int .i64 n] w fun e w' => e = .returned (.tuple #[.string ByteArray.empty, .int .i64 10]) ∧ w' = w := by
  have C3 : Hid (∀ w, Calls _ _ _ _ _) := fun w => isKindC k w
  by_cases h1 : s < 0
  · clear h
    go_enter Try.func9, Try.ntmps9
    go_wp2
    go_ret2
    exact ⟨rfl, rfl⟩
  by_cases h2 : 1 ≤ k ∧ k ≤ 255
  · rw [decide_eq_true h2] at C3
    have h3 : n < 0 := by omega
    clear h h2
    go_enter Try.func9, Try.ntmps9
    go_wp2_with fail
    refine (C3.out _).mono ?_
    rintro e w0 ⟨rfl, hw⟩
    rw [hw]; clear hw
    go_wp2
    go_ret2
    exact ⟨rfl, rfl⟩
  · rw [decide_eq_false h2] at C3
    clear h h2
    go_enter Try.func9, Try.ntmps9
    go_wp2_with fail
    refine (C3.out _).mono ?_
    rintro e w0 ⟨rfl, hw⟩
    rw [hw]; clear hw
    go_wp2
    go_ret2
    exact ⟨rfl, rfl⟩
end Go.Proofs.Ytgioekepoebibaa.qb
