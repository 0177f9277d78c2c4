import Derived.Test.YthblljfkodbbeaaDoorWd
import Derived.Test.YthblljfkodbbeaaDoorTk
import Derived.Test.YthblljfkodbbeaaDoorUd
namespace Go.Proofs.YthblljfkodbbeaaDoor.we
open Go.RowKit Go.PlainAid Go.Shelf
open Go.Proofs.YthblljfkodbbeaaDoor.ta Go.Proofs.YthblljfkodbbeaaDoor.tb Go.Proofs.YthblljfkodbbeaaDoor.tc Go.Proofs.YthblljfkodbbeaaDoor.tj Go.Proofs.YthblljfkodbbeaaDoor.tk Go.Proofs.YthblljfkodbbeaaDoor.ub Go.Proofs.YthblljfkodbbeaaDoor.uc Go.Proofs.YthblljfkodbbeaaDoor.ud Go.Proofs.YthblljfkodbbeaaDoor.wa Go.Proofs.YthblljfkodbbeaaDoor.wb Go.Proofs.YthblljfkodbbeaaDoor.wc Go.Proofs.YthblljfkodbbeaaDoor.wd
set_option linter.unusedVariables false

-- what is read has one text
theorem oneB (s : ByteArray) (hs : s.size ≤ 140737488351232) : ∃ (A : ByteArray) (e : Int),
    (∀ w, Calls Tryd.prog 20 #[.string s] w fun r w' => r = .returned (.tuple #[.string A, .int .i64 e]) ∧ Below w.heap.size w w') ∧
    (e = 0 → ∀ w, Calls Tryd.prog 22 #[.string A] w fun r w' => r = .returned (.string s) ∧ Below w.heap.size w w') := by
  by_cases h : Acc64 (bs s)
  · refine ⟨str (cutL (bs s)), 0, fun w => ?_, fun _ w => ?_⟩
    · have := unb64 s (by omega) w
      rw [show un64V s = readV (cutL (bs s)) by unfold un64V; rw [if_pos h]] at this
      exact this
    · obtain ⟨h1, h2⟩ := b64_back (bs s) (bs_in s) h
      have hl := b64L_length (cutL (bs s))
      rw [h1, bs_length] at hl
      have := b64 (str (cutL (bs s))) (by rw [str_size]; omega) w
      rw [bs_str _ h2, h1, str_bs] at this
      exact this
  · refine ⟨ByteArray.empty, 40, fun w => ?_, fun h => absurd h (by decide)⟩
    have := unb64 s (by omega) w
    rw [show un64V s = failV 40 by unfold un64V; rw [if_neg h]] at this
    exact this
theorem oneH (s : ByteArray) (hs : s.size ≤ 140737488351232) : ∃ (A : ByteArray) (e : Int),
    (∀ w, Calls Tryd.prog 19 #[.string s] w fun r w' => r = .returned (.tuple #[.string A, .int .i64 e]) ∧ Below w.heap.size w w') ∧
    (e = 0 → ∀ w, Calls Tryd.prog 23 #[.string A] w fun r w' => r = .returned (.string s) ∧ Below w.heap.size w w') := by
  by_cases h : s.size % 2 = 0 ∧ Ok A16 (bs s)
  · refine ⟨str (unhexL (bs s)), 0, fun w => ?_, fun _ w => ?_⟩
    · have := unhex s (by omega) w
      rw [show unhexV s = readV (unhexL (bs s)) by unfold unhexV; rw [if_pos h]] at this
      exact this
    · obtain ⟨h1, h2⟩ := hex_back (bs s) (bs_in s) (by rw [bs_length]; exact h.1) h.2
      have hl := hexL_length (unhexL (bs s))
      rw [h1, bs_length] at hl
      have := hex (str (unhexL (bs s))) (by rw [str_size]; omega) w
      rw [bs_str _ h2, h1, str_bs] at this
      exact this
  · refine ⟨ByteArray.empty, 41, fun w => ?_, fun h => absurd h (by decide)⟩
    have := unhex s (by omega) w
    rw [show unhexV s = failV 41 by unfold unhexV; rw [if_neg h]] at this
    exact this
theorem oneE (s : ByteArray) (hs : s.size ≤ 140737488351232) : ∃ (A : ByteArray) (e : Int),
    (∀ w, Calls Tryd.prog 21 #[.string s] w fun r w' => r = .returned (.tuple #[.string A, .int .i64 e]) ∧ Below w.heap.size w w') ∧
    (e = 0 → ∀ w, Calls Tryd.prog 17 #[.string A] w fun r w' => r = .returned (.string s) ∧ Below w.heap.size w w') := by
  cases h : unP (bs s) with
  | some x =>
    obtain ⟨h1, h2, h3⟩ := unP_back s x h
    refine ⟨str x, 0, fun w => ?_, fun _ w => ?_⟩
    · have := unesc s (by omega) w
      rw [show unV s = readV x by unfold unV; rw [h]] at this
      exact this
    · have hr : (escR x).length ≤ s.size := by
        by_cases hx : x = []
        · subst hx; simp [escR]
        · rw [← bs_length, ← h1]; unfold escL; rw [if_neg hx]; exact Nat.le_refl _
      have := escape (str x) (by rw [str_size]; omega) (by rw [bs_str _ h2]; omega) w
      rw [bs_str _ h2, h1, str_bs] at this
      exact this
  | none =>
    refine ⟨ByteArray.empty, 44, fun w => ?_, fun h => absurd h (by decide)⟩
    have := unesc s (by omega) w
    rw [show unV s = failV 44 by unfold unV; rw [h]] at this
    exact this
theorem oneD (s : ByteArray) (hs : s.size ≤ 140737488351232) : ∃ (n : Int) (e : Int),
    (∀ w, NumW w → Calls Tryd.prog 13 #[.string s] w fun r w' => r = .returned (.tuple #[.int .i64 n, .int .i64 e]) ∧ Below w.heap.size w w') ∧
    (e = 0 → ∀ w, NumW w → Calls Tryd.prog 11 #[.int .i64 n] w fun r w' => r = .returned (.string s) ∧ Below w.heap.size w w') := by
  by_cases h : ∃ n, I64 n ∧ decS n = s
  · obtain ⟨n, hn, rfl⟩ := h
    refine ⟨n, 0, fun w hw => ?_, fun _ w hw => dec n hn w hw⟩
    have := unDec (decS n) (by omega) w hw
    rw [show unDecV (decS n) = .tuple #[.int .i64 n, .int .i64 0] by unfold unDecV; rw [if_pos ⟨n, hn, rfl⟩, unN_dec n hn]] at this
    exact this
  · refine ⟨0, 42, fun w hw => ?_, fun h => absurd h (by decide)⟩
    have := unDec s (by omega) w hw
    rw [show unDecV s = .tuple #[.int .i64 0, .int .i64 42] by unfold unDecV; rw [if_neg h]] at this
    exact this
-- the four given texts
theorem giveH (w : World) : Calls Tryd.prog 19 #[.string ⟨#[48, 48]⟩] w fun r w' => r = .returned (.tuple #[.string ⟨#[0]⟩, .int .i64 0]) ∧ Below w.heap.size w w' := by
  have := unhex ⟨#[48, 48]⟩ (by decide) w
  have hb : bs (⟨#[48, 48]⟩ : ByteArray) = [48, 48] := by decide +kernel
  have ho : Ok A16 [48, 48] := by
    intro x hx
    simp at hx
    subst hx
    decide +kernel
  rw [show unhexV ⟨#[48, 48]⟩ = .tuple #[.string ⟨#[0]⟩, .int .i64 0] by
    unfold unhexV
    rw [hb, if_pos ⟨by decide, ho⟩]
    unfold readV
    rw [show str (unhexL [48, 48]) = ⟨#[0]⟩ by apply bs_inj; decide +kernel]] at this
  exact this
theorem giveB (w : World) : Calls Tryd.prog 20 #[.string ⟨#[90, 103, 61]⟩] w fun r w' => r = .returned (.tuple #[.string ByteArray.empty, .int .i64 40]) ∧ Below w.heap.size w w' := by
  have := unb64 ⟨#[90, 103, 61]⟩ (by decide) w
  rw [show un64V ⟨#[90, 103, 61]⟩ = failV 40 by
    unfold un64V
    rw [if_neg]
    intro h
    have := h.four
    rw [bs_length] at this
    exact absurd this (by decide)] at this
  exact this
theorem giveE (w : World) : Calls Tryd.prog 21 #[.string ⟨#[37, 52]⟩] w fun r w' => r = .returned (.tuple #[.string ByteArray.empty, .int .i64 44]) ∧ Below w.heap.size w w' := by
  have := unesc ⟨#[37, 52]⟩ (by decide) w
  have hb : bs (⟨#[37, 52]⟩ : ByteArray) = [37, 52] := by decide +kernel
  have hn : unP [37, 52] = none := by decide +kernel
  rw [show unV ⟨#[37, 52]⟩ = failV 44 by unfold unV; rw [hb, hn]] at this
  exact this
theorem giveD (w : World) (hw : NumW w) : Calls Tryd.prog 13 #[.string ⟨#[48, 49]⟩] w fun r w' => r = .returned (.tuple #[.int .i64 0, .int .i64 42]) ∧ Below w.heap.size w w' := by
  have := unDec ⟨#[48, 49]⟩ (by decide) w hw
  rw [show unDecV ⟨#[48, 49]⟩ = .tuple #[.int .i64 0, .int .i64 42] by
    unfold unDecV
    rw [if_neg]
    rintro ⟨n, hn, h⟩
    have h1 : unN (⟨#[48, 49]⟩ : ByteArray) = 1 := by decide +kernel
    have h2 := unN_dec n hn
    rw [h, h1] at h2
    subst h2
    rw [dec_one 1 (by decide) (by decide)] at h
    have := congrArg ByteArray.size h
    rw [str_size] at this
    exact absurd this (by decide)] at this
  exact this
end Go.Proofs.YthblljfkodbbeaaDoor.we
