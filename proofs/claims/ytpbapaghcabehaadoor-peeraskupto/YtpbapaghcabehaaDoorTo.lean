import Derived.Test.YtpbapaghcabehaaDoorTn
namespace Go.Proofs.YtpbapaghcabehaaDoor.to
open Go.RowKit Go.PlainAid
open Go.Proofs.YtpbapaghcabehaaDoor.ta Go.Proofs.YtpbapaghcabehaaDoor.tb Go.Proofs.YtpbapaghcabehaaDoor.tc Go.Proofs.YtpbapaghcabehaaDoor.td Go.Proofs.YtpbapaghcabehaaDoor.te Go.Proofs.YtpbapaghcabehaaDoor.tf Go.Proofs.YtpbapaghcabehaaDoor.tg Go.Proofs.YtpbapaghcabehaaDoor.th Go.Proofs.YtpbapaghcabehaaDoor.ti Go.Proofs.YtpbapaghcabehaaDoor.tj Go.Proofs.YtpbapaghcabehaaDoor.tk Go.Proofs.YtpbapaghcabehaaDoor.tm Go.Proofs.YtpbapaghcabehaaDoor.tn
set_option linter.unusedVariables false

theorem over {w w1 w2 : World} (h : Below w.heap.size w w1) (b : Below w1.heap.size w1 w2) : Below w.heap.size w w2 := h.trans (b.mono h.size)
theorem value16 (c : Int) (c0 : 0 ≤ c) (c1 : c ≤ 255) (w : World) : Calls Tryd.prog 34 #[.string ⟨#[48, 49, 50, 51, 52, 53, 54, 55, 56, 57, 97, 98, 99, 100, 101, 102]⟩, .int .u8 c] w fun e w' => e = .returned (.int .i64 (rv A16 c)) ∧ w' = w := by
  have := value L16 c c0 c1 (by decide) w
  rw [bs16] at this
  exact this
theorem rv16 (c : Int) : 0 ≤ rv A16 c ∧ rv A16 c < 16 := rv_in A16 c 16 (by decide +kernel) (by decide)
theorem pairs_two (n : Nat) : ∀ l : List Int, l.length = 2 * n → ∀ a b, pairs (l ++ [a, b]) = pairs l ++ [a * 16 + b] := by
  induction n with
  | zero => intro l h a b; have : l = [] := List.length_eq_zero_iff.1 (by omega)
            subst this; rfl
  | succ n ih =>
    intro l h a b
    match l, h with
    | [], h => simp at h
    | [x], h => simp at h; omega
    | x :: y :: r, h => simp [pairs, ih r (by simp at h; omega) a b]
theorem gh_two (s : ByteArray) (k : Nat) : ghL (btL s (2 * k + 2)) = ghL (btL s (2 * k)) ++ [rv A16 (bt s (2 * k)) * 16 + rv A16 (bt s (2 * k + 1))] := by
  unfold ghL
  rw [btL_succ, btL_succ, List.append_assoc, List.map_append]
  exact pairs_two k _ (by rw [List.length_map, btL_length]) _ _
theorem pairs_odd (n : Nat) : ∀ l : List Int, l.length = 2 * n → ∀ a, pairs (l ++ [a]) = pairs l := by
  induction n with
  | zero => intro l h a; have : l = [] := List.length_eq_zero_iff.1 (by omega)
            subst this; rfl
  | succ n ih =>
    intro l h a
    match l, h with
    | [], h => simp at h
    | [x], h => simp at h; omega
    | x :: y :: r, h => simp [pairs, ih r (by simp at h; omega) a]
theorem gh_end (s : ByteArray) (k : Nat) (h1 : ¬ 2 * k + 1 < s.size) (h2 : 2 * k ≤ s.size) : ghL (bs s) = ghL (btL s (2 * k)) := by
  unfold bs
  rcases (by omega : s.size = 2 * k ∨ s.size = 2 * k + 1) with h | h
  · rw [h]
  · rw [h]
    unfold ghL
    rw [btL_succ, List.map_append]
    exact pairs_odd k _ (by rw [List.length_map, btL_length]) _

end Go.Proofs.YtpbapaghcabehaaDoor.to
