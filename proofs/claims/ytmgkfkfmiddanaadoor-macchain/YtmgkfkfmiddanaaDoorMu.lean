import Derived.Test.YtmgkfkfmiddanaaDoorMt
namespace Go.Proofs.YtmgkfkfmiddanaaDoor.mu
open Go.RowKit Go.PlainAid
open Go.Proofs.YtmgkfkfmiddanaaDoor.pl Go.Proofs.YtmgkfkfmiddanaaDoor.pd Go.Proofs.YtmgkfkfmiddanaaDoor.pf Go.Proofs.YtmgkfkfmiddanaaDoor.ft Go.Proofs.YtmgkfkfmiddanaaDoor.pj Go.Proofs.YtmgkfkfmiddanaaDoor.mo Go.Proofs.YtmgkfkfmiddanaaDoor.mt
set_option linter.unusedVariables false

-- the chain's bytes
theorem outF_bt (key label : ByteArray) (M i r : Nat) (hi : i < M) (hr : r < 32) : bt (outF key label M) (32 * i + r) = bt (lastF key label (i + 1)) r := by
  induction M with
  | zero => omega
  | succ M ih =>
    have hs := outF_size key label M
    rw [outF]
    rcases Nat.lt_or_ge i M with h | h
    · rw [bt_append_left _ _ _ (by omega), ih h]
    · have e : i = M := by omega
      subst e
      rw [show 32 * i + r = (outF key label i).size + r by omega, bt_append_right]
theorem outF_more (key label : ByteArray) (M M' j : Nat) (h : j < 32 * M) (h' : j < 32 * M') : bt (outF key label M) j = bt (outF key label M') j := by
  have e : j = 32 * (j / 32) + j % 32 := by omega
  rw [e, outF_bt key label M _ _ (by omega) (by omega), outF_bt key label M' _ _ (by omega) (by omega)]
theorem derF_pre (key label : ByteArray) (N M : Nat) (h : N ≤ M) : (derF key label M).extract 0 N = derF key label N := by
  have hs : ((derF key label M).extract 0 N).size = N := by rw [ByteArray.size_extract, derF_size]; omega
  apply ext_bt
  · rw [hs, derF_size]
  · intro j hj
    rw [hs] at hj
    rw [bt_extract _ _ _ _ (by omega) (by rw [derF_size]; omega), Nat.zero_add, derF_bt _ _ _ _ (by omega), derF_bt _ _ _ _ (by omega)]
    exact outF_more _ _ _ _ _ (by omega) (by omega)
theorem derF_last (key label : ByteArray) (N i : Nat) (h : 32 * (i + 1) ≤ N) : (derF key label N).extract (32 * i) (32 * (i + 1)) = lastF key label (i + 1) := by
  have hs : ((derF key label N).extract (32 * i) (32 * (i + 1))).size = 32 := by rw [ByteArray.size_extract, derF_size]; omega
  apply ext_bt
  · rw [hs, lastF_size']
  · intro j hj
    rw [hs] at hj
    rw [bt_extract _ _ _ _ (by omega) (by rw [derF_size]; omega), derF_bt _ _ _ _ (by omega), outF_bt _ _ _ _ _ (by omega) hj]

structure DW (Tb : World → Prop) : Prop extends MW Tb where
  no : ∀ key label (n : Int) w, Tb w → (n < 0 ∨ 8160 < n) → Calls Tryd.prog 8 #[.string key, .string label, .int .i64 n] w fun e w' => e = .returned (.tuple #[.string ⟨#[]⟩, .int .i64 30]) ∧ Below w.heap.size w w'
  der : ∀ key label (N : Nat) w, Tb w → key.size ≤ 140737488352256 → label.size ≤ 140737488351232 → N ≤ 8160 → Calls Tryd.prog 8 #[.string key, .string label, .int .i64 N] w fun e w' => e = .returned (.tuple #[.string (derF key label N), .int .i64 0]) ∧ Below w.heap.size w w'
end Go.Proofs.YtmgkfkfmiddanaaDoor.mu
