import Derived.Test.YtgkhnjmbmbebiaaTi
import Derived.Deep.DeepCutAuto
import Derived.BigQuiet
namespace Go.Proofs.Ytgkhnjmbmbebiaa.si
open Go.RowKit Go.PlainAid
open Go.Proofs.Ytgkhnjmbmbebiaa.ca Go.Proofs.Ytgkhnjmbmbebiaa.cp Go.Proofs.Ytgkhnjmbmbebiaa.mi Go.Proofs.Ytgkhnjmbmbebiaa.ti
set_option linter.unusedVariables false

set_option maxHeartbeats 1600000 in
theorem keptC (B g n cp : Nat) (v : Value) (xs : List Int) (w : World) (hn : xs.length = n) (hT : Tw w B g n cp xs) (hR : ReadsI w v xs) (hz : n ≤ 140737488351232) :
    Calls Try.prog 10 #[.slice (some ⟨g, 0, none⟩) n cp, v] w fun e w' => e = .returned (.bool true) ∧ ∃ m, w' = w.drewN m := by
  obtain ⟨t1, t2, t3⟩ := hT.cell hn
  have HT1 : Hid (∀ i, i < n → w.cell? ⟨g, i, none⟩ = some (Value.int .i64 (xs.getD i 0))) := t1
  obtain ⟨a, cap, rfl, hcap, hh⟩ := hR
  rw [hn] at hcap hh ⊢
  have HC : Hid (n = 0 ∨ ∃ b off, a = some ⟨b, off, none⟩ ∧ ∀ i, i < n → w.cell? ⟨b, off + i, none⟩ = some (Value.int .i64 (xs.getD i 0))) := hh
  have hcp : (n : Int) + 1 ≤ cp := by omega
  have hcp0 : (n : Int) < n + 1 := by omega
  clear t1 hh hn hT
  go_enter Try.func10, Try.ntmps10
  go_wp2
  go_loopw [6] (fun i wr => ∃ k m : Nat, k ≤ n ∧ i = .int .i64 k ∧ wr = w.drewN m) (fun i _ => (n - intOf i).toNat)
  case atStart => exact ⟨0, 0, by omega, rfl, rfl⟩
  case round =>
    obtain ⟨k, m, hk, rfl, rfl⟩ := hrel
    by_cases hlt : k < n
    · have hlt' : (k : Int) < n := by omega
      obtain ⟨b, off, rfl, hc⟩ : ∃ b off, a = some ⟨b, off, none⟩ ∧ ∀ i, i < n → w.cell? ⟨b, off + i, none⟩ = some (Value.int .i64 (xs.getD i 0)) := by
        rcases HC.out with h | h
        · omega
        · exact h
      have c1 := hc k hlt
      have c2 := HT1.out k hlt
      obtain ⟨x, HX⟩ : ∃ x, Hid (xs.getD k 0 = x) := ⟨_, rfl⟩
      rw [HX.out] at c1 c2
      have kc : (k : Int) < cp := by omega
      clear hc HX
      go_wp2_with fail
      go_quiet (fail)
      go_wp2
      go_roundw
      case rel => exact ⟨k + 1, _, by omega, by go_num, rfl⟩
      case measure => simp [intOf]; omega
    · have hlt' : ¬ (k : Int) < n := by omega
      go_wp2
      go_ret
      exact ⟨rfl, m, rfl⟩
end Go.Proofs.Ytgkhnjmbmbebiaa.si
