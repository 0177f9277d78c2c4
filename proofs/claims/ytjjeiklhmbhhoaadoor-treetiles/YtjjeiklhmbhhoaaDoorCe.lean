import Derived.Test.YtjjeiklhmbhhoaaDoorCs
import Derived.BigQuiet
namespace Go.Proofs.YtjjeiklhmbhhoaaDoor.ce
open Go.RowKit Go.PlainAid
open Go.Proofs.YtjjeiklhmbhhoaaDoor.ca Go.Proofs.YtjjeiklhmbhhoaaDoor.cb Go.Proofs.YtjjeiklhmbhhoaaDoor.cp Go.Proofs.YtjjeiklhmbhhoaaDoor.cs
set_option linter.unusedVariables false

set_option maxHeartbeats 1600000 in
theorem same (va vb : Value) (L : List (Nat × Nat)) (w : World) (h1 : ReadsA w va L) (h2 : ReadsA w vb L) (hz : L.length ≤ 140737488355328) :
    Calls Tryd.prog 10 #[va, vb] w fun e w' => e = .returned (.bool true) ∧ ∃ m, w' = w.drewN m := by
  obtain ⟨a, cap, rfl, h1⟩ := h1
  obtain ⟨a', cap', rfl, h2⟩ := h2
  have HC : Hid (L.length = 0 ∨ ∃ b, a = some ⟨b, 0, none⟩ ∧ ∀ (i : Nat) (x : Nat × Nat), L[i]? = some x → w.cell? ⟨b, i * 2, none⟩ = some (.int .i64 (x.1 : Nat)) ∧ w.cell? ⟨b, i * 2 + 1, none⟩ = some (.int .i64 (x.2 : Nat))) := h1
  have HC' : Hid (L.length = 0 ∨ ∃ b, a' = some ⟨b, 0, none⟩ ∧ ∀ (i : Nat) (x : Nat × Nat), L[i]? = some x → w.cell? ⟨b, i * 2, none⟩ = some (.int .i64 (x.1 : Nat)) ∧ w.cell? ⟨b, i * 2 + 1, none⟩ = some (.int .i64 (x.2 : Nat))) := h2
  obtain ⟨n, HN⟩ : ∃ n, Hid (L.length = n) := ⟨_, rfl⟩
  rw [HN.out] at HC HC' hz ⊢
  clear h1 h2
  have hl' : ((n : Int) == (n : Int)) = true := beq_self_eq_true _
  go_enter Tryd.func10, Tryd.ntmps10
  go_wp2
  go_loopw [5] (fun i wr => ∃ k m : Nat, k ≤ n ∧ i = .int .i64 k ∧ wr = w.drewN m) (fun i _ => (n - intOf i).toNat)
  case atStart => exact ⟨0, 0, by omega, rfl, rfl⟩
  case round =>
    obtain ⟨k, m, hk, rfl, rfl⟩ := hrel
    by_cases hlt : k < n
    · have hlt' : (k : Int) < n := by omega
      have hkL : k < L.length := by rw [HN.out]; exact hlt
      obtain ⟨x, y, HX⟩ : ∃ x y : Nat, Hid (L[k]? = some (x, y)) := ⟨(L[k]'hkL).1, (L[k]'hkL).2, List.getElem?_eq_getElem hkL⟩
      obtain ⟨b, rfl, hc⟩ : ∃ b, a = some ⟨b, 0, none⟩ ∧ w.cell? ⟨b, k * 2, none⟩ = some (.int .i64 (x : Nat)) ∧ w.cell? ⟨b, k * 2 + 1, none⟩ = some (.int .i64 (y : Nat)) := by
        rcases HC.out with h | ⟨b, h, hh⟩
        · omega
        · exact ⟨b, h, hh k _ HX.out⟩
      obtain ⟨b', rfl, hc'⟩ : ∃ b, a' = some ⟨b, 0, none⟩ ∧ w.cell? ⟨b, k * 2, none⟩ = some (.int .i64 (x : Nat)) ∧ w.cell? ⟨b, k * 2 + 1, none⟩ = some (.int .i64 (y : Nat)) := by
        rcases HC'.out with h | ⟨b, h, hh⟩
        · omega
        · exact ⟨b, h, hh k _ HX.out⟩
      obtain ⟨c1, c2⟩ := hc
      obtain ⟨c3, c4⟩ := hc'
      go_wp2_with fail
      go_quiet (fail)
      go_wp2
      go_roundw
      case rel => exact ⟨k + 1, _, by omega, by go_num, rfl⟩
      case measure => simp [intOf]; omega
    · have hlt' : ¬ (k : Int) < n := by omega
      go_wp2
      go_ret
      exact ⟨rfl, _, rfl⟩
end Go.Proofs.YtjjeiklhmbhhoaaDoor.ce
