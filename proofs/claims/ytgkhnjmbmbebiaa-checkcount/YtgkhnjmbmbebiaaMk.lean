import Derived.Test.YtgkhnjmbmbebiaaMi
import Derived.Deep.DeepCutAuto
import Derived.BigQuiet
namespace Go.Proofs.Ytgkhnjmbmbebiaa.mk
open Go.RowKit Go.PlainAid
open Go.Proofs.Ytgkhnjmbmbebiaa.ca Go.Proofs.Ytgkhnjmbmbebiaa.cp Go.Proofs.Ytgkhnjmbmbebiaa.mi
set_option linter.unusedVariables false

set_option maxHeartbeats 1600000 in
theorem placesD (v : Value) (xs : List Int) (n : Int) (w : World) (hR : ReadsI w v xs) (hz : xs.length ≤ 140737488355328) :
    Calls Try.prog 29 #[.int .i64 n, v] w fun e w' => e = .returned (.int .i64 (places xs n)) ∧ ∃ m, w' = w.drewN m := by
  obtain ⟨a, cap, rfl, _, h1⟩ := hR
  have HC : Hid (xs.length = 0 ∨ ∃ b off, a = some ⟨b, off, none⟩ ∧ ∀ i, i < xs.length → w.cell? ⟨b, off + i, none⟩ = some (.int .i64 (xs.getD i 0))) := h1
  obtain ⟨l, HN⟩ : ∃ n, Hid (xs.length = n) := ⟨_, rfl⟩
  obtain ⟨r, HR⟩ : ∃ r, Hid (places xs n = r) := ⟨_, rfl⟩
  rw [HR.out]
  rw [HN.out] at HC hz ⊢
  clear h1
  by_cases h0 : l = 0
  · have HE : Hid (r = 82) := by
      show _ = _
      rw [← HR.out]; unfold places; rw [HN.out, if_pos h0]
    subst h0
    go_enter Try.func29, Try.ntmps29
    go_wp2
    go_ret
    exact ⟨by first | (rw [HE.out]; done) | (rw [HE.out]; rfl), 0, rfl⟩
  · have hb : ((l : Int) == 0) = false := by rw [beq_eq_false_iff_ne]; omega
    by_cases h2 : 1024 < l
    · have HE : Hid (r = 83) := by
        show _ = _
        rw [← HR.out]; unfold places; rw [HN.out, if_neg h0, if_pos h2]
      have hb2 : decide ((1024 : Int) < l) = true := decide_eq_true (by omega)
      clear h0 h2
      go_enter Try.func29, Try.ntmps29
      go_wp2
      go_ret
      exact ⟨by first | (rw [HE.out]; done) | (rw [HE.out]; rfl), 0, rfl⟩
    · have HS0 : Hid (scan (bad xs n) l 0 = r) := by
        show _ = _
        rw [← HR.out]; unfold places; rw [HN.out, if_neg h0, if_neg h2]
      have hb2 : decide ((1024 : Int) < l) = false := decide_eq_false (by omega)
      have HL : Hid (l ≠ 0 ∧ l ≤ 1024) := ⟨h0, by omega⟩
      clear h0 h2
      go_enter Try.func29, Try.ntmps29
      go_wp2
      go_loopw [5] (fun i wr => ∃ k m : Nat, k ≤ l ∧ i = .int .i64 k ∧ Hid (scan (bad xs n) (l - k) k = r) ∧ wr = w.drewN m) (fun i _ => (l - intOf i).toNat)
      case atStart => exact ⟨0, 0, by omega, rfl, HS0, rfl⟩
      case round =>
        obtain ⟨k, m, hk, rfl, HS, rfl⟩ := hrel
        have HB := HL.out
        by_cases hlt : k < l
        · have hlt' : (k : Int) < l := by omega
          obtain ⟨b, off, rfl, hc⟩ : ∃ b off, a = some ⟨b, off, none⟩ ∧ ∀ i, i < l → w.cell? ⟨b, off + i, none⟩ = some (.int .i64 (xs.getD i 0)) := by
            rcases HC.out with h | h
            · omega
            · exact h
          obtain ⟨X, HX⟩ : ∃ X, Hid (xs.getD k 0 = X) := ⟨_, rfl⟩
          have c1 := hc k hlt
          rw [HX.out] at c1
          have HST : Hid (scan (bad xs n) (l - k) k = if bad xs n k = 0 then scan (bad xs n) (l - (k + 1)) (k + 1) else bad xs n k) := by
            show _ = _
            rw [show l - k = (l - (k + 1)) + 1 by omega]; rfl
          by_cases x1 : X < 0
          · have d1 : decide (X < 0) = true := decide_eq_true x1
            have HE : Hid (r = 81) := by
              show _ = _
              rw [← HS.out, HST.out, show bad xs n k = 81 by unfold bad; rw [HX.out, if_pos x1]]; rfl
            clear x1 hc hb hb2 HB
            go_wp2
            go_ret
            exact ⟨by first | (rw [HE.out]; done) | (rw [HE.out]; rfl), _, rfl⟩
          · have d1 : decide (X < 0) = false := decide_eq_false x1
            by_cases x2 : n ≤ X
            · have d2 : decide (n ≤ X) = true := decide_eq_true x2
              have HE : Hid (r = 81) := by
                show _ = _
                rw [← HS.out, HST.out, show bad xs n k = 81 by unfold bad; rw [HX.out, if_neg x1, if_pos x2]]; rfl
              clear x1 x2 hc hb hb2 HB
              go_wp2
              go_ret
              exact ⟨by first | (rw [HE.out]; done) | (rw [HE.out]; rfl), _, rfl⟩
            · have d2 : decide (n ≤ X) = false := decide_eq_false x2
              cases k with
              | zero =>
                have HS1 : Hid (scan (bad xs n) (l - (0 + 1)) (0 + 1) = r) := by
                  show _ = _
                  rw [← HS.out, HST.out, if_pos (show bad xs n 0 = 0 by unfold bad; rw [HX.out, if_neg x1, if_neg x2, if_neg (by omega)])]
                have d3 : decide ((0 : Int) < ((0 : Nat) : Int)) = false := rfl
                rw [Nat.add_zero] at c1
                clear x1 x2 hc hb hb2 HB HX
                go_wp2_with fail
                go_quiet (fail)
                go_wp2
                go_roundw
                case rel => exact ⟨0 + 1, _, by omega, by go_num, HS1.out, rfl⟩
                case measure => simp [intOf]; omega
              | succ k =>
                obtain ⟨Y, HY⟩ : ∃ X, Hid (xs.getD k 0 = X) := ⟨_, rfl⟩
                have c2 := hc k (by omega)
                rw [HY.out] at c2
                have e1 : (((k + 1 : Nat) : Int) - 1) = k := by omega
                have d3 : decide ((0 : Int) < ((k + 1 : Nat) : Int)) = true := decide_eq_true (by omega)
                by_cases x4 : X ≤ Y
                · have d4 : decide (X ≤ Y) = true := decide_eq_true x4
                  have HE : Hid (r = 84) := by
                    show _ = _
                    rw [← HS.out, HST.out, show bad xs n (k + 1) = 84 by unfold bad; rw [HX.out, Nat.add_sub_cancel, HY.out, if_neg x1, if_neg x2, if_pos ⟨by omega, x4⟩]]; rfl
                  clear x1 x2 x4 hc hb hb2 HB
                  go_wp2_with fail
                  go_quiet (fail)
                  go_wp2
                  go_ret
                  exact ⟨by first | (rw [HE.out]; done) | (rw [HE.out]; rfl), m + nq, by rw [World.drewN_drewN]⟩
                · have d4 : decide (X ≤ Y) = false := decide_eq_false x4
                  have HS1 : Hid (scan (bad xs n) (l - (k + 1 + 1)) (k + 1 + 1) = r) := by
                    show _ = _
                    rw [← HS.out, HST.out, if_pos (show bad xs n (k + 1) = 0 by unfold bad; rw [HX.out, Nat.add_sub_cancel, HY.out, if_neg x1, if_neg x2, if_neg (fun h => x4 h.2)])]
                  clear x1 x2 x4 hc hb hb2 HB
                  go_wp2_with fail
                  go_quiet (fail)
                  go_wp2
                  go_roundw
                  case rel => exact ⟨k + 1 + 1, _, by omega, by go_num, HS1.out, rfl⟩
                  case measure => simp [intOf]; omega
        · have hlt' : ¬ (k : Int) < l := by omega
          have HE : Hid (r = 0) := by
            show _ = _
            rw [← HS.out, show l - k = 0 by omega]; rfl
          clear hlt hb hb2 HB
          go_wp2
          go_ret
          exact ⟨by first | (rw [HE.out]; done) | (rw [HE.out]; rfl), _, rfl⟩
end Go.Proofs.Ytgkhnjmbmbebiaa.mk
