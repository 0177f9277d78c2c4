import Derived.Test.YthdkbjbhjfiaiaaGreatDoorTc
namespace Go.Proofs.YthdkbjbhjfiaiaaGreatDoor.td
open Go.RowKit Go.PlainAid
open Go.Proofs.YthdkbjbhjfiaiaaGreatDoor.ta Go.Proofs.YthdkbjbhjfiaiaaGreatDoor.tb Go.Proofs.YthdkbjbhjfiaiaaGreatDoor.tc
set_option linter.unusedVariables false
set_option maxRecDepth 4000

-- each byte handed on
set_option maxHeartbeats 800000 in
theorem through (s : ByteArray) (hs : s.size ≤ 4611686018427387904) (g : Nat) (lb : Array Value) (eg : ∀ args w, (callFunc g args).run Tryz.prog w = .ok (.enter g args) w) (J : Nat → World → Prop) (Q : World → Prop)
    (hstep : ∀ k w, k < s.size → J k w → Calls Tryz.prog g (#[.int .u8 (bt s k)] ++ lb) w fun e w' => (e = .returned (.bool true) ∧ J (k + 1) w') ∨ (e = .returned (.bool false) ∧ Q w'))
    (w : World) (h0 : J 0 w) : Calls Tryz.prog 85 #[.string s, .func (.func g) #[] lb] w fun e w' => (e = .returned (.bool true) ∧ J s.size w') ∨ (e = .returned (.bool false) ∧ Q w') := by
  have hgb := get_bt s
  have HS : Hid (∀ k w, k < s.size → J k w → Calls Tryz.prog g (#[.int .u8 (bt s k)] ++ lb) w fun e w' => (e = .returned (.bool true) ∧ J (k + 1) w') ∨ (e = .returned (.bool false) ∧ Q w')) := hstep
  have HJ0 : Hid (J 0 w) := h0
  clear hstep h0
  go_enter Tryz.func85, Tryz.ntmps85
  go_wp2
  go_loopw [8] (fun i wr => ∃ n : Nat, n ≤ s.size ∧ i = .int .i64 n ∧ J n wr) (fun i _ => (s.size - intOf i).toNat)
  case atStart => exact ⟨0, by omega, rfl, HJ0.out⟩
  case round =>
    obtain ⟨n, hn, rfl, hJ⟩ := hrel
    have HJ : Hid (J n wr) := hJ
    clear hJ HJ0
    by_cases hlt : n < s.size
    · have hlt' : (n : Int) < s.size := by omega
      have C1 : Hid (Calls _ _ _ _ _) := HS.out n wr hlt HJ.out
      go_wp2_with fail
      refine C1.out.mono ?_
      rintro e w1 (⟨rfl, hj⟩ | ⟨rfl, hq⟩)
      · have HJ1 : Hid (J (n + 1) w1) := hj
        clear hj
        go_wp2
        go_roundw
        case rel => exact ⟨n + 1, by omega, by go_num, HJ1.out⟩
        case measure => simp [intOf]; omega
      · have HQ : Hid (Q w1) := hq
        clear hq
        go_wp2
        go_ret
        exact .inr ⟨rfl, HQ.out⟩
    · have hlt' : ¬ (n : Int) < s.size := by omega
      obtain rfl : n = s.size := by omega
      go_wp2
      go_ret
      exact .inl ⟨rfl, HJ.out⟩
end Go.Proofs.YthdkbjbhjfiaiaaGreatDoor.td
