import Derived.Test.YtglffbhcnafbnabDoorA3
import Derived.Test.YtglffbhcnafbnabDoorB1
import Derived.Deep.AppendLies
import Derived.Laws.AppendOwnNone
import Derived.Lib.SliceRun
import Derived.BigQuiet
import Derived.Deep.DeepCutAuto
import Derived.Laws.BitsAllLaws
import Derived.Test.YtglffbhcnafbnabDoorA9
namespace Go.Proofs.YtglffbhcnafbnabDoor.mi
open Go.RowKit Go.PlainAid
open Go.Proofs.YtglffbhcnafbnabDoor.pl Go.Proofs.YtglffbhcnafbnabDoor.pi Go.Proofs.YtglffbhcnafbnabDoor.rf Go.Proofs.YtglffbhcnafbnabDoor.pj Go.Proofs.YtglffbhcnafbnabDoor.ca Go.Proofs.YtglffbhcnafbnabDoor.cb Go.Proofs.YtglffbhcnafbnabDoor.cp Go.Proofs.YtglffbhcnafbnabDoor.cs Go.Proofs.YtglffbhcnafbnabDoor.ka Go.Proofs.YtglffbhcnafbnabDoor.kb Go.Proofs.YtglffbhcnafbnabDoor.ga Go.Proofs.YtglffbhcnafbnabDoor.aa Go.Proofs.YtglffbhcnafbnabDoor.ab
set_option linter.unusedVariables false

-- a list of numbers in memory
def ReadsI (w : World) (v : Value) (xs : List Int) : Prop :=
  ∃ a cap, v = .slice a xs.length cap ∧ xs.length ≤ cap ∧ (xs.length = 0 ∨ ∃ b off, a = some ⟨b, off, none⟩ ∧ ∀ i, i < xs.length → w.cell? ⟨b, off + i, none⟩ = some (.int .i64 (xs.getD i 0)))
theorem ReadsI.keep {w w' : World} {v : Value} {xs : List Int} (h : ReadsI w v xs) (hb : ∀ p u, w.cell? p = some u → w'.cell? p = some u) : ReadsI w' v xs := by
  obtain ⟨a, cap, rfl, hc, h0 | ⟨b, off, rfl, hh⟩⟩ := h
  · exact ⟨a, cap, rfl, hc, .inl h0⟩
  · exact ⟨_, cap, rfl, hc, .inr ⟨b, off, rfl, fun i hi => hb _ _ (hh i hi)⟩⟩
theorem ReadsI.later {w w' : World} {v : Value} {xs : List Int} (h : ReadsI w v xs) (hb : Below w.heap.size w w') : ReadsI w' v xs :=
  h.keep fun p u hu => (hb.cell (World.block_lt_of_cell? _ _ hu)).trans hu
-- what is said of the places
def bad (xs : List Int) (n : Int) (k : Nat) : Int :=
  if xs.getD k 0 < 0 then 81 else if n ≤ xs.getD k 0 then 81 else if 0 < k ∧ xs.getD k 0 ≤ xs.getD (k - 1) 0 then 84 else 0
def scan (f : Nat → Int) : Nat → Nat → Int
  | 0, _ => 0
  | m + 1, k => if f k = 0 then scan f m (k + 1) else f k
def places (xs : List Int) (n : Int) : Int := if xs.length = 0 then 82 else if 1024 < xs.length then 83 else scan (bad xs n) xs.length 0
theorem scan_ok (f : Nat → Int) (m : Nat) : ∀ k, scan f m k = 0 → ∀ j, k ≤ j → j < k + m → f j = 0 := by
  induction m with
  | zero => intro k h j h1 h2; omega
  | succ m ih =>
    intro k h j h1 h2
    unfold scan at h
    split at h
    · rename_i h0
      rcases Nat.eq_or_lt_of_le h1 with e | e
      · rw [← e]; exact h0
      · exact ih (k + 1) h j (by omega) (by omega)
    · contradiction
theorem places_ok {xs : List Int} {n : Int} (h : places xs n = 0) : 1 ≤ xs.length ∧ xs.length ≤ 1024 ∧ (∀ j, j < xs.length → 0 ≤ xs.getD j 0 ∧ xs.getD j 0 < n) ∧ (∀ j, j + 1 < xs.length → xs.getD j 0 < xs.getD (j + 1) 0) := by
  unfold places at h
  split at h
  · omega
  · split at h
    · omega
    · have hs := scan_ok (bad xs n) xs.length 0 h
      refine ⟨by omega, by omega, fun j hj => ?_, fun j hj => ?_⟩
      · have := hs j (Nat.zero_le _) (by omega)
        unfold bad at this
        split at this
        · omega
        · split at this
          · omega
          · omega
      · have := hs (j + 1) (Nat.zero_le _) (by omega)
        unfold bad at this
        split at this
        · omega
        · split at this
          · omega
          · split at this
            · omega
            · rename_i g
              rw [Nat.add_sub_cancel] at g
              omega
theorem rise_lt {xs : List Int} (h : ∀ j, j + 1 < xs.length → xs.getD j 0 < xs.getD (j + 1) 0) (i d : Nat) (hd : i + d + 1 < xs.length) : xs.getD i 0 < xs.getD (i + d + 1) 0 := by
  induction d with
  | zero => exact h i hd
  | succ d ih =>
    have h1 := ih (by omega)
    have h2 := h (i + d + 1) hd
    exact Int.lt_trans h1 h2
end Go.Proofs.YtglffbhcnafbnabDoor.mi

namespace Go.Proofs.YtglffbhcnafbnabDoor.mj
open Go.RowKit Go.PlainAid
open Go.Proofs.YtglffbhcnafbnabDoor.pl Go.Proofs.YtglffbhcnafbnabDoor.pi Go.Proofs.YtglffbhcnafbnabDoor.rf Go.Proofs.YtglffbhcnafbnabDoor.pj Go.Proofs.YtglffbhcnafbnabDoor.ca Go.Proofs.YtglffbhcnafbnabDoor.cb Go.Proofs.YtglffbhcnafbnabDoor.cp Go.Proofs.YtglffbhcnafbnabDoor.cs Go.Proofs.YtglffbhcnafbnabDoor.ka Go.Proofs.YtglffbhcnafbnabDoor.kb Go.Proofs.YtglffbhcnafbnabDoor.ga Go.Proofs.YtglffbhcnafbnabDoor.aa Go.Proofs.YtglffbhcnafbnabDoor.ab Go.Proofs.YtglffbhcnafbnabDoor.mi
set_option linter.unusedVariables false

set_option maxHeartbeats 1600000 in
theorem checkP (v : Value) (xs : List Int) (n : Int) (w : World) (hR : ReadsI w v xs) (hz : xs.length ≤ 140737488355328) :
    Calls Tryd.prog 39 #[v, .int .i64 n] w fun e w' => e = .returned (.int .i64 (places xs n)) ∧ w' = w := by
  obtain ⟨a, cap, rfl, _, h1⟩ := hR
  have HC : Hid (xs.length = 0 ∨ ∃ b off, a = some ⟨b, off, none⟩ ∧ ∀ i, i < xs.length → w.cell? ⟨b, off + i, none⟩ = some (.int .i64 (xs.getD i 0))) := h1
  obtain ⟨l, HN⟩ : ∃ n, Hid (xs.length = n) := ⟨_, rfl⟩
  obtain ⟨r, HR⟩ : ∃ r, Hid (places xs n = r) := ⟨_, rfl⟩
  rw [HR.out]
  rw [HN.out] at HC hz ⊢
  clear h1
  by_cases h0 : l = 0
  · have HE : Hid (r = 82) := by
      show _ = _
      rw [← HR.out]; unfold places; rw [HN.out, if_pos h0]
    subst h0
    go_enter Tryd.func39, Tryd.ntmps39
    go_wp2
    go_ret
    exact ⟨by first | (rw [HE.out]; done) | (rw [HE.out]; rfl), rfl⟩
  · have hb : ((l : Int) == 0) = false := by rw [beq_eq_false_iff_ne]; omega
    by_cases h2 : 1024 < l
    · have HE : Hid (r = 83) := by
        show _ = _
        rw [← HR.out]; unfold places; rw [HN.out, if_neg h0, if_pos h2]
      have hb2 : decide ((1024 : Int) < l) = true := decide_eq_true (by omega)
      clear h0 h2
      go_enter Tryd.func39, Tryd.ntmps39
      go_wp2
      go_ret
      exact ⟨by first | (rw [HE.out]; done) | (rw [HE.out]; rfl), rfl⟩
    · have HS0 : Hid (scan (bad xs n) l 0 = r) := by
        show _ = _
        rw [← HR.out]; unfold places; rw [HN.out, if_neg h0, if_neg h2]
      have hb2 : decide ((1024 : Int) < l) = false := decide_eq_false (by omega)
      have HL : Hid (l ≠ 0 ∧ l ≤ 1024) := ⟨h0, by omega⟩
      clear h0 h2
      go_enter Tryd.func39, Tryd.ntmps39
      go_wp2
      go_loopw [15] (fun i wr => ∃ k : Nat, k ≤ l ∧ i = .int .i64 k ∧ Hid (scan (bad xs n) (l - k) k = r) ∧ w = wr) (fun i _ => (l - intOf i).toNat)
      case atStart => exact ⟨0, by omega, rfl, HS0, rfl⟩
      case round =>
        obtain ⟨k, hk, rfl, HS, rfl⟩ := hrel
        have HB := HL.out
        by_cases hlt : k < l
        · have hlt' : (k : Int) < l := by omega
          obtain ⟨b, off, rfl, hc⟩ : ∃ b off, a = some ⟨b, off, none⟩ ∧ ∀ i, i < l → w.cell? ⟨b, off + i, none⟩ = some (.int .i64 (xs.getD i 0)) := by
            rcases HC.out with h | h
            · omega
            · exact h
          obtain ⟨X, HX⟩ : ∃ X, Hid (xs.getD k 0 = X) := ⟨_, rfl⟩
          have c1 := hc k hlt
          rw [HX.out] at c1
          have HST : Hid (scan (bad xs n) (l - k) k = if bad xs n k = 0 then scan (bad xs n) (l - (k + 1)) (k + 1) else bad xs n k) := by
            show _ = _
            rw [show l - k = (l - (k + 1)) + 1 by omega]; rfl
          by_cases x1 : X < 0
          · have d1 : decide (X < 0) = true := decide_eq_true x1
            have HE : Hid (r = 81) := by
              show _ = _
              rw [← HS.out, HST.out, show bad xs n k = 81 by unfold bad; rw [HX.out, if_pos x1]]; rfl
            clear x1 hc hb hb2 HB
            go_wp2
            go_ret
            exact ⟨by first | (rw [HE.out]; done) | (rw [HE.out]; rfl), rfl⟩
          · have d1 : decide (X < 0) = false := decide_eq_false x1
            by_cases x2 : n ≤ X
            · have d2 : decide (n ≤ X) = true := decide_eq_true x2
              have HE : Hid (r = 81) := by
                show _ = _
                rw [← HS.out, HST.out, show bad xs n k = 81 by unfold bad; rw [HX.out, if_neg x1, if_pos x2]]; rfl
              clear x1 x2 hc hb hb2 HB
              go_wp2
              go_ret
              exact ⟨by first | (rw [HE.out]; done) | (rw [HE.out]; rfl), rfl⟩
            · have d2 : decide (n ≤ X) = false := decide_eq_false x2
              cases k with
              | zero =>
                have HS1 : Hid (scan (bad xs n) (l - (0 + 1)) (0 + 1) = r) := by
                  show _ = _
                  rw [← HS.out, HST.out, if_pos (show bad xs n 0 = 0 by unfold bad; rw [HX.out, if_neg x1, if_neg x2, if_neg (by omega)])]
                have d3 : decide ((0 : Int) < ((0 : Nat) : Int)) = false := rfl
                rw [Nat.add_zero] at c1
                clear x1 x2 hc hb hb2 HB HX
                go_wp2
                go_roundw
                case rel => exact ⟨0 + 1, by omega, by go_num, HS1.out, by first | rfl | trivial⟩
                case measure => simp [intOf]; omega
              | succ k =>
                obtain ⟨Y, HY⟩ : ∃ X, Hid (xs.getD k 0 = X) := ⟨_, rfl⟩
                have c2 := hc k (by omega)
                rw [HY.out] at c2
                have e1 : (((k + 1 : Nat) : Int) - 1) = k := by omega
                have d3 : decide ((0 : Int) < ((k + 1 : Nat) : Int)) = true := decide_eq_true (by omega)
                by_cases x4 : X ≤ Y
                · have d4 : decide (X ≤ Y) = true := decide_eq_true x4
                  have HE : Hid (r = 84) := by
                    show _ = _
                    rw [← HS.out, HST.out, show bad xs n (k + 1) = 84 by unfold bad; rw [HX.out, Nat.add_sub_cancel, HY.out, if_neg x1, if_neg x2, if_pos ⟨by omega, x4⟩]]; rfl
                  clear x1 x2 x4 hc hb hb2 HB
                  go_wp2
                  go_ret
                  exact ⟨by first | (rw [HE.out]; done) | (rw [HE.out]; rfl), rfl⟩
                · have d4 : decide (X ≤ Y) = false := decide_eq_false x4
                  have HS1 : Hid (scan (bad xs n) (l - (k + 1 + 1)) (k + 1 + 1) = r) := by
                    show _ = _
                    rw [← HS.out, HST.out, if_pos (show bad xs n (k + 1) = 0 by unfold bad; rw [HX.out, Nat.add_sub_cancel, HY.out, if_neg x1, if_neg x2, if_neg (fun h => x4 h.2)])]
                  clear x1 x2 x4 hc hb hb2 HB
                  go_wp2
                  go_roundw
                  case rel => exact ⟨k + 1 + 1, by omega, by go_num, HS1.out, by first | rfl | trivial⟩
                  case measure => simp [intOf]; omega
        · have hlt' : ¬ (k : Int) < l := by omega
          have HE : Hid (r = 0) := by
            show _ = _
            rw [← HS.out, show l - k = 0 by omega]; rfl
          clear hlt hb hb2 HB
          go_wp2
          go_ret
          exact ⟨by first | (rw [HE.out]; done) | (rw [HE.out]; rfl), rfl⟩
end Go.Proofs.YtglffbhcnafbnabDoor.mj

namespace Go.Proofs.YtglffbhcnafbnabDoor.mk
open Go.RowKit Go.PlainAid
open Go.Proofs.YtglffbhcnafbnabDoor.pl Go.Proofs.YtglffbhcnafbnabDoor.pi Go.Proofs.YtglffbhcnafbnabDoor.rf Go.Proofs.YtglffbhcnafbnabDoor.pj Go.Proofs.YtglffbhcnafbnabDoor.ca Go.Proofs.YtglffbhcnafbnabDoor.cb Go.Proofs.YtglffbhcnafbnabDoor.cp Go.Proofs.YtglffbhcnafbnabDoor.cs Go.Proofs.YtglffbhcnafbnabDoor.ka Go.Proofs.YtglffbhcnafbnabDoor.kb Go.Proofs.YtglffbhcnafbnabDoor.ga Go.Proofs.YtglffbhcnafbnabDoor.aa Go.Proofs.YtglffbhcnafbnabDoor.ab Go.Proofs.YtglffbhcnafbnabDoor.mi
set_option linter.unusedVariables false

set_option maxHeartbeats 1600000 in
theorem placesD (v : Value) (xs : List Int) (n : Int) (w : World) (hR : ReadsI w v xs) (hz : xs.length ≤ 140737488355328) :
    Calls Tryd.prog 43 #[v, .int .i64 n] w fun e w' => e = .returned (.int .i64 (places xs n)) ∧ ∃ m, w' = w.drewN m := by
  obtain ⟨a, cap, rfl, _, h1⟩ := hR
  have HC : Hid (xs.length = 0 ∨ ∃ b off, a = some ⟨b, off, none⟩ ∧ ∀ i, i < xs.length → w.cell? ⟨b, off + i, none⟩ = some (.int .i64 (xs.getD i 0))) := h1
  obtain ⟨l, HN⟩ : ∃ n, Hid (xs.length = n) := ⟨_, rfl⟩
  obtain ⟨r, HR⟩ : ∃ r, Hid (places xs n = r) := ⟨_, rfl⟩
  rw [HR.out]
  rw [HN.out] at HC hz ⊢
  clear h1
  by_cases h0 : l = 0
  · have HE : Hid (r = 82) := by
      show _ = _
      rw [← HR.out]; unfold places; rw [HN.out, if_pos h0]
    subst h0
    go_enter Tryd.func43, Tryd.ntmps43
    go_wp2
    go_ret
    exact ⟨by first | (rw [HE.out]; done) | (rw [HE.out]; rfl), 0, rfl⟩
  · have hb : ((l : Int) == 0) = false := by rw [beq_eq_false_iff_ne]; omega
    by_cases h2 : 1024 < l
    · have HE : Hid (r = 83) := by
        show _ = _
        rw [← HR.out]; unfold places; rw [HN.out, if_neg h0, if_pos h2]
      have hb2 : decide ((1024 : Int) < l) = true := decide_eq_true (by omega)
      clear h0 h2
      go_enter Tryd.func43, Tryd.ntmps43
      go_wp2
      go_ret
      exact ⟨by first | (rw [HE.out]; done) | (rw [HE.out]; rfl), 0, rfl⟩
    · have HS0 : Hid (scan (bad xs n) l 0 = r) := by
        show _ = _
        rw [← HR.out]; unfold places; rw [HN.out, if_neg h0, if_neg h2]
      have hb2 : decide ((1024 : Int) < l) = false := decide_eq_false (by omega)
      have HL : Hid (l ≠ 0 ∧ l ≤ 1024) := ⟨h0, by omega⟩
      clear h0 h2
      go_enter Tryd.func43, Tryd.ntmps43
      go_wp2
      go_loopw [5] (fun i wr => ∃ k m : Nat, k ≤ l ∧ i = .int .i64 k ∧ Hid (scan (bad xs n) (l - k) k = r) ∧ wr = w.drewN m) (fun i _ => (l - intOf i).toNat)
      case atStart => exact ⟨0, 0, by omega, rfl, HS0, rfl⟩
      case round =>
        obtain ⟨k, m, hk, rfl, HS, rfl⟩ := hrel
        have HB := HL.out
        by_cases hlt : k < l
        · have hlt' : (k : Int) < l := by omega
          obtain ⟨b, off, rfl, hc⟩ : ∃ b off, a = some ⟨b, off, none⟩ ∧ ∀ i, i < l → w.cell? ⟨b, off + i, none⟩ = some (.int .i64 (xs.getD i 0)) := by
            rcases HC.out with h | h
            · omega
            · exact h
          obtain ⟨X, HX⟩ : ∃ X, Hid (xs.getD k 0 = X) := ⟨_, rfl⟩
          have c1 := hc k hlt
          rw [HX.out] at c1
          have HST : Hid (scan (bad xs n) (l - k) k = if bad xs n k = 0 then scan (bad xs n) (l - (k + 1)) (k + 1) else bad xs n k) := by
            show _ = _
            rw [show l - k = (l - (k + 1)) + 1 by omega]; rfl
          by_cases x1 : X < 0
          · have d1 : decide (X < 0) = true := decide_eq_true x1
            have HE : Hid (r = 81) := by
              show _ = _
              rw [← HS.out, HST.out, show bad xs n k = 81 by unfold bad; rw [HX.out, if_pos x1]]; rfl
            clear x1 hc hb hb2 HB
            go_wp2
            go_ret
            exact ⟨by first | (rw [HE.out]; done) | (rw [HE.out]; rfl), _, rfl⟩
          · have d1 : decide (X < 0) = false := decide_eq_false x1
            by_cases x2 : n ≤ X
            · have d2 : decide (n ≤ X) = true := decide_eq_true x2
              have HE : Hid (r = 81) := by
                show _ = _
                rw [← HS.out, HST.out, show bad xs n k = 81 by unfold bad; rw [HX.out, if_neg x1, if_pos x2]]; rfl
              clear x1 x2 hc hb hb2 HB
              go_wp2
              go_ret
              exact ⟨by first | (rw [HE.out]; done) | (rw [HE.out]; rfl), _, rfl⟩
            · have d2 : decide (n ≤ X) = false := decide_eq_false x2
              cases k with
              | zero =>
                have HS1 : Hid (scan (bad xs n) (l - (0 + 1)) (0 + 1) = r) := by
                  show _ = _
                  rw [← HS.out, HST.out, if_pos (show bad xs n 0 = 0 by unfold bad; rw [HX.out, if_neg x1, if_neg x2, if_neg (by omega)])]
                have d3 : decide ((0 : Int) < ((0 : Nat) : Int)) = false := rfl
                rw [Nat.add_zero] at c1
                clear x1 x2 hc hb hb2 HB HX
                go_wp2_with fail
                go_quiet (fail)
                go_wp2
                go_roundw
                case rel => exact ⟨0 + 1, _, by omega, by go_num, HS1.out, rfl⟩
                case measure => simp [intOf]; omega
              | succ k =>
                obtain ⟨Y, HY⟩ : ∃ X, Hid (xs.getD k 0 = X) := ⟨_, rfl⟩
                have c2 := hc k (by omega)
                rw [HY.out] at c2
                have e1 : (((k + 1 : Nat) : Int) - 1) = k := by omega
                have d3 : decide ((0 : Int) < ((k + 1 : Nat) : Int)) = true := decide_eq_true (by omega)
                by_cases x4 : X ≤ Y
                · have d4 : decide (X ≤ Y) = true := decide_eq_true x4
                  have HE : Hid (r = 84) := by
                    show _ = _
                    rw [← HS.out, HST.out, show bad xs n (k + 1) = 84 by unfold bad; rw [HX.out, Nat.add_sub_cancel, HY.out, if_neg x1, if_neg x2, if_pos ⟨by omega, x4⟩]]; rfl
                  clear x1 x2 x4 hc hb hb2 HB
                  go_wp2_with fail
                  go_quiet (fail)
                  go_wp2
                  go_ret
                  exact ⟨by first | (rw [HE.out]; done) | (rw [HE.out]; rfl), m + nq, by rw [World.drewN_drewN]⟩
                · have d4 : decide (X ≤ Y) = false := decide_eq_false x4
                  have HS1 : Hid (scan (bad xs n) (l - (k + 1 + 1)) (k + 1 + 1) = r) := by
                    show _ = _
                    rw [← HS.out, HST.out, if_pos (show bad xs n (k + 1) = 0 by unfold bad; rw [HX.out, Nat.add_sub_cancel, HY.out, if_neg x1, if_neg x2, if_neg (fun h => x4 h.2)])]
                  clear x1 x2 x4 hc hb hb2 HB
                  go_wp2_with fail
                  go_quiet (fail)
                  go_wp2
                  go_roundw
                  case rel => exact ⟨k + 1 + 1, _, by omega, by go_num, HS1.out, rfl⟩
                  case measure => simp [intOf]; omega
        · have hlt' : ¬ (k : Int) < l := by omega
          have HE : Hid (r = 0) := by
            show _ = _
            rw [← HS.out, show l - k = 0 by omega]; rfl
          clear hlt hb hb2 HB
          go_wp2
          go_ret
          exact ⟨by first | (rw [HE.out]; done) | (rw [HE.out]; rfl), _, rfl⟩
end Go.Proofs.YtglffbhcnafbnabDoor.mk

namespace Go.Proofs.YtglffbhcnafbnabDoor.mn
open Go.RowKit Go.PlainAid
open Go.Proofs.YtglffbhcnafbnabDoor.pl Go.Proofs.YtglffbhcnafbnabDoor.pi Go.Proofs.YtglffbhcnafbnabDoor.rf Go.Proofs.YtglffbhcnafbnabDoor.pj Go.Proofs.YtglffbhcnafbnabDoor.ca Go.Proofs.YtglffbhcnafbnabDoor.cb Go.Proofs.YtglffbhcnafbnabDoor.cp Go.Proofs.YtglffbhcnafbnabDoor.cs Go.Proofs.YtglffbhcnafbnabDoor.ka Go.Proofs.YtglffbhcnafbnabDoor.kb Go.Proofs.YtglffbhcnafbnabDoor.ga Go.Proofs.YtglffbhcnafbnabDoor.aa Go.Proofs.YtglffbhcnafbnabDoor.ab Go.Proofs.YtglffbhcnafbnabDoor.mi
set_option linter.unusedVariables false

theorem nan1 (x : Int) (w : World) : Calls Tryd.prog 63 #[.int .i64 x] w fun e w' => e = .returned (.bool false) ∧ w' = w := by
  have h : (x == x) = true := beq_self_eq_true _
  go_enter Tryd.func63, Tryd.ntmps63
  go_wp2
  go_ret
  exact ⟨by first | rfl | simp, rfl⟩
theorem nan2 (x : Int) (w : World) : Calls Tryd.prog 54 #[.int .i64 x] w fun e w' => e = .returned (.bool false) ∧ w' = w := by
  have h : (x == x) = true := beq_self_eq_true _
  go_enter Tryd.func54, Tryd.ntmps54
  go_wp2
  go_ret
  exact ⟨by first | rfl | simp, rfl⟩
theorem less (x y : Int) (w : World) : Calls Tryd.prog 53 #[.int .i64 x, .int .i64 y] w fun e w' => e = .returned (.bool (decide (x < y))) ∧ w' = w := by
  have N1 : Hid (∀ w, Calls _ _ _ _ _) := fun w => nan1 x w
  go_enter Tryd.func53, Tryd.ntmps53
  go_wp2_with fail
  refine (N1.out _).mono ?_
  rintro e w1 ⟨rfl, rfl⟩
  go_wp2
  go_ret
  exact ⟨by first | rfl | simp, rfl⟩
def Lo (xs : List Int) (t : Int) (l i : Nat) : Prop := (∀ j, j < i → xs.getD j 0 < t) ∧ (∀ j, i ≤ j → j < l → t ≤ xs.getD j 0)
def Found (xs : List Int) (t : Int) (l : Nat) (w : World) (e : Ending) (w' : World) : Prop := (∃ (i : Nat) (f : Bool), e = .returned (.tuple #[.int .i64 i, .bool f]) ∧ i ≤ l ∧ Lo xs t l i) ∧ w' = w
set_option maxHeartbeats 1600000 in
theorem bsearch (v : Value) (xs : List Int) (t : Int) (w : World) (hR : ReadsI w v xs) (hz : xs.length ≤ 1024) (hs : ∀ j, j + 1 < xs.length → xs.getD j 0 < xs.getD (j + 1) 0) :
    Calls Tryd.prog 42 #[v, .int .i64 t] w (Found xs t xs.length w) := by
  have LE : Hid (∀ x w, Calls _ _ _ _ _) := fun x w => less x t w
  have NA : Hid (∀ x w, Calls _ _ _ _ _) := fun x w => nan2 x w
  have RI : Hid (∀ i j, i ≤ j → j < xs.length → xs.getD i 0 ≤ xs.getD j 0) := fun i j h1 h2 => by
    rcases Nat.eq_or_lt_of_le h1 with e | e
    · rw [e]; exact Int.le_refl _
    · have := rise_lt hs i (j - i - 1) (by omega)
      rw [show i + (j - i - 1) + 1 = j by omega] at this
      exact Int.le_of_lt this
  obtain ⟨a, cap, rfl, _, h1⟩ := hR
  have HC : Hid (xs.length = 0 ∨ ∃ b off, a = some ⟨b, off, none⟩ ∧ ∀ i, i < xs.length → w.cell? ⟨b, off + i, none⟩ = some (.int .i64 (xs.getD i 0))) := h1
  obtain ⟨l, HN⟩ : ∃ n, Hid (xs.length = n) := ⟨_, rfl⟩
  rw [HN.out] at HC hz RI ⊢
  clear h1 hs
  go_enter Tryd.func42, Tryd.ntmps42
  go_wp2
  go_loopw [7, 8] (fun x y wr => ∃ i j : Nat, i ≤ j ∧ j ≤ l ∧ x = .int .i64 i ∧ y = .int .i64 j ∧ Hid ((∀ p, p < i → xs.getD p 0 < t) ∧ (∀ p, j ≤ p → p < l → t ≤ xs.getD p 0)) ∧ w = wr) (fun x y _ => (intOf y - intOf x).toNat)
  case atStart => exact ⟨0, l, by omega, by omega, rfl, rfl, ⟨fun p h => by omega, fun p h1 h2 => by omega⟩, rfl⟩
  case round =>
    obtain ⟨i, j, hij, hjl, rfl, rfl, HS, rfl⟩ := hrel
    by_cases hlt : i < j
    · have hlt' : (i : Int) < j := by omega
      obtain ⟨b, off, rfl, hc⟩ : ∃ b off, a = some ⟨b, off, none⟩ ∧ ∀ i, i < l → w.cell? ⟨b, off + i, none⟩ = some (.int .i64 (xs.getD i 0)) := by
        rcases HC.out with h | h
        · omega
        · exact h
      have hm : i ≤ (i + j) / 2 ∧ (i + j) / 2 < j := by omega
      obtain ⟨X, HX⟩ : ∃ X, Hid (xs.getD ((i + j) / 2) 0 = X) := ⟨_, rfl⟩
      have c1 := hc ((i + j) / 2) (by omega)
      rw [HX.out] at c1
      have LX : Hid (∀ w, Calls _ _ _ _ _) := fun w => LE.out X w
      by_cases hx : X < t
      · have HS1 : Hid ((∀ p, p < (i + j) / 2 + 1 → xs.getD p 0 < t) ∧ (∀ p, j ≤ p → p < l → t ≤ xs.getD p 0)) := ⟨fun p hp => Int.lt_of_le_of_lt (RI.out p ((i + j) / 2) (by omega) (by omega)) (by rw [HX.out]; exact hx), HS.out.2⟩
        rw [decide_eq_true hx] at LX
        clear hc
        go_wp2_with fail
        refine (LX.out _).mono ?_
        rintro e w1 ⟨rfl, rfl⟩
        go_wp2
        go_roundw
        case rel => exact ⟨(i + j) / 2 + 1, j, by omega, by omega, by first | go_num | (congr 1), rfl, HS1, by first | rfl | trivial⟩
        case measure => simp [intOf]; omega
      · have HS1 : Hid ((∀ p, p < i → xs.getD p 0 < t) ∧ (∀ p, (i + j) / 2 ≤ p → p < l → t ≤ xs.getD p 0)) := ⟨HS.out.1, fun p h1 h2 => Int.le_trans (by have := HX.out; omega) (RI.out ((i + j) / 2) p h1 h2)⟩
        rw [decide_eq_false hx] at LX
        clear hc
        go_wp2_with fail
        refine (LX.out _).mono ?_
        rintro e w1 ⟨rfl, rfl⟩
        go_wp2
        go_roundw
        case rel => exact ⟨i, (i + j) / 2, by omega, by omega, rfl, by first | go_num | (congr 1), HS1, by first | rfl | trivial⟩
        case measure => simp [intOf]; omega
    · have hlt' : ¬ (i : Int) < j := by omega
      have HL : Hid (i ≤ l ∧ Lo xs t l i) := ⟨by omega, HS.out.1, fun p h1 h2 => HS.out.2 p (by omega) h2⟩
      by_cases hil : i < l
      · have d1 : decide ((i : Int) < l) = true := decide_eq_true (by omega)
        obtain ⟨b, off, rfl, hc⟩ : ∃ b off, a = some ⟨b, off, none⟩ ∧ ∀ i, i < l → w.cell? ⟨b, off + i, none⟩ = some (.int .i64 (xs.getD i 0)) := by
          rcases HC.out with h | h
          · omega
          · exact h
        obtain ⟨X, HX⟩ : ∃ X, Hid (xs.getD i 0 = X) := ⟨_, rfl⟩
        have c1 := hc i hil
        rw [HX.out] at c1
        have NX : Hid (∀ w, Calls _ _ _ _ _) := fun w => NA.out X w
        clear hc
        by_cases hx : X = t
        · have d2 : (X == t) = true := by rw [beq_iff_eq]; exact hx
          clear hx
          go_wp2
          go_ret2
          exact ⟨⟨i, _, rfl, HL.out.1, HL.out.2⟩, rfl⟩
        · have d2 : (X == t) = false := by rw [beq_eq_false_iff_ne]; exact hx
          clear hx
          go_wp2_with fail
          refine (NX.out _).mono ?_
          rintro e w1 ⟨rfl, rfl⟩
          go_wp2
          go_ret2
          exact ⟨⟨i, _, rfl, HL.out.1, HL.out.2⟩, rfl⟩
      · have d1 : decide ((i : Int) < l) = false := decide_eq_false (by omega)
        go_wp2
        go_ret2
        exact ⟨⟨i, _, rfl, HL.out.1, HL.out.2⟩, rfl⟩
end Go.Proofs.YtglffbhcnafbnabDoor.mn

namespace Go.Proofs.YtglffbhcnafbnabDoor.mo
open Go.RowKit Go.PlainAid
open Go.Proofs.YtglffbhcnafbnabDoor.pl Go.Proofs.YtglffbhcnafbnabDoor.pi Go.Proofs.YtglffbhcnafbnabDoor.pj Go.Proofs.YtglffbhcnafbnabDoor.rf Go.Proofs.YtglffbhcnafbnabDoor.ca Go.Proofs.YtglffbhcnafbnabDoor.cb Go.Proofs.YtglffbhcnafbnabDoor.cp Go.Proofs.YtglffbhcnafbnabDoor.ka Go.Proofs.YtglffbhcnafbnabDoor.kb Go.Proofs.YtglffbhcnafbnabDoor.cs Go.Proofs.YtglffbhcnafbnabDoor.mi
set_option linter.unusedVariables false

theorem hi9i : (Tryd.prog.info? 3).map (fun i => (i.zero, i.size, i.bytes)) = some (some (.int .i64 0), 1, 8) := by kernel_rfl
theorem one_ints (hs : List Int) : ∀ u ∈ hs.map (Value.int .i64), u.oneCell' = true := by
  intro u hu
  obtain ⟨x, _, rfl⟩ := List.mem_map.1 hu
  rfl
set_option maxRecDepth 100000 in
set_option maxHeartbeats 800000 in
theorem clone (u : Value) (hs : List Int) (w : World) (hR : ReadsI w u hs) (hn : hs.length ≤ 1048576) :
    Calls Tryd.prog 40 #[u] w fun e w' => (∃ a l c, e = .returned (.slice a l c) ∧ w'.ownsRow w.heap.size 3 1 (.slice a l c) hs.length (hs.map (Value.int .i64))) ∧ Below w.heap.size w w' := by
  obtain ⟨i9, hi, hz0, hz1, hz2⟩ := info_parts hi9i
  have HIN : Hid (_ ∧ _ ∧ _ ∧ _) := ⟨hi, hz0, hz1, hz2⟩
  obtain ⟨a, cap, rfl, hcap, hh⟩ := hR
  have HH : Hid (hs.length = 0 ∨ ∃ b off, a = some ⟨b, off, none⟩ ∧ ∀ i, i < hs.length → w.cell? ⟨b, off + i, none⟩ = some (.int .i64 (hs.getD i 0))) := hh
  obtain ⟨n, HN⟩ : ∃ n, Hid (hs.length = n) := ⟨_, rfl⟩
  clear hh hi hz0 hz1 hz2
  cases a with
  | none =>
    have h0 : hs = [] := by
      rcases HH.out with h | ⟨b, off, e, _⟩
      · exact List.length_eq_zero_iff.1 h
      · cases e
    subst h0
    simp only [List.length_nil] at hcap ⊢
    have q := fun w => Lib.run_eql_slice_nil (P := Tryd.prog) w 41 3 none 0 cap 0 0 Tryd.underlying41
    clear HH HN hn hcap
    go_enter Tryd.func40, Tryd.ntmps40
    go_wp2
    go_ret
    exact ⟨⟨_, _, _, rfl, World.ownsRow_nil _ _ _ _⟩, Below.refl _ _⟩
  | some ad =>
    have q := fun w n => Lib.run_eql_slice_nil (P := Tryd.prog) w 41 3 (some ad) n cap 0 0 Tryd.underlying41
    have NX : Hid (∀ (W : World), Below w.heap.size w W → ∀ (j : Nat) (u : Value), (hs.map (Value.int .i64))[j]? = some u → W.cell? (ad.add j) = some u) := by
      intro W hW j u hu
      rw [List.getElem?_map] at hu
      obtain ⟨x, hx, rfl⟩ := Option.map_eq_some_iff.1 hu
      have hj := (List.getElem?_eq_some_iff.1 hx).1
      rcases HH.out with h | ⟨b, off, e, hc⟩
      · omega
      · have e := Option.some.inj e
        subst e
        have c1 := hc j hj
        rw [List.getD_eq_getElem?_getD, hx] at c1
        rw [show (Addr.add ⟨b, off, none⟩ j) = ⟨b, off + j, none⟩ by cases j <;> simp [Addr.add]]
        exact (hW.cell (World.block_lt_of_cell? _ _ c1)).trans c1
    have B1 : Hid (Below w.heap.size w (w.alloc (.cells #[] 3))) := (Below.refl _ _).alloc (Nat.le_refl _) _
    have OX : Hid ((w.alloc (.cells #[] 3)).ownsRow w.heap.size 3 1 (.slice (some ⟨w.heap.size, 0, none⟩) 0 0) 0 []) := World.ownsRow_made w #[] 0 (Nat.le_refl _) (by unfold maxLen; omega) (by simp)
    have SZ : Hid (w.heap.size ≤ (w.alloc (.cells #[] 3)).heap.size) := B1.out.size
    rw [HN.out] at hn ⊢
    clear hcap HH
    go_enter Tryd.func40, Tryd.ntmps40
    go_wp2_with (at_builtin; refine wpList_append_own _ rfl _ _ 41 rfl w.heap.size 3 i9 (.int .i64 0) 1 8 Tryd.underlying41 HIN.out.1 HIN.out.2.1 HIN.out.2.2.1 HIN.out.2.2.2 rfl (by decide) _ 0 _ rfl OX.out ad n cap (hs.map (Value.int .i64)) rfl (by rw [List.length_map, HN.out]; omega) (NX.out _ B1.out) (one_ints _) (by unfold maxLen; omega) (by omega) SZ.out ?_; intro p' w5 ho hg hnn; have HO5 : Hid (w5.ownsRow w.heap.size 3 1 p' (0 + n) ([] ++ hs.map (Value.int .i64))) := ho; have HB5 : Hid (Below w.heap.size w w5) := Below.grown B1.out hg SZ.out (fun jj hj => (OX.out.lt _ hj).1); clear ho hg hnn)
    go_ret
    have HO6 : w5.ownsRow w.heap.size 3 1 p' n (hs.map (Value.int .i64)) := by have := HO5.out; rw [Nat.zero_add, List.nil_append] at this; exact this
    obtain ⟨pa, pc, rfl⟩ := own_formS HO6
    exact ⟨⟨_, _, _, rfl, HO6⟩, HB5.out⟩
end Go.Proofs.YtglffbhcnafbnabDoor.mo

namespace Go.Proofs.YtglffbhcnafbnabDoor.mp
open Go.RowKit Go.PlainAid
open Go.Proofs.YtglffbhcnafbnabDoor.bi Go.Proofs.YtglffbhcnafbnabDoor.pl Go.Proofs.YtglffbhcnafbnabDoor.pi Go.Proofs.YtglffbhcnafbnabDoor.rf Go.Proofs.YtglffbhcnafbnabDoor.pj Go.Proofs.YtglffbhcnafbnabDoor.ca Go.Proofs.YtglffbhcnafbnabDoor.cb Go.Proofs.YtglffbhcnafbnabDoor.cp Go.Proofs.YtglffbhcnafbnabDoor.cs Go.Proofs.YtglffbhcnafbnabDoor.ct Go.Proofs.YtglffbhcnafbnabDoor.ka Go.Proofs.YtglffbhcnafbnabDoor.kb Go.Proofs.YtglffbhcnafbnabDoor.ga Go.Proofs.YtglffbhcnafbnabDoor.aa Go.Proofs.YtglffbhcnafbnabDoor.ab Go.Proofs.YtglffbhcnafbnabDoor.tb Go.Proofs.YtglffbhcnafbnabDoor.ac Go.Proofs.YtglffbhcnafbnabDoor.ba Go.Proofs.YtglffbhcnafbnabDoor.bb Go.Proofs.YtglffbhcnafbnabDoor.bc Go.Proofs.YtglffbhcnafbnabDoor.bd Go.Proofs.YtglffbhcnafbnabDoor.be Go.Proofs.YtglffbhcnafbnabDoor.bg Go.Proofs.YtglffbhcnafbnabDoor.bh Go.Proofs.YtglffbhcnafbnabDoor.mi Go.Proofs.YtglffbhcnafbnabDoor.mj Go.Proofs.YtglffbhcnafbnabDoor.mn Go.Proofs.YtglffbhcnafbnabDoor.mo
set_option linter.unusedVariables false

-- places as numbers from 0 on
def natL (xs : List Int) : List Nat := xs.map Int.toNat
def Rise (xs : List Int) : Prop := 1 ≤ xs.length ∧ xs.length ≤ 1024 ∧ (∀ j, j < xs.length → 0 ≤ xs.getD j 0) ∧ (∀ j, j + 1 < xs.length → xs.getD j 0 < xs.getD (j + 1) 0)
theorem mem_nat {xs : List Int} {p : Nat} (h : ∀ j, j < xs.length → 0 ≤ xs.getD j 0) : p ∈ natL xs ↔ ∃ j, j < xs.length ∧ xs.getD j 0 = p := by
  unfold natL
  rw [List.mem_map]
  constructor
  · rintro ⟨x, hx, rfl⟩
    obtain ⟨j, hj, rfl⟩ := List.mem_iff_getElem.1 hx
    have e : xs.getD j 0 = xs[j] := by rw [List.getD_eq_getElem?_getD, List.getElem?_eq_getElem hj]; rfl
    have := h j hj
    exact ⟨j, hj, by rw [e] at this ⊢; omega⟩
  · rintro ⟨j, hj, e⟩
    have e2 : xs.getD j 0 = xs[j] := by rw [List.getD_eq_getElem?_getD, List.getElem?_eq_getElem hj]; rfl
    exact ⟨xs[j], List.getElem_mem hj, by rw [← e2, e]; rfl⟩
theorem lk_none {xs : List Int} (hg : Rise xs) {a b i : Nat} (hL : Lo xs a xs.length i) (h : i = xs.length ∨ (b : Int) ≤ xs.getD i 0) (hi : i ≤ xs.length) : lkM (natL xs) a b = 1 := by
  unfold lkM
  rw [if_neg]
  rintro ⟨p, hp, h1, h2⟩
  obtain ⟨j, hj, e⟩ := (mem_nat hg.2.2.1).1 hp
  rcases Nat.lt_or_ge j i with g | g
  · have := hL.1 j g
    omega
  · rcases h with h | h
    · omega
    · rcases Nat.eq_or_lt_of_le g with q | q
      · subst q; omega
      · have := rise_lt hg.2.2.2 i (j - i - 1) (by omega)
        rw [show i + (j - i - 1) + 1 = j by omega] at this
        omega
theorem lk_some {xs : List Int} (hg : Rise xs) {a b i : Nat} (hL : Lo xs a xs.length i) (hi : i < xs.length) (h : ¬ (b : Int) ≤ xs.getD i 0) : lkM (natL xs) a b = if b - a = 1 then 0 else 2 := by
  unfold lkM
  rw [if_pos]
  have h0 := hg.2.2.1 i hi
  have h1 := hL.2 i (Nat.le_refl _) hi
  exact ⟨(xs.getD i 0).toNat, (mem_nat hg.2.2.1).2 ⟨i, hi, by omega⟩, by omega, by omega⟩
-- what Multi does at a part: the places lie in block c of the call's own
def MP (c : Nat) (xs : List Int) (w : World) : Prop := ∃ v, w.cell? ⟨c, 0, none⟩ = some v ∧ ReadsI w v xs
set_option maxHeartbeats 1600000 in
theorem lookM (c : Nat) (xs : List Int) (a b : Nat) (w : World) (hg : Rise xs) (hab : a < b) (hb : b ≤ 4611686018427387904) (hP : MP c xs w) :
    Calls Tryd.prog 41 #[.agg #[.int .i64 a, .int .i64 b], .pointer (some ⟨c, 0, none⟩)] w fun e w' => e = .returned (.int .i64 (lkM (natL xs) a b : Nat)) ∧ Below w.heap.size w w' := by
  obtain ⟨v, hv, hr⟩ := hP
  have BA : Hid (Below w.heap.size w (w.alloc (.cells #[.int .i64 a, .int .i64 b] 62))) := (Below.refl w.heap.size w).alloc (Nat.le_refl _) _
  have c1 : (w.alloc (.cells #[.int .i64 a, .int .i64 b] 62)).cell? ⟨c, 0, none⟩ = some v := (BA.out.cell (World.block_lt_of_cell? _ _ hv)).trans hv
  have BS : Hid (Calls _ _ _ _ _) := bsearch v xs a (w.alloc (.cells #[.int .i64 a, .int .i64 b] 62)) (hr.later BA.out) hg.2.1 hg.2.2.2
  have LF : Hid (∀ w, Calls _ _ _ _ _) := fun w => isLeaf a b (by omega) hb w
  have RD : Hid (ReadsI (w.alloc (.cells #[.int .i64 a, .int .i64 b] 62)) v xs) := hr.later BA.out
  have HG : Hid (Rise xs) := hg
  obtain ⟨r, HR⟩ : ∃ r, Hid (lkM (natL xs) a b = r) := ⟨_, rfl⟩
  rw [HR.out]
  obtain ⟨va, cap, rfl, hcap, hh⟩ := RD.out
  have HC : Hid (xs.length = 0 ∨ ∃ g off, va = some ⟨g, off, none⟩ ∧ ∀ i, i < xs.length → (w.alloc (.cells #[.int .i64 a, .int .i64 b] 62)).cell? ⟨g, off + i, none⟩ = some (.int .i64 (xs.getD i 0))) := hh
  have KN : Hid (∀ i : Nat, i ≤ xs.length → Lo xs a xs.length i → (i = xs.length ∨ (b : Int) ≤ xs.getD i 0) → 1 = r) := fun i h1 h2 h3 => by rw [← HR.out, lk_none hg h2 h3 h1]
  have KS : Hid (∀ i : Nat, i < xs.length → Lo xs a xs.length i → (¬ (b : Int) ≤ xs.getD i 0) → (if b - a = 1 then 0 else 2) = r) := fun i h1 h2 h3 => by rw [← HR.out, lk_some hg h2 h1 h3]
  obtain ⟨l, HN⟩ : ∃ n, Hid (xs.length = n) := ⟨_, rfl⟩
  have hl : l ≤ 1024 := by rw [← HN.out]; exact hg.2.1
  rw [HN.out] at c1 BS HC KN KS
  clear hv hr hg RD hcap hh HG
  go_enter Tryd.func41, Tryd.ntmps41
  go_wp2_with fail
  refine BS.out.mono ?_
  rintro e w1 ⟨⟨i, f, rfl, hi, hL⟩, rfl⟩
  have HL : Hid (Lo xs a l i) := hL
  clear hL BS
  by_cases h1 : i = l
  · obtain rfl : 1 = r := KN.out i hi HL.out (.inl h1)
    subst h1
    have d1 : ((i : Int) == i) = true := beq_self_eq_true _
    go_wp2_with fail
    go_quiet (fail)
    go_wp2
    go_ret
    exact ⟨rfl, (below_dN BA.out _)⟩
  · have d1 : ((i : Int) == l) = false := by rw [beq_eq_false_iff_ne]; omega
    have hil : i < l := by omega
    obtain ⟨g, off, rfl, hc⟩ : ∃ g off, va = some ⟨g, off, none⟩ ∧ ∀ i, i < l → (w.alloc (.cells #[.int .i64 a, .int .i64 b] 62)).cell? ⟨g, off + i, none⟩ = some (.int .i64 (xs.getD i 0)) := by
      rcases HC.out with h | h
      · omega
      · exact h
    have c2 := hc i hil
    have KN1 : Hid (_ → _) := fun h => KN.out i hi HL.out (.inr h)
    have KS1 : Hid (_ → _) := fun h => KS.out i hil HL.out h
    obtain ⟨X, HX⟩ : ∃ X, Hid (xs.getD i 0 = X) := ⟨_, rfl⟩
    rw [HX.out] at c2 KN1 KS1
    clear hc HC KN KS h1
    by_cases h2 : (b : Int) ≤ X
    · obtain rfl : 1 = r := KN1.out h2
      have d2 : decide ((b : Int) ≤ X) = true := decide_eq_true h2
      clear h2
      go_wp2_with fail
      go_quiet (fail)
      go_wp2
      go_ret
      exact ⟨rfl, (below_dN BA.out _)⟩
    · have d2 : decide ((b : Int) ≤ X) = false := decide_eq_false h2
      by_cases h3 : b - a = 1
      · obtain rfl : 0 = r := by have := KS1.out (by omega); rw [if_pos h3] at this; exact this
        rw [decide_eq_true h3] at LF
        clear h2 h3
        go_wp2_with fail
        go_quiet (fail)
        go_wp2_with fail
        refine (LF.out _).mono ?_
        rintro e w2 ⟨rfl, hb2⟩
        have B2 : Hid (Below w.heap.size w w2) := over (below_dN BA.out _) hb2
        clear hb2
        go_wp2
        go_ret
        exact ⟨rfl, B2.out⟩
      · obtain rfl : 2 = r := by have := KS1.out (by omega); rw [if_neg h3] at this; exact this
        rw [decide_eq_false h3] at LF
        clear h2 h3
        go_wp2_with fail
        go_quiet (fail)
        go_wp2_with fail
        refine (LF.out _).mono ?_
        rintro e w2 ⟨rfl, hb2⟩
        have B2 : Hid (Below w.heap.size w w2) := over (below_dN BA.out _) hb2
        clear hb2
        go_wp2
        go_ret
        exact ⟨rfl, B2.out⟩
end Go.Proofs.YtglffbhcnafbnabDoor.mp

namespace Go.Proofs.YtglffbhcnafbnabDoor.mq
open Go.RowKit Go.PlainAid
open Go.Proofs.YtglffbhcnafbnabDoor.bi Go.Proofs.YtglffbhcnafbnabDoor.pl Go.Proofs.YtglffbhcnafbnabDoor.pi Go.Proofs.YtglffbhcnafbnabDoor.rf Go.Proofs.YtglffbhcnafbnabDoor.pj Go.Proofs.YtglffbhcnafbnabDoor.ca Go.Proofs.YtglffbhcnafbnabDoor.cb Go.Proofs.YtglffbhcnafbnabDoor.cp Go.Proofs.YtglffbhcnafbnabDoor.cs Go.Proofs.YtglffbhcnafbnabDoor.ct Go.Proofs.YtglffbhcnafbnabDoor.ka Go.Proofs.YtglffbhcnafbnabDoor.kb Go.Proofs.YtglffbhcnafbnabDoor.ga Go.Proofs.YtglffbhcnafbnabDoor.aa Go.Proofs.YtglffbhcnafbnabDoor.ab Go.Proofs.YtglffbhcnafbnabDoor.tb Go.Proofs.YtglffbhcnafbnabDoor.ac Go.Proofs.YtglffbhcnafbnabDoor.ba Go.Proofs.YtglffbhcnafbnabDoor.bb Go.Proofs.YtglffbhcnafbnabDoor.bc Go.Proofs.YtglffbhcnafbnabDoor.bd Go.Proofs.YtglffbhcnafbnabDoor.be Go.Proofs.YtglffbhcnafbnabDoor.bg Go.Proofs.YtglffbhcnafbnabDoor.bh Go.Proofs.YtglffbhcnafbnabDoor.mi Go.Proofs.YtglffbhcnafbnabDoor.mj Go.Proofs.YtglffbhcnafbnabDoor.mn Go.Proofs.YtglffbhcnafbnabDoor.mo Go.Proofs.YtglffbhcnafbnabDoor.mp
set_option linter.unusedVariables false

theorem own_readsI {w : World} {B n : Nat} {v : Value} {xs : List Int} (h : w.ownsRow B 3 1 v n (xs.map (Value.int .i64))) : ReadsI w v xs := by
  have hn : xs.length = n := by have := h.1; simpa using this
  subst hn
  rcases h.2 with ⟨rfl, h0⟩ | ⟨g, cap, cur, rfl, _, hg, hc, _⟩
  · exact ⟨none, 0, by rw [h0], by omega, .inl h0⟩
  · refine ⟨_, cap, rfl, hc, .inr ⟨g, 0, rfl, fun i hi => ?_⟩⟩
    rw [Nat.zero_add, h.cellAt i (by omega), List.getElem?_map, List.getElem?_eq_getElem hi, List.getD_eq_getElem?_getD, List.getElem?_eq_getElem hi]
    rfl
theorem LkM (c : Nat) (xs : List Int) (hg : Rise xs) : Lk 41 #[.pointer (some ⟨c, 0, none⟩)] (lkM (natL xs)) (MP c xs) where
  enter := fun args w => by simp [go_sem]
  call := fun a b w hab hb hP => lookM c xs a b w hg hab hb hP
  wide := fun a b hab h => by
    unfold lkM at h
    split at h
    · split at h <;> omega
    · omega
  four := fun a b => by
    unfold lkM
    split
    · split <;> omega
    · omega
theorem good_of {xs : List Int} {n : Int} (h : places xs n = 0) : Rise xs := by
  obtain ⟨h1, h2, h3, h4⟩ := places_ok h
  exact ⟨h1, h2, fun j hj => (h3 j hj).1, h4⟩
theorem pos_of {xs : List Int} {n : Int} (h : places xs n = 0) : 1 ≤ n := by
  obtain ⟨h1, h2, h3, h4⟩ := places_ok h
  have := h3 0 (by omega)
  omega
theorem multi_short {xs : List Int} {n : Int} (h : places xs n = 0) {m : Nat} (hm : (m : Int) = n) (hb : m ≤ 4611686018427387904) : (WL (lkM (natL xs)) 0 m).length ≤ 63488 := by
  obtain ⟨h1, h2, h3, h4⟩ := places_ok h
  have hn : inM (natL xs) 0 m ≠ [] := by
    intro e
    refine (inM_nil _ _ _).1 e ?_
    have h0 := h3 0 (by omega)
    exact ⟨(xs.getD 0 0).toNat, (mem_nat (fun j hj => (h3 j hj).1)).2 ⟨0, by omega, by omega⟩, by omega, by omega⟩
  have := multi_len (natL xs) 62 0 m (by rw [p62]; omega) (by have := pos_of h; omega) hn
  have h5 : (inM (natL xs) 0 m).length ≤ 1024 := by
    unfold inM
    refine Nat.le_trans (List.length_filter_le _ _) ?_
    unfold natL
    rw [List.length_map]
    exact h2
  omega
section
variable {g : Nat} {fb lb : Array Value} {ask : Nat → Nat × Nat → ByteArray × Int} {J : (Nat → Prop) → List (Nat × Nat) → World → Prop} {N : Nat} {D : Nat → Prop}
def mulA (wd : Int) (ask : Nat → Nat × Nat → ByteArray × Int) (sz : Int) (xs : List Int) (n : Int) (l : List (Nat × Nat)) : List ByteArray × Int × List (Nat × Nat) :=
  if chk sz n = 0 then (if places xs n = 0 then told (okw wd) (fow wd) ask l (WL (lkM (natL xs)) 0 n.toNat) else ([], places xs n, l)) else ([], chk sz n, l)
set_option maxHeartbeats 1600000 in
theorem multiC (R : Rd g fb lb ask J N D) (wd sz n : Int) (v : Value) (xs : List Int) (hwd : i64 wd) (F : Nat → Prop) (l : List (Nat × Nat)) (w : World) (hN : l.length + 122 * 63488 ≤ N) (hJ : J F l w) (hV : ReadsI w v xs) (hz : xs.length ≤ 140737488355328) :
    Calls Tryd.prog 21 #[.agg #[.int .i64 wd, .int .i64 sz, .func (.func g) fb lb], v, .int .i64 n] w (Proved J F w (mulA wd ask sz xs n l)) := by
  have CC : Hid (∀ w, Calls _ _ _ _ _) := fun w => check wd sz n g fb lb w
  have CP : Hid (∀ w', Below w.heap.size w w' → Calls _ _ _ _ _) := fun w' hb => checkP v xs n w' (hV.later hb) hz
  have RR : Hid (Rd g fb lb ask J N D) := R
  have HJ : Hid (J F l w) := hJ
  have BX : Hid (Below w.heap.size w (w.alloc (.cells #[.int .i64 wd, .int .i64 sz, .func (.func g) fb lb] 33)) ∧ _) := ⟨(Below.refl _ _).alloc (Nat.le_refl _) _, three_box w (.int .i64 wd) (.int .i64 sz) (.func (.func g) fb lb) 33⟩
  obtain ⟨A, HA⟩ : ∃ A, Hid (mulA wd ask sz xs n l = A) := ⟨_, rfl⟩
  rw [HA.out]
  by_cases h0 : chk sz n = 0
  · obtain ⟨k1, k2, k3, k4⟩ := chk_ok h0
    rw [h0] at CC
    by_cases h1 : places xs n = 0
    · rw [h1] at CP
      have CL : Hid (∀ w', Below w.heap.size w w' → Calls _ _ _ _ _) := fun w' hb => clone v xs w' (hV.later hb) (by have := (places_ok h1).2.1; omega)
      obtain ⟨m, rfl⟩ := Int.eq_ofNat_of_zero_le k3
      have hm := pos_of h1
      have hlen := multi_short h1 (m := m) rfl (by omega)
      have hgood := good_of h1
      have GC : Hid (∀ (w1 : World) (c : Nat) (u : Value), Below w.heap.size w w1 → w.heap.size ≤ c → w1.cell? ⟨c, 0, none⟩ = some u → w1.ownsRow w.heap.size 3 1 u xs.length (xs.map (Value.int .i64)) → Calls Tryd.prog 27 #[.agg #[.int .i64 wd, .int .i64 sz, .func (.func g) fb lb], .int .i64 m, .func (.func 41) #[] #[.pointer (some ⟨c, 0, none⟩)]] w1 (Proved J F w1 A)) := by
        intro w1 c u hb1 hc0 hc ho
        have h1' : J F l w1 := RR.out.later HJ.out hb1
        have e1 : told (okw wd) (fow wd) ask l (WL (lkM (natL xs)) 0 m) = A := by
          have := HA.out
          unfold mulA at this
          rw [if_pos h0, if_pos h1, Int.toNat_natCast] at this
          exact this
        have := gatherC R (LkM c xs hgood) wd sz hwd m (by omega) (by omega) F l w1 (fun F' wr hg => ⟨u, hg.cell hc (fun hF => by have := RR.out.within HJ.out _ hF; omega), own_readsI (hg.owns ho (fun b hb hF => by have := RR.out.within HJ.out _ hF; have := owns_lt ho hb; omega)).1⟩) (by omega) (by omega) h1'
        rw [e1] at this
        exact this
      clear h0 h1 hJ hN hlen hgood hV hz
      go_enter Tryd.func21, Tryd.ntmps21
      go_wp2_with fail
      refine (CC.out _).mono ?_
      rintro e w1 ⟨rfl, hb1⟩
      have B1 : Hid (Below w.heap.size w w1) := over BX.out.1 hb1
      have c0 := (hb1.cell (World.block_lt_of_cell? _ _ BX.out.2.1)).trans BX.out.2.1
      have c1 := (hb1.cell (World.block_lt_of_cell? _ _ BX.out.2.2.1)).trans BX.out.2.2.1
      have c2 := (hb1.cell (World.block_lt_of_cell? _ _ BX.out.2.2.2)).trans BX.out.2.2.2
      clear hb1 BX
      go_wp2_with fail
      refine (CP.out _ B1.out).mono ?_
      rintro e w1' ⟨rfl, rfl⟩
      go_wp2_with fail
      refine (CL.out _ B1.out).mono ?_
      rintro e w2 ⟨⟨ua, ul, uc, rfl, ho⟩, hb2⟩
      have b3 : Below w2.heap.size w2 (w2.alloc (.cells #[.slice ua ul uc] 41)) := (Below.refl _ _).alloc (Nat.le_refl _) _
      have c0 := ((over hb2 b3).cell (World.block_lt_of_cell? _ _ c0)).trans c0
      have c1 := ((over hb2 b3).cell (World.block_lt_of_cell? _ _ c1)).trans c1
      have c2 := ((over hb2 b3).cell (World.block_lt_of_cell? _ _ c2)).trans c2
      have B3 : Hid (Below w.heap.size w (w2.alloc (.cells #[.slice ua ul uc] 41))) := over B1.out (over hb2 b3)
      have GC1 : Hid (Calls _ _ _ _ _) := GC.out (w2.alloc (.cells #[.slice ua ul uc] 41)) w2.heap.size (.slice ua ul uc) B3.out (Nat.le_trans B1.out.size hb2.size) (by rw [World.cell?_alloc_at _ _ _ _ rfl]; rfl) (owns_keep (own_down ho B1.out.size) (fun g hg => b3.block g (owns_lt ho hg).1))
      clear ho hb2 b3
      go_wp2_with fail
      refine GC1.out.mono ?_
      rintro e w4 ⟨u, F2, rfl, ho2, hj2, hg2, hbe⟩
      have H2 : Hid (w4.ownsRow w.heap.size 9 1 u (ans A).length ((ans A).map Value.string) ∧ J F2 A.2.2 w4 ∧ Goes F w F2 w4 ∧ Beside F2 u) := ⟨own_down ho2 B3.out.size, hj2, (Goes.of_below B3.out).trans hg2, hbe⟩
      clear ho2 hj2 hg2 hbe c0 c1 c2
      go_wp2
      go_ret2
      exact ⟨u, F2, rfl, H2.out.1, H2.out.2.1, H2.out.2.2.1, H2.out.2.2.2⟩
    · have HE : Hid (A = ([], places xs n, l)) := by
        show _ = _
        rw [← HA.out]
        unfold mulA
        rw [if_pos h0, if_neg h1]
      obtain ⟨c, HCc⟩ : ∃ c, Hid (places xs n = c) := ⟨_, rfl⟩
      rw [HCc.out] at CP HE h1
      have q0 : (c == 0) = false := by rw [beq_eq_false_iff_ne]; exact h1
      clear h0 h1 hJ hN hV hz
      go_enter Tryd.func21, Tryd.ntmps21
      go_wp2_with fail
      refine (CC.out _).mono ?_
      rintro e w1 ⟨rfl, hb1⟩
      have B1 : Hid (Below w.heap.size w w1) := over BX.out.1 hb1
      clear hb1 BX
      go_wp2_with fail
      refine (CP.out _ B1.out).mono ?_
      rintro e w1' ⟨rfl, rfl⟩
      go_wp2
      go_ret2
      exact refused HE.out (RR.out.later HJ.out B1.out) B1.out
  · have HE : Hid (A = ([], chk sz n, l)) := by
      show _ = _
      rw [← HA.out]
      unfold mulA
      rw [if_neg h0]
    obtain ⟨c, HCc⟩ : ∃ c, Hid (chk sz n = c) := ⟨_, rfl⟩
    rw [HCc.out] at CC HE h0
    have q0 : (c == 0) = false := by rw [beq_eq_false_iff_ne]; exact h0
    clear h0 hJ hN hV hz
    go_enter Tryd.func21, Tryd.ntmps21
    go_wp2_with fail
    refine (CC.out _).mono ?_
    rintro e w1 ⟨rfl, hb1⟩
    have B1 : Hid (Below w.heap.size w w1) := over BX.out.1 hb1
    clear hb1
    go_wp2
    go_ret2
    exact refused HE.out (RR.out.later HJ.out B1.out) B1.out
end
end Go.Proofs.YtglffbhcnafbnabDoor.mq

namespace Go.Proofs.YtglffbhcnafbnabDoor.mr
open Go.RowKit Go.PlainAid Go.Shelf
open Go.Proofs.YtglffbhcnafbnabDoor.pl Go.Proofs.YtglffbhcnafbnabDoor.pi Go.Proofs.YtglffbhcnafbnabDoor.rf Go.Proofs.YtglffbhcnafbnabDoor.pj Go.Proofs.YtglffbhcnafbnabDoor.ca Go.Proofs.YtglffbhcnafbnabDoor.cb Go.Proofs.YtglffbhcnafbnabDoor.cp Go.Proofs.YtglffbhcnafbnabDoor.cs Go.Proofs.YtglffbhcnafbnabDoor.xc Go.Proofs.YtglffbhcnafbnabDoor.ka Go.Proofs.YtglffbhcnafbnabDoor.kb Go.Proofs.YtglffbhcnafbnabDoor.ga Go.Proofs.YtglffbhcnafbnabDoor.aa Go.Proofs.YtglffbhcnafbnabDoor.ab Go.Proofs.YtglffbhcnafbnabDoor.tb Go.Proofs.YtglffbhcnafbnabDoor.ac Go.Proofs.YtglffbhcnafbnabDoor.bc Go.Proofs.YtglffbhcnafbnabDoor.bd Go.Proofs.YtglffbhcnafbnabDoor.bh Go.Proofs.YtglffbhcnafbnabDoor.bi Go.Proofs.YtglffbhcnafbnabDoor.sa Go.Proofs.YtglffbhcnafbnabDoor.sb Go.Proofs.YtglffbhcnafbnabDoor.sc Go.Proofs.YtglffbhcnafbnabDoor.sd Go.Proofs.YtglffbhcnafbnabDoor.se Go.Proofs.YtglffbhcnafbnabDoor.sf Go.Proofs.YtglffbhcnafbnabDoor.sg Go.Proofs.YtglffbhcnafbnabDoor.sh Go.Proofs.YtglffbhcnafbnabDoor.ta Go.Proofs.YtglffbhcnafbnabDoor.tg Go.Proofs.YtglffbhcnafbnabDoor.mi Go.Proofs.YtglffbhcnafbnabDoor.mp Go.Proofs.YtglffbhcnafbnabDoor.mq
set_option linter.unusedVariables false

def Ris (xs : List Int) : Prop := xs.length ≤ 1024 ∧ (∀ j, j < xs.length → 0 ≤ xs.getD j 0) ∧ (∀ j, j + 1 < xs.length → xs.getD j 0 < xs.getD (j + 1) 0)
def sub (xs : List Int) (f t : Nat) : List Int := (xs.drop f).take (t - f)
theorem sub_len {xs : List Int} {f t : Nat} (h : f ≤ t) (ht : t ≤ xs.length) : (sub xs f t).length = t - f := by
  unfold sub
  rw [List.length_take, List.length_drop]
  omega
theorem sub_get {xs : List Int} {f t i : Nat} (h : i < t - f) : (sub xs f t).getD i 0 = xs.getD (f + i) 0 := by
  unfold sub
  rw [List.getD_eq_getElem?_getD, List.getD_eq_getElem?_getD, List.getElem?_take_of_lt h, List.getElem?_drop]
theorem sub_ris {xs : List Int} {f t : Nat} (hr : Ris xs) (h : f ≤ t) (ht : t ≤ xs.length) : Ris (sub xs f t) := by
  have hl := sub_len h ht
  refine ⟨by have := hr.1; omega, fun j hj => ?_, fun j hj => ?_⟩
  · rw [sub_get (by omega)]; exact hr.2.1 _ (by omega)
  · rw [sub_get (by omega), sub_get (by omega)]; exact hr.2.2 (f + j) (by omega)
theorem sub_reads {w : World} {g off cap l f t : Nat} {xs : List Int} (hR : ReadsI w (.slice (some ⟨g, off, none⟩) l cap) xs) (h : f ≤ t) (ht : t ≤ xs.length) : ReadsI w (.slice (some ⟨g, off + f, none⟩) (t - f) (cap - f)) (sub xs f t) := by
  have hl := sub_len h ht
  obtain ⟨a, c, e, hc, hh⟩ := hR
  injection e with e1 e2 e3
  subst e3
  refine ⟨_, _, by rw [hl], by omega, ?_⟩
  rcases hh with h0 | ⟨b, o, e4, hh⟩
  · left; omega
  · right
    rw [e4] at e1
    injection e1 with e1
    injection e1 with e5 e6
    subst e5 e6
    refine ⟨_, _, rfl, fun i hi => ?_⟩
    rw [Nat.add_assoc, hh (f + i) (by omega), sub_get (by omega)]
theorem WL_agree {ps qs : List Nat} {a b : Nat} (h : ∀ p, a ≤ p → p < b → (p ∈ ps ↔ p ∈ qs)) : WL (lkM ps) a b = WL (lkM qs) a b := by
  rw [multi_is (b - a) ps qs a b rfl h, multi_is (b - a) qs qs a b rfl (fun _ _ _ => Iff.rfl)]
theorem le_of {xs : List Int} (hr : Ris xs) {i j : Nat} (h : i ≤ j) (hj : j < xs.length) : xs.getD i 0 ≤ xs.getD j 0 := by
  rcases Nat.eq_or_lt_of_le h with e | e
  · rw [e]; exact Int.le_refl _
  · have := rise_lt hr.2.2 i (j - i - 1) (by omega)
    rw [show i + (j - i - 1) + 1 = j by omega] at this
    exact Int.le_of_lt this
def Cut (xs : List Int) (a b f t : Nat) : Prop := f ≤ t ∧ t ≤ xs.length ∧ (∀ p, p < f → xs.getD p 0 < a) ∧ (f = xs.length ∨ (a : Int) ≤ xs.getD f 0) ∧ (∀ p, f ≤ p → p < t → xs.getD p 0 < b) ∧ (t = xs.length ∨ (b : Int) ≤ xs.getD t 0)
theorem cut_in {xs : List Int} (hr : Ris xs) {a b f t : Nat} (hc : Cut xs a b f t) {j : Nat} (hj : j < xs.length) (h1 : (a : Int) ≤ xs.getD j 0) (h2 : xs.getD j 0 < b) : f ≤ j ∧ j < t := by
  obtain ⟨c1, c2, c3, c4, c5, c6⟩ := hc
  refine ⟨Nat.le_of_not_lt fun h => ?_, Nat.lt_of_not_le fun h => ?_⟩
  · have := c3 j h; omega
  · rcases c6 with e | e
    · omega
    · have := le_of hr h hj; omega
theorem cut_same {xs : List Int} (hr : Ris xs) {a b f t : Nat} (hc : Cut xs a b f t) (p : Nat) (h1 : a ≤ p) (h2 : p < b) : p ∈ natL (sub xs f t) ↔ p ∈ natL xs := by
  have hs := sub_ris hr hc.1 hc.2.1
  have hl := sub_len hc.1 hc.2.1
  rw [mem_nat hs.2.1, mem_nat hr.2.1]
  constructor
  · rintro ⟨j, hj, e⟩
    rw [sub_get (by omega)] at e
    exact ⟨f + j, by have := hc.2.1; omega, e⟩
  · rintro ⟨j, hj, e⟩
    have := cut_in hr hc hj (by omega) (by omega)
    refine ⟨j - f, by omega, ?_⟩
    rw [sub_get (by omega), show f + (j - f) = j by omega]
    exact e
theorem cut_none {xs : List Int} (hr : Ris xs) {a b f : Nat} (hc : Cut xs a b f f) : lkM (natL xs) a b = 1 := by
  unfold lkM
  rw [if_neg]
  rintro ⟨p, hp, h1, h2⟩
  obtain ⟨j, hj, e⟩ := (mem_nat hr.2.1).1 hp
  have := cut_in hr hc hj (by omega) (by omega)
  omega
theorem cut_some {xs : List Int} (hr : Ris xs) {a b f t : Nat} (hc : Cut xs a b f t) (h : f < t) : lkM (natL xs) a b = if b - a = 1 then 0 else 2 := by
  unfold lkM
  rw [if_pos]
  have hf : f < xs.length := by have := hc.2.1; omega
  have h0 := hr.2.1 f hf
  have h1 := hc.2.2.2.2.1 f (Nat.le_refl _) h
  have h2 : (a : Int) ≤ xs.getD f 0 := by rcases hc.2.2.2.1 with e | e <;> omega
  exact ⟨(xs.getD f 0).toNat, (mem_nat hr.2.1).2 ⟨f, hf, by omega⟩, by omega, by omega⟩
theorem am_short {xs : List Int} (hr : Ris xs) {a b : Nat} (hab : a < b) (hb : b ≤ 4611686018427387904) : (WL (lkM (natL xs)) a b).length ≤ 63488 := by
  by_cases hn : inM (natL xs) a b = []
  · rw [WL_take (by unfold lkM; rw [if_neg ((inM_nil _ _ _).1 hn)])]; simp
  · have := multi_len (natL xs) 62 a b (by rw [p62]; omega) hab hn
    have h5 : (inM (natL xs) a b).length ≤ 1024 := by
      unfold inM
      refine Nat.le_trans (List.length_filter_le _ _) ?_
      unfold natL
      rw [List.length_map]
      exact hr.1
    omega
end Go.Proofs.YtglffbhcnafbnabDoor.mr

namespace Go.Proofs.YtglffbhcnafbnabDoor.ms
open Go.RowKit Go.PlainAid Go.Shelf
open Go.Proofs.YtglffbhcnafbnabDoor.pl Go.Proofs.YtglffbhcnafbnabDoor.pi Go.Proofs.YtglffbhcnafbnabDoor.rf Go.Proofs.YtglffbhcnafbnabDoor.pj Go.Proofs.YtglffbhcnafbnabDoor.ca Go.Proofs.YtglffbhcnafbnabDoor.cb Go.Proofs.YtglffbhcnafbnabDoor.cp Go.Proofs.YtglffbhcnafbnabDoor.cs Go.Proofs.YtglffbhcnafbnabDoor.xc Go.Proofs.YtglffbhcnafbnabDoor.ka Go.Proofs.YtglffbhcnafbnabDoor.kb Go.Proofs.YtglffbhcnafbnabDoor.ga Go.Proofs.YtglffbhcnafbnabDoor.aa Go.Proofs.YtglffbhcnafbnabDoor.ab Go.Proofs.YtglffbhcnafbnabDoor.tb Go.Proofs.YtglffbhcnafbnabDoor.ac Go.Proofs.YtglffbhcnafbnabDoor.bc Go.Proofs.YtglffbhcnafbnabDoor.bd Go.Proofs.YtglffbhcnafbnabDoor.bh Go.Proofs.YtglffbhcnafbnabDoor.bi Go.Proofs.YtglffbhcnafbnabDoor.sa Go.Proofs.YtglffbhcnafbnabDoor.sb Go.Proofs.YtglffbhcnafbnabDoor.sc Go.Proofs.YtglffbhcnafbnabDoor.sd Go.Proofs.YtglffbhcnafbnabDoor.se Go.Proofs.YtglffbhcnafbnabDoor.sf Go.Proofs.YtglffbhcnafbnabDoor.sg Go.Proofs.YtglffbhcnafbnabDoor.sh Go.Proofs.YtglffbhcnafbnabDoor.ta Go.Proofs.YtglffbhcnafbnabDoor.tg Go.Proofs.YtglffbhcnafbnabDoor.mi Go.Proofs.YtglffbhcnafbnabDoor.mp Go.Proofs.YtglffbhcnafbnabDoor.mq Go.Proofs.YtglffbhcnafbnabDoor.mr
set_option linter.unusedVariables false

set_option maxHeartbeats 6400000 in
theorem amongD (n : Nat) : ∀ (a b : Nat) (v : Value) (xs : List Int) (w : World), b - a = n → a < b → b ≤ 4611686018427387904 → Ris xs → ReadsI w v xs →
    Calls Tryd.prog 44 #[.int .i64 a, .int .i64 b, v] w (Parts w (WL (lkM (natL xs)) a b)) := by
  induction n using Nat.strongRecOn with
  | ind n ih =>
    intro a b v xs w hn hab hb hr hR
    have IH : Hid (∀ (a' b' : Nat) (v : Value) (xs : List Int) (w : World), b' - a' < n → a' < b' → b' ≤ 4611686018427387904 → Ris xs → ReadsI w v xs → Calls Tryd.prog 44 #[.int .i64 a', .int .i64 b', v] w (Parts w (WL (lkM (natL xs)) a' b'))) := fun a' b' v xs w hl g1 g2 g3 g4 => ih (b' - a') hl a' b' v xs w rfl g1 g2 g3 g4
    obtain ⟨i9, hi9', hz0, hz1, hz2⟩ := cs.info_parts hiP
    have HIN : Hid (_ ∧ _ ∧ _ ∧ _) := ⟨hi9', hz0, hz1, hz2⟩
    have PR : Hid (_ ∧ _) := ⟨part_row w a b, (Below.refl _ _).alloc (Nat.le_refl w.heap.size) (.cells #[.int .i64 a, .int .i64 b] 90)⟩
    obtain ⟨ps, HPS⟩ : ∃ ps, Hid (WL (lkM (natL xs)) a b = ps) := ⟨_, rfl⟩
    rw [HPS.out]
    have HR : Hid (Ris xs) := hr
    obtain ⟨va, cap, rfl, hcap, hh⟩ := hR
    have HC : Hid (xs.length = 0 ∨ ∃ g off, va = some ⟨g, off, none⟩ ∧ ∀ i, i < xs.length → w.cell? ⟨g, off + i, none⟩ = some (.int .i64 (xs.getD i 0))) := hh
    have HRD : Hid (ReadsI w (.slice va xs.length cap) xs) := ⟨va, cap, rfl, hcap, hh⟩
    obtain ⟨l, HN⟩ : ∃ n, Hid (xs.length = n) := ⟨_, rfl⟩
    have hl : l ≤ 1024 := by rw [← HN.out]; exact hr.1
    rw [HN.out] at HC HRD hcap ⊢
    clear ih hi9' hz0 hz1 hz2 hr hh
    go_enter Tryd.func44, Tryd.ntmps44
    go_wp2
    go_loopw [7] (fun i wr => ∃ k : Nat, k ≤ l ∧ i = .int .i64 k ∧ Hid (∀ p, p < k → xs.getD p 0 < a) ∧ w = wr) (fun i _ => (l - intOf i).toNat)
    case atStart => exact ⟨0, by omega, rfl, fun p h => by omega, rfl⟩
    case round =>
      obtain ⟨f, hf, rfl, HS, rfl⟩ := hrel
      go_upto_region 2 with fail
      obtain ⟨qf, HQf⟩ : ∃ q : Bool, Hid (decide (f < l ∧ xs.getD f 0 < a) = q) := ⟨_, rfl⟩
      go_cut [23] from 12 to 25 (fun c wx => c = .bool qf ∧ wx = w)
      case first =>
        by_cases h1 : f < l
        · have h1' : decide ((f : Int) < l) = true := decide_eq_true (by omega)
          obtain ⟨g, off, rfl, hc⟩ : ∃ g off, va = some ⟨g, off, none⟩ ∧ ∀ i, i < l → w.cell? ⟨g, off + i, none⟩ = some (.int .i64 (xs.getD i 0)) := by
            rcases HC.out with h | h
            · omega
            · exact h
          have c1 := hc f h1
          clear hc
          go_wp2
          go_meet
          exact ⟨by rw [← HQf.out]; simp [h1], rfl⟩
        · have h1' : decide ((f : Int) < l) = false := decide_eq_false (by omega)
          go_wp2
          go_meet
          exact ⟨by rw [← HQf.out]; simp [h1], rfl⟩
      case rest =>
        obtain ⟨rfl, rfl⟩ := hcut
        by_cases h1 : f < l ∧ xs.getD f 0 < a
        · obtain rfl : true = qf := by rw [← HQf.out]; exact (decide_eq_true h1).symm
          have HS1 : Hid (∀ p, p < f + 1 → xs.getD p 0 < a) := fun p hp => by
            rcases Nat.lt_or_ge p f with h | h
            · exact HS.out p h
            · obtain rfl : p = f := by omega
              exact h1.2
          have hfl := h1.1
          clear h1
          go_wp2
          go_roundw
          case rel => exact ⟨f + 1, by omega, by go_num, HS1, by first | rfl | trivial⟩
          case measure => simp [intOf]; omega
        · obtain rfl : false = qf := by rw [← HQf.out]; exact (decide_eq_false h1).symm
          have HF : Hid (f = l ∨ (a : Int) ≤ xs.getD f 0) := by show _ ∨ _; by_cases h : f < l; (right; exact Int.not_lt.1 (fun g => h1 ⟨h, g⟩)); (left; omega)
          clear h1
          go_wp2
          go_loopw [8] (fun i wr => ∃ t : Nat, f ≤ t ∧ t ≤ l ∧ i = .int .i64 t ∧ Hid (∀ p, f ≤ p → p < t → xs.getD p 0 < b) ∧ wc = wr) (fun i _ => (l - intOf i).toNat)
          case atStart => exact ⟨f, by omega, by omega, rfl, fun p h1 h2 => by omega, rfl⟩
          case round =>
            obtain ⟨t, hft, htl, rfl, HS2, rfl⟩ := hrel
            go_upto_region 5 with fail
            obtain ⟨qt, HQt⟩ : ∃ q : Bool, Hid (decide (t < l ∧ xs.getD t 0 < b) = q) := ⟨_, rfl⟩
            go_cut [38] from 27 to 40 (fun c wx => c = .bool qt ∧ wx = wc)
            case first =>
              by_cases h1 : t < l
              · have h1' : decide ((t : Int) < l) = true := decide_eq_true (by omega)
                obtain ⟨g, off, rfl, hc⟩ : ∃ g off, va = some ⟨g, off, none⟩ ∧ ∀ i, i < l → wc.cell? ⟨g, off + i, none⟩ = some (.int .i64 (xs.getD i 0)) := by
                  rcases HC.out with h | h
                  · omega
                  · exact h
                have c1 := hc t h1
                clear hc
                go_wp2
                go_meet
                exact ⟨by rw [← HQt.out]; simp [h1], rfl⟩
              · have h1' : decide ((t : Int) < l) = false := decide_eq_false (by omega)
                go_wp2
                go_meet
                exact ⟨by rw [← HQt.out]; simp [h1], rfl⟩
            case rest =>
              obtain ⟨rfl, rfl⟩ := hcut
              by_cases h1 : t < l ∧ xs.getD t 0 < b
              · obtain rfl : true = qt := by rw [← HQt.out]; exact (decide_eq_true h1).symm
                have HS3 : Hid (∀ p, f ≤ p → p < t + 1 → xs.getD p 0 < b) := fun p hp0 hp => by
                  rcases Nat.lt_or_ge p t with h | h
                  · exact HS2.out p hp0 h
                  · obtain rfl : p = t := by omega
                    exact h1.2
                have hfl := h1.1
                clear h1
                go_wp2
                go_roundw
                case rel => exact ⟨t + 1, by omega, by omega, by go_num, HS3, by first | rfl | trivial⟩
                case measure => simp [intOf]; omega
              · obtain rfl : false = qt := by rw [← HQt.out]; exact (decide_eq_false h1).symm
                have HCU : Hid (Cut xs a b f t) := by
                  refine ⟨hft, by rw [HN.out]; exact htl, HS.out, by rw [HN.out]; exact HF.out, HS2.out, ?_⟩
                  rw [HN.out]
                  by_cases h : t < l
                  · right; exact Int.not_lt.1 (fun g => h1 ⟨h, g⟩)
                  · left; omega
                clear h1
                by_cases h2 : f = t
                · subst h2
                  have e2 : ((f : Int) == f) = true := beq_self_eq_true _
                  obtain rfl : [(a, b)] = ps := by rw [← HPS.out, WL_take (cut_none HR.out HCU.out)]
                  clear HPS
                  go_wp2
                  go_ret
                  exact ⟨⟨_, rfl, PR.out.1⟩, PR.out.2⟩
                · have e2 : ((f : Int) == t) = false := by rw [beq_eq_false_iff_ne]; omega
                  have hlk := cut_some HR.out HCU.out (by omega)
                  by_cases h3 : b - a = 1
                  · have e3 : ((b : Int) - a == 1) = true := by rw [beq_iff_eq]; omega
                    obtain rfl : [] = ps := by rw [← HPS.out, WL_pass (by rw [hlk, if_pos h3])]
                    clear HPS h3 hlk
                    go_wp2
                    go_ret
                    exact ⟨⟨_, rfl, World.ownsRow_nil _ _ _ _⟩, Below.refl _ _⟩
                  · have e3 : ((b : Int) - a == 1) = false := by rw [beq_eq_false_iff_ne]; omega
                    have h : 2 ≤ b - a := by omega
                    have hh := half_lt h
                    obtain ⟨g, off, rfl, hc⟩ : ∃ g off, va = some ⟨g, off, none⟩ ∧ ∀ i, i < l → wc.cell? ⟨g, off + i, none⟩ = some (.int .i64 (xs.getD i 0)) := by
                      rcases HC.out with h | h
                      · omega
                      · exact h
                    have htl' : t ≤ xs.length := by rw [HN.out]; exact htl
                    have HSR : Hid (ReadsI wc (.slice (some ⟨g, off + f, none⟩) (t - f) (cap - f)) (sub xs f t)) := sub_reads HRD.out hft htl'
                    have HSI : Hid (Ris (sub xs f t)) := sub_ris HR.out hft htl'
                    have SC : Hid (∀ w, Calls _ _ _ _ _) := fun w => splitD (b - a) h (by omega) w
                    rw [show ((b - a : Nat) : Int) = (b : Int) - a by omega] at SC
                    have HW : Hid (WL (lkM (natL (sub xs f t))) a (a + half (b - a)) ++ WL (lkM (natL (sub xs f t))) (a + half (b - a)) b = ps) := by
                      show _ = _
                      rw [← HPS.out, WL_left (by rw [hlk, if_neg h3]) h, WL_agree (a := a) (b := a + half (b - a)) (fun p g1 g2 => cut_same HR.out HCU.out p g1 (by omega)), WL_agree (a := a + half (b - a)) (b := b) (fun p g1 g2 => cut_same HR.out HCU.out p (by omega) g2)]
                    have I1 : Hid (∀ w', Below wc.heap.size wc w' → Calls _ _ _ _ _) := fun w' hb' => IH.out a (a + half (b - a)) _ _ w' (by omega) (by omega) (by omega) HSI.out (HSR.out.later hb')
                    have I2 : Hid (∀ w', Below wc.heap.size wc w' → Calls _ _ _ _ _) := fun w' hb' => IH.out (a + half (b - a)) b _ _ w' (by omega) (by omega) hb HSI.out (HSR.out.later hb')
                    have l1 := am_short HSI.out (a := a) (b := a + half (b - a)) (by omega) (by omega)
                    have l2 := am_short HSI.out (a := a + half (b - a)) (b := b) (by omega) hb
                    obtain ⟨k, HK⟩ : ∃ k, Hid (half (b - a) = k) := ⟨_, rfl⟩
                    rw [HK.out] at SC I1 I2 HW l1 l2 hh
                    obtain ⟨p1, HP1⟩ : ∃ x, Hid (WL (lkM (natL (sub xs f t))) a (a + k) = x) := ⟨_, rfl⟩
                    obtain ⟨p2, HP2⟩ : ∃ x, Hid (WL (lkM (natL (sub xs f t))) (a + k) b = x) := ⟨_, rfl⟩
                    rw [HP1.out] at I1 HW l1
                    rw [HP2.out] at I2 HW l2
                    have e1 : ((a + k : Nat) : Int) = (a : Int) + k := by omega
                    rw [e1] at I1 I2
                    have hw : IntKind.i64.wrap ((a : Int) + k) = (a : Int) + k := by rw [IntKind.wrap_i64]; omega
                    have hcf : ¬ cap = f := by omega
                    have hcf2 : f ≤ t ∧ t ≤ cap ∧ (f : Int) ≤ t := by omega
                    have TAILY : Hid (∀ (w1 w2 w3 : World) (u v : Value), w2.ownsRow w1.heap.size 90 2 u p1.length (cls p1) → w3.ownsRow w2.heap.size 90 2 v p2.length (cls p2) → Below w1.heap.size w1 w2 → Below w2.heap.size w2 w3 → w3.ownsRow w1.heap.size 90 2 u p1.length (cls p1) ∧ w1.heap.size ≤ w3.heap.size) := fun w1 w2 w3 u v h1 h2 b1 b2 => ⟨own_later h1 b2, Nat.le_trans b1.size b2.size⟩
                    clear h HPS h3 hc hlk htl' e1
                    go_wp2_with fail
                    refine (SC.out _).mono ?_
                    rintro e w1 ⟨rfl, hw1⟩
                    subst hw1
                    go_wp2_with fail
                    refine (I1.out _ (Below.refl _ _)).mono ?_
                    rintro e w2 ⟨⟨u, rfl, ho⟩, hb2⟩
                    have HO2 : Hid (w2.ownsRow w1.heap.size 90 2 u p1.length (cls p1)) := ho
                    have B2 : Hid (Below w1.heap.size w1 w2) := hb2
                    clear ho hb2
                    go_wp2_with fail
                    refine (I2.out _ B2.out).mono ?_
                    rintro e w3 ⟨⟨v, rfl, ho⟩, hb3⟩
                    have OX : Hid (_ ∧ _) := TAILY.out w1 w2 w3 u v HO2.out ho B2.out hb3
                    have B3 : Hid (Below w1.heap.size w1 w3) := over B2.out hb3
                    have HO3 : Hid (w3.ownsRow w2.heap.size 90 2 v p2.length (cls p2)) := ho
                    clear hb3
                    rcases ho.2 with ⟨rfl, h0⟩ | ⟨gg, cap, cur, rfl, hgg, hcur, hle, hmx, hsz, htk⟩
                    · have hp2 : p2 = [] := List.length_eq_zero_iff.1 h0
                      have HWX : Hid (p1 = ps) := by have := HW.out; rw [hp2, List.append_nil] at this; exact this
                      clear ho h0 hp2 HO3
                      go_wp2_with (at_builtin; refine wpList_append_own_none rfl _ _ 69 rfl w1.heap.size 90 i9 2 Tryd.underlying69 HIN.out.1 _ p1.length _ rfl OX.out.1 rfl ?_)
                      go_ret
                      exact ⟨⟨_, rfl, by rw [← HWX.out]; exact OX.out.1⟩, B3.out⟩
                    · have NX : Hid (∀ (j : Nat) (u : Value), (cls p2)[j]? = some u → w3.cell? (Addr.add ⟨gg, 0, none⟩ j) = some u) := by
                        intro j x hx
                        have hj : j < p2.length * 2 := by have := (List.getElem?_eq_some_iff.1 hx).1; rw [cls_len] at this; exact this
                        rw [show (Addr.add ⟨gg, 0, none⟩ j) = ⟨gg, j, none⟩ by cases j <;> simp [Addr.add]]
                        exact (HO3.out.cellAt j hj).trans hx
                      have HL2 : Hid ((cls p2).length = p2.length * 2) := cls_len p2
                      clear ho hgg hcur hle hmx hsz htk
                      go_wp2_with (at_builtin; refine wpList_append_own _ rfl _ _ 69 rfl w1.heap.size 90 i9 (.agg #[.int .i64 0, .int .i64 0]) 2 16 Tryd.underlying69 HIN.out.1 HIN.out.2.1 HIN.out.2.2.1 HIN.out.2.2.2 rfl (by decide) _ p1.length _ rfl OX.out.1 ⟨gg, 0, none⟩ p2.length cap (cls p2) rfl HL2.out NX.out (one_cls _) (by unfold maxLen; omega) (by omega) OX.out.2 ?_; intro p' w5 ho hg hnn; have HO5 : Hid (w5.ownsRow w1.heap.size 90 2 p' (p1.length + p2.length) (cls p1 ++ cls p2)) := ho; have HB5 : Hid (Below w1.heap.size w1 w5) := Below.grown B3.out hg OX.out.2 (fun jj hj => (OX.out.1.lt _ hj).1); clear ho hg hnn)
                      go_ret
                      refine ⟨⟨_, rfl, ?_⟩, HB5.out⟩
                      rw [← HW.out, List.length_append, cls_app]
                      exact HO5.out
end Go.Proofs.YtglffbhcnafbnabDoor.ms

namespace Go.Proofs.YtglffbhcnafbnabDoor.mt
open Go.RowKit Go.PlainAid Go.Shelf
open Go.Proofs.YtglffbhcnafbnabDoor.pl Go.Proofs.YtglffbhcnafbnabDoor.pi Go.Proofs.YtglffbhcnafbnabDoor.rf Go.Proofs.YtglffbhcnafbnabDoor.pj Go.Proofs.YtglffbhcnafbnabDoor.ca Go.Proofs.YtglffbhcnafbnabDoor.cb Go.Proofs.YtglffbhcnafbnabDoor.cp Go.Proofs.YtglffbhcnafbnabDoor.cs Go.Proofs.YtglffbhcnafbnabDoor.xc Go.Proofs.YtglffbhcnafbnabDoor.ka Go.Proofs.YtglffbhcnafbnabDoor.kb Go.Proofs.YtglffbhcnafbnabDoor.ga Go.Proofs.YtglffbhcnafbnabDoor.aa Go.Proofs.YtglffbhcnafbnabDoor.ab Go.Proofs.YtglffbhcnafbnabDoor.tb Go.Proofs.YtglffbhcnafbnabDoor.ac Go.Proofs.YtglffbhcnafbnabDoor.bc Go.Proofs.YtglffbhcnafbnabDoor.bd Go.Proofs.YtglffbhcnafbnabDoor.bh Go.Proofs.YtglffbhcnafbnabDoor.bi Go.Proofs.YtglffbhcnafbnabDoor.sa Go.Proofs.YtglffbhcnafbnabDoor.sb Go.Proofs.YtglffbhcnafbnabDoor.sc Go.Proofs.YtglffbhcnafbnabDoor.sd Go.Proofs.YtglffbhcnafbnabDoor.se Go.Proofs.YtglffbhcnafbnabDoor.sf Go.Proofs.YtglffbhcnafbnabDoor.sg Go.Proofs.YtglffbhcnafbnabDoor.sh Go.Proofs.YtglffbhcnafbnabDoor.ta Go.Proofs.YtglffbhcnafbnabDoor.tg Go.Proofs.YtglffbhcnafbnabDoor.mi Go.Proofs.YtglffbhcnafbnabDoor.mk Go.Proofs.YtglffbhcnafbnabDoor.mp Go.Proofs.YtglffbhcnafbnabDoor.mq Go.Proofs.YtglffbhcnafbnabDoor.mr Go.Proofs.YtglffbhcnafbnabDoor.ms
set_option linter.unusedVariables false

theorem ris_of {xs : List Int} {n : Int} (h : places xs n = 0) : Ris xs := by
  obtain ⟨h1, h2, h3, h4⟩ := places_ok h
  exact ⟨h2, fun j hj => (h3 j hj).1, h4⟩
theorem mulA_bound (s : Src) (xs : List Int) (n : Int) : (mulA s.wd (askS s) s.sz xs n []).2.2.length ≤ 4294967296 ∧ (ans (mulA s.wd (askS s) s.sz xs n [])).length ≤ 140737488355328 := by
  unfold mulA
  split
  · rename_i h0
    obtain ⟨k1, k2, k3, k4⟩ := chk_ok h0
    split
    · rename_i h1
      refine told_bound s _ _ (by omega) ?_
      have := pos_of h1
      have := am_short (ris_of h1) (a := 0) (b := n.toNat) (by omega) (by omega)
      omega
    · exact ⟨by simp, by unfold ans; split <;> simp⟩
  · exact ⟨by simp, by unfold ans; split <;> simp⟩
-- the document's Multi
set_option maxHeartbeats 1600000 in
theorem multiS (s : Src) (sb : Nat) (lv : Value) (base : Nat) (hcd : i64 s.code) (v : Value) (xs : List Int) (n : Int) (F : Nat → Prop) (l : List (Nat × Nat)) (w : World) (hN : l.length + 122 * 63488 ≤ 4294967296) (hJ : SJ s sb lv base F l w) (hV : ReadsI w v xs) (hz : xs.length ≤ 140737488355328) :
    Calls Tryd.prog 25 #[.pointer (some ⟨sb, 0, none⟩), v, .int .i64 n] w (Proved (SJ s sb lv base) F w (mulA s.wd (askS s) s.sz xs n l)) := by
  have GC : Hid (Calls _ _ _ _ _) := goesS s sb n w (SJ.cells hJ).2
  have PC : Hid (Calls _ _ _ _ _) := placesD v xs n w hV hz
  have RR : Hid (Rd 48 #[.pointer (some ⟨sb, 0, none⟩)] #[] (askS s) (SJ s sb lv base) 4294967296 (Dp lv)) := srcR s sb lv base hcd
  have HJ : Hid (SJ s sb lv base F l w) := hJ
  obtain ⟨A, HA⟩ : ∃ A, Hid (mulA s.wd (askS s) s.sz xs n l = A) := ⟨_, rfl⟩
  rw [HA.out]
  by_cases h0 : chk s.sz n = 0
  · obtain ⟨k1, k2, k3, k4⟩ := chk_ok h0
    rw [h0] at GC
    by_cases h1 : places xs n = 0
    · rw [h1] at PC
      obtain ⟨m, rfl⟩ := Int.eq_ofNat_of_zero_le k3
      have hm := pos_of h1
      have hsh := am_short (ris_of h1) (a := 0) (b := m) (by omega) (by omega)
      have SC : Hid (∀ w', Below w.heap.size w w' → Calls _ _ _ _ _) := fun w' hb => amongD m 0 m v xs w' (by omega) (by omega) (by omega) (ris_of h1) (hV.later hb)
      rw [show ((0 : Nat) : Int) = 0 from rfl] at SC
      have e1 : told (okw s.wd) (fow s.wd) (askS s) l (WL (lkM (natL xs)) 0 m) = A := by
        have := HA.out
        unfold mulA at this
        rw [if_pos h0, if_pos h1, Int.toNat_natCast] at this
        exact this
      have TC : Hid (∀ u w1, w1.ownsRow w.heap.size 90 2 u (WL (lkM (natL xs)) 0 m).length (cls (WL (lkM (natL xs)) 0 m)) → Below w.heap.size w w1 → Calls Tryd.prog 31 #[.pointer (some ⟨sb, 0, none⟩), u] w1 (Proved (SJ s sb lv base) F w1 A)) := by
        intro u w1 ho hb
        have := toldS s sb lv base hcd F l u w.heap.size (WL (lkM (natL xs)) 0 m) w1 ho (fun g hg hF => by have h1 := (owns_lt ho hg).2; have := RR.out.within HJ.out _ hF; omega) (by omega) (fun x hp => by have := WL_in (lkM (natL xs)) m 0 m rfl (Nat.zero_le _) x hp; omega) (by omega) (RR.out.later HJ.out hb)
        rw [e1] at this
        exact this
      clear h0 h1 hJ hN hV hz hm hsh e1
      go_enter Tryd.func25, Tryd.ntmps25
      go_wp2_with fail
      refine GC.out.mono ?_
      rintro e w1 ⟨rfl, hw⟩
      subst hw
      go_wp2_with fail
      refine PC.out.mono ?_
      rintro e w1' ⟨rfl, m1, hw⟩
      have BD : Hid (Below w1.heap.size w1 w1') := by rw [hw]; exact below_dN (Below.refl _ _) m1
      clear hw
      go_wp2_with fail
      refine (SC.out _ BD.out).mono ?_
      rintro e w2 ⟨⟨u, rfl, ho⟩, hb2⟩
      have TC1 : Hid (Calls _ _ _ _ _) := TC.out u w2 (own_down ho BD.out.size) (over BD.out hb2)
      have B2 : Hid (Below w1.heap.size w1 w2) := over BD.out hb2
      clear ho hb2
      go_wp2_with fail
      refine TC1.out.mono ?_
      rintro e w3 ⟨u3, F3, rfl, ho3, hj3, hg3, hbe⟩
      have H3 : Hid (w3.ownsRow w1.heap.size 9 1 u3 (ans A).length ((ans A).map Value.string) ∧ SJ s sb lv base F3 A.2.2 w3 ∧ Goes F w1 F3 w3 ∧ Beside F3 u3) := ⟨own_down ho3 B2.out.size, hj3, (Goes.of_below B2.out).trans hg3, hbe⟩
      clear ho3 hj3 hg3 hbe
      go_wp2
      go_ret2
      exact ⟨u3, F3, rfl, H3.out.1, H3.out.2.1, H3.out.2.2.1, H3.out.2.2.2⟩
    · have HE : Hid (A = ([], places xs n, l)) := by
        show _ = _
        rw [← HA.out]
        unfold mulA
        rw [if_pos h0, if_neg h1]
      obtain ⟨c, HCc⟩ : ∃ c, Hid (places xs n = c) := ⟨_, rfl⟩
      rw [HCc.out] at PC HE h1
      have q0 : (c == 0) = false := by rw [beq_eq_false_iff_ne]; exact h1
      clear h0 h1 hJ hN hV hz
      go_enter Tryd.func25, Tryd.ntmps25
      go_wp2_with fail
      refine GC.out.mono ?_
      rintro e w1 ⟨rfl, hw⟩
      subst hw
      go_wp2_with fail
      refine PC.out.mono ?_
      rintro e w1' ⟨rfl, m1, hw⟩
      have BD : Hid (Below w1.heap.size w1 w1') := by rw [hw]; exact below_dN (Below.refl _ _) m1
      clear hw
      go_wp2
      go_ret2
      exact refused HE.out (RR.out.later HJ.out BD.out) BD.out
  · have HE : Hid (A = ([], chk s.sz n, l)) := by
      show _ = _
      rw [← HA.out]
      unfold mulA
      rw [if_neg h0]
    obtain ⟨c, HCc⟩ : ∃ c, Hid (chk s.sz n = c) := ⟨_, rfl⟩
    rw [HCc.out] at GC HE h0
    have q0 : (c == 0) = false := by rw [beq_eq_false_iff_ne]; exact h0
    clear h0 hJ hN hV hz
    go_enter Tryd.func25, Tryd.ntmps25
    go_wp2_with fail
    refine GC.out.mono ?_
    rintro e w1 ⟨rfl, hw⟩
    subst hw
    go_wp2
    go_ret2
    exact refused HE.out HJ.out (Below.refl _ _)
end Go.Proofs.YtglffbhcnafbnabDoor.mt
