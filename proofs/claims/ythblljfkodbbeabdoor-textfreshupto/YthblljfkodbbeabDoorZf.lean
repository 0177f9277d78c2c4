import Derived.Test.YthblljfkodbbeabDoorZe
import Derived.Test.YthblljfkodbbeabDoorXf
import Derived.Test.YthblljfkodbbeabDoorYi
import Derived.BigQuiet
namespace Go.Proofs.YthblljfkodbbeabDoor.zf
open Go.RowKit Go.PlainAid
open Go.Proofs.YthblljfkodbbeabDoor.ta Go.Proofs.YthblljfkodbbeabDoor.tb Go.Proofs.YthblljfkodbbeabDoor.tc Go.Proofs.YthblljfkodbbeabDoor.tj Go.Proofs.YthblljfkodbbeabDoor.ub Go.Proofs.YthblljfkodbbeabDoor.va Go.Proofs.YthblljfkodbbeabDoor.vb Go.Proofs.YthblljfkodbbeabDoor.vc Go.Proofs.YthblljfkodbbeabDoor.xf Go.Proofs.YthblljfkodbbeabDoor.ya Go.Proofs.YthblljfkodbbeabDoor.yb Go.Proofs.YthblljfkodbbeabDoor.yi Go.Proofs.YthblljfkodbbeabDoor.za Go.Proofs.YthblljfkodbbeabDoor.zb Go.Proofs.YthblljfkodbbeabDoor.zc Go.Proofs.YthblljfkodbbeabDoor.ze
set_option linter.unusedVariables false

-- lists that are alike: true, and nothing is written
set_option maxHeartbeats 1600000 in
theorem same (va vb : Value) (xs : List ByteArray) (w : World) (h1 : Reads w va xs) (h2 : Reads w vb xs) (hz : xs.length ≤ 140737488355328) :
    Calls Tryd.prog 13 #[va, vb] w fun e w' => e = .returned (.bool true) ∧ ∃ m, w' = w.drewN m := by
  obtain ⟨a, cap, rfl, h1⟩ := h1
  obtain ⟨a', cap', rfl, h2⟩ := h2
  have HC : Hid (xs.length = 0 ∨ ∃ b off, a = some ⟨b, off, none⟩ ∧ ∀ i, i < xs.length → w.cell? ⟨b, off + i, none⟩ = some (.string (xs.getD i ByteArray.empty))) := h1
  have HC' : Hid (xs.length = 0 ∨ ∃ b off, a' = some ⟨b, off, none⟩ ∧ ∀ i, i < xs.length → w.cell? ⟨b, off + i, none⟩ = some (.string (xs.getD i ByteArray.empty))) := h2
  obtain ⟨n, HN⟩ : ∃ n, Hid (xs.length = n) := ⟨_, rfl⟩
  rw [HN.out] at HC HC' hz ⊢
  clear h1 h2
  have hl' : ((n : Int) == (n : Int)) = true := beq_self_eq_true _
  go_enter Tryd.func13, Tryd.ntmps13
  go_wp2
  go_loopw [5] (fun i wr => ∃ k m : Nat, k ≤ n ∧ i = .int .i64 k ∧ wr = w.drewN m) (fun i _ => (n - intOf i).toNat)
  case atStart => exact ⟨0, 0, by omega, rfl, rfl⟩
  case round =>
    obtain ⟨k, m, hk, rfl, rfl⟩ := hrel
    by_cases hlt : k < n
    · have hlt' : (k : Int) < n := by omega
      obtain ⟨b, off, rfl, hc⟩ : ∃ b off, a = some ⟨b, off, none⟩ ∧ ∀ i, i < n → w.cell? ⟨b, off + i, none⟩ = some (.string (xs.getD i ByteArray.empty)) := by
        rcases HC.out with h | h
        · omega
        · exact h
      obtain ⟨b', off', rfl, hc'⟩ : ∃ b off, a' = some ⟨b, off, none⟩ ∧ ∀ i, i < n → w.cell? ⟨b, off + i, none⟩ = some (.string (xs.getD i ByteArray.empty)) := by
        rcases HC'.out with h | h
        · omega
        · exact h
      obtain ⟨X, HX⟩ : ∃ X, Hid (xs.getD k ByteArray.empty = X) := ⟨_, rfl⟩
      have c1 := hc k hlt
      have c2 := hc' k hlt
      rw [HX.out] at c1 c2
      have hb : (X.toList == X.toList) = true := beq_self_eq_true _
      clear hc hc'
      go_wp2_with fail
      go_quiet (fail)
      go_wp2
      go_roundw
      case rel => exact ⟨k + 1, _, by omega, by go_num, rfl⟩
      case measure => simp [intOf]; omega
    · have hlt' : ¬ (k : Int) < n := by omega
      go_wp2
      go_ret
      exact ⟨rfl, _, rfl⟩

def Two (f r : Nat) (s : ByteArray) : Prop := ∃ (Y : List ByteArray) (ec : Int), Y.length ≤ 1048577 ∧
    (∀ w, Calls Tryd.prog f #[.string s] w fun e w' => (∃ v, e = .returned (.tuple #[v, .int .i64 ec]) ∧ Texts w' w.heap.size v Y) ∧ Below w.heap.size w w') ∧
    (∀ w, Calls Tryd.prog r #[.string s] w fun e w' => (∃ v, e = .returned (.tuple #[v, .int .i64 ec]) ∧ w'.ownsRow w.heap.size 9 1 v Y.length (Y.map Value.string)) ∧ Below w.heap.size w w')
theorem two_lines (s : ByteArray) (hs : s.size ≤ 1048576) : Two 14 15 s := by
  have A := fun w => lines s (by omega) w
  have B := fun w => rLines2 s (by omega) w
  cases h : linesP (bs s) with
  | none =>
    rw [h] at A B
    refine ⟨[], 43, by simp, fun w => (A w).mono ?_, fun w => (B w).mono ?_⟩
    · rintro e w' ⟨he, hb⟩
      exact ⟨⟨_, he, .inl ⟨rfl, rfl⟩⟩, hb⟩
    · rintro e w' ⟨he, hb⟩
      exact ⟨⟨_, he, World.ownsRow_nil _ _ _ _⟩, hb⟩
  | some ys =>
    rw [h] at A B
    refine ⟨ys.map str, 0, ?_, fun w => (A w).mono ?_, fun w => (B w).mono ?_⟩
    · rw [List.length_map]
      unfold linesP at h
      split at h
      · obtain rfl := Option.some.inj h; simp
      · split at h
        · obtain rfl := Option.some.inj h
          rw [parts_length]
          have := List.count_le_length (a := (10 : Int)) (l := (bs s).take ((bs s).length - 1))
          have hl := bs_length s
          rw [List.length_take] at this
          omega
        · cases h
    · rintro e w' ⟨⟨v, he, ht⟩, hb⟩
      exact ⟨⟨v, he, ht⟩, hb⟩
    · rintro e w' ⟨⟨v, he, ht⟩, hb⟩
      exact ⟨⟨v, he, ht⟩, hb⟩
theorem allP_length (ps : List (List Int)) (xs : List (List Int)) (h : allP ps = some xs) : xs.length = ps.length := by
  induction ps generalizing xs with
  | nil => obtain rfl := Option.some.inj h; rfl
  | cons p ps ih =>
    unfold allP at h
    cases hp : unP p with
    | none => rw [hp] at h; simp at h
    | some q =>
      rw [hp] at h
      cases hq : allP ps with
      | none => rw [hq] at h; simp at h
      | some qs =>
        rw [hq] at h
        simp at h
        subst h
        simp [ih qs hq]
theorem two_words (s : ByteArray) (hs : s.size ≤ 1048576) : Two 11 12 s := by
  have A := fun w => words s (by omega) w
  have B := fun w => rWords2 s (by omega) w
  cases h : wordsP (bs s) with
  | none =>
    rw [h] at A B
    refine ⟨[], 44, by simp, fun w => (A w).mono ?_, fun w => (B w).mono ?_⟩
    · rintro e w' ⟨he, hb⟩
      exact ⟨⟨_, he, .inl ⟨rfl, rfl⟩⟩, hb⟩
    · rintro e w' ⟨he, hb⟩
      exact ⟨⟨_, he, World.ownsRow_nil _ _ _ _⟩, hb⟩
  | some ys =>
    rw [h] at A B
    refine ⟨ys.map str, 0, ?_, fun w => (A w).mono ?_, fun w => (B w).mono ?_⟩
    · rw [List.length_map]
      unfold wordsP at h
      split at h
      · obtain rfl := Option.some.inj h; simp
      · rw [allP_length _ _ h, parts_length]
        have := List.count_le_length (a := (32 : Int)) (l := bs s)
        have hl := bs_length s
        omega
    · rintro e w' ⟨⟨v, he, ht⟩, hb⟩
      exact ⟨⟨v, he, ht⟩, hb⟩
    · rintro e w' ⟨⟨v, he, ht⟩, hb⟩
      exact ⟨⟨v, he, ht⟩, hb⟩
end Go.Proofs.YthblljfkodbbeabDoor.zf
