import Derived.Test.YtoakkoalkpfkmaaD5
namespace Go.Proofs.Ytoakkoalkpfkmaa.d6
open Go.RowKit Go.PlainAid Go.Shelf
open Go.Proofs.Ytoakkoalkpfkmaa.ca Go.Proofs.Ytoakkoalkpfkmaa.cp Go.Proofs.Ytoakkoalkpfkmaa.d1 Go.Proofs.Ytoakkoalkpfkmaa.d2 Go.Proofs.Ytoakkoalkpfkmaa.d3 Go.Proofs.Ytoakkoalkpfkmaa.d4 Go.Proofs.Ytoakkoalkpfkmaa.d5
set_option linter.unusedVariables false
attribute [local go_sem] Oper.semAt_some

theorem all_not (h n : Int) (hb : (decide (1 ≤ h) && decide (h ≤ 8)) = false) (w : World) :
    CallsIn Fence.wide 3 Try.prog 4 #[.int .i64 h, .int .i64 n] w fun e W' => e = .returned (.tuple #[.slice none 0 0, .int .i64 10]) ∧ Below w.heap.size w W' := by
  have HC : Hid (∀ w, Calls _ _ _ _ _) := fun w => high8 h w
  rw [hb] at HC
  clear hb
  refine callsIn_of_wp_marks Try.func4 rfl trivial ?_ rfl
  simp only [Try.ntmps4, List.size_toArray, List.length_cons, List.length_nil, Nat.reduceAdd, Nat.reduceSub, Array.replicate_succ, Array.replicate_zero, List.push_toArray, List.append_toArray, List.nil_append, List.cons_append]
  gi_wp2_with (first | ((try refine ⟨trivial, ?_⟩); gi_at_call 8; refine (callsIn_wide.2 (HC.out _)).mono ?_; rintro e w' ⟨rfl, rfl⟩) | (refine ⟨trivial, ?_⟩))
  exact ⟨_, results_tmp2 rfl _ _ _, rfl, (Below.refl _ _).alloc (Nat.le_refl _) _⟩
theorem all_size (h n : Int) (hb : (decide (1 ≤ h) && decide (h ≤ 8)) = true) (hs : (decide (0 ≤ n) && decide (n ≤ 4611686018427387904)) = false) (w : World) :
    CallsIn Fence.wide 3 Try.prog 4 #[.int .i64 h, .int .i64 n] w fun e W' => e = .returned (.tuple #[.slice none 0 0, .int .i64 10]) ∧ Below w.heap.size w W' := by
  have HC : Hid (∀ w, Calls _ _ _ _ _) := fun w => high8 h w
  have SC : Hid (∀ w, Calls _ _ _ _ _) := fun w => size8 n w
  rw [hb] at HC
  rw [hs] at SC
  clear hb hs
  refine callsIn_of_wp_marks Try.func4 rfl trivial ?_ rfl
  simp only [Try.ntmps4, List.size_toArray, List.length_cons, List.length_nil, Nat.reduceAdd, Nat.reduceSub, Array.replicate_succ, Array.replicate_zero, List.push_toArray, List.append_toArray, List.nil_append, List.cons_append]
  gi_wp2_with (first | ((try refine ⟨trivial, ?_⟩); gi_at_call 8; refine (callsIn_wide.2 (HC.out _)).mono ?_; rintro e w' ⟨rfl, rfl⟩) | ((try refine ⟨trivial, ?_⟩); gi_at_call 9; refine (callsIn_wide.2 (SC.out _)).mono ?_; rintro e w' ⟨rfl, rfl⟩))
  exact ⟨_, results_tmp2 rfl _ _ _, rfl, (Below.refl _ _).alloc (Nat.le_refl _) _⟩
theorem all_many (k N : Nat) (hk1 : 1 ≤ k) (hk : k ≤ 8) (hN : N ≤ 4611686018427387904) (hM : ¬ cntL (2 ^ k) (rowsL (2 ^ k) 0 N) ≤ 65536) (w : World) :
    CallsIn Fence.wide 3 Try.prog 4 #[.int .i64 (k : Int), .int .i64 (N : Int)] w fun e W' => e = .returned (.tuple #[.slice none 0 0, .int .i64 83]) ∧ Below w.heap.size w W' := by
  have dm : decide ((65536 : Int) < (cntL (2 ^ k) (rowsL (2 ^ k) 0 N) : Nat)) = true := decide_eq_true (by omega)
  have HC : Hid (∀ w, Calls _ _ _ _ _) := fun w => high8 (k : Int) w
  have SC : Hid (∀ w, Calls _ _ _ _ _) := fun w => size8 (N : Int) w
  have dk1 : decide ((1 : Int) ≤ (k : Int)) = true := decide_eq_true (by omega)
  have dk8 : decide ((k : Int) ≤ 8) = true := decide_eq_true (by omega)
  have dn0 : decide ((0 : Int) ≤ (N : Int)) = true := decide_eq_true (by omega)
  have dn1 : decide ((N : Int) ≤ 4611686018427387904) = true := decide_eq_true (by omega)
  rw [dk1, dk8] at HC
  rw [dn0, dn1] at SC
  have MC : Hid (∀ w, CallsIn _ _ _ _ _ _ _) := fun w => many_in 3 (by omega) k N hk1 hk hN w
  generalize cntL (2 ^ k) (rowsL (2 ^ k) 0 N) = cN at dm MC
  clear hM dk1 dk8 dn0 dn1
  refine callsIn_of_wp_marks Try.func4 rfl trivial ?_ rfl
  simp only [Try.ntmps4, List.size_toArray, List.length_cons, List.length_nil, Nat.reduceAdd, Nat.reduceSub, Array.replicate_succ, Array.replicate_zero, List.push_toArray, List.append_toArray, List.nil_append, List.cons_append]
  gi_wp2_with (first | ((try refine ⟨trivial, ?_⟩); gi_at_call 8; refine (callsIn_wide.2 (HC.out _)).mono ?_; rintro e w' ⟨rfl, rfl⟩) | ((try refine ⟨trivial, ?_⟩); gi_at_call 9; refine (callsIn_wide.2 (SC.out _)).mono ?_; rintro e w' ⟨rfl, rfl⟩) | ((try refine ⟨trivial, ?_⟩); gi_at_call 10; refine (callsIn_wide.2 (callsIn_wide.1 (MC.out _))).mono ?_; rintro e w2 ⟨rfl, hb2⟩; have B2 : Hid (Below _ _ _) := hb2; clear hb2))
  exact ⟨_, results_tmp2 rfl _ _ _, rfl, over ((Below.refl _ _).alloc (Nat.le_refl _) _) B2.out⟩
def Gives (f : Nat) (h n : Int) : Prop := ∀ w, Calls Try.prog f #[.int .i64 h, .int .i64 n] w fun e w' => (∃ v, e = .returned (.tuple #[v, .int .i64 (allE h n)]) ∧ w'.ownsRow w.heap.size 31 4 v (allI h n).length (cl4s (allI h n))) ∧ Below w.heap.size w w'
theorem all_refused {h n : Int} (g : ¬ (okH h n ∧ manyI h n ≤ 65536)) : allI h n = [] := by unfold allI; rw [if_neg g]
theorem allC (h n : Int) : Gives 4 h n := by
  intro w
  by_cases g : okH h n
  · obtain ⟨k, rfl⟩ : ∃ k : Nat, h = k := ⟨h.toNat, by have := g.1; omega⟩
    obtain ⟨N, rfl⟩ : ∃ N : Nat, n = N := ⟨n.toNat, by have := g.2.2.1; omega⟩
    obtain ⟨g1, g2, g3, g4⟩ := g
    have eM : manyI (k : Int) (N : Int) = cntL (2 ^ k) (rowsL (2 ^ k) 0 N) := rfl
    by_cases gm : cntL (2 ^ k) (rowsL (2 ^ k) 0 N) ≤ 65536
    · refine (callsIn_wide.1 (all_in 3 (by omega) k N (by omega) (by omega) (by omega) gm w)).mono ?_
      rintro e w' ⟨⟨v, rfl, ho⟩, hb⟩
      have e1 : allE (k : Int) (N : Int) = 0 := by unfold allE; rw [if_pos ⟨g1, g2, g3, g4⟩, eM, if_pos gm]
      have e2 : allI (k : Int) (N : Int) = tilesL k (2 ^ k) (rowsL (2 ^ k) 0 N) := by unfold allI; rw [if_pos ⟨⟨g1, g2, g3, g4⟩, by rw [eM]; exact gm⟩]; rfl
      refine ⟨⟨v, by rw [e1], ?_⟩, hb⟩
      rw [e2, tilesL_len]
      exact ho
    · refine (callsIn_wide.1 (all_many k N (by omega) (by omega) (by omega) gm w)).mono ?_
      rintro e w' ⟨rfl, hb⟩
      have e1 : allE (k : Int) (N : Int) = 83 := by unfold allE; rw [if_pos ⟨g1, g2, g3, g4⟩, eM, if_neg gm]
      rw [all_refused (fun x => gm (by rw [← eM]; exact x.2))]
      exact ⟨⟨_, by rw [e1], World.ownsRow_nil _ _ _ _⟩, hb⟩
  · have e1 : allE h n = 10 := by unfold allE; rw [if_neg g]
    have e2 : allI h n = [] := all_refused (fun x => g x.1)
    rw [e2]
    by_cases gh : (decide (1 ≤ h) && decide (h ≤ 8)) = true
    · have gs : (decide (0 ≤ n) && decide (n ≤ 4611686018427387904)) = false := by
        cases e : (decide (0 ≤ n) && decide (n ≤ 4611686018427387904))
        · rfl
        · rw [Bool.and_eq_true, decide_eq_true_iff, decide_eq_true_iff] at e gh
          exact absurd ⟨gh.1, gh.2, e.1, e.2⟩ g
      refine (callsIn_wide.1 (all_size h n gh gs w)).mono ?_
      rintro e w' ⟨rfl, hb⟩
      exact ⟨⟨_, by rw [e1], World.ownsRow_nil _ _ _ _⟩, hb⟩
    · refine (callsIn_wide.1 (all_not h n (by simpa using gh) w)).mono ?_
      rintro e w' ⟨rfl, hb⟩
      exact ⟨⟨_, by rw [e1], World.ownsRow_nil _ _ _ _⟩, hb⟩
end Go.Proofs.Ytoakkoalkpfkmaa.d6
