import Derived.Test.YtnjkjmkhpdioaaaForP
import Derived.Test.YtnjkjmkhpdioaaaPutVar
import Derived.RegionTactic
import Derived.BigRegion
import Derived.Deep.RegionWith
import Derived.WalkLawsBesides
namespace Go.Proofs.Ytnjkjmkhpdioaaa.forw
open Go.RowKit Go.PlainAid
open Go.Proofs.Ytnjkjmkhpdioaaa.rowb
set_option linter.unusedVariables false

theorem conv_two (W : World) (c d : Int) :
    (convert 28 9 (.slice (some ⟨W.heap.size, 0, none⟩) 2 2)).run Try.prog (W.alloc (.cells #[.int .u8 c, .int .u8 d] 5)).drew = .ok (.string (str [c, d])) (W.alloc (.cells #[.int .u8 c, .int .u8 d] 5)).drew := by
  rw [run_convert_bytes_string _ 28 9 5 _ _ _ Try.underlying28 Try.underlying5 Try.underlying9]
  refine run_bytesToString _ _ _ _ [c, d] ?_
  have h := run_loadCells_list (P := Try.prog) (w := (W.alloc (.cells #[.int .u8 c, .int .u8 d] 5)).drew) ⟨W.heap.size, 0, none⟩ ([c, d].map (Value.int .u8)) ?_
  · simpa using h
  · intro j v hj
    have e : (Addr.add ⟨W.heap.size, 0, none⟩ j) = ⟨W.heap.size, j, none⟩ := by cases j <;> simp [Addr.add]
    rw [e]
    show (W.alloc (.cells #[.int .u8 c, .int .u8 d] 5)).cell? _ = _
    rw [World.cell?_alloc_at _ _ _ _ rfl]
    simpa using hj

theorem grown_trans {a b c : World} (h : Grown a b) (g : Grown b c) : Grown a c :=
  ⟨World.keptBut_trans h.1 g.1, fun x => (g.2.1 x).trans (h.2.1 x), Nat.le_trans h.2.2 g.2.2⟩

set_option maxHeartbeats 1600000 in
theorem core_no (v e : Int) (b s : ByteArray) (p : Int) (m : Nat) (w : World) (m1 : 1 ≤ m) (m2 : m ≤ 10) (hs : s.size = m) (hb : b.size ≤ 9223372036854775807)
    (HP : Hid (∀ w, Calls Try.prog 9 #[.int .u64 v] w fun e w' => e = .returned (.string s) ∧ Grown w w'))
    (H1 : Hid (∀ w, Calls Try.prog 10 #[.string (s.extract 0 (m - 1)), .int .i64 0] w fun e w' => e = .returned (.tuple #[.int .u64 0, .int .i64 0, .int .i64 12]) ∧ w' = w))
    (H2 : Hid (m < 10 → ∀ w, Calls Try.prog 10 #[.string (s.extract 0 (m - 1) ++ str [bits BinOp.or IntKind.u8 (bt s (m - 1)) 128, 0]), .int .i64 0] w fun e w' => e = .returned (.tuple #[.int .u64 0, .int .i64 0, .int .i64 13]) ∧ w' = w))
    (H3 : Hid (∀ w, Calls Try.prog 10 #[.string b, .int .i64 p] w fun e' w' => e' = .returned (.tuple #[.int .u64 0, .int .i64 0, .int .i64 e]) ∧ w' = w))
    (he : (e != 0) = true) :
    Calls Try.prog 4 #[.string b, .int .i64 p, .int .u64 v] w fun e w' => e = .returned (.bool true) ∧ Grown w w' := by
  have hbt := get_bt s
  have d1 : decide ((m : Int) < 1) = false := by simp; omega
  have d2 : decide (10 < (m : Int)) = false := by simp; omega
  have d3 : decide (10 < m) = false := by simp; omega
  have d4 : decide (m < 1) = false := by simp; omega
  have hcv := conv_two
  have hstr : ∀ c d : Int, (str [c, d]).size = 2 := fun c d => str_size [c, d]
  by_cases hm : m < 10
  · have hm' : (m : Int) < 10 := by omega
    go_enter Try.func4, Try.ntmps4
    go_wp2_with fail
    refine (HP.out _).mono ?_
    rintro e' w1 ⟨rfl, g1⟩
    have G : Hid (Grown _ _) := g1
    clear g1
    go_wp2_with fail
    refine (H1.out _).mono ?_
    rintro e' w2 ⟨rfl, rfl⟩
    go_wp2_with fail
    go_region
    go_wp2_with fail
    refine (H2.out hm _).mono ?_
    rintro e' w3 ⟨rfl, rfl⟩
    go_wp2_with fail
    refine (H3.out _).mono ?_
    rintro e' w4 ⟨rfl, rfl⟩
    go_wp2
    go_ret
    exact ⟨by simp, (G.out.alloc _ _).drew⟩
  · have hm' : ¬ (m : Int) < 10 := by omega
    go_enter Try.func4, Try.ntmps4
    go_wp2_with fail
    refine (HP.out _).mono ?_
    rintro e' w1 ⟨rfl, g1⟩
    have G : Hid (Grown _ _) := g1
    clear g1
    go_wp2_with fail
    refine (H1.out _).mono ?_
    rintro e' w2 ⟨rfl, rfl⟩
    go_wp2_with fail
    refine (H3.out _).mono ?_
    rintro e' w4 ⟨rfl, rfl⟩
    go_wp2
    go_ret
    exact ⟨by simp, G.out⟩

set_option maxHeartbeats 1600000 in
theorem core_yes (v x : Int) (b s t : ByteArray) (p n : Nat) (m : Nat) (w : World) (m1 : 1 ≤ m) (m2 : m ≤ 10) (hs : s.size = m) (hb : b.size ≤ 9223372036854775807) (hpn : p < n) (hnb : n ≤ b.size)
    (HP : Hid (∀ w, Calls Try.prog 9 #[.int .u64 v] w fun e w' => e = .returned (.string s) ∧ Grown w w'))
    (H1 : Hid (∀ w, Calls Try.prog 10 #[.string (s.extract 0 (m - 1)), .int .i64 0] w fun e w' => e = .returned (.tuple #[.int .u64 0, .int .i64 0, .int .i64 12]) ∧ w' = w))
    (H2 : Hid (m < 10 → ∀ w, Calls Try.prog 10 #[.string (s.extract 0 (m - 1) ++ str [bits BinOp.or IntKind.u8 (bt s (m - 1)) 128, 0]), .int .i64 0] w fun e w' => e = .returned (.tuple #[.int .u64 0, .int .i64 0, .int .i64 13]) ∧ w' = w))
    (H3 : Hid (∀ w, Calls Try.prog 10 #[.string b, .int .i64 p] w fun e' w' => e' = .returned (.tuple #[.int .u64 x, .int .i64 n, .int .i64 0]) ∧ w' = w))
    (H4 : Hid (∀ w, Calls Try.prog 9 #[.int .u64 x] w fun e w' => e = .returned (.string t) ∧ Grown w w'))
    (ht : ((b.extract p n).toList == t.toList) = true) :
    Calls Try.prog 4 #[.string b, .int .i64 p, .int .u64 v] w fun e w' => e = .returned (.bool true) ∧ Grown w w' := by
  have hbt := get_bt s
  have d1 : decide ((m : Int) < 1) = false := by simp; omega
  have d2 : decide (10 < (m : Int)) = false := by simp; omega
  have d3 : decide (10 < m) = false := by simp; omega
  have d4 : decide (m < 1) = false := by simp; omega
  have hcv := conv_two
  have hstr : ∀ c d : Int, (str [c, d]).size = 2 := fun c d => str_size [c, d]
  have f1 : decide ((p : Int) < 0) = false := by simp
  have f2 : decide ((n : Int) ≤ (p : Int)) = false := by simp; omega
  have f3 : decide (n ≤ p) = false := by simp; omega
  have f4 : decide (b.size < n) = false := by simp; omega
  by_cases hm : m < 10
  · have hm' : (m : Int) < 10 := by omega
    go_enter Try.func4, Try.ntmps4
    go_wp2_with fail
    refine (HP.out _).mono ?_
    rintro e' w1 ⟨rfl, g1⟩
    have G : Hid (Grown _ _) := g1
    clear g1
    go_wp2_with fail
    refine (H1.out _).mono ?_
    rintro e' w2 ⟨rfl, rfl⟩
    go_wp2_with fail
    go_region
    go_wp2_with fail
    refine (H2.out hm _).mono ?_
    rintro e' w3 ⟨rfl, rfl⟩
    go_wp2_with fail
    refine (H3.out _).mono ?_
    rintro e' w4 ⟨rfl, rfl⟩
    go_wp2_with fail
    go_region_with (go_at_call 9; refine (H4.out _).mono ?_; rintro e' w5 ⟨rfl, g5⟩)
    all_goals go_wp2
    all_goals
      go_ret
      exact ⟨rfl, grown_trans ((G.out.alloc _ _).drew).drew g5⟩
  · have hm' : ¬ (m : Int) < 10 := by omega
    go_enter Try.func4, Try.ntmps4
    go_wp2_with fail
    refine (HP.out _).mono ?_
    rintro e' w1 ⟨rfl, g1⟩
    have G : Hid (Grown _ _) := g1
    clear g1
    go_wp2_with fail
    refine (H1.out _).mono ?_
    rintro e' w2 ⟨rfl, rfl⟩
    go_wp2_with fail
    refine (H3.out _).mono ?_
    rintro e' w4 ⟨rfl, rfl⟩
    go_wp2_with fail
    go_region_with (go_at_call 9; refine (H4.out _).mono ?_; rintro e' w5 ⟨rfl, g5⟩)
    all_goals go_wp2
    all_goals
      go_ret
      exact ⟨rfl, grown_trans G.out.drew g5⟩
end Go.Proofs.Ytnjkjmkhpdioaaa.forw
