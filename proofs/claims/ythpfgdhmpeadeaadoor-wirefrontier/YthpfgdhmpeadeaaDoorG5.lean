import Derived.Test.YthpfgdhmpeadeaaDoorG1
import Derived.Test.YthpfgdhmpeadeaaDoorG2
import Derived.Laws.BitsAllLaws
import Derived.BigQuiet
import Derived.Handy
import Derived.Deep.DeepCutAuto
import Derived.Deep.AppendLies
import Derived.Laws.AppendOwnNone
import Derived.Lib.SliceRun
import Derived.RowKit3
namespace Go.Proofs.YthpfgdhmpeadeaaDoor.ba
open Go.RowKit Go.PlainAid
open Go.Proofs.YthpfgdhmpeadeaaDoor.ca Go.Proofs.YthpfgdhmpeadeaaDoor.cb Go.Proofs.YthpfgdhmpeadeaaDoor.cp Go.Proofs.YthpfgdhmpeadeaaDoor.ga Go.Proofs.YthpfgdhmpeadeaaDoor.aa Go.Proofs.YthpfgdhmpeadeaaDoor.xc Go.Proofs.YthpfgdhmpeadeaaDoor.mh
set_option linter.unusedVariables false

def pv (a b : Nat) : Value := .agg #[.int .i64 a, .int .i64 b]
theorem has (a b i : Nat) (w : World) : Calls Tryd.prog 108 #[.agg #[.int .i64 a, .int .i64 b], .int .i64 i] w fun e w' => e = .returned (.bool (decide (a ≤ i ∧ i < b))) ∧ Below w.heap.size w w' := by
  have B0 : Hid (Below w.heap.size w (w.alloc (.cells #[.int .i64 a, .int .i64 b] 140))) := (Below.refl _ _).alloc (Nat.le_refl _) _
  by_cases h1 : a ≤ i
  · go_enter Tryd.func108, Tryd.ntmps108
    go_wp2
    go_ret
    exact ⟨by first | rfl | simp [h1], B0.out⟩
  · go_enter Tryd.func108, Tryd.ntmps108
    go_wp2
    go_ret
    exact ⟨by first | rfl | simp [h1], B0.out⟩
theorem isLeaf (a b : Nat) (hab : a ≤ b) (hb : b ≤ 4611686018427387904) (w : World) : Calls Tryd.prog 109 #[.agg #[.int .i64 a, .int .i64 b]] w fun e w' => e = .returned (.bool (decide (b - a = 1))) ∧ Below w.heap.size w w' := by
  have B0 : Hid (Below w.heap.size w (w.alloc (.cells #[.int .i64 a, .int .i64 b] 140))) := (Below.refl _ _).alloc (Nat.le_refl _) _
  have HE : Hid (decide (b - a = 1) = ((b : Int) - a == 1)) := by
    show _ = _
    by_cases h : b - a = 1
    · rw [decide_eq_true h]; symm; rw [beq_iff_eq]; omega
    · rw [decide_eq_false h]; symm; rw [beq_eq_false_iff_ne]; omega
  rw [HE.out]
  go_enter Tryd.func109, Tryd.ntmps109
  go_wp2
  go_ret
  exact ⟨rfl, B0.out⟩
theorem belowC (n : Nat) (h : 2 ≤ n) (hn : n ≤ 4611686018427387904) (w : World) :
    Calls Tryd.prog 116 #[.int .i64 n] w fun e w' => e = .returned (.tuple #[.int .i64 (half n : Nat), .int .i64 0]) ∧ w' = w := by
  obtain ⟨l, hl, he, h62⟩ := half_len h hn
  have hlt := (half_lt h).2.1
  have C : Hid (∀ w, Calls _ _ _ _ _) := fun w => bits_any ((n : Int) - 1) w (by omega) (by omega)
  rw [show ((n : Int) - 1).toNat = n - 1 by omega, hl] at C
  obtain ⟨t, HT⟩ : ∃ t : Nat, Hid (2 ^ l = t) := ⟨_, rfl⟩
  have hT : (2 : Int) ^ l = (t : Int) := by rw [cast_pow, HT.out]
  rw [he, HT.out] at hlt ⊢
  have hw1 : ((l + 1 : Nat) : Int) = (l : Int) + 1 := by omega
  have hw3 : min (l : Int).toNat 64 = l := by omega
  have hw4 : min l 64 = l := by omega
  have hw5 : IntKind.i64.wrap (t : Int) = t := wrap_is t (by omega)
  have d1 : decide ((n : Int) < 2) = false := decide_eq_false (by omega)
  have hl0 : (0 : Int) ≤ l := by omega
  rw [hw1] at C
  clear hl he
  go_enter Tryd.func116, Tryd.ntmps116
  go_wp2_with fail
  refine (C.out _).mono ?_
  rintro e w1 ⟨rfl, hw⟩
  subst hw
  go_wp2
  go_ret2
  exact ⟨rfl, rfl⟩
end Go.Proofs.YthpfgdhmpeadeaaDoor.ba

namespace Go.Proofs.YthpfgdhmpeadeaaDoor.bb
open Go.RowKit Go.PlainAid
open Go.Proofs.YthpfgdhmpeadeaaDoor.ca Go.Proofs.YthpfgdhmpeadeaaDoor.cb Go.Proofs.YthpfgdhmpeadeaaDoor.cp Go.Proofs.YthpfgdhmpeadeaaDoor.ga Go.Proofs.YthpfgdhmpeadeaaDoor.aa Go.Proofs.YthpfgdhmpeadeaaDoor.ba
set_option linter.unusedVariables false

theorem three_cells (w : World) (o : Obj) (x y x' y' : Value) (t t' : TypeId) :
    (((w.alloc o).alloc (.cells #[x, y] t)).alloc (.cells #[x', y'] t')).drew.cell? ⟨w.heap.size + 1, 0, none⟩ = some x ∧ (((w.alloc o).alloc (.cells #[x, y] t)).alloc (.cells #[x', y'] t')).drew.cell? ⟨w.heap.size + 1, 1, none⟩ = some y ∧
    (((w.alloc o).alloc (.cells #[x, y] t)).alloc (.cells #[x', y'] t')).drew.cell? ⟨w.heap.size + 1 + 1, 0, none⟩ = some x' ∧ (((w.alloc o).alloc (.cells #[x, y] t)).alloc (.cells #[x', y'] t')).drew.cell? ⟨w.heap.size + 1 + 1, 1, none⟩ = some y' := by
  have s1 : (w.alloc o).heap.size = w.heap.size + 1 := by simp
  have s2 : ((w.alloc o).alloc (.cells #[x, y] t)).heap.size = w.heap.size + 1 + 1 := by simp
  have B : Below ((w.alloc o).alloc (.cells #[x, y] t)).heap.size ((w.alloc o).alloc (.cells #[x, y] t)) ((((w.alloc o).alloc (.cells #[x, y] t)).alloc (.cells #[x', y'] t')).drew) := below_dN ((Below.refl _ _).alloc (Nat.le_refl _) _) 1
  refine ⟨?_, ?_, ?_, ?_⟩
  · refine (B.cell (p := ⟨w.heap.size + 1, 0, none⟩) (by show w.heap.size + 1 < _; rw [s2]; omega)).trans ?_
    rw [← s1, World.cell?_alloc_at _ _ _ _ rfl]; rfl
  · refine (B.cell (p := ⟨w.heap.size + 1, 1, none⟩) (by show w.heap.size + 1 < _; rw [s2]; omega)).trans ?_
    rw [← s1, World.cell?_alloc_at _ _ _ _ rfl]; rfl
  · show (((w.alloc o).alloc (.cells #[x, y] t)).alloc (.cells #[x', y'] t')).cell? _ = _
    rw [← s2, World.cell?_alloc_at _ _ _ _ rfl]; rfl
  · show (((w.alloc o).alloc (.cells #[x, y] t)).alloc (.cells #[x', y'] t')).cell? _ = _
    rw [← s2, World.cell?_alloc_at _ _ _ _ rfl]; rfl
theorem halves (a b : Nat) (h : 2 ≤ b - a) (hb : b ≤ 4611686018427387904) (w : World) :
    Calls Tryd.prog 106 #[.agg #[.int .i64 a, .int .i64 b]] w fun e w' => e = .returned (.tuple #[pv a (a + half (b - a)), pv (a + half (b - a)) b]) ∧ Below w.heap.size w w' := by
  have C : Hid (∀ w, Calls _ _ _ _ _) := fun w => belowC (b - a) h (by omega) w
  have hh := half_lt h
  obtain ⟨k, HK⟩ : ∃ k, Hid (half (b - a) = k) := ⟨_, rfl⟩
  rw [HK.out] at C hh ⊢
  have hk : (a : Int) + k ≤ b := by omega
  have e1 : ((b - a : Nat) : Int) = (b : Int) - a := by omega
  rw [e1] at C
  have e2 : (((a + k : Nat)) : Int) = (a : Int) + k := by omega
  have hw : IntKind.i64.wrap ((a : Int) + k) = (a : Int) + k := by rw [IntKind.wrap_i64]; omega
  have G : Hid (_ ∧ _ ∧ _ ∧ _) := three_cells w (.cells #[.int .i64 a, .int .i64 b] 140) (.int .i64 a) (.int .i64 ((a : Int) + k)) (.int .i64 ((a : Int) + k)) (.int .i64 b) 140 140
  have B3 : Hid (Below w.heap.size w (((w.alloc (.cells #[.int .i64 a, .int .i64 b] 140)).alloc (.cells #[.int .i64 a, .int .i64 ((a : Int) + k)] 140)).alloc (.cells #[.int .i64 ((a : Int) + k), .int .i64 b] 140)).drew) := below_dN ((((Below.refl _ _).alloc (Nat.le_refl _) _).alloc (by simp) _).alloc (by simp; omega) _) 1
  clear hh h e1
  go_enter Tryd.func106, Tryd.ntmps106
  go_wp2_with fail
  refine (C.out _).mono ?_
  rintro e w1 ⟨rfl, hw⟩
  subst hw
  go_wp2
  go_region
  all_goals (
    go_wp2
    (try simp only [Exit.inBlock, Exit.then])
    refine bodyPost_ret (by simp [results, Tryd.results106, go_sem, G.out.1, G.out.2.1, G.out.2.2.1, G.out.2.2.2]; try rfl) rfl ?_
    exact ⟨by rw [pv, pv, e2], B3.out⟩)
-- the step towards a place
theorem toward (a b i : Nat) (h : 2 ≤ b - a) (hb : b ≤ 4611686018427387904) (w : World) :
    Calls Tryd.prog 110 #[.agg #[.int .i64 a, .int .i64 b], .int .i64 i] w fun e w' => e = .returned (.int .i64 (if a ≤ i ∧ i < a + half (b - a) then 2 else 3)) ∧ Below w.heap.size w w' := by
  have C : Hid (∀ w, Calls _ _ _ _ _) := fun w => halves a b h hb w
  obtain ⟨k, HK⟩ : ∃ k, Hid (a + half (b - a) = k) := ⟨_, rfl⟩
  have hc : ∀ w, Calls Tryd.prog 108 #[.agg #[.int .i64 a, .int .i64 (k : Nat)], .int .i64 i] w fun e w' => e = .returned (.bool (decide (a ≤ i ∧ i < k))) ∧ Below w.heap.size w w' := fun w => has a k i w
  rw [HK.out] at C ⊢
  obtain ⟨t, HT⟩ : ∃ t, Hid (decide (a ≤ i ∧ i < k) = t) := ⟨_, rfl⟩
  rw [HT.out] at hc
  have H : Hid (∀ w, Calls _ _ _ _ _) := hc
  have HR : Hid ((if a ≤ i ∧ i < k then (2 : Int) else 3) = if t then 2 else 3) := by
    show _ = _
    rw [← HT.out]
    by_cases g : a ≤ i ∧ i < k <;> simp [g]
  rw [HR.out]
  unfold pv at C
  have B0 : Hid (Below w.heap.size w (w.alloc (.cells #[.int .i64 a, .int .i64 b] 140))) := (Below.refl _ _).alloc (Nat.le_refl _) _
  clear hc h hb HR
  go_enter Tryd.func110, Tryd.ntmps110
  go_wp2_with fail
  refine (C.out _).mono ?_
  rintro e w1 ⟨rfl, hb⟩
  have B1 : Hid (Below w.heap.size w w1) := over B0.out hb
  clear hb
  go_wp2_with fail
  refine (H.out _).mono ?_
  rintro e w2 ⟨rfl, hb⟩
  have B2 : Hid (Below w.heap.size w w2) := over ((B1.out.alloc B1.out.size _).alloc (by have := B1.out.size; simp; omega) _) hb
  clear hb
  cases t
  · go_wp2
    go_ret
    exact ⟨rfl, B2.out⟩
  · go_wp2
    go_ret
    exact ⟨rfl, B2.out⟩
end Go.Proofs.YthpfgdhmpeadeaaDoor.bb

namespace Go.Proofs.YthpfgdhmpeadeaaDoor.lk
open Go.RowKit Go.PlainAid
open Go.Proofs.YthpfgdhmpeadeaaDoor.ca Go.Proofs.YthpfgdhmpeadeaaDoor.cb Go.Proofs.YthpfgdhmpeadeaaDoor.cp Go.Proofs.YthpfgdhmpeadeaaDoor.ga Go.Proofs.YthpfgdhmpeadeaaDoor.aa Go.Proofs.YthpfgdhmpeadeaaDoor.ba Go.Proofs.YthpfgdhmpeadeaaDoor.bb Go.Proofs.YthpfgdhmpeadeaaDoor.kp
set_option linter.unusedVariables false

theorem part_box (w : World) (a b : Nat) : Bx (w.alloc (.cells #[.int .i64 a, .int .i64 b] 140)) w.heap.size a b := ⟨by rw [World.cell?_alloc_at _ _ _ _ rfl]; rfl, by rw [World.cell?_alloc_at _ _ _ _ rfl]; rfl⟩
theorem lookI (ib i a b : Nat) (w : World) (hab : a < b) (hb : b ≤ 4611686018427387904) (hP : w.cell? ⟨ib, 0, none⟩ = some (.int .i64 i)) :
    Calls Tryd.prog 107 #[.agg #[.int .i64 a, .int .i64 b], .pointer (some ⟨ib, 0, none⟩)] w fun e w' => e = .returned (.int .i64 (lkI i a b : Nat)) ∧ Below w.heap.size w w' := by
  have BA : Hid (Below w.heap.size w (w.alloc (.cells #[.int .i64 a, .int .i64 b] 140))) := (Below.refl _ _).alloc (Nat.le_refl _) _
  have HB : Hid (Bx (w.alloc (.cells #[.int .i64 a, .int .i64 b] 140)) w.heap.size a b) := part_box w a b
  have ci : (w.alloc (.cells #[.int .i64 a, .int .i64 b] 140)).cell? ⟨ib, 0, none⟩ = some (.int .i64 i) := (BA.out.cell (World.block_lt_of_cell? _ _ hP)).trans hP
  have HC : Hid (∀ w, Calls _ _ _ _ _) := fun w => has a b i w
  have LC : Hid (∀ w, Calls _ _ _ _ _) := fun w => isLeaf a b (by omega) hb w
  have TC : Hid (2 ≤ b - a → ∀ w, Calls _ _ _ _ _) := fun h w => toward a b i h hb w
  obtain ⟨r, HR⟩ : ∃ r, Hid (lkI i a b = r) := ⟨_, rfl⟩
  rw [HR.out]
  have HCI : Hid ((w.alloc (.cells #[.int .i64 a, .int .i64 b] 140)).cell? ⟨ib, 0, none⟩ = some (.int .i64 i)) := ci
  by_cases h : a ≤ i ∧ i < b
  · rw [decide_eq_true h] at HC
    by_cases h1 : b - a = 1
    · rw [decide_eq_true h1] at LC
      obtain rfl : 0 = r := by rw [← HR.out]; unfold lkI; rw [if_pos h, if_pos h1]
      clear TC HR h h1 hP
      go_enter Tryd.func107, Tryd.ntmps107
      go_wp2_with fail
      refine (HC.out _).mono ?_
      rintro e w1 ⟨rfl, hb1⟩
      have B1 : Hid (Below w.heap.size w w1) := over BA.out hb1
      obtain ⟨c1, c2⟩ := HB.out.later hb1
      clear hb1 ci
      go_wp2_with fail
      refine (LC.out _).mono ?_
      rintro e w2 ⟨rfl, hb2⟩
      have B2 : Hid (Below w.heap.size w w2) := over B1.out hb2
      clear hb2 c1 c2
      go_wp2
      go_ret
      exact ⟨rfl, B2.out⟩
    · rw [decide_eq_false h1] at LC
      have TC2 : Hid (∀ w, Calls Tryd.prog 110 #[.agg #[.int .i64 a, .int .i64 b], .int .i64 i] w fun e w' => e = .returned (.int .i64 (r : Nat)) ∧ Below w.heap.size w w') := by
        have e : ((r : Nat) : Int) = if a ≤ i ∧ i < a + half (b - a) then 2 else 3 := by
          rw [← HR.out]
          unfold lkI
          rw [if_pos h, if_neg h1]
          by_cases g : i < a + half (b - a)
          · rw [if_pos g, if_pos ⟨h.1, g⟩]; rfl
          · rw [if_neg g, if_neg (fun z => g z.2)]; rfl
        show ∀ w, _
        rw [e]
        exact TC.out (by omega)
      clear TC HR h h1 hP
      go_enter Tryd.func107, Tryd.ntmps107
      go_wp2_with fail
      refine (HC.out _).mono ?_
      rintro e w1 ⟨rfl, hb1⟩
      have B1 : Hid (Below w.heap.size w w1) := over BA.out hb1
      have HX1 : Hid (Bx w1 w.heap.size a b) := HB.out.later hb1
      obtain ⟨c1, c2⟩ := HX1.out
      have HCI1 : Hid (w1.cell? ⟨ib, 0, none⟩ = some (.int .i64 i)) := (hb1.cell (World.block_lt_of_cell? _ _ HCI.out)).trans HCI.out
      clear hb1 ci
      go_wp2_with fail
      refine (LC.out _).mono ?_
      rintro e w2 ⟨rfl, hb2⟩
      have B2 : Hid (Below w.heap.size w w2) := over B1.out hb2
      obtain ⟨d1, d2⟩ := HX1.out.later hb2
      have d3 := (hb2.cell (World.block_lt_of_cell? _ _ HCI1.out)).trans HCI1.out
      clear hb2 c1 c2
      go_wp2_with fail
      refine (TC2.out _).mono ?_
      rintro e w3 ⟨rfl, hb3⟩
      have B3 : Hid (Below w.heap.size w w3) := over B2.out hb3
      clear hb3 d1 d2 d3
      go_wp2
      go_ret
      exact ⟨rfl, B3.out⟩
  · rw [decide_eq_false h] at HC
    obtain rfl : 1 = r := by rw [← HR.out]; unfold lkI; rw [if_neg h]
    clear TC HR h hP
    go_enter Tryd.func107, Tryd.ntmps107
    go_wp2_with fail
    refine (HC.out _).mono ?_
    rintro e w1 ⟨rfl, hb1⟩
    have B1 : Hid (Below w.heap.size w w1) := over BA.out hb1
    clear hb1 ci
    go_wp2
    go_ret
    exact ⟨rfl, B1.out⟩
theorem eqP (a b x y : Int) (w : World) (c : Bool) (h : (a == x && b == y) = c) : (binOp .eql 140 (.agg #[.int .i64 a, .int .i64 b]) (.agg #[.int .i64 x, .int .i64 y])).run Tryd.prog w = .ok (.bool c) w := by
  subst h
  by_cases h1 : a = x <;> by_cases h2 : b = y <;> simp [go_sem, h1, h2]
theorem lookC (ob mb m a b : Nat) (w : World) (hm : 1 ≤ m) (hm2 : m ≤ 4611686018427387904) (hab : a < b) (hb : b ≤ 4611686018427387904) (hO : Bx w ob 0 m) (hP : w.cell? ⟨mb, 0, none⟩ = some (.int .i64 m)) :
    Calls Tryd.prog 111 #[.agg #[.int .i64 a, .int .i64 b], .pointer (some ⟨mb, 0, none⟩), .pointer (some ⟨ob, 0, none⟩)] w fun e w' => e = .returned (.int .i64 (lkC m a b : Nat)) ∧ Below w.heap.size w w' := by
  have BA : Hid (Below w.heap.size w (w.alloc (.cells #[.int .i64 a, .int .i64 b] 140))) := (Below.refl _ _).alloc (Nat.le_refl _) _
  have ci : (w.alloc (.cells #[.int .i64 a, .int .i64 b] 140)).cell? ⟨mb, 0, none⟩ = some (.int .i64 m) := (BA.out.cell (World.block_lt_of_cell? _ _ hP)).trans hP
  obtain ⟨co1, co2⟩ := hO.later BA.out
  have q0 : ((m : Int) == 0) = false := by rw [beq_eq_false_iff_ne]; omega
  have TC : Hid (2 ≤ b - a → ∀ w, Calls _ _ _ _ _) := fun h w => toward a b (m - 1) h hb w
  rw [show ((m - 1 : Nat) : Int) = (m : Int) - 1 by omega] at TC
  obtain ⟨r, HR⟩ : ∃ r, Hid (lkC m a b = r) := ⟨_, rfl⟩
  rw [HR.out]
  by_cases h : a = 0 ∧ b = m
  · have qe := fun w => eqP (a : Int) (b : Int) 0 (m : Int) w true (by obtain ⟨h1, h2⟩ := h; subst h1; subst h2; simp)
    obtain rfl : 0 = r := by rw [← HR.out]; unfold lkC; rw [if_pos h]
    clear TC HR h hP hO
    go_enter Tryd.func111, Tryd.ntmps111
    go_wp2
    go_ret
    exact ⟨rfl, BA.out⟩
  · have qe := fun w => eqP (a : Int) (b : Int) 0 (m : Int) w false (by
      rw [Bool.and_eq_false_iff, beq_eq_false_iff_ne, beq_eq_false_iff_ne]
      rcases Decidable.not_and_iff_or_not.1 h with g | g
      · exact .inl (by omega)
      · exact .inr (by omega))
    by_cases h1 : b ≤ m
    · obtain rfl : 1 = r := by rw [← HR.out]; unfold lkC; rw [if_neg h, if_pos (.inl h1)]
      clear TC HR h hP hO
      go_enter Tryd.func111, Tryd.ntmps111
      go_wp2
      go_ret
      exact ⟨rfl, BA.out⟩
    · by_cases h2 : m ≤ a
      · obtain rfl : 1 = r := by rw [← HR.out]; unfold lkC; rw [if_neg h, if_pos (.inr h2)]
        clear TC HR h hP hO
        go_enter Tryd.func111, Tryd.ntmps111
        go_wp2
        go_ret
        exact ⟨rfl, BA.out⟩
      · have TC2 : Hid (∀ w, Calls Tryd.prog 110 #[.agg #[.int .i64 a, .int .i64 b], .int .i64 ((m : Int) - 1)] w fun e w' => e = .returned (.int .i64 (r : Nat)) ∧ Below w.heap.size w w') := by
          have e : ((r : Nat) : Int) = if a ≤ m - 1 ∧ m - 1 < a + half (b - a) then 2 else 3 := by
            rw [← HR.out]
            unfold lkC
            rw [if_neg h, if_neg (by omega)]
            split <;> rfl
          show ∀ w, _
          rw [e]
          exact TC.out (by omega)
        clear TC HR h hP hO
        go_enter Tryd.func111, Tryd.ntmps111
        go_wp2_with fail
        refine (TC2.out _).mono ?_
        rintro e w3 ⟨rfl, hb3⟩
        have B3 : Hid (Below w.heap.size w w3) := over BA.out hb3
        clear hb3
        go_wp2
        go_ret
        exact ⟨rfl, B3.out⟩
theorem lookR (lb' hb' lo hi a b : Nat) (w : World) (hab : a < b) (hb : b ≤ 4611686018427387904) (hP : w.cell? ⟨lb', 0, none⟩ = some (.int .i64 lo)) (hQ : w.cell? ⟨hb', 0, none⟩ = some (.int .i64 hi)) :
    Calls Tryd.prog 112 #[.agg #[.int .i64 a, .int .i64 b], .pointer (some ⟨lb', 0, none⟩), .pointer (some ⟨hb', 0, none⟩)] w fun e w' => e = .returned (.int .i64 (lkR lo hi a b : Nat)) ∧ Below w.heap.size w w' := by
  have BA : Hid (Below w.heap.size w (w.alloc (.cells #[.int .i64 a, .int .i64 b] 140))) := (Below.refl _ _).alloc (Nat.le_refl _) _
  have c1 := (BA.out.cell (World.block_lt_of_cell? _ _ hP)).trans hP
  have c2 := (BA.out.cell (World.block_lt_of_cell? _ _ hQ)).trans hQ
  obtain ⟨r, HR⟩ : ∃ r, Hid (lkR lo hi a b = r) := ⟨_, rfl⟩
  rw [HR.out]
  clear hP hQ
  by_cases h1 : b ≤ lo
  · obtain rfl : 1 = r := by rw [← HR.out]; unfold lkR; rw [if_pos (.inl h1)]
    clear HR
    go_enter Tryd.func112, Tryd.ntmps112
    go_wp2
    go_ret
    exact ⟨rfl, BA.out⟩
  · by_cases h2 : hi ≤ a
    · obtain rfl : 1 = r := by rw [← HR.out]; unfold lkR; rw [if_pos (.inr h2)]
      clear HR
      go_enter Tryd.func112, Tryd.ntmps112
      go_wp2
      go_ret
      exact ⟨rfl, BA.out⟩
    · by_cases h3 : lo ≤ a
      · by_cases h4 : b ≤ hi
        · obtain rfl : 0 = r := by rw [← HR.out]; unfold lkR; rw [if_neg (by omega), if_pos ⟨h3, h4⟩]
          clear HR
          go_enter Tryd.func112, Tryd.ntmps112
          go_wp2
          go_ret
          exact ⟨rfl, BA.out⟩
        · obtain rfl : 2 = r := by rw [← HR.out]; unfold lkR; rw [if_neg (by omega), if_neg (by omega)]
          clear HR
          go_enter Tryd.func112, Tryd.ntmps112
          go_wp2
          go_ret
          exact ⟨rfl, BA.out⟩
      · obtain rfl : 2 = r := by rw [← HR.out]; unfold lkR; rw [if_neg (by omega), if_neg (by omega)]
        clear HR
        go_enter Tryd.func112, Tryd.ntmps112
        go_wp2
        go_ret
        exact ⟨rfl, BA.out⟩
-- a shape: D the blocks that it hangs on, F those that it writes, cur what it has in mind at a place
structure Shp (D F : Nat → Prop) (SS : Nat → World → Prop) (lk : Nat → Nat → Nat) (cur : Nat → Nat) (lg : Nat) (lv : Array Value) : Prop where
  enter : ∀ args w, (callFunc lg args).run Tryd.prog w = .ok (.enter lg args) w
  keep : ∀ {k w w'} {G : Nat → Prop}, SS k w → Kp G w w' → (∀ b, G b → ¬ D b) → SS k w'
  fd : ∀ b, F b → D b
  fl : ∀ {k w}, SS k w → ∀ b, D b → b < w.heap.size
  call : ∀ (a b : Nat) (w : World), a < b → b ≤ 4611686018427387904 → SS (cur a) w → Calls Tryd.prog lg (#[.agg #[.int .i64 a, .int .i64 b]] ++ lv) w fun e w' => e = .returned (.int .i64 (lk a b : Nat)) ∧ SS (if lk a b < 2 then cur b else cur a) w' ∧ Kp F w w'
  wide : ∀ {a b}, a < b → 2 ≤ lk a b → 2 ≤ b - a
  four : ∀ a b, lk a b ≤ 3
  turn : ∀ {a b}, lk a b = 3 → ∀ p, cur p = cur 0
theorem Shp.later {D F : Nat → Prop} {SS : Nat → World → Prop} {lk : Nat → Nat → Nat} {cur : Nat → Nat} {lg : Nat} {lv : Array Value} (h : Shp D F SS lk cur lg lv) {k : Nat} {w w' : World} (hs : SS k w) (hb : Below w.heap.size w w') : SS k w' :=
  h.keep (G := fun _ => False) hs (Kp.of_below hb) (fun _ x => x.elim)
def no : Nat → Prop := fun _ => False
theorem ShI (ib i : Nat) : Shp (fun b => b = ib) no (fun _ w => w.cell? ⟨ib, 0, none⟩ = some (.int .i64 i)) (lkI i) (fun _ => 0) 107 #[.pointer (some ⟨ib, 0, none⟩)] where
  enter := fun args w => by simp [go_sem]
  keep := fun h k hg => k.cell h (fun g => hg _ g rfl)
  fd := fun b h => h.elim
  fl := fun h b hb => by subst hb; exact World.block_lt_of_cell? _ _ h
  call := fun a b w hab hb hP => (lookI ib i a b w hab hb hP).mono fun e w' h => ⟨h.1, (h.2.cell (World.block_lt_of_cell? _ _ hP)).trans hP, Kp.of_below h.2⟩
  wide := fun hab h => by
    unfold lkI at h
    split at h
    · split at h <;> omega
    · omega
  four := fun a b => by
    unfold lkI
    split
    · split
      · omega
      · split <;> omega
    · omega
  turn := fun _ _ => rfl
theorem ShC (ob mb m : Nat) (hm : 1 ≤ m) (hm2 : m ≤ 4611686018427387904) : Shp (fun b => b = ob ∨ b = mb) no (fun _ w => Bx w ob 0 m ∧ w.cell? ⟨mb, 0, none⟩ = some (.int .i64 m)) (lkC m) (fun _ => 0) 111 #[.pointer (some ⟨mb, 0, none⟩), .pointer (some ⟨ob, 0, none⟩)] where
  enter := fun args w => by simp [go_sem]
  keep := fun h k hg => ⟨⟨k.cell h.1.1 (fun g => hg _ g (.inl rfl)), k.cell h.1.2 (fun g => hg _ g (.inl rfl))⟩, k.cell h.2 (fun g => hg _ g (.inr rfl))⟩
  fd := fun b h => h.elim
  fl := fun h b hb => by
    rcases hb with rfl | rfl
    · exact World.block_lt_of_cell? _ _ h.1.1
    · exact World.block_lt_of_cell? _ _ h.2
  call := fun a b w hab hb hP => (lookC ob mb m a b w hm hm2 hab hb hP.1 hP.2).mono fun e w' h => ⟨h.1, ⟨hP.1.later h.2, (h.2.cell (World.block_lt_of_cell? _ _ hP.2)).trans hP.2⟩, Kp.of_below h.2⟩
  wide := fun hab h => by
    unfold lkC at h
    split at h
    · omega
    · split at h
      · omega
      · omega
  four := fun a b => by
    unfold lkC
    split
    · omega
    · split
      · omega
      · split <;> omega
  turn := fun _ _ => rfl
-- of no leaves nothing is to be proved
theorem lookZ (ob mb a b : Nat) (w : World) (hO : Bx w ob 0 0) (hP : w.cell? ⟨mb, 0, none⟩ = some (.int .i64 0)) :
    Calls Tryd.prog 111 #[.agg #[.int .i64 a, .int .i64 b], .pointer (some ⟨mb, 0, none⟩), .pointer (some ⟨ob, 0, none⟩)] w fun e w' => e = .returned (.int .i64 0) ∧ Below w.heap.size w w' := by
  have BA : Hid (Below w.heap.size w (w.alloc (.cells #[.int .i64 a, .int .i64 b] 140))) := (Below.refl _ _).alloc (Nat.le_refl _) _
  have ci : (w.alloc (.cells #[.int .i64 a, .int .i64 b] 140)).cell? ⟨mb, 0, none⟩ = some (.int .i64 0) := (BA.out.cell (World.block_lt_of_cell? _ _ hP)).trans hP
  obtain ⟨co1, co2⟩ := hO.later BA.out
  clear hO hP
  go_enter Tryd.func111, Tryd.ntmps111
  go_wp2
  go_ret
  exact ⟨rfl, BA.out⟩
theorem ShR (lb' hb' lo hi : Nat) : Shp (fun b => b = lb' ∨ b = hb') no (fun _ w => w.cell? ⟨lb', 0, none⟩ = some (.int .i64 lo) ∧ w.cell? ⟨hb', 0, none⟩ = some (.int .i64 hi)) (lkR lo hi) (fun _ => 0) 112 #[.pointer (some ⟨lb', 0, none⟩), .pointer (some ⟨hb', 0, none⟩)] where
  enter := fun args w => by simp [go_sem]
  keep := fun h k hg => ⟨k.cell h.1 (fun g => hg _ g (.inl rfl)), k.cell h.2 (fun g => hg _ g (.inr rfl))⟩
  fd := fun b h => h.elim
  fl := fun h b hb => by
    rcases hb with rfl | rfl
    · exact World.block_lt_of_cell? _ _ h.1
    · exact World.block_lt_of_cell? _ _ h.2
  call := fun a b w hab hb hP => (lookR lb' hb' lo hi a b w hab hb hP.1 hP.2).mono fun e w' h => ⟨h.1, ⟨(h.2.cell (World.block_lt_of_cell? _ _ hP.1)).trans hP.1, (h.2.cell (World.block_lt_of_cell? _ _ hP.2)).trans hP.2⟩, Kp.of_below h.2⟩
  wide := fun hab h => by
    unfold lkR at h
    split at h
    · omega
    · split at h
      · omega
      · omega
  four := fun a b => by
    unfold lkR
    split
    · omega
    · split <;> omega
  turn := fun h => by
    unfold lkR at h
    split at h
    · omega
    · split at h <;> omega
end Go.Proofs.YthpfgdhmpeadeaaDoor.lk

namespace Go.Proofs.YthpfgdhmpeadeaaDoor.lm
open Go.RowKit Go.PlainAid
open Go.Proofs.YthpfgdhmpeadeaaDoor.ca Go.Proofs.YthpfgdhmpeadeaaDoor.cb Go.Proofs.YthpfgdhmpeadeaaDoor.cp Go.Proofs.YthpfgdhmpeadeaaDoor.ga Go.Proofs.YthpfgdhmpeadeaaDoor.aa Go.Proofs.YthpfgdhmpeadeaaDoor.ba Go.Proofs.YthpfgdhmpeadeaaDoor.bb Go.Proofs.YthpfgdhmpeadeaaDoor.kp Go.Proofs.YthpfgdhmpeadeaaDoor.lk Go.Proofs.YthpfgdhmpeadeaaDoor.mi
set_option linter.unusedVariables false

def natL (xs : List Int) : List Nat := xs.map Int.toNat
-- rising places
def Ris (xs : List Int) : Prop := (∀ j, j < xs.length → 0 ≤ xs.getD j 0) ∧ ∀ i j, i < j → j < xs.length → xs.getD i 0 < xs.getD j 0
-- how many places lie ahead of one
def cnt (xs : List Int) (a : Nat) : Nat := (xs.filter fun p => decide (p < (a : Int))).length
theorem cnt_spec (a : Nat) : ∀ xs : List Int, Ris xs → (∀ j, j < cnt xs a → j < xs.length ∧ xs.getD j 0 < a) ∧ (∀ j, cnt xs a ≤ j → j < xs.length → (a : Int) ≤ xs.getD j 0) := by
  intro xs
  induction xs with
  | nil => intro _; exact ⟨fun j h => by simp [cnt] at h, fun j _ h => by simp at h⟩
  | cons x t ih =>
    intro hr
    have ht : Ris t := ⟨fun j h => by have := hr.1 (j + 1) (by simp; omega); simpa using this, fun i j h1 h2 => by have := hr.2 (i + 1) (j + 1) (by omega) (by simp; omega); simpa using this⟩
    obtain ⟨i1, i2⟩ := ih ht
    by_cases hx : x < (a : Int)
    · have hc : cnt (x :: t) a = cnt t a + 1 := by unfold cnt; rw [List.filter_cons, if_pos (decide_eq_true hx)]; rfl
      rw [hc]
      refine ⟨fun j h => ?_, fun j h1 h2 => ?_⟩
      · cases j with
        | zero => exact ⟨by simp, by simpa using hx⟩
        | succ j => have := i1 j (by omega); exact ⟨by simp; omega, by simpa using this.2⟩
      · cases j with
        | zero => omega
        | succ j => have := i2 j (by omega) (by simpa using h2); simpa using this
    · have hc : cnt (x :: t) a = 0 := by
        unfold cnt
        rw [List.length_eq_zero_iff, List.filter_eq_nil_iff]
        intro p hp
        obtain ⟨j, hj, rfl⟩ := List.getElem_of_mem hp
        have : x ≤ (x :: t)[j] := by
          cases j with
          | zero => simp
          | succ j =>
            have := hr.2 0 (j + 1) (by omega) hj
            rw [List.getD_eq_getElem?_getD, List.getD_eq_getElem?_getD, List.getElem?_eq_getElem hj] at this
            simp at this ⊢
            omega
        simp only [decide_eq_true_eq]
        omega
      rw [hc]
      refine ⟨fun j h => by omega, fun j _ h2 => ?_⟩
      have : x ≤ (x :: t).getD j 0 := by
        cases j with
        | zero => simp
        | succ j => have := hr.2 0 (j + 1) (by omega) h2; simp at this ⊢; omega
      omega
theorem cnt_le (xs : List Int) (a : Nat) : cnt xs a ≤ xs.length := List.length_filter_le _ _
theorem cnt_is {xs : List Int} (hr : Ris xs) {a c : Nat} (h0 : c ≤ xs.length) (h1 : ∀ j, j < c → xs.getD j 0 < a) (h2 : ∀ j, c ≤ j → j < xs.length → (a : Int) ≤ xs.getD j 0) : cnt xs a = c := by
  obtain ⟨s1, s2⟩ := cnt_spec a xs hr
  have hl := cnt_le xs a
  by_cases h : cnt xs a < c
  · have := s2 (cnt xs a) (Nat.le_refl _) (by omega)
    have := h1 (cnt xs a) h
    omega
  · by_cases h' : c < cnt xs a
    · have := s1 c h'
      have := h2 c (Nat.le_refl _) (by omega)
      omega
    · omega
theorem mem_natL {xs : List Int} {p : Nat} : p ∈ natL xs → ∃ j, j < xs.length ∧ (xs.getD j 0).toNat = p := fun h => by
  unfold natL at h
  rw [List.mem_map] at h
  obtain ⟨x, hx, he⟩ := h
  obtain ⟨j, hj, rfl⟩ := List.getElem_of_mem hx
  exact ⟨j, hj, by rw [List.getD_eq_getElem?_getD, List.getElem?_eq_getElem hj]; exact he⟩
theorem natL_mem {xs : List Int} {j : Nat} (h : j < xs.length) : (xs.getD j 0).toNat ∈ natL xs := by
  unfold natL
  rw [List.mem_map]
  exact ⟨xs[j], List.getElem_mem h, by rw [List.getD_eq_getElem?_getD, List.getElem?_eq_getElem h]; rfl⟩
theorem lkM_none {xs : List Int} (hr : Ris xs) {a b : Nat} (h : cnt xs a = xs.length ∨ (b : Int) ≤ xs.getD (cnt xs a) 0) : lkM (natL xs) a b = 1 := by
  unfold lkM
  rw [if_neg]
  rintro ⟨p, hp, h1, h2⟩
  obtain ⟨j, hj, rfl⟩ := mem_natL hp
  have h0 := hr.1 j hj
  obtain ⟨s1, s2⟩ := cnt_spec a xs hr
  by_cases hc : j < cnt xs a
  · have := (s1 j hc).2; omega
  · rcases h with h | h
    · omega
    · by_cases he : cnt xs a = j
      · rw [he] at h; omega
      · have := hr.2 (cnt xs a) j (by omega) hj; omega
theorem lkM_some {xs : List Int} (hr : Ris xs) {a b : Nat} (h : cnt xs a < xs.length) (h2 : xs.getD (cnt xs a) 0 < b) : lkM (natL xs) a b = if b - a = 1 then 0 else 2 := by
  unfold lkM
  have h0 := hr.1 _ h
  have := (cnt_spec a xs hr).2 _ (Nat.le_refl _) h
  rw [if_pos ⟨_, natL_mem h, by omega, by omega⟩]
theorem cnt_none {xs : List Int} (hr : Ris xs) {a b : Nat} (hab : a < b) (h : cnt xs a = xs.length ∨ (b : Int) ≤ xs.getD (cnt xs a) 0) : cnt xs b = cnt xs a := by
  obtain ⟨s1, s2⟩ := cnt_spec a xs hr
  refine cnt_is hr (cnt_le _ _) (fun j hj => by have := (s1 j hj).2; omega) (fun j h1 h2 => ?_)
  rcases h with h | h
  · omega
  · by_cases he : cnt xs a = j
    · rw [← he]; exact h
    · have := hr.2 (cnt xs a) j (by omega) h2; omega
theorem cnt_leaf {xs : List Int} (hr : Ris xs) {a b : Nat} (h : cnt xs a < xs.length) (h2 : xs.getD (cnt xs a) 0 < b) (h1 : b - a = 1) : cnt xs b = cnt xs a + 1 := by
  obtain ⟨s1, s2⟩ := cnt_spec a xs hr
  have := s2 _ (Nat.le_refl _) h
  refine cnt_is hr (by omega) (fun j hj => ?_) (fun j g1 g2 => ?_)
  · by_cases he : j = cnt xs a
    · subst he; exact h2
    · have := (s1 j (by omega)).2; omega
  · have := hr.2 (cnt xs a) j (by omega) g2; omega
-- a list of numbers in one block
def RdI (g : Nat) (w : World) (v : Value) (l : List Int) : Prop :=
  ∃ a cap, v = .slice a l.length cap ∧ l.length ≤ cap ∧ (l.length = 0 ∨ ∃ off, a = some ⟨g, off, none⟩ ∧ ∀ i, i < l.length → w.cell? ⟨g, off + i, none⟩ = some (.int .i64 (l.getD i 0)))
theorem RdI.keep {g : Nat} {w w' : World} {v : Value} {l : List Int} (h : RdI g w v l) {G : Nat → Prop} (k : Kp G w w') (hg : ¬ G g) : RdI g w' v l := by
  obtain ⟨a, cap, rfl, hc, h0 | ⟨off, rfl, hh⟩⟩ := h
  · exact ⟨a, cap, rfl, hc, .inl h0⟩
  · exact ⟨_, cap, rfl, hc, .inr ⟨off, rfl, fun i hi => k.cell (hh i hi) hg⟩⟩
structure SM (ab g : Nat) (xs : List Int) (k : Nat) (w : World) : Prop where
  ne : ab ≠ g
  lt : g < w.heap.size
  box : ∃ v, w.heap[ab]? = some (.cells #[v] 47 (0, 0)) ∧ RdI g w v (xs.drop k)
theorem SM.keep {ab g : Nat} {xs : List Int} {k : Nat} {w w' : World} (h : SM ab g xs k w) {G : Nat → Prop} (kp : Kp G w w') (h1 : ¬ G ab) (h2 : ¬ G g) : SM ab g xs k w' := by
  obtain ⟨v, hc, hr⟩ := h.box
  exact ⟨h.ne, Nat.lt_of_lt_of_le h.lt kp.size, v, (kp.block _ (Array.getElem?_eq_some_iff.1 hc).1 h1).trans hc, hr.keep kp h2⟩
theorem lookM (ab g : Nat) (xs : List Int) (hr : Ris xs) (hi : ∀ j, j < xs.length → xs.getD j 0 ≤ 9223372036854775807) (a b : Nat) (w : World) (hab : a < b) (hb : b ≤ 4611686018427387904) (hS : SM ab g xs (cnt xs a) w) :
    Calls Tryd.prog 113 #[.agg #[.int .i64 a, .int .i64 b], .pointer (some ⟨ab, 0, none⟩)] w fun e w' => e = .returned (.int .i64 (lkM (natL xs) a b : Nat)) ∧ SM ab g xs (if lkM (natL xs) a b < 2 then cnt xs b else cnt xs a) w' ∧ Kp (fun q => q = ab) w w' := by
  have BA : Hid (Below w.heap.size w (w.alloc (.cells #[.int .i64 a, .int .i64 b] 140))) := (Below.refl _ _).alloc (Nat.le_refl _) _
  have HB : Hid (Bx (w.alloc (.cells #[.int .i64 a, .int .i64 b] 140)) w.heap.size a b) := part_box w a b
  have SA : Hid (SM ab g xs (cnt xs a) (w.alloc (.cells #[.int .i64 a, .int .i64 b] 140))) := hS.keep (G := no) (Kp.of_below BA.out) (fun h => h) (fun h => h)
  have KA : Hid (Kp (fun q => q = ab) w (w.alloc (.cells #[.int .i64 a, .int .i64 b] 140))) := Kp.of_below BA.out
  have LC : Hid (∀ w, Calls _ _ _ _ _) := fun w => isLeaf a b (by omega) hb w
  obtain ⟨v, hv0, aa, cap, rfl, hcap, hh⟩ := SA.out.box
  have hv : (w.alloc (.cells #[.int .i64 a, .int .i64 b] 140)).cell? ⟨ab, 0, none⟩ = some (.slice aa (xs.drop (cnt xs a)).length cap) := cell_of_row _ _ 0 _ _ _ hv0
  have HV0 : Hid (_ = _) := hv0
  clear hv0
  obtain ⟨c1, c2⟩ := HB.out
  by_cases h : cnt xs a = xs.length
  · have e1 := lkM_none hr (b := b) (.inl h)
    have e2 := cnt_none hr hab (.inl h)
    rw [e1, if_pos (by omega), e2]
    have q0 : ((((xs.drop (cnt xs a)).length : Nat) : Int) == 0) = true := by rw [List.length_drop]; simp; omega
    have hl : ((xs.drop (cnt xs a)).length : Int) = 0 := by rw [List.length_drop]; omega
    obtain ⟨n, HN⟩ : ∃ n, Hid ((xs.drop (cnt xs a)).length = n) := ⟨_, rfl⟩
    rw [HN.out] at hv q0 hl
    have HR : Hid (Ris xs ∧ SM ab g xs (cnt xs a) (w.alloc (.cells #[.int .i64 a, .int .i64 b] 140))) := ⟨hr, SA.out⟩
    clear hh hr hS h hi LC hcap
    go_enter Tryd.func113, Tryd.ntmps113
    go_wp2_with fail
    go_quiet (fail)
    go_wp2
    go_ret
    exact ⟨rfl, HR.out.2.keep (G := no) (Kp.of_below (below_dN (Below.refl _ _) _)) (fun h => h) (fun h => h), KA.out.trans (Kp.of_below (below_dN (Below.refl _ _) _))⟩
  · have hlt : cnt xs a < xs.length := by have := cnt_le xs a; omega
    have hd : (xs.drop (cnt xs a)).length = xs.length - cnt xs a := List.length_drop
    have hget : ∀ i, (xs.drop (cnt xs a)).getD i 0 = xs.getD (cnt xs a + i) 0 := fun i => by rw [List.getD_eq_getElem?_getD, List.getD_eq_getElem?_getD, List.getElem?_drop]
    obtain ⟨off, rfl, hh2⟩ := hh.resolve_left (by omega)
    clear hh
    have x0 := hh2 0 (by omega)
    rw [hget 0, Nat.add_zero, Nat.add_zero] at x0
    have q0 : ((((xs.drop (cnt xs a)).length : Nat) : Int) == 0) = false := by rw [beq_eq_false_iff_ne, hd]; omega
    have hi0 := hi _ hlt
    have h00 := hr.1 _ hlt
    obtain ⟨n, HN⟩ : ∃ n, Hid ((xs.drop (cnt xs a)).length = n) := ⟨_, rfl⟩
    obtain ⟨y, HY⟩ : ∃ y, Hid (xs.getD (cnt xs a) 0 = y) := ⟨_, rfl⟩
    have hn1 : 1 ≤ n := by rw [← HN.out]; omega
    have HR : Hid (Ris xs ∧ cnt xs a < xs.length ∧ SM ab g xs (cnt xs a) (w.alloc (.cells #[.int .i64 a, .int .i64 b] 140))) := ⟨hr, hlt, SA.out⟩
    have HH : Hid (∀ i, i < n → (w.alloc (.cells #[.int .i64 a, .int .i64 b] 140)).cell? ⟨g, off + i, none⟩ = some (.int .i64 (xs.getD (cnt xs a + i) 0))) := fun i hi => by rw [← hget]; exact hh2 i (by rw [HN.out]; exact hi)
    rw [HN.out] at hv q0 hcap
    rw [HY.out] at x0 hi0 h00
    have B2 : Hid (∀ j, Below (w.alloc (.cells #[.int .i64 a, .int .i64 b] 140)).heap.size (w.alloc (.cells #[.int .i64 a, .int .i64 b] 140)) ((w.alloc (.cells #[.int .i64 a, .int .i64 b] 140)).drewN j)) := fun j => below_dN (Below.refl _ _) j
    by_cases h2 : (b : Int) ≤ y
    · have e1 := lkM_none hr (b := b) (.inr (by rw [HY.out]; exact h2))
      have e2 := cnt_none hr hab (.inr (by rw [HY.out]; exact h2))
      rw [e1, if_pos (by omega), e2]
      have d1 : decide ((b : Int) ≤ y) = true := decide_eq_true h2
      clear hh2 hr hS h hi LC hd hget hlt h2
      go_enter Tryd.func113, Tryd.ntmps113
      go_wp2_with fail
      go_quiet (fail)
      go_wp2
      go_ret
      exact ⟨rfl, HR.out.2.2.keep (G := no) (Kp.of_below (B2.out _)) (fun h => h) (fun h => h), KA.out.trans (Kp.of_below (B2.out _))⟩
    · have d1 : decide ((b : Int) ≤ y) = false := decide_eq_false h2
      have e1 := lkM_some hr (b := b) hlt (by rw [HY.out]; omega)
      by_cases h3 : b - a = 1
      · have e2 := cnt_leaf hr (b := b) hlt (by rw [HY.out]; omega) h3
        rw [e1, if_pos h3, if_pos (by omega), e2]
        rw [decide_eq_true h3] at LC
        clear hh2 hr hS h hi hd hget hlt h2 h3
        go_enter Tryd.func113, Tryd.ntmps113
        go_wp2_with fail
        go_quiet (fail)
        go_wp2_with fail
        refine (LC.out _).mono ?_
        rintro e w2 ⟨rfl, hb2⟩
        have k2 : Below (w.alloc (.cells #[.int .i64 a, .int .i64 b] 140)).heap.size (w.alloc (.cells #[.int .i64 a, .int .i64 b] 140)) w2 := over (B2.out _) hb2
        have K2 : Hid (Kp (fun q => q = ab) w w2) := KA.out.trans (Kp.of_below k2)
        have S2 : Hid (SM ab g xs (cnt xs a) w2) := HR.out.2.2.keep (G := no) (Kp.of_below k2) (fun h => h) (fun h => h)
        have H2 : Hid (∀ i, i < n → w2.cell? ⟨g, off + i, none⟩ = some (.int .i64 (xs.getD (cnt xs a + i) 0))) := fun i hi => (k2.cell (World.block_lt_of_cell? _ _ (HH.out i hi))).trans (HH.out i hi)
        have v0 := (k2.block _ (Array.getElem?_eq_some_iff.1 HV0.out).1).trans HV0.out
        rw [HN.out] at v0
        have v2 : w2.cell? ⟨ab, 0, none⟩ = some (.slice (some ⟨g, off, none⟩) n cap) := cell_of_row _ _ 0 _ _ _ v0
        have f2 := frozen_of_row _ _ 0 _ _ v0
        have V0 : Hid (w2.heap[ab]? = _) := v0
        clear v0
        clear hb2 k2 hv x0 c1 c2
        have HSM : Hid (∀ (aa : Option Addr), (n - 1 = 0 ∨ aa = some ⟨g, off + 1, none⟩) → SM ab g xs (cnt xs a + 1) (w2.setCell ⟨ab, 0, none⟩ (.slice aa (n - 1) (cap - 1)))) := by
          intro aa haa
          have hl : (xs.drop (cnt xs a + 1)).length = n - 1 := by rw [← HN.out, List.length_drop, List.length_drop]; omega
          have hk : Kp (fun q => q = ab) w2 (w2.setCell ⟨ab, 0, none⟩ (.slice aa (n - 1) (cap - 1))) := Kp.setCell _ _ _ _ rfl
          refine ⟨S2.out.ne, Nat.lt_of_lt_of_le S2.out.lt hk.size, _, heap_setCell_same _ _ 0 _ _ _ V0.out, aa, cap - 1, by rw [hl], by omega, ?_⟩
          rcases haa with h | h
          · exact .inl (by omega)
          · refine .inr ⟨off + 1, h, fun i hi => ?_⟩
            rw [List.getD_eq_getElem?_getD, List.getElem?_drop, ← List.getD_eq_getElem?_getD]
            have := hk.cell (H2.out (i + 1) (by omega)) (fun e => S2.out.ne e.symm)
            rw [show off + 1 + i = off + (i + 1) by omega, show cnt xs a + 1 + i = cnt xs a + (i + 1) by omega]
            exact this
        by_cases hc1 : cap = 1
        · subst hc1
          have hn0 : n = 1 := by omega
          subst hn0
          go_wp2
          go_ret
          exact ⟨rfl, HSM.out _ (.inl (by first | rfl | trivial)), K2.out.trans (Kp.setCell _ _ _ _ rfl)⟩
        · go_wp2
          go_ret
          exact ⟨rfl, HSM.out _ (.inr rfl), K2.out.trans (Kp.setCell _ _ _ _ rfl)⟩
      · rw [e1, if_neg h3, if_neg (by omega)]
        rw [decide_eq_false h3] at LC
        clear hh2 hr hS h hi hd hget hlt h2 h3
        go_enter Tryd.func113, Tryd.ntmps113
        go_wp2_with fail
        go_quiet (fail)
        go_wp2_with fail
        refine (LC.out _).mono ?_
        rintro e w2 ⟨rfl, hb2⟩
        have k2 : Below (w.alloc (.cells #[.int .i64 a, .int .i64 b] 140)).heap.size (w.alloc (.cells #[.int .i64 a, .int .i64 b] 140)) w2 := over (B2.out _) hb2
        have K2 : Hid (Kp (fun q => q = ab) w w2) := KA.out.trans (Kp.of_below k2)
        have S2 : Hid (SM ab g xs (cnt xs a) w2) := HR.out.2.2.keep (G := no) (Kp.of_below k2) (fun h => h) (fun h => h)
        clear hb2 k2 hv x0 c1 c2
        go_wp2
        go_ret
        exact ⟨rfl, S2.out, K2.out⟩
theorem ShM (ab g : Nat) (xs : List Int) (hr : Ris xs) (hi : ∀ j, j < xs.length → xs.getD j 0 ≤ 9223372036854775807) : Shp (fun b => b = ab ∨ b = g) (fun b => b = ab) (SM ab g xs) (lkM (natL xs)) (cnt xs) 113 #[.pointer (some ⟨ab, 0, none⟩)] where
  enter := fun args w => by simp [go_sem]
  keep := fun h k hg => h.keep k (fun e => hg _ e (.inl rfl)) (fun e => hg _ e (.inr rfl))
  fd := fun b h => .inl h
  fl := fun h b hb => by
    rcases hb with rfl | rfl
    · obtain ⟨v, hv, _⟩ := h.box
      exact (Array.getElem?_eq_some_iff.1 hv).1
    · exact h.lt
  call := fun a b w hab hb hP => lookM ab g xs hr hi a b w hab hb hP
  wide := fun hab h => by
    unfold lkM at h
    split at h
    · split at h <;> omega
    · omega
  four := fun a b => by
    unfold lkM
    split
    · split <;> omega
    · omega
  turn := fun h => by
    unfold lkM at h
    split at h
    · split at h <;> omega
    · omega
end Go.Proofs.YthpfgdhmpeadeaaDoor.lm

namespace Go.Proofs.YthpfgdhmpeadeaaDoor.wi
open Go.RowKit Go.PlainAid
open Go.Proofs.YthpfgdhmpeadeaaDoor.ca Go.Proofs.YthpfgdhmpeadeaaDoor.cb Go.Proofs.YthpfgdhmpeadeaaDoor.cp Go.Proofs.YthpfgdhmpeadeaaDoor.ga Go.Proofs.YthpfgdhmpeadeaaDoor.aa Go.Proofs.YthpfgdhmpeadeaaDoor.ba Go.Proofs.YthpfgdhmpeadeaaDoor.bb Go.Proofs.YthpfgdhmpeadeaaDoor.kp
set_option linter.unusedVariables false

theorem two_box (w : World) (x y x' y' : Value) (t t' : TypeId) : ((w.alloc (.cells #[x, y] t)).alloc (.cells #[x', y'] t')).cell? ⟨w.heap.size, 0, none⟩ = some x ∧ ((w.alloc (.cells #[x, y] t)).alloc (.cells #[x', y'] t')).cell? ⟨w.heap.size, 1, none⟩ = some y ∧ ((w.alloc (.cells #[x, y] t)).alloc (.cells #[x', y'] t')).cell? ⟨w.heap.size + 1, 0, none⟩ = some x' ∧ ((w.alloc (.cells #[x, y] t)).alloc (.cells #[x', y'] t')).cell? ⟨w.heap.size + 1, 1, none⟩ = some y' := by
  have s1 : (w.alloc (.cells #[x, y] t)).heap.size = w.heap.size + 1 := by simp
  have B : Below (w.alloc (.cells #[x, y] t)).heap.size (w.alloc (.cells #[x, y] t)) ((w.alloc (.cells #[x, y] t)).alloc (.cells #[x', y'] t')) := (Below.refl _ _).alloc (Nat.le_refl _) _
  refine ⟨?_, ?_, ?_, ?_⟩
  · refine (B.cell (p := ⟨w.heap.size, 0, none⟩) (by show w.heap.size < _; rw [s1]; omega)).trans ?_
    rw [World.cell?_alloc_at _ _ _ _ rfl]; rfl
  · refine (B.cell (p := ⟨w.heap.size, 1, none⟩) (by show w.heap.size < _; rw [s1]; omega)).trans ?_
    rw [World.cell?_alloc_at _ _ _ _ rfl]; rfl
  · rw [← s1, World.cell?_alloc_at _ _ _ _ rfl]; rfl
  · rw [← s1, World.cell?_alloc_at _ _ _ _ rfl]; rfl
section
variable {X V : Type} {F : Nat → Prop} {St : X → World → Prop} {enc : V → Value} {W : Wy X V} {P : X → Nat → Nat → Prop} {Q : V → Prop} {lg hg jg : Nat} {lv hv jv : Array Value}
set_option maxHeartbeats 6400000 in
theorem walkC (K : Wk F St enc W P Q lg hg jg lv hv jv) (n : Nat) : ∀ (a b : Nat) (x : X) (w : World), b - a = n → a < b → b ≤ 4611686018427387904 → P x a b → St x w →
    Calls Tryd.prog 92 #[.agg #[.int .i64 a, .int .i64 b], .func (.func lg) #[] lv, .func (.func hg) #[] hv, .func (.func jg) #[] jv] w fun e w' => e = .returned (enc (go W x a b).1) ∧ St (go W x a b).2 w' ∧ Kp F w w' ∧ Q (go W x a b).1 := by
  induction n using Nat.strongRecOn with
  | ind n ih =>
    intro a b x w hn hab hb hP hS
    have IH : Hid (∀ (a' b' : Nat), b' - a' < n → a' < b' → b' ≤ 4611686018427387904 → ∀ x w, P x a' b' → St x w →
      Calls Tryd.prog 92 #[.agg #[.int .i64 a', .int .i64 b'], .func (.func lg) #[] lv, .func (.func hg) #[] hv, .func (.func jg) #[] jv] w fun e w' => e = .returned (enc (go W x a' b').1) ∧ St (go W x a' b').2 w' ∧ Kp F w w' ∧ Q (go W x a' b').1) := fun a' b' h1 h2 h3 x w => ih (b' - a') h1 a' b' x w rfl h2 h3
    have eg := K.lent
    have eh := K.hent
    have ej := K.jent
    have BA : Hid (Below w.heap.size w (w.alloc (.cells #[.int .i64 a, .int .i64 b] 140))) := (Below.refl _ _).alloc (Nat.le_refl _) _
    have HA : Hid (St x (w.alloc (.cells #[.int .i64 a, .int .i64 b] 140))) := K.later hS BA.out
    have LC : Hid (Calls _ _ _ _ _) := K.look x a b (w.alloc (.cells #[.int .i64 a, .int .i64 b] 140)) hab hb hP HA.out
    have HVC : Hid (∀ w, (W.lk x a b).1 < 2 → St (W.lk x a b).2 w → Calls _ _ _ _ _) := fun w h1 h2 => K.have' x a b w hab hb hP h1 h2
    have hwide := K.wide hab hP
    have hfour := K.four hab hP
    have HBX : Hid (Bx (w.alloc (.cells #[.int .i64 a, .int .i64 b] 140)) w.heap.size a b) := ⟨by rw [World.cell?_alloc_at _ _ _ _ rfl]; rfl, by rw [World.cell?_alloc_at _ _ _ _ rfl]; rfl⟩
    have HF : Hid (∀ b, F b → b < w.heap.size) := K.fl hS
    obtain ⟨s, HS⟩ : ∃ s, Hid ((W.lk x a b).1 = s) := ⟨_, rfl⟩
    obtain ⟨y, HY⟩ : ∃ y, Hid ((W.lk x a b).2 = y) := ⟨_, rfl⟩
    obtain ⟨G, HG⟩ : ∃ G, Hid (go W x a b = G) := ⟨_, rfl⟩
    have KK : Hid (Wk F St enc W P Q lg hg jg lv hv jv) := K
    have HP : Hid (P x a b ∧ a < b) := ⟨hP, hab⟩
    rw [HG.out]
    rw [HS.out, HY.out] at HVC LC
    rw [HS.out] at hwide hfour
    clear ih hS K hP
    rcases (show s = 0 ∨ s = 1 ∨ s = 2 ∨ s = 3 by omega) with rfl | rfl | rfl | rfl
    rotate_left 2
    · have h2 := hwide (by omega)
      have hh := half_lt h2
      have HC : Hid (∀ w, Calls _ _ _ _ _) := fun w => halves a b h2 hb w
      have HGE : Hid (go W x a b = _) := go_left HS.out h2
      have HPP : Hid (_ ∧ _) := KK.out.left HP.out.2 HP.out.1 HS.out
      rw [HG.out, HY.out] at HGE
      rw [HY.out] at HPP
      obtain ⟨k, HK⟩ : ∃ k, Hid (a + half (b - a) = k) := ⟨_, rfl⟩
      have hk : a < k ∧ k < b := by rw [← HK.out]; omega
      rw [HK.out] at HC HGE HPP
      unfold pv at HC
      obtain ⟨A, HAA⟩ : ∃ A, Hid (go W y a k = A) := ⟨_, rfl⟩
      rw [HAA.out] at HGE HPP
      obtain ⟨B, HBB⟩ : ∃ B, Hid (go W A.2 k b = B) := ⟨_, rfl⟩
      rw [HBB.out] at HGE
      have I1 : Hid (∀ w', St y w' → Calls _ _ _ _ _) := fun w' h => IH.out a k (by omega) hk.1 (by omega) y w' HPP.out.1 h
      have I2 : Hid (∀ w', St A.2 w' → Calls _ _ _ _ _) := fun w' h => IH.out k b (by omega) hk.2 hb A.2 w' HPP.out.2 h
      rw [HAA.out] at I1
      rw [HBB.out] at I2
      obtain ⟨va, HVA⟩ : ∃ va, Hid (enc A.1 = va) := ⟨_, rfl⟩
      obtain ⟨vb, HVB⟩ : ∃ vb, Hid (enc B.1 = vb) := ⟨_, rfl⟩
      have JC : Hid (∀ w, Q A.1 → Q B.1 → St B.2 w → Calls _ _ _ _ _) := fun w h1 h2 h3 => KK.out.join A.1 B.1 B.2 w h1 h2 h3
      rw [HVA.out] at I1
      rw [HVB.out] at I2
      rw [HVA.out, HVB.out] at JC
      clear hwide hfour h2 hh HK HS HVC
      go_enter Tryd.func92, Tryd.ntmps92
      go_wp2_with fail
      refine LC.out.mono ?_
      rintro e w1 ⟨rfl, hs1, hk1⟩
      have S1 : Hid (St y w1) := hs1
      have K1 : Hid (Kp F w w1) := (Kp.of_below BA.out).trans hk1
      have c1 := hk1.cell HBX.out.1 (fun h => by have := HF.out _ h; omega)
      have c2 := hk1.cell HBX.out.2 (fun h => by have := HF.out _ h; omega)
      clear hs1 hk1
      go_wp2_with fail
      refine (HC.out _).mono ?_
      rintro e w2 ⟨rfl, hb2⟩
      have B3 : Hid (Below w2.heap.size w2 ((w2.alloc (.cells #[.int .i64 a, .int .i64 k] 140)).alloc (.cells #[.int .i64 k, .int .i64 b] 140))) := ((Below.refl _ _).alloc (Nat.le_refl _) _).alloc (by simp) _
      have S3 : Hid (St y ((w2.alloc (.cells #[.int .i64 a, .int .i64 k] 140)).alloc (.cells #[.int .i64 k, .int .i64 b] 140))) := KK.out.later (KK.out.later S1.out hb2) B3.out
      have K3 : Hid (Kp F w ((w2.alloc (.cells #[.int .i64 a, .int .i64 k] 140)).alloc (.cells #[.int .i64 k, .int .i64 b] 140))) := (K1.out.trans (Kp.of_below hb2)).trans (Kp.of_below B3.out)
      have HN : Hid (¬ F w2.heap.size ∧ ¬ F (w2.heap.size + 1)) := by
        have z : w.heap.size ≤ w2.heap.size := Nat.le_trans K1.out.size hb2.size
        exact ⟨fun h => by have := HF.out _ h; omega, fun h => by have := HF.out _ h; omega⟩
      have HBB2 : Hid (_ ∧ _ ∧ _ ∧ _) := two_box w2 (.int .i64 a) (.int .i64 k) (.int .i64 k) (.int .i64 b) 140 140
      clear hb2 c1 c2
      go_wp2_with fail
      refine (I1.out _ S3.out).mono ?_
      rintro e w4 ⟨rfl, hs4, hk4, hq4⟩
      have S4 : Hid (St A.2 w4 ∧ Q A.1) := ⟨hs4, hq4⟩
      have K4 : Hid (Kp F w w4) := K3.out.trans hk4
      have c3 := hk4.cell HBB2.out.2.2.1 HN.out.2
      have c4 := hk4.cell HBB2.out.2.2.2 HN.out.2
      clear hs4 hk4 hq4 HN HBB2
      go_wp2_with fail
      refine (I2.out _ S4.out.1).mono ?_
      rintro e w5 ⟨rfl, hs5, hk5, hq5⟩
      have S5 : Hid (St B.2 w5 ∧ Q B.1) := ⟨hs5, hq5⟩
      have K5 : Hid (Kp F w w5) := K4.out.trans hk5
      clear hs5 hk5 hq5 c3 c4
      go_wp2_with fail
      refine (JC.out _ S4.out.2 S5.out.2 S5.out.1).mono ?_
      rintro e w6 ⟨rfl, hb6⟩
      have S6 : Hid (St B.2 w6 ∧ Kp F w w6) := ⟨KK.out.later S5.out.1 hb6, K5.out.trans (Kp.of_below hb6)⟩
      clear hb6
      go_wp2
      go_ret
      rw [HGE.out]
      exact ⟨rfl, S6.out.1, S6.out.2, KK.out.qj S4.out.2 S5.out.2⟩
    · have h2 := hwide (by omega)
      have hh := half_lt h2
      have HC : Hid (∀ w, Calls _ _ _ _ _) := fun w => halves a b h2 hb w
      have HGE : Hid (go W x a b = _) := go_right (by rw [HS.out]; omega) h2
      have HPP : Hid (_ ∧ _) := KK.out.right HP.out.2 HP.out.1 HS.out
      rw [HG.out, HY.out] at HGE
      rw [HY.out] at HPP
      obtain ⟨k, HK⟩ : ∃ k, Hid (a + half (b - a) = k) := ⟨_, rfl⟩
      have hk : a < k ∧ k < b := by rw [← HK.out]; omega
      rw [HK.out] at HC HGE HPP
      unfold pv at HC
      obtain ⟨A, HAA⟩ : ∃ A, Hid (go W y k b = A) := ⟨_, rfl⟩
      rw [HAA.out] at HGE HPP
      obtain ⟨B, HBB⟩ : ∃ B, Hid (go W A.2 a k = B) := ⟨_, rfl⟩
      rw [HBB.out] at HGE
      have I1 : Hid (∀ w', St y w' → Calls _ _ _ _ _) := fun w' h => IH.out k b (by omega) hk.2 hb y w' HPP.out.1 h
      have I2 : Hid (∀ w', St A.2 w' → Calls _ _ _ _ _) := fun w' h => IH.out a k (by omega) hk.1 (by omega) A.2 w' HPP.out.2 h
      rw [HAA.out] at I1
      rw [HBB.out] at I2
      obtain ⟨va, HVA⟩ : ∃ va, Hid (enc A.1 = va) := ⟨_, rfl⟩
      obtain ⟨vb, HVB⟩ : ∃ vb, Hid (enc B.1 = vb) := ⟨_, rfl⟩
      have JC : Hid (∀ w, Q B.1 → Q A.1 → St B.2 w → Calls _ _ _ _ _) := fun w h1 h2 h3 => KK.out.join B.1 A.1 B.2 w h1 h2 h3
      rw [HVA.out] at I1
      rw [HVB.out] at I2
      rw [HVA.out, HVB.out] at JC
      clear hwide hfour h2 hh HK HS HVC
      go_enter Tryd.func92, Tryd.ntmps92
      go_wp2_with fail
      refine LC.out.mono ?_
      rintro e w1 ⟨rfl, hs1, hk1⟩
      have S1 : Hid (St y w1) := hs1
      have K1 : Hid (Kp F w w1) := (Kp.of_below BA.out).trans hk1
      have c1 := hk1.cell HBX.out.1 (fun h => by have := HF.out _ h; omega)
      have c2 := hk1.cell HBX.out.2 (fun h => by have := HF.out _ h; omega)
      clear hs1 hk1
      go_wp2_with fail
      refine (HC.out _).mono ?_
      rintro e w2 ⟨rfl, hb2⟩
      have B3 : Hid (Below w2.heap.size w2 ((w2.alloc (.cells #[.int .i64 a, .int .i64 k] 140)).alloc (.cells #[.int .i64 k, .int .i64 b] 140))) := ((Below.refl _ _).alloc (Nat.le_refl _) _).alloc (by simp) _
      have S3 : Hid (St y ((w2.alloc (.cells #[.int .i64 a, .int .i64 k] 140)).alloc (.cells #[.int .i64 k, .int .i64 b] 140))) := KK.out.later (KK.out.later S1.out hb2) B3.out
      have K3 : Hid (Kp F w ((w2.alloc (.cells #[.int .i64 a, .int .i64 k] 140)).alloc (.cells #[.int .i64 k, .int .i64 b] 140))) := (K1.out.trans (Kp.of_below hb2)).trans (Kp.of_below B3.out)
      have HN : Hid (¬ F w2.heap.size ∧ ¬ F (w2.heap.size + 1)) := by
        have z : w.heap.size ≤ w2.heap.size := Nat.le_trans K1.out.size hb2.size
        exact ⟨fun h => by have := HF.out _ h; omega, fun h => by have := HF.out _ h; omega⟩
      have HBB2 : Hid (_ ∧ _ ∧ _ ∧ _) := two_box w2 (.int .i64 a) (.int .i64 k) (.int .i64 k) (.int .i64 b) 140 140
      have d1 := HBB2.out.2.2.1
      have d2 := HBB2.out.2.2.2
      clear hb2 c1 c2
      go_wp2_with fail
      refine (I1.out _ S3.out).mono ?_
      rintro e w4 ⟨rfl, hs4, hk4, hq4⟩
      have S4 : Hid (St A.2 w4 ∧ Q A.1) := ⟨hs4, hq4⟩
      have K4 : Hid (Kp F w w4) := K3.out.trans hk4
      have c3 := hk4.cell HBB2.out.1 HN.out.1
      have c4 := hk4.cell HBB2.out.2.1 HN.out.1
      clear hs4 hk4 hq4 HN HBB2 d1 d2
      go_wp2_with fail
      refine (I2.out _ S4.out.1).mono ?_
      rintro e w5 ⟨rfl, hs5, hk5, hq5⟩
      have S5 : Hid (St B.2 w5 ∧ Q B.1) := ⟨hs5, hq5⟩
      have K5 : Hid (Kp F w w5) := K4.out.trans hk5
      clear hs5 hk5 hq5 c3 c4
      go_wp2_with fail
      refine (JC.out _ S5.out.2 S4.out.2 S5.out.1).mono ?_
      rintro e w6 ⟨rfl, hb6⟩
      have S6 : Hid (St B.2 w6 ∧ Kp F w w6) := ⟨KK.out.later S5.out.1 hb6, K5.out.trans (Kp.of_below hb6)⟩
      clear hb6
      go_wp2
      go_ret
      rw [HGE.out]
      exact ⟨rfl, S6.out.1, S6.out.2, KK.out.qj S5.out.2 S4.out.2⟩
    all_goals (
      have HGE : Hid (go W x a b = _) := go_stop (by rw [HS.out]; omega)
      have HQ : Hid (Q _) := KK.out.qh HP.out.2 HP.out.1 (by rw [HS.out]; omega)
      rw [HG.out, HS.out, HY.out] at HGE
      rw [HS.out, HY.out, ← HGE.out] at HQ
      rw [← HGE.out] at HVC
      obtain ⟨vg, HVG⟩ : ∃ vg, Hid (enc G.1 = vg) := ⟨_, rfl⟩
      rw [HVG.out] at HVC ⊢
      clear hwide hfour HS HGE
      go_enter Tryd.func92, Tryd.ntmps92
      go_wp2_with fail
      refine LC.out.mono ?_
      rintro e w1 ⟨rfl, hs1, hk1⟩
      have S1 : Hid (St y w1) := hs1
      have K1 : Hid (Kp F w w1) := (Kp.of_below BA.out).trans hk1
      have c1 := hk1.cell HBX.out.1 (fun h => by have := HF.out _ h; omega)
      have c2 := hk1.cell HBX.out.2 (fun h => by have := HF.out _ h; omega)
      clear hs1 hk1
      go_wp2_with fail
      refine (HVC.out _ (by omega) S1.out).mono ?_
      rintro e w2 ⟨rfl, hs2, hk2⟩
      have S2 : Hid (St G.2 w2 ∧ Kp F w w2) := ⟨hs2, K1.out.trans hk2⟩
      clear hs2 hk2 c1 c2
      go_wp2
      go_ret
      exact ⟨rfl, S2.out.1, S2.out.2, HQ.out⟩)
end
end Go.Proofs.YthpfgdhmpeadeaaDoor.wi

namespace Go.Proofs.YthpfgdhmpeadeaaDoor.tl
open Go.RowKit Go.PlainAid
open Go.Proofs.YthpfgdhmpeadeaaDoor.ca Go.Proofs.YthpfgdhmpeadeaaDoor.cb Go.Proofs.YthpfgdhmpeadeaaDoor.cp Go.Proofs.YthpfgdhmpeadeaaDoor.ga Go.Proofs.YthpfgdhmpeadeaaDoor.aa Go.Proofs.YthpfgdhmpeadeaaDoor.ba Go.Proofs.YthpfgdhmpeadeaaDoor.bb Go.Proofs.YthpfgdhmpeadeaaDoor.kp Go.Proofs.YthpfgdhmpeadeaaDoor.lk Go.Proofs.YthpfgdhmpeadeaaDoor.wi
set_option linter.unusedVariables false

-- the tally of a shape
def WT (lk : Nat → Nat → Nat) (cur : Nat → Nat) : Wy Nat Int where
  lk := fun x a b => (lk a b, if lk a b < 2 then cur b else x)
  hv := fun x a b s => (if s = 1 then 1 else 0, x)
  jn := fun l r => IntKind.i64.wrap (l + r)
theorem go_tally {lk : Nat → Nat → Nat} {cur : Nat → Nat} (hw : ∀ {a b}, a < b → 2 ≤ lk a b → 2 ≤ b - a) (hf : ∀ a b, lk a b ≤ 3) (ht : ∀ {a b}, lk a b = 3 → ∀ p, cur p = cur 0) (n : Nat) :
    ∀ a b, b - a = n → a < b → b ≤ 4611686018427387904 → go (WT lk cur) (cur a) a b = (((WL lk a b).length : Int), cur b) ∧ (WL lk a b).length ≤ b - a := by
  induction n using Nat.strongRecOn with
  | ind n ih =>
    intro a b hn hab hb
    have h3 := hf a b
    rcases (show lk a b = 0 ∨ lk a b = 1 ∨ lk a b = 2 ∨ lk a b = 3 by omega) with h | h | h | h
    · have e : (WT lk cur).lk (cur a) a b = (0, cur b) := by show (lk a b, _) = _; rw [h]; rfl
      rw [go_stop (by rw [e]; show 0 < 2; omega), e, WL_pass h]
      exact ⟨rfl, by simp⟩
    · have e : (WT lk cur).lk (cur a) a b = (1, cur b) := by show (lk a b, _) = _; rw [h]; rfl
      rw [go_stop (by rw [e]; show 1 < 2; omega), e, WL_take h]
      exact ⟨rfl, by simp; omega⟩
    · have h2 := hw hab (by omega)
      have hh := half_lt h2
      have e : (WT lk cur).lk (cur a) a b = (2, cur a) := by show (lk a b, _) = _; rw [h]; rfl
      obtain ⟨i1, l1⟩ := ih (half (b - a)) (by omega) a (a + half (b - a)) (by omega) (by omega) (by omega)
      obtain ⟨i2, l2⟩ := ih (b - a - half (b - a)) (by omega) (a + half (b - a)) b (by omega) (by omega) hb
      rw [go_left (by rw [e]) h2, e]
      simp only
      rw [i1, i2, WL_left h h2, List.length_append]
      refine ⟨?_, by omega⟩
      show (IntKind.i64.wrap _, _) = _
      rw [IntKind.wrap_i64]
      simp only [Prod.mk.injEq, and_true]
      omega
    · have h2 := hw hab (by omega)
      have hh := half_lt h2
      have hc := ht h
      have e : (WT lk cur).lk (cur a) a b = (3, cur a) := by show (lk a b, _) = _; rw [h]; rfl
      obtain ⟨i1, l1⟩ := ih (half (b - a)) (by omega) a (a + half (b - a)) (by omega) (by omega) (by omega)
      obtain ⟨i2, l2⟩ := ih (b - a - half (b - a)) (by omega) (a + half (b - a)) b (by omega) (by omega) hb
      rw [go_right (by rw [e]; exact Nat.le_refl _) h2, e]
      simp only
      rw [show cur a = cur (a + half (b - a)) by rw [hc a, hc (a + half (b - a))], i2]
      simp only
      rw [show cur b = cur a by rw [hc a, hc b], i1, WL_right (by omega) h2, List.length_append]
      refine ⟨?_, by omega⟩
      show (IntKind.i64.wrap _, _) = _
      rw [IntKind.wrap_i64, show cur (a + half (b - a)) = cur a by rw [hc a, hc (a + half (b - a))]]
      simp only [Prod.mk.injEq, and_true]
      omega
theorem haveT (a b s : Nat) (hs : s < 2) (w : World) : Calls Tryd.prog 91 #[.agg #[.int .i64 a, .int .i64 b], .int .i64 s] w fun e w' => e = .returned (.int .i64 (if s = 1 then 1 else 0)) ∧ Below w.heap.size w w' := by
  have B0 : Hid (Below w.heap.size w (w.alloc (.cells #[.int .i64 a, .int .i64 b] 140))) := (Below.refl _ _).alloc (Nat.le_refl _) _
  rcases (show s = 0 ∨ s = 1 by omega) with rfl | rfl
  · go_enter Tryd.func91, Tryd.ntmps91
    go_wp2
    go_ret
    exact ⟨rfl, B0.out⟩
  · go_enter Tryd.func91, Tryd.ntmps91
    go_wp2
    go_ret
    exact ⟨rfl, B0.out⟩
theorem joinT (l r : Int) (w : World) : Calls Tryd.prog 93 #[.int .i64 l, .int .i64 r] w fun e w' => e = .returned (.int .i64 (IntKind.i64.wrap (l + r))) ∧ w' = w := by
  obtain ⟨x, HX⟩ : ∃ x, Hid (IntKind.i64.wrap (l + r) = x) := ⟨_, rfl⟩
  have hx := HX.out
  rw [hx]
  go_enter Tryd.func93, Tryd.ntmps93
  go_wp2
  go_ret
  exact ⟨rfl, rfl⟩
section
variable {D F : Nat → Prop} {SS : Nat → World → Prop} {lk : Nat → Nat → Nat} {cur : Nat → Nat} {lg : Nat} {lv : Array Value}
theorem KT (S : Shp D F SS lk cur lg lv) : Wk F SS (fun v : Int => Value.int .i64 v) (WT lk cur) (fun x a b => x = cur a ∧ a < b ∧ b ≤ 4611686018427387904) (fun _ => True) lg 91 93 lv #[] #[] where
  lent := S.enter
  hent := fun args w => by simp [go_sem]
  jent := fun args w => by simp [go_sem]
  later := fun h b => S.later h b
  fl := fun h b hb => S.fl h b (S.fd b hb)
  look := fun x a b w hab hb hP hS => by
    obtain ⟨rfl, _⟩ := hP
    exact S.call a b w hab hb hS
  have' := fun x a b w hab hb hP h hS => (haveT a b (lk a b) h w).mono fun e w' hh => ⟨hh.1, S.later hS hh.2, Kp.of_below hh.2⟩
  join := fun l r x w _ _ _ => (joinT l r w).mono fun e w' hh => ⟨hh.1, by rw [hh.2]; exact Below.refl _ _⟩
  qh := fun _ _ _ => trivial
  qj := fun _ _ => trivial
  wide := fun hab _ h => S.wide hab h
  four := fun _ _ => S.four _ _
  left := fun {x a b} hab hP h => by
    obtain ⟨rfl, _, hb⟩ := hP
    have h' : lk a b = 2 := h
    have h2 := S.wide hab (by omega)
    have hh := half_lt h2
    have e : (WT lk cur).lk (cur a) a b = (2, cur a) := by show (lk a b, _) = _; rw [h']; rfl
    rw [e]
    simp only
    rw [(go_tally S.wide S.four S.turn (half (b - a)) a (a + half (b - a)) (by omega) (by omega) (by omega)).1]
    exact ⟨⟨by first | rfl | trivial, by omega, by omega⟩, rfl, by omega, hb⟩
  right := fun {x a b} hab hP h => by
    obtain ⟨rfl, _, hb⟩ := hP
    have h' : lk a b = 3 := h
    have hc := S.turn h'
    have h2 := S.wide hab (by omega)
    have hh := half_lt h2
    have e : (WT lk cur).lk (cur a) a b = (3, cur a) := by show (lk a b, _) = _; rw [h']; rfl
    rw [e]
    simp only
    rw [show cur a = cur (a + half (b - a)) by rw [hc a, hc (a + half (b - a))], (go_tally S.wide S.four S.turn (b - a - half (b - a)) (a + half (b - a)) b (by omega) (by omega) hb).1]
    exact ⟨⟨by first | rfl | trivial, by omega, hb⟩, by first | (show cur b = cur (a + half (b - a)); rw [hc b, hc (a + half (b - a))]) | (show cur b = cur a; rw [hc a, hc b]), by omega, by omega⟩
theorem tallyC (S : Shp D F SS lk cur lg lv) (n : Nat) (h1 : 1 ≤ n) (hn : n ≤ 4611686018427387904) (w : World) (hS : SS (cur 0) w) :
    Calls Tryd.prog 74 #[.int .i64 n, .func (.func lg) #[] lv] w fun e w' => e = .returned (.int .i64 ((WL lk 0 n).length : Nat)) ∧ SS (cur n) w' ∧ Kp F w w' := by
  have HC : Hid (Calls _ _ _ _ _) := walkC (KT S) n 0 n (cur 0) w rfl (by omega) hn ⟨rfl, by omega, hn⟩ hS
  rw [(go_tally S.wide S.four S.turn n 0 n rfl (by omega) hn).1] at HC
  clear hS
  go_enter Tryd.func74, Tryd.ntmps74
  go_wp2_with fail
  refine HC.out.mono ?_
  rintro e w1 ⟨rfl, hs, hk, _⟩
  have H : Hid (SS (cur n) w1 ∧ Kp F w w1) := ⟨hs, hk⟩
  clear hs hk
  go_wp2
  go_ret
  exact ⟨rfl, H.out.1, H.out.2⟩
end
-- of an older tree without leaves nothing is asked
theorem tallyZ (ob mb n : Nat) (w : World) (hO : Bx w ob 0 0) (hP : w.cell? ⟨mb, 0, none⟩ = some (.int .i64 0)) :
    Calls Tryd.prog 74 #[.int .i64 n, .func (.func 111) #[] #[.pointer (some ⟨mb, 0, none⟩), .pointer (some ⟨ob, 0, none⟩)]] w fun e w' => e = .returned (.int .i64 0) ∧ Below w.heap.size w w' := by
  have HW : Hid (Calls Tryd.prog 92 #[.agg #[.int .i64 0, .int .i64 n], .func (.func 111) #[] #[.pointer (some ⟨mb, 0, none⟩), .pointer (some ⟨ob, 0, none⟩)], .func (.func 91) #[] #[], .func (.func 93) #[] #[]] w fun e w' => e = .returned (.int .i64 0) ∧ Below w.heap.size w w') := by
    have BA : Hid (Below w.heap.size w (w.alloc (.cells #[.int .i64 0, .int .i64 n] 140))) := (Below.refl _ _).alloc (Nat.le_refl _) _
    have HBX : Hid (Bx (w.alloc (.cells #[.int .i64 0, .int .i64 n] 140)) w.heap.size 0 n) := part_box w 0 n
    have L : Hid (Calls _ _ _ _ _) := lookZ ob mb 0 n (w.alloc (.cells #[.int .i64 0, .int .i64 n] 140)) (hO.later BA.out) ((BA.out.cell (World.block_lt_of_cell? _ _ hP)).trans hP)
    have HV : Hid (∀ w, Calls _ _ _ _ _) := fun w => haveT 0 n 0 (by omega) w
    show Calls _ _ _ _ _
    clear hO hP
    go_enter Tryd.func92, Tryd.ntmps92
    go_wp2_with fail
    refine L.out.mono ?_
    rintro e w1 ⟨rfl, hb1⟩
    have B1 : Hid (Below w.heap.size w w1) := over BA.out hb1
    obtain ⟨c1, c2⟩ := HBX.out.later hb1
    clear hb1
    go_wp2_with fail
    refine (HV.out _).mono ?_
    rintro e w2 ⟨rfl, hb2⟩
    have B2 : Hid (Below w.heap.size w w2) := over B1.out hb2
    clear hb2 c1 c2
    go_wp2
    go_ret
    exact ⟨rfl, B2.out⟩
  clear hO hP
  go_enter Tryd.func74, Tryd.ntmps74
  go_wp2_with fail
  refine HW.out.mono ?_
  rintro e w1 ⟨rfl, hb1⟩
  have B1 : Hid (Below w.heap.size w w1) := hb1
  clear hb1
  go_wp2
  go_ret
  exact ⟨rfl, B1.out⟩
end Go.Proofs.YthpfgdhmpeadeaaDoor.tl

namespace Go.Proofs.YthpfgdhmpeadeaaDoor.mj
open Go.RowKit Go.PlainAid
open Go.Proofs.YthpfgdhmpeadeaaDoor.ca Go.Proofs.YthpfgdhmpeadeaaDoor.cp Go.Proofs.YthpfgdhmpeadeaaDoor.mi
set_option linter.unusedVariables false

set_option maxHeartbeats 1600000 in
theorem checkP (v : Value) (xs : List Int) (n : Int) (w : World) (hR : ReadsI w v xs) (hz : xs.length ≤ 140737488355328) :
    Calls Tryd.prog 90 #[.int .i64 n, v] w fun e w' => e = .returned (.int .i64 (places xs n)) ∧ w' = w := by
  obtain ⟨a, cap, rfl, _, h1⟩ := hR
  have HC : Hid (xs.length = 0 ∨ ∃ b off, a = some ⟨b, off, none⟩ ∧ ∀ i, i < xs.length → w.cell? ⟨b, off + i, none⟩ = some (.int .i64 (xs.getD i 0))) := h1
  obtain ⟨l, HN⟩ : ∃ n, Hid (xs.length = n) := ⟨_, rfl⟩
  obtain ⟨r, HR⟩ : ∃ r, Hid (places xs n = r) := ⟨_, rfl⟩
  rw [HR.out]
  rw [HN.out] at HC hz ⊢
  clear h1
  by_cases h0 : l = 0
  · have HE : Hid (r = 82) := by
      show _ = _
      rw [← HR.out]; unfold places; rw [HN.out, if_pos h0]
    subst h0
    go_enter Tryd.func90, Tryd.ntmps90
    go_wp2
    go_ret
    exact ⟨by first | (rw [HE.out]; done) | (rw [HE.out]; rfl), rfl⟩
  · have hb : ((l : Int) == 0) = false := by rw [beq_eq_false_iff_ne]; omega
    by_cases h2 : 1024 < l
    · have HE : Hid (r = 83) := by
        show _ = _
        rw [← HR.out]; unfold places; rw [HN.out, if_neg h0, if_pos h2]
      have hb2 : decide ((1024 : Int) < l) = true := decide_eq_true (by omega)
      clear h0 h2
      go_enter Tryd.func90, Tryd.ntmps90
      go_wp2
      go_ret
      exact ⟨by first | (rw [HE.out]; done) | (rw [HE.out]; rfl), rfl⟩
    · have HS0 : Hid (scan (bad xs n) l 0 = r) := by
        show _ = _
        rw [← HR.out]; unfold places; rw [HN.out, if_neg h0, if_neg h2]
      have hb2 : decide ((1024 : Int) < l) = false := decide_eq_false (by omega)
      have HL : Hid (l ≠ 0 ∧ l ≤ 1024) := ⟨h0, by omega⟩
      clear h0 h2
      go_enter Tryd.func90, Tryd.ntmps90
      go_wp2
      go_loopw [15] (fun i wr => ∃ k : Nat, k ≤ l ∧ i = .int .i64 k ∧ Hid (scan (bad xs n) (l - k) k = r) ∧ w = wr) (fun i _ => (l - intOf i).toNat)
      case atStart => exact ⟨0, by omega, rfl, HS0, rfl⟩
      case round =>
        obtain ⟨k, hk, rfl, HS, rfl⟩ := hrel
        have HB := HL.out
        by_cases hlt : k < l
        · have hlt' : (k : Int) < l := by omega
          obtain ⟨b, off, rfl, hc⟩ : ∃ b off, a = some ⟨b, off, none⟩ ∧ ∀ i, i < l → w.cell? ⟨b, off + i, none⟩ = some (.int .i64 (xs.getD i 0)) := by
            rcases HC.out with h | h
            · omega
            · exact h
          obtain ⟨X, HX⟩ : ∃ X, Hid (xs.getD k 0 = X) := ⟨_, rfl⟩
          have c1 := hc k hlt
          rw [HX.out] at c1
          have HST : Hid (scan (bad xs n) (l - k) k = if bad xs n k = 0 then scan (bad xs n) (l - (k + 1)) (k + 1) else bad xs n k) := by
            show _ = _
            rw [show l - k = (l - (k + 1)) + 1 by omega]; rfl
          by_cases x1 : X < 0
          · have d1 : decide (X < 0) = true := decide_eq_true x1
            have HE : Hid (r = 81) := by
              show _ = _
              rw [← HS.out, HST.out, show bad xs n k = 81 by unfold bad; rw [HX.out, if_pos x1]]; rfl
            clear x1 hc hb hb2 HB
            go_wp2
            go_ret
            exact ⟨by first | (rw [HE.out]; done) | (rw [HE.out]; rfl), rfl⟩
          · have d1 : decide (X < 0) = false := decide_eq_false x1
            by_cases x2 : n ≤ X
            · have d2 : decide (n ≤ X) = true := decide_eq_true x2
              have HE : Hid (r = 81) := by
                show _ = _
                rw [← HS.out, HST.out, show bad xs n k = 81 by unfold bad; rw [HX.out, if_neg x1, if_pos x2]]; rfl
              clear x1 x2 hc hb hb2 HB
              go_wp2
              go_ret
              exact ⟨by first | (rw [HE.out]; done) | (rw [HE.out]; rfl), rfl⟩
            · have d2 : decide (n ≤ X) = false := decide_eq_false x2
              cases k with
              | zero =>
                have HS1 : Hid (scan (bad xs n) (l - (0 + 1)) (0 + 1) = r) := by
                  show _ = _
                  rw [← HS.out, HST.out, if_pos (show bad xs n 0 = 0 by unfold bad; rw [HX.out, if_neg x1, if_neg x2, if_neg (by omega)])]
                have d3 : decide ((0 : Int) < ((0 : Nat) : Int)) = false := rfl
                rw [Nat.add_zero] at c1
                clear x1 x2 hc hb hb2 HB HX
                go_wp2
                go_roundw
                case rel => exact ⟨0 + 1, by omega, by go_num, HS1.out, by first | rfl | trivial⟩
                case measure => simp [intOf]; omega
              | succ k =>
                obtain ⟨Y, HY⟩ : ∃ X, Hid (xs.getD k 0 = X) := ⟨_, rfl⟩
                have c2 := hc k (by omega)
                rw [HY.out] at c2
                have e1 : (((k + 1 : Nat) : Int) - 1) = k := by omega
                have d3 : decide ((0 : Int) < ((k + 1 : Nat) : Int)) = true := decide_eq_true (by omega)
                by_cases x4 : X ≤ Y
                · have d4 : decide (X ≤ Y) = true := decide_eq_true x4
                  have HE : Hid (r = 84) := by
                    show _ = _
                    rw [← HS.out, HST.out, show bad xs n (k + 1) = 84 by unfold bad; rw [HX.out, Nat.add_sub_cancel, HY.out, if_neg x1, if_neg x2, if_pos ⟨by omega, x4⟩]]; rfl
                  clear x1 x2 x4 hc hb hb2 HB
                  go_wp2
                  go_ret
                  exact ⟨by first | (rw [HE.out]; done) | (rw [HE.out]; rfl), rfl⟩
                · have d4 : decide (X ≤ Y) = false := decide_eq_false x4
                  have HS1 : Hid (scan (bad xs n) (l - (k + 1 + 1)) (k + 1 + 1) = r) := by
                    show _ = _
                    rw [← HS.out, HST.out, if_pos (show bad xs n (k + 1) = 0 by unfold bad; rw [HX.out, Nat.add_sub_cancel, HY.out, if_neg x1, if_neg x2, if_neg (fun h => x4 h.2)])]
                  clear x1 x2 x4 hc hb hb2 HB
                  go_wp2
                  go_roundw
                  case rel => exact ⟨k + 1 + 1, by omega, by go_num, HS1.out, by first | rfl | trivial⟩
                  case measure => simp [intOf]; omega
        · have hlt' : ¬ (k : Int) < l := by omega
          have HE : Hid (r = 0) := by
            show _ = _
            rw [← HS.out, show l - k = 0 by omega]; rfl
          clear hlt hb hb2 HB
          go_wp2
          go_ret
          exact ⟨by first | (rw [HE.out]; done) | (rw [HE.out]; rfl), rfl⟩
end Go.Proofs.YthpfgdhmpeadeaaDoor.mj

namespace Go.Proofs.YthpfgdhmpeadeaaDoor.co
open Go.RowKit Go.PlainAid
open Go.Proofs.YthpfgdhmpeadeaaDoor.ca Go.Proofs.YthpfgdhmpeadeaaDoor.cb Go.Proofs.YthpfgdhmpeadeaaDoor.cp Go.Proofs.YthpfgdhmpeadeaaDoor.ga Go.Proofs.YthpfgdhmpeadeaaDoor.aa Go.Proofs.YthpfgdhmpeadeaaDoor.ba Go.Proofs.YthpfgdhmpeadeaaDoor.bb Go.Proofs.YthpfgdhmpeadeaaDoor.kp Go.Proofs.YthpfgdhmpeadeaaDoor.lk Go.Proofs.YthpfgdhmpeadeaaDoor.mi Go.Proofs.YthpfgdhmpeadeaaDoor.mj Go.Proofs.YthpfgdhmpeadeaaDoor.lm Go.Proofs.YthpfgdhmpeadeaaDoor.tl
set_option linter.unusedVariables false

-- what is refused, and how many hashes there are
def ref9 (kind a b n : Int) (xs : List Int) : Int :=
  if kind < 1 ∨ 4 < kind then 110 else if n < 0 ∨ 4611686018427387904 < n then 80 else
  if kind = 1 then (if a < 0 ∨ n ≤ a then 81 else 0) else if kind = 2 then (if a < 0 ∨ n < a then 80 else 0) else
  if kind = 3 then (if a < 0 ∨ b ≤ a ∨ n < b then 81 else 0) else places xs n
def num9 (kind a b n : Int) (xs : List Int) : Nat :=
  if kind = 1 then (WL (lkI a.toNat) 0 n.toNat).length else if kind = 2 then (if a = 0 then 0 else (WL (lkC a.toNat) 0 n.toNat).length) else
  if kind = 3 then (WL (lkR a.toNat b.toNat) 0 n.toNat).length else (WL (lkM (natL xs)) 0 n.toNat).length
def cnt9 (kind a b n : Int) (xs : List Int) : Int × Int := if ref9 kind a b n xs = 0 then (((num9 kind a b n xs : Nat) : Int), 0) else (0, ref9 kind a b n xs)
set_option maxHeartbeats 1600000 in
theorem refuseC (kind a b n : Int) (v : Value) (xs : List Int) (w : World) (hR : ReadsI w v xs) (hz : xs.length ≤ 140737488355328) :
    Calls Tryd.prog 73 #[.int .i64 kind, .int .i64 a, .int .i64 b, .int .i64 n, v] w fun e w' => e = .returned (.int .i64 (ref9 kind a b n xs)) ∧ w' = w := by
  have PC : Hid (Calls _ _ _ _ _) := checkP v xs n w hR hz
  obtain ⟨r, HR⟩ : ∃ r, Hid (ref9 kind a b n xs = r) := ⟨_, rfl⟩
  rw [HR.out]
  have hr := HR.out
  unfold ref9 at hr
  clear hR
  by_cases k1 : kind < 1
  · obtain rfl : 110 = r := by rw [← hr, if_pos (.inl k1)]
    have d1 : decide (kind < 1) = true := decide_eq_true k1
    clear hr k1
    go_enter Tryd.func73, Tryd.ntmps73
    go_wp2
    go_ret
    exact ⟨rfl, rfl⟩
  have d1 : decide (kind < 1) = false := decide_eq_false k1
  by_cases k2 : 4 < kind
  · obtain rfl : 110 = r := by rw [← hr, if_pos (.inr k2)]
    have d2 : decide (4 < kind) = true := decide_eq_true k2
    clear hr k1 k2
    go_enter Tryd.func73, Tryd.ntmps73
    go_wp2
    go_ret
    exact ⟨rfl, rfl⟩
  have d2 : decide (4 < kind) = false := decide_eq_false k2
  rw [if_neg (by omega)] at hr
  by_cases n1 : n < 0
  · obtain rfl : 80 = r := by rw [← hr, if_pos (.inl n1)]
    have d3 : decide (n < 0) = true := decide_eq_true n1
    clear hr k1 k2 n1
    go_enter Tryd.func73, Tryd.ntmps73
    go_wp2
    go_ret
    exact ⟨rfl, rfl⟩
  have d3 : decide (n < 0) = false := decide_eq_false n1
  by_cases n2 : 4611686018427387904 < n
  · obtain rfl : 80 = r := by rw [← hr, if_pos (.inr n2)]
    have d4 : decide (4611686018427387904 < n) = true := decide_eq_true n2
    clear hr k1 k2 n1 n2
    go_enter Tryd.func73, Tryd.ntmps73
    go_wp2
    go_ret
    exact ⟨rfl, rfl⟩
  have d4 : decide (4611686018427387904 < n) = false := decide_eq_false n2
  rw [if_neg (by omega)] at hr
  rcases (show kind = 1 ∨ kind = 2 ∨ kind = 3 ∨ kind = 4 by omega) with rfl | rfl | rfl | rfl
  · rw [if_pos rfl] at hr
    by_cases a1 : a < 0
    · obtain rfl : 81 = r := by rw [← hr, if_pos (.inl a1)]
      have d5 : decide (a < 0) = true := decide_eq_true a1
      clear hr k1 k2 n1 n2 a1
      go_enter Tryd.func73, Tryd.ntmps73
      go_wp2
      go_ret
      exact ⟨rfl, rfl⟩
    have d5 : decide (a < 0) = false := decide_eq_false a1
    by_cases a2 : n ≤ a
    · obtain rfl : 81 = r := by rw [← hr, if_pos (.inr a2)]
      have d6 : decide (n ≤ a) = true := decide_eq_true a2
      clear hr k1 k2 n1 n2 a1 a2
      go_enter Tryd.func73, Tryd.ntmps73
      go_wp2
      go_ret
      exact ⟨rfl, rfl⟩
    have d6 : decide (n ≤ a) = false := decide_eq_false a2
    obtain rfl : 0 = r := by rw [← hr, if_neg (by omega)]
    clear hr k1 k2 n1 n2 a1 a2
    go_enter Tryd.func73, Tryd.ntmps73
    go_wp2
    go_ret
    exact ⟨rfl, rfl⟩
  · rw [if_neg (by omega), if_pos rfl] at hr
    by_cases a1 : a < 0
    · obtain rfl : 80 = r := by rw [← hr, if_pos (.inl a1)]
      have d5 : decide (a < 0) = true := decide_eq_true a1
      clear hr k1 k2 n1 n2 a1
      go_enter Tryd.func73, Tryd.ntmps73
      go_wp2
      go_ret
      exact ⟨rfl, rfl⟩
    have d5 : decide (a < 0) = false := decide_eq_false a1
    by_cases a2 : n < a
    · obtain rfl : 80 = r := by rw [← hr, if_pos (.inr a2)]
      have d6 : decide (n < a) = true := decide_eq_true a2
      clear hr k1 k2 n1 n2 a1 a2
      go_enter Tryd.func73, Tryd.ntmps73
      go_wp2
      go_ret
      exact ⟨rfl, rfl⟩
    have d6 : decide (n < a) = false := decide_eq_false a2
    obtain rfl : 0 = r := by rw [← hr, if_neg (by omega)]
    clear hr k1 k2 n1 n2 a1 a2
    go_enter Tryd.func73, Tryd.ntmps73
    go_wp2
    go_ret
    exact ⟨rfl, rfl⟩
  · rw [if_neg (by omega), if_neg (by omega), if_pos rfl] at hr
    by_cases a1 : a < 0
    · obtain rfl : 81 = r := by rw [← hr, if_pos (.inl a1)]
      have d5 : decide (a < 0) = true := decide_eq_true a1
      clear hr k1 k2 n1 n2 a1
      go_enter Tryd.func73, Tryd.ntmps73
      go_wp2
      go_ret
      exact ⟨rfl, rfl⟩
    have d5 : decide (a < 0) = false := decide_eq_false a1
    by_cases a2 : b ≤ a
    · obtain rfl : 81 = r := by rw [← hr, if_pos (.inr (.inl a2))]
      have d6 : decide (b ≤ a) = true := decide_eq_true a2
      clear hr k1 k2 n1 n2 a1 a2
      go_enter Tryd.func73, Tryd.ntmps73
      go_wp2
      go_ret
      exact ⟨rfl, rfl⟩
    have d6 : decide (b ≤ a) = false := decide_eq_false a2
    by_cases a3 : n < b
    · obtain rfl : 81 = r := by rw [← hr, if_pos (.inr (.inr a3))]
      have d7 : decide (n < b) = true := decide_eq_true a3
      clear hr k1 k2 n1 n2 a1 a2 a3
      go_enter Tryd.func73, Tryd.ntmps73
      go_wp2
      go_ret
      exact ⟨rfl, rfl⟩
    have d7 : decide (n < b) = false := decide_eq_false a3
    obtain rfl : 0 = r := by rw [← hr, if_neg (by omega)]
    clear hr k1 k2 n1 n2 a1 a2 a3
    go_enter Tryd.func73, Tryd.ntmps73
    go_wp2
    go_ret
    exact ⟨rfl, rfl⟩
  · rw [if_neg (by omega), if_neg (by omega), if_neg (by omega)] at hr
    rw [hr] at PC
    clear hr k1 k2 n1 n2
    go_enter Tryd.func73, Tryd.ntmps73
    go_wp2_with fail
    refine PC.out.mono ?_
    rintro e w1 ⟨rfl, rfl⟩
    go_wp2
    go_ret
    exact ⟨rfl, rfl⟩
-- the shapes are made
theorem inclusionC (i : Int) (w : World) : Calls Tryd.prog 94 #[.int .i64 i] w fun e w' => e = .returned (.func (.func 107) #[] #[.pointer (some ⟨w.heap.size, 0, none⟩)]) ∧ w' = w.alloc (.cells #[.int .i64 i] 3) := by
  go_enter Tryd.func94, Tryd.ntmps94
  go_wp2
  go_ret
  exact ⟨rfl, rfl⟩
theorem consistencyC (m : Int) (w : World) : Calls Tryd.prog 95 #[.int .i64 m] w fun e w' => e = .returned (.func (.func 111) #[] #[.pointer (some ⟨w.heap.size, 0, none⟩), .pointer (some ⟨w.heap.size + 1, 0, none⟩)]) ∧ w' = (w.alloc (.cells #[.int .i64 m] 3)).alloc (.cells #[.int .i64 0, .int .i64 m] 140) := by
  go_enter Tryd.func95, Tryd.ntmps95
  go_wp2
  go_ret
  exact ⟨by simp, rfl⟩
theorem rangedC (lo hi : Int) (w : World) : Calls Tryd.prog 96 #[.int .i64 lo, .int .i64 hi] w fun e w' => e = .returned (.func (.func 112) #[] #[.pointer (some ⟨w.heap.size, 0, none⟩), .pointer (some ⟨w.heap.size + 1, 0, none⟩)]) ∧ w' = (w.alloc (.cells #[.int .i64 lo] 3)).alloc (.cells #[.int .i64 hi] 3) := by
  go_enter Tryd.func96, Tryd.ntmps96
  go_wp2
  go_ret
  exact ⟨by simp, rfl⟩
theorem multiC (a : Option Addr) (l c : Nat) (w : World) : Calls Tryd.prog 97 #[.slice a l c] w fun e w' => e = .returned (.func (.func 113) #[] #[.pointer (some ⟨w.heap.size, 0, none⟩)]) ∧ w' = w.alloc (.cells #[.slice a l c] 47) := by
  go_enter Tryd.func97, Tryd.ntmps97
  go_wp2
  go_ret
  exact ⟨rfl, rfl⟩
end Go.Proofs.YthpfgdhmpeadeaaDoor.co

namespace Go.Proofs.YthpfgdhmpeadeaaDoor.cn
open Go.RowKit Go.PlainAid
open Go.Proofs.YthpfgdhmpeadeaaDoor.ca Go.Proofs.YthpfgdhmpeadeaaDoor.cb Go.Proofs.YthpfgdhmpeadeaaDoor.cp Go.Proofs.YthpfgdhmpeadeaaDoor.ga Go.Proofs.YthpfgdhmpeadeaaDoor.aa Go.Proofs.YthpfgdhmpeadeaaDoor.ba Go.Proofs.YthpfgdhmpeadeaaDoor.bb Go.Proofs.YthpfgdhmpeadeaaDoor.kp Go.Proofs.YthpfgdhmpeadeaaDoor.lk Go.Proofs.YthpfgdhmpeadeaaDoor.mi Go.Proofs.YthpfgdhmpeadeaaDoor.mj Go.Proofs.YthpfgdhmpeadeaaDoor.lm Go.Proofs.YthpfgdhmpeadeaaDoor.tl Go.Proofs.YthpfgdhmpeadeaaDoor.co
set_option linter.unusedVariables false

def Made (w : World) (n t : Nat) (e : Ending) (w1 : World) : Prop :=
  Below w.heap.size w w1 ∧ ∃ lg lv, e = .returned (.func (.func lg) #[] lv) ∧ Calls Tryd.prog 74 #[.int .i64 n, .func (.func lg) #[] lv] w1 fun e w' => e = .returned (.int .i64 t) ∧ Below w.heap.size w w'
theorem below_of {w w1 w2 : World} {F : Nat → Prop} (h : Below w.heap.size w w1) (k : Kp F w1 w2) (hF : ∀ b, F b → w.heap.size ≤ b) : Below w.heap.size w w2 :=
  h.trans (k.below hF h.size)
theorem shape1x (a n : Nat) (b : Int) (v : Value) (h1 : a < n) (hn : n ≤ 4611686018427387904) (w : World) :
    Calls Tryd.prog 75 #[.int .i64 1, .int .i64 a, .int .i64 b, v] w (Made w n (WL (lkI a) 0 n).length) := by
  have IC : Hid (∀ w, Calls _ _ _ _ _) := fun w => inclusionC a w
  go_enter Tryd.func75, Tryd.ntmps75
  go_wp2_with fail
  refine (IC.out _).mono ?_
  rintro e w1 ⟨rfl, rfl⟩
  go_wp2
  go_ret
  have BA : Below w.heap.size w (w.alloc (.cells #[.int .i64 a] 3)) := (Below.refl _ _).alloc (Nat.le_refl _) _
  refine ⟨BA, _, _, rfl, (tallyC (ShI w.heap.size a) n (by omega) hn _ (by rw [World.cell?_alloc_at _ _ _ _ rfl]; rfl)).mono ?_⟩
  rintro e w2 ⟨rfl, _, k⟩
  exact ⟨rfl, below_of BA k (fun b h => h.elim)⟩
theorem shape2x (a n : Nat) (b : Int) (v : Value) (h1 : 1 ≤ a) (h2 : a ≤ n) (hn : n ≤ 4611686018427387904) (w : World) :
    Calls Tryd.prog 75 #[.int .i64 2, .int .i64 a, .int .i64 b, v] w (Made w n (WL (lkC a) 0 n).length) := by
  have IC : Hid (∀ w, Calls _ _ _ _ _) := fun w => consistencyC a w
  go_enter Tryd.func75, Tryd.ntmps75
  go_wp2_with fail
  refine (IC.out _).mono ?_
  rintro e w1 ⟨rfl, rfl⟩
  go_wp2
  go_ret
  have BA : Below w.heap.size w ((w.alloc (.cells #[.int .i64 a] 3)).alloc (.cells #[.int .i64 0, .int .i64 a] 140)) := ((Below.refl _ _).alloc (Nat.le_refl _) _).alloc (by simp) _
  have B2 : Below (w.alloc (.cells #[.int .i64 a] 3)).heap.size (w.alloc (.cells #[.int .i64 a] 3)) ((w.alloc (.cells #[.int .i64 a] 3)).alloc (.cells #[.int .i64 0, .int .i64 a] 140)) := (Below.refl _ _).alloc (Nat.le_refl _) _
  have s1 : (w.alloc (.cells #[.int .i64 a] 3)).heap.size = w.heap.size + 1 := by simp
  refine ⟨BA, _, _, rfl, (tallyC (ShC (w.heap.size + 1) w.heap.size a h1 (by omega)) n (by omega) hn _ ⟨?_, ?_⟩).mono ?_⟩
  · rw [← s1]; exact ⟨by rw [World.cell?_alloc_at _ _ _ _ rfl]; rfl, by rw [World.cell?_alloc_at _ _ _ _ rfl]; rfl⟩
  · refine (B2.cell (p := ⟨w.heap.size, 0, none⟩) (by show w.heap.size < _; rw [s1]; omega)).trans ?_
    rw [World.cell?_alloc_at _ _ _ _ rfl]; rfl
  · rintro e w2 ⟨rfl, _, k⟩
    exact ⟨rfl, below_of BA k (fun b h => h.elim)⟩
theorem shape0x (n : Nat) (b : Int) (v : Value) (w : World) :
    Calls Tryd.prog 75 #[.int .i64 2, .int .i64 0, .int .i64 b, v] w (Made w n 0) := by
  have IC : Hid (∀ w, Calls _ _ _ _ _) := fun w => consistencyC 0 w
  go_enter Tryd.func75, Tryd.ntmps75
  go_wp2_with fail
  refine (IC.out _).mono ?_
  rintro e w1 ⟨rfl, rfl⟩
  go_wp2
  go_ret
  have BA : Below w.heap.size w ((w.alloc (.cells #[.int .i64 0] 3)).alloc (.cells #[.int .i64 0, .int .i64 0] 140)) := ((Below.refl _ _).alloc (Nat.le_refl _) _).alloc (by simp) _
  have B2 : Below (w.alloc (.cells #[.int .i64 0] 3)).heap.size (w.alloc (.cells #[.int .i64 0] 3)) ((w.alloc (.cells #[.int .i64 0] 3)).alloc (.cells #[.int .i64 0, .int .i64 0] 140)) := (Below.refl _ _).alloc (Nat.le_refl _) _
  have s1 : (w.alloc (.cells #[.int .i64 0] 3)).heap.size = w.heap.size + 1 := by simp
  refine ⟨BA, _, _, rfl, (tallyZ (w.heap.size + 1) w.heap.size n _ ?_ ?_).mono ?_⟩
  · rw [← s1]; exact ⟨by rw [World.cell?_alloc_at _ _ _ _ rfl]; rfl, by rw [World.cell?_alloc_at _ _ _ _ rfl]; rfl⟩
  · refine (B2.cell (p := ⟨w.heap.size, 0, none⟩) (by show w.heap.size < _; rw [s1]; omega)).trans ?_
    rw [World.cell?_alloc_at _ _ _ _ rfl]; rfl
  · rintro e w2 ⟨rfl, k⟩
    exact ⟨rfl, below_of BA (Kp.of_below (A := no) k) (fun b h => h.elim)⟩
theorem two_int (w : World) (x y : Value) (t t' : TypeId) : ((w.alloc (.cells #[x] t)).alloc (.cells #[y] t')).cell? ⟨w.heap.size, 0, none⟩ = some x ∧ ((w.alloc (.cells #[x] t)).alloc (.cells #[y] t')).cell? ⟨w.heap.size + 1, 0, none⟩ = some y := by
  have B2 : Below (w.alloc (.cells #[x] t)).heap.size (w.alloc (.cells #[x] t)) ((w.alloc (.cells #[x] t)).alloc (.cells #[y] t')) := (Below.refl _ _).alloc (Nat.le_refl _) _
  have s1 : (w.alloc (.cells #[x] t)).heap.size = w.heap.size + 1 := by simp
  constructor
  · refine (B2.cell (p := ⟨w.heap.size, 0, none⟩) (by show w.heap.size < _; rw [s1]; omega)).trans ?_
    rw [World.cell?_alloc_at _ _ _ _ rfl]; rfl
  · rw [← s1, World.cell?_alloc_at _ _ _ _ rfl]; rfl
theorem shape3 (a b n : Nat) (v : Value) (h1 : a < b) (h2 : b ≤ n) (hn : n ≤ 4611686018427387904) (w : World) :
    Calls Tryd.prog 75 #[.int .i64 3, .int .i64 a, .int .i64 b, v] w (Made w n (WL (lkR a b) 0 n).length) := by
  have IC : Hid (∀ w, Calls _ _ _ _ _) := fun w => rangedC a b w
  go_enter Tryd.func75, Tryd.ntmps75
  go_wp2_with fail
  refine (IC.out _).mono ?_
  rintro e w1 ⟨rfl, rfl⟩
  go_wp2
  go_ret
  have BA : Below w.heap.size w ((w.alloc (.cells #[.int .i64 a] 3)).alloc (.cells #[.int .i64 b] 3)) := ((Below.refl _ _).alloc (Nat.le_refl _) _).alloc (by simp) _
  refine ⟨BA, _, _, rfl, (tallyC (ShR w.heap.size (w.heap.size + 1) a b) n (by omega) hn _ (two_int _ _ _ _ _)).mono ?_⟩
  rintro e w2 ⟨rfl, _, k⟩
  exact ⟨rfl, below_of BA k (fun b h => h.elim)⟩
-- the places' shape
theorem cnt_zero {xs : List Int} (hr : Ris xs) : cnt xs 0 = 0 := cnt_is hr (Nat.zero_le _) (fun j h => by omega) (fun j _ h => by have := hr.1 j h; simpa using this)
theorem SM_new {w : World} {v : Value} {xs : List Int} (hr : Ris xs) (hR : ReadsI w v xs) (h1 : 1 ≤ xs.length) : ∃ g, g < w.heap.size ∧ SM w.heap.size g xs (cnt xs 0) (w.alloc (.cells #[v] 47)) := by
  obtain ⟨a, cap, rfl, hc, hh⟩ := hR
  obtain ⟨g, off, rfl, hh'⟩ := hh.resolve_left (by omega)
  clear hh
  have hh := hh'
  have hg := World.block_lt_of_cell? _ _ (hh 0 (by omega))
  have B2 : Below w.heap.size w (w.alloc (.cells #[.slice (some ⟨g, off, none⟩) xs.length cap] 47)) := (Below.refl _ _).alloc (Nat.le_refl _) _
  refine ⟨g, hg, fun e => ?_, Nat.lt_of_lt_of_le hg B2.size, .slice (some ⟨g, off, none⟩) xs.length cap, ?_, ?_⟩
  · have hg' : g < w.heap.size := hg
    omega
  · exact (heap_alloc_new w _).trans rfl
  · rw [cnt_zero hr, List.drop_zero]
    exact ⟨_, cap, rfl, hc, .inr ⟨off, rfl, fun i hi => (B2.cell (World.block_lt_of_cell? _ _ (hh i hi))).trans (hh i hi)⟩⟩
theorem ris_of {xs : List Int} {n : Int} (h : places xs n = 0) : Ris xs := by
  obtain ⟨h1, h2, h3, h4⟩ := places_ok h
  exact ⟨fun j hj => (h3 j hj).1, fun i j hij hj => by
    have := rise_lt h4 i (j - i - 1) (by omega)
    rwa [show i + (j - i - 1) + 1 = j by omega] at this⟩
theorem shape4 (a b : Int) (n : Nat) (v : Value) (xs : List Int) (hp : places xs n = 0) (hn : n ≤ 4611686018427387904) (w : World) (hR : ReadsI w v xs) :
    Calls Tryd.prog 75 #[.int .i64 4, .int .i64 a, .int .i64 b, v] w (Made w n (WL (lkM (natL xs)) 0 n).length) := by
  obtain ⟨p1, p2, p3, p4⟩ := places_ok hp
  have hr := ris_of hp
  obtain ⟨g, hg, hS⟩ := SM_new hr hR p1
  obtain ⟨va, vc, rfl, _⟩ := hR
  have HS : Hid (_ ∧ _) := ⟨hg, hS⟩
  have IC : Hid (∀ w, Calls _ _ _ _ _) := fun w => multiC va xs.length vc w
  obtain ⟨l, HL⟩ : ∃ l, Hid (xs.length = l) := ⟨_, rfl⟩
  have h1n : 1 ≤ n := by have := p3 0 (by omega); omega
  rw [HL.out] at IC HS ⊢
  have HP : Hid (_ ∧ _) := ⟨hr, p3⟩
  clear hS p3 p4 hp hr p1 p2
  go_enter Tryd.func75, Tryd.ntmps75
  go_wp2_with fail
  refine (IC.out _).mono ?_
  rintro e w1 ⟨rfl, rfl⟩
  go_wp2
  go_ret
  have BA : Below w.heap.size w (w.alloc (.cells #[.slice va l vc] 47)) := (Below.refl _ _).alloc (Nat.le_refl _) _
  refine ⟨BA, _, _, rfl, (tallyC (ShM w.heap.size g xs HP.out.1 (fun j hj => by have := (HP.out.2 j hj).2; omega)) n h1n hn _ HS.out.2).mono ?_⟩
  rintro e w2 ⟨rfl, _, k⟩
  exact ⟨rfl, below_of BA k (fun b h => by omega)⟩
set_option maxHeartbeats 1600000 in
theorem countC (kind a b n : Int) (v : Value) (xs : List Int) (w : World) (hR : ReadsI w v xs) (hz : xs.length ≤ 140737488355328) :
    Calls Tryd.prog 48 #[.int .i64 kind, .int .i64 a, .int .i64 b, .int .i64 n, v] w fun e w' => e = .returned (.tuple #[.int .i64 (cnt9 kind a b n xs).1, .int .i64 (cnt9 kind a b n xs).2]) ∧ Below w.heap.size w w' := by
  have RC : Hid (Calls _ _ _ _ _) := refuseC kind a b n v xs w hR hz
  by_cases h0 : ref9 kind a b n xs = 0
  · have hc : cnt9 kind a b n xs = (((num9 kind a b n xs : Nat) : Int), 0) := by unfold cnt9; rw [if_pos h0]
    have SC : Hid (Calls Tryd.prog 75 #[.int .i64 kind, .int .i64 a, .int .i64 b, v] w (Made w n.toNat (num9 kind a b n xs)) ∧ (n.toNat : Int) = n) := by
      have hr := h0
      unfold ref9 at hr
      by_cases k1 : kind < 1 ∨ 4 < kind
      · rw [if_pos k1] at hr; omega
      rw [if_neg k1] at hr
      by_cases k2 : n < 0 ∨ 4611686018427387904 < n
      · rw [if_pos k2] at hr; omega
      rw [if_neg k2] at hr
      obtain ⟨N, rfl⟩ : ∃ N : Nat, n = N := ⟨n.toNat, by omega⟩
      rw [Int.toNat_natCast]
      refine ⟨?_, rfl⟩
      unfold num9
      rw [Int.toNat_natCast]
      rcases (show kind = 1 ∨ kind = 2 ∨ kind = 3 ∨ kind = 4 by omega) with rfl | rfl | rfl | rfl
      · rw [if_pos rfl] at hr ⊢
        by_cases g : a < 0 ∨ (N : Int) ≤ a
        · rw [if_pos g] at hr; omega
        obtain ⟨A, rfl⟩ : ∃ A : Nat, a = A := ⟨a.toNat, by omega⟩
        exact shape1x A N b v (by omega) (by omega) w
      · rw [if_neg (by omega), if_pos rfl] at hr ⊢
        by_cases g : a < 0 ∨ (N : Int) < a
        · rw [if_pos g] at hr; omega
        obtain ⟨A, rfl⟩ : ∃ A : Nat, a = A := ⟨a.toNat, by omega⟩
        by_cases hA : A = 0
        · subst hA
          rw [if_pos (by rfl)]
          exact shape0x N b v w
        · rw [if_neg (by omega)]
          exact shape2x A N b v (by omega) (by omega) (by omega) w
      · rw [if_neg (by omega), if_neg (by omega), if_pos rfl] at hr ⊢
        by_cases g : a < 0 ∨ b ≤ a ∨ (N : Int) < b
        · rw [if_pos g] at hr; omega
        obtain ⟨A, rfl⟩ : ∃ A : Nat, a = A := ⟨a.toNat, by omega⟩
        obtain ⟨B, rfl⟩ : ∃ B : Nat, b = B := ⟨b.toNat, by omega⟩
        exact shape3 A B N v (by omega) (by omega) (by omega) w
      · rw [if_neg (by omega), if_neg (by omega), if_neg (by omega)] at hr ⊢
        exact shape4 a b N v xs hr (by omega) w hR
    rw [hc]
    rw [h0] at RC
    obtain ⟨t, HT⟩ : ∃ t, Hid (num9 kind a b n xs = t) := ⟨_, rfl⟩
    rw [HT.out] at SC ⊢
    obtain ⟨va, vc, rfl, _⟩ := hR
    clear h0 hc
    go_enter Tryd.func48, Tryd.ntmps48
    go_wp2_with fail
    refine RC.out.mono ?_
    rintro e w1 ⟨rfl, rfl⟩
    go_wp2_with fail
    refine SC.out.1.mono ?_
    rintro e w2 ⟨hb2, lg, lv, rfl, ht⟩
    rw [SC.out.2] at ht
    have TC : Hid (Calls _ _ _ _ _) := ht
    clear ht hb2
    go_wp2_with fail
    refine TC.out.mono ?_
    rintro e w3 ⟨rfl, hb3⟩
    have B3 : Hid (Below w1.heap.size w1 w3) := hb3
    clear hb3
    go_wp2
    go_ret2
    exact ⟨rfl, B3.out⟩
  · have hc : cnt9 kind a b n xs = (0, ref9 kind a b n xs) := by unfold cnt9; rw [if_neg h0]
    rw [hc]
    have q : (ref9 kind a b n xs == 0) = false := by rw [beq_eq_false_iff_ne]; exact h0
    obtain ⟨r, HT⟩ : ∃ r, Hid (ref9 kind a b n xs = r) := ⟨_, rfl⟩
    rw [HT.out] at RC q ⊢
    obtain ⟨va, vc, rfl, _⟩ := hR
    clear h0 hc
    go_enter Tryd.func48, Tryd.ntmps48
    go_wp2_with fail
    refine RC.out.mono ?_
    rintro e w1 ⟨rfl, rfl⟩
    go_wp2
    go_ret2
    exact ⟨rfl, Below.refl _ _⟩
end Go.Proofs.YthpfgdhmpeadeaaDoor.cn

namespace Go.Proofs.YthpfgdhmpeadeaaDoor.ti
open Go.RowKit Go.PlainAid
open Go.Proofs.YthpfgdhmpeadeaaDoor.ca Go.Proofs.YthpfgdhmpeadeaaDoor.cp Go.Proofs.YthpfgdhmpeadeaaDoor.mi
set_option linter.unusedVariables false

theorem info_parts {t : TypeId} {z : Value} {n b : Nat} (h : (Tryd.prog.info? t).map (fun i => (i.zero, i.size, i.bytes)) = some (some z, n, b)) : ∃ i, Tryd.prog.info? t = some i ∧ i.zero = some z ∧ i.size = n ∧ i.bytes = b := by
  obtain ⟨i, hi, he⟩ := Option.map_eq_some_iff.1 h
  injection he with e1 e2
  injection e2 with e2 e3
  exact ⟨i, hi, e1, e2, e3⟩
theorem hiE : (Tryd.prog.info? 3).map (fun i => (i.zero, i.size, i.bytes)) = some (some (.int .i64 0), 1, 8) := by kernel_rfl
theorem own_form {w : World} {B e s n : Nat} {v : Value} {xs : List Value} (h : w.ownsRow B e s v n xs) : ∃ a c, v = .slice a n c := by
  rcases h.2 with ⟨h, h2⟩ | ⟨g, cap, cur, h, _⟩
  · exact ⟨none, 0, by rw [h, h2]⟩
  · exact ⟨_, _, h⟩
theorem ones (hs : List Int) : ∀ u ∈ hs.map (Value.int .i64), u.oneCell' = true := by
  intro u hu
  obtain ⟨x, _, rfl⟩ := List.mem_map.1 hu
  rfl
theorem new_one (W : World) (u : Value) (t : TypeId) : ∀ (j : Nat) (x : Value), [u][j]? = some x → (W.alloc (.cells #[u] t)).cell? (Addr.add ⟨W.heap.size, 0, none⟩ j) = some x := by
  intro j x hx
  rw [show (Addr.add ⟨W.heap.size, 0, none⟩ j) = ⟨W.heap.size, j, none⟩ by cases j <;> simp [Addr.add], World.cell?_alloc_at _ _ _ _ rfl]
  simpa using hx
-- a list's twin, with a mark behind it
def Tw (w : World) (B g n cp : Nat) (xs : List Int) : Prop := w.ownsRow B 3 1 (.slice (some ⟨g, 0, none⟩) (n + 1) cp) (n + 1) (xs.map (Value.int .i64) ++ [(Value.int .i64 (-7))])
theorem Tw.later {w w' : World} {B g n cp : Nat} {xs : List Int} (h : Tw w B g n cp xs) (hb : Below w.heap.size w w') : Tw w' B g n cp xs := own_later h hb
theorem Tw.cell {w : World} {B g n cp : Nat} {xs : List Int} (h : Tw w B g n cp xs) (hn : xs.length = n) : (∀ i, i < n → w.cell? ⟨g, i, none⟩ = some (Value.int .i64 (xs.getD i 0))) ∧ w.cell? ⟨g, n, none⟩ = some (Value.int .i64 (-7)) ∧ n + 1 ≤ cp := by
  refine ⟨fun i hi => ?_, ?_, ?_⟩
  · rw [h.cellAt i (by omega), List.getElem?_append_left (by rw [List.length_map]; omega), List.getElem?_map, List.getElem?_eq_getElem (by omega), List.getD_eq_getElem?_getD, List.getElem?_eq_getElem (by omega)]
    rfl
  · rw [h.cellAt n (by omega), List.getElem?_append_right (by rw [List.length_map]; omega), List.length_map, hn, Nat.sub_self]
    rfl
  · rcases h.2 with ⟨e, _⟩ | ⟨g', cap', cur, e, _, _, hc, _⟩
    · cases e
    · injection e with _ _ e3; omega
theorem Tw.reads {w : World} {B g n cp : Nat} {xs : List Int} (h : Tw w B g n cp xs) (hn : xs.length = n) : ReadsI w (.slice (some ⟨g, 0, none⟩) n cp) xs := by
  obtain ⟨h1, h2, h3⟩ := h.cell hn
  refine ⟨_, cp, by rw [hn], by omega, .inr ⟨g, 0, rfl, fun i hi => ?_⟩⟩
  rw [Nat.zero_add]
  exact h1 i (by omega)
end Go.Proofs.YthpfgdhmpeadeaaDoor.ti
