import Derived.Test.YtgkhnjmbmbebiaaBa
import Derived.Handy
namespace Go.Proofs.Ytgkhnjmbmbebiaa.bb
open Go.RowKit Go.PlainAid
open Go.Proofs.Ytgkhnjmbmbebiaa.ca Go.Proofs.Ytgkhnjmbmbebiaa.cb Go.Proofs.Ytgkhnjmbmbebiaa.cp Go.Proofs.Ytgkhnjmbmbebiaa.ga Go.Proofs.Ytgkhnjmbmbebiaa.aa Go.Proofs.Ytgkhnjmbmbebiaa.ba
set_option linter.unusedVariables false

theorem three_cells (w : World) (o : Obj) (x y x' y' : Value) (t t' : TypeId) :
    (((w.alloc o).alloc (.cells #[x, y] t)).alloc (.cells #[x', y'] t')).drew.cell? ⟨w.heap.size + 1, 0, none⟩ = some x ∧ (((w.alloc o).alloc (.cells #[x, y] t)).alloc (.cells #[x', y'] t')).drew.cell? ⟨w.heap.size + 1, 1, none⟩ = some y ∧
    (((w.alloc o).alloc (.cells #[x, y] t)).alloc (.cells #[x', y'] t')).drew.cell? ⟨w.heap.size + 1 + 1, 0, none⟩ = some x' ∧ (((w.alloc o).alloc (.cells #[x, y] t)).alloc (.cells #[x', y'] t')).drew.cell? ⟨w.heap.size + 1 + 1, 1, none⟩ = some y' := by
  have s1 : (w.alloc o).heap.size = w.heap.size + 1 := by simp
  have s2 : ((w.alloc o).alloc (.cells #[x, y] t)).heap.size = w.heap.size + 1 + 1 := by simp
  have B : Below ((w.alloc o).alloc (.cells #[x, y] t)).heap.size ((w.alloc o).alloc (.cells #[x, y] t)) ((((w.alloc o).alloc (.cells #[x, y] t)).alloc (.cells #[x', y'] t')).drew) := below_dN ((Below.refl _ _).alloc (Nat.le_refl _) _) 1
  refine ⟨?_, ?_, ?_, ?_⟩
  · refine (B.cell (p := ⟨w.heap.size + 1, 0, none⟩) (by show w.heap.size + 1 < _; rw [s2]; omega)).trans ?_
    rw [← s1, World.cell?_alloc_at _ _ _ _ rfl]; rfl
  · refine (B.cell (p := ⟨w.heap.size + 1, 1, none⟩) (by show w.heap.size + 1 < _; rw [s2]; omega)).trans ?_
    rw [← s1, World.cell?_alloc_at _ _ _ _ rfl]; rfl
  · show (((w.alloc o).alloc (.cells #[x, y] t)).alloc (.cells #[x', y'] t')).cell? _ = _
    rw [← s2, World.cell?_alloc_at _ _ _ _ rfl]; rfl
  · show (((w.alloc o).alloc (.cells #[x, y] t)).alloc (.cells #[x', y'] t')).cell? _ = _
    rw [← s2, World.cell?_alloc_at _ _ _ _ rfl]; rfl
theorem halves (a b : Nat) (h : 2 ≤ b - a) (hb : b ≤ 4611686018427387904) (w : World) :
    Calls Try.prog 32 #[.agg #[.int .i64 a, .int .i64 b]] w fun e w' => e = .returned (.tuple #[pv a (a + half (b - a)), pv (a + half (b - a)) b]) ∧ Below w.heap.size w w' := by
  have C : Hid (∀ w, Calls _ _ _ _ _) := fun w => belowC (b - a) h (by omega) w
  have hh := half_lt h
  obtain ⟨k, HK⟩ : ∃ k, Hid (half (b - a) = k) := ⟨_, rfl⟩
  rw [HK.out] at C hh ⊢
  have hk : (a : Int) + k ≤ b := by omega
  have e1 : ((b - a : Nat) : Int) = (b : Int) - a := by omega
  rw [e1] at C
  have e2 : (((a + k : Nat)) : Int) = (a : Int) + k := by omega
  have hw : IntKind.i64.wrap ((a : Int) + k) = (a : Int) + k := by rw [IntKind.wrap_i64]; omega
  have G : Hid (_ ∧ _ ∧ _ ∧ _) := three_cells w (.cells #[.int .i64 a, .int .i64 b] 47) (.int .i64 a) (.int .i64 ((a : Int) + k)) (.int .i64 ((a : Int) + k)) (.int .i64 b) 47 47
  have B3 : Hid (Below w.heap.size w (((w.alloc (.cells #[.int .i64 a, .int .i64 b] 47)).alloc (.cells #[.int .i64 a, .int .i64 ((a : Int) + k)] 47)).alloc (.cells #[.int .i64 ((a : Int) + k), .int .i64 b] 47)).drew) := below_dN ((((Below.refl _ _).alloc (Nat.le_refl _) _).alloc (by simp) _).alloc (by simp; omega) _) 1
  clear hh h e1
  go_enter Try.func32, Try.ntmps32
  go_wp2_with fail
  refine (C.out _).mono ?_
  rintro e w1 ⟨rfl, hw⟩
  subst hw
  go_wp2
  go_region
  all_goals (
    go_wp2
    (try simp only [Exit.inBlock, Exit.then])
    refine bodyPost_ret (by simp [results, Try.results32, go_sem, G.out.1, G.out.2.1, G.out.2.2.1, G.out.2.2.2]; try rfl) rfl ?_
    exact ⟨by rw [pv, pv, e2], B3.out⟩)
-- the step towards a place
theorem toward (a b i : Nat) (h : 2 ≤ b - a) (hb : b ≤ 4611686018427387904) (w : World) :
    Calls Try.prog 36 #[.agg #[.int .i64 a, .int .i64 b], .int .i64 i] w fun e w' => e = .returned (.int .i64 (if a ≤ i ∧ i < a + half (b - a) then 2 else 3)) ∧ Below w.heap.size w w' := by
  have C : Hid (∀ w, Calls _ _ _ _ _) := fun w => halves a b h hb w
  obtain ⟨k, HK⟩ : ∃ k, Hid (a + half (b - a) = k) := ⟨_, rfl⟩
  have hc : ∀ w, Calls Try.prog 34 #[.agg #[.int .i64 a, .int .i64 (k : Nat)], .int .i64 i] w fun e w' => e = .returned (.bool (decide (a ≤ i ∧ i < k))) ∧ Below w.heap.size w w' := fun w => has a k i w
  rw [HK.out] at C ⊢
  obtain ⟨t, HT⟩ : ∃ t, Hid (decide (a ≤ i ∧ i < k) = t) := ⟨_, rfl⟩
  rw [HT.out] at hc
  have H : Hid (∀ w, Calls _ _ _ _ _) := hc
  have HR : Hid ((if a ≤ i ∧ i < k then (2 : Int) else 3) = if t then 2 else 3) := by
    show _ = _
    rw [← HT.out]
    by_cases g : a ≤ i ∧ i < k <;> simp [g]
  rw [HR.out]
  unfold pv at C
  have B0 : Hid (Below w.heap.size w (w.alloc (.cells #[.int .i64 a, .int .i64 b] 47))) := (Below.refl _ _).alloc (Nat.le_refl _) _
  clear hc h hb HR
  go_enter Try.func36, Try.ntmps36
  go_wp2_with fail
  refine (C.out _).mono ?_
  rintro e w1 ⟨rfl, hb⟩
  have B1 : Hid (Below w.heap.size w w1) := over B0.out hb
  clear hb
  go_wp2_with fail
  refine (H.out _).mono ?_
  rintro e w2 ⟨rfl, hb⟩
  have B2 : Hid (Below w.heap.size w w2) := over ((B1.out.alloc B1.out.size _).alloc (by have := B1.out.size; simp; omega) _) hb
  clear hb
  cases t
  · go_wp2
    go_ret
    exact ⟨rfl, B2.out⟩
  · go_wp2
    go_ret
    exact ⟨rfl, B2.out⟩
end Go.Proofs.Ytgkhnjmbmbebiaa.bb
