import Derived.Test.YtgbachojkbfeoaaDoorRe
import Derived.Test.YtgbachojkbfeoaaDoorPj
namespace Go.Proofs.YtgbachojkbfeoaaDoor.rf
open Go.RowKit Go.PlainAid
open Go.Proofs.YtgbachojkbfeoaaDoor.pl Go.Proofs.YtgbachojkbfeoaaDoor.pc Go.Proofs.YtgbachojkbfeoaaDoor.ph Go.Proofs.YtgbachojkbfeoaaDoor.pi Go.Proofs.YtgbachojkbfeoaaDoor.ft Go.Proofs.YtgbachojkbfeoaaDoor.pj Go.Proofs.YtgbachojkbfeoaaDoor.re
set_option linter.unusedVariables false

structure Tab4 (w : World) : Prop where
  t : Tab w
  ft : FT w v0
  tt : TT w kF
theorem Tab4.of {w : World} (h : St8 w 0 ∧ K64 w 2 ∧ St8 w 1 ∧ K64 w 3) : Tab4 w := ⟨⟨h.1, h.2.1⟩, h.2.2.1, h.2.2.2⟩
theorem Tab4.big {w : World} (h : Tab4 w) : 4 ≤ w.heap.size := tt_lt h.tt
theorem Tab4.below {w w' : World} {B : Nat} (h : Tab4 w) (b : Below B w w') (hB : 4 ≤ B) : Tab4 w' := ⟨h.t.below b (by omega), ft_below h.ft b (by omega), tt_below h.tt b (by omega)⟩
theorem Tab4.down {w w' : World} (h : Tab4 w) (b : Below w.heap.size w w') : Tab4 w' := h.below b h.big

theorem RSum (s : ByteArray) (w : World) (hs : s.size ≤ 140737488351232) (T : Tab4 w) :
    Calls Tryd.prog 18 #[.string s] w fun e w' => e = .returned (.string (sha s)) ∧ Below w.heap.size w w' := rsum kF v0 s w v0_ok hs T.ft T.tt

theorem width (m : Int) (w : World) : Calls Tryd.prog 26 #[.int .i64 m] w fun e w' => e = .returned (.int .i64 (wid m)) ∧ w' = w := by
  by_cases h1 : m < 1
  · have d1 : decide (m < 1) = true := decide_eq_true h1
    rw [show wid m = 32 by unfold wid; rw [if_pos (.inl h1)]]
    clear h1
    go_enter Tryd.func26, Tryd.ntmps26
    go_wp2
    go_ret
    exact ⟨rfl, rfl⟩
  · have d1 : decide (m < 1) = false := decide_eq_false h1
    by_cases h2 : 32 < m
    · have d2 : decide (32 < m) = true := decide_eq_true h2
      rw [show wid m = 32 by unfold wid; rw [if_pos (.inr h2)]]
      clear h1 h2
      go_enter Tryd.func26, Tryd.ntmps26
      go_wp2
      go_ret
      exact ⟨rfl, rfl⟩
    · have d2 : decide (32 < m) = false := decide_eq_false h2
      obtain ⟨k, rfl⟩ := Int.eq_ofNat_of_zero_le (show 0 ≤ m by omega)
      rw [show wid (k : Int) = k by unfold wid; rw [if_neg (fun h => h.elim h1 h2)]; omega]
      clear h1 h2
      go_enter Tryd.func26, Tryd.ntmps26
      go_wp2
      go_ret
      exact ⟨rfl, rfl⟩

theorem rcut_of (x s : ByteArray) (m : Int) (w : World) (hx : x.size = 32) (hsum : Calls Tryd.prog 18 #[.string s] w fun e w' => e = .returned (.string x) ∧ Below w.heap.size w w') :
    Calls Tryd.prog 19 #[.string s, .int .i64 m] w fun e w' => e = .returned (.string (x.extract 0 (wid m))) ∧ Below w.heap.size w w' := by
  have HSUM : Hid (Calls _ _ _ _ _) := hsum
  have hw := wid_le m
  have W : Hid (∀ w', Calls _ _ _ _ _) := width m
  clear hsum
  generalize wid m = k at *
  have hk : (k : Int) ≤ 32 := by omega
  go_enter Tryd.func19, Tryd.ntmps19
  go_wp2_with fail
  refine HSUM.out.mono ?_
  rintro e w1 ⟨rfl, hb1⟩
  have HB1 : Hid (Below _ _ _) := hb1
  clear hb1
  go_wp2_with fail
  refine (W.out _).mono ?_
  rintro e w2 ⟨rfl, rfl⟩
  go_wp2
  go_ret
  exact ⟨rfl, HB1.out⟩

theorem shasum (s : ByteArray) (hs : s.size ≤ 140737488351232) (w : World) (tabs : St8 w 0 ∧ K64 w 2 ∧ St8 w 1 ∧ K64 w 3) :
    Calls Tryd.prog 7 #[.string s] w fun e w' => e = .returned (.bool true) ∧ Below w.heap.size w w' := by
  have T : Hid (Tab4 w) := Tab4.of tabs
  clear tabs
  have C1 : Hid (∀ W, Tab4 W → Calls _ _ _ _ _) := fun W t => Sum s W (by omega) t.t
  have C2 : Hid (∀ W, Tab4 W → Calls _ _ _ _ _) := fun W t => RSum s W hs t
  generalize sha s = x at *
  go_enter Tryd.func7, Tryd.ntmps7
  go_wp2_with fail
  refine (C1.out _ T.out).mono ?_
  rintro e w1 ⟨rfl, hb1⟩
  have HB1 : Hid (Below w.heap.size w w1) := hb1
  clear hb1
  go_wp2_with fail
  refine (C2.out _ (T.out.down HB1.out)).mono ?_
  rintro e w2 ⟨rfl, hb2⟩
  have HB2 : Hid (Below w.heap.size w w2) := HB1.out.trans (hb2.mono HB1.out.size)
  clear hb2
  go_wp2
  go_ret
  exact ⟨rfl, HB2.out⟩

theorem shacut (s : ByteArray) (m : Int) (hs : s.size ≤ 140737488351232) (w : World) (tabs : St8 w 0 ∧ K64 w 2 ∧ St8 w 1 ∧ K64 w 3) :
    Calls Tryd.prog 8 #[.string s, .int .i64 m] w fun e w' => e = .returned (.bool true) ∧ Below w.heap.size w w' := by
  have T : Hid (Tab4 w) := Tab4.of tabs
  clear tabs
  have C1 : Hid (∀ W, Tab4 W → Calls _ _ _ _ _) := fun W t => Cut s m W (by omega) t.t
  have C2 : Hid (∀ W, Tab4 W → Calls _ _ _ _ _) := fun W t => rcut_of (sha s) s m W (sha_size s) (RSum s W hs t)
  generalize (sha s).extract 0 (wid m) = x at *
  go_enter Tryd.func8, Tryd.ntmps8
  go_wp2_with fail
  refine (C1.out _ T.out).mono ?_
  rintro e w1 ⟨rfl, hb1⟩
  have HB1 : Hid (Below w.heap.size w w1) := hb1
  clear hb1
  go_wp2_with fail
  refine (C2.out _ (T.out.down HB1.out)).mono ?_
  rintro e w2 ⟨rfl, hb2⟩
  have HB2 : Hid (Below w.heap.size w w2) := HB1.out.trans (hb2.mono HB1.out.size)
  clear hb2
  go_wp2
  go_ret
  exact ⟨rfl, HB2.out⟩
end Go.Proofs.YtgbachojkbfeoaaDoor.rf
