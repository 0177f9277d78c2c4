import Derived.Test.YtnnpidjpklfogaaDoorQb
import Derived.Test.YtnnpidjpklfogaaDoorXc
namespace Go.Proofs.YtnnpidjpklfogaaDoor.qc
open Go.RowKit Go.PlainAid
open Go.Proofs.YtnnpidjpklfogaaDoor.pl Go.Proofs.YtnnpidjpklfogaaDoor.pi Go.Proofs.YtnnpidjpklfogaaDoor.pj Go.Proofs.YtnnpidjpklfogaaDoor.rf Go.Proofs.YtnnpidjpklfogaaDoor.ca Go.Proofs.YtnnpidjpklfogaaDoor.cb Go.Proofs.YtnnpidjpklfogaaDoor.cp Go.Proofs.YtnnpidjpklfogaaDoor.cs Go.Proofs.YtnnpidjpklfogaaDoor.ka Go.Proofs.YtnnpidjpklfogaaDoor.kb Go.Proofs.YtnnpidjpklfogaaDoor.kc Go.Proofs.YtnnpidjpklfogaaDoor.ga Go.Proofs.YtnnpidjpklfogaaDoor.gb Go.Proofs.YtnnpidjpklfogaaDoor.na Go.Proofs.YtnnpidjpklfogaaDoor.nb Go.Proofs.YtnnpidjpklfogaaDoor.nc Go.Proofs.YtnnpidjpklfogaaDoor.oa Go.Proofs.YtnnpidjpklfogaaDoor.ob Go.Proofs.YtnnpidjpklfogaaDoor.qa Go.Proofs.YtnnpidjpklfogaaDoor.qb Go.Proofs.YtnnpidjpklfogaaDoor.xc
set_option linter.unusedVariables false

theorem start_at {T : World → Prop} (SC : StartC T) (q : Nat) (hq : q ≤ 4611686018427387904) (w : World) (hT : T w) :
    Calls Tryd.prog 18 #[.int .i64 q] w fun e w' => (∃ a c, e = .returned (.tuple #[FV q q (.slice a 0 c), .int .i64 0]) ∧ Texts w' w.heap.size (.slice a 0 c) []) ∧ Below w.heap.size w w' := by
  refine (SC q w (i64_nat hq) hT).mono ?_
  rintro e w' ⟨⟨u, rfl, hu⟩, hb⟩
  obtain ⟨a, c, rfl⟩ := own_formS hu
  rw [if_pos ⟨by omega, by omega⟩, if_pos ⟨by omega, by omega⟩]
  exact ⟨⟨a, c, rfl, hu⟩, hb⟩
set_option maxHeartbeats 800000 in
theorem live {T : World → Prop} (later : ∀ {w w' : World}, T w → Below w.heap.size w w' → T w') (tbb : ∀ {w : World}, T w → TabB w) (SC : StartC T) (w : World) (hT : T w) :
    Calls Tryd.prog 12 #[] w fun e w' => e = .returned (.bool true) ∧ Below w.heap.size w w' := by
  have C : Hid (Calls _ _ _ _ _) := start_at SC 5 (by omega) w hT
  have Z : Hid (∀ w, TabB w → Calls _ _ _ _ _) := fun w h => zeros_yes 12 w (by omega) (by omega) h
  rw [show Lib.ctz 64 12 = 2 by decide] at Z
  have HT : Hid (T w) := hT
  have LT : Hid (∀ {w w' : World}, T w → Below w.heap.size w w' → T w') := later
  have LB : Hid (∀ {w : World}, T w → TabB w) := tbb
  clear hT later tbb
  go_enter Tryd.func12, Tryd.ntmps12
  go_wp2_with fail
  refine C.out.mono ?_
  rintro e w1 ⟨⟨a, c, rfl, hu⟩, hb⟩
  have B1 : Hid (Below w.heap.size w w1) := hb
  clear hu hb
  have B2 : Hid (Below w.heap.size w (w1.alloc (.cells #[.int .i64 5, .int .i64 5, .slice a 0 c] 25))) := B1.out.alloc B1.out.size _
  go_wp2_with fail
  refine (Z.out _ (LB.out (LT.out HT.out B2.out))).mono ?_
  rintro e w2 ⟨rfl, hw⟩
  rw [hw]
  clear hw
  go_wp2
  go_ret
  exact ⟨rfl, B2.out⟩
-- a frontier's block, whole
def Fx (w : World) (b : Nat) (lo hi : Int) (u : Value) : Prop := w.heap[b]? = some (.cells #[.int .i64 lo, .int .i64 hi, u] 25 (0, 0))
theorem Fx.lt {w : World} {b : Nat} {lo hi : Int} {u : Value} (h : Fx w b lo hi u) : b < w.heap.size := (Array.getElem?_eq_some_iff.1 h).1
theorem Fx.on {w w' : World} {b : Nat} {lo hi : Int} {u : Value} (h : Fx w b lo hi u) (hb : Below w.heap.size w w') : Fx w' b lo hi u := (hb.block _ h.lt).trans h
theorem Fx.fb {w : World} {b : Nat} {lo hi : Int} {u : Value} (h : Fx w b lo hi u) : Fb w b lo hi u :=
  ⟨by rw [cell_of_row _ _ _ _ _ _ h]; rfl, by rw [cell_of_row _ _ _ _ _ _ h]; rfl, by rw [cell_of_row _ _ _ _ _ _ h]; rfl⟩
theorem fx_new (w : World) (lo hi : Int) (u : Value) : Fx (w.alloc (.cells #[.int .i64 lo, .int .i64 hi, u] 25)) w.heap.size lo hi u := heap_alloc_new _ _
-- three cells written over
abbrev set3 (w : World) (b : Nat) (x y z : Value) : World := ((w.setCell ⟨b, 0, none⟩ x).setCell ⟨b, 1, none⟩ y).setCell ⟨b, 2, none⟩ z
theorem fx_set {w : World} {b : Nat} {lo hi : Int} {u : Value} (h : Fx w b lo hi u) (lo' hi' : Int) (u' : Value) : Fx (set3 w b (.int .i64 lo') (.int .i64 hi') u') b lo' hi' u' := by
  have h1 := heap_setCell_same _ _ 0 _ _ (.int .i64 lo') h
  have h2 := heap_setCell_same _ _ 1 _ _ (.int .i64 hi') h1
  exact heap_setCell_same _ _ 2 _ _ u' h2
theorem set3_other (w : World) (b k : Nat) (x y z : Value) (h : k ≠ b) : (set3 w b x y z).heap[k]? = w.heap[k]? := by
  unfold set3
  rw [Below.heap_setCell _ _ _ _ h, Below.heap_setCell _ _ _ _ h, Below.heap_setCell _ _ _ _ h]
theorem below_set3 {B : Nat} {w w' : World} {b : Nat} (h : Below B w w') (hb : B ≤ b) (x y z : Value) : Below B w (set3 w' b x y z) :=
  ((h.setCell (p := ⟨b, 0, none⟩) hb _).setCell (p := ⟨b, 1, none⟩) hb _).setCell (p := ⟨b, 2, none⟩) hb _
theorem own_set3 {w : World} {B e size n b : Nat} {v : Value} {xs : List Value} {lo hi : Int} {u : Value} (h : w.ownsRow B e size v n xs) (hf : Fx w b lo hi u) (hne : e ≠ 25) (x y z : Value) : (set3 w b x y z).ownsRow B e size v n xs := by
  refine ⟨h.1, ?_⟩
  rcases h.2 with hn | ⟨g, cap, cur, rfl, hg, hgg, rest⟩
  · exact .inl hn
  · refine .inr ⟨g, cap, cur, rfl, hg, ?_, rest⟩
    rw [set3_other w b g x y z ?_]
    · exact hgg
    · rintro rfl
      unfold Fx at hf
      rw [hgg] at hf
      simp only [Option.some.injEq, Obj.cells.injEq] at hf
      exact hne hf.2.1
theorem fx_set_other {w : World} {b k : Nat} {lo hi : Int} {u : Value} (h : Fx w k lo hi u) (hne : k ≠ b) (x y z : Value) : Fx (set3 w b x y z) k lo hi u := (set3_other w b k x y z hne).trans h
end Go.Proofs.YtnnpidjpklfogaaDoor.qc
