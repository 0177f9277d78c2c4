import Derived.Test.YtgbachojkbfeoaaDoorPi
import Derived.Test.YtgbachojkbfeoaaDoorFt
namespace Go.Proofs.YtgbachojkbfeoaaDoor.pj
open Go.RowKit Go.PlainAid
open Go.Proofs.YtgbachojkbfeoaaDoor.pl Go.Proofs.YtgbachojkbfeoaaDoor.pa Go.Proofs.YtgbachojkbfeoaaDoor.pb Go.Proofs.YtgbachojkbfeoaaDoor.pc Go.Proofs.YtgbachojkbfeoaaDoor.pd Go.Proofs.YtgbachojkbfeoaaDoor.pe Go.Proofs.YtgbachojkbfeoaaDoor.pf Go.Proofs.YtgbachojkbfeoaaDoor.pg Go.Proofs.YtgbachojkbfeoaaDoor.ph Go.Proofs.YtgbachojkbfeoaaDoor.pi Go.Proofs.YtgbachojkbfeoaaDoor.ft
set_option linter.unusedVariables false

def sha (s : ByteArray) : ByteArray := shaF kF v0 s
theorem sha_size (s : ByteArray) : (sha s).size = 32 := shaF_size _ _ _

-- the two tables of package sha
structure Tab (w : World) : Prop where
  st : ST w v0
  kt : KT w kF
theorem Tab.of {w : World} (h : St8 w 0 ∧ K64 w 2) : Tab w := ⟨h.1, h.2⟩
theorem Tab.big {w : World} (h : Tab w) : 3 ≤ w.heap.size := h.kt.lt
theorem Tab.below {w w' : World} {B : Nat} (h : Tab w) (b : Below B w w') (hB : 3 ≤ B) : Tab w' := ⟨st_below h.st b (by omega), kt_below h.kt b (by omega)⟩
theorem Tab.down {w w' : World} (h : Tab w) (b : Below w.heap.size w w') : Tab w' := h.below b h.big
theorem Tab.keeps {w w' : World} {k : Nat} (h : Tab w) (b : Keeps k w w') (hk : 3 ≤ k) : Tab w' := ⟨st_keep h.st b hk, h.kt.keep b hk⟩
abbrev HA (w : World) (h : Nat) (t : ByteArray) : Prop := HashAt kF v0 w h t

theorem ok0 : Hid v0.ok := v0_ok
theorem Sum (s : ByteArray) (w : World) (hs : s.size ≤ 1125899906842624) (T : Hid (Tab w)) :
    Calls Tryd.prog 13 #[.string s] w fun e w' => e = .returned (.string (sha s)) ∧ Below w.heap.size w w' := sum kF v0 s.size s w ok0 hs rfl T.out.st T.out.kt T.out.big
theorem Cut (s : ByteArray) (m : Int) (w : World) (hs : s.size ≤ 1125899906842624) (T : Hid (Tab w)) :
    Calls Tryd.prog 14 #[.string s, .int .i64 m] w fun e w' => e = .returned (.string ((sha s).extract 0 (wid m))) ∧ Below w.heap.size w w' := cut kF v0 s.size s m w ok0 hs rfl T.out.st T.out.kt T.out.big

theorem begins (s : ByteArray) (m : Int) (hs : s.size ≤ 140737488351232) (w : World) (tabs : St8 w 0 ∧ K64 w 2) :
    Calls Tryd.prog 4 #[.string s, .int .i64 m] w fun e w' => e = .returned (.bool true) ∧ Below w.heap.size w w' := by
  have T : Hid (Tab w) := Tab.of tabs
  clear tabs
  have C1 : Hid (Calls _ _ _ _ _) := Sum s w (by omega) T
  have C2 : Hid (∀ w', Tab w' → Calls _ _ _ _ _) := fun w' t => Cut s m w' (by omega) t
  have hx := sha_size s
  generalize sha s = x at *
  have hyx : (x.extract 0 (wid m)).size = wid m := by rw [ByteArray.size_extract, hx]; have := wid_le m; omega
  have hwl := wid_le m
  have hcase : (m < 1 ∨ 32 < m) ∧ wid m = 32 ∨ ¬ (m < 1 ∨ 32 < m) ∧ m = (wid m : Int) := by
    by_cases h : m < 1 ∨ 32 < m
    · exact .inl ⟨h, by unfold wid; rw [if_pos h]⟩
    · refine .inr ⟨h, ?_⟩; unfold wid; rw [if_neg h]; omega
  generalize wid m = k at *
  obtain ⟨y, hy⟩ : ∃ y, x.extract 0 k = y := ⟨_, rfl⟩
  rw [hy] at hyx C2
  have hk : (k : Int) ≤ 32 := by omega
  have tail : ∀ d1 d2 : Bool, decide (m < 1) = d1 → (d1 = false → decide (32 < m) = d2) → ((d1 || d2) = true → k = 32) → ((d1 || d2) = false → m = (k : Int)) →
      Calls Tryd.prog 4 #[.string s, .int .i64 m] w fun e w' => e = .returned (.bool true) ∧ Below w.heap.size w w' := by
    intro d1 d2 e1 e2 e3 e4
    cases d1 with
    | true =>
      obtain rfl := e3 rfl
      clear e2 e3 e4 hcase
      go_enter Tryd.func4, Tryd.ntmps4
      go_wp2_with fail
      refine C1.out.mono ?_
      rintro e w1 ⟨rfl, hb1⟩
      have HB1 : Hid (Below _ _ _) := hb1
      clear hb1
      go_wp2_with fail
      refine (C2.out _ (T.out.down HB1.out)).mono ?_
      rintro e w2 ⟨rfl, hb2⟩
      have HB2 : Hid (Below w.heap.size w w2) := HB1.out.trans (hb2.mono HB1.out.size)
      clear hb2
      go_wp2
      go_ret
      exact ⟨rfl, HB2.out⟩
    | false =>
      have e2' := e2 rfl
      cases d2 with
      | true =>
        obtain rfl := e3 rfl
        clear e2 e3 e4 hcase
        go_enter Tryd.func4, Tryd.ntmps4
        go_wp2_with fail
        refine C1.out.mono ?_
        rintro e w1 ⟨rfl, hb1⟩
        have HB1 : Hid (Below _ _ _) := hb1
        clear hb1
        go_wp2_with fail
        refine (C2.out _ (T.out.down HB1.out)).mono ?_
        rintro e w2 ⟨rfl, hb2⟩
        have HB2 : Hid (Below w.heap.size w w2) := HB1.out.trans (hb2.mono HB1.out.size)
        clear hb2
        go_wp2
        go_ret
        exact ⟨rfl, HB2.out⟩
      | false =>
        obtain rfl := e4 rfl
        clear e2 e3 e4 hcase
        go_enter Tryd.func4, Tryd.ntmps4
        go_wp2_with fail
        refine C1.out.mono ?_
        rintro e w1 ⟨rfl, hb1⟩
        have HB1 : Hid (Below _ _ _) := hb1
        clear hb1
        go_wp2_with fail
        refine (C2.out _ (T.out.down HB1.out)).mono ?_
        rintro e w2 ⟨rfl, hb2⟩
        have HB2 : Hid (Below w.heap.size w w2) := HB1.out.trans (hb2.mono HB1.out.size)
        clear hb2
        go_wp2
        go_ret
        exact ⟨rfl, HB2.out⟩
  refine tail (decide (m < 1)) (decide (32 < m)) rfl (fun _ => rfl) (fun h => ?_) (fun h => ?_)
  · rcases hcase with h1 | h1
    · exact h1.2
    · simp at h; omega
  · rcases hcase with h1 | h1
    · simp at h; omega
    · exact h1.2
end Go.Proofs.YtgbachojkbfeoaaDoor.pj
