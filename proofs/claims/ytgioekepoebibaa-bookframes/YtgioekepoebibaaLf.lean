import Derived.Test.YtgioekepoebibaaDb
import Derived.Test.YtgioekepoebibaaDc
import Derived.Test.YtgioekepoebibaaQg
import Derived.Test.YtgioekepoebibaaQh
import Derived.OpenShut
namespace Go.Proofs.Ytgioekepoebibaa.lf
open Go.RowKit Go.PlainAid
open Go.Proofs.Ytgioekepoebibaa.qa Go.Proofs.Ytgioekepoebibaa.qb Go.Proofs.Ytgioekepoebibaa.qg Go.Proofs.Ytgioekepoebibaa.qh Go.Proofs.Ytgioekepoebibaa.da Go.Proofs.Ytgioekepoebibaa.db Go.Proofs.Ytgioekepoebibaa.dc
set_option linter.unusedVariables false
set_option linter.unusedSimpArgs false
theorem key_both (s k n : Int) (h1 : s ≤ 9223372036854775807) (n1 : n ≤ 9223372036854775807) : ∃ (t : ByteArray) (e : Int),
    (∀ w, Calls Try.prog 9 #[.int .i64 s, .int .i64 k, .int .i64 n] w fun x w' => x = .returned (.tuple #[.string t, .int .i64 e]) ∧ Below w.heap.size w w') ∧
    (∀ w, Calls Try.prog 15 #[.int .i64 s, .int .i64 k, .int .i64 n] w fun x w' => x = .returned (.tuple #[.string t, .int .i64 e]) ∧ Below w.heap.size w w') := by
  by_cases h : 0 ≤ s ∧ 1 ≤ k ∧ k ≤ 255 ∧ 0 ≤ n
  · exact ⟨keyT s k n, 0, fun w => keyC s k n w h.1 h1 h.2.1 h.2.2.1 h.2.2.2 n1, fun w => keyR s k n w h.1 h1 h.2.1 h.2.2.1 h.2.2.2 n1⟩
  · exact ⟨ByteArray.empty, 10, fun w => (keyNo s k n w h).mono (by rintro _ _ ⟨rfl, hw⟩; exact ⟨rfl, by rw [hw]; exact Below.refl _ _⟩), fun w => (keyNoR s k n w h).mono (by rintro _ _ ⟨rfl, hw⟩; exact ⟨rfl, by rw [hw]; exact Below.refl _ _⟩)⟩
theorem frame_both (k n : Int) (p : ByteArray) (n1 : n ≤ 9223372036854775807) : ∃ (t : ByteArray) (e : Int),
    (∀ w, Calls Try.prog 13 #[.int .i64 k, .int .i64 n, .string p] w fun x w' => x = .returned (.tuple #[.string t, .int .i64 e]) ∧ Below w.heap.size w w') ∧
    (∀ w, Calls Try.prog 16 #[.int .i64 k, .int .i64 n, .string p] w fun x w' => x = .returned (.tuple #[.string t, .int .i64 e]) ∧ Below w.heap.size w w') := by
  by_cases h : 1 ≤ k ∧ k ≤ 255 ∧ 0 ≤ n
  · by_cases hp : p.size ≤ 524288
    · exact ⟨frameT k n p, 0, fun w => frameC k n p w h.1 h.2.1 h.2.2 n1 hp, fun w => frameR k n p w h.1 h.2.1 h.2.2 n1 hp⟩
    · exact ⟨ByteArray.empty, 121, fun w => (frameBig k n p w h.1 h.2.1 h.2.2 (by omega)).mono (by rintro _ _ ⟨rfl, hw⟩; exact ⟨rfl, by rw [hw]; exact Below.refl _ _⟩), fun w => (frameBigR k n p w h.1 h.2.1 h.2.2 (by omega)).mono (by rintro _ _ ⟨rfl, hw⟩; exact ⟨rfl, by rw [hw]; exact Below.refl _ _⟩)⟩
  · exact ⟨ByteArray.empty, 10, fun w => (frameNo k n p w h).mono (by rintro _ _ ⟨rfl, hw⟩; exact ⟨rfl, by rw [hw]; exact Below.refl _ _⟩), fun w => (frameNoR k n p w h).mono (by rintro _ _ ⟨rfl, hw⟩; exact ⟨rfl, by rw [hw]; exact Below.refl _ _⟩)⟩
set_option maxRecDepth 100000 in
set_option maxHeartbeats 3200000 in
theorem frames_walk (s : Int) (ws : (Lit.int .i64 s).wf = true) (k : Int) (wk : (Lit.int .i64 k).wf = true) (n : Int) (wn : (Lit.int .i64 n).wf = true) (p : ByteArray) (zp : p.size ≤ 140737488351232) (b : ByteArray) (zb : b.size ≤ 140737488351232) {W : World} :
    Calls Try.prog 6 #[.int .i64 s, .int .i64 k, .int .i64 n, .string p, .string b] W fun e w' => e = .returned (.bool true) ∧ Below W.heap.size W w' := by
  obtain ⟨t1, e1, c1, d1⟩ := key_both s k n (bounds_i64 ws).2 (bounds_i64 wn).2
  obtain ⟨t2, e2, c2, d2⟩ := frame_both k n p (bounds_i64 wn).2
  have C1 : Hid (∀ w, Calls _ _ _ _ _) := c1
  have D1 : Hid (∀ w, Calls _ _ _ _ _) := d1
  have C2 : Hid (∀ w, Calls _ _ _ _ _) := c2
  have D2 : Hid (∀ w, Calls _ _ _ _ _) := d2
  have C3 : Hid (∀ w, Calls _ _ _ _ _) := fun w => parseC b w (by omega)
  have D3 : Hid (∀ w, Calls _ _ _ _ _) := fun w => parseR b w (by omega)
  clear c1 d1 c2 d2 ws wk wn
  generalize parseK b = pk at *
  generalize parseN b = pn at *
  generalize parseP b = pp at *
  generalize parseE b = pe at *
  have g1 : (t1.toList == t1.toList) = true := by simp
  have g2 : (t2.toList == t2.toList) = true := by simp
  have g3 : (pp.toList == pp.toList) = true := by simp
  go_enter Try.func6, Try.ntmps6
  go_wp2_with fail
  refine (C1.out _).mono ?_
  rintro _ w1 ⟨rfl, b1⟩
  go_wp2_with fail
  refine (D1.out _).mono ?_
  rintro _ w2 ⟨rfl, b2⟩
  have B2 : Hid (Below W.heap.size W w2) := over b1 b2
  clear b1 b2
  go_wp2_with fail
  refine (C2.out _).mono ?_
  rintro _ w3 ⟨rfl, b3⟩
  have B3 : Hid (Below W.heap.size W w3) := over B2.out b3
  clear b3 B2
  go_wp2_with fail
  refine (D2.out _).mono ?_
  rintro _ w4 ⟨rfl, b4⟩
  have B4 : Hid (Below W.heap.size W w4) := over B3.out b4
  clear b4 B3
  go_wp2_with fail
  refine (C3.out _).mono ?_
  rintro _ w5 ⟨rfl, b5⟩
  have B5 : Hid (Below W.heap.size W w5) := over B4.out b5
  clear b5 B4
  go_wp2_with fail
  refine (D3.out _).mono ?_
  rintro _ w6 ⟨rfl, b6⟩
  have B6 : Hid (Below W.heap.size W w6) := over B5.out b6
  clear b6 B5
  go_wp2
  go_ret
  exact ⟨rfl, B6.out⟩
end Go.Proofs.Ytgioekepoebibaa.lf
