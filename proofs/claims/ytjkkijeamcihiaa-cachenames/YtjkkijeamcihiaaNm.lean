import Derived.Test.YtjkkijeamcihiaaRk
namespace Go.Proofs.Ytjkkijeamcihiaa.nm
open Go.RowKit Go.PlainAid Go.Maps
open Go.Proofs.Ytjkkijeamcihiaa.kp Go.Proofs.Ytjkkijeamcihiaa.ra Go.Proofs.Ytjkkijeamcihiaa.rk
set_option linter.unusedVariables false
set_option linter.unusedSimpArgs false
theorem noA (w : World) : Calls Try.prog 10 #[.int .i64 4097] w fun e w' => e = .returned (.pointer none) ∧ w' = w := by
  go_enter Try.func10, Try.ntmps10
  go_wp2
  go_ret
  exact ⟨rfl, rfl⟩
theorem noB (w : World) : Calls Try.prog 11 #[.int .i64 4611686018427387904] w fun e w' => e = .returned (.pointer none) ∧ w' = w := by
  go_enter Try.func11, Try.ntmps11
  go_wp2
  go_ret
  exact ⟨rfl, rfl⟩
theorem aloneI (b o : Nat) (w : World) (u v : Value) (hu : w.cell? ⟨b, o + 2, none⟩ = some u) (hv : w.cell? ⟨b, o + 3, none⟩ = some v) (fu : w.frozen? ⟨b, o + 2, none⟩ = false) (fv : w.frozen? ⟨b, o + 3, none⟩ = false) :
    Calls Try.prog 36 #[pt ⟨b, o, none⟩] w fun e w' => e = .returned (.tuple #[]) ∧ w' = (w.setCell ⟨b, o + 2, none⟩ (pt ⟨b, o, none⟩)).setCell ⟨b, o + 3, none⟩ (pt ⟨b, o, none⟩) := by
  unfold pt
  go_enter Try.func36, Try.ntmps36
  go_wp2
  go_end0
  exact ⟨rfl, rfl⟩
theorem yesC (w : World) : Calls Try.prog 12 #[.int .i64 4096] w fun e w' => e = .returned (.pointer (some ⟨w.heap.size + 1, 0, none⟩)) ∧ Below w.heap.size w w' := by
  have hs : (w.alloc (.map #[] 0)).heap.size = w.heap.size + 1 := Array.size_push _
  obtain ⟨cs, HC⟩ : ∃ cs : Array Value, Hid (cs = #[.int .i64 4096, .map (some w.heap.size), .int .i64 0, .slice none 0 0, .pointer none, .pointer none, .int .i64 0, .int .i64 0, .int .i64 0]) := ⟨_, rfl⟩
  obtain ⟨W, HW⟩ : ∃ W, Hid ((w.alloc (.map #[] 0)).alloc (.cells cs 85) = W) := ⟨_, rfl⟩
  have c : ∀ i u, cs[i]? = some u → W.cell? ⟨w.heap.size + 1, i, none⟩ = some u := fun i u hu => by
    rw [← HW.out, ← hs, World.cell?_alloc_new]; exact hu
  have fz : ∀ i, W.frozen? ⟨w.heap.size + 1, i, none⟩ = false := fun i => by
    rw [← HW.out, ← hs]; exact World.frozen?_alloc_new _ _ _ _
  have A : Hid (Calls _ _ _ _ _) := aloneI (w.heap.size + 1) 2 W (.pointer none) (.pointer none) (c 4 _ (by rw [HC.out]; rfl)) (c 5 _ (by rw [HC.out]; rfl)) (fz 4) (fz 5)
  have B0 : Below w.heap.size w W := by rw [← HW.out]; exact ((Below.refl _ w).alloc (Nat.le_refl _) _).alloc (by rw [hs]; omega) _
  have END : Hid (Below w.heap.size w ((W.setCell ⟨w.heap.size + 1, 2 + 2, none⟩ (pt ⟨w.heap.size + 1, 2, none⟩)).setCell ⟨w.heap.size + 1, 2 + 3, none⟩ (pt ⟨w.heap.size + 1, 2, none⟩))) :=
    (B0.setCell (by show w.heap.size ≤ w.heap.size + 1; omega) _).setCell (by show w.heap.size ≤ w.heap.size + 1; omega) _
  rw [HC.out] at HW
  have hmm := @run_makeMap Try.prog
  clear c fz B0 hs HC
  unfold pt at *
  go_enter Try.func12, Try.ntmps12
  go_upto_region 4 with fail
  rw [HW.out]
  go_wp2_with (first | (go_at_call 36; refine A.out.mono ?_; rintro _ w2 ⟨rfl, h1⟩; have H2 : Hid (w2 = _) := h1; clear h1) | go_in)
  go_ret
  exact ⟨rfl, by rw [H2.out]; exact END.out⟩
theorem names_walk (w : World) : Calls Try.prog 3 #[] w fun e w' => e = .returned (.bool true) ∧ Below w.heap.size w w' := by
  have C1 : Hid (∀ w, Calls _ _ _ _ _) := fun w => newNo (-1) (.inl (by omega)) w
  have C2 : Hid (∀ w, Calls _ _ _ _ _) := fun w => newC 0 (by omega) w
  have C3 : Hid (∀ w, Calls _ _ _ _ _) := fun w => noA w
  have C4 : Hid (∀ w, Calls _ _ _ _ _) := fun w => noB w
  have C5 : Hid (∀ w, Calls _ _ _ _ _) := fun w => yesC w
  unfold pt at *
  go_enter Try.func3, Try.ntmps3
  go_upto_region 4 with (first | (go_at_call 9; refine (C1.out _).mono ?_; rintro _ wz ⟨rfl, hwz⟩; rw [hwz]; clear hwz) | (go_at_call 10; refine (C3.out _).mono ?_; rintro _ wz ⟨rfl, hwz⟩; rw [hwz]; clear hwz) | (go_at_call 11; refine (C4.out _).mono ?_; rintro _ wz ⟨rfl, hwz⟩; rw [hwz]; clear hwz) | go_in)
  go_wp2_with (first | (go_at_call 9; refine (C2.out _).mono ?_; rintro _ w1 ⟨rfl, _, hb⟩; have HB : Hid (Below _ _ _) := hb; clear hb) | (go_at_call 12; refine (C5.out _).mono ?_; rintro _ w2 ⟨rfl, hb⟩; have HB2 : Hid (Below _ _ _) := hb; clear hb) | go_in)
  go_ret
  exact ⟨rfl, ⟨HB2.out.os.trans HB.out.os, HB2.out.tape.trans HB.out.tape, HB2.out.output.trans HB.out.output, Nat.le_trans HB.out.size HB2.out.size, fun k hk => (HB2.out.block k (Nat.lt_of_lt_of_le hk HB.out.size)).trans (HB.out.block k hk)⟩⟩
end Go.Proofs.Ytjkkijeamcihiaa.nm
