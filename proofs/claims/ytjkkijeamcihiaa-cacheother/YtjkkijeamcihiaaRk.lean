import Derived.Test.YtjkkijeamcihiaaRj
import Derived.Test.YtjkkijeamcihiaaKa
import Derived.Carry
namespace Go.Proofs.Ytjkkijeamcihiaa.rk
open Go.RowKit Go.PlainAid Go.Maps
open Go.Proofs.Ytjkkijeamcihiaa.kp Go.Proofs.Ytjkkijeamcihiaa.ka Go.Proofs.Ytjkkijeamcihiaa.ra Go.Proofs.Ytjkkijeamcihiaa.rb Go.Proofs.Ytjkkijeamcihiaa.rc Go.Proofs.Ytjkkijeamcihiaa.rd Go.Proofs.Ytjkkijeamcihiaa.re Go.Proofs.Ytjkkijeamcihiaa.rf Go.Proofs.Ytjkkijeamcihiaa.rg Go.Proofs.Ytjkkijeamcihiaa.rh Go.Proofs.Ytjkkijeamcihiaa.ri Go.Proofs.Ytjkkijeamcihiaa.rj Go.Proofs.Ytjkkijeamcihiaa.sa
set_option linter.unusedVariables false
set_option linter.unusedSimpArgs false
section
variable {w w' : World}
def cells0 (m mb : Nat) : Array Value := #[.int .i64 (m : Nat), .map (some mb), .string ⟨#[]⟩, .string ⟨#[]⟩, .pointer none, .pointer none, .int .i64 0, .int .i64 0, .int .i64 0]
def newW (m : Nat) (w : World) : World := (w.alloc (.map #[] 0)).alloc (.cells (cells0 m w.heap.size) 67)
def S0 (m : Nat) : St := ⟨m, 0, 0, 0, []⟩
theorem born (m : Nat) (hm : m ≤ 4096) (w : World) : Ch (w.heap.size + 1) w.heap.size (S0 m) [] (((newW m w).setCell ⟨w.heap.size + 1, 2 + 2, none⟩ (pt ⟨w.heap.size + 1, 2, none⟩)).setCell ⟨w.heap.size + 1, 2 + 3, none⟩ (pt ⟨w.heap.size + 1, 2, none⟩)) := by
  obtain ⟨g, hg⟩ : ∃ g, g = w.heap.size + 1 := ⟨_, rfl⟩
  have hs : (w.alloc (.map #[] 0)).heap.size = g := by rw [hg]; exact Array.size_push _
  have c : ∀ i u, (cells0 m w.heap.size)[i]? = some u → (newW m w).cell? ⟨g, i, none⟩ = some u := fun i u hu => by
    unfold newW
    rw [← hs, World.cell?_alloc_new]; exact hu
  have fz : ∀ i, (newW m w).frozen? ⟨g, i, none⟩ = false := fun i => by
    unfold newW
    rw [← hs]; exact World.frozen?_alloc_new _ _ _ _
  rw [← hg]
  have F : Fx (fun a => a.block = g ∧ (a.off = 4 ∨ a.off = 5)) (newW m w) (((newW m w).setCell ⟨g, 2 + 2, none⟩ (pt ⟨g, 2, none⟩)).setCell ⟨g, 2 + 3, none⟩ (pt ⟨g, 2, none⟩)) := (Fx.set _ _ _ ⟨rfl, .inl rfl⟩).trans (Fx.set _ _ _ ⟨rfl, .inr rfl⟩)
  have cc : ∀ i u, i ≠ 4 → i ≠ 5 → (cells0 m w.heap.size)[i]? = some u → (((newW m w).setCell ⟨g, 2 + 2, none⟩ (pt ⟨g, 2, none⟩)).setCell ⟨g, 2 + 3, none⟩ (pt ⟨g, 2, none⟩)).cell? ⟨g, i, none⟩ = some u := fun i u h4 h5 hu => (F.cell _ (fun e => by rcases e.2 with e | e; exact h4 e; exact h5 e)).trans (c i u hu)
  have c4 := c 4 _ rfl
  have c5 := c 5 _ rfl
  refine ⟨cc 0 _ (by decide) (by decide) rfl, cc 1 _ (by decide) (by decide) rfl, cc 6 _ (by decide) (by decide) rfl, cc 7 _ (by decide) (by decide) rfl, cc 8 _ (by decide) (by decide) rfl, fun i => (F.frz _).trans (fz i), ⟨List.nodup_nil, by simp, ?_, ?_, ?_, ?_⟩, fun x hx => (by cases hx), fun x hx => (by cases hx), fun x hx => (by cases hx), ?_, rfl, ⟨List.nodup_nil, Nat.zero_le _, hm⟩, fun x hx => (by cases hx)⟩
  · intro j hj
    have : j = 0 := by simpa using hj
    subst this
    show (((newW m w).setCell ⟨g, 4, none⟩ (pt ⟨g, 2, none⟩)).setCell ⟨g, 5, none⟩ (pt ⟨g, 2, none⟩)).cell? ⟨g, 4, none⟩ = some (pt ⟨g, 2, none⟩)
    rw [World.cell?_setCell_other _ _ _ _ (by simp), World.cell?_setCell_same _ _ _ c4]
  · intro j hj
    have : j = 0 := by simpa using hj
    subst this
    show (((newW m w).setCell ⟨g, 4, none⟩ (pt ⟨g, 2, none⟩)).setCell ⟨g, 5, none⟩ (pt ⟨g, 2, none⟩)).cell? ⟨g, 5, none⟩ = some (pt ⟨g, 2, none⟩)
    refine World.cell?_setCell_same _ _ _ (u := .pointer none) ?_
    rw [World.cell?_setCell_other _ _ _ _ (by simp)]
    exact c5
  · intro j hj
    have : j = 0 := by simpa using hj
    subst this
    exact (F.frz _).trans (fz 4)
  · intro j hj
    have : j = 0 := by simpa using hj
    subst this
    exact (F.frz _).trans (fz 5)
  · refine mq_empty (clock := 0) ((F.blk _ (fun a e h1 => ?_)).trans ?_)
    · have := e.symm.trans h1.1
      omega
    · unfold newW
      rw [show ((w.alloc (.map #[] 0)).alloc (.cells (cells0 m w.heap.size) 67)).heap[w.heap.size]? = (w.alloc (.map #[] 0)).heap[w.heap.size]? from ((Below.refl _ (w.alloc (.map #[] 0))).alloc (Nat.le_refl _) _).block _ (by rw [hs]; omega)]
      exact heap_alloc_new w _
theorem newC (m : Nat) (hm : m ≤ 4096) (w : World) : Calls Try.prog 9 #[.int .i64 (m : Nat)] w fun e w' => e = .returned (pt ⟨w.heap.size + 1, 0, none⟩) ∧ Ch (w.heap.size + 1) w.heap.size (S0 m) [] w' ∧ Below w.heap.size w w' := by
  obtain ⟨g, HG⟩ : ∃ g, Hid (g = w.heap.size + 1) := ⟨_, rfl⟩
  have hs : (w.alloc (.map #[] 0)).heap.size = w.heap.size + 1 := Array.size_push _
  have c : ∀ i u, (cells0 m w.heap.size)[i]? = some u → (newW m w).cell? ⟨w.heap.size + 1, i, none⟩ = some u := fun i u hu => by
    unfold newW
    rw [← hs, World.cell?_alloc_new]; exact hu
  have fz : ∀ i, (newW m w).frozen? ⟨w.heap.size + 1, i, none⟩ = false := fun i => by
    unfold newW
    rw [← hs]; exact World.frozen?_alloc_new _ _ _ _
  have A : Hid (Calls _ _ _ _ _) := aloneC (w.heap.size + 1) 2 (newW m w) _ _ (c 4 _ rfl) (c 5 _ rfl) (fz 4) (fz 5)
  have B0 : Below w.heap.size w (newW m w) := ((Below.refl _ w).alloc (Nat.le_refl _) _).alloc (by rw [hs]; omega) _
  have END : Hid (Ch (w.heap.size + 1) w.heap.size (S0 m) [] (((newW m w).setCell ⟨w.heap.size + 1, 2 + 2, none⟩ (pt ⟨w.heap.size + 1, 2, none⟩)).setCell ⟨w.heap.size + 1, 2 + 3, none⟩ (pt ⟨w.heap.size + 1, 2, none⟩)) ∧ Below w.heap.size w (((newW m w).setCell ⟨w.heap.size + 1, 2 + 2, none⟩ (pt ⟨w.heap.size + 1, 2, none⟩)).setCell ⟨w.heap.size + 1, 2 + 3, none⟩ (pt ⟨w.heap.size + 1, 2, none⟩))) :=
    ⟨born m hm w, (B0.setCell (by show w.heap.size ≤ w.heap.size + 1; omega) _).setCell (by show w.heap.size ≤ w.heap.size + 1; omega) _⟩
  clear c fz B0 HG hs
  have hm' : (m : Int) ≤ 4096 := by omega
  have hmm := @run_makeMap Try.prog
  unfold newW cells0 pt at *
  go_enter Try.func9, Try.ntmps9
  go_wp2_with (first | (go_at_call 33; refine A.out.mono ?_; rintro _ w2 ⟨rfl, h1⟩; have H2 : Hid (w2 = _) := h1; clear h1) | go_in)
  go_ret
  exact ⟨rfl, by rw [H2.out]; exact END.out⟩
theorem newNo (m : Int) (hm : m < 0 ∨ 4096 < m) (w : World) : Calls Try.prog 9 #[.int .i64 m] w fun e w' => e = .returned (.pointer none) ∧ w' = w := by
  by_cases h0 : m < 0
  · clear hm
    go_enter Try.func9, Try.ntmps9
    go_wp2
    go_ret
    exact ⟨rfl, rfl⟩
  · have h1 : (4096 : Int) < m := by omega
    have h2 : decide (m < 0) = false := by simp; omega
    clear hm h0
    go_enter Try.func9, Try.ntmps9
    go_wp2
    go_ret
    exact ⟨rfl, rfl⟩
end
end Go.Proofs.Ytjkkijeamcihiaa.rk
