import Derived.Test.YtfbglffookacbaaGreatDoorTf
import Derived.Shelf.Abstract
namespace Go.Proofs.YtfbglffookacbaaGreatDoor.tg
open Go.RowKit Go.PlainAid
open Go.Proofs.YtfbglffookacbaaGreatDoor.ta Go.Proofs.YtfbglffookacbaaGreatDoor.tb Go.Proofs.YtfbglffookacbaaGreatDoor.tc Go.Proofs.YtfbglffookacbaaGreatDoor.td Go.Proofs.YtfbglffookacbaaGreatDoor.te Go.Proofs.YtfbglffookacbaaGreatDoor.tf
set_option linter.unusedVariables false
set_option maxRecDepth 4000

theorem flush_inv (t : Nat) (ht : 1 ≤ t) (n : Nat) : ∀ (h : Int) (c : Nat), 0 ≤ h → h < 2 ^ c → c ≤ n → 0 ≤ (flush t n h c).2.1 ∧ (flush t n h c).2.1 < 2 ^ (flush t n h c).2.2 ∧ (flush t n h c).2.2 < t ∧ c = t * (flush t n h c).1.length + (flush t n h c).2.2 ∧ In (2 ^ t) (flush t n h c).1 := by
  induction n with
  | zero => intro h c h0 h1 hc; rw [flush]; exact ⟨h0, h1, by simp; omega, by simp, fun x hx => by simp at hx⟩
  | succ n ih =>
    intro h c h0 h1 hc
    rw [flush]
    by_cases hge : t ≤ c
    · rw [if_pos hge]
      obtain ⟨i1, i2, i3, i4, i5⟩ := ih (h % 2 ^ (c - t)) (c - t) (Int.emod_nonneg _ (Int.ne_of_gt (pow2_pos _))) (Int.emod_lt_of_pos _ (pow2_pos _)) (by omega)
      refine ⟨i1, i2, i3, ?_, ?_⟩
      · simp only [List.length_cons, Nat.mul_add, Nat.mul_one]; omega
      · intro x hx
        rcases List.mem_cons.1 hx with rfl | hx
        · refine ⟨Int.ediv_nonneg h0 (Int.le_of_lt (pow2_pos _)), ?_⟩
          apply Int.ediv_lt_of_lt_mul (pow2_pos _)
          rw [← Int.pow_add, show t + (c - t) = c by omega]
          exact h1
        · exact i5 x hx
    · rw [if_neg hge]
      exact ⟨h0, h1, by simp; omega, by simp, fun x hx => by simp at hx⟩

theorem join_lt (h v : Int) (c f : Nat) (h0 : 0 ≤ h) (hh : h < 2 ^ c) (v0 : 0 ≤ v) (hv : v < 2 ^ f) : 0 ≤ h * 2 ^ f + v ∧ h * 2 ^ f + v < 2 ^ (c + f) := by
  have h1 : 0 ≤ h * 2 ^ f := Int.mul_nonneg h0 (Int.le_of_lt (pow2_pos f))
  have h2 : h * 2 ^ f + 2 ^ f ≤ 2 ^ c * 2 ^ f := by
    have := Int.mul_le_mul_of_nonneg_right (a := h + 1) (b := 2 ^ c) (c := 2 ^ f) (by omega) (Int.le_of_lt (pow2_pos f))
    rw [Int.add_mul, Int.one_mul] at this
    exact this
  rw [Int.pow_add]
  exact ⟨by omega, by omega⟩

structure MInv (f t : Nat) (k : Nat) (σ : List Int × Int × Nat) : Prop where
  h0 : 0 ≤ σ.2.1
  h1 : σ.2.1 < 2 ^ σ.2.2
  ct : σ.2.2 < t
  len : f * k = t * σ.1.length + σ.2.2
  inn : In (2 ^ t) σ.1
theorem stp_inv (f t : Nat) (ht : 1 ≤ t) (k : Nat) (σ : List Int × Int × Nat) (v : Int) (i : MInv f t k σ) (v0 : 0 ≤ v) (hv : v < 2 ^ f) : MInv f t (k + 1) (stp f t σ v) := by
  obtain ⟨j0, j1⟩ := join_lt σ.2.1 v σ.2.2 f i.h0 i.h1 v0 hv
  obtain ⟨k1, k2, k3, k4, k5⟩ := flush_inv t ht (σ.2.2 + f) _ _ j0 j1 (Nat.le_refl _)
  refine ⟨k1, k2, k3, ?_, ?_⟩
  · have := i.len
    simp only [stp, List.length_append, Nat.mul_add, Nat.mul_one]
    omega
  · exact i.inn.app k5
theorem mach_inv (f t : Nat) (ht : 1 ≤ t) (q : ByteArray) (hf : f = 8) (k : Nat) : MInv f t k (mach f t (btL q k)) := by
  subst hf
  induction k with
  | zero => exact ⟨by simp [mach, btL], by simp [mach, btL], ht, by simp [mach, btL], fun x hx => by simp [mach, btL] at hx⟩
  | succ k ih =>
    rw [btL_succ, mach_snoc]
    have h0 := bt_nonneg q k
    have h1 := bt_le q k
    exact stp_inv 8 t ht k _ _ ih h0 (by omega)
theorem machL_inv (f t : Nat) (ht : 1 ≤ t) (l : List Int) (hl : In (2 ^ f) l) (k : Nat) (hk : k ≤ l.length) : MInv f t k (mach f t (l.take k)) := by
  induction k with
  | zero => exact ⟨by simp [mach], by simp [mach], ht, by simp [mach], fun x hx => by simp [mach] at hx⟩
  | succ k ih =>
    rw [List.take_succ_eq_append_getElem (by omega), mach_snoc]
    exact stp_inv f t ht k _ _ (ih (by omega)) (hl _ (List.getElem_mem _)).1 (hl _ (List.getElem_mem _)).2

section
variable {w0 : World} {B bo C bh bc : Nat} {cs : List (Nat × Obj)}
end


theorem nou8 {t : TypeId} (h : t ≠ 5) (c : Array Value) (fr : Nat × Nat) : ∀ a fz, Obj.cells c t fr ≠ .cells a 5 fz := fun a fz e => by injection e with _ e2; exact h e2
theorem str_ne : 9 ≠ 5 := by decide
theorem v_ne : 135 ≠ 5 := by decide
theorem size1 (w : World) (o : Obj) : (w.alloc o).heap.size = w.heap.size + 1 := by simp

-- one box more
theorem St.more {w0 : World} {B bo C bh bc : Nat} {cs : List (Nat × Obj)} {l : List Int} {h c : Int} {w : World} (s : St w0 B bo C bh bc cs l h c w) (o : Obj) (ho : ∀ a fz, o ≠ .cells a 5 fz) : St w0 B bo C bh bc ((w.heap.size, o) :: cs) l h c (w.alloc o) := by
  obtain ⟨g, cap, h1, h2, h3⟩ := s.out
  refine ⟨s.below.alloc s.base o, by have := s.base; rw [size1]; omega, fun x hx => ?_, s.held.alloc o, s.cnt.alloc o, s.lo, s.ne, g, cap, h1.alloc o, h2, h3.alloc o⟩
  rcases List.mem_cons.1 hx with rfl | hx
  · have a1 := h1.lt; have a2 := s.held.lt; have a3 := s.cnt.lt
    exact ⟨heap_alloc_new w o, ho, by show w.heap.size ≠ bo; omega, by show w.heap.size ≠ bh; omega, by show w.heap.size ≠ bc; omega⟩
  · have hx' := s.boxes x hx
    exact ⟨(heap_alloc_old w o (Array.getElem?_eq_some_iff.1 hx'.1).1).trans hx'.1, hx'.2⟩
theorem St.open {w0 : World} {B bo C bh bc : Nat} {cs cs' : List (Nat × Obj)} {l : List Int} {h c : Int} {w : World} (s : St w0 B bo C bh bc cs l h c w) (hsub : ∀ x ∈ cs', x ∈ cs) : St w0 B bo C bh bc cs' l h c w :=
  ⟨s.below, s.base, fun x hx => s.boxes x (hsub x hx), s.held, s.cnt, s.lo, s.ne, s.out⟩

-- where the texts' signs lie, the row, and the box of the row
def base3 (w : World) (al : ByteArray) (C : Nat) : World := ((w.alloc (bx 9 (.string al))).alloc (.cells (row (List.replicate C 0)) 5)).alloc (bx 51 (.slice (some ⟨w.heap.size + 1, 0, none⟩) 0 C))
theorem base3_size (w : World) (al : ByteArray) (C : Nat) : (base3 w al C).heap.size = w.heap.size + 3 := by simp [base3]
theorem base3_al (w : World) (al : ByteArray) (C : Nat) : (base3 w al C).heap[w.heap.size]? = some (bx 9 (.string al)) := by
  unfold base3
  rw [heap_alloc_old _ _ (by simp <;> omega), heap_alloc_old _ _ (by simp), heap_alloc_new]
theorem base3_out (w : World) (al : ByteArray) (C : Nat) : Boxed (base3 w al C) (w.heap.size + 2) 51 (.slice (some ⟨w.heap.size + 1, 0, none⟩) 0 C) := by
  unfold base3
  have := heap_alloc_new ((w.alloc (bx 9 (.string al))).alloc (.cells (row (List.replicate C 0)) 5)) (bx 51 (.slice (some ⟨w.heap.size + 1, 0, none⟩) 0 C))
  rw [size1, size1] at this
  exact this
theorem base3_own (w : World) (al : ByteArray) (C : Nat) (hC : C ≤ 281474976710656) : (base3 w al C).ownsRow w.heap.size 5 1 (.slice (some ⟨w.heap.size + 1, 0, none⟩) 0 C) 0 [] := by
  unfold base3
  have := World.ownsRow_made (base := w.heap.size) (e := 5) (size := 1) (w.alloc (bx 9 (.string al))) (row (List.replicate C 0)) C (by simp) (by unfold maxLen; omega) (by rw [row_size]; simp)
  rw [size1] at this
  exact this.alloc _
theorem base3_below (w : World) (al : ByteArray) (C : Nat) : Below w.heap.size w (base3 w al C) := by
  unfold base3
  exact (((Below.refl _ _).alloc (Nat.le_refl _) _).alloc (by simp) _).alloc (by simp <;> omega) _

end Go.Proofs.YtfbglffookacbaaGreatDoor.tg
