import Derived.Test.YtpbapaghcabehaaDoorUc
namespace Go.Proofs.YtpbapaghcabehaaDoor.ud
open Go.RowKit Go.PlainAid
open Go.Proofs.YtpbapaghcabehaaDoor.ta Go.Proofs.YtpbapaghcabehaaDoor.tb Go.Proofs.YtpbapaghcabehaaDoor.tc Go.Proofs.YtpbapaghcabehaaDoor.td Go.Proofs.YtpbapaghcabehaaDoor.te Go.Proofs.YtpbapaghcabehaaDoor.tf Go.Proofs.YtpbapaghcabehaaDoor.tg Go.Proofs.YtpbapaghcabehaaDoor.th Go.Proofs.YtpbapaghcabehaaDoor.ti Go.Proofs.YtpbapaghcabehaaDoor.tj Go.Proofs.YtpbapaghcabehaaDoor.tk Go.Proofs.YtpbapaghcabehaaDoor.ue Go.Proofs.YtpbapaghcabehaaDoor.ub Go.Proofs.YtpbapaghcabehaaDoor.uc
set_option linter.unusedVariables false

theorem flush48a (v : Int) : flush 8 (0 + 4) (0 * 2 ^ 4 + v) (0 + 4) = ([], v, 4) := by simp [flush]
theorem flush48b (d v : Int) : flush 8 (4 + 4) (d * 2 ^ 4 + v) (4 + 4) = ([d * 16 + v], 0, 0) := by simp [flush]

section
variable {w0 : World} {B bo C bh bc : Nat} {cs : List (Nat × Obj)}
def hU (σ : List Int × Nat × Int) : Int := if σ.2.1 = 1 then σ.2.2 else 0
def cU (σ : List Int × Nat × Int) : Nat := if σ.2.1 = 1 then 4 else 0
def StU (w0 : World) (B bo C bh bc ba : Nat) (cs : List (Nat × Obj)) (σ : List Int × Nat × Int) (w : World) : Prop := St w0 B bo C bh bc ((ba, bx 3 (.int .i64 (σ.2.1 : Nat))) :: cs) σ.1 (hU σ) (cU σ : Nat) w
def Post (w0 : World) (B bo C bh bc ba : Nat) (cs : List (Nat × Obj)) (o : Option (List Int × Nat × Int)) (e : Ending) (w' : World) : Prop :=
  (∃ σ, o = some σ ∧ e = .returned (.bool true) ∧ StU w0 B bo C bh bc ba cs σ w') ∨ (o = none ∧ e = .returned (.bool false) ∧ Below B w0 w')

end

-- the values' box, the row and the box of the row
def baseV (w : World) (VL : List Int) (C : Nat) : World := ((w.alloc (.cells (row VL) 84)).alloc (.cells (row (List.replicate C 0)) 5)).alloc (bx 39 (.slice (some ⟨w.heap.size + 1, 0, none⟩) 0 C))
theorem baseV_size (w : World) (VL : List Int) (C : Nat) : (baseV w VL C).heap.size = w.heap.size + 3 := by simp [baseV]
theorem baseV_v (w : World) (VL : List Int) (C : Nat) : (baseV w VL C).heap[w.heap.size]? = some (.cells (row VL) 84 (0, 0)) := by
  unfold baseV
  rw [heap_alloc_old _ _ (by simp <;> omega), heap_alloc_old _ _ (by simp), heap_alloc_new]
theorem baseV_out (w : World) (VL : List Int) (C : Nat) : Boxed (baseV w VL C) (w.heap.size + 2) 39 (.slice (some ⟨w.heap.size + 1, 0, none⟩) 0 C) := by
  unfold baseV
  have := heap_alloc_new ((w.alloc (.cells (row VL) 84)).alloc (.cells (row (List.replicate C 0)) 5)) (bx 39 (.slice (some ⟨w.heap.size + 1, 0, none⟩) 0 C))
  rw [size1, size1] at this
  exact this
theorem baseV_own (w : World) (VL : List Int) (C : Nat) (hC : C ≤ 281474976710656) : (baseV w VL C).ownsRow w.heap.size 5 1 (.slice (some ⟨w.heap.size + 1, 0, none⟩) 0 C) 0 [] := by
  unfold baseV
  have := World.ownsRow_made (base := w.heap.size) (e := 5) (size := 1) (w.alloc (.cells (row VL) 84)) (row (List.replicate C 0)) C (by simp) (by unfold maxLen; omega) (by rw [row_size]; simp)
  rw [size1] at this
  exact this.alloc _
theorem baseV_below (w : World) (VL : List Int) (C : Nat) : Below w.heap.size w (baseV w VL C) := by
  unfold baseV
  exact (((Below.refl _ _).alloc (Nat.le_refl _) _).alloc (by simp) _).alloc (by simp <;> omega) _
theorem srW_size (w : World) (l : List Int) (f : Nat) (give : Value) : (srW w l f give).heap.size = w.heap.size + 1 + 6 := by
  unfold srW
  rw [size1, chain5_size, size1]
theorem bs_37 : bs (⟨#[37]⟩ : ByteArray) = [37] := by decide +kernel
theorem readV_nil : readV [] = .tuple #[.string ByteArray.empty, .int .i64 0] := rfl

end Go.Proofs.YtpbapaghcabehaaDoor.ud
