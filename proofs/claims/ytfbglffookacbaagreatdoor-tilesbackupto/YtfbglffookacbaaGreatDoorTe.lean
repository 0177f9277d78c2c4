import Derived.Test.YtfbglffookacbaaGreatDoorTd
namespace Go.Proofs.YtfbglffookacbaaGreatDoor.te
open Go.RowKit Go.PlainAid
open Go.Proofs.YtfbglffookacbaaGreatDoor.ta Go.Proofs.YtfbglffookacbaaGreatDoor.tb Go.Proofs.YtfbglffookacbaaGreatDoor.tc Go.Proofs.YtfbglffookacbaaGreatDoor.td
set_option linter.unusedVariables false
set_option maxRecDepth 4000

theorem grown_drew {w w1 : World} {r : Option Nat} (h : w.drew.grownBy w1 r) : w.grownBy w1 r := ⟨h.os, h.tape, h.output, h.size, h.block⟩
theorem new_cell (W : World) (u : Value) (t : TypeId) : (W.alloc (.cells #[u] t)).cell? ((⟨W.heap.size, 0, none⟩ : Addr).add 0) = some u := by
  rw [Addr.add_mid, Nat.zero_add, World.cell?_alloc_at _ _ _ _ rfl]; rfl
theorem new_cell_d (W : World) (u : Value) (t : TypeId) : (W.alloc (.cells #[u] t)).drew.cell? ((⟨W.heap.size, 0, none⟩ : Addr).add 0) = some u := new_cell W u t
theorem room_of {n C cap : Nat} (h : n < C ∨ n + 1 ≤ 140737488355328) (hc : C ≤ cap) : n < cap ∨ n + 1 ≤ 140737488355328 := by omega

section
variable {w0 : World} {B bo C bh bc : Nat} {cs : List (Nat × Obj)}

def UP : ByteArray := ⟨#[48, 49, 50, 51, 52, 53, 54, 55, 56, 57, 65, 66, 67, 68, 69, 70]⟩
end
end Go.Proofs.YtfbglffookacbaaGreatDoor.te
