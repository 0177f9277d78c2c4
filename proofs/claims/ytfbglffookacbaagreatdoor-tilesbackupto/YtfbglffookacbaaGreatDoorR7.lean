import Derived.Test.YtfbglffookacbaaGreatDoorR6
import Derived.Test.YtfbglffookacbaaGreatDoorR2
import Derived.Laws.AppendOwn
namespace Go.Proofs.YtfbglffookacbaaGreatDoor.r7
open Go.RowKit Go.PlainAid Go.Shelf
open Go.Proofs.YtfbglffookacbaaGreatDoor.ta Go.Proofs.YtfbglffookacbaaGreatDoor.tb Go.Proofs.YtfbglffookacbaaGreatDoor.tc Go.Proofs.YtfbglffookacbaaGreatDoor.cp Go.Proofs.YtfbglffookacbaaGreatDoor.r2 Go.Proofs.YtfbglffookacbaaGreatDoor.r3 Go.Proofs.YtfbglffookacbaaGreatDoor.r4 Go.Proofs.YtfbglffookacbaaGreatDoor.r5 Go.Proofs.YtfbglffookacbaaGreatDoor.r6
set_option linter.unusedVariables false

-- the texts handed to a Replacer
structure Old (w : World) (g : Nat) : Prop where
  x0 : w.cell? ⟨g, 0, none⟩ = some (.string ⟨#[120]⟩)
  x1 : w.cell? ⟨g, 1, none⟩ = some (.string ⟨#[]⟩)
  x2 : w.cell? ⟨g, 2, none⟩ = some (.string ⟨#[47]⟩)
  x3 : w.cell? ⟨g, 3, none⟩ = some (.string ⟨#[]⟩)
def rpCells (d st : Int) (x y : Value) : Array Value := #[.int .u32 d, .int .i32 st, .int .u32 0, x, y]
-- once: what is built is laid into the Replacer
structure Done (W0 : World) (b : Nat) (W : World) : Prop where
  h : ∃ r, W.heap[b]? = some (.cells (rpCells 0 1 (.iface 141 (.pointer (some ⟨r, 0, none⟩))) (.slice none 0 0)) 101 (0, 0)) ∧ Bsr W r W0.heap.size
  below : Below b W0 W
set_option maxRecDepth 100000 in
theorem onceC (b g cap : Nat) (x : Value) (w : World) (hb : w.heap[b]? = some (.cells (rpCells 0 1 x (.slice (some ⟨g, 0, none⟩) 4 cap)) 101 (0, 0))) (ho : Old w g) :
    Calls Tryz.prog 57 #[.pointer (some ⟨b, 0, none⟩)] w fun e w' => e = .returned (.tuple #[]) ∧ Done w b w' := by
  have BC : Hid (Calls _ _ _ _ _) := buildC b g cap w (by rw [cell_of_row _ _ _ _ _ _ hb]; rfl) ho.x0 ho.x1 ho.x2 ho.x3
  have HB : Hid (w.heap[b]? = some (.cells (rpCells 0 1 x (.slice (some ⟨g, 0, none⟩) 4 cap)) 101 (0, 0))) := hb
  have hlt : Hid (b < w.heap.size) := (Array.getElem?_eq_some_iff.1 hb).1
  clear hb ho
  go_enter Tryz.func57, Tryz.ntmps57
  go_wp2_with fail
  refine BC.out.mono ?_
  rintro e w1 ⟨r, rfl, hr, hbs, hbl⟩
  have h1 : w1.heap[b]? = some (.cells (rpCells 0 1 x (.slice (some ⟨g, 0, none⟩) 4 cap)) 101 (0, 0)) := (hbl.block _ hlt.out).trans HB.out
  have c3 : w1.cell? ⟨b, 3, none⟩ = some x := by rw [cell_of_row _ _ _ _ _ _ h1]; rfl
  have f3 := frozen_of_row w1 b 3 _ _ h1
  have h2 := heap_setCell_same w1 b 3 _ _ (.iface 141 (.pointer (some ⟨r, 0, none⟩))) h1
  have c4 : (w1.setCell ⟨b, 3, none⟩ (.iface 141 (.pointer (some ⟨r, 0, none⟩)))).cell? ⟨b, 4, none⟩ = some (.slice (some ⟨g, 0, none⟩) 4 cap) := by rw [cell_of_row _ _ _ _ _ _ h2]; rfl
  have f4 := frozen_of_row (w1.setCell ⟨b, 3, none⟩ (.iface 141 (.pointer (some ⟨r, 0, none⟩)))) b 4 _ _ h2
  have h3 := heap_setCell_same _ b 4 _ _ (.slice none 0 0) h2
  have HD : Hid (Done w b ((w1.setCell ⟨b, 3, none⟩ (.iface 141 (.pointer (some ⟨r, 0, none⟩)))).setCell ⟨b, 4, none⟩ (.slice none 0 0))) := by
    refine ⟨⟨r, h3, (hbs.set b 3 _ hlt.out).set b 4 _ hlt.out⟩, ?_⟩
    exact ((hbl.mono (Nat.le_of_lt hlt.out)).setCell (p := ⟨b, 3, none⟩) (Nat.le_refl _) _).setCell (p := ⟨b, 4, none⟩) (Nat.le_refl _) _
  clear h1 h2 h3 hbs hbl hr
  go_wp2
  go_end0
  exact ⟨rfl, HD.out⟩
end Go.Proofs.YtfbglffookacbaaGreatDoor.r7
