import Derived.Test.YtfkpfmaphjeakaaDoorRd
namespace Go.Proofs.YtfkpfmaphjeakaaDoor.re
open Go.RowKit Go.PlainAid
open Go.Proofs.YtfkpfmaphjeakaaDoor.pl Go.Proofs.YtfkpfmaphjeakaaDoor.pd Go.Proofs.YtfkpfmaphjeakaaDoor.pf Go.Proofs.YtfkpfmaphjeakaaDoor.pg Go.Proofs.YtfkpfmaphjeakaaDoor.ra Go.Proofs.YtfkpfmaphjeakaaDoor.rb Go.Proofs.YtfkpfmaphjeakaaDoor.rc Go.Proofs.YtfkpfmaphjeakaaDoor.rd
set_option linter.unusedVariables false
set_option maxRecDepth 4000

theorem bytes_below {w w' : World} {B off len : Nat} {g : Nat → Int} {b : Nat} (x : Bytes w B off len g) (h : Below b w w') (hB : B < b) : Bytes w' B off len g :=
  ⟨Nat.lt_of_lt_of_le x.1 h.size, fun j hj => ⟨(h.cell hB).trans (x.2 j hj).1, (x.2 j hj).2⟩⟩
theorem bytes_setRow {w : World} {B off len : Nat} {g : Nat → Int} (x : Bytes w B off len g) (b : Nat) (cs : Array Value) (hne : B ≠ b) : Bytes (w.setRow b cs) B off len g :=
  ⟨by have := x.1; simpa [World.setRow] using this, fun j hj => ⟨(World.cell?_of_block (w := w) (setRow_other w b B cs hne)).trans (x.2 j hj).1, (x.2 j hj).2⟩⟩
theorem cell_grow {w w' : World} {row : Option Nat} (h : w.grownBy w' row) (b i : Nat) (hb : b < w.heap.size) (hne : some b ≠ row) : w'.cell? ⟨b, i, none⟩ = w.cell? ⟨b, i, none⟩ := World.cell?_of_block (w := w) (h.block b hb hne)

end Go.Proofs.YtfkpfmaphjeakaaDoor.re
