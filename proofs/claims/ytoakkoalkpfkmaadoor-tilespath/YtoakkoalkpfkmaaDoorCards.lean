/-
  DERIVED. GIVEN WITH THE SEED: THE CARDS: each row of YtoakkoalkpfkmaaDoorRows.lean that lists a variable, with what it lists TIED to the program's text (the seventh form; the later family's looks); each row that meets fmt, with fmt's text TOLD by the authors' own Lean function (tested against real Go, not proved from fmt's source: count such statements apart). THE CARD IS WHAT COUNTS. Prove the row's statement (the work); the ties are given (YtoakkoalkpfkmaaDoorTie.lean); close each card by the builder's one call (the guide's Derived/Test/ToyasCard.lean, 'card_holds'). Laid BY PROGRAM, IN A SANDBOX (cutbox-door.mjs). By AI agents, Wed Nov 11 2026. No macro, syntax, notation, axiom, sorry.
-/
import Derived.Test.YtoakkoalkpfkmaaDoorRows
import GoSem.ClaimSeven
namespace Go.Proofs.YtoakkoalkpfkmaaDoor
namespace Rows

/-- THE TIED CARD OF 'annalslaw23.TilesPath'. -/
def tilesPathCard : Claim7 := { stood := { row := tilesPathRow, standIns := [], harness := (true, "0f6034c6c4b80643b61b45a9ab3d088f947bf0efd923b9fb5a0b89f3f16ab6c1"), looks := false }, kinds := [], alts := [], laidByText := true, laidKinds := [.data, .data, .data], laidTests := true, laidLooks := .later }
def TilesPathCardSaid : Prop := Claim7.holds Tryd.pinned (.plain (OpenSpec.ofChange tilesPathSpec)) tilesPathCard

/-- THE TIED CARD OF 'annalslaw23.TilesServe'. -/
def tilesServeCard : Claim7 := { stood := { row := tilesServeRow, standIns := [], harness := (true, "0f6034c6c4b80643b61b45a9ab3d088f947bf0efd923b9fb5a0b89f3f16ab6c1"), looks := false }, kinds := [], alts := [], laidByText := true, laidKinds := [.data, .data, .data, .data, .data], laidTests := true, laidLooks := .later }
def TilesServeCardSaid : Prop := Claim7.holds Tryd.pinned (.plain (OpenSpec.ofChange tilesServeSpec)) tilesServeCard

/-- THE SECOND FORM's CARD OF 'annalslaw23.TilesPath'. -/
def tilesPathUptoCard : Claim7 := { stood := { row := tilesPathUptoRow, standIns := [], harness := (true, "0f6034c6c4b80643b61b45a9ab3d088f947bf0efd923b9fb5a0b89f3f16ab6c1"), looks := false }, kinds := [], alts := [], laidByText := true, laidKinds := [.data, .data, .data], laidTests := true, laidLooks := .later }
def TilesPathUptoCardSaid : Prop := Claim7.holds Tryd.pinned (.plain (OpenSpec.upto tilesPathSpec)) tilesPathUptoCard

/-- THE SECOND FORM's CARD OF 'annalslaw23.TilesServe'. -/
def tilesServeUptoCard : Claim7 := { stood := { row := tilesServeUptoRow, standIns := [], harness := (true, "0f6034c6c4b80643b61b45a9ab3d088f947bf0efd923b9fb5a0b89f3f16ab6c1"), looks := false }, kinds := [], alts := [], laidByText := true, laidKinds := [.data, .data, .data, .data, .data], laidTests := true, laidLooks := .later }
def TilesServeUptoCardSaid : Prop := Claim7.holds Tryd.pinned (.plain (OpenSpec.upto tilesServeSpec)) tilesServeUptoCard
end Rows
end Go.Proofs.YtoakkoalkpfkmaaDoor
