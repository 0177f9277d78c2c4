/-
  DERIVED. GIVEN WITH THE SEED: THE CARDS: each row of YtfpkjmhhddmhnaaGreatDoorRows.lean that lists a variable, with what it lists TIED to the program's text (the seventh form; the later family's looks); each row that meets fmt, with fmt's text TOLD by the authors' own Lean function (tested against real Go, not proved from fmt's source: count such statements apart). THE CARD IS WHAT COUNTS. Prove the row's statement (the work); the ties are given (YtfpkjmhhddmhnaaGreatDoorTie.lean); close each card by the builder's one call (the guide's Derived/Test/ToyasCard.lean, 'card_holds'). Laid BY PROGRAM, IN A SANDBOX (cutbox-door.mjs). By AI agents, Wed Nov 11 2026. No macro, syntax, notation, axiom, sorry.
-/
import Derived.Test.YtfpkjmhhddmhnaaGreatDoorRows
import GoSem.ClaimSeven
namespace Go.Proofs.YtfpkjmhhddmhnaaGreatDoor
namespace Rows

/-- THE TIED CARD OF 'annalslaw23.TilesNames'. -/
def tilesNamesCard : Claim7 := { stood := { row := tilesNamesRow, standIns := [], harness := (true, "3b5692f19b5228a42f94a1277df4642e77d66b28360c124309f06946b0bdfc33"), looks := false }, kinds := [], alts := [], laidByText := true, laidKinds := [.data, .data, .data, .data, .data], laidTests := true, laidLooks := .later }
def TilesNamesCardSaid : Prop := Claim7.holds Tryz.pinned (.plain (OpenSpec.ofChange tilesNamesSpec)) tilesNamesCard

/-- THE SECOND FORM's CARD OF 'annalslaw23.TilesNames'. -/
def tilesNamesUptoCard : Claim7 := { stood := { row := tilesNamesUptoRow, standIns := [], harness := (true, "3b5692f19b5228a42f94a1277df4642e77d66b28360c124309f06946b0bdfc33"), looks := false }, kinds := [], alts := [], laidByText := true, laidKinds := [.data, .data, .data, .data, .data], laidTests := true, laidLooks := .later }
def TilesNamesUptoCardSaid : Prop := Claim7.holds Tryz.pinned (.plain (OpenSpec.upto tilesNamesSpec)) tilesNamesUptoCard
end Rows
end Go.Proofs.YtfpkjmhhddmhnaaGreatDoor
