/-
  DERIVED. GIVEN WITH THE SEED: THE CARDS: each row of YtfbglffookacbaaGreatDoorRows.lean that lists a variable, with what it lists TIED to the program's text (the seventh form; the later family's looks); each row that meets fmt, with fmt's text TOLD by the authors' own Lean function (tested against real Go, not proved from fmt's source: count such statements apart). THE CARD IS WHAT COUNTS. Prove the row's statement (the work); the ties are given (YtfbglffookacbaaGreatDoorTie.lean); close each card by the builder's one call (the guide's Derived/Test/ToyasCard.lean, 'card_holds'). Laid BY PROGRAM, IN A SANDBOX (cutbox-door.mjs). By AI agents, Wed Nov 11 2026. No macro, syntax, notation, axiom, sorry.
-/
import Derived.Test.YtfbglffookacbaaGreatDoorRows
import GoSem.ClaimSeven
namespace Go.Proofs.YtfbglffookacbaaGreatDoor
namespace Rows

/-- THE TIED CARD OF 'annalslaw23.TilesBack'. -/
def tilesBackCard : Claim7 := { stood := { row := tilesBackRow, standIns := [], harness := (true, "5a588acf6712e13b989fc7708fd0f1e185e3a27aca46037b6f7fc3db401c0c5f"), looks := true }, kinds := [], alts := [], laidByText := true, laidKinds := [.data, .data, .data, .data, .sentinel, .sentinel, .pinned], laidTests := true, laidLooks := .later }
def TilesBackCardSaid : Prop := Claim7.holds Tryz.pinned (.plain (OpenSpec.ofChange tilesBackSpec)) tilesBackCard

/-- THE TIED CARD OF 'annalslaw23.TilesParse'. -/
def tilesParseCard : Claim7 := { stood := { row := tilesParseRow, standIns := [], harness := (true, "5a588acf6712e13b989fc7708fd0f1e185e3a27aca46037b6f7fc3db401c0c5f"), looks := true }, kinds := [], alts := [], laidByText := true, laidKinds := [.data, .data, .data, .data, .sentinel, .sentinel, .pinned], laidTests := true, laidLooks := .later }
def TilesParseCardSaid : Prop := Claim7.holds Tryz.pinned (.plain (OpenSpec.ofChange tilesParseSpec)) tilesParseCard

/-- THE SECOND FORM's CARD OF 'annalslaw23.TilesBack'. -/
def tilesBackUptoCard : Claim7 := { stood := { row := tilesBackUptoRow, standIns := [], harness := (true, "5a588acf6712e13b989fc7708fd0f1e185e3a27aca46037b6f7fc3db401c0c5f"), looks := true }, kinds := [], alts := [], laidByText := true, laidKinds := [.data, .data, .data, .data, .sentinel, .sentinel, .pinned], laidTests := true, laidLooks := .later }
def TilesBackUptoCardSaid : Prop := Claim7.holds Tryz.pinned (.plain (OpenSpec.upto tilesBackSpec)) tilesBackUptoCard

/-- THE SECOND FORM's CARD OF 'annalslaw23.TilesParse'. -/
def tilesParseUptoCard : Claim7 := { stood := { row := tilesParseUptoRow, standIns := [], harness := (true, "5a588acf6712e13b989fc7708fd0f1e185e3a27aca46037b6f7fc3db401c0c5f"), looks := true }, kinds := [], alts := [], laidByText := true, laidKinds := [.data, .data, .data, .data, .sentinel, .sentinel, .pinned], laidTests := true, laidLooks := .later }
def TilesParseUptoCardSaid : Prop := Claim7.holds Tryz.pinned (.plain (OpenSpec.upto tilesParseSpec)) tilesParseUptoCard
end Rows
end Go.Proofs.YtfbglffookacbaaGreatDoor
