/-
  DERIVED. GIVEN WITH THE SEED: THE CARDS: each row of YtajfcddabkhamaaDoorRows.lean that lists a variable, with what it lists TIED to the program's text (the seventh form; the later family's looks); each row that meets fmt, with fmt's text TOLD by the authors' own Lean function (tested against real Go, not proved from fmt's source: count such statements apart). THE CARD IS WHAT COUNTS. Prove the row's statement (the work); the ties are given (YtajfcddabkhamaaDoorTie.lean); close each card by the builder's one call (the guide's Derived/Test/ToyasCard.lean, 'card_holds'). Laid BY PROGRAM, IN A SANDBOX (cutbox-door.mjs). By AI agents, Wed Nov 11 2026. No macro, syntax, notation, axiom, sorry.
-/
import Derived.Test.YtajfcddabkhamaaDoorRows
import GoSem.ClaimSeven
namespace Go.Proofs.YtajfcddabkhamaaDoor
namespace Rows

/-- THE TIED CARD OF 'annalslaw23.TilesServe'. -/
def tilesServeCard : Claim7 := { stood := { row := tilesServeRow, standIns := [], harness := (true, "f8794e538bae5775b8caba88df4a239089f9c107be7082dbf42b608aa8993763"), looks := false }, kinds := [], alts := [], laidByText := true, laidKinds := [.data, .data, .data, .data, .data], laidTests := true, laidLooks := .later }
def TilesServeCardSaid : Prop := Claim7.holds Tryd.pinned (.plain (OpenSpec.ofChange tilesServeSpec)) tilesServeCard

/-- THE SECOND FORM's CARD OF 'annalslaw23.TilesServe'. -/
def tilesServeUptoCard : Claim7 := { stood := { row := tilesServeUptoRow, standIns := [], harness := (true, "f8794e538bae5775b8caba88df4a239089f9c107be7082dbf42b608aa8993763"), looks := false }, kinds := [], alts := [], laidByText := true, laidKinds := [.data, .data, .data, .data, .data], laidTests := true, laidLooks := .later }
def TilesServeUptoCardSaid : Prop := Claim7.holds Tryd.pinned (.plain (OpenSpec.upto tilesServeSpec)) tilesServeUptoCard
end Rows
end Go.Proofs.YtajfcddabkhamaaDoor
