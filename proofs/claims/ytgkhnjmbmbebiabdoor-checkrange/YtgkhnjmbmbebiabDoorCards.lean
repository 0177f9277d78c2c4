/-
  DERIVED. GIVEN WITH THE SEED: THE CARDS: each row of YtgkhnjmbmbebiabDoorRows.lean that lists a variable, with what it lists TIED to the program's text (the seventh form; the later family's looks); each row that meets fmt, with fmt's text TOLD by the authors' own Lean function (tested against real Go, not proved from fmt's source: count such statements apart). THE CARD IS WHAT COUNTS. Prove the row's statement (the work); the ties are given (YtgkhnjmbmbebiabDoorTie.lean); close each card by the builder's one call (the guide's Derived/Test/ToyasCard.lean, 'card_holds'). Laid BY PROGRAM, IN A SANDBOX (cutbox-door.mjs). By AI agents, Wed Nov 11 2026. No macro, syntax, notation, axiom, sorry.
-/
import Derived.Test.YtgkhnjmbmbebiabDoorRows
import GoSem.ClaimSeven
namespace Go.Proofs.YtgkhnjmbmbebiabDoor
namespace Rows

/-- THE TIED CARD OF 'annalslaw9.CheckConsistency'. -/
def checkConsistencyCard : Claim7 := { stood := { row := checkConsistencyRow, standIns := [], harness := (true, "11f921965a77ebf328996711b1d3d30ae56a478c1f3a7e73cff4c6d8ca3edab2"), looks := false }, kinds := [], alts := [], laidByText := true, laidKinds := [.data, .data, .data, .data], laidTests := true, laidLooks := .later }
def CheckConsistencyCardSaid : Prop := Claim7.holds Tryd.pinned (.plain (OpenSpec.ofChange checkConsistencySpec)) checkConsistencyCard

/-- THE TIED CARD OF 'annalslaw9.CheckRange'. -/
def checkRangeCard : Claim7 := { stood := { row := checkRangeRow, standIns := [], harness := (true, "11f921965a77ebf328996711b1d3d30ae56a478c1f3a7e73cff4c6d8ca3edab2"), looks := false }, kinds := [], alts := [], laidByText := true, laidKinds := [.data, .data, .data, .data], laidTests := true, laidLooks := .later }
def CheckRangeCardSaid : Prop := Claim7.holds Tryd.pinned (.plain (OpenSpec.ofChange checkRangeSpec)) checkRangeCard

/-- THE TIED CARD OF 'annalslaw9.CheckMulti'. -/
def checkMultiCard : Claim7 := { stood := { row := checkMultiRow, standIns := [], harness := (true, "11f921965a77ebf328996711b1d3d30ae56a478c1f3a7e73cff4c6d8ca3edab2"), looks := false }, kinds := [], alts := [], laidByText := true, laidKinds := [.data, .data, .data, .data], laidTests := true, laidLooks := .later }
def CheckMultiCardSaid : Prop := Claim7.holds Tryd.pinned (.plain (OpenSpec.ofChange checkMultiSpec)) checkMultiCard

/-- THE SECOND FORM's CARD OF 'annalslaw9.CheckConsistency'. -/
def checkConsistencyUptoCard : Claim7 := { stood := { row := checkConsistencyUptoRow, standIns := [], harness := (true, "11f921965a77ebf328996711b1d3d30ae56a478c1f3a7e73cff4c6d8ca3edab2"), looks := false }, kinds := [], alts := [], laidByText := true, laidKinds := [.data, .data, .data, .data], laidTests := true, laidLooks := .later }
def CheckConsistencyUptoCardSaid : Prop := Claim7.holds Tryd.pinned (.plain (OpenSpec.upto checkConsistencySpec)) checkConsistencyUptoCard

/-- THE SECOND FORM's CARD OF 'annalslaw9.CheckRange'. -/
def checkRangeUptoCard : Claim7 := { stood := { row := checkRangeUptoRow, standIns := [], harness := (true, "11f921965a77ebf328996711b1d3d30ae56a478c1f3a7e73cff4c6d8ca3edab2"), looks := false }, kinds := [], alts := [], laidByText := true, laidKinds := [.data, .data, .data, .data], laidTests := true, laidLooks := .later }
def CheckRangeUptoCardSaid : Prop := Claim7.holds Tryd.pinned (.plain (OpenSpec.upto checkRangeSpec)) checkRangeUptoCard

/-- THE SECOND FORM's CARD OF 'annalslaw9.CheckMulti'. -/
def checkMultiUptoCard : Claim7 := { stood := { row := checkMultiUptoRow, standIns := [], harness := (true, "11f921965a77ebf328996711b1d3d30ae56a478c1f3a7e73cff4c6d8ca3edab2"), looks := false }, kinds := [], alts := [], laidByText := true, laidKinds := [.data, .data, .data, .data], laidTests := true, laidLooks := .later }
def CheckMultiUptoCardSaid : Prop := Claim7.holds Tryd.pinned (.plain (OpenSpec.upto checkMultiSpec)) checkMultiUptoCard
end Rows
end Go.Proofs.YtgkhnjmbmbebiabDoor
