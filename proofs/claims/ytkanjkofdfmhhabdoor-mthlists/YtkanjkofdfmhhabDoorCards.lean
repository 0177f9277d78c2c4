/-
  DERIVED. GIVEN WITH THE SEED: THE CARDS: each row of YtkanjkofdfmhhabDoorRows.lean that lists a variable, with what it lists TIED to the program's text (the seventh form; the later family's looks); each row that meets fmt, with fmt's text TOLD by the authors' own Lean function (tested against real Go, not proved from fmt's source: count such statements apart). THE CARD IS WHAT COUNTS. Prove the row's statement (the work); the ties are given (YtkanjkofdfmhhabDoorTie.lean); close each card by the builder's one call (the guide's Derived/Test/ToyasCard.lean, 'card_holds'). Laid BY PROGRAM, IN A SANDBOX (cutbox-door.mjs). By AI agents, Wed Nov 11 2026. No macro, syntax, notation, axiom, sorry.
-/
import Derived.Test.YtkanjkofdfmhhabDoorRows
import GoSem.ClaimSeven
namespace Go.Proofs.YtkanjkofdfmhhabDoor
namespace Rows

/-- THE TIED CARD OF 'annalslaw6.MthProof'. -/
def mthProofCard : Claim7 := { stood := { row := mthProofRow, standIns := [], harness := (true, "d24a2ddc19a5e8d00ecfe0f35f633cd55176f9b6bb57085e12297a2129922628"), looks := false }, kinds := [], alts := [], laidByText := true, laidKinds := [.data, .data, .data, .data], laidTests := true, laidLooks := .later }
def MthProofCardSaid : Prop := Claim7.holds Tryd.pinned (.plain (OpenSpec.ofChange mthProofSpec)) mthProofCard

/-- THE TIED CARD OF 'annalslaw6.MthNode'. -/
def mthNodeCard : Claim7 := { stood := { row := mthNodeRow, standIns := [], harness := (true, "d24a2ddc19a5e8d00ecfe0f35f633cd55176f9b6bb57085e12297a2129922628"), looks := false }, kinds := [], alts := [], laidByText := true, laidKinds := [.data, .data, .data, .data], laidTests := true, laidLooks := .later }
def MthNodeCardSaid : Prop := Claim7.holds Tryd.pinned (.plain (OpenSpec.ofChange mthNodeSpec)) mthNodeCard

/-- THE TIED CARD OF 'annalslaw6.MthLists'. -/
def mthListsCard : Claim7 := { stood := { row := mthListsRow, standIns := [], harness := (true, "d24a2ddc19a5e8d00ecfe0f35f633cd55176f9b6bb57085e12297a2129922628"), looks := false }, kinds := [], alts := [], laidByText := true, laidKinds := [.data, .data, .data, .data], laidTests := true, laidLooks := .later }
def MthListsCardSaid : Prop := Claim7.holds Tryd.pinned (.plain (OpenSpec.ofChange mthListsSpec)) mthListsCard

/-- THE SECOND FORM's CARD OF 'annalslaw6.MthProof'. -/
def mthProofUptoCard : Claim7 := { stood := { row := mthProofUptoRow, standIns := [], harness := (true, "d24a2ddc19a5e8d00ecfe0f35f633cd55176f9b6bb57085e12297a2129922628"), looks := false }, kinds := [], alts := [], laidByText := true, laidKinds := [.data, .data, .data, .data], laidTests := true, laidLooks := .later }
def MthProofUptoCardSaid : Prop := Claim7.holds Tryd.pinned (.plain (OpenSpec.upto mthProofSpec)) mthProofUptoCard

/-- THE SECOND FORM's CARD OF 'annalslaw6.MthNode'. -/
def mthNodeUptoCard : Claim7 := { stood := { row := mthNodeUptoRow, standIns := [], harness := (true, "d24a2ddc19a5e8d00ecfe0f35f633cd55176f9b6bb57085e12297a2129922628"), looks := false }, kinds := [], alts := [], laidByText := true, laidKinds := [.data, .data, .data, .data], laidTests := true, laidLooks := .later }
def MthNodeUptoCardSaid : Prop := Claim7.holds Tryd.pinned (.plain (OpenSpec.upto mthNodeSpec)) mthNodeUptoCard

/-- THE SECOND FORM's CARD OF 'annalslaw6.MthLists'. -/
def mthListsUptoCard : Claim7 := { stood := { row := mthListsUptoRow, standIns := [], harness := (true, "d24a2ddc19a5e8d00ecfe0f35f633cd55176f9b6bb57085e12297a2129922628"), looks := false }, kinds := [], alts := [], laidByText := true, laidKinds := [.data, .data, .data, .data], laidTests := true, laidLooks := .later }
def MthListsUptoCardSaid : Prop := Claim7.holds Tryd.pinned (.plain (OpenSpec.upto mthListsSpec)) mthListsUptoCard
end Rows
end Go.Proofs.YtkanjkofdfmhhabDoor
