/-
  DERIVED. GIVEN WITH THE SEED: THE CARDS: each row of YtagkafmjnboobaaGreatDoorRows.lean that lists a variable, with what it lists TIED to the program's text (the seventh form; the later family's looks); each row that meets fmt, with fmt's text TOLD by the authors' own Lean function (tested against real Go, not proved from fmt's source: count such statements apart). THE CARD IS WHAT COUNTS. Prove the row's statement (the work); the ties are given (YtagkafmjnboobaaGreatDoorTie.lean); close each card by the builder's one call (the guide's Derived/Test/ToyasCard.lean, 'card_holds'). Laid BY PROGRAM, IN A SANDBOX (cutbox-door.mjs). By AI agents, Wed Nov 11 2026. No macro, syntax, notation, axiom, sorry.
-/
import Derived.Test.YtagkafmjnboobaaGreatDoorRows
import GoSem.ClaimSeven
namespace Go.Proofs.YtagkafmjnboobaaGreatDoor
namespace Rows

/-- THE TIED CARD OF 'annalslaw10.ClashLeaf'. -/
def clashLeafCard : Claim7 := { stood := { row := clashLeafRow, standIns := [], harness := (true, "434f1d05b99fdbc9fc163fddb46905a095b726fe9a3a07f7397adfd36267cc83"), looks := true }, kinds := [], alts := [], laidByText := true, laidKinds := [.data, .data, .data, .data], laidTests := true, laidLooks := .later }
def ClashLeafCardSaid : Prop := Claim7.holds Tryz.pinned (.plain (OpenSpec.ofChange clashLeafSpec)) clashLeafCard

/-- THE TIED CARD OF 'annalslaw10.ClashOld'. -/
def clashOldCard : Claim7 := { stood := { row := clashOldRow, standIns := [], harness := (true, "434f1d05b99fdbc9fc163fddb46905a095b726fe9a3a07f7397adfd36267cc83"), looks := true }, kinds := [], alts := [], laidByText := true, laidKinds := [.data, .data, .data, .data], laidTests := true, laidLooks := .later }
def ClashOldCardSaid : Prop := Claim7.holds Tryz.pinned (.plain (OpenSpec.ofChange clashOldSpec)) clashOldCard

/-- THE SECOND FORM's CARD OF 'annalslaw10.ClashLeaf'. -/
def clashLeafUptoCard : Claim7 := { stood := { row := clashLeafUptoRow, standIns := [], harness := (true, "434f1d05b99fdbc9fc163fddb46905a095b726fe9a3a07f7397adfd36267cc83"), looks := true }, kinds := [], alts := [], laidByText := true, laidKinds := [.data, .data, .data, .data], laidTests := true, laidLooks := .later }
def ClashLeafUptoCardSaid : Prop := Claim7.holds Tryz.pinned (.plain (OpenSpec.upto clashLeafSpec)) clashLeafUptoCard

/-- THE SECOND FORM's CARD OF 'annalslaw10.ClashOld'. -/
def clashOldUptoCard : Claim7 := { stood := { row := clashOldUptoRow, standIns := [], harness := (true, "434f1d05b99fdbc9fc163fddb46905a095b726fe9a3a07f7397adfd36267cc83"), looks := true }, kinds := [], alts := [], laidByText := true, laidKinds := [.data, .data, .data, .data], laidTests := true, laidLooks := .later }
def ClashOldUptoCardSaid : Prop := Claim7.holds Tryz.pinned (.plain (OpenSpec.upto clashOldSpec)) clashOldUptoCard
end Rows
end Go.Proofs.YtagkafmjnboobaaGreatDoor
