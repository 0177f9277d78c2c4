/-
  DERIVED. GIVEN WITH THE SEED: THE CARDS: each row of YtfaalpdeabdhcaaDoorRows.lean that lists a variable, with what it lists TIED to the program's text (the seventh form; the later family's looks); each row that meets fmt, with fmt's text TOLD by the authors' own Lean function (tested against real Go, not proved from fmt's source: count such statements apart). THE CARD IS WHAT COUNTS. Prove the row's statement (the work); the ties are given (YtfaalpdeabdhcaaDoorTie.lean); close each card by the builder's one call (the guide's Derived/Test/ToyasCard.lean, 'card_holds'). Laid BY PROGRAM, IN A SANDBOX (cutbox-door.mjs). By AI agents, Wed Nov 11 2026. No macro, syntax, notation, axiom, sorry.
-/
import Derived.Test.YtfaalpdeabdhcaaDoorRows
import GoSem.ClaimSeven
namespace Go.Proofs.YtfaalpdeabdhcaaDoor
namespace Rows

/-- THE TIED CARD OF 'annalslaw10.ClashLeafSound'. -/
def clashLeafSoundCard : Claim7 := { stood := { row := clashLeafSoundRow, standIns := [], harness := (true, "7edc20a3ecd08c7d50297a5a26d923a05c21e59c8daa1b31764256616dcdb765"), looks := true }, kinds := [], alts := [], laidByText := true, laidKinds := [.data, .data], laidTests := true, laidLooks := .later }
def ClashLeafSoundCardSaid : Prop := Claim7.holds Tryd.pinned (.plain (OpenSpec.ofChange clashLeafSoundSpec)) clashLeafSoundCard

/-- THE TIED CARD OF 'annalslaw10.ClashOldSound'. -/
def clashOldSoundCard : Claim7 := { stood := { row := clashOldSoundRow, standIns := [], harness := (true, "7edc20a3ecd08c7d50297a5a26d923a05c21e59c8daa1b31764256616dcdb765"), looks := true }, kinds := [], alts := [], laidByText := true, laidKinds := [.data, .data], laidTests := true, laidLooks := .later }
def ClashOldSoundCardSaid : Prop := Claim7.holds Tryd.pinned (.plain (OpenSpec.ofChange clashOldSoundSpec)) clashOldSoundCard

/-- THE SECOND FORM's CARD OF 'annalslaw10.ClashLeafSound'. -/
def clashLeafSoundUptoCard : Claim7 := { stood := { row := clashLeafSoundUptoRow, standIns := [], harness := (true, "7edc20a3ecd08c7d50297a5a26d923a05c21e59c8daa1b31764256616dcdb765"), looks := true }, kinds := [], alts := [], laidByText := true, laidKinds := [.data, .data], laidTests := true, laidLooks := .later }
def ClashLeafSoundUptoCardSaid : Prop := Claim7.holds Tryd.pinned (.plain (OpenSpec.upto clashLeafSoundSpec)) clashLeafSoundUptoCard

/-- THE SECOND FORM's CARD OF 'annalslaw10.ClashOldSound'. -/
def clashOldSoundUptoCard : Claim7 := { stood := { row := clashOldSoundUptoRow, standIns := [], harness := (true, "7edc20a3ecd08c7d50297a5a26d923a05c21e59c8daa1b31764256616dcdb765"), looks := true }, kinds := [], alts := [], laidByText := true, laidKinds := [.data, .data], laidTests := true, laidLooks := .later }
def ClashOldSoundUptoCardSaid : Prop := Claim7.holds Tryd.pinned (.plain (OpenSpec.upto clashOldSoundSpec)) clashOldSoundUptoCard
end Rows
end Go.Proofs.YtfaalpdeabdhcaaDoor
