/-
  DERIVED. GIVEN WITH THE SEED: THE CARDS: each row of YtfaalpdeabdhcaaGreatDoorRows.lean that lists a variable, with what it lists TIED to the program's text (the seventh form; the later family's looks); each row that meets fmt, with fmt's text TOLD by the authors' own Lean function (tested against real Go, not proved from fmt's source: count such statements apart). THE CARD IS WHAT COUNTS. Prove the row's statement (the work); the ties are given (YtfaalpdeabdhcaaGreatDoorTie.lean); close each card by the builder's one call (the guide's Derived/Test/ToyasCard.lean, 'card_holds'). Laid BY PROGRAM, IN A SANDBOX (cutbox-door.mjs). By AI agents, Wed Nov 11 2026. No macro, syntax, notation, axiom, sorry.
-/
import Derived.Test.YtfaalpdeabdhcaaGreatDoorRows
import GoSem.ClaimSeven
namespace Go.Proofs.YtfaalpdeabdhcaaGreatDoor
namespace Rows

/-- THE TIED CARD OF 'annalslaw10.ClashRangeSound'. -/
def clashRangeSoundCard : Claim7 := { stood := { row := clashRangeSoundRow, standIns := [], harness := (true, "bd157c452a3f5bd252b46157c2bcae01c5373db4aa51038d21e5eb59679ac2b0"), looks := true }, kinds := [], alts := [], laidByText := true, laidKinds := [.data, .data], laidTests := true, laidLooks := .later }
def ClashRangeSoundCardSaid : Prop := Claim7.holds Tryz.pinned (.plain (OpenSpec.ofChange clashRangeSoundSpec)) clashRangeSoundCard

/-- THE TIED CARD OF 'annalslaw10.ClashMultiSound'. -/
def clashMultiSoundCard : Claim7 := { stood := { row := clashMultiSoundRow, standIns := [], harness := (true, "bd157c452a3f5bd252b46157c2bcae01c5373db4aa51038d21e5eb59679ac2b0"), looks := true }, kinds := [], alts := [], laidByText := true, laidKinds := [.data, .data], laidTests := true, laidLooks := .later }
def ClashMultiSoundCardSaid : Prop := Claim7.holds Tryz.pinned (.plain (OpenSpec.ofChange clashMultiSoundSpec)) clashMultiSoundCard

/-- THE TIED CARD OF 'annalslaw10.ClashLeaf'. -/
def clashLeafCard : Claim7 := { stood := { row := clashLeafRow, standIns := [], harness := (true, "bd157c452a3f5bd252b46157c2bcae01c5373db4aa51038d21e5eb59679ac2b0"), looks := true }, kinds := [], alts := [], laidByText := true, laidKinds := [.data, .data, .data, .data], laidTests := true, laidLooks := .later }
def ClashLeafCardSaid : Prop := Claim7.holds Tryz.pinned (.plain (OpenSpec.ofChange clashLeafSpec)) clashLeafCard

/-- THE TIED CARD OF 'annalslaw10.ClashOld'. -/
def clashOldCard : Claim7 := { stood := { row := clashOldRow, standIns := [], harness := (true, "bd157c452a3f5bd252b46157c2bcae01c5373db4aa51038d21e5eb59679ac2b0"), looks := true }, kinds := [], alts := [], laidByText := true, laidKinds := [.data, .data, .data, .data], laidTests := true, laidLooks := .later }
def ClashOldCardSaid : Prop := Claim7.holds Tryz.pinned (.plain (OpenSpec.ofChange clashOldSpec)) clashOldCard

/-- THE SECOND FORM's CARD OF 'annalslaw10.ClashRangeSound'. -/
def clashRangeSoundUptoCard : Claim7 := { stood := { row := clashRangeSoundUptoRow, standIns := [], harness := (true, "bd157c452a3f5bd252b46157c2bcae01c5373db4aa51038d21e5eb59679ac2b0"), looks := true }, kinds := [], alts := [], laidByText := true, laidKinds := [.data, .data], laidTests := true, laidLooks := .later }
def ClashRangeSoundUptoCardSaid : Prop := Claim7.holds Tryz.pinned (.plain (OpenSpec.upto clashRangeSoundSpec)) clashRangeSoundUptoCard

/-- THE SECOND FORM's CARD OF 'annalslaw10.ClashMultiSound'. -/
def clashMultiSoundUptoCard : Claim7 := { stood := { row := clashMultiSoundUptoRow, standIns := [], harness := (true, "bd157c452a3f5bd252b46157c2bcae01c5373db4aa51038d21e5eb59679ac2b0"), looks := true }, kinds := [], alts := [], laidByText := true, laidKinds := [.data, .data], laidTests := true, laidLooks := .later }
def ClashMultiSoundUptoCardSaid : Prop := Claim7.holds Tryz.pinned (.plain (OpenSpec.upto clashMultiSoundSpec)) clashMultiSoundUptoCard

/-- THE SECOND FORM's CARD OF 'annalslaw10.ClashLeaf'. -/
def clashLeafUptoCard : Claim7 := { stood := { row := clashLeafUptoRow, standIns := [], harness := (true, "bd157c452a3f5bd252b46157c2bcae01c5373db4aa51038d21e5eb59679ac2b0"), looks := true }, kinds := [], alts := [], laidByText := true, laidKinds := [.data, .data, .data, .data], laidTests := true, laidLooks := .later }
def ClashLeafUptoCardSaid : Prop := Claim7.holds Tryz.pinned (.plain (OpenSpec.upto clashLeafSpec)) clashLeafUptoCard

/-- THE SECOND FORM's CARD OF 'annalslaw10.ClashOld'. -/
def clashOldUptoCard : Claim7 := { stood := { row := clashOldUptoRow, standIns := [], harness := (true, "bd157c452a3f5bd252b46157c2bcae01c5373db4aa51038d21e5eb59679ac2b0"), looks := true }, kinds := [], alts := [], laidByText := true, laidKinds := [.data, .data, .data, .data], laidTests := true, laidLooks := .later }
def ClashOldUptoCardSaid : Prop := Claim7.holds Tryz.pinned (.plain (OpenSpec.upto clashOldSpec)) clashOldUptoCard
end Rows
end Go.Proofs.YtfaalpdeabdhcaaGreatDoor
