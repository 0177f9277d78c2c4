/-
  DERIVED. GIVEN WITH THE SEED: THE CARDS: each row of YtgkhnjmbmbebiaaDoorRows.lean that lists a variable, with what it lists TIED to the program's text (the seventh form; the later family's looks); each row that meets fmt, with fmt's text TOLD by the authors' own Lean function (tested against real Go, not proved from fmt's source: count such statements apart). THE CARD IS WHAT COUNTS. Prove the row's statement (the work); the ties are given (YtgkhnjmbmbebiaaDoorTie.lean); close each card by the builder's one call (the guide's Derived/Test/ToyasCard.lean, 'card_holds'). Laid BY PROGRAM, IN A SANDBOX (cutbox-door.mjs). By AI agents, Wed Nov 11 2026. No macro, syntax, notation, axiom, sorry.
-/
import Derived.Test.YtgkhnjmbmbebiaaDoorRows
import GoSem.ClaimSeven
namespace Go.Proofs.YtgkhnjmbmbebiaaDoor
namespace Rows

/-- THE TIED CARD OF 'annalslaw9.CheckBuilt'. -/
def checkBuiltCard : Claim7 := { stood := { row := checkBuiltRow, standIns := [], harness := (true, "cad862322466217767f468e3acc83370547dc6fd5a5b337df4046b1c8458cdde"), looks := false }, kinds := [], alts := [], laidByText := true, laidKinds := [.data, .data], laidTests := true, laidLooks := .later }
def CheckBuiltCardSaid : Prop := Claim7.holds Tryd.pinned (.plain (OpenSpec.ofChange checkBuiltSpec)) checkBuiltCard

/-- THE TIED CARD OF 'annalslaw9.CheckSound'. -/
def checkSoundCard : Claim7 := { stood := { row := checkSoundRow, standIns := [], harness := (true, "cad862322466217767f468e3acc83370547dc6fd5a5b337df4046b1c8458cdde"), looks := false }, kinds := [], alts := [], laidByText := true, laidKinds := [.data, .data], laidTests := true, laidLooks := .later }
def CheckSoundCardSaid : Prop := Claim7.holds Tryd.pinned (.plain (OpenSpec.ofChange checkSoundSpec)) checkSoundCard

/-- THE TIED CARD OF 'annalslaw9.CheckComplete'. -/
def checkCompleteCard : Claim7 := { stood := { row := checkCompleteRow, standIns := [], harness := (true, "cad862322466217767f468e3acc83370547dc6fd5a5b337df4046b1c8458cdde"), looks := false }, kinds := [], alts := [], laidByText := true, laidKinds := [.data, .data], laidTests := true, laidLooks := .later }
def CheckCompleteCardSaid : Prop := Claim7.holds Tryd.pinned (.plain (OpenSpec.ofChange checkCompleteSpec)) checkCompleteCard

/-- THE TIED CARD OF 'annalslaw9.CheckInclusion'. -/
def checkInclusionCard : Claim7 := { stood := { row := checkInclusionRow, standIns := [], harness := (true, "cad862322466217767f468e3acc83370547dc6fd5a5b337df4046b1c8458cdde"), looks := false }, kinds := [], alts := [], laidByText := true, laidKinds := [.data, .data, .data, .data], laidTests := true, laidLooks := .later }
def CheckInclusionCardSaid : Prop := Claim7.holds Tryd.pinned (.plain (OpenSpec.ofChange checkInclusionSpec)) checkInclusionCard

/-- THE SECOND FORM's CARD OF 'annalslaw9.CheckBuilt'. -/
def checkBuiltUptoCard : Claim7 := { stood := { row := checkBuiltUptoRow, standIns := [], harness := (true, "cad862322466217767f468e3acc83370547dc6fd5a5b337df4046b1c8458cdde"), looks := false }, kinds := [], alts := [], laidByText := true, laidKinds := [.data, .data], laidTests := true, laidLooks := .later }
def CheckBuiltUptoCardSaid : Prop := Claim7.holds Tryd.pinned (.plain (OpenSpec.upto checkBuiltSpec)) checkBuiltUptoCard

/-- THE SECOND FORM's CARD OF 'annalslaw9.CheckSound'. -/
def checkSoundUptoCard : Claim7 := { stood := { row := checkSoundUptoRow, standIns := [], harness := (true, "cad862322466217767f468e3acc83370547dc6fd5a5b337df4046b1c8458cdde"), looks := false }, kinds := [], alts := [], laidByText := true, laidKinds := [.data, .data], laidTests := true, laidLooks := .later }
def CheckSoundUptoCardSaid : Prop := Claim7.holds Tryd.pinned (.plain (OpenSpec.upto checkSoundSpec)) checkSoundUptoCard

/-- THE SECOND FORM's CARD OF 'annalslaw9.CheckComplete'. -/
def checkCompleteUptoCard : Claim7 := { stood := { row := checkCompleteUptoRow, standIns := [], harness := (true, "cad862322466217767f468e3acc83370547dc6fd5a5b337df4046b1c8458cdde"), looks := false }, kinds := [], alts := [], laidByText := true, laidKinds := [.data, .data], laidTests := true, laidLooks := .later }
def CheckCompleteUptoCardSaid : Prop := Claim7.holds Tryd.pinned (.plain (OpenSpec.upto checkCompleteSpec)) checkCompleteUptoCard

/-- THE SECOND FORM's CARD OF 'annalslaw9.CheckInclusion'. -/
def checkInclusionUptoCard : Claim7 := { stood := { row := checkInclusionUptoRow, standIns := [], harness := (true, "cad862322466217767f468e3acc83370547dc6fd5a5b337df4046b1c8458cdde"), looks := false }, kinds := [], alts := [], laidByText := true, laidKinds := [.data, .data, .data, .data], laidTests := true, laidLooks := .later }
def CheckInclusionUptoCardSaid : Prop := Claim7.holds Tryd.pinned (.plain (OpenSpec.upto checkInclusionSpec)) checkInclusionUptoCard
end Rows
end Go.Proofs.YtgkhnjmbmbebiaaDoor
