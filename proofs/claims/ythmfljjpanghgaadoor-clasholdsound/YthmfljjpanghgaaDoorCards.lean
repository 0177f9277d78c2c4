/-
  DERIVED. GIVEN WITH THE SEED: THE CARDS: each row of YthmfljjpanghgaaDoorRows.lean that lists a variable, with what it lists TIED to the program's text (the seventh form; the later family's looks); each row that meets fmt, with fmt's text TOLD by the authors' own Lean function (tested against real Go, not proved from fmt's source: count such statements apart). THE CARD IS WHAT COUNTS. Prove the row's statement (the work); the ties are given (YthmfljjpanghgaaDoorTie.lean); close each card by the builder's one call (the guide's Derived/Test/ToyasCard.lean, 'card_holds'). Laid BY PROGRAM, IN A SANDBOX (cutbox-door.mjs). By AI agents, Wed Nov 11 2026. No macro, syntax, notation, axiom, sorry.
-/
import Derived.Test.YthmfljjpanghgaaDoorRows
import GoSem.ClaimSeven
namespace Go.Proofs.YthmfljjpanghgaaDoor
namespace Rows

/-- THE TIED CARD OF 'annalslaw9.CheckSound'. -/
def checkSoundCard : Claim7 := { stood := { row := checkSoundRow, standIns := [], harness := (true, "5809438df616f881c70342415a29c48faee805ed1ce732b9d4cbac319ba1fd77"), looks := true }, kinds := [], alts := [], laidByText := true, laidKinds := [.data, .data], laidTests := true, laidLooks := .later }
def CheckSoundCardSaid : Prop := Claim7.holds Tryd.pinned (.plain (OpenSpec.ofChange checkSoundSpec)) checkSoundCard

/-- THE TIED CARD OF 'annalslaw9.CheckComplete'. -/
def checkCompleteCard : Claim7 := { stood := { row := checkCompleteRow, standIns := [], harness := (true, "5809438df616f881c70342415a29c48faee805ed1ce732b9d4cbac319ba1fd77"), looks := true }, kinds := [], alts := [], laidByText := true, laidKinds := [.data, .data], laidTests := true, laidLooks := .later }
def CheckCompleteCardSaid : Prop := Claim7.holds Tryd.pinned (.plain (OpenSpec.ofChange checkCompleteSpec)) checkCompleteCard

/-- THE TIED CARD OF 'annalslaw9.CheckConsistency'. -/
def checkConsistencyCard : Claim7 := { stood := { row := checkConsistencyRow, standIns := [], harness := (true, "5809438df616f881c70342415a29c48faee805ed1ce732b9d4cbac319ba1fd77"), looks := true }, kinds := [], alts := [], laidByText := true, laidKinds := [.data, .data, .data, .data], laidTests := true, laidLooks := .later }
def CheckConsistencyCardSaid : Prop := Claim7.holds Tryd.pinned (.plain (OpenSpec.ofChange checkConsistencySpec)) checkConsistencyCard

/-- THE TIED CARD OF 'annalslaw10.ClashOldSound'. -/
def clashOldSoundCard : Claim7 := { stood := { row := clashOldSoundRow, standIns := [], harness := (true, "5809438df616f881c70342415a29c48faee805ed1ce732b9d4cbac319ba1fd77"), looks := true }, kinds := [], alts := [], laidByText := true, laidKinds := [.data, .data], laidTests := true, laidLooks := .later }
def ClashOldSoundCardSaid : Prop := Claim7.holds Tryd.pinned (.plain (OpenSpec.ofChange clashOldSoundSpec)) clashOldSoundCard

/-- THE SECOND FORM's CARD OF 'annalslaw9.CheckSound'. -/
def checkSoundUptoCard : Claim7 := { stood := { row := checkSoundUptoRow, standIns := [], harness := (true, "5809438df616f881c70342415a29c48faee805ed1ce732b9d4cbac319ba1fd77"), looks := true }, kinds := [], alts := [], laidByText := true, laidKinds := [.data, .data], laidTests := true, laidLooks := .later }
def CheckSoundUptoCardSaid : Prop := Claim7.holds Tryd.pinned (.plain (OpenSpec.upto checkSoundSpec)) checkSoundUptoCard

/-- THE SECOND FORM's CARD OF 'annalslaw9.CheckComplete'. -/
def checkCompleteUptoCard : Claim7 := { stood := { row := checkCompleteUptoRow, standIns := [], harness := (true, "5809438df616f881c70342415a29c48faee805ed1ce732b9d4cbac319ba1fd77"), looks := true }, kinds := [], alts := [], laidByText := true, laidKinds := [.data, .data], laidTests := true, laidLooks := .later }
def CheckCompleteUptoCardSaid : Prop := Claim7.holds Tryd.pinned (.plain (OpenSpec.upto checkCompleteSpec)) checkCompleteUptoCard

/-- THE SECOND FORM's CARD OF 'annalslaw9.CheckConsistency'. -/
def checkConsistencyUptoCard : Claim7 := { stood := { row := checkConsistencyUptoRow, standIns := [], harness := (true, "5809438df616f881c70342415a29c48faee805ed1ce732b9d4cbac319ba1fd77"), looks := true }, kinds := [], alts := [], laidByText := true, laidKinds := [.data, .data, .data, .data], laidTests := true, laidLooks := .later }
def CheckConsistencyUptoCardSaid : Prop := Claim7.holds Tryd.pinned (.plain (OpenSpec.upto checkConsistencySpec)) checkConsistencyUptoCard

/-- THE SECOND FORM's CARD OF 'annalslaw10.ClashOldSound'. -/
def clashOldSoundUptoCard : Claim7 := { stood := { row := clashOldSoundUptoRow, standIns := [], harness := (true, "5809438df616f881c70342415a29c48faee805ed1ce732b9d4cbac319ba1fd77"), looks := true }, kinds := [], alts := [], laidByText := true, laidKinds := [.data, .data], laidTests := true, laidLooks := .later }
def ClashOldSoundUptoCardSaid : Prop := Claim7.holds Tryd.pinned (.plain (OpenSpec.upto clashOldSoundSpec)) clashOldSoundUptoCard
end Rows
end Go.Proofs.YthmfljjpanghgaaDoor
