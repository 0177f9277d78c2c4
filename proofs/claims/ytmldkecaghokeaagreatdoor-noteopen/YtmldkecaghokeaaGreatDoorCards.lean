/-
  DERIVED. GIVEN WITH THE SEED: THE CARDS: each row of YtmldkecaghokeaaGreatDoorRows.lean that lists a variable, with what it lists TIED to the program's text (the seventh form; the later family's looks); each row that meets fmt, with fmt's text TOLD by the authors' own Lean function (tested against real Go, not proved from fmt's source: count such statements apart). THE CARD IS WHAT COUNTS. Prove the row's statement (the work); the ties are given (YtmldkecaghokeaaGreatDoorTie.lean); close each card by the builder's one call (the guide's Derived/Test/ToyasCard.lean, 'card_holds'). Laid BY PROGRAM, IN A SANDBOX (cutbox-door.mjs). By AI agents, Wed Nov 11 2026. No macro, syntax, notation, axiom, sorry.
-/
import Derived.Test.YtmldkecaghokeaaGreatDoorRows
import GoSem.ClaimSeven
namespace Go.Proofs.YtmldkecaghokeaaGreatDoor
namespace Rows

/-- THE TIED CARD OF 'annalslaw20.NoteOpen'. -/
def noteOpenCard : Claim7 := { stood := { row := noteOpenRow, standIns := [], harness := (true, "095b57feb7ece7645239bbb0253660060260b0bf4e226d7ae2192d71e1171b98"), looks := false }, kinds := [], alts := [], laidByText := true, laidKinds := [.data, .data, .data, .data], laidTests := true, laidLooks := .later }
def NoteOpenCardSaid : Prop := Claim7.holds Tryz.pinned (.plain (OpenSpec.ofChange noteOpenSpec)) noteOpenCard

/-- THE TIED CARD OF 'annalslaw20.NoteAdd'. -/
def noteAddCard : Claim7 := { stood := { row := noteAddRow, standIns := [], harness := (true, "095b57feb7ece7645239bbb0253660060260b0bf4e226d7ae2192d71e1171b98"), looks := false }, kinds := [], alts := [], laidByText := true, laidKinds := [.data, .data, .data, .data], laidTests := true, laidLooks := .later }
def NoteAddCardSaid : Prop := Claim7.holds Tryz.pinned (.plain (OpenSpec.ofChange noteAddSpec)) noteAddCard

/-- THE SECOND FORM's CARD OF 'annalslaw20.NoteOpen'. -/
def noteOpenUptoCard : Claim7 := { stood := { row := noteOpenUptoRow, standIns := [], harness := (true, "095b57feb7ece7645239bbb0253660060260b0bf4e226d7ae2192d71e1171b98"), looks := false }, kinds := [], alts := [], laidByText := true, laidKinds := [.data, .data, .data, .data], laidTests := true, laidLooks := .later }
def NoteOpenUptoCardSaid : Prop := Claim7.holds Tryz.pinned (.plain (OpenSpec.upto noteOpenSpec)) noteOpenUptoCard

/-- THE SECOND FORM's CARD OF 'annalslaw20.NoteAdd'. -/
def noteAddUptoCard : Claim7 := { stood := { row := noteAddUptoRow, standIns := [], harness := (true, "095b57feb7ece7645239bbb0253660060260b0bf4e226d7ae2192d71e1171b98"), looks := false }, kinds := [], alts := [], laidByText := true, laidKinds := [.data, .data, .data, .data], laidTests := true, laidLooks := .later }
def NoteAddUptoCardSaid : Prop := Claim7.holds Tryz.pinned (.plain (OpenSpec.upto noteAddSpec)) noteAddUptoCard
end Rows
end Go.Proofs.YtmldkecaghokeaaGreatDoor
