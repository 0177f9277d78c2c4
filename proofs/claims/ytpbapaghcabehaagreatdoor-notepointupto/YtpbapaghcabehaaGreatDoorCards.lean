/-
  DERIVED. GIVEN WITH THE SEED: THE CARDS: each row of YtpbapaghcabehaaGreatDoorRows.lean that lists a variable, with what it lists TIED to the program's text (the seventh form; the later family's looks); each row that meets fmt, with fmt's text TOLD by the authors' own Lean function (tested against real Go, not proved from fmt's source: count such statements apart). THE CARD IS WHAT COUNTS. Prove the row's statement (the work); the ties are given (YtpbapaghcabehaaGreatDoorTie.lean); close each card by the builder's one call (the guide's Derived/Test/ToyasCard.lean, 'card_holds'). Laid BY PROGRAM, IN A SANDBOX (cutbox-door.mjs). By AI agents, Wed Nov 11 2026. No macro, syntax, notation, axiom, sorry.
-/
import Derived.Test.YtpbapaghcabehaaGreatDoorRows
import GoSem.ClaimSeven
namespace Go.Proofs.YtpbapaghcabehaaGreatDoor
namespace Rows

/-- THE TIED CARD OF 'annalslaw20.NoteParse'. -/
def noteParseCard : Claim7 := { stood := { row := noteParseRow, standIns := [], harness := (true, "c494182c1de86fc1d354f1ec1318dc9d9f1ecdf197ef69a5623bd3d929e1b1aa"), looks := true }, kinds := [], alts := [], laidByText := true, laidKinds := [.data, .data, .data, .data, .sentinel, .sentinel, .pinned], laidTests := true, laidLooks := .later }
def NoteParseCardSaid : Prop := Claim7.holds Tryz.pinned (.plain (OpenSpec.ofChange noteParseSpec)) noteParseCard

/-- THE TIED CARD OF 'annalslaw20.NotePoint'. -/
def notePointCard : Claim7 := { stood := { row := notePointRow, standIns := [], harness := (true, "c494182c1de86fc1d354f1ec1318dc9d9f1ecdf197ef69a5623bd3d929e1b1aa"), looks := true }, kinds := [], alts := [], laidByText := true, laidKinds := [.data, .data, .data, .data, .data, .data, .sentinel, .sentinel, .pinned], laidTests := true, laidLooks := .later }
def NotePointCardSaid : Prop := Claim7.holds Tryz.pinned (.plain (OpenSpec.ofChange notePointSpec)) notePointCard

/-- THE TIED CARD OF 'annalslaw20.NoteFresh'. -/
def noteFreshCard : Claim7 := { stood := { row := noteFreshRow, standIns := [], harness := (true, "c494182c1de86fc1d354f1ec1318dc9d9f1ecdf197ef69a5623bd3d929e1b1aa"), looks := true }, kinds := [], alts := [], laidByText := true, laidKinds := [.data, .data, .data, .data, .data, .data, .data, .data, .sentinel, .sentinel, .pinned], laidTests := true, laidLooks := .later }
def NoteFreshCardSaid : Prop := Claim7.holds Tryz.pinned (.plain (OpenSpec.ofChange noteFreshSpec)) noteFreshCard

/-- THE SECOND FORM's CARD OF 'annalslaw20.NoteParse'. -/
def noteParseUptoCard : Claim7 := { stood := { row := noteParseUptoRow, standIns := [], harness := (true, "c494182c1de86fc1d354f1ec1318dc9d9f1ecdf197ef69a5623bd3d929e1b1aa"), looks := true }, kinds := [], alts := [], laidByText := true, laidKinds := [.data, .data, .data, .data, .sentinel, .sentinel, .pinned], laidTests := true, laidLooks := .later }
def NoteParseUptoCardSaid : Prop := Claim7.holds Tryz.pinned (.plain (OpenSpec.upto noteParseSpec)) noteParseUptoCard

/-- THE SECOND FORM's CARD OF 'annalslaw20.NotePoint'. -/
def notePointUptoCard : Claim7 := { stood := { row := notePointUptoRow, standIns := [], harness := (true, "c494182c1de86fc1d354f1ec1318dc9d9f1ecdf197ef69a5623bd3d929e1b1aa"), looks := true }, kinds := [], alts := [], laidByText := true, laidKinds := [.data, .data, .data, .data, .data, .data, .sentinel, .sentinel, .pinned], laidTests := true, laidLooks := .later }
def NotePointUptoCardSaid : Prop := Claim7.holds Tryz.pinned (.plain (OpenSpec.upto notePointSpec)) notePointUptoCard

/-- THE SECOND FORM's CARD OF 'annalslaw20.NoteFresh'. -/
def noteFreshUptoCard : Claim7 := { stood := { row := noteFreshUptoRow, standIns := [], harness := (true, "c494182c1de86fc1d354f1ec1318dc9d9f1ecdf197ef69a5623bd3d929e1b1aa"), looks := true }, kinds := [], alts := [], laidByText := true, laidKinds := [.data, .data, .data, .data, .data, .data, .data, .data, .sentinel, .sentinel, .pinned], laidTests := true, laidLooks := .later }
def NoteFreshUptoCardSaid : Prop := Claim7.holds Tryz.pinned (.plain (OpenSpec.upto noteFreshSpec)) noteFreshUptoCard
end Rows
end Go.Proofs.YtpbapaghcabehaaGreatDoor
