/-
  DERIVED. GIVEN WITH THE SEED: THE CARDS: each row of YthblljfkodbbeaaDoorRows.lean that lists a variable, with what it lists TIED to the program's text (the seventh form; the later family's looks); each row that meets fmt, with fmt's text TOLD by the authors' own Lean function (tested against real Go, not proved from fmt's source: count such statements apart). THE CARD IS WHAT COUNTS. Prove the row's statement (the work); the ties are given (YthblljfkodbbeaaDoorTie.lean); close each card by the builder's one call (the guide's Derived/Test/ToyasCard.lean, 'card_holds'). Laid BY PROGRAM, IN A SANDBOX (cutbox-door.mjs). By AI agents, Wed Nov 11 2026. No macro, syntax, notation, axiom, sorry.
-/
import Derived.Test.YthblljfkodbbeaaDoorRows
import GoSem.ClaimSeven
namespace Go.Proofs.YthblljfkodbbeaaDoor
namespace Rows

/-- THE TIED CARD OF 'annalslaw4.TextLinesBack'. -/
def textLinesBackCard : Claim7 := { stood := { row := textLinesBackRow, standIns := [], harness := (true, "87f9c46fbe57475dc7a9b7378167d9b1de76f8dc0b164611c5bb1d036a1989ab"), looks := true }, kinds := [], alts := [], laidByText := true, laidKinds := [.data, .pinned], laidTests := true, laidLooks := .later }
def TextLinesBackCardSaid : Prop := Claim7.holds Tryd.pinned (.plain (OpenSpec.ofChange textLinesBackSpec)) textLinesBackCard

/-- THE TIED CARD OF 'annalslaw4.TextNumbers'. -/
def textNumbersCard : Claim7 := { stood := { row := textNumbersRow, standIns := [], harness := (true, "87f9c46fbe57475dc7a9b7378167d9b1de76f8dc0b164611c5bb1d036a1989ab"), looks := true }, kinds := [], alts := [], laidByText := true, laidKinds := [.data, .data, .data, .sentinel, .sentinel], laidTests := true, laidLooks := .later }
def TextNumbersCardSaid : Prop := Claim7.holds Tryd.pinned (.plain (OpenSpec.ofChange textNumbersSpec)) textNumbersCard

/-- THE TIED CARD OF 'annalslaw4.TextLines'. -/
def textLinesCard : Claim7 := { stood := { row := textLinesRow, standIns := [], harness := (true, "87f9c46fbe57475dc7a9b7378167d9b1de76f8dc0b164611c5bb1d036a1989ab"), looks := true }, kinds := [], alts := [], laidByText := true, laidKinds := [.data, .pinned], laidTests := true, laidLooks := .later }
def TextLinesCardSaid : Prop := Claim7.holds Tryd.pinned (.plain (OpenSpec.ofChange textLinesSpec)) textLinesCard

/-- THE TIED CARD OF 'annalslaw4.TextWordsBack'. -/
def textWordsBackCard : Claim7 := { stood := { row := textWordsBackRow, standIns := [], harness := (true, "87f9c46fbe57475dc7a9b7378167d9b1de76f8dc0b164611c5bb1d036a1989ab"), looks := true }, kinds := [], alts := [], laidByText := true, laidKinds := [.data, .pinned], laidTests := true, laidLooks := .later }
def TextWordsBackCardSaid : Prop := Claim7.holds Tryd.pinned (.plain (OpenSpec.ofChange textWordsBackSpec)) textWordsBackCard

/-- THE TIED CARD OF 'annalslaw4.TextOne'. -/
def textOneCard : Claim7 := { stood := { row := textOneRow, standIns := [], harness := (true, "87f9c46fbe57475dc7a9b7378167d9b1de76f8dc0b164611c5bb1d036a1989ab"), looks := true }, kinds := [], alts := [], laidByText := true, laidKinds := [.data, .data, .data, .sentinel, .sentinel], laidTests := true, laidLooks := .later }
def TextOneCardSaid : Prop := Claim7.holds Tryd.pinned (.plain (OpenSpec.ofChange textOneSpec)) textOneCard

/-- THE SECOND FORM's CARD OF 'annalslaw4.TextLinesBack'. -/
def textLinesBackUptoCard : Claim7 := { stood := { row := textLinesBackUptoRow, standIns := [], harness := (true, "87f9c46fbe57475dc7a9b7378167d9b1de76f8dc0b164611c5bb1d036a1989ab"), looks := true }, kinds := [], alts := [], laidByText := true, laidKinds := [.data, .pinned], laidTests := true, laidLooks := .later }
def TextLinesBackUptoCardSaid : Prop := Claim7.holds Tryd.pinned (.plain (OpenSpec.upto textLinesBackSpec)) textLinesBackUptoCard

/-- THE SECOND FORM's CARD OF 'annalslaw4.TextNumbers'. -/
def textNumbersUptoCard : Claim7 := { stood := { row := textNumbersUptoRow, standIns := [], harness := (true, "87f9c46fbe57475dc7a9b7378167d9b1de76f8dc0b164611c5bb1d036a1989ab"), looks := true }, kinds := [], alts := [], laidByText := true, laidKinds := [.data, .data, .data, .sentinel, .sentinel], laidTests := true, laidLooks := .later }
def TextNumbersUptoCardSaid : Prop := Claim7.holds Tryd.pinned (.plain (OpenSpec.upto textNumbersSpec)) textNumbersUptoCard

/-- THE SECOND FORM's CARD OF 'annalslaw4.TextLines'. -/
def textLinesUptoCard : Claim7 := { stood := { row := textLinesUptoRow, standIns := [], harness := (true, "87f9c46fbe57475dc7a9b7378167d9b1de76f8dc0b164611c5bb1d036a1989ab"), looks := true }, kinds := [], alts := [], laidByText := true, laidKinds := [.data, .pinned], laidTests := true, laidLooks := .later }
def TextLinesUptoCardSaid : Prop := Claim7.holds Tryd.pinned (.plain (OpenSpec.upto textLinesSpec)) textLinesUptoCard

/-- THE SECOND FORM's CARD OF 'annalslaw4.TextWordsBack'. -/
def textWordsBackUptoCard : Claim7 := { stood := { row := textWordsBackUptoRow, standIns := [], harness := (true, "87f9c46fbe57475dc7a9b7378167d9b1de76f8dc0b164611c5bb1d036a1989ab"), looks := true }, kinds := [], alts := [], laidByText := true, laidKinds := [.data, .pinned], laidTests := true, laidLooks := .later }
def TextWordsBackUptoCardSaid : Prop := Claim7.holds Tryd.pinned (.plain (OpenSpec.upto textWordsBackSpec)) textWordsBackUptoCard

/-- THE SECOND FORM's CARD OF 'annalslaw4.TextOne'. -/
def textOneUptoCard : Claim7 := { stood := { row := textOneUptoRow, standIns := [], harness := (true, "87f9c46fbe57475dc7a9b7378167d9b1de76f8dc0b164611c5bb1d036a1989ab"), looks := true }, kinds := [], alts := [], laidByText := true, laidKinds := [.data, .data, .data, .sentinel, .sentinel], laidTests := true, laidLooks := .later }
def TextOneUptoCardSaid : Prop := Claim7.holds Tryd.pinned (.plain (OpenSpec.upto textOneSpec)) textOneUptoCard
end Rows
end Go.Proofs.YthblljfkodbbeaaDoor
