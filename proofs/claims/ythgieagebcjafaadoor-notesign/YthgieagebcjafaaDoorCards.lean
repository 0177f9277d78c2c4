/-
  DERIVED. GIVEN WITH THE SEED: THE CARDS: each row of YthgieagebcjafaaDoorRows.lean that lists a variable, with what it lists TIED to the program's text (the seventh form; the later family's looks); each row that meets fmt, with fmt's text TOLD by the authors' own Lean function (tested against real Go, not proved from fmt's source: count such statements apart). THE CARD IS WHAT COUNTS. Prove the row's statement (the work); the ties are given (YthgieagebcjafaaDoorTie.lean); close each card by the builder's one call (the guide's Derived/Test/ToyasCard.lean, 'card_holds'). Laid BY PROGRAM, IN A SANDBOX (cutbox-door.mjs). By AI agents, Wed Nov 11 2026. No macro, syntax, notation, axiom, sorry.
-/
import Derived.Test.YthgieagebcjafaaDoorRows
import GoSem.ClaimSeven
namespace Go.Proofs.YthgieagebcjafaaDoor
namespace Rows

/-- THE TIED CARD OF 'annalslaw20.NoteNames'. -/
def noteNamesCard : Claim7 := { stood := { row := noteNamesRow, standIns := [], harness := (true, "d7c478fd84392efc779cbeb7d3c6499ed5b7a7f5e90df022cc80bdbb53aac9e1"), looks := false }, kinds := [], alts := [], laidByText := true, laidKinds := [.data, .data], laidTests := true, laidLooks := .later }
def NoteNamesCardSaid : Prop := Claim7.holds Tryd.pinned (.plain (OpenSpec.ofChange noteNamesSpec)) noteNamesCard

/-- THE TIED CARD OF 'annalslaw20.NoteText'. -/
def noteTextCard : Claim7 := { stood := { row := noteTextRow, standIns := [], harness := (true, "d7c478fd84392efc779cbeb7d3c6499ed5b7a7f5e90df022cc80bdbb53aac9e1"), looks := false }, kinds := [], alts := [], laidByText := true, laidKinds := [.data, .data, .data], laidTests := true, laidLooks := .later }
def NoteTextCardSaid : Prop := Claim7.holds Tryd.pinned (.plain (OpenSpec.ofChange noteTextSpec)) noteTextCard

/-- THE TIED CARD OF 'annalslaw20.NoteID'. -/
def noteIDCard : Claim7 := { stood := { row := noteIDRow, standIns := [], harness := (true, "d7c478fd84392efc779cbeb7d3c6499ed5b7a7f5e90df022cc80bdbb53aac9e1"), looks := false }, kinds := [], alts := [], laidByText := true, laidKinds := [.data, .data, .data, .data], laidTests := true, laidLooks := .later }
def NoteIDCardSaid : Prop := Claim7.holds Tryd.pinned (.plain (OpenSpec.ofChange noteIDSpec)) noteIDCard

/-- THE TIED CARD OF 'annalslaw20.NoteSign'. -/
def noteSignCard : Claim7 := { stood := { row := noteSignRow, standIns := [], harness := (true, "d7c478fd84392efc779cbeb7d3c6499ed5b7a7f5e90df022cc80bdbb53aac9e1"), looks := false }, kinds := [], alts := [], laidByText := true, laidKinds := [.data, .data, .data, .data], laidTests := true, laidLooks := .later }
def NoteSignCardSaid : Prop := Claim7.holds Tryd.pinned (.plain (OpenSpec.ofChange noteSignSpec)) noteSignCard

/-- THE TIED CARD OF 'annalslaw20.NoteBack'. -/
def noteBackCard : Claim7 := { stood := { row := noteBackRow, standIns := [], harness := (true, "d7c478fd84392efc779cbeb7d3c6499ed5b7a7f5e90df022cc80bdbb53aac9e1"), looks := false }, kinds := [], alts := [], laidByText := true, laidKinds := [.data, .data], laidTests := true, laidLooks := .later }
def NoteBackCardSaid : Prop := Claim7.holds Tryd.pinned (.plain (OpenSpec.ofChange noteBackSpec)) noteBackCard

/-- THE SECOND FORM's CARD OF 'annalslaw20.NoteNames'. -/
def noteNamesUptoCard : Claim7 := { stood := { row := noteNamesUptoRow, standIns := [], harness := (true, "d7c478fd84392efc779cbeb7d3c6499ed5b7a7f5e90df022cc80bdbb53aac9e1"), looks := false }, kinds := [], alts := [], laidByText := true, laidKinds := [.data, .data], laidTests := true, laidLooks := .later }
def NoteNamesUptoCardSaid : Prop := Claim7.holds Tryd.pinned (.plain (OpenSpec.upto noteNamesSpec)) noteNamesUptoCard

/-- THE SECOND FORM's CARD OF 'annalslaw20.NoteText'. -/
def noteTextUptoCard : Claim7 := { stood := { row := noteTextUptoRow, standIns := [], harness := (true, "d7c478fd84392efc779cbeb7d3c6499ed5b7a7f5e90df022cc80bdbb53aac9e1"), looks := false }, kinds := [], alts := [], laidByText := true, laidKinds := [.data, .data, .data], laidTests := true, laidLooks := .later }
def NoteTextUptoCardSaid : Prop := Claim7.holds Tryd.pinned (.plain (OpenSpec.upto noteTextSpec)) noteTextUptoCard

/-- THE SECOND FORM's CARD OF 'annalslaw20.NoteID'. -/
def noteIDUptoCard : Claim7 := { stood := { row := noteIDUptoRow, standIns := [], harness := (true, "d7c478fd84392efc779cbeb7d3c6499ed5b7a7f5e90df022cc80bdbb53aac9e1"), looks := false }, kinds := [], alts := [], laidByText := true, laidKinds := [.data, .data, .data, .data], laidTests := true, laidLooks := .later }
def NoteIDUptoCardSaid : Prop := Claim7.holds Tryd.pinned (.plain (OpenSpec.upto noteIDSpec)) noteIDUptoCard

/-- THE SECOND FORM's CARD OF 'annalslaw20.NoteSign'. -/
def noteSignUptoCard : Claim7 := { stood := { row := noteSignUptoRow, standIns := [], harness := (true, "d7c478fd84392efc779cbeb7d3c6499ed5b7a7f5e90df022cc80bdbb53aac9e1"), looks := false }, kinds := [], alts := [], laidByText := true, laidKinds := [.data, .data, .data, .data], laidTests := true, laidLooks := .later }
def NoteSignUptoCardSaid : Prop := Claim7.holds Tryd.pinned (.plain (OpenSpec.upto noteSignSpec)) noteSignUptoCard

/-- THE SECOND FORM's CARD OF 'annalslaw20.NoteBack'. -/
def noteBackUptoCard : Claim7 := { stood := { row := noteBackUptoRow, standIns := [], harness := (true, "d7c478fd84392efc779cbeb7d3c6499ed5b7a7f5e90df022cc80bdbb53aac9e1"), looks := false }, kinds := [], alts := [], laidByText := true, laidKinds := [.data, .data], laidTests := true, laidLooks := .later }
def NoteBackUptoCardSaid : Prop := Claim7.holds Tryd.pinned (.plain (OpenSpec.upto noteBackSpec)) noteBackUptoCard
end Rows
end Go.Proofs.YthgieagebcjafaaDoor
