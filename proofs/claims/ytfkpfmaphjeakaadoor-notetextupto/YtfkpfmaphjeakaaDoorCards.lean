/-
  DERIVED. GIVEN WITH THE SEED: THE CARDS: each row of YtfkpfmaphjeakaaDoorRows.lean that lists a variable, with what it lists TIED to the program's text (the seventh form; the later family's looks); each row that meets fmt, with fmt's text TOLD by the authors' own Lean function (tested against real Go, not proved from fmt's source: count such statements apart). THE CARD IS WHAT COUNTS. Prove the row's statement (the work); the ties are given (YtfkpfmaphjeakaaDoorTie.lean); close each card by the builder's one call (the guide's Derived/Test/ToyasCard.lean, 'card_holds'). Laid BY PROGRAM, IN A SANDBOX (cutbox-door.mjs). By AI agents, Wed Nov 11 2026. No macro, syntax, notation, axiom, sorry.
-/
import Derived.Test.YtfkpfmaphjeakaaDoorRows
import GoSem.ClaimSeven
namespace Go.Proofs.YtfkpfmaphjeakaaDoor
namespace Rows

/-- THE TIED CARD OF 'annalslaw20.NoteText'. -/
def noteTextCard : Claim7 := { stood := { row := noteTextRow, standIns := [], harness := (true, "c25a37862cbe7fd9944546abc682794027366e0418a847dff5001dc0ef308b20"), looks := false }, kinds := [], alts := [], laidByText := true, laidKinds := [.data, .data, .data], laidTests := true, laidLooks := .later }
def NoteTextCardSaid : Prop := Claim7.holds Tryd.pinned (.plain (OpenSpec.ofChange noteTextSpec)) noteTextCard

/-- THE TIED CARD OF 'annalslaw20.NoteBack'. -/
def noteBackCard : Claim7 := { stood := { row := noteBackRow, standIns := [], harness := (true, "c25a37862cbe7fd9944546abc682794027366e0418a847dff5001dc0ef308b20"), looks := false }, kinds := [], alts := [], laidByText := true, laidKinds := [.data, .data], laidTests := true, laidLooks := .later }
def NoteBackCardSaid : Prop := Claim7.holds Tryd.pinned (.plain (OpenSpec.ofChange noteBackSpec)) noteBackCard

/-- THE TIED CARD OF 'annalslaw20.NoteOnly'. -/
def noteOnlyCard : Claim7 := { stood := { row := noteOnlyRow, standIns := [], harness := (true, "c25a37862cbe7fd9944546abc682794027366e0418a847dff5001dc0ef308b20"), looks := false }, kinds := [], alts := [], laidByText := true, laidKinds := [.data, .data], laidTests := true, laidLooks := .later }
def NoteOnlyCardSaid : Prop := Claim7.holds Tryd.pinned (.plain (OpenSpec.ofChange noteOnlySpec)) noteOnlyCard

/-- THE SECOND FORM's CARD OF 'annalslaw20.NoteText'. -/
def noteTextUptoCard : Claim7 := { stood := { row := noteTextUptoRow, standIns := [], harness := (true, "c25a37862cbe7fd9944546abc682794027366e0418a847dff5001dc0ef308b20"), looks := false }, kinds := [], alts := [], laidByText := true, laidKinds := [.data, .data, .data], laidTests := true, laidLooks := .later }
def NoteTextUptoCardSaid : Prop := Claim7.holds Tryd.pinned (.plain (OpenSpec.upto noteTextSpec)) noteTextUptoCard

/-- THE SECOND FORM's CARD OF 'annalslaw20.NoteBack'. -/
def noteBackUptoCard : Claim7 := { stood := { row := noteBackUptoRow, standIns := [], harness := (true, "c25a37862cbe7fd9944546abc682794027366e0418a847dff5001dc0ef308b20"), looks := false }, kinds := [], alts := [], laidByText := true, laidKinds := [.data, .data], laidTests := true, laidLooks := .later }
def NoteBackUptoCardSaid : Prop := Claim7.holds Tryd.pinned (.plain (OpenSpec.upto noteBackSpec)) noteBackUptoCard

/-- THE SECOND FORM's CARD OF 'annalslaw20.NoteOnly'. -/
def noteOnlyUptoCard : Claim7 := { stood := { row := noteOnlyUptoRow, standIns := [], harness := (true, "c25a37862cbe7fd9944546abc682794027366e0418a847dff5001dc0ef308b20"), looks := false }, kinds := [], alts := [], laidByText := true, laidKinds := [.data, .data], laidTests := true, laidLooks := .later }
def NoteOnlyUptoCardSaid : Prop := Claim7.holds Tryd.pinned (.plain (OpenSpec.upto noteOnlySpec)) noteOnlyUptoCard
end Rows
end Go.Proofs.YtfkpfmaphjeakaaDoor
