/-
  DERIVED. GIVEN WITH THE SEED: THE CARDS: each row of YtgbachojkbfeoabDoorRows.lean that lists a variable, with what it lists TIED to the program's text (the seventh form; the later family's looks); each row that meets fmt, with fmt's text TOLD by the authors' own Lean function (tested against real Go, not proved from fmt's source: count such statements apart). THE CARD IS WHAT COUNTS. Prove the row's statement (the work); the ties are given (YtgbachojkbfeoabDoorTie.lean); close each card by the builder's one call (the guide's Derived/Test/ToyasCard.lean, 'card_holds'). Laid BY PROGRAM, IN A SANDBOX (cutbox-door.mjs). By AI agents, Wed Nov 11 2026. No macro, syntax, notation, axiom, sorry.
-/
import Derived.Test.YtgbachojkbfeoabDoorRows
import GoSem.ClaimSeven
namespace Go.Proofs.YtgbachojkbfeoabDoor
namespace Rows

/-- THE TIED CARD OF 'annalslaw2.ShaHistory'. -/
def shaHistoryCard : Claim7 := { stood := { row := shaHistoryRow, standIns := [], harness := (true, "62f81877b42f1aef2a3f80efe483d42b0dfaeb2388bc1360055593cc02755c9d"), looks := false }, kinds := [], alts := [], laidByText := true, laidKinds := [.data, .data, .data, .data], laidTests := true, laidLooks := .later }
def ShaHistoryCardSaid : Prop := Claim7.holds Tryd.pinned (.plain (OpenSpec.ofChange shaHistorySpec)) shaHistoryCard

/-- THE SECOND FORM's CARD OF 'annalslaw2.ShaHistory'. -/
def shaHistoryUptoCard : Claim7 := { stood := { row := shaHistoryUptoRow, standIns := [], harness := (true, "62f81877b42f1aef2a3f80efe483d42b0dfaeb2388bc1360055593cc02755c9d"), looks := false }, kinds := [], alts := [], laidByText := true, laidKinds := [.data, .data, .data, .data], laidTests := true, laidLooks := .later }
def ShaHistoryUptoCardSaid : Prop := Claim7.holds Tryd.pinned (.plain (OpenSpec.upto shaHistorySpec)) shaHistoryUptoCard
end Rows
end Go.Proofs.YtgbachojkbfeoabDoor
