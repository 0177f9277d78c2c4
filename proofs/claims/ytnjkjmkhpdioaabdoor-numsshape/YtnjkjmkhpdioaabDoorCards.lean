/-
  DERIVED. GIVEN WITH THE SEED: THE CARDS: each row of YtnjkjmkhpdioaabDoorRows.lean that lists a variable, with what it lists TIED to the program's text (the seventh form; the later family's looks); each row that meets fmt, with fmt's text TOLD by the authors' own Lean function (tested against real Go, not proved from fmt's source: count such statements apart). THE CARD IS WHAT COUNTS. Prove the row's statement (the work); the ties are given (YtnjkjmkhpdioaabDoorTie.lean); close each card by the builder's one call (the guide's Derived/Test/ToyasCard.lean, 'card_holds'). Laid BY PROGRAM, IN A SANDBOX (cutbox-door.mjs). By AI agents, Wed Nov 11 2026. No macro, syntax, notation, axiom, sorry.
-/
import Derived.Test.YtnjkjmkhpdioaabDoorRows
import GoSem.ClaimSeven
namespace Go.Proofs.YtnjkjmkhpdioaabDoor
namespace Rows

/-- THE TIED CARD OF 'annalslaw1.NumsShape'. -/
def numsShapeCard : Claim7 := { stood := { row := numsShapeRow, standIns := [], harness := (true, "09d780731178991f33aff1863b720bfa60b1e8642b097c289b440f1f78030d1c"), looks := false }, kinds := [], alts := [], laidByText := true, laidKinds := [.data, .data], laidTests := true, laidLooks := .later }
def NumsShapeCardSaid : Prop := Claim7.holds Tryd.pinned (.plain (OpenSpec.ofChange numsShapeSpec)) numsShapeCard

/-- THE TIED CARD OF 'annalslaw1.NumsDigits'. -/
def numsDigitsCard : Claim7 := { stood := { row := numsDigitsRow, standIns := [], harness := (true, "09d780731178991f33aff1863b720bfa60b1e8642b097c289b440f1f78030d1c"), looks := false }, kinds := [], alts := [], laidByText := true, laidKinds := [.data, .data], laidTests := true, laidLooks := .later }
def NumsDigitsCardSaid : Prop := Claim7.holds Tryd.pinned (.plain (OpenSpec.ofChange numsDigitsSpec)) numsDigitsCard

/-- THE SECOND FORM's CARD OF 'annalslaw1.NumsShape'. -/
def numsShapeUptoCard : Claim7 := { stood := { row := numsShapeUptoRow, standIns := [], harness := (true, "09d780731178991f33aff1863b720bfa60b1e8642b097c289b440f1f78030d1c"), looks := false }, kinds := [], alts := [], laidByText := true, laidKinds := [.data, .data], laidTests := true, laidLooks := .later }
def NumsShapeUptoCardSaid : Prop := Claim7.holds Tryd.pinned (.plain (OpenSpec.upto numsShapeSpec)) numsShapeUptoCard

/-- THE SECOND FORM's CARD OF 'annalslaw1.NumsDigits'. -/
def numsDigitsUptoCard : Claim7 := { stood := { row := numsDigitsUptoRow, standIns := [], harness := (true, "09d780731178991f33aff1863b720bfa60b1e8642b097c289b440f1f78030d1c"), looks := false }, kinds := [], alts := [], laidByText := true, laidKinds := [.data, .data], laidTests := true, laidLooks := .later }
def NumsDigitsUptoCardSaid : Prop := Claim7.holds Tryd.pinned (.plain (OpenSpec.upto numsDigitsSpec)) numsDigitsUptoCard
end Rows
end Go.Proofs.YtnjkjmkhpdioaabDoor
