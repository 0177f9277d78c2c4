/-
  DERIVED. GIVEN WITH THE SEED: THE CARDS: each row of YtageidkikgakfaaDoorRows.lean that lists a variable, with what it lists TIED to the program's text (the seventh form; the later family's looks); each row that meets fmt, with fmt's text TOLD by the authors' own Lean function (tested against real Go, not proved from fmt's source: count such statements apart). THE CARD IS WHAT COUNTS. Prove the row's statement (the work); the ties are given (YtageidkikgakfaaDoorTie.lean); close each card by the builder's one call (the guide's Derived/Test/ToyasCard.lean, 'card_holds'). Laid BY PROGRAM, IN A SANDBOX (cutbox-door.mjs). By AI agents, Wed Nov 11 2026. No macro, syntax, notation, axiom, sorry.
-/
import Derived.Test.YtageidkikgakfaaDoorRows
import GoSem.ClaimSeven
namespace Go.Proofs.YtageidkikgakfaaDoor
namespace Rows

/-- THE TIED CARD OF 'annalslaw8.ProveShort'. -/
def proveShortCard : Claim7 := { stood := { row := proveShortRow, standIns := [], harness := (true, "b3e561f6648ed826ac1fb9d7dff772e160e33ff8460fa415b24083130f45f5e6"), looks := false }, kinds := [], alts := [], laidByText := true, laidKinds := [.data, .data, .data, .data, .data, .data, .data], laidTests := true, laidLooks := .later }
def ProveShortCardSaid : Prop := Claim7.holds Tryd.pinned (.plain (OpenSpec.ofChange proveShortSpec)) proveShortCard

/-- THE SECOND FORM's CARD OF 'annalslaw8.ProveShort'. -/
def proveShortUptoCard : Claim7 := { stood := { row := proveShortUptoRow, standIns := [], harness := (true, "b3e561f6648ed826ac1fb9d7dff772e160e33ff8460fa415b24083130f45f5e6"), looks := false }, kinds := [], alts := [], laidByText := true, laidKinds := [.data, .data, .data, .data, .data, .data, .data], laidTests := true, laidLooks := .later }
def ProveShortUptoCardSaid : Prop := Claim7.holds Tryd.pinned (.plain (OpenSpec.upto proveShortSpec)) proveShortUptoCard
end Rows
end Go.Proofs.YtageidkikgakfaaDoor
