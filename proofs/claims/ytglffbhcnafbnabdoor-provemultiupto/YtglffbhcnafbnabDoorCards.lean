/-
  DERIVED. GIVEN WITH THE SEED: THE CARDS: each row of YtglffbhcnafbnabDoorRows.lean that lists a variable, with what it lists TIED to the program's text (the seventh form; the later family's looks); each row that meets fmt, with fmt's text TOLD by the authors' own Lean function (tested against real Go, not proved from fmt's source: count such statements apart). THE CARD IS WHAT COUNTS. Prove the row's statement (the work); the ties are given (YtglffbhcnafbnabDoorTie.lean); close each card by the builder's one call (the guide's Derived/Test/ToyasCard.lean, 'card_holds'). Laid BY PROGRAM, IN A SANDBOX (cutbox-door.mjs). By AI agents, Wed Nov 11 2026. No macro, syntax, notation, axiom, sorry.
-/
import Derived.Test.YtglffbhcnafbnabDoorRows
import GoSem.ClaimSeven
namespace Go.Proofs.YtglffbhcnafbnabDoor
namespace Rows

/-- THE TIED CARD OF 'annalslaw8.ProveRange'. -/
def proveRangeCard : Claim7 := { stood := { row := proveRangeRow, standIns := [], harness := (true, "200ced2b6eeac9687ae4478ba5c2bb23a6835236d2d630e63b29cd732498067a"), looks := false }, kinds := [], alts := [], laidByText := true, laidKinds := [.data, .data, .data, .data, .data, .data, .data], laidTests := true, laidLooks := .later }
def ProveRangeCardSaid : Prop := Claim7.holds Tryd.pinned (.plain (OpenSpec.ofChange proveRangeSpec)) proveRangeCard

/-- THE TIED CARD OF 'annalslaw8.ProveShort'. -/
def proveShortCard : Claim7 := { stood := { row := proveShortRow, standIns := [], harness := (true, "200ced2b6eeac9687ae4478ba5c2bb23a6835236d2d630e63b29cd732498067a"), looks := false }, kinds := [], alts := [], laidByText := true, laidKinds := [.data, .data, .data, .data, .data, .data, .data], laidTests := true, laidLooks := .later }
def ProveShortCardSaid : Prop := Claim7.holds Tryd.pinned (.plain (OpenSpec.ofChange proveShortSpec)) proveShortCard

/-- THE TIED CARD OF 'annalslaw8.ProveSame'. -/
def proveSameCard : Claim7 := { stood := { row := proveSameRow, standIns := [], harness := (true, "200ced2b6eeac9687ae4478ba5c2bb23a6835236d2d630e63b29cd732498067a"), looks := false }, kinds := [], alts := [], laidByText := true, laidKinds := [.data, .data, .data, .data, .data, .data, .data], laidTests := true, laidLooks := .later }
def ProveSameCardSaid : Prop := Claim7.holds Tryd.pinned (.plain (OpenSpec.ofChange proveSameSpec)) proveSameCard

/-- THE TIED CARD OF 'annalslaw8.ProveMulti'. -/
def proveMultiCard : Claim7 := { stood := { row := proveMultiRow, standIns := [], harness := (true, "200ced2b6eeac9687ae4478ba5c2bb23a6835236d2d630e63b29cd732498067a"), looks := false }, kinds := [], alts := [], laidByText := true, laidKinds := [.data, .data, .data, .data, .data, .data, .data], laidTests := true, laidLooks := .later }
def ProveMultiCardSaid : Prop := Claim7.holds Tryd.pinned (.plain (OpenSpec.ofChange proveMultiSpec)) proveMultiCard

/-- THE SECOND FORM's CARD OF 'annalslaw8.ProveRange'. -/
def proveRangeUptoCard : Claim7 := { stood := { row := proveRangeUptoRow, standIns := [], harness := (true, "200ced2b6eeac9687ae4478ba5c2bb23a6835236d2d630e63b29cd732498067a"), looks := false }, kinds := [], alts := [], laidByText := true, laidKinds := [.data, .data, .data, .data, .data, .data, .data], laidTests := true, laidLooks := .later }
def ProveRangeUptoCardSaid : Prop := Claim7.holds Tryd.pinned (.plain (OpenSpec.upto proveRangeSpec)) proveRangeUptoCard

/-- THE SECOND FORM's CARD OF 'annalslaw8.ProveShort'. -/
def proveShortUptoCard : Claim7 := { stood := { row := proveShortUptoRow, standIns := [], harness := (true, "200ced2b6eeac9687ae4478ba5c2bb23a6835236d2d630e63b29cd732498067a"), looks := false }, kinds := [], alts := [], laidByText := true, laidKinds := [.data, .data, .data, .data, .data, .data, .data], laidTests := true, laidLooks := .later }
def ProveShortUptoCardSaid : Prop := Claim7.holds Tryd.pinned (.plain (OpenSpec.upto proveShortSpec)) proveShortUptoCard

/-- THE SECOND FORM's CARD OF 'annalslaw8.ProveSame'. -/
def proveSameUptoCard : Claim7 := { stood := { row := proveSameUptoRow, standIns := [], harness := (true, "200ced2b6eeac9687ae4478ba5c2bb23a6835236d2d630e63b29cd732498067a"), looks := false }, kinds := [], alts := [], laidByText := true, laidKinds := [.data, .data, .data, .data, .data, .data, .data], laidTests := true, laidLooks := .later }
def ProveSameUptoCardSaid : Prop := Claim7.holds Tryd.pinned (.plain (OpenSpec.upto proveSameSpec)) proveSameUptoCard

/-- THE SECOND FORM's CARD OF 'annalslaw8.ProveMulti'. -/
def proveMultiUptoCard : Claim7 := { stood := { row := proveMultiUptoRow, standIns := [], harness := (true, "200ced2b6eeac9687ae4478ba5c2bb23a6835236d2d630e63b29cd732498067a"), looks := false }, kinds := [], alts := [], laidByText := true, laidKinds := [.data, .data, .data, .data, .data, .data, .data], laidTests := true, laidLooks := .later }
def ProveMultiUptoCardSaid : Prop := Claim7.holds Tryd.pinned (.plain (OpenSpec.upto proveMultiSpec)) proveMultiUptoCard
end Rows
end Go.Proofs.YtglffbhcnafbnabDoor
