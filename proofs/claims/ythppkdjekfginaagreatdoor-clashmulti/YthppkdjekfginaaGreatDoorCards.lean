/-
  DERIVED. GIVEN WITH THE SEED: THE CARDS: each row of YthppkdjekfginaaGreatDoorRows.lean that lists a variable, with what it lists TIED to the program's text (the seventh form; the later family's looks); each row that meets fmt, with fmt's text TOLD by the authors' own Lean function (tested against real Go, not proved from fmt's source: count such statements apart). THE CARD IS WHAT COUNTS. Prove the row's statement (the work); the ties are given (YthppkdjekfginaaGreatDoorTie.lean); close each card by the builder's one call (the guide's Derived/Test/ToyasCard.lean, 'card_holds'). Laid BY PROGRAM, IN A SANDBOX (cutbox-door.mjs). By AI agents, Wed Nov 11 2026. No macro, syntax, notation, axiom, sorry.
-/
import Derived.Test.YthppkdjekfginaaGreatDoorRows
import GoSem.ClaimSeven
namespace Go.Proofs.YthppkdjekfginaaGreatDoor
namespace Rows

/-- THE TIED CARD OF 'annalslaw10.ClashOld'. -/
def clashOldCard : Claim7 := { stood := { row := clashOldRow, standIns := [], harness := (true, "541709367033ce0f6cfa650324fdbbb85ee9fb82284e466a83d2e35083af7a08"), looks := true }, kinds := [], alts := [], laidByText := true, laidKinds := [.data, .data, .data, .data], laidTests := true, laidLooks := .later }
def ClashOldCardSaid : Prop := Claim7.holds Tryz.pinned (.plain (OpenSpec.ofChange clashOldSpec)) clashOldCard

/-- THE TIED CARD OF 'annalslaw10.ClashRange'. -/
def clashRangeCard : Claim7 := { stood := { row := clashRangeRow, standIns := [], harness := (true, "541709367033ce0f6cfa650324fdbbb85ee9fb82284e466a83d2e35083af7a08"), looks := true }, kinds := [], alts := [], laidByText := true, laidKinds := [.data, .data, .data, .data], laidTests := true, laidLooks := .later }
def ClashRangeCardSaid : Prop := Claim7.holds Tryz.pinned (.plain (OpenSpec.ofChange clashRangeSpec)) clashRangeCard

/-- THE TIED CARD OF 'annalslaw10.ClashMulti'. -/
def clashMultiCard : Claim7 := { stood := { row := clashMultiRow, standIns := [], harness := (true, "541709367033ce0f6cfa650324fdbbb85ee9fb82284e466a83d2e35083af7a08"), looks := true }, kinds := [], alts := [], laidByText := true, laidKinds := [.data, .data, .data, .data], laidTests := true, laidLooks := .later }
def ClashMultiCardSaid : Prop := Claim7.holds Tryz.pinned (.plain (OpenSpec.ofChange clashMultiSpec)) clashMultiCard

/-- THE SECOND FORM's CARD OF 'annalslaw10.ClashOld'. -/
def clashOldUptoCard : Claim7 := { stood := { row := clashOldUptoRow, standIns := [], harness := (true, "541709367033ce0f6cfa650324fdbbb85ee9fb82284e466a83d2e35083af7a08"), looks := true }, kinds := [], alts := [], laidByText := true, laidKinds := [.data, .data, .data, .data], laidTests := true, laidLooks := .later }
def ClashOldUptoCardSaid : Prop := Claim7.holds Tryz.pinned (.plain (OpenSpec.upto clashOldSpec)) clashOldUptoCard

/-- THE SECOND FORM's CARD OF 'annalslaw10.ClashRange'. -/
def clashRangeUptoCard : Claim7 := { stood := { row := clashRangeUptoRow, standIns := [], harness := (true, "541709367033ce0f6cfa650324fdbbb85ee9fb82284e466a83d2e35083af7a08"), looks := true }, kinds := [], alts := [], laidByText := true, laidKinds := [.data, .data, .data, .data], laidTests := true, laidLooks := .later }
def ClashRangeUptoCardSaid : Prop := Claim7.holds Tryz.pinned (.plain (OpenSpec.upto clashRangeSpec)) clashRangeUptoCard

/-- THE SECOND FORM's CARD OF 'annalslaw10.ClashMulti'. -/
def clashMultiUptoCard : Claim7 := { stood := { row := clashMultiUptoRow, standIns := [], harness := (true, "541709367033ce0f6cfa650324fdbbb85ee9fb82284e466a83d2e35083af7a08"), looks := true }, kinds := [], alts := [], laidByText := true, laidKinds := [.data, .data, .data, .data], laidTests := true, laidLooks := .later }
def ClashMultiUptoCardSaid : Prop := Claim7.holds Tryz.pinned (.plain (OpenSpec.upto clashMultiSpec)) clashMultiUptoCard
end Rows
end Go.Proofs.YthppkdjekfginaaGreatDoor
