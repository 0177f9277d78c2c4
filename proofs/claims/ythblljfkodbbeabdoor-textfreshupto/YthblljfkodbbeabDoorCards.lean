/-
  DERIVED. GIVEN WITH THE SEED: THE CARDS: each row of YthblljfkodbbeabDoorRows.lean that lists a variable, with what it lists TIED to the program's text (the seventh form; the later family's looks); each row that meets fmt, with fmt's text TOLD by the authors' own Lean function (tested against real Go, not proved from fmt's source: count such statements apart). THE CARD IS WHAT COUNTS. Prove the row's statement (the work); the ties are given (YthblljfkodbbeabDoorTie.lean); close each card by the builder's one call (the guide's Derived/Test/ToyasCard.lean, 'card_holds'). Laid BY PROGRAM, IN A SANDBOX (cutbox-door.mjs). By AI agents, Wed Nov 11 2026. No macro, syntax, notation, axiom, sorry.
-/
import Derived.Test.YthblljfkodbbeabDoorRows
import GoSem.ClaimSeven
namespace Go.Proofs.YthblljfkodbbeabDoor
namespace Rows

/-- THE TIED CARD OF 'annalslaw4.TextWords'. -/
def textWordsCard : Claim7 := { stood := { row := textWordsRow, standIns := [], harness := (true, "2926f51b2f0b77b4d714605696b6006b70ca7a129df1f2035115ed462655555d"), looks := false }, kinds := [], alts := [], laidByText := true, laidKinds := [.data, .pinned], laidTests := true, laidLooks := .later }
def TextWordsCardSaid : Prop := Claim7.holds Tryd.pinned (.plain (OpenSpec.ofChange textWordsSpec)) textWordsCard

/-- THE TIED CARD OF 'annalslaw4.TextFresh'. -/
def textFreshCard : Claim7 := { stood := { row := textFreshRow, standIns := [], harness := (true, "2926f51b2f0b77b4d714605696b6006b70ca7a129df1f2035115ed462655555d"), looks := false }, kinds := [], alts := [], laidByText := true, laidKinds := [.data, .pinned], laidTests := true, laidLooks := .later }
def TextFreshCardSaid : Prop := Claim7.holds Tryd.pinned (.plain (OpenSpec.ofChange textFreshSpec)) textFreshCard

/-- THE SECOND FORM's CARD OF 'annalslaw4.TextWords'. -/
def textWordsUptoCard : Claim7 := { stood := { row := textWordsUptoRow, standIns := [], harness := (true, "2926f51b2f0b77b4d714605696b6006b70ca7a129df1f2035115ed462655555d"), looks := false }, kinds := [], alts := [], laidByText := true, laidKinds := [.data, .pinned], laidTests := true, laidLooks := .later }
def TextWordsUptoCardSaid : Prop := Claim7.holds Tryd.pinned (.plain (OpenSpec.upto textWordsSpec)) textWordsUptoCard

/-- THE SECOND FORM's CARD OF 'annalslaw4.TextFresh'. -/
def textFreshUptoCard : Claim7 := { stood := { row := textFreshUptoRow, standIns := [], harness := (true, "2926f51b2f0b77b4d714605696b6006b70ca7a129df1f2035115ed462655555d"), looks := false }, kinds := [], alts := [], laidByText := true, laidKinds := [.data, .pinned], laidTests := true, laidLooks := .later }
def TextFreshUptoCardSaid : Prop := Claim7.holds Tryd.pinned (.plain (OpenSpec.upto textFreshSpec)) textFreshUptoCard
end Rows
end Go.Proofs.YthblljfkodbbeabDoor
