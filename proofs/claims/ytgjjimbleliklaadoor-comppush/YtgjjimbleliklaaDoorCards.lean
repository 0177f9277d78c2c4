/-
  DERIVED. GIVEN WITH THE SEED: THE CARDS: each row of YtgjjimbleliklaaDoorRows.lean that lists a variable, with what it lists TIED to the program's text (the seventh form; the later family's looks); each row that meets fmt, with fmt's text TOLD by the authors' own Lean function (tested against real Go, not proved from fmt's source: count such statements apart). THE CARD IS WHAT COUNTS. Prove the row's statement (the work); the ties are given (YtgjjimbleliklaaDoorTie.lean); close each card by the builder's one call (the guide's Derived/Test/ToyasCard.lean, 'card_holds'). Laid BY PROGRAM, IN A SANDBOX (cutbox-door.mjs). By AI agents, Wed Nov 11 2026. No macro, syntax, notation, axiom, sorry.
-/
import Derived.Test.YtgjjimbleliklaaDoorRows
import GoSem.ClaimSeven
namespace Go.Proofs.YtgjjimbleliklaaDoor
namespace Rows

/-- THE TIED CARD OF 'annalslaw7.CompMerge'. -/
def compMergeCard : Claim7 := { stood := { row := compMergeRow, standIns := [], harness := (true, "50966dc3ab63deb62f33f405566119e674ec69be4baa6906efafa550c013deaf"), looks := false }, kinds := [], alts := [], laidByText := true, laidKinds := [.data, .data, .data, .data, .data], laidTests := true, laidLooks := .later }
def CompMergeCardSaid : Prop := Claim7.holds Tryd.pinned (.plain (OpenSpec.ofChange compMergeSpec)) compMergeCard

/-- THE TIED CARD OF 'annalslaw7.CompPush'. -/
def compPushCard : Claim7 := { stood := { row := compPushRow, standIns := [], harness := (true, "50966dc3ab63deb62f33f405566119e674ec69be4baa6906efafa550c013deaf"), looks := false }, kinds := [], alts := [], laidByText := true, laidKinds := [.data, .data, .data, .data, .data], laidTests := true, laidLooks := .later }
def CompPushCardSaid : Prop := Claim7.holds Tryd.pinned (.plain (OpenSpec.ofChange compPushSpec)) compPushCard

/-- THE TIED CARD OF 'annalslaw7.CompFresh'. -/
def compFreshCard : Claim7 := { stood := { row := compFreshRow, standIns := [], harness := (true, "50966dc3ab63deb62f33f405566119e674ec69be4baa6906efafa550c013deaf"), looks := false }, kinds := [], alts := [], laidByText := true, laidKinds := [.data, .data, .data, .data, .data], laidTests := true, laidLooks := .later }
def CompFreshCardSaid : Prop := Claim7.holds Tryd.pinned (.plain (OpenSpec.ofChange compFreshSpec)) compFreshCard

/-- THE SECOND FORM's CARD OF 'annalslaw7.CompMerge'. -/
def compMergeUptoCard : Claim7 := { stood := { row := compMergeUptoRow, standIns := [], harness := (true, "50966dc3ab63deb62f33f405566119e674ec69be4baa6906efafa550c013deaf"), looks := false }, kinds := [], alts := [], laidByText := true, laidKinds := [.data, .data, .data, .data, .data], laidTests := true, laidLooks := .later }
def CompMergeUptoCardSaid : Prop := Claim7.holds Tryd.pinned (.plain (OpenSpec.upto compMergeSpec)) compMergeUptoCard

/-- THE SECOND FORM's CARD OF 'annalslaw7.CompPush'. -/
def compPushUptoCard : Claim7 := { stood := { row := compPushUptoRow, standIns := [], harness := (true, "50966dc3ab63deb62f33f405566119e674ec69be4baa6906efafa550c013deaf"), looks := false }, kinds := [], alts := [], laidByText := true, laidKinds := [.data, .data, .data, .data, .data], laidTests := true, laidLooks := .later }
def CompPushUptoCardSaid : Prop := Claim7.holds Tryd.pinned (.plain (OpenSpec.upto compPushSpec)) compPushUptoCard

/-- THE SECOND FORM's CARD OF 'annalslaw7.CompFresh'. -/
def compFreshUptoCard : Claim7 := { stood := { row := compFreshUptoRow, standIns := [], harness := (true, "50966dc3ab63deb62f33f405566119e674ec69be4baa6906efafa550c013deaf"), looks := false }, kinds := [], alts := [], laidByText := true, laidKinds := [.data, .data, .data, .data, .data], laidTests := true, laidLooks := .later }
def CompFreshUptoCardSaid : Prop := Claim7.holds Tryd.pinned (.plain (OpenSpec.upto compFreshSpec)) compFreshUptoCard
end Rows
end Go.Proofs.YtgjjimbleliklaaDoor
