/-
  DERIVED. GIVEN WITH THE SEED: THE CARDS: each row of YtmmbkfagchaocaaDoorRows.lean that lists a variable, with what it lists TIED to the program's text (the seventh form; the later family's looks); each row that meets fmt, with fmt's text TOLD by the authors' own Lean function (tested against real Go, not proved from fmt's source: count such statements apart). THE CARD IS WHAT COUNTS. Prove the row's statement (the work); the ties are given (YtmmbkfagchaocaaDoorTie.lean); close each card by the builder's one call (the guide's Derived/Test/ToyasCard.lean, 'card_holds'). Laid BY PROGRAM, IN A SANDBOX (cutbox-door.mjs). By AI agents, Wed Nov 11 2026. No macro, syntax, notation, axiom, sorry.
-/
import Derived.Test.YtmmbkfagchaocaaDoorRows
import GoSem.ClaimSeven
namespace Go.Proofs.YtmmbkfagchaocaaDoor
namespace Rows

/-- THE TIED CARD OF 'annalslaw7.CompFresh'. -/
def compFreshCard : Claim7 := { stood := { row := compFreshRow, standIns := [], harness := (true, "9eaf62993e4fb653507a3bc5346864efe6b7f2631a210177d016ac2466b32146"), looks := false }, kinds := [], alts := [], laidByText := true, laidKinds := [.data, .data, .data, .data, .data], laidTests := true, laidLooks := .later }
def CompFreshCardSaid : Prop := Claim7.holds Tryd.pinned (.plain (OpenSpec.ofChange compFreshSpec)) compFreshCard

/-- THE TIED CARD OF 'annalslaw8.ProveSame'. -/
def proveSameCard : Claim7 := { stood := { row := proveSameRow, standIns := [], harness := (true, "9eaf62993e4fb653507a3bc5346864efe6b7f2631a210177d016ac2466b32146"), looks := false }, kinds := [], alts := [], laidByText := true, laidKinds := [.data, .data, .data, .data, .data, .data, .data], laidTests := true, laidLooks := .later }
def ProveSameCardSaid : Prop := Claim7.holds Tryd.pinned (.plain (OpenSpec.ofChange proveSameSpec)) proveSameCard

/-- THE SECOND FORM's CARD OF 'annalslaw7.CompFresh'. -/
def compFreshUptoCard : Claim7 := { stood := { row := compFreshUptoRow, standIns := [], harness := (true, "9eaf62993e4fb653507a3bc5346864efe6b7f2631a210177d016ac2466b32146"), looks := false }, kinds := [], alts := [], laidByText := true, laidKinds := [.data, .data, .data, .data, .data], laidTests := true, laidLooks := .later }
def CompFreshUptoCardSaid : Prop := Claim7.holds Tryd.pinned (.plain (OpenSpec.upto compFreshSpec)) compFreshUptoCard

/-- THE SECOND FORM's CARD OF 'annalslaw8.ProveSame'. -/
def proveSameUptoCard : Claim7 := { stood := { row := proveSameUptoRow, standIns := [], harness := (true, "9eaf62993e4fb653507a3bc5346864efe6b7f2631a210177d016ac2466b32146"), looks := false }, kinds := [], alts := [], laidByText := true, laidKinds := [.data, .data, .data, .data, .data, .data, .data], laidTests := true, laidLooks := .later }
def ProveSameUptoCardSaid : Prop := Claim7.holds Tryd.pinned (.plain (OpenSpec.upto proveSameSpec)) proveSameUptoCard
end Rows
end Go.Proofs.YtmmbkfagchaocaaDoor
