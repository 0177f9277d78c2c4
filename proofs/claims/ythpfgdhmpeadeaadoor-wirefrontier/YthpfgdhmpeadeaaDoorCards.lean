/-
  DERIVED. GIVEN WITH THE SEED: THE CARDS: each row of YthpfgdhmpeadeaaDoorRows.lean that lists a variable, with what it lists TIED to the program's text (the seventh form; the later family's looks); each row that meets fmt, with fmt's text TOLD by the authors' own Lean function (tested against real Go, not proved from fmt's source: count such statements apart). THE CARD IS WHAT COUNTS. Prove the row's statement (the work); the ties are given (YthpfgdhmpeadeaaDoorTie.lean); close each card by the builder's one call (the guide's Derived/Test/ToyasCard.lean, 'card_holds'). Laid BY PROGRAM, IN A SANDBOX (cutbox-door.mjs). By AI agents, Wed Nov 11 2026. No macro, syntax, notation, axiom, sorry.
-/
import Derived.Test.YthpfgdhmpeadeaaDoorRows
import GoSem.ClaimSeven
namespace Go.Proofs.YthpfgdhmpeadeaaDoor
namespace Rows

/-- THE TIED CARD OF 'annalslaw11.WireFrontier'. -/
def wireFrontierCard : Claim7 := { stood := { row := wireFrontierRow, standIns := [], harness := (true, "4538144629bbb6a818b493944ad6be3098a9d2bdc9f486ddae1be83f11550641"), looks := false }, kinds := [], alts := [], laidByText := true, laidKinds := [.data], laidTests := true, laidLooks := .later }
def WireFrontierCardSaid : Prop := Claim7.holds Tryd.pinned (.plain (OpenSpec.ofChange wireFrontierSpec)) wireFrontierCard

/-- THE TIED CARD OF 'annalslaw11.WireOnly'. -/
def wireOnlyCard : Claim7 := { stood := { row := wireOnlyRow, standIns := [], harness := (true, "4538144629bbb6a818b493944ad6be3098a9d2bdc9f486ddae1be83f11550641"), looks := false }, kinds := [], alts := [], laidByText := true, laidKinds := [.data], laidTests := true, laidLooks := .later }
def WireOnlyCardSaid : Prop := Claim7.holds Tryd.pinned (.plain (OpenSpec.ofChange wireOnlySpec)) wireOnlyCard

/-- THE TIED CARD OF 'annalslaw11.WireBack'. -/
def wireBackCard : Claim7 := { stood := { row := wireBackRow, standIns := [], harness := (true, "4538144629bbb6a818b493944ad6be3098a9d2bdc9f486ddae1be83f11550641"), looks := false }, kinds := [], alts := [], laidByText := true, laidKinds := [.data], laidTests := true, laidLooks := .later }
def WireBackCardSaid : Prop := Claim7.holds Tryd.pinned (.plain (OpenSpec.ofChange wireBackSpec)) wireBackCard

/-- THE SECOND FORM's CARD OF 'annalslaw11.WireFrontier'. -/
def wireFrontierUptoCard : Claim7 := { stood := { row := wireFrontierUptoRow, standIns := [], harness := (true, "4538144629bbb6a818b493944ad6be3098a9d2bdc9f486ddae1be83f11550641"), looks := false }, kinds := [], alts := [], laidByText := true, laidKinds := [.data], laidTests := true, laidLooks := .later }
def WireFrontierUptoCardSaid : Prop := Claim7.holds Tryd.pinned (.plain (OpenSpec.upto wireFrontierSpec)) wireFrontierUptoCard

/-- THE SECOND FORM's CARD OF 'annalslaw11.WireOnly'. -/
def wireOnlyUptoCard : Claim7 := { stood := { row := wireOnlyUptoRow, standIns := [], harness := (true, "4538144629bbb6a818b493944ad6be3098a9d2bdc9f486ddae1be83f11550641"), looks := false }, kinds := [], alts := [], laidByText := true, laidKinds := [.data], laidTests := true, laidLooks := .later }
def WireOnlyUptoCardSaid : Prop := Claim7.holds Tryd.pinned (.plain (OpenSpec.upto wireOnlySpec)) wireOnlyUptoCard

/-- THE SECOND FORM's CARD OF 'annalslaw11.WireBack'. -/
def wireBackUptoCard : Claim7 := { stood := { row := wireBackUptoRow, standIns := [], harness := (true, "4538144629bbb6a818b493944ad6be3098a9d2bdc9f486ddae1be83f11550641"), looks := false }, kinds := [], alts := [], laidByText := true, laidKinds := [.data], laidTests := true, laidLooks := .later }
def WireBackUptoCardSaid : Prop := Claim7.holds Tryd.pinned (.plain (OpenSpec.upto wireBackSpec)) wireBackUptoCard
end Rows
end Go.Proofs.YthpfgdhmpeadeaaDoor
