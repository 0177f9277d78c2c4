/-
  DERIVED. GIVEN WITH THE SEED: THE CARDS: each row of YtkanjkofdfmhhaaDoorRows.lean that lists a variable, with what it lists TIED to the program's text (the seventh form; the later family's looks); each row that meets fmt, with fmt's text TOLD by the authors' own Lean function (tested against real Go, not proved from fmt's source: count such statements apart). THE CARD IS WHAT COUNTS. Prove the row's statement (the work); the ties are given (YtkanjkofdfmhhaaDoorTie.lean); close each card by the builder's one call (the guide's Derived/Test/ToyasCard.lean, 'card_holds'). Laid BY PROGRAM, IN A SANDBOX (cutbox-door.mjs). By AI agents, Wed Nov 11 2026. No macro, syntax, notation, axiom, sorry.
-/
import Derived.Test.YtkanjkofdfmhhaaDoorRows
import GoSem.ClaimSeven
namespace Go.Proofs.YtkanjkofdfmhhaaDoor
namespace Rows

/-- THE TIED CARD OF 'annalslaw6.MthSplit'. -/
def mthSplitCard : Claim7 := { stood := { row := mthSplitRow, standIns := [], harness := (true, "1b3d5d35a1ee63b368a7d8855deaeec4b5ac35b9d763fa030b090df630df6657"), looks := false }, kinds := [], alts := [], laidByText := true, laidKinds := [.data, .data], laidTests := true, laidLooks := .later }
def MthSplitCardSaid : Prop := Claim7.holds Tryd.pinned (.plain (OpenSpec.ofChange mthSplitSpec)) mthSplitCard

/-- THE TIED CARD OF 'annalslaw6.MthChange'. -/
def mthChangeCard : Claim7 := { stood := { row := mthChangeRow, standIns := [], harness := (true, "1b3d5d35a1ee63b368a7d8855deaeec4b5ac35b9d763fa030b090df630df6657"), looks := false }, kinds := [], alts := [], laidByText := true, laidKinds := [.data, .data], laidTests := true, laidLooks := .later }
def MthChangeCardSaid : Prop := Claim7.holds Tryd.pinned (.plain (OpenSpec.ofChange mthChangeSpec)) mthChangeCard

/-- THE TIED CARD OF 'annalslaw6.MthLeads'. -/
def mthLeadsCard : Claim7 := { stood := { row := mthLeadsRow, standIns := [], harness := (true, "1b3d5d35a1ee63b368a7d8855deaeec4b5ac35b9d763fa030b090df630df6657"), looks := false }, kinds := [], alts := [], laidByText := true, laidKinds := [.data, .data], laidTests := true, laidLooks := .later }
def MthLeadsCardSaid : Prop := Claim7.holds Tryd.pinned (.plain (OpenSpec.ofChange mthLeadsSpec)) mthLeadsCard

/-- THE TIED CARD OF 'annalslaw6.MthGrows'. -/
def mthGrowsCard : Claim7 := { stood := { row := mthGrowsRow, standIns := [], harness := (true, "1b3d5d35a1ee63b368a7d8855deaeec4b5ac35b9d763fa030b090df630df6657"), looks := false }, kinds := [], alts := [], laidByText := true, laidKinds := [.data, .data], laidTests := true, laidLooks := .later }
def MthGrowsCardSaid : Prop := Claim7.holds Tryd.pinned (.plain (OpenSpec.ofChange mthGrowsSpec)) mthGrowsCard

/-- THE TIED CARD OF 'annalslaw6.MthRoot'. -/
def mthRootCard : Claim7 := { stood := { row := mthRootRow, standIns := [], harness := (true, "1b3d5d35a1ee63b368a7d8855deaeec4b5ac35b9d763fa030b090df630df6657"), looks := false }, kinds := [], alts := [], laidByText := true, laidKinds := [.data, .data, .data, .data], laidTests := true, laidLooks := .later }
def MthRootCardSaid : Prop := Claim7.holds Tryd.pinned (.plain (OpenSpec.ofChange mthRootSpec)) mthRootCard

/-- THE TIED CARD OF 'annalslaw6.MthPath'. -/
def mthPathCard : Claim7 := { stood := { row := mthPathRow, standIns := [], harness := (true, "1b3d5d35a1ee63b368a7d8855deaeec4b5ac35b9d763fa030b090df630df6657"), looks := false }, kinds := [], alts := [], laidByText := true, laidKinds := [.data, .data, .data, .data], laidTests := true, laidLooks := .later }
def MthPathCardSaid : Prop := Claim7.holds Tryd.pinned (.plain (OpenSpec.ofChange mthPathSpec)) mthPathCard

/-- THE SECOND FORM's CARD OF 'annalslaw6.MthSplit'. -/
def mthSplitUptoCard : Claim7 := { stood := { row := mthSplitUptoRow, standIns := [], harness := (true, "1b3d5d35a1ee63b368a7d8855deaeec4b5ac35b9d763fa030b090df630df6657"), looks := false }, kinds := [], alts := [], laidByText := true, laidKinds := [.data, .data], laidTests := true, laidLooks := .later }
def MthSplitUptoCardSaid : Prop := Claim7.holds Tryd.pinned (.plain (OpenSpec.upto mthSplitSpec)) mthSplitUptoCard

/-- THE SECOND FORM's CARD OF 'annalslaw6.MthChange'. -/
def mthChangeUptoCard : Claim7 := { stood := { row := mthChangeUptoRow, standIns := [], harness := (true, "1b3d5d35a1ee63b368a7d8855deaeec4b5ac35b9d763fa030b090df630df6657"), looks := false }, kinds := [], alts := [], laidByText := true, laidKinds := [.data, .data], laidTests := true, laidLooks := .later }
def MthChangeUptoCardSaid : Prop := Claim7.holds Tryd.pinned (.plain (OpenSpec.upto mthChangeSpec)) mthChangeUptoCard

/-- THE SECOND FORM's CARD OF 'annalslaw6.MthLeads'. -/
def mthLeadsUptoCard : Claim7 := { stood := { row := mthLeadsUptoRow, standIns := [], harness := (true, "1b3d5d35a1ee63b368a7d8855deaeec4b5ac35b9d763fa030b090df630df6657"), looks := false }, kinds := [], alts := [], laidByText := true, laidKinds := [.data, .data], laidTests := true, laidLooks := .later }
def MthLeadsUptoCardSaid : Prop := Claim7.holds Tryd.pinned (.plain (OpenSpec.upto mthLeadsSpec)) mthLeadsUptoCard

/-- THE SECOND FORM's CARD OF 'annalslaw6.MthGrows'. -/
def mthGrowsUptoCard : Claim7 := { stood := { row := mthGrowsUptoRow, standIns := [], harness := (true, "1b3d5d35a1ee63b368a7d8855deaeec4b5ac35b9d763fa030b090df630df6657"), looks := false }, kinds := [], alts := [], laidByText := true, laidKinds := [.data, .data], laidTests := true, laidLooks := .later }
def MthGrowsUptoCardSaid : Prop := Claim7.holds Tryd.pinned (.plain (OpenSpec.upto mthGrowsSpec)) mthGrowsUptoCard

/-- THE SECOND FORM's CARD OF 'annalslaw6.MthRoot'. -/
def mthRootUptoCard : Claim7 := { stood := { row := mthRootUptoRow, standIns := [], harness := (true, "1b3d5d35a1ee63b368a7d8855deaeec4b5ac35b9d763fa030b090df630df6657"), looks := false }, kinds := [], alts := [], laidByText := true, laidKinds := [.data, .data, .data, .data], laidTests := true, laidLooks := .later }
def MthRootUptoCardSaid : Prop := Claim7.holds Tryd.pinned (.plain (OpenSpec.upto mthRootSpec)) mthRootUptoCard

/-- THE SECOND FORM's CARD OF 'annalslaw6.MthPath'. -/
def mthPathUptoCard : Claim7 := { stood := { row := mthPathUptoRow, standIns := [], harness := (true, "1b3d5d35a1ee63b368a7d8855deaeec4b5ac35b9d763fa030b090df630df6657"), looks := false }, kinds := [], alts := [], laidByText := true, laidKinds := [.data, .data, .data, .data], laidTests := true, laidLooks := .later }
def MthPathUptoCardSaid : Prop := Claim7.holds Tryd.pinned (.plain (OpenSpec.upto mthPathSpec)) mthPathUptoCard
end Rows
end Go.Proofs.YtkanjkofdfmhhaaDoor
