/-
  DERIVED. GIVEN WITH THE SEED: THE CARDS: each row of YtglffbhcnafbnaaDoorRows.lean that lists a variable, with what it lists TIED to the program's text (the seventh form; the later family's looks); each row that meets fmt, with fmt's text TOLD by the authors' own Lean function (tested against real Go, not proved from fmt's source: count such statements apart). THE CARD IS WHAT COUNTS. Prove the row's statement (the work); the ties are given (YtglffbhcnafbnaaDoorTie.lean); close each card by the builder's one call (the guide's Derived/Test/ToyasCard.lean, 'card_holds'). Laid BY PROGRAM, IN A SANDBOX (cutbox-door.mjs). By AI agents, Wed Nov 11 2026. No macro, syntax, notation, axiom, sorry.
-/
import Derived.Test.YtglffbhcnafbnaaDoorRows
import GoSem.ClaimSeven
namespace Go.Proofs.YtglffbhcnafbnaaDoor
namespace Rows

/-- THE TIED CARD OF 'annalslaw8.ProveNames'. -/
def proveNamesCard : Claim7 := { stood := { row := proveNamesRow, standIns := [], harness := (true, "6cafab09a7cf9962c3678a73ff09bda7f3e15248c529105574403bf42e674d5d"), looks := false }, kinds := [], alts := [], laidByText := true, laidKinds := [.data, .data, .data], laidTests := true, laidLooks := .later }
def ProveNamesCardSaid : Prop := Claim7.holds Tryd.pinned (.plain (OpenSpec.ofChange proveNamesSpec)) proveNamesCard

/-- THE TIED CARD OF 'annalslaw8.ProveOf'. -/
def proveOfCard : Claim7 := { stood := { row := proveOfRow, standIns := [], harness := (true, "6cafab09a7cf9962c3678a73ff09bda7f3e15248c529105574403bf42e674d5d"), looks := false }, kinds := [], alts := [], laidByText := true, laidKinds := [.data, .data, .data, .data, .data, .data, .data], laidTests := true, laidLooks := .later }
def ProveOfCardSaid : Prop := Claim7.holds Tryd.pinned (.plain (OpenSpec.ofChange proveOfSpec)) proveOfCard

/-- THE TIED CARD OF 'annalslaw8.ProveList'. -/
def proveListCard : Claim7 := { stood := { row := proveListRow, standIns := [], harness := (true, "6cafab09a7cf9962c3678a73ff09bda7f3e15248c529105574403bf42e674d5d"), looks := false }, kinds := [], alts := [], laidByText := true, laidKinds := [.data, .data, .data], laidTests := true, laidLooks := .later }
def ProveListCardSaid : Prop := Claim7.holds Tryd.pinned (.plain (OpenSpec.ofChange proveListSpec)) proveListCard

/-- THE TIED CARD OF 'annalslaw8.ProveRoot'. -/
def proveRootCard : Claim7 := { stood := { row := proveRootRow, standIns := [], harness := (true, "6cafab09a7cf9962c3678a73ff09bda7f3e15248c529105574403bf42e674d5d"), looks := false }, kinds := [], alts := [], laidByText := true, laidKinds := [.data, .data, .data, .data, .data, .data, .data], laidTests := true, laidLooks := .later }
def ProveRootCardSaid : Prop := Claim7.holds Tryd.pinned (.plain (OpenSpec.ofChange proveRootSpec)) proveRootCard

/-- THE TIED CARD OF 'annalslaw8.ProveInclusion'. -/
def proveInclusionCard : Claim7 := { stood := { row := proveInclusionRow, standIns := [], harness := (true, "6cafab09a7cf9962c3678a73ff09bda7f3e15248c529105574403bf42e674d5d"), looks := false }, kinds := [], alts := [], laidByText := true, laidKinds := [.data, .data, .data, .data, .data, .data, .data], laidTests := true, laidLooks := .later }
def ProveInclusionCardSaid : Prop := Claim7.holds Tryd.pinned (.plain (OpenSpec.ofChange proveInclusionSpec)) proveInclusionCard

/-- THE TIED CARD OF 'annalslaw8.ProveConsistency'. -/
def proveConsistencyCard : Claim7 := { stood := { row := proveConsistencyRow, standIns := [], harness := (true, "6cafab09a7cf9962c3678a73ff09bda7f3e15248c529105574403bf42e674d5d"), looks := false }, kinds := [], alts := [], laidByText := true, laidKinds := [.data, .data, .data, .data, .data, .data, .data], laidTests := true, laidLooks := .later }
def ProveConsistencyCardSaid : Prop := Claim7.holds Tryd.pinned (.plain (OpenSpec.ofChange proveConsistencySpec)) proveConsistencyCard

/-- THE SECOND FORM's CARD OF 'annalslaw8.ProveNames'. -/
def proveNamesUptoCard : Claim7 := { stood := { row := proveNamesUptoRow, standIns := [], harness := (true, "6cafab09a7cf9962c3678a73ff09bda7f3e15248c529105574403bf42e674d5d"), looks := false }, kinds := [], alts := [], laidByText := true, laidKinds := [.data, .data, .data], laidTests := true, laidLooks := .later }
def ProveNamesUptoCardSaid : Prop := Claim7.holds Tryd.pinned (.plain (OpenSpec.upto proveNamesSpec)) proveNamesUptoCard

/-- THE SECOND FORM's CARD OF 'annalslaw8.ProveOf'. -/
def proveOfUptoCard : Claim7 := { stood := { row := proveOfUptoRow, standIns := [], harness := (true, "6cafab09a7cf9962c3678a73ff09bda7f3e15248c529105574403bf42e674d5d"), looks := false }, kinds := [], alts := [], laidByText := true, laidKinds := [.data, .data, .data, .data, .data, .data, .data], laidTests := true, laidLooks := .later }
def ProveOfUptoCardSaid : Prop := Claim7.holds Tryd.pinned (.plain (OpenSpec.upto proveOfSpec)) proveOfUptoCard

/-- THE SECOND FORM's CARD OF 'annalslaw8.ProveList'. -/
def proveListUptoCard : Claim7 := { stood := { row := proveListUptoRow, standIns := [], harness := (true, "6cafab09a7cf9962c3678a73ff09bda7f3e15248c529105574403bf42e674d5d"), looks := false }, kinds := [], alts := [], laidByText := true, laidKinds := [.data, .data, .data], laidTests := true, laidLooks := .later }
def ProveListUptoCardSaid : Prop := Claim7.holds Tryd.pinned (.plain (OpenSpec.upto proveListSpec)) proveListUptoCard

/-- THE SECOND FORM's CARD OF 'annalslaw8.ProveRoot'. -/
def proveRootUptoCard : Claim7 := { stood := { row := proveRootUptoRow, standIns := [], harness := (true, "6cafab09a7cf9962c3678a73ff09bda7f3e15248c529105574403bf42e674d5d"), looks := false }, kinds := [], alts := [], laidByText := true, laidKinds := [.data, .data, .data, .data, .data, .data, .data], laidTests := true, laidLooks := .later }
def ProveRootUptoCardSaid : Prop := Claim7.holds Tryd.pinned (.plain (OpenSpec.upto proveRootSpec)) proveRootUptoCard

/-- THE SECOND FORM's CARD OF 'annalslaw8.ProveInclusion'. -/
def proveInclusionUptoCard : Claim7 := { stood := { row := proveInclusionUptoRow, standIns := [], harness := (true, "6cafab09a7cf9962c3678a73ff09bda7f3e15248c529105574403bf42e674d5d"), looks := false }, kinds := [], alts := [], laidByText := true, laidKinds := [.data, .data, .data, .data, .data, .data, .data], laidTests := true, laidLooks := .later }
def ProveInclusionUptoCardSaid : Prop := Claim7.holds Tryd.pinned (.plain (OpenSpec.upto proveInclusionSpec)) proveInclusionUptoCard

/-- THE SECOND FORM's CARD OF 'annalslaw8.ProveConsistency'. -/
def proveConsistencyUptoCard : Claim7 := { stood := { row := proveConsistencyUptoRow, standIns := [], harness := (true, "6cafab09a7cf9962c3678a73ff09bda7f3e15248c529105574403bf42e674d5d"), looks := false }, kinds := [], alts := [], laidByText := true, laidKinds := [.data, .data, .data, .data, .data, .data, .data], laidTests := true, laidLooks := .later }
def ProveConsistencyUptoCardSaid : Prop := Claim7.holds Tryd.pinned (.plain (OpenSpec.upto proveConsistencySpec)) proveConsistencyUptoCard
end Rows
end Go.Proofs.YtglffbhcnafbnaaDoor
