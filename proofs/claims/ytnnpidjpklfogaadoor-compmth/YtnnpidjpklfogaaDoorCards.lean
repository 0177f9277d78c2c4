/-
  DERIVED. GIVEN WITH THE SEED: THE CARDS: each row of YtnnpidjpklfogaaDoorRows.lean that lists a variable, with what it lists TIED to the program's text (the seventh form; the later family's looks); each row that meets fmt, with fmt's text TOLD by the authors' own Lean function (tested against real Go, not proved from fmt's source: count such statements apart). THE CARD IS WHAT COUNTS. Prove the row's statement (the work); the ties are given (YtnnpidjpklfogaaDoorTie.lean); close each card by the builder's one call (the guide's Derived/Test/ToyasCard.lean, 'card_holds'). Laid BY PROGRAM, IN A SANDBOX (cutbox-door.mjs). By AI agents, Wed Nov 11 2026. No macro, syntax, notation, axiom, sorry.
-/
import Derived.Test.YtnnpidjpklfogaaDoorRows
import GoSem.ClaimSeven
namespace Go.Proofs.YtnnpidjpklfogaaDoor
namespace Rows

/-- THE TIED CARD OF 'annalslaw7.CompWork'. -/
def compWorkCard : Claim7 := { stood := { row := compWorkRow, standIns := [], harness := (true, "87bc836ea300468c0e45f9c3cb85fae38b147b1ba7e6c3c842505126632df370"), looks := false }, kinds := [], alts := [], laidByText := true, laidKinds := [.data, .data, .data, .data], laidTests := true, laidLooks := .later }
def CompWorkCardSaid : Prop := Claim7.holds Tryd.pinned (.plain (OpenSpec.ofChange compWorkSpec)) compWorkCard

/-- THE TIED CARD OF 'annalslaw7.CompParts'. -/
def compPartsCard : Claim7 := { stood := { row := compPartsRow, standIns := [], harness := (true, "87bc836ea300468c0e45f9c3cb85fae38b147b1ba7e6c3c842505126632df370"), looks := false }, kinds := [], alts := [], laidByText := true, laidKinds := [.data, .data, .data], laidTests := true, laidLooks := .later }
def CompPartsCardSaid : Prop := Claim7.holds Tryd.pinned (.plain (OpenSpec.ofChange compPartsSpec)) compPartsCard

/-- THE TIED CARD OF 'annalslaw7.CompMth'. -/
def compMthCard : Claim7 := { stood := { row := compMthRow, standIns := [], harness := (true, "87bc836ea300468c0e45f9c3cb85fae38b147b1ba7e6c3c842505126632df370"), looks := false }, kinds := [], alts := [], laidByText := true, laidKinds := [.data, .data, .data], laidTests := true, laidLooks := .later }
def CompMthCardSaid : Prop := Claim7.holds Tryd.pinned (.plain (OpenSpec.ofChange compMthSpec)) compMthCard

/-- THE TIED CARD OF 'annalslaw7.CompCover'. -/
def compCoverCard : Claim7 := { stood := { row := compCoverRow, standIns := [], harness := (true, "87bc836ea300468c0e45f9c3cb85fae38b147b1ba7e6c3c842505126632df370"), looks := false }, kinds := [], alts := [], laidByText := true, laidKinds := [.data, .data, .data], laidTests := true, laidLooks := .later }
def CompCoverCardSaid : Prop := Claim7.holds Tryd.pinned (.plain (OpenSpec.ofChange compCoverSpec)) compCoverCard

/-- THE TIED CARD OF 'annalslaw7.CompRoot'. -/
def compRootCard : Claim7 := { stood := { row := compRootRow, standIns := [], harness := (true, "87bc836ea300468c0e45f9c3cb85fae38b147b1ba7e6c3c842505126632df370"), looks := false }, kinds := [], alts := [], laidByText := true, laidKinds := [.data, .data, .data, .data, .data], laidTests := true, laidLooks := .later }
def CompRootCardSaid : Prop := Claim7.holds Tryd.pinned (.plain (OpenSpec.ofChange compRootSpec)) compRootCard

/-- THE TIED CARD OF 'annalslaw7.CompMerge'. -/
def compMergeCard : Claim7 := { stood := { row := compMergeRow, standIns := [], harness := (true, "87bc836ea300468c0e45f9c3cb85fae38b147b1ba7e6c3c842505126632df370"), looks := false }, kinds := [], alts := [], laidByText := true, laidKinds := [.data, .data, .data, .data, .data], laidTests := true, laidLooks := .later }
def CompMergeCardSaid : Prop := Claim7.holds Tryd.pinned (.plain (OpenSpec.ofChange compMergeSpec)) compMergeCard

/-- THE SECOND FORM's CARD OF 'annalslaw7.CompWork'. -/
def compWorkUptoCard : Claim7 := { stood := { row := compWorkUptoRow, standIns := [], harness := (true, "87bc836ea300468c0e45f9c3cb85fae38b147b1ba7e6c3c842505126632df370"), looks := false }, kinds := [], alts := [], laidByText := true, laidKinds := [.data, .data, .data, .data], laidTests := true, laidLooks := .later }
def CompWorkUptoCardSaid : Prop := Claim7.holds Tryd.pinned (.plain (OpenSpec.upto compWorkSpec)) compWorkUptoCard

/-- THE SECOND FORM's CARD OF 'annalslaw7.CompParts'. -/
def compPartsUptoCard : Claim7 := { stood := { row := compPartsUptoRow, standIns := [], harness := (true, "87bc836ea300468c0e45f9c3cb85fae38b147b1ba7e6c3c842505126632df370"), looks := false }, kinds := [], alts := [], laidByText := true, laidKinds := [.data, .data, .data], laidTests := true, laidLooks := .later }
def CompPartsUptoCardSaid : Prop := Claim7.holds Tryd.pinned (.plain (OpenSpec.upto compPartsSpec)) compPartsUptoCard

/-- THE SECOND FORM's CARD OF 'annalslaw7.CompMth'. -/
def compMthUptoCard : Claim7 := { stood := { row := compMthUptoRow, standIns := [], harness := (true, "87bc836ea300468c0e45f9c3cb85fae38b147b1ba7e6c3c842505126632df370"), looks := false }, kinds := [], alts := [], laidByText := true, laidKinds := [.data, .data, .data], laidTests := true, laidLooks := .later }
def CompMthUptoCardSaid : Prop := Claim7.holds Tryd.pinned (.plain (OpenSpec.upto compMthSpec)) compMthUptoCard

/-- THE SECOND FORM's CARD OF 'annalslaw7.CompCover'. -/
def compCoverUptoCard : Claim7 := { stood := { row := compCoverUptoRow, standIns := [], harness := (true, "87bc836ea300468c0e45f9c3cb85fae38b147b1ba7e6c3c842505126632df370"), looks := false }, kinds := [], alts := [], laidByText := true, laidKinds := [.data, .data, .data], laidTests := true, laidLooks := .later }
def CompCoverUptoCardSaid : Prop := Claim7.holds Tryd.pinned (.plain (OpenSpec.upto compCoverSpec)) compCoverUptoCard

/-- THE SECOND FORM's CARD OF 'annalslaw7.CompRoot'. -/
def compRootUptoCard : Claim7 := { stood := { row := compRootUptoRow, standIns := [], harness := (true, "87bc836ea300468c0e45f9c3cb85fae38b147b1ba7e6c3c842505126632df370"), looks := false }, kinds := [], alts := [], laidByText := true, laidKinds := [.data, .data, .data, .data, .data], laidTests := true, laidLooks := .later }
def CompRootUptoCardSaid : Prop := Claim7.holds Tryd.pinned (.plain (OpenSpec.upto compRootSpec)) compRootUptoCard

/-- THE SECOND FORM's CARD OF 'annalslaw7.CompMerge'. -/
def compMergeUptoCard : Claim7 := { stood := { row := compMergeUptoRow, standIns := [], harness := (true, "87bc836ea300468c0e45f9c3cb85fae38b147b1ba7e6c3c842505126632df370"), looks := false }, kinds := [], alts := [], laidByText := true, laidKinds := [.data, .data, .data, .data, .data], laidTests := true, laidLooks := .later }
def CompMergeUptoCardSaid : Prop := Claim7.holds Tryd.pinned (.plain (OpenSpec.upto compMergeSpec)) compMergeUptoCard
end Rows
end Go.Proofs.YtnnpidjpklfogaaDoor
