/-
  DERIVED. GIVEN WITH THE SEED: THE CARDS: each row of YtjjeiklhmbhhoaaDoorRows.lean that lists a variable, with what it lists TIED to the program's text (the seventh form; the later family's looks); each row that meets fmt, with fmt's text TOLD by the authors' own Lean function (tested against real Go, not proved from fmt's source: count such statements apart). THE CARD IS WHAT COUNTS. Prove the row's statement (the work); the ties are given (YtjjeiklhmbhhoaaDoorTie.lean); close each card by the builder's one call (the guide's Derived/Test/ToyasCard.lean, 'card_holds'). Laid BY PROGRAM, IN A SANDBOX (cutbox-door.mjs). By AI agents, Wed Nov 11 2026. No macro, syntax, notation, axiom, sorry.
-/
import Derived.Test.YtjjeiklhmbhhoaaDoorRows
import GoSem.ClaimSeven
namespace Go.Proofs.YtjjeiklhmbhhoaaDoor
namespace Rows

/-- THE TIED CARD OF 'annalslaw5.TreePeaks'. -/
def treePeaksCard : Claim7 := { stood := { row := treePeaksRow, standIns := [], harness := (true, "a0906e65a82ea8eb0934bc7c772f5da8edab5fd2237ad0079ae9eaa1e9dd1a6f"), looks := false }, kinds := [], alts := [], laidByText := true, laidKinds := [.data], laidTests := true, laidLooks := .later }
def TreePeaksCardSaid : Prop := Claim7.holds Tryd.pinned (.plain (OpenSpec.ofChange treePeaksSpec)) treePeaksCard

/-- THE TIED CARD OF 'annalslaw5.TreeCover'. -/
def treeCoverCard : Claim7 := { stood := { row := treeCoverRow, standIns := [], harness := (true, "a0906e65a82ea8eb0934bc7c772f5da8edab5fd2237ad0079ae9eaa1e9dd1a6f"), looks := false }, kinds := [], alts := [], laidByText := true, laidKinds := [.data], laidTests := true, laidLooks := .later }
def TreeCoverCardSaid : Prop := Claim7.holds Tryd.pinned (.plain (OpenSpec.ofChange treeCoverSpec)) treeCoverCard

/-- THE TIED CARD OF 'annalslaw5.TreeFresh'. -/
def treeFreshCard : Claim7 := { stood := { row := treeFreshRow, standIns := [], harness := (true, "a0906e65a82ea8eb0934bc7c772f5da8edab5fd2237ad0079ae9eaa1e9dd1a6f"), looks := false }, kinds := [], alts := [], laidByText := true, laidKinds := [.data], laidTests := true, laidLooks := .later }
def TreeFreshCardSaid : Prop := Claim7.holds Tryd.pinned (.plain (OpenSpec.ofChange treeFreshSpec)) treeFreshCard

/-- THE TIED CARD OF 'annalslaw5.TreeTiles'. -/
def treeTilesCard : Claim7 := { stood := { row := treeTilesRow, standIns := [], harness := (true, "a0906e65a82ea8eb0934bc7c772f5da8edab5fd2237ad0079ae9eaa1e9dd1a6f"), looks := false }, kinds := [], alts := [], laidByText := true, laidKinds := [.data], laidTests := true, laidLooks := .later }
def TreeTilesCardSaid : Prop := Claim7.holds Tryd.pinned (.plain (OpenSpec.ofChange treeTilesSpec)) treeTilesCard

/-- THE SECOND FORM's CARD OF 'annalslaw5.TreePeaks'. -/
def treePeaksUptoCard : Claim7 := { stood := { row := treePeaksUptoRow, standIns := [], harness := (true, "a0906e65a82ea8eb0934bc7c772f5da8edab5fd2237ad0079ae9eaa1e9dd1a6f"), looks := false }, kinds := [], alts := [], laidByText := true, laidKinds := [.data], laidTests := true, laidLooks := .later }
def TreePeaksUptoCardSaid : Prop := Claim7.holds Tryd.pinned (.plain (OpenSpec.upto treePeaksSpec)) treePeaksUptoCard

/-- THE SECOND FORM's CARD OF 'annalslaw5.TreeCover'. -/
def treeCoverUptoCard : Claim7 := { stood := { row := treeCoverUptoRow, standIns := [], harness := (true, "a0906e65a82ea8eb0934bc7c772f5da8edab5fd2237ad0079ae9eaa1e9dd1a6f"), looks := false }, kinds := [], alts := [], laidByText := true, laidKinds := [.data], laidTests := true, laidLooks := .later }
def TreeCoverUptoCardSaid : Prop := Claim7.holds Tryd.pinned (.plain (OpenSpec.upto treeCoverSpec)) treeCoverUptoCard

/-- THE SECOND FORM's CARD OF 'annalslaw5.TreeFresh'. -/
def treeFreshUptoCard : Claim7 := { stood := { row := treeFreshUptoRow, standIns := [], harness := (true, "a0906e65a82ea8eb0934bc7c772f5da8edab5fd2237ad0079ae9eaa1e9dd1a6f"), looks := false }, kinds := [], alts := [], laidByText := true, laidKinds := [.data], laidTests := true, laidLooks := .later }
def TreeFreshUptoCardSaid : Prop := Claim7.holds Tryd.pinned (.plain (OpenSpec.upto treeFreshSpec)) treeFreshUptoCard

/-- THE SECOND FORM's CARD OF 'annalslaw5.TreeTiles'. -/
def treeTilesUptoCard : Claim7 := { stood := { row := treeTilesUptoRow, standIns := [], harness := (true, "a0906e65a82ea8eb0934bc7c772f5da8edab5fd2237ad0079ae9eaa1e9dd1a6f"), looks := false }, kinds := [], alts := [], laidByText := true, laidKinds := [.data], laidTests := true, laidLooks := .later }
def TreeTilesUptoCardSaid : Prop := Claim7.holds Tryd.pinned (.plain (OpenSpec.upto treeTilesSpec)) treeTilesUptoCard
end Rows
end Go.Proofs.YtjjeiklhmbhhoaaDoor
