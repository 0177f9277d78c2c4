/-
  DERIVED. GIVEN WITH THE SEED: THE CARDS: each row of YtjjeiklhmbhhoabDoorRows.lean that lists a variable, with what it lists TIED to the program's text (the seventh form; the later family's looks); each row that meets fmt, with fmt's text TOLD by the authors' own Lean function (tested against real Go, not proved from fmt's source: count such statements apart). THE CARD IS WHAT COUNTS. Prove the row's statement (the work); the ties are given (YtjjeiklhmbhhoabDoorTie.lean); close each card by the builder's one call (the guide's Derived/Test/ToyasCard.lean, 'card_holds'). Laid BY PROGRAM, IN A SANDBOX (cutbox-door.mjs). By AI agents, Wed Nov 11 2026. No macro, syntax, notation, axiom, sorry.
-/
import Derived.Test.YtjjeiklhmbhhoabDoorRows
import GoSem.ClaimSeven
namespace Go.Proofs.YtjjeiklhmbhhoabDoor
namespace Rows

/-- THE TIED CARD OF 'annalslaw5.TreeFolds'. -/
def treeFoldsCard : Claim7 := { stood := { row := treeFoldsRow, standIns := [], harness := (true, "ac952ba445de324da6ef3689e059eeba685b3b23c4405978086256fc51d1d1b1"), looks := false }, kinds := [], alts := [], laidByText := true, laidKinds := [.data, .data, .data], laidTests := true, laidLooks := .later }
def TreeFoldsCardSaid : Prop := Claim7.holds Tryd.pinned (.plain (OpenSpec.ofChange treeFoldsSpec)) treeFoldsCard

/-- THE TIED CARD OF 'annalslaw5.TreeHashes'. -/
def treeHashesCard : Claim7 := { stood := { row := treeHashesRow, standIns := [], harness := (true, "ac952ba445de324da6ef3689e059eeba685b3b23c4405978086256fc51d1d1b1"), looks := false }, kinds := [], alts := [], laidByText := true, laidKinds := [.data, .data, .data, .data], laidTests := true, laidLooks := .later }
def TreeHashesCardSaid : Prop := Claim7.holds Tryd.pinned (.plain (OpenSpec.ofChange treeHashesSpec)) treeHashesCard

/-- THE TIED CARD OF 'annalslaw5.TreeFold'. -/
def treeFoldCard : Claim7 := { stood := { row := treeFoldRow, standIns := [], harness := (true, "ac952ba445de324da6ef3689e059eeba685b3b23c4405978086256fc51d1d1b1"), looks := false }, kinds := [], alts := [], laidByText := true, laidKinds := [.data, .data, .data, .data], laidTests := true, laidLooks := .later }
def TreeFoldCardSaid : Prop := Claim7.holds Tryd.pinned (.plain (OpenSpec.ofChange treeFoldSpec)) treeFoldCard

/-- THE SECOND FORM's CARD OF 'annalslaw5.TreeFolds'. -/
def treeFoldsUptoCard : Claim7 := { stood := { row := treeFoldsUptoRow, standIns := [], harness := (true, "ac952ba445de324da6ef3689e059eeba685b3b23c4405978086256fc51d1d1b1"), looks := false }, kinds := [], alts := [], laidByText := true, laidKinds := [.data, .data, .data], laidTests := true, laidLooks := .later }
def TreeFoldsUptoCardSaid : Prop := Claim7.holds Tryd.pinned (.plain (OpenSpec.upto treeFoldsSpec)) treeFoldsUptoCard

/-- THE SECOND FORM's CARD OF 'annalslaw5.TreeHashes'. -/
def treeHashesUptoCard : Claim7 := { stood := { row := treeHashesUptoRow, standIns := [], harness := (true, "ac952ba445de324da6ef3689e059eeba685b3b23c4405978086256fc51d1d1b1"), looks := false }, kinds := [], alts := [], laidByText := true, laidKinds := [.data, .data, .data, .data], laidTests := true, laidLooks := .later }
def TreeHashesUptoCardSaid : Prop := Claim7.holds Tryd.pinned (.plain (OpenSpec.upto treeHashesSpec)) treeHashesUptoCard

/-- THE SECOND FORM's CARD OF 'annalslaw5.TreeFold'. -/
def treeFoldUptoCard : Claim7 := { stood := { row := treeFoldUptoRow, standIns := [], harness := (true, "ac952ba445de324da6ef3689e059eeba685b3b23c4405978086256fc51d1d1b1"), looks := false }, kinds := [], alts := [], laidByText := true, laidKinds := [.data, .data, .data, .data], laidTests := true, laidLooks := .later }
def TreeFoldUptoCardSaid : Prop := Claim7.holds Tryd.pinned (.plain (OpenSpec.upto treeFoldSpec)) treeFoldUptoCard
end Rows
end Go.Proofs.YtjjeiklhmbhhoabDoor
