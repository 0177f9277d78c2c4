/-
  DERIVED. GIVEN WITH THE SEED: THE CARDS: each row of YtofmkdagehehaaaGreatDoorRows.lean that lists a variable, with what it lists TIED to the program's text (the seventh form; the later family's looks); each row that meets fmt, with fmt's text TOLD by the authors' own Lean function (tested against real Go, not proved from fmt's source: count such statements apart). THE CARD IS WHAT COUNTS. Prove the row's statement (the work); the ties are given (YtofmkdagehehaaaGreatDoorTie.lean); close each card by the builder's one call (the guide's Derived/Test/ToyasCard.lean, 'card_holds'). Laid BY PROGRAM, IN A SANDBOX (cutbox-door.mjs). By AI agents, Wed Nov 11 2026. No macro, syntax, notation, axiom, sorry.
-/
import Derived.Test.YtofmkdagehehaaaGreatDoorRows
import GoSem.ClaimSeven
namespace Go.Proofs.YtofmkdagehehaaaGreatDoor
namespace Rows

/-- THE TIED CARD OF 'annalslaw15.LoneMust'. -/
def loneMustCard : Claim7 := { stood := { row := loneMustRow, standIns := [], harness := (true, "b077d7a1286e417dad01f993e5fd7bb70cb8a30e59bad197bfa8f56ff49182c1"), looks := true }, kinds := [], alts := [], laidByText := true, laidKinds := [.data, .data], laidTests := true, laidLooks := .later }
def LoneMustCardSaid : Prop := Claim7.holds Tryz.pinned (.plain (OpenSpec.ofChange loneMustSpec)) loneMustCard

/-- THE TIED CARD OF 'annalslaw15.LoneModel'. -/
def loneModelCard : Claim7 := { stood := { row := loneModelRow, standIns := [], harness := (true, "b077d7a1286e417dad01f993e5fd7bb70cb8a30e59bad197bfa8f56ff49182c1"), looks := true }, kinds := [], alts := [], laidByText := true, laidKinds := [.data, .data], laidTests := true, laidLooks := .later }
def LoneModelCardSaid : Prop := Claim7.holds Tryz.pinned (.plain (OpenSpec.ofChange loneModelSpec)) loneModelCard

/-- THE TIED CARD OF 'annalslaw15.LoneRecovers'. -/
def loneRecoversCard : Claim7 := { stood := { row := loneRecoversRow, standIns := [], harness := (true, "b077d7a1286e417dad01f993e5fd7bb70cb8a30e59bad197bfa8f56ff49182c1"), looks := true }, kinds := [], alts := [], laidByText := true, laidKinds := [.data, .data], laidTests := true, laidLooks := .later }
def LoneRecoversCardSaid : Prop := Claim7.holds Tryz.pinned (.plain (OpenSpec.ofChange loneRecoversSpec)) loneRecoversCard

/-- THE TIED CARD OF 'annalslaw15.LoneSettled'. -/
def loneSettledCard : Claim7 := { stood := { row := loneSettledRow, standIns := [], harness := (true, "b077d7a1286e417dad01f993e5fd7bb70cb8a30e59bad197bfa8f56ff49182c1"), looks := true }, kinds := [], alts := [], laidByText := true, laidKinds := [.data, .data], laidTests := true, laidLooks := .later }
def LoneSettledCardSaid : Prop := Claim7.holds Tryz.pinned (.plain (OpenSpec.ofChange loneSettledSpec)) loneSettledCard

/-- THE TIED CARD OF 'annalslaw15.LoneLists'. -/
def loneListsCard : Claim7 := { stood := { row := loneListsRow, standIns := [], harness := (true, "b077d7a1286e417dad01f993e5fd7bb70cb8a30e59bad197bfa8f56ff49182c1"), looks := true }, kinds := [], alts := [], laidByText := true, laidKinds := [.data, .data, .data, .data], laidTests := true, laidLooks := .later }
def LoneListsCardSaid : Prop := Claim7.holds Tryz.pinned (.plain (OpenSpec.ofChange loneListsSpec)) loneListsCard

/-- THE SECOND FORM's CARD OF 'annalslaw15.LoneMust'. -/
def loneMustUptoCard : Claim7 := { stood := { row := loneMustUptoRow, standIns := [], harness := (true, "b077d7a1286e417dad01f993e5fd7bb70cb8a30e59bad197bfa8f56ff49182c1"), looks := true }, kinds := [], alts := [], laidByText := true, laidKinds := [.data, .data], laidTests := true, laidLooks := .later }
def LoneMustUptoCardSaid : Prop := Claim7.holds Tryz.pinned (.plain (OpenSpec.upto loneMustSpec)) loneMustUptoCard

/-- THE SECOND FORM's CARD OF 'annalslaw15.LoneModel'. -/
def loneModelUptoCard : Claim7 := { stood := { row := loneModelUptoRow, standIns := [], harness := (true, "b077d7a1286e417dad01f993e5fd7bb70cb8a30e59bad197bfa8f56ff49182c1"), looks := true }, kinds := [], alts := [], laidByText := true, laidKinds := [.data, .data], laidTests := true, laidLooks := .later }
def LoneModelUptoCardSaid : Prop := Claim7.holds Tryz.pinned (.plain (OpenSpec.upto loneModelSpec)) loneModelUptoCard

/-- THE SECOND FORM's CARD OF 'annalslaw15.LoneRecovers'. -/
def loneRecoversUptoCard : Claim7 := { stood := { row := loneRecoversUptoRow, standIns := [], harness := (true, "b077d7a1286e417dad01f993e5fd7bb70cb8a30e59bad197bfa8f56ff49182c1"), looks := true }, kinds := [], alts := [], laidByText := true, laidKinds := [.data, .data], laidTests := true, laidLooks := .later }
def LoneRecoversUptoCardSaid : Prop := Claim7.holds Tryz.pinned (.plain (OpenSpec.upto loneRecoversSpec)) loneRecoversUptoCard

/-- THE SECOND FORM's CARD OF 'annalslaw15.LoneSettled'. -/
def loneSettledUptoCard : Claim7 := { stood := { row := loneSettledUptoRow, standIns := [], harness := (true, "b077d7a1286e417dad01f993e5fd7bb70cb8a30e59bad197bfa8f56ff49182c1"), looks := true }, kinds := [], alts := [], laidByText := true, laidKinds := [.data, .data], laidTests := true, laidLooks := .later }
def LoneSettledUptoCardSaid : Prop := Claim7.holds Tryz.pinned (.plain (OpenSpec.upto loneSettledSpec)) loneSettledUptoCard

/-- THE SECOND FORM's CARD OF 'annalslaw15.LoneLists'. -/
def loneListsUptoCard : Claim7 := { stood := { row := loneListsUptoRow, standIns := [], harness := (true, "b077d7a1286e417dad01f993e5fd7bb70cb8a30e59bad197bfa8f56ff49182c1"), looks := true }, kinds := [], alts := [], laidByText := true, laidKinds := [.data, .data, .data, .data], laidTests := true, laidLooks := .later }
def LoneListsUptoCardSaid : Prop := Claim7.holds Tryz.pinned (.plain (OpenSpec.upto loneListsSpec)) loneListsUptoCard
end Rows
end Go.Proofs.YtofmkdagehehaaaGreatDoor
