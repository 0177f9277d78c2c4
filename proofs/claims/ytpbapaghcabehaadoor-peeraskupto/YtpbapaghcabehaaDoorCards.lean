/-
  DERIVED. GIVEN WITH THE SEED: THE CARDS: each row of YtpbapaghcabehaaDoorRows.lean that lists a variable, with what it lists TIED to the program's text (the seventh form; the later family's looks); each row that meets fmt, with fmt's text TOLD by the authors' own Lean function (tested against real Go, not proved from fmt's source: count such statements apart). THE CARD IS WHAT COUNTS. Prove the row's statement (the work); the ties are given (YtpbapaghcabehaaDoorTie.lean); close each card by the builder's one call (the guide's Derived/Test/ToyasCard.lean, 'card_holds'). Laid BY PROGRAM, IN A SANDBOX (cutbox-door.mjs). By AI agents, Wed Nov 11 2026. No macro, syntax, notation, axiom, sorry.
-/
import Derived.Test.YtpbapaghcabehaaDoorRows
import GoSem.ClaimSeven
namespace Go.Proofs.YtpbapaghcabehaaDoor
namespace Rows

/-- THE TIED CARD OF 'annalslaw22.PeerAskBack'. -/
def peerAskBackCard : Claim7 := { stood := { row := peerAskBackRow, standIns := [], harness := (true, "2e377fba95aa730c7da054d57d76de76b96b7d81497752e822e5a55df6d86188"), looks := true }, kinds := [], alts := [], laidByText := true, laidKinds := [.data, .data, .data, .sentinel, .sentinel], laidTests := true, laidLooks := .later }
def PeerAskBackCardSaid : Prop := Claim7.holds Tryd.pinned (.plain (OpenSpec.ofChange peerAskBackSpec)) peerAskBackCard

/-- THE TIED CARD OF 'annalslaw22.PeerAsk'. -/
def peerAskCard : Claim7 := { stood := { row := peerAskRow, standIns := [], harness := (true, "2e377fba95aa730c7da054d57d76de76b96b7d81497752e822e5a55df6d86188"), looks := true }, kinds := [], alts := [], laidByText := true, laidKinds := [.data, .data, .data, .sentinel, .sentinel], laidTests := true, laidLooks := .later }
def PeerAskCardSaid : Prop := Claim7.holds Tryd.pinned (.plain (OpenSpec.ofChange peerAskSpec)) peerAskCard

/-- THE SECOND FORM's CARD OF 'annalslaw22.PeerAskBack'. -/
def peerAskBackUptoCard : Claim7 := { stood := { row := peerAskBackUptoRow, standIns := [], harness := (true, "2e377fba95aa730c7da054d57d76de76b96b7d81497752e822e5a55df6d86188"), looks := true }, kinds := [], alts := [], laidByText := true, laidKinds := [.data, .data, .data, .sentinel, .sentinel], laidTests := true, laidLooks := .later }
def PeerAskBackUptoCardSaid : Prop := Claim7.holds Tryd.pinned (.plain (OpenSpec.upto peerAskBackSpec)) peerAskBackUptoCard

/-- THE SECOND FORM's CARD OF 'annalslaw22.PeerAsk'. -/
def peerAskUptoCard : Claim7 := { stood := { row := peerAskUptoRow, standIns := [], harness := (true, "2e377fba95aa730c7da054d57d76de76b96b7d81497752e822e5a55df6d86188"), looks := true }, kinds := [], alts := [], laidByText := true, laidKinds := [.data, .data, .data, .sentinel, .sentinel], laidTests := true, laidLooks := .later }
def PeerAskUptoCardSaid : Prop := Claim7.holds Tryd.pinned (.plain (OpenSpec.upto peerAskSpec)) peerAskUptoCard
end Rows
end Go.Proofs.YtpbapaghcabehaaDoor
