/-
  DERIVED. GIVEN WITH THE SEED: THE CARDS: each row of YtmgkfkfmiddanabDoorRows.lean that lists a variable, with what it lists TIED to the program's text (the seventh form; the later family's looks); each row that meets fmt, with fmt's text TOLD by the authors' own Lean function (tested against real Go, not proved from fmt's source: count such statements apart). THE CARD IS WHAT COUNTS. Prove the row's statement (the work); the ties are given (YtmgkfkfmiddanabDoorTie.lean); close each card by the builder's one call (the guide's Derived/Test/ToyasCard.lean, 'card_holds'). Laid BY PROGRAM, IN A SANDBOX (cutbox-door.mjs). By AI agents, Wed Nov 11 2026. No macro, syntax, notation, axiom, sorry.
-/
import Derived.Test.YtmgkfkfmiddanabDoorRows
import GoSem.ClaimSeven
namespace Go.Proofs.YtmgkfkfmiddanabDoor
namespace Rows

/-- THE TIED CARD OF 'annalslaw3.MacSum'. -/
def macSumCard : Claim7 := { stood := { row := macSumRow, standIns := [], harness := (true, "efe83b1bc2b629676b4dfce83a7ef93b94aab794607bb5c8607311ff9ff05603"), looks := false }, kinds := [], alts := [], laidByText := true, laidKinds := [.data, .data, .data, .data], laidTests := true, laidLooks := .later }
def MacSumCardSaid : Prop := Claim7.holds Tryd.pinned (.plain (OpenSpec.ofChange macSumSpec)) macSumCard

/-- THE TIED CARD OF 'annalslaw3.MacKeyID'. -/
def macKeyIDCard : Claim7 := { stood := { row := macKeyIDRow, standIns := [], harness := (true, "efe83b1bc2b629676b4dfce83a7ef93b94aab794607bb5c8607311ff9ff05603"), looks := false }, kinds := [], alts := [], laidByText := true, laidKinds := [.data, .data, .data, .data], laidTests := true, laidLooks := .later }
def MacKeyIDCardSaid : Prop := Claim7.holds Tryd.pinned (.plain (OpenSpec.ofChange macKeyIDSpec)) macKeyIDCard

/-- THE TIED CARD OF 'annalslaw3.MacDerive'. -/
def macDeriveCard : Claim7 := { stood := { row := macDeriveRow, standIns := [], harness := (true, "efe83b1bc2b629676b4dfce83a7ef93b94aab794607bb5c8607311ff9ff05603"), looks := false }, kinds := [], alts := [], laidByText := true, laidKinds := [.data, .data, .data, .data], laidTests := true, laidLooks := .later }
def MacDeriveCardSaid : Prop := Claim7.holds Tryd.pinned (.plain (OpenSpec.ofChange macDeriveSpec)) macDeriveCard

/-- THE SECOND FORM's CARD OF 'annalslaw3.MacSum'. -/
def macSumUptoCard : Claim7 := { stood := { row := macSumUptoRow, standIns := [], harness := (true, "efe83b1bc2b629676b4dfce83a7ef93b94aab794607bb5c8607311ff9ff05603"), looks := false }, kinds := [], alts := [], laidByText := true, laidKinds := [.data, .data, .data, .data], laidTests := true, laidLooks := .later }
def MacSumUptoCardSaid : Prop := Claim7.holds Tryd.pinned (.plain (OpenSpec.upto macSumSpec)) macSumUptoCard

/-- THE SECOND FORM's CARD OF 'annalslaw3.MacKeyID'. -/
def macKeyIDUptoCard : Claim7 := { stood := { row := macKeyIDUptoRow, standIns := [], harness := (true, "efe83b1bc2b629676b4dfce83a7ef93b94aab794607bb5c8607311ff9ff05603"), looks := false }, kinds := [], alts := [], laidByText := true, laidKinds := [.data, .data, .data, .data], laidTests := true, laidLooks := .later }
def MacKeyIDUptoCardSaid : Prop := Claim7.holds Tryd.pinned (.plain (OpenSpec.upto macKeyIDSpec)) macKeyIDUptoCard

/-- THE SECOND FORM's CARD OF 'annalslaw3.MacDerive'. -/
def macDeriveUptoCard : Claim7 := { stood := { row := macDeriveUptoRow, standIns := [], harness := (true, "efe83b1bc2b629676b4dfce83a7ef93b94aab794607bb5c8607311ff9ff05603"), looks := false }, kinds := [], alts := [], laidByText := true, laidKinds := [.data, .data, .data, .data], laidTests := true, laidLooks := .later }
def MacDeriveUptoCardSaid : Prop := Claim7.holds Tryd.pinned (.plain (OpenSpec.upto macDeriveSpec)) macDeriveUptoCard
end Rows
end Go.Proofs.YtmgkfkfmiddanabDoor
