/-
  DERIVED. GIVEN WITH THE SEED: THE CARDS: each row of YtmgkfkfmiddanaaDoorRows.lean that lists a variable, with what it lists TIED to the program's text (the seventh form; the later family's looks); each row that meets fmt, with fmt's text TOLD by the authors' own Lean function (tested against real Go, not proved from fmt's source: count such statements apart). THE CARD IS WHAT COUNTS. Prove the row's statement (the work); the ties are given (YtmgkfkfmiddanaaDoorTie.lean); close each card by the builder's one call (the guide's Derived/Test/ToyasCard.lean, 'card_holds'). Laid BY PROGRAM, IN A SANDBOX (cutbox-door.mjs). By AI agents, Wed Nov 11 2026. No macro, syntax, notation, axiom, sorry.
-/
import Derived.Test.YtmgkfkfmiddanaaDoorRows
import GoSem.ClaimSeven
namespace Go.Proofs.YtmgkfkfmiddanaaDoor
namespace Rows

/-- THE TIED CARD OF 'annalslaw3.MacNested'. -/
def macNestedCard : Claim7 := { stood := { row := macNestedRow, standIns := [], harness := (true, "d5ab09ee7b9ca6dc89d98f0a803918b7f7856b167e75bcb938b91bc6165d2dc9"), looks := false }, kinds := [], alts := [], laidByText := true, laidKinds := [.data, .data], laidTests := true, laidLooks := .later }
def MacNestedCardSaid : Prop := Claim7.holds Tryd.pinned (.plain (OpenSpec.ofChange macNestedSpec)) macNestedCard

/-- THE TIED CARD OF 'annalslaw3.MacChain'. -/
def macChainCard : Claim7 := { stood := { row := macChainRow, standIns := [], harness := (true, "d5ab09ee7b9ca6dc89d98f0a803918b7f7856b167e75bcb938b91bc6165d2dc9"), looks := false }, kinds := [], alts := [], laidByText := true, laidKinds := [.data, .data], laidTests := true, laidLooks := .later }
def MacChainCardSaid : Prop := Claim7.holds Tryd.pinned (.plain (OpenSpec.ofChange macChainSpec)) macChainCard

/-- THE SECOND FORM's CARD OF 'annalslaw3.MacNested'. -/
def macNestedUptoCard : Claim7 := { stood := { row := macNestedUptoRow, standIns := [], harness := (true, "d5ab09ee7b9ca6dc89d98f0a803918b7f7856b167e75bcb938b91bc6165d2dc9"), looks := false }, kinds := [], alts := [], laidByText := true, laidKinds := [.data, .data], laidTests := true, laidLooks := .later }
def MacNestedUptoCardSaid : Prop := Claim7.holds Tryd.pinned (.plain (OpenSpec.upto macNestedSpec)) macNestedUptoCard

/-- THE SECOND FORM's CARD OF 'annalslaw3.MacChain'. -/
def macChainUptoCard : Claim7 := { stood := { row := macChainUptoRow, standIns := [], harness := (true, "d5ab09ee7b9ca6dc89d98f0a803918b7f7856b167e75bcb938b91bc6165d2dc9"), looks := false }, kinds := [], alts := [], laidByText := true, laidKinds := [.data, .data], laidTests := true, laidLooks := .later }
def MacChainUptoCardSaid : Prop := Claim7.holds Tryd.pinned (.plain (OpenSpec.upto macChainSpec)) macChainUptoCard
end Rows
end Go.Proofs.YtmgkfkfmiddanaaDoor
