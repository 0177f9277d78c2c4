/-
  No cell of these rows narrows 'for every input' (looked for: loops, veiled, ifaces, maps, wideKeys, modest, calm, conditions, laid).
  DERIVED. THE GIVEN ROWS OF THIS SEAT. 6 by the template 'for every input the law returns true; each argument reads behind the call as it read before'; 0 by the template 'total and deterministic' (their statements: YtnjkjmkhpdioaaaTotals.lean).
  GIVEN WITH THE SEED: the statements are not yours to turn. If you find one false, say at which input.
  Laid BY PROGRAM, IN A SANDBOX (cutbox-rows.mjs): the forced cells as the released guide's own fill.sh prints them over the translation d737198420bd34da… (all of the seat's roots in one cut). By AI agents, Wed Nov 11 2026. No macro, syntax, notation, axiom, sorry.
-/
import Derived.Test.YtnjkjmkhpdioaaaChecked
import GoSem.Claim
import GoSem.ClaimJoined
import GoSem.ClaimMapViews
import Derived.JoinedTies
import Derived.KernelRfl
namespace Go.Proofs.Ytnjkjmkhpdioaaa
/- THE CELL 'sum', in the pinned program and in every row, IS THE sha256 OF THE DUMP (.gsa) THAT YtnjkjmkhpdioaaaProg.lean LOADS. Nothing in Lean hashes anything: it is a label: what it is worth is what the hold of that sum in a sandbox is worth. -/
noncomputable def Try.pinned : Pinned := { name := "ytnjkjmkhpdioaaa", sum := "d737198420bd34da4e0c184d8d3f5599a2675f42ed0b8912b15a021dddfcee0c", checked := Try.checked }
namespace Rows
def none {H : Type} : Left H := { results := [], args := [] }

/-- 'annalslaw1.NumsVarBack': WHATEVER THE INPUT: true; the input reads as it did. -/
def numsVarBackSpec : ChangeSpec := { name := "numsVarBack", fn := fun _ => fun
  | [d1, d2, d3] => { results := [.lit (.bool true)], args := [d1, d2, d3] }
  | _ => none }
def numsVarBackRow : OpenClaim := { program := "ytnjkjmkhpdioaaa", sum := "d737198420bd34da4e0c184d8d3f5599a2675f42ed0b8912b15a021dddfcee0c", func := "annals/annalslaw1.NumsVarBack", spec := "numsVarBack", apart := false }
def NumsVarBackSaid : Prop := numsVarBackRow.holds Try.pinned (OpenSpec.ofChange numsVarBackSpec)

/-- ITS FALSE NEIGHBOUR: 'it returns false'. Refute it at one input. -/
def numsVarBackWrong : ChangeSpec := { name := "numsVarBack", fn := fun _ => fun
  | [d1, d2, d3] => { results := [.lit (.bool false)], args := [d1, d2, d3] }
  | _ => none }
def NumsVarBackWrongFalsely : Prop := numsVarBackRow.holds Try.pinned (OpenSpec.ofChange numsVarBackWrong)

/-- 'annalslaw1.NumsVarForm': WHATEVER THE INPUT: true; the input reads as it did. -/
def numsVarFormSpec : ChangeSpec := { name := "numsVarForm", fn := fun _ => fun
  | [d1, d2, d3] => { results := [.lit (.bool true)], args := [d1, d2, d3] }
  | _ => none }
def numsVarFormRow : OpenClaim := { program := "ytnjkjmkhpdioaaa", sum := "d737198420bd34da4e0c184d8d3f5599a2675f42ed0b8912b15a021dddfcee0c", func := "annals/annalslaw1.NumsVarForm", spec := "numsVarForm", apart := false }
def NumsVarFormSaid : Prop := numsVarFormRow.holds Try.pinned (OpenSpec.ofChange numsVarFormSpec)

/-- ITS FALSE NEIGHBOUR: 'it returns false'. Refute it at one input. -/
def numsVarFormWrong : ChangeSpec := { name := "numsVarForm", fn := fun _ => fun
  | [d1, d2, d3] => { results := [.lit (.bool false)], args := [d1, d2, d3] }
  | _ => none }
def NumsVarFormWrongFalsely : Prop := numsVarFormRow.holds Try.pinned (OpenSpec.ofChange numsVarFormWrong)

/-- 'annalslaw1.NumsReads': WHATEVER THE INPUT: true; the input reads as it did. -/
def numsReadsSpec : ChangeSpec := { name := "numsReads", fn := fun _ => fun
  | [d1, d2, d3] => { results := [.lit (.bool true)], args := [d1, d2, d3] }
  | _ => none }
def numsReadsRow : OpenClaim := { program := "ytnjkjmkhpdioaaa", sum := "d737198420bd34da4e0c184d8d3f5599a2675f42ed0b8912b15a021dddfcee0c", func := "annals/annalslaw1.NumsReads", spec := "numsReads", apart := false }
def NumsReadsSaid : Prop := numsReadsRow.holds Try.pinned (OpenSpec.ofChange numsReadsSpec)

/-- ITS FALSE NEIGHBOUR: 'it returns false'. Refute it at one input. -/
def numsReadsWrong : ChangeSpec := { name := "numsReads", fn := fun _ => fun
  | [d1, d2, d3] => { results := [.lit (.bool false)], args := [d1, d2, d3] }
  | _ => none }
def NumsReadsWrongFalsely : Prop := numsReadsRow.holds Try.pinned (OpenSpec.ofChange numsReadsWrong)

/-- 'annalslaw1.NumsFixed': WHATEVER THE INPUT: true; the input reads as it did. -/
def numsFixedSpec : ChangeSpec := { name := "numsFixed", fn := fun _ => fun
  | [d1, d2, d3, d4, d5] => { results := [.lit (.bool true)], args := [d1, d2, d3, d4, d5] }
  | _ => none }
def numsFixedRow : OpenClaim := { program := "ytnjkjmkhpdioaaa", sum := "d737198420bd34da4e0c184d8d3f5599a2675f42ed0b8912b15a021dddfcee0c", func := "annals/annalslaw1.NumsFixed", spec := "numsFixed", apart := false }
def NumsFixedSaid : Prop := numsFixedRow.holds Try.pinned (OpenSpec.ofChange numsFixedSpec)

/-- ITS FALSE NEIGHBOUR: 'it returns false'. Refute it at one input. -/
def numsFixedWrong : ChangeSpec := { name := "numsFixed", fn := fun _ => fun
  | [d1, d2, d3, d4, d5] => { results := [.lit (.bool false)], args := [d1, d2, d3, d4, d5] }
  | _ => none }
def NumsFixedWrongFalsely : Prop := numsFixedRow.holds Try.pinned (OpenSpec.ofChange numsFixedWrong)

/-- 'annalslaw1.NumsBytes': WHATEVER THE INPUT: true; the input reads as it did. -/
def numsBytesSpec : ChangeSpec := { name := "numsBytes", fn := fun _ => fun
  | [d1, d2, d3] => { results := [.lit (.bool true)], args := [d1, d2, d3] }
  | _ => none }
def numsBytesRow : OpenClaim := { program := "ytnjkjmkhpdioaaa", sum := "d737198420bd34da4e0c184d8d3f5599a2675f42ed0b8912b15a021dddfcee0c", func := "annals/annalslaw1.NumsBytes", spec := "numsBytes", apart := false }
def NumsBytesSaid : Prop := numsBytesRow.holds Try.pinned (OpenSpec.ofChange numsBytesSpec)

/-- ITS FALSE NEIGHBOUR: 'it returns false'. Refute it at one input. -/
def numsBytesWrong : ChangeSpec := { name := "numsBytes", fn := fun _ => fun
  | [d1, d2, d3] => { results := [.lit (.bool false)], args := [d1, d2, d3] }
  | _ => none }
def NumsBytesWrongFalsely : Prop := numsBytesRow.holds Try.pinned (OpenSpec.ofChange numsBytesWrong)

/-- 'annalslaw1.NumsSums': WHATEVER THE INPUT: true; the input reads as it did. -/
def numsSumsSpec : ChangeSpec := { name := "numsSums", fn := fun _ => fun
  | [d1, d2] => { results := [.lit (.bool true)], args := [d1, d2] }
  | _ => none }
def numsSumsRow : OpenClaim := { program := "ytnjkjmkhpdioaaa", sum := "d737198420bd34da4e0c184d8d3f5599a2675f42ed0b8912b15a021dddfcee0c", func := "annals/annalslaw1.NumsSums", spec := "numsSums", apart := false }
def NumsSumsSaid : Prop := numsSumsRow.holds Try.pinned (OpenSpec.ofChange numsSumsSpec)

/-- ITS FALSE NEIGHBOUR: 'it returns false'. Refute it at one input. -/
def numsSumsWrong : ChangeSpec := { name := "numsSums", fn := fun _ => fun
  | [d1, d2] => { results := [.lit (.bool false)], args := [d1, d2] }
  | _ => none }
def NumsSumsWrongFalsely : Prop := numsSumsRow.holds Try.pinned (OpenSpec.ofChange numsSumsWrong)

/- THE SECOND FORM. 'bulk': how many values and letters a reading holds, each counted each time it is reached (what is shared counts as often as it is met; a slice's spare places count too). A statement '..UptoSaid' is the law's where the arguments, and the package variables that the reading takes, are together of bulk at most 1048576: NARROWER than '..Said'. Prove '..Said' where nothing that the law and all that it calls make is longer than what came in: it says more and counts as full. Else prove '..UptoSaid'. A law counts once. -/
mutual
def uptoBulk {H : Type} : DataW H → Nat
  | .lit (.string bytes) => bytes.length + 1
  | .lit _ => 1
  | .nil => 1
  | .ptr d => uptoBulk d + 1
  | .slice elems spare => uptoBulkAll elems + uptoBulkAll spare + 1
  | .agg parts => uptoBulkAll parts + 1
  | .iface _ d => uptoBulk d + 1
  | .map entries => uptoBulkEntries entries + 1
  | .held _ => 1
def uptoBulkAll {H : Type} : List (DataW H) → Nat
  | [] => 0
  | d :: r => uptoBulk d + uptoBulkAll r
def uptoBulkEntries {H : Type} : List (Lit × DataW H) → Nat
  | [] => 0
  | x :: r => uptoBulkEntry x + uptoBulkEntries r
def uptoBulkEntry {H : Type} : Lit × DataW H → Nat
  | (.string bytes, d) => bytes.length + uptoBulk d + 1
  | (_, d) => uptoBulk d + 1
 end
def uptoSmall : (H : Type) → List (DataW H) → Bool := fun _ ds => decide (uptoBulkAll ds ≤ 1048576)
def OpenSpec.upto (s : _root_.Go.ChangeSpec) : _root_.Go.OpenSpec := { _root_.Go.OpenSpec.ofChange s with cond := some uptoSmall }

/-- 'annalslaw1.NumsVarBack', WHERE WHAT IT READS IS OF BULK AT MOST 1048576: true; the input reads as it did. -/
def numsVarBackUptoRow : OpenClaim := { program := "ytnjkjmkhpdioaaa", sum := "d737198420bd34da4e0c184d8d3f5599a2675f42ed0b8912b15a021dddfcee0c", func := "annals/annalslaw1.NumsVarBack", spec := "numsVarBack", apart := false, narrowed := true }
def NumsVarBackUptoSaid : Prop := numsVarBackUptoRow.holds Try.pinned (OpenSpec.upto numsVarBackSpec)

/-- 'annalslaw1.NumsVarForm', WHERE WHAT IT READS IS OF BULK AT MOST 1048576: true; the input reads as it did. -/
def numsVarFormUptoRow : OpenClaim := { program := "ytnjkjmkhpdioaaa", sum := "d737198420bd34da4e0c184d8d3f5599a2675f42ed0b8912b15a021dddfcee0c", func := "annals/annalslaw1.NumsVarForm", spec := "numsVarForm", apart := false, narrowed := true }
def NumsVarFormUptoSaid : Prop := numsVarFormUptoRow.holds Try.pinned (OpenSpec.upto numsVarFormSpec)

/-- 'annalslaw1.NumsReads', WHERE WHAT IT READS IS OF BULK AT MOST 1048576: true; the input reads as it did. -/
def numsReadsUptoRow : OpenClaim := { program := "ytnjkjmkhpdioaaa", sum := "d737198420bd34da4e0c184d8d3f5599a2675f42ed0b8912b15a021dddfcee0c", func := "annals/annalslaw1.NumsReads", spec := "numsReads", apart := false, narrowed := true }
def NumsReadsUptoSaid : Prop := numsReadsUptoRow.holds Try.pinned (OpenSpec.upto numsReadsSpec)

/-- 'annalslaw1.NumsFixed', WHERE WHAT IT READS IS OF BULK AT MOST 1048576: true; the input reads as it did. -/
def numsFixedUptoRow : OpenClaim := { program := "ytnjkjmkhpdioaaa", sum := "d737198420bd34da4e0c184d8d3f5599a2675f42ed0b8912b15a021dddfcee0c", func := "annals/annalslaw1.NumsFixed", spec := "numsFixed", apart := false, narrowed := true }
def NumsFixedUptoSaid : Prop := numsFixedUptoRow.holds Try.pinned (OpenSpec.upto numsFixedSpec)

/-- 'annalslaw1.NumsBytes', WHERE WHAT IT READS IS OF BULK AT MOST 1048576: true; the input reads as it did. -/
def numsBytesUptoRow : OpenClaim := { program := "ytnjkjmkhpdioaaa", sum := "d737198420bd34da4e0c184d8d3f5599a2675f42ed0b8912b15a021dddfcee0c", func := "annals/annalslaw1.NumsBytes", spec := "numsBytes", apart := false, narrowed := true }
def NumsBytesUptoSaid : Prop := numsBytesUptoRow.holds Try.pinned (OpenSpec.upto numsBytesSpec)

/-- 'annalslaw1.NumsSums', WHERE WHAT IT READS IS OF BULK AT MOST 1048576: true; the input reads as it did. -/
def numsSumsUptoRow : OpenClaim := { program := "ytnjkjmkhpdioaaa", sum := "d737198420bd34da4e0c184d8d3f5599a2675f42ed0b8912b15a021dddfcee0c", func := "annals/annalslaw1.NumsSums", spec := "numsSums", apart := false, narrowed := true }
def NumsSumsUptoSaid : Prop := numsSumsUptoRow.holds Try.pinned (OpenSpec.upto numsSumsSpec)

end Rows
end Go.Proofs.Ytnjkjmkhpdioaaa
