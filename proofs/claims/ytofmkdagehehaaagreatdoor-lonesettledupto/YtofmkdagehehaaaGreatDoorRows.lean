/-
  NARROWER THAN 'FOR EVERY INPUT', by the rows' own cells (each row's printed sentence says how): LoneMust: laid · LoneModel: laid · LoneRecovers: laid · LoneSettled: laid · LoneLists: laid.
  DERIVED. THE GIVEN ROWS OF THIS SEAT. 5 by the template 'for every input the law returns true; each argument reads behind the call as it read before'; 0 by the template 'total and deterministic' (their statements: YtofmkdagehehaaaGreatDoorTotals.lean).
  GIVEN WITH THE SEED: the statements are not yours to turn. If you find one false, say at which input.
  Laid BY PROGRAM, IN A SANDBOX (cutbox-rows.mjs): the forced cells as the released guide's own fill.sh prints them over the translation dbcffd4b384ec583… (all of the seat's roots in one cut). By AI agents, Wed Nov 11 2026. No macro, syntax, notation, axiom, sorry.
-/
import Derived.Test.YtofmkdagehehaaaGreatDoorChecked
import GoSem.Claim
import GoSem.ClaimJoined
import GoSem.ClaimMapViews
import Derived.JoinedTies
import Derived.KernelRfl
namespace Go.Proofs.YtofmkdagehehaaaGreatDoor
/- THE CELL 'sum', in the pinned program and in every row, IS THE sha256 OF THE DUMP (.gsa) THAT YtofmkdagehehaaaGreatDoorProg.lean LOADS. Nothing in Lean hashes anything: it is a label: what it is worth is what the hold of that sum in a sandbox is worth. -/
noncomputable def Tryz.pinned : Pinned := { name := "ytofmkdagehehaaagreatdoor", sum := "dbcffd4b384ec5836226c573a62c17c57b1488bc53a54edb803ed479a9cdd4df", checked := Tryz.checked }
namespace Rows
def none {H : Type} : Left H := { results := [], args := [] }

/- WHAT THE LISTED PACKAGE-LEVEL VARIABLES READ AS WHEN THE CALL BEGINS. Each datum BY PROGRAM (the guide's laid-datum.mjs) off the statement by which the dump's own 'gosem.cut.vars' lays the variable. In a bare row this is a premise. The card (YtofmkdagehehaaaGreatDoorCards.lean) ties it to the program's text. -/
def laid_annals_sha_starts {H : Type} : DataW H := .agg [.lit (.int .u32 1779033703), .lit (.int .u32 3144134277), .lit (.int .u32 1013904242), .lit (.int .u32 2773480762), .lit (.int .u32 1359893119), .lit (.int .u32 2600822924), .lit (.int .u32 528734635), .lit (.int .u32 1541459225)]
def laid_annals_sha_rounds {H : Type} : DataW H := .agg [.lit (.int .u32 1116352408), .lit (.int .u32 1899447441), .lit (.int .u32 3049323471), .lit (.int .u32 3921009573), .lit (.int .u32 961987163), .lit (.int .u32 1508970993), .lit (.int .u32 2453635748), .lit (.int .u32 2870763221), .lit (.int .u32 3624381080), .lit (.int .u32 310598401), .lit (.int .u32 607225278), .lit (.int .u32 1426881987), .lit (.int .u32 1925078388), .lit (.int .u32 2162078206), .lit (.int .u32 2614888103), .lit (.int .u32 3248222580), .lit (.int .u32 3835390401), .lit (.int .u32 4022224774), .lit (.int .u32 264347078), .lit (.int .u32 604807628), .lit (.int .u32 770255983), .lit (.int .u32 1249150122), .lit (.int .u32 1555081692), .lit (.int .u32 1996064986), .lit (.int .u32 2554220882), .lit (.int .u32 2821834349), .lit (.int .u32 2952996808), .lit (.int .u32 3210313671), .lit (.int .u32 3336571891), .lit (.int .u32 3584528711), .lit (.int .u32 113926993), .lit (.int .u32 338241895), .lit (.int .u32 666307205), .lit (.int .u32 773529912), .lit (.int .u32 1294757372), .lit (.int .u32 1396182291), .lit (.int .u32 1695183700), .lit (.int .u32 1986661051), .lit (.int .u32 2177026350), .lit (.int .u32 2456956037), .lit (.int .u32 2730485921), .lit (.int .u32 2820302411), .lit (.int .u32 3259730800), .lit (.int .u32 3345764771), .lit (.int .u32 3516065817), .lit (.int .u32 3600352804), .lit (.int .u32 4094571909), .lit (.int .u32 275423344), .lit (.int .u32 430227734), .lit (.int .u32 506948616), .lit (.int .u32 659060556), .lit (.int .u32 883997877), .lit (.int .u32 958139571), .lit (.int .u32 1322822218), .lit (.int .u32 1537002063), .lit (.int .u32 1747873779), .lit (.int .u32 1955562222), .lit (.int .u32 2024104815), .lit (.int .u32 2227730452), .lit (.int .u32 2361852424), .lit (.int .u32 2428436474), .lit (.int .u32 2756734187), .lit (.int .u32 3204031479), .lit (.int .u32 3329325298)]
def laid_annals_annalsref2_first {H : Type} : DataW H := .agg [.lit (.int .u32 1779033703), .lit (.int .u32 3144134277), .lit (.int .u32 1013904242), .lit (.int .u32 2773480762), .lit (.int .u32 1359893119), .lit (.int .u32 2600822924), .lit (.int .u32 528734635), .lit (.int .u32 1541459225)]
def laid_annals_annalsref2_table {H : Type} : DataW H := .agg [.lit (.int .u32 1116352408), .lit (.int .u32 1899447441), .lit (.int .u32 3049323471), .lit (.int .u32 3921009573), .lit (.int .u32 961987163), .lit (.int .u32 1508970993), .lit (.int .u32 2453635748), .lit (.int .u32 2870763221), .lit (.int .u32 3624381080), .lit (.int .u32 310598401), .lit (.int .u32 607225278), .lit (.int .u32 1426881987), .lit (.int .u32 1925078388), .lit (.int .u32 2162078206), .lit (.int .u32 2614888103), .lit (.int .u32 3248222580), .lit (.int .u32 3835390401), .lit (.int .u32 4022224774), .lit (.int .u32 264347078), .lit (.int .u32 604807628), .lit (.int .u32 770255983), .lit (.int .u32 1249150122), .lit (.int .u32 1555081692), .lit (.int .u32 1996064986), .lit (.int .u32 2554220882), .lit (.int .u32 2821834349), .lit (.int .u32 2952996808), .lit (.int .u32 3210313671), .lit (.int .u32 3336571891), .lit (.int .u32 3584528711), .lit (.int .u32 113926993), .lit (.int .u32 338241895), .lit (.int .u32 666307205), .lit (.int .u32 773529912), .lit (.int .u32 1294757372), .lit (.int .u32 1396182291), .lit (.int .u32 1695183700), .lit (.int .u32 1986661051), .lit (.int .u32 2177026350), .lit (.int .u32 2456956037), .lit (.int .u32 2730485921), .lit (.int .u32 2820302411), .lit (.int .u32 3259730800), .lit (.int .u32 3345764771), .lit (.int .u32 3516065817), .lit (.int .u32 3600352804), .lit (.int .u32 4094571909), .lit (.int .u32 275423344), .lit (.int .u32 430227734), .lit (.int .u32 506948616), .lit (.int .u32 659060556), .lit (.int .u32 883997877), .lit (.int .u32 958139571), .lit (.int .u32 1322822218), .lit (.int .u32 1537002063), .lit (.int .u32 1747873779), .lit (.int .u32 1955562222), .lit (.int .u32 2024104815), .lit (.int .u32 2227730452), .lit (.int .u32 2361852424), .lit (.int .u32 2428436474), .lit (.int .u32 2756734187), .lit (.int .u32 3204031479), .lit (.int .u32 3329325298)]

/-- 'annalslaw15.LoneMust': WHATEVER THE INPUT: true; the input reads as it did. -/
def loneMustSpec : ChangeSpec := { name := "loneMust", fn := fun _ => fun
  | [d1, d2, d3] => { results := [.lit (.bool true)], args := [d1, d2, d3] }
  | _ => none }
def loneMustRow : OpenClaim := { program := "ytofmkdagehehaaagreatdoor", sum := "dbcffd4b384ec5836226c573a62c17c57b1488bc53a54edb803ed479a9cdd4df", func := "annals/annalslaw15.LoneMust", spec := "loneMust", inPlace := ["maps.clone", "internal/abi.NoEscape", "internal/bytealg.MakeNoZero"], unfollowed := true, recurses := true, named := ["annals/sha.starts", "annals/sha.rounds"], apart := false, laid := [("annals/sha.starts", laid_annals_sha_starts), ("annals/sha.rounds", laid_annals_sha_rounds)] }
def LoneMustSaid : Prop := loneMustRow.holds Tryz.pinned (OpenSpec.ofChange loneMustSpec)

/-- ITS FALSE NEIGHBOUR: 'it returns false'. Refute it at one input. -/
def loneMustWrong : ChangeSpec := { name := "loneMust", fn := fun _ => fun
  | [d1, d2, d3] => { results := [.lit (.bool false)], args := [d1, d2, d3] }
  | _ => none }
def LoneMustWrongFalsely : Prop := loneMustRow.holds Tryz.pinned (OpenSpec.ofChange loneMustWrong)

/-- 'annalslaw15.LoneModel': WHATEVER THE INPUT: true; the input reads as it did. -/
def loneModelSpec : ChangeSpec := { name := "loneModel", fn := fun _ => fun
  | [d1, d2, d3, d4, d5, d6, d7] => { results := [.lit (.bool true)], args := [d1, d2, d3, d4, d5, d6, d7] }
  | _ => none }
def loneModelRow : OpenClaim := { program := "ytofmkdagehehaaagreatdoor", sum := "dbcffd4b384ec5836226c573a62c17c57b1488bc53a54edb803ed479a9cdd4df", func := "annals/annalslaw15.LoneModel", spec := "loneModel", inPlace := ["maps.clone", "internal/abi.NoEscape", "internal/bytealg.MakeNoZero"], unfollowed := true, recurses := true, named := ["annals/sha.starts", "annals/sha.rounds"], apart := false, laid := [("annals/sha.starts", laid_annals_sha_starts), ("annals/sha.rounds", laid_annals_sha_rounds)] }
def LoneModelSaid : Prop := loneModelRow.holds Tryz.pinned (OpenSpec.ofChange loneModelSpec)

/-- ITS FALSE NEIGHBOUR: 'it returns false'. Refute it at one input. -/
def loneModelWrong : ChangeSpec := { name := "loneModel", fn := fun _ => fun
  | [d1, d2, d3, d4, d5, d6, d7] => { results := [.lit (.bool false)], args := [d1, d2, d3, d4, d5, d6, d7] }
  | _ => none }
def LoneModelWrongFalsely : Prop := loneModelRow.holds Tryz.pinned (OpenSpec.ofChange loneModelWrong)

/-- 'annalslaw15.LoneRecovers': WHATEVER THE INPUT: true; the input reads as it did. -/
def loneRecoversSpec : ChangeSpec := { name := "loneRecovers", fn := fun _ => fun
  | [d1, d2] => { results := [.lit (.bool true)], args := [d1, d2] }
  | _ => none }
def loneRecoversRow : OpenClaim := { program := "ytofmkdagehehaaagreatdoor", sum := "dbcffd4b384ec5836226c573a62c17c57b1488bc53a54edb803ed479a9cdd4df", func := "annals/annalslaw15.LoneRecovers", spec := "loneRecovers", inPlace := ["maps.clone", "internal/abi.NoEscape", "internal/bytealg.MakeNoZero"], unfollowed := true, recurses := true, named := ["annals/sha.starts", "annals/sha.rounds"], apart := false, laid := [("annals/sha.starts", laid_annals_sha_starts), ("annals/sha.rounds", laid_annals_sha_rounds)] }
def LoneRecoversSaid : Prop := loneRecoversRow.holds Tryz.pinned (OpenSpec.ofChange loneRecoversSpec)

/-- ITS FALSE NEIGHBOUR: 'it returns false'. Refute it at one input. -/
def loneRecoversWrong : ChangeSpec := { name := "loneRecovers", fn := fun _ => fun
  | [d1, d2] => { results := [.lit (.bool false)], args := [d1, d2] }
  | _ => none }
def LoneRecoversWrongFalsely : Prop := loneRecoversRow.holds Tryz.pinned (OpenSpec.ofChange loneRecoversWrong)

/-- 'annalslaw15.LoneSettled': WHATEVER THE INPUT: true; the input reads as it did. -/
def loneSettledSpec : ChangeSpec := { name := "loneSettled", fn := fun _ => fun
  | [d1, d2, d3] => { results := [.lit (.bool true)], args := [d1, d2, d3] }
  | _ => none }
def loneSettledRow : OpenClaim := { program := "ytofmkdagehehaaagreatdoor", sum := "dbcffd4b384ec5836226c573a62c17c57b1488bc53a54edb803ed479a9cdd4df", func := "annals/annalslaw15.LoneSettled", spec := "loneSettled", inPlace := ["maps.clone", "internal/abi.NoEscape", "internal/bytealg.MakeNoZero"], unfollowed := true, recurses := true, named := ["annals/sha.starts", "annals/sha.rounds"], apart := false, laid := [("annals/sha.starts", laid_annals_sha_starts), ("annals/sha.rounds", laid_annals_sha_rounds)] }
def LoneSettledSaid : Prop := loneSettledRow.holds Tryz.pinned (OpenSpec.ofChange loneSettledSpec)

/-- ITS FALSE NEIGHBOUR: 'it returns false'. Refute it at one input. -/
def loneSettledWrong : ChangeSpec := { name := "loneSettled", fn := fun _ => fun
  | [d1, d2, d3] => { results := [.lit (.bool false)], args := [d1, d2, d3] }
  | _ => none }
def LoneSettledWrongFalsely : Prop := loneSettledRow.holds Tryz.pinned (OpenSpec.ofChange loneSettledWrong)

/-- 'annalslaw15.LoneLists': WHATEVER THE INPUT: true; the input reads as it did. -/
def loneListsSpec : ChangeSpec := { name := "loneLists", fn := fun _ => fun
  | [d1, d2, d3] => { results := [.lit (.bool true)], args := [d1, d2, d3] }
  | _ => none }
def loneListsRow : OpenClaim := { program := "ytofmkdagehehaaagreatdoor", sum := "dbcffd4b384ec5836226c573a62c17c57b1488bc53a54edb803ed479a9cdd4df", func := "annals/annalslaw15.LoneLists", spec := "loneLists", inPlace := ["maps.clone", "internal/abi.NoEscape", "internal/bytealg.MakeNoZero"], unfollowed := true, recurses := true, named := ["annals/sha.starts", "annals/sha.rounds", "annals/annalsref2.first", "annals/annalsref2.table"], apart := false, laid := [("annals/annalsref2.first", laid_annals_annalsref2_first), ("annals/annalsref2.table", laid_annals_annalsref2_table), ("annals/sha.starts", laid_annals_sha_starts), ("annals/sha.rounds", laid_annals_sha_rounds)] }
def LoneListsSaid : Prop := loneListsRow.holds Tryz.pinned (OpenSpec.ofChange loneListsSpec)

/-- ITS FALSE NEIGHBOUR: 'it returns false'. Refute it at one input. -/
def loneListsWrong : ChangeSpec := { name := "loneLists", fn := fun _ => fun
  | [d1, d2, d3] => { results := [.lit (.bool false)], args := [d1, d2, d3] }
  | _ => none }
def LoneListsWrongFalsely : Prop := loneListsRow.holds Tryz.pinned (OpenSpec.ofChange loneListsWrong)

/- THE SECOND FORM. 'bulk': how many values and letters a reading holds, each counted each time it is reached (what is shared counts as often as it is met; a slice's spare places count too). A statement '..UptoSaid' is the law's where the arguments, and the package variables that the reading takes, are together of bulk at most 1048576: NARROWER than '..Said'. Prove '..Said' where nothing that the law and all that it calls make is longer than what came in: it says more and counts as full. Else prove '..UptoSaid'. A law counts once. -/
mutual
def uptoBulk {H : Type} : DataW H → Nat
  | .lit (.string bytes) => bytes.length + 1
  | .lit _ => 1
  | .nil => 1
  | .ptr d => uptoBulk d + 1
  | .slice elems spare => uptoBulkAll elems + uptoBulkAll spare + 1
  | .agg parts => uptoBulkAll parts + 1
  | .iface _ d => uptoBulk d + 1
  | .map entries => uptoBulkEntries entries + 1
  | .held _ => 1
def uptoBulkAll {H : Type} : List (DataW H) → Nat
  | [] => 0
  | d :: r => uptoBulk d + uptoBulkAll r
def uptoBulkEntries {H : Type} : List (Lit × DataW H) → Nat
  | [] => 0
  | x :: r => uptoBulkEntry x + uptoBulkEntries r
def uptoBulkEntry {H : Type} : Lit × DataW H → Nat
  | (.string bytes, d) => bytes.length + uptoBulk d + 1
  | (_, d) => uptoBulk d + 1
 end
def uptoSmall : (H : Type) → List (DataW H) → Bool := fun _ ds => decide (uptoBulkAll ds ≤ 1048576)
def OpenSpec.upto (s : _root_.Go.ChangeSpec) : _root_.Go.OpenSpec := { _root_.Go.OpenSpec.ofChange s with cond := some uptoSmall }

/-- 'annalslaw15.LoneMust', WHERE WHAT IT READS IS OF BULK AT MOST 1048576: true; the input reads as it did. -/
def loneMustUptoRow : OpenClaim := { program := "ytofmkdagehehaaagreatdoor", sum := "dbcffd4b384ec5836226c573a62c17c57b1488bc53a54edb803ed479a9cdd4df", func := "annals/annalslaw15.LoneMust", spec := "loneMust", inPlace := ["maps.clone", "internal/abi.NoEscape", "internal/bytealg.MakeNoZero"], unfollowed := true, recurses := true, named := ["annals/sha.starts", "annals/sha.rounds"], apart := false, laid := [("annals/sha.starts", laid_annals_sha_starts), ("annals/sha.rounds", laid_annals_sha_rounds)], narrowed := true }
def LoneMustUptoSaid : Prop := loneMustUptoRow.holds Tryz.pinned (OpenSpec.upto loneMustSpec)

/-- 'annalslaw15.LoneModel', WHERE WHAT IT READS IS OF BULK AT MOST 1048576: true; the input reads as it did. -/
def loneModelUptoRow : OpenClaim := { program := "ytofmkdagehehaaagreatdoor", sum := "dbcffd4b384ec5836226c573a62c17c57b1488bc53a54edb803ed479a9cdd4df", func := "annals/annalslaw15.LoneModel", spec := "loneModel", inPlace := ["maps.clone", "internal/abi.NoEscape", "internal/bytealg.MakeNoZero"], unfollowed := true, recurses := true, named := ["annals/sha.starts", "annals/sha.rounds"], apart := false, laid := [("annals/sha.starts", laid_annals_sha_starts), ("annals/sha.rounds", laid_annals_sha_rounds)], narrowed := true }
def LoneModelUptoSaid : Prop := loneModelUptoRow.holds Tryz.pinned (OpenSpec.upto loneModelSpec)

/-- 'annalslaw15.LoneRecovers', WHERE WHAT IT READS IS OF BULK AT MOST 1048576: true; the input reads as it did. -/
def loneRecoversUptoRow : OpenClaim := { program := "ytofmkdagehehaaagreatdoor", sum := "dbcffd4b384ec5836226c573a62c17c57b1488bc53a54edb803ed479a9cdd4df", func := "annals/annalslaw15.LoneRecovers", spec := "loneRecovers", inPlace := ["maps.clone", "internal/abi.NoEscape", "internal/bytealg.MakeNoZero"], unfollowed := true, recurses := true, named := ["annals/sha.starts", "annals/sha.rounds"], apart := false, laid := [("annals/sha.starts", laid_annals_sha_starts), ("annals/sha.rounds", laid_annals_sha_rounds)], narrowed := true }
def LoneRecoversUptoSaid : Prop := loneRecoversUptoRow.holds Tryz.pinned (OpenSpec.upto loneRecoversSpec)

/-- 'annalslaw15.LoneSettled', WHERE WHAT IT READS IS OF BULK AT MOST 1048576: true; the input reads as it did. -/
def loneSettledUptoRow : OpenClaim := { program := "ytofmkdagehehaaagreatdoor", sum := "dbcffd4b384ec5836226c573a62c17c57b1488bc53a54edb803ed479a9cdd4df", func := "annals/annalslaw15.LoneSettled", spec := "loneSettled", inPlace := ["maps.clone", "internal/abi.NoEscape", "internal/bytealg.MakeNoZero"], unfollowed := true, recurses := true, named := ["annals/sha.starts", "annals/sha.rounds"], apart := false, laid := [("annals/sha.starts", laid_annals_sha_starts), ("annals/sha.rounds", laid_annals_sha_rounds)], narrowed := true }
def LoneSettledUptoSaid : Prop := loneSettledUptoRow.holds Tryz.pinned (OpenSpec.upto loneSettledSpec)

/-- 'annalslaw15.LoneLists', WHERE WHAT IT READS IS OF BULK AT MOST 1048576: true; the input reads as it did. -/
def loneListsUptoRow : OpenClaim := { program := "ytofmkdagehehaaagreatdoor", sum := "dbcffd4b384ec5836226c573a62c17c57b1488bc53a54edb803ed479a9cdd4df", func := "annals/annalslaw15.LoneLists", spec := "loneLists", inPlace := ["maps.clone", "internal/abi.NoEscape", "internal/bytealg.MakeNoZero"], unfollowed := true, recurses := true, named := ["annals/sha.starts", "annals/sha.rounds", "annals/annalsref2.first", "annals/annalsref2.table"], apart := false, laid := [("annals/annalsref2.first", laid_annals_annalsref2_first), ("annals/annalsref2.table", laid_annals_annalsref2_table), ("annals/sha.starts", laid_annals_sha_starts), ("annals/sha.rounds", laid_annals_sha_rounds)], narrowed := true }
def LoneListsUptoSaid : Prop := loneListsUptoRow.holds Tryz.pinned (OpenSpec.upto loneListsSpec)

end Rows
end Go.Proofs.YtofmkdagehehaaaGreatDoor
