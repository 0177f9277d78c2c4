/-
  NARROWER THAN 'FOR EVERY INPUT', by the rows' own cells (each row's printed sentence says how): CompWork: laid · CompParts: laid · CompMth: laid · CompCover: laid · CompRoot: laid · CompMerge: laid.
  DERIVED. THE GIVEN ROWS OF THIS SEAT. 6 by the template 'for every input the law returns true; each argument reads behind the call as it read before'; 0 by the template 'total and deterministic' (their statements: YtnnpidjpklfogaaDoorTotals.lean).
  GIVEN WITH THE SEED: the statements are not yours to turn. If you find one false, say at which input.
  Laid BY PROGRAM, IN A SANDBOX (cutbox-rows.mjs): the forced cells as the released guide's own fill.sh prints them over the translation 0fbbdfa03324f464… (all of the seat's roots in one cut). By AI agents, Wed Nov 11 2026. No macro, syntax, notation, axiom, sorry.
-/
import Derived.Test.YtnnpidjpklfogaaDoorChecked
import GoSem.Claim
import GoSem.ClaimJoined
import GoSem.ClaimMapViews
import Derived.JoinedTies
import Derived.KernelRfl
namespace Go.Proofs.YtnnpidjpklfogaaDoor
/- THE CELL 'sum', in the pinned program and in every row, IS THE sha256 OF THE DUMP (.gsa) THAT YtnnpidjpklfogaaDoorProg.lean LOADS. Nothing in Lean hashes anything: it is a label: what it is worth is what the hold of that sum in a sandbox is worth. -/
noncomputable def Tryd.pinned : Pinned := { name := "ytnnpidjpklfogaadoor", sum := "0fbbdfa03324f464a46e768cabdb77e6da12610a2ab6fd62b049dce2a5a25547", checked := Tryd.checked }
namespace Rows
def none {H : Type} : Left H := { results := [], args := [] }

/- WHAT THE LISTED PACKAGE-LEVEL VARIABLES READ AS WHEN THE CALL BEGINS. Each datum BY PROGRAM (the guide's laid-datum.mjs) off the statement by which the dump's own 'gosem.cut.vars' lays the variable. In a bare row this is a premise. The card (YtnnpidjpklfogaaDoorCards.lean) ties it to the program's text. -/
def laid_math_bits_deBruijn64tab {H : Type} : DataW H := .agg [.lit (.int .u8 0), .lit (.int .u8 1), .lit (.int .u8 56), .lit (.int .u8 2), .lit (.int .u8 57), .lit (.int .u8 49), .lit (.int .u8 28), .lit (.int .u8 3), .lit (.int .u8 61), .lit (.int .u8 58), .lit (.int .u8 42), .lit (.int .u8 50), .lit (.int .u8 38), .lit (.int .u8 29), .lit (.int .u8 17), .lit (.int .u8 4), .lit (.int .u8 62), .lit (.int .u8 47), .lit (.int .u8 59), .lit (.int .u8 36), .lit (.int .u8 45), .lit (.int .u8 43), .lit (.int .u8 51), .lit (.int .u8 22), .lit (.int .u8 53), .lit (.int .u8 39), .lit (.int .u8 33), .lit (.int .u8 30), .lit (.int .u8 24), .lit (.int .u8 18), .lit (.int .u8 12), .lit (.int .u8 5), .lit (.int .u8 63), .lit (.int .u8 55), .lit (.int .u8 48), .lit (.int .u8 27), .lit (.int .u8 60), .lit (.int .u8 41), .lit (.int .u8 37), .lit (.int .u8 16), .lit (.int .u8 46), .lit (.int .u8 35), .lit (.int .u8 44), .lit (.int .u8 21), .lit (.int .u8 52), .lit (.int .u8 32), .lit (.int .u8 23), .lit (.int .u8 11), .lit (.int .u8 54), .lit (.int .u8 26), .lit (.int .u8 40), .lit (.int .u8 15), .lit (.int .u8 34), .lit (.int .u8 20), .lit (.int .u8 31), .lit (.int .u8 10), .lit (.int .u8 25), .lit (.int .u8 14), .lit (.int .u8 19), .lit (.int .u8 9), .lit (.int .u8 13), .lit (.int .u8 8), .lit (.int .u8 7), .lit (.int .u8 6)]
def laid_annals_sha_starts {H : Type} : DataW H := .agg [.lit (.int .u32 1779033703), .lit (.int .u32 3144134277), .lit (.int .u32 1013904242), .lit (.int .u32 2773480762), .lit (.int .u32 1359893119), .lit (.int .u32 2600822924), .lit (.int .u32 528734635), .lit (.int .u32 1541459225)]
def laid_annals_sha_rounds {H : Type} : DataW H := .agg [.lit (.int .u32 1116352408), .lit (.int .u32 1899447441), .lit (.int .u32 3049323471), .lit (.int .u32 3921009573), .lit (.int .u32 961987163), .lit (.int .u32 1508970993), .lit (.int .u32 2453635748), .lit (.int .u32 2870763221), .lit (.int .u32 3624381080), .lit (.int .u32 310598401), .lit (.int .u32 607225278), .lit (.int .u32 1426881987), .lit (.int .u32 1925078388), .lit (.int .u32 2162078206), .lit (.int .u32 2614888103), .lit (.int .u32 3248222580), .lit (.int .u32 3835390401), .lit (.int .u32 4022224774), .lit (.int .u32 264347078), .lit (.int .u32 604807628), .lit (.int .u32 770255983), .lit (.int .u32 1249150122), .lit (.int .u32 1555081692), .lit (.int .u32 1996064986), .lit (.int .u32 2554220882), .lit (.int .u32 2821834349), .lit (.int .u32 2952996808), .lit (.int .u32 3210313671), .lit (.int .u32 3336571891), .lit (.int .u32 3584528711), .lit (.int .u32 113926993), .lit (.int .u32 338241895), .lit (.int .u32 666307205), .lit (.int .u32 773529912), .lit (.int .u32 1294757372), .lit (.int .u32 1396182291), .lit (.int .u32 1695183700), .lit (.int .u32 1986661051), .lit (.int .u32 2177026350), .lit (.int .u32 2456956037), .lit (.int .u32 2730485921), .lit (.int .u32 2820302411), .lit (.int .u32 3259730800), .lit (.int .u32 3345764771), .lit (.int .u32 3516065817), .lit (.int .u32 3600352804), .lit (.int .u32 4094571909), .lit (.int .u32 275423344), .lit (.int .u32 430227734), .lit (.int .u32 506948616), .lit (.int .u32 659060556), .lit (.int .u32 883997877), .lit (.int .u32 958139571), .lit (.int .u32 1322822218), .lit (.int .u32 1537002063), .lit (.int .u32 1747873779), .lit (.int .u32 1955562222), .lit (.int .u32 2024104815), .lit (.int .u32 2227730452), .lit (.int .u32 2361852424), .lit (.int .u32 2428436474), .lit (.int .u32 2756734187), .lit (.int .u32 3204031479), .lit (.int .u32 3329325298)]
def laid_annals_nums_halfOnes {H : Type} : DataW H := .agg [.lit (.int .i64 0), .lit (.int .i64 1), .lit (.int .i64 1), .lit (.int .i64 2), .lit (.int .i64 1), .lit (.int .i64 2), .lit (.int .i64 2), .lit (.int .i64 3), .lit (.int .i64 1), .lit (.int .i64 2), .lit (.int .i64 2), .lit (.int .i64 3), .lit (.int .i64 2), .lit (.int .i64 3), .lit (.int .i64 3), .lit (.int .i64 4)]
def laid_annals_annalsref2_first {H : Type} : DataW H := .agg [.lit (.int .u32 1779033703), .lit (.int .u32 3144134277), .lit (.int .u32 1013904242), .lit (.int .u32 2773480762), .lit (.int .u32 1359893119), .lit (.int .u32 2600822924), .lit (.int .u32 528734635), .lit (.int .u32 1541459225)]
def laid_annals_annalsref2_table {H : Type} : DataW H := .agg [.lit (.int .u32 1116352408), .lit (.int .u32 1899447441), .lit (.int .u32 3049323471), .lit (.int .u32 3921009573), .lit (.int .u32 961987163), .lit (.int .u32 1508970993), .lit (.int .u32 2453635748), .lit (.int .u32 2870763221), .lit (.int .u32 3624381080), .lit (.int .u32 310598401), .lit (.int .u32 607225278), .lit (.int .u32 1426881987), .lit (.int .u32 1925078388), .lit (.int .u32 2162078206), .lit (.int .u32 2614888103), .lit (.int .u32 3248222580), .lit (.int .u32 3835390401), .lit (.int .u32 4022224774), .lit (.int .u32 264347078), .lit (.int .u32 604807628), .lit (.int .u32 770255983), .lit (.int .u32 1249150122), .lit (.int .u32 1555081692), .lit (.int .u32 1996064986), .lit (.int .u32 2554220882), .lit (.int .u32 2821834349), .lit (.int .u32 2952996808), .lit (.int .u32 3210313671), .lit (.int .u32 3336571891), .lit (.int .u32 3584528711), .lit (.int .u32 113926993), .lit (.int .u32 338241895), .lit (.int .u32 666307205), .lit (.int .u32 773529912), .lit (.int .u32 1294757372), .lit (.int .u32 1396182291), .lit (.int .u32 1695183700), .lit (.int .u32 1986661051), .lit (.int .u32 2177026350), .lit (.int .u32 2456956037), .lit (.int .u32 2730485921), .lit (.int .u32 2820302411), .lit (.int .u32 3259730800), .lit (.int .u32 3345764771), .lit (.int .u32 3516065817), .lit (.int .u32 3600352804), .lit (.int .u32 4094571909), .lit (.int .u32 275423344), .lit (.int .u32 430227734), .lit (.int .u32 506948616), .lit (.int .u32 659060556), .lit (.int .u32 883997877), .lit (.int .u32 958139571), .lit (.int .u32 1322822218), .lit (.int .u32 1537002063), .lit (.int .u32 1747873779), .lit (.int .u32 1955562222), .lit (.int .u32 2024104815), .lit (.int .u32 2227730452), .lit (.int .u32 2361852424), .lit (.int .u32 2428436474), .lit (.int .u32 2756734187), .lit (.int .u32 3204031479), .lit (.int .u32 3329325298)]

/-- 'annalslaw7.CompWork': WHATEVER THE INPUT: true; the input reads as it did. -/
def compWorkSpec : ChangeSpec := { name := "compWork", fn := fun _ => fun
  | [d1, d2, d3] => { results := [.lit (.bool true)], args := [d1, d2, d3] }
  | _ => none }
def compWorkRow : OpenClaim := { program := "ytnnpidjpklfogaadoor", sum := "0fbbdfa03324f464a46e768cabdb77e6da12610a2ab6fd62b049dce2a5a25547", func := "annals/annalslaw7.CompWork", spec := "compWork", inPlace := ["internal/abi.NoEscape", "internal/bytealg.MakeNoZero"], unfollowed := true, recurses := true, named := ["annals/sha.starts", "annals/sha.rounds", "math/bits.deBruijn64tab", "annals/nums.halfOnes"], apart := false, laid := [("math/bits.deBruijn64tab", laid_math_bits_deBruijn64tab), ("annals/sha.starts", laid_annals_sha_starts), ("annals/sha.rounds", laid_annals_sha_rounds), ("annals/nums.halfOnes", laid_annals_nums_halfOnes)] }
def CompWorkSaid : Prop := compWorkRow.holds Tryd.pinned (OpenSpec.ofChange compWorkSpec)

/-- ITS FALSE NEIGHBOUR: 'it returns false'. Refute it at one input. -/
def compWorkWrong : ChangeSpec := { name := "compWork", fn := fun _ => fun
  | [d1, d2, d3] => { results := [.lit (.bool false)], args := [d1, d2, d3] }
  | _ => none }
def CompWorkWrongFalsely : Prop := compWorkRow.holds Tryd.pinned (OpenSpec.ofChange compWorkWrong)

/-- 'annalslaw7.CompParts': WHATEVER THE INPUT: true; the input reads as it did. -/
def compPartsSpec : ChangeSpec := { name := "compParts", fn := fun _ => fun
  | [d1, d2, d3, d4, d5] => { results := [.lit (.bool true)], args := [d1, d2, d3, d4, d5] }
  | _ => none }
def compPartsRow : OpenClaim := { program := "ytnnpidjpklfogaadoor", sum := "0fbbdfa03324f464a46e768cabdb77e6da12610a2ab6fd62b049dce2a5a25547", func := "annals/annalslaw7.CompParts", spec := "compParts", inPlace := ["internal/abi.NoEscape", "internal/bytealg.MakeNoZero"], unfollowed := true, recurses := true, named := ["annals/sha.starts", "annals/sha.rounds", "math/bits.deBruijn64tab"], apart := false, laid := [("math/bits.deBruijn64tab", laid_math_bits_deBruijn64tab), ("annals/sha.starts", laid_annals_sha_starts), ("annals/sha.rounds", laid_annals_sha_rounds)] }
def CompPartsSaid : Prop := compPartsRow.holds Tryd.pinned (OpenSpec.ofChange compPartsSpec)

/-- ITS FALSE NEIGHBOUR: 'it returns false'. Refute it at one input. -/
def compPartsWrong : ChangeSpec := { name := "compParts", fn := fun _ => fun
  | [d1, d2, d3, d4, d5] => { results := [.lit (.bool false)], args := [d1, d2, d3, d4, d5] }
  | _ => none }
def CompPartsWrongFalsely : Prop := compPartsRow.holds Tryd.pinned (OpenSpec.ofChange compPartsWrong)

/-- 'annalslaw7.CompMth': WHATEVER THE INPUT: true; the input reads as it did. -/
def compMthSpec : ChangeSpec := { name := "compMth", fn := fun _ => fun
  | [d1, d2] => { results := [.lit (.bool true)], args := [d1, d2] }
  | _ => none }
def compMthRow : OpenClaim := { program := "ytnnpidjpklfogaadoor", sum := "0fbbdfa03324f464a46e768cabdb77e6da12610a2ab6fd62b049dce2a5a25547", func := "annals/annalslaw7.CompMth", spec := "compMth", inPlace := ["internal/abi.NoEscape", "internal/bytealg.MakeNoZero"], unfollowed := true, recurses := true, named := ["math/bits.deBruijn64tab", "annals/sha.starts", "annals/sha.rounds"], apart := false, laid := [("math/bits.deBruijn64tab", laid_math_bits_deBruijn64tab), ("annals/sha.starts", laid_annals_sha_starts), ("annals/sha.rounds", laid_annals_sha_rounds)] }
def CompMthSaid : Prop := compMthRow.holds Tryd.pinned (OpenSpec.ofChange compMthSpec)

/-- ITS FALSE NEIGHBOUR: 'it returns false'. Refute it at one input. -/
def compMthWrong : ChangeSpec := { name := "compMth", fn := fun _ => fun
  | [d1, d2] => { results := [.lit (.bool false)], args := [d1, d2] }
  | _ => none }
def CompMthWrongFalsely : Prop := compMthRow.holds Tryd.pinned (OpenSpec.ofChange compMthWrong)

/-- 'annalslaw7.CompCover': WHATEVER THE INPUT: true; the input reads as it did. -/
def compCoverSpec : ChangeSpec := { name := "compCover", fn := fun _ => fun
  | [d1, d2, d3, d4] => { results := [.lit (.bool true)], args := [d1, d2, d3, d4] }
  | _ => none }
def compCoverRow : OpenClaim := { program := "ytnnpidjpklfogaadoor", sum := "0fbbdfa03324f464a46e768cabdb77e6da12610a2ab6fd62b049dce2a5a25547", func := "annals/annalslaw7.CompCover", spec := "compCover", inPlace := ["internal/abi.NoEscape", "internal/bytealg.MakeNoZero"], unfollowed := true, recurses := true, named := ["annals/sha.starts", "annals/sha.rounds", "math/bits.deBruijn64tab"], apart := false, laid := [("math/bits.deBruijn64tab", laid_math_bits_deBruijn64tab), ("annals/sha.starts", laid_annals_sha_starts), ("annals/sha.rounds", laid_annals_sha_rounds)] }
def CompCoverSaid : Prop := compCoverRow.holds Tryd.pinned (OpenSpec.ofChange compCoverSpec)

/-- ITS FALSE NEIGHBOUR: 'it returns false'. Refute it at one input. -/
def compCoverWrong : ChangeSpec := { name := "compCover", fn := fun _ => fun
  | [d1, d2, d3, d4] => { results := [.lit (.bool false)], args := [d1, d2, d3, d4] }
  | _ => none }
def CompCoverWrongFalsely : Prop := compCoverRow.holds Tryd.pinned (OpenSpec.ofChange compCoverWrong)

/-- 'annalslaw7.CompRoot': WHATEVER THE INPUT: true; the input reads as it did. -/
def compRootSpec : ChangeSpec := { name := "compRoot", fn := fun _ => fun
  | [d1, d2] => { results := [.lit (.bool true)], args := [d1, d2] }
  | _ => none }
def compRootRow : OpenClaim := { program := "ytnnpidjpklfogaadoor", sum := "0fbbdfa03324f464a46e768cabdb77e6da12610a2ab6fd62b049dce2a5a25547", func := "annals/annalslaw7.CompRoot", spec := "compRoot", inPlace := ["internal/abi.NoEscape", "internal/bytealg.MakeNoZero"], unfollowed := true, recurses := true, named := ["math/bits.deBruijn64tab", "annals/sha.starts", "annals/sha.rounds", "annals/annalsref2.first", "annals/annalsref2.table"], apart := false, laid := [("annals/annalsref2.first", laid_annals_annalsref2_first), ("annals/annalsref2.table", laid_annals_annalsref2_table), ("math/bits.deBruijn64tab", laid_math_bits_deBruijn64tab), ("annals/sha.starts", laid_annals_sha_starts), ("annals/sha.rounds", laid_annals_sha_rounds)] }
def CompRootSaid : Prop := compRootRow.holds Tryd.pinned (OpenSpec.ofChange compRootSpec)

/-- ITS FALSE NEIGHBOUR: 'it returns false'. Refute it at one input. -/
def compRootWrong : ChangeSpec := { name := "compRoot", fn := fun _ => fun
  | [d1, d2] => { results := [.lit (.bool false)], args := [d1, d2] }
  | _ => none }
def CompRootWrongFalsely : Prop := compRootRow.holds Tryd.pinned (OpenSpec.ofChange compRootWrong)

/-- 'annalslaw7.CompMerge': WHATEVER THE INPUT: true; the input reads as it did. -/
def compMergeSpec : ChangeSpec := { name := "compMerge", fn := fun _ => fun
  | [d1, d2, d3] => { results := [.lit (.bool true)], args := [d1, d2, d3] }
  | _ => none }
def compMergeRow : OpenClaim := { program := "ytnnpidjpklfogaadoor", sum := "0fbbdfa03324f464a46e768cabdb77e6da12610a2ab6fd62b049dce2a5a25547", func := "annals/annalslaw7.CompMerge", spec := "compMerge", inPlace := ["internal/abi.NoEscape", "internal/bytealg.MakeNoZero"], unfollowed := true, recurses := true, named := ["math/bits.deBruijn64tab", "annals/sha.starts", "annals/sha.rounds", "annals/annalsref2.first", "annals/annalsref2.table"], apart := false, laid := [("annals/annalsref2.first", laid_annals_annalsref2_first), ("annals/annalsref2.table", laid_annals_annalsref2_table), ("math/bits.deBruijn64tab", laid_math_bits_deBruijn64tab), ("annals/sha.starts", laid_annals_sha_starts), ("annals/sha.rounds", laid_annals_sha_rounds)] }
def CompMergeSaid : Prop := compMergeRow.holds Tryd.pinned (OpenSpec.ofChange compMergeSpec)

/-- ITS FALSE NEIGHBOUR: 'it returns false'. Refute it at one input. -/
def compMergeWrong : ChangeSpec := { name := "compMerge", fn := fun _ => fun
  | [d1, d2, d3] => { results := [.lit (.bool false)], args := [d1, d2, d3] }
  | _ => none }
def CompMergeWrongFalsely : Prop := compMergeRow.holds Tryd.pinned (OpenSpec.ofChange compMergeWrong)

/- THE SECOND FORM. 'bulk': how many values and letters a reading holds, each counted each time it is reached (what is shared counts as often as it is met; a slice's spare places count too). A statement '..UptoSaid' is the law's where the arguments, and the package variables that the reading takes, are together of bulk at most 1048576: NARROWER than '..Said'. Prove '..Said' where nothing that the law and all that it calls make is longer than what came in: it says more and counts as full. Else prove '..UptoSaid'. A law counts once. -/
mutual
def uptoBulk {H : Type} : DataW H → Nat
  | .lit (.string bytes) => bytes.length + 1
  | .lit _ => 1
  | .nil => 1
  | .ptr d => uptoBulk d + 1
  | .slice elems spare => uptoBulkAll elems + uptoBulkAll spare + 1
  | .agg parts => uptoBulkAll parts + 1
  | .iface _ d => uptoBulk d + 1
  | .map entries => uptoBulkEntries entries + 1
  | .held _ => 1
def uptoBulkAll {H : Type} : List (DataW H) → Nat
  | [] => 0
  | d :: r => uptoBulk d + uptoBulkAll r
def uptoBulkEntries {H : Type} : List (Lit × DataW H) → Nat
  | [] => 0
  | x :: r => uptoBulkEntry x + uptoBulkEntries r
def uptoBulkEntry {H : Type} : Lit × DataW H → Nat
  | (.string bytes, d) => bytes.length + uptoBulk d + 1
  | (_, d) => uptoBulk d + 1
 end
def uptoSmall : (H : Type) → List (DataW H) → Bool := fun _ ds => decide (uptoBulkAll ds ≤ 1048576)
def OpenSpec.upto (s : _root_.Go.ChangeSpec) : _root_.Go.OpenSpec := { _root_.Go.OpenSpec.ofChange s with cond := some uptoSmall }

/-- 'annalslaw7.CompWork', WHERE WHAT IT READS IS OF BULK AT MOST 1048576: true; the input reads as it did. -/
def compWorkUptoRow : OpenClaim := { program := "ytnnpidjpklfogaadoor", sum := "0fbbdfa03324f464a46e768cabdb77e6da12610a2ab6fd62b049dce2a5a25547", func := "annals/annalslaw7.CompWork", spec := "compWork", inPlace := ["internal/abi.NoEscape", "internal/bytealg.MakeNoZero"], unfollowed := true, recurses := true, named := ["annals/sha.starts", "annals/sha.rounds", "math/bits.deBruijn64tab", "annals/nums.halfOnes"], apart := false, laid := [("math/bits.deBruijn64tab", laid_math_bits_deBruijn64tab), ("annals/sha.starts", laid_annals_sha_starts), ("annals/sha.rounds", laid_annals_sha_rounds), ("annals/nums.halfOnes", laid_annals_nums_halfOnes)], narrowed := true }
def CompWorkUptoSaid : Prop := compWorkUptoRow.holds Tryd.pinned (OpenSpec.upto compWorkSpec)

/-- 'annalslaw7.CompParts', WHERE WHAT IT READS IS OF BULK AT MOST 1048576: true; the input reads as it did. -/
def compPartsUptoRow : OpenClaim := { program := "ytnnpidjpklfogaadoor", sum := "0fbbdfa03324f464a46e768cabdb77e6da12610a2ab6fd62b049dce2a5a25547", func := "annals/annalslaw7.CompParts", spec := "compParts", inPlace := ["internal/abi.NoEscape", "internal/bytealg.MakeNoZero"], unfollowed := true, recurses := true, named := ["annals/sha.starts", "annals/sha.rounds", "math/bits.deBruijn64tab"], apart := false, laid := [("math/bits.deBruijn64tab", laid_math_bits_deBruijn64tab), ("annals/sha.starts", laid_annals_sha_starts), ("annals/sha.rounds", laid_annals_sha_rounds)], narrowed := true }
def CompPartsUptoSaid : Prop := compPartsUptoRow.holds Tryd.pinned (OpenSpec.upto compPartsSpec)

/-- 'annalslaw7.CompMth', WHERE WHAT IT READS IS OF BULK AT MOST 1048576: true; the input reads as it did. -/
def compMthUptoRow : OpenClaim := { program := "ytnnpidjpklfogaadoor", sum := "0fbbdfa03324f464a46e768cabdb77e6da12610a2ab6fd62b049dce2a5a25547", func := "annals/annalslaw7.CompMth", spec := "compMth", inPlace := ["internal/abi.NoEscape", "internal/bytealg.MakeNoZero"], unfollowed := true, recurses := true, named := ["math/bits.deBruijn64tab", "annals/sha.starts", "annals/sha.rounds"], apart := false, laid := [("math/bits.deBruijn64tab", laid_math_bits_deBruijn64tab), ("annals/sha.starts", laid_annals_sha_starts), ("annals/sha.rounds", laid_annals_sha_rounds)], narrowed := true }
def CompMthUptoSaid : Prop := compMthUptoRow.holds Tryd.pinned (OpenSpec.upto compMthSpec)

/-- 'annalslaw7.CompCover', WHERE WHAT IT READS IS OF BULK AT MOST 1048576: true; the input reads as it did. -/
def compCoverUptoRow : OpenClaim := { program := "ytnnpidjpklfogaadoor", sum := "0fbbdfa03324f464a46e768cabdb77e6da12610a2ab6fd62b049dce2a5a25547", func := "annals/annalslaw7.CompCover", spec := "compCover", inPlace := ["internal/abi.NoEscape", "internal/bytealg.MakeNoZero"], unfollowed := true, recurses := true, named := ["annals/sha.starts", "annals/sha.rounds", "math/bits.deBruijn64tab"], apart := false, laid := [("math/bits.deBruijn64tab", laid_math_bits_deBruijn64tab), ("annals/sha.starts", laid_annals_sha_starts), ("annals/sha.rounds", laid_annals_sha_rounds)], narrowed := true }
def CompCoverUptoSaid : Prop := compCoverUptoRow.holds Tryd.pinned (OpenSpec.upto compCoverSpec)

/-- 'annalslaw7.CompRoot', WHERE WHAT IT READS IS OF BULK AT MOST 1048576: true; the input reads as it did. -/
def compRootUptoRow : OpenClaim := { program := "ytnnpidjpklfogaadoor", sum := "0fbbdfa03324f464a46e768cabdb77e6da12610a2ab6fd62b049dce2a5a25547", func := "annals/annalslaw7.CompRoot", spec := "compRoot", inPlace := ["internal/abi.NoEscape", "internal/bytealg.MakeNoZero"], unfollowed := true, recurses := true, named := ["math/bits.deBruijn64tab", "annals/sha.starts", "annals/sha.rounds", "annals/annalsref2.first", "annals/annalsref2.table"], apart := false, laid := [("annals/annalsref2.first", laid_annals_annalsref2_first), ("annals/annalsref2.table", laid_annals_annalsref2_table), ("math/bits.deBruijn64tab", laid_math_bits_deBruijn64tab), ("annals/sha.starts", laid_annals_sha_starts), ("annals/sha.rounds", laid_annals_sha_rounds)], narrowed := true }
def CompRootUptoSaid : Prop := compRootUptoRow.holds Tryd.pinned (OpenSpec.upto compRootSpec)

/-- 'annalslaw7.CompMerge', WHERE WHAT IT READS IS OF BULK AT MOST 1048576: true; the input reads as it did. -/
def compMergeUptoRow : OpenClaim := { program := "ytnnpidjpklfogaadoor", sum := "0fbbdfa03324f464a46e768cabdb77e6da12610a2ab6fd62b049dce2a5a25547", func := "annals/annalslaw7.CompMerge", spec := "compMerge", inPlace := ["internal/abi.NoEscape", "internal/bytealg.MakeNoZero"], unfollowed := true, recurses := true, named := ["math/bits.deBruijn64tab", "annals/sha.starts", "annals/sha.rounds", "annals/annalsref2.first", "annals/annalsref2.table"], apart := false, laid := [("annals/annalsref2.first", laid_annals_annalsref2_first), ("annals/annalsref2.table", laid_annals_annalsref2_table), ("math/bits.deBruijn64tab", laid_math_bits_deBruijn64tab), ("annals/sha.starts", laid_annals_sha_starts), ("annals/sha.rounds", laid_annals_sha_rounds)], narrowed := true }
def CompMergeUptoSaid : Prop := compMergeUptoRow.holds Tryd.pinned (OpenSpec.upto compMergeSpec)

end Rows
end Go.Proofs.YtnnpidjpklfogaaDoor
