import Derived.Test.YtmmbkfagchaocaaDoorC4
import Derived.Test.YtmmbkfagchaocaaDoorC5
namespace Go.Proofs.YtmmbkfagchaocaaDoor.v9
open Go.RowKit Go.PlainAid
open Go.Proofs.YtmmbkfagchaocaaDoor.pl Go.Proofs.YtmmbkfagchaocaaDoor.cp Go.Proofs.YtmmbkfagchaocaaDoor.mi Go.Proofs.YtmmbkfagchaocaaDoor.bp Go.Proofs.YtmmbkfagchaocaaDoor.sc Go.Proofs.YtmmbkfagchaocaaDoor.sa
set_option linter.unusedVariables false
theorem same_walk (W : World) (wd : Int) (w0 : (Lit.int .i64 wd).wf = true) (xN : Int) (wN : (Lit.int .i64 xN).wf = true) (xI : Int) (wI : (Lit.int .i64 xI).wf = true) (xM : Int) (wM : (Lit.int .i64 xM).wf = true) (xL : Int) (wL : (Lit.int .i64 xL).wf = true) (xH : Int) (wH : (Lit.int .i64 xH).wf = true) (v : Value) (xs : List Int) (hr : ReadsI W v xs) (hx : ∀ x ∈ xs, (Lit.int .i64 x).wf = true) (hz : xs.length * 8 ≤ 140737488351232) (tabs : T7 W) :
    Calls Tryd.prog 4 #[.int .i64 wd, .agg #[.int .i64 xN, .int .i64 xI, .int .i64 xM, .int .i64 xL, .int .i64 xH, v]] W fun e w' => e = .returned (.bool true) ∧ Below W.heap.size W w' := by
  by_cases h : 1 < 1 + pk xN 4611686018427387904
  · exact v7.prove_same1 wd xN xI xM xL xH v (cv.i64_of w0) (cv.i64_of wN) (cv.i64_of wL) (cv.i64_of wH) W tabs h
  · exact v8.prove_same2 wd xN xI xM xL xH v (cv.i64_of w0) (cv.i64_of wN) (cv.i64_of wL) (cv.i64_of wH) W tabs h
end Go.Proofs.YtmmbkfagchaocaaDoor.v9
