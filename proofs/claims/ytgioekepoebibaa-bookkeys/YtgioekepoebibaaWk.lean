import Derived.Test.YtgioekepoebibaaQc
import Derived.OpenShut
namespace Go.Proofs.Ytgioekepoebibaa.wk
open Go.RowKit Go.PlainAid
open Go.Proofs.Ytgioekepoebibaa.qc
theorem keys_walk (s : Int) (ws : (Lit.int .i64 s).wf = true) (k : Int) (wk : (Lit.int .i64 k).wf = true) (n : Int) (wn : (Lit.int .i64 n).wf = true) (t : Int) (wt : (Lit.int .i64 t).wf = true) (l : Int) (wl : (Lit.int .i64 l).wf = true) (m : Int) (wm : (Lit.int .i64 m).wf = true) {W : World} :
    Calls Try.prog 3 #[.int .i64 s, .int .i64 k, .int .i64 n, .int .i64 t, .int .i64 l, .int .i64 m] W fun e w' => e = .returned (.bool true) ∧ Below W.heap.size W w' := book_keys s k n t l m W (bounds_i64 ws) (bounds_i64 wk) (bounds_i64 wn) (bounds_i64 wt) (bounds_i64 wl) (bounds_i64 wm)
end Go.Proofs.Ytgioekepoebibaa.wk
