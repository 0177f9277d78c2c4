import Derived.Test.YtjjeiklhmbhhoaaDoorXf
import Derived.Test.YtjjeiklhmbhhoaaDoorFd
import Derived.Test.YtjjeiklhmbhhoaaDoorCv
import Derived.Test.YtjjeiklhmbhhoaaDoorCf
import Derived.Test.YtjjeiklhmbhhoaaDoorCg
import Derived.Test.YtjjeiklhmbhhoaaDoorCj
import Derived.Test.YtjjeiklhmbhhoaaDoorVa
import Derived.Test.YtjjeiklhmbhhoaaDoorVp
namespace Go.Proofs.YtjjeiklhmbhhoaaDoor.xg
open Go.RowKit
open Go.Proofs.YtjjeiklhmbhhoaaDoor.xc Go.Proofs.YtjjeiklhmbhhoaaDoor.xf Go.Proofs.YtjjeiklhmbhhoaaDoor.cv Go.Proofs.YtjjeiklhmbhhoaaDoor.cf Go.Proofs.YtjjeiklhmbhhoaaDoor.cg Go.Proofs.YtjjeiklhmbhhoaaDoor.cj Go.Proofs.YtjjeiklhmbhhoaaDoor.va Go.Proofs.YtjjeiklhmbhhoaaDoor.vp

theorem peaks (a0 : Int) (w0 : (Lit.int .i64 a0).wf = true) (w : World) (tabs : TabB w) :
    Calls Tryd.prog 3 #[.int .i64 a0] w fun e w' => e = .returned (.bool true) ∧ Below w.heap.size w w' :=
  tree_peaks coverC a0 (i64_of w0) w tabs
theorem covers (a0 : Int) (w0 : (Lit.int .i64 a0).wf = true) (a1 : Int) (w1 : (Lit.int .i64 a1).wf = true) (w : World) (tabs : TabB w) :
    Calls Tryd.prog 4 #[.int .i64 a0, .int .i64 a1] w fun e w' => e = .returned (.bool true) ∧ Below w.heap.size w w' :=
  tree_cover coverC a0 a1 (i64_of w0) (i64_of w1) w tabs
theorem tiles (a0 : Int) (w0 : (Lit.int .i64 a0).wf = true) (a1 : Int) (w1 : (Lit.int .i64 a1).wf = true) (w : World) (tabs : TabB w) :
    Calls Tryd.prog 6 #[.int .i64 a0, .int .i64 a1] w fun e w' => e = .returned (.bool true) ∧ Below w.heap.size w w' :=
  tree_tiles coverC spanC parentC a0 a1 (i64_of w0) (i64_of w1) w tabs
theorem fresh (a0 : Int) (w0 : (Lit.int .i64 a0).wf = true) (a1 : Int) (w1 : (Lit.int .i64 a1).wf = true) (a2 : Int) (w2 : (Lit.int .i64 a2).wf = true) (a3 : Int) (w3 : (Lit.int .i64 a3).wf = true) (w : World) (tabs : TabB w) :
    Calls Tryd.prog 5 #[.int .i64 a0, .int .i64 a1, .int .i64 a2, .int .i64 a3] w fun e w' => e = .returned (.bool true) ∧ Below w.heap.size w w' :=
  tree_fresh coverC a0 a1 a2 a3 (i64_of w0) (i64_of w1) (i64_of w2) (i64_of w3) w tabs
end Go.Proofs.YtjjeiklhmbhhoaaDoor.xg
