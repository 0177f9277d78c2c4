import Derived.Test.YtjkkijeamcihiaaLl
import Derived.Lib.SmallJoins
namespace Go.Proofs.Ytjkkijeamcihiaa.wl
open Go.RowKit Go.PlainAid Go.Maps
open Go.Proofs.Ytjkkijeamcihiaa.lc Go.Proofs.Ytjkkijeamcihiaa.ll
theorem last_walk (a : Int) (wa : (Lit.int .i64 a).wf = true) (v : Value) (l : List Opc) (w : World) (hr : ReadsC w v l) (hno : v.ownBlock = none → v = .slice none 0 0) (hz : l.length * 32 ≤ 140737488351232) :
    Calls Try.prog 4 #[.int .i64 a, v] w fun e w' => e = .returned (.bool true) ∧ Below w.heap.size w w' :=
  last a (bounds_i64 wa).1 (bounds_i64 wa).2 v l w hr hno hz
end Go.Proofs.Ytjkkijeamcihiaa.wl
