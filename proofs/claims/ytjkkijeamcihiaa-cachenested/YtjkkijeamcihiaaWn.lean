import Derived.Test.YtjkkijeamcihiaaLe
import Derived.Lib.SmallJoins
namespace Go.Proofs.Ytjkkijeamcihiaa.wn
open Go.RowKit Go.PlainAid Go.Maps
open Go.Proofs.Ytjkkijeamcihiaa.lc Go.Proofs.Ytjkkijeamcihiaa.le
theorem nested_walk (a : Int) (wa : (Lit.int .i64 a).wf = true) (b : Int) (wb : (Lit.int .i64 b).wf = true) (v : Value) (l : List Opc) (w : World) (hr : ReadsC w v l) (hno : v.ownBlock = none → v = .slice none 0 0) (hz : l.length * 32 ≤ 140737488351232) :
    Calls Try.prog 6 #[.int .i64 a, .int .i64 b, v] w fun e w' => e = .returned (.bool true) ∧ Below w.heap.size w w' :=
  nested a b (bounds_i64 wa).1 (bounds_i64 wa).2 (bounds_i64 wb).1 (bounds_i64 wb).2 v l w hr hno hz
end Go.Proofs.Ytjkkijeamcihiaa.wn
