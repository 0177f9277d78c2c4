import Derived.Test.YtgjjimbleliklaaDoorD4
import Derived.Test.YtgjjimbleliklaaDoorD2
import Derived.Test.YtgjjimbleliklaaDoorA4
import Derived.Test.YtgjjimbleliklaaDoorA5
import Derived.Test.YtgjjimbleliklaaDoorB1
namespace Go.Proofs.YtgjjimbleliklaaDoor.wg
open Go.RowKit Go.PlainAid
open Go.Proofs.YtgjjimbleliklaaDoor.pl Go.Proofs.YtgjjimbleliklaaDoor.ft Go.Proofs.YtgjjimbleliklaaDoor.pj Go.Proofs.YtgjjimbleliklaaDoor.rf Go.Proofs.YtgjjimbleliklaaDoor.cp Go.Proofs.YtgjjimbleliklaaDoor.cv Go.Proofs.YtgjjimbleliklaaDoor.ka Go.Proofs.YtgjjimbleliklaaDoor.gb Go.Proofs.YtgjjimbleliklaaDoor.ob Go.Proofs.YtgjjimbleliklaaDoor.rj Go.Proofs.YtgjjimbleliklaaDoor.xc Go.Proofs.YtgjjimbleliklaaDoor.tb Go.Proofs.YtgjjimbleliklaaDoor.yf Go.Proofs.YtgjjimbleliklaaDoor.yg Go.Proofs.YtgjjimbleliklaaDoor.yi Go.Proofs.YtgjjimbleliklaaDoor.yj Go.Proofs.YtgjjimbleliklaaDoor.rq Go.Proofs.YtgjjimbleliklaaDoor.rv Go.Proofs.YtgjjimbleliklaaDoor.rw
set_option linter.unusedVariables false

theorem behindC : BehindC := fun wd B p x vn vw ns wh w a b c d e f g h i j => rp.rbehind wd B p x vn vw ns wh w a b c d e f g h i j
theorem merge_walk (W : World) (a0 : Int) (w0 : (Lit.int .i64 a0).wf = true) (a1 : Int) (wA : (Lit.int .i64 a1).wf = true) (b1 : Int) (wB : (Lit.int .i64 b1).wf = true) (v1 : Value) (xs : List ByteArray) (hr : ReadsT W v1 xs) (hx : ∀ x ∈ xs, x.size ≤ 140737488351232) (hl : xs.length * 16 ≤ 140737488351232) (a2 : Int) (wA2 : (Lit.int .i64 a2).wf = true) (b2 : Int) (wB2 : (Lit.int .i64 b2).wf = true) (v2 : Value) (ys : List ByteArray) (hr2 : ReadsT W v2 ys) (hx2 : ∀ x ∈ ys, x.size ≤ 140737488351232) (hl2 : ys.length * 16 ≤ 140737488351232) (tabs : St8 W 0 ∧ K64 W 2 ∧ TabB W ∧ St8 W 3 ∧ K64 W 4) :
    Calls Tryd.prog 3 #[.int .i64 a0, FV a1 b1 v1, FV a2 b2 v2] W fun e w' => e = .returned (.bool true) ∧ Below W.heap.size W w' :=
  comp_merge (T := TB4) TB4.down (fun h => h.t) (mergeC TB4.down (fun h => h.tb.t) (fun h => h.d)) behindC a0 (i64_of w0) a1 b1 (i64_of wA) (i64_of wB) v1 xs a2 b2 (i64_of wA2) (i64_of wB2) v2 ys W (TB4.of tabs) hr ⟨fun x h => by have := hx x h; omega, hl⟩ hr2 ⟨fun x h => by have := hx2 x h; omega, hl2⟩
theorem push_walk (W : World) (a0 : Int) (w0 : (Lit.int .i64 a0).wf = true) (a1 : Int) (wA : (Lit.int .i64 a1).wf = true) (b1 : Int) (wB : (Lit.int .i64 b1).wf = true) (v1 : Value) (xs : List ByteArray) (hr : ReadsT W v1 xs) (hx : ∀ x ∈ xs, x.size ≤ 140737488351232) (hl : xs.length * 16 ≤ 140737488351232) (h : ByteArray) (hz : h.size ≤ 140737488351232) (q : Int) (wq : (Lit.int .i64 q).wf = true) (tabs : St8 W 0 ∧ K64 W 2 ∧ TabB W ∧ St8 W 3 ∧ K64 W 4) :
    Calls Tryd.prog 4 #[.int .i64 a0, FV a1 b1 v1, .string h, .int .i64 q] W fun e w' => e = .returned (.bool true) ∧ Below W.heap.size W w' :=
  comp_push (T := TB4) TB4.down (fun h => h.t) startC (fun wd lo hi u hs w a b c t => checkC wd lo hi u hs w a b c t.d) (pushC TB4.down (fun h => h.tb.t) (fun h => h.d)) behindC a0 (i64_of w0) a1 b1 (i64_of wA) (i64_of wB) v1 xs h (by omega) q (i64_of wq) W (TB4.of tabs) hr ⟨fun x h => by have := hx x h; omega, hl⟩
end Go.Proofs.YtgjjimbleliklaaDoor.wg
