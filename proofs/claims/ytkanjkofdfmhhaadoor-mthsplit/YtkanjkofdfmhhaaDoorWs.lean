import Derived.Test.YtkanjkofdfmhhaaDoorGx
import Derived.Test.YtkanjkofdfmhhaaDoorCv
namespace Go.Proofs.YtkanjkofdfmhhaaDoor.ws
open Go.RowKit Go.PlainAid
open Go.Proofs.YtkanjkofdfmhhaaDoor.pl Go.Proofs.YtkanjkofdfmhhaaDoor.ft Go.Proofs.YtkanjkofdfmhhaaDoor.pj Go.Proofs.YtkanjkofdfmhhaaDoor.cp Go.Proofs.YtkanjkofdfmhhaaDoor.cv Go.Proofs.YtkanjkofdfmhhaaDoor.ka Go.Proofs.YtkanjkofdfmhhaaDoor.gb Go.Proofs.YtkanjkofdfmhhaaDoor.gx Go.Proofs.YtkanjkofdfmhhaaDoor.cu Go.Proofs.YtkanjkofdfmhhaaDoor.gn Go.Proofs.YtkanjkofdfmhhaaDoor.gr
set_option linter.unusedVariables false

theorem split_walk (C0 : RootC Tab) (C1 : NodeC Tab) (C2 : SpanC) (W : World) (a0 : Int) (w0 : (Lit.int .i64 a0).wf = true) (v1 : Value) (xs : List ByteArray) (hr : ReadsT W v1 xs) (hno : ∀ k c, v1 = .slice none k c → c = 0) (hx : ∀ x ∈ xs, x.size ≤ 140737488351232) (hl : xs.length * 16 ≤ 140737488351232) (a2 b2 : Int) (wA2 : (Lit.int .i64 a2).wf = true) (wB2 : (Lit.int .i64 b2).wf = true) (tabs : St8 W 0 ∧ K64 W 2) :
    Calls Tryd.prog 3 #[.int .i64 a0, v1, .agg #[.int .i64 a2, .int .i64 b2]] W fun e w' => e = .returned (.bool true) ∧ Below W.heap.size W w' :=
  mth_split (T := Tab) Tab.down (fun h => h) C0 C1 C2 a0 a2 b2 (i64_of w0) (i64_of wA2) (i64_of wB2) v1 xs W (Tab.of tabs) hr ⟨fun x h => by have := hx x h; omega, hl⟩
end Go.Proofs.YtkanjkofdfmhhaaDoor.ws
