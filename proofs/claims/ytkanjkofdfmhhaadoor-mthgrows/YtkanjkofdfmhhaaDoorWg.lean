import Derived.Test.YtkanjkofdfmhhaaDoorGw
import Derived.Test.YtkanjkofdfmhhaaDoorCv
namespace Go.Proofs.YtkanjkofdfmhhaaDoor.wg
open Go.RowKit Go.PlainAid
open Go.Proofs.YtkanjkofdfmhhaaDoor.pl Go.Proofs.YtkanjkofdfmhhaaDoor.ft Go.Proofs.YtkanjkofdfmhhaaDoor.pj Go.Proofs.YtkanjkofdfmhhaaDoor.cp Go.Proofs.YtkanjkofdfmhhaaDoor.cv Go.Proofs.YtkanjkofdfmhhaaDoor.ka Go.Proofs.YtkanjkofdfmhhaaDoor.gb Go.Proofs.YtkanjkofdfmhhaaDoor.gw Go.Proofs.YtkanjkofdfmhhaaDoor.gq Go.Proofs.YtkanjkofdfmhhaaDoor.gr
set_option linter.unusedVariables false

theorem grows_walk (C0 : RootC Tab) (C1 : ProofC Tab) (W : World) (a0 : Int) (w0 : (Lit.int .i64 a0).wf = true) (a1 : Int) (w1 : (Lit.int .i64 a1).wf = true) (v2 : Value) (xs : List ByteArray) (hr : ReadsT W v2 xs) (hno : ∀ k c, v2 = .slice none k c → c = 0) (hx : ∀ x ∈ xs, x.size ≤ 140737488351232) (hl : xs.length * 16 ≤ 140737488351232) (tabs : St8 W 0 ∧ K64 W 2) :
    Calls Tryd.prog 6 #[.int .i64 a0, .int .i64 a1, v2] W fun e w' => e = .returned (.bool true) ∧ Below W.heap.size W w' :=
  mth_grows (T := Tab) Tab.down (fun h => h) C0 C1 a0 a1 (i64_of w0) (i64_of w1) v2 xs W (Tab.of tabs) hr ⟨fun x h => by have := hx x h; omega, hl⟩
end Go.Proofs.YtkanjkofdfmhhaaDoor.wg
