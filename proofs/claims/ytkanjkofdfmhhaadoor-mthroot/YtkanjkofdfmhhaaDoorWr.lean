import Derived.Test.YtkanjkofdfmhhaaDoorGt
import Derived.Test.YtkanjkofdfmhhaaDoorCv
namespace Go.Proofs.YtkanjkofdfmhhaaDoor.wr
open Go.RowKit Go.PlainAid
open Go.Proofs.YtkanjkofdfmhhaaDoor.pl Go.Proofs.YtkanjkofdfmhhaaDoor.ft Go.Proofs.YtkanjkofdfmhhaaDoor.pj Go.Proofs.YtkanjkofdfmhhaaDoor.rf Go.Proofs.YtkanjkofdfmhhaaDoor.cp Go.Proofs.YtkanjkofdfmhhaaDoor.cv Go.Proofs.YtkanjkofdfmhhaaDoor.ka Go.Proofs.YtkanjkofdfmhhaaDoor.gb Go.Proofs.YtkanjkofdfmhhaaDoor.gt Go.Proofs.YtkanjkofdfmhhaaDoor.gr
set_option linter.unusedVariables false

theorem root_walk (C0 : RootC Tab4) (W : World) (a0 : Int) (w0 : (Lit.int .i64 a0).wf = true) (v1 : Value) (xs : List ByteArray) (hr : ReadsT W v1 xs) (hno : ∀ k c, v1 = .slice none k c → c = 0) (hx : ∀ x ∈ xs, x.size ≤ 140737488351232) (hl : xs.length * 16 ≤ 140737488351232) (tabs : St8 W 0 ∧ K64 W 2 ∧ St8 W 1 ∧ K64 W 3) :
    Calls Tryd.prog 7 #[.int .i64 a0, v1] W fun e w' => e = .returned (.bool true) ∧ Below W.heap.size W w' :=
  mth_root (T := Tab4) Tab4.down (fun h => h) C0 a0 (i64_of w0) v1 xs W (Tab4.of tabs) hr hno ⟨fun x h => by have := hx x h; omega, hl⟩
end Go.Proofs.YtkanjkofdfmhhaaDoor.wr
