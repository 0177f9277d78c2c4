import Derived.Test.YtkanjkofdfmhhabDoorGf
import Derived.Test.YtkanjkofdfmhhabDoorCv
namespace Go.Proofs.YtkanjkofdfmhhabDoor.wn
open Go.RowKit Go.PlainAid
open Go.Proofs.YtkanjkofdfmhhabDoor.pl Go.Proofs.YtkanjkofdfmhhabDoor.ft Go.Proofs.YtkanjkofdfmhhabDoor.pj Go.Proofs.YtkanjkofdfmhhabDoor.rf Go.Proofs.YtkanjkofdfmhhabDoor.cp Go.Proofs.YtkanjkofdfmhhabDoor.cv Go.Proofs.YtkanjkofdfmhhabDoor.ka Go.Proofs.YtkanjkofdfmhhabDoor.gb Go.Proofs.YtkanjkofdfmhhabDoor.gf Go.Proofs.YtkanjkofdfmhhabDoor.gn
set_option linter.unusedVariables false

theorem node_walk (C0 : NodeC Tab4) (W : World) (a0 : Int) (w0 : (Lit.int .i64 a0).wf = true) (a1 b1 : Int) (wA1 : (Lit.int .i64 a1).wf = true) (wB1 : (Lit.int .i64 b1).wf = true) (v2 : Value) (xs : List ByteArray) (hr : ReadsT W v2 xs) (hno : ∀ k c, v2 = .slice none k c → c = 0) (hx : ∀ x ∈ xs, x.size ≤ 140737488351232) (hl : xs.length * 16 ≤ 140737488351232) (tabs : St8 W 2 ∧ K64 W 3 ∧ St8 W 0 ∧ K64 W 1) :
    Calls Tryd.prog 4 #[.int .i64 a0, .agg #[.int .i64 a1, .int .i64 b1], v2] W fun e w' => e = .returned (.bool true) ∧ Below W.heap.size W w' :=
  mth_node (T := Tab4) Tab4.down (fun h => h) C0 a0 a1 b1 (i64_of w0) (i64_of wA1) (i64_of wB1) v2 xs W (Tab4.of tabs) hr hno ⟨fun x h => by have := hx x h; omega, hl⟩
end Go.Proofs.YtkanjkofdfmhhabDoor.wn
