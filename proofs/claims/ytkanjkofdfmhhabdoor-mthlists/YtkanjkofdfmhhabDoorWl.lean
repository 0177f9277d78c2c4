import Derived.Test.YtkanjkofdfmhhabDoorJf
import Derived.Test.YtkanjkofdfmhhabDoorCv
namespace Go.Proofs.YtkanjkofdfmhhabDoor.wl
open Go.RowKit Go.PlainAid
open Go.Proofs.YtkanjkofdfmhhabDoor.pl Go.Proofs.YtkanjkofdfmhhabDoor.ft Go.Proofs.YtkanjkofdfmhhabDoor.pj Go.Proofs.YtkanjkofdfmhhabDoor.rf Go.Proofs.YtkanjkofdfmhhabDoor.cp Go.Proofs.YtkanjkofdfmhhabDoor.cv Go.Proofs.YtkanjkofdfmhhabDoor.ka Go.Proofs.YtkanjkofdfmhhabDoor.gb Go.Proofs.YtkanjkofdfmhhabDoor.jf Go.Proofs.YtkanjkofdfmhhabDoor.gp Go.Proofs.YtkanjkofdfmhhabDoor.gq Go.Proofs.YtkanjkofdfmhhabDoor.gr
set_option linter.unusedVariables false

theorem lists_walk (C0 : RootC Tab4) (C1 : PathC Tab4) (C2 : ProofC Tab4) (W : World) (a0 : Int) (w0 : (Lit.int .i64 a0).wf = true) (a1 : Int) (w1 : (Lit.int .i64 a1).wf = true) (a2 : Int) (w2 : (Lit.int .i64 a2).wf = true) (v3 : Value) (xs : List ByteArray) (hr : ReadsT W v3 xs) (hno : ∀ k c, v3 = .slice none k c → c = 0) (hx : ∀ x ∈ xs, x.size ≤ 140737488351232) (hl : xs.length * 16 ≤ 140737488351232) (tabs : St8 W 2 ∧ K64 W 3 ∧ St8 W 0 ∧ K64 W 1) :
    Calls Tryd.prog 5 #[.int .i64 a0, .int .i64 a1, .int .i64 a2, v3] W fun e w' => e = .returned (.bool true) ∧ Below W.heap.size W w' :=
  mth_lists (T := Tab4) Tab4.down (fun h => h) C0 C1 C2 a0 a1 a2 (i64_of w0) (i64_of w1) (i64_of w2) v3 xs W (Tab4.of tabs) hr hno hx hl
end Go.Proofs.YtkanjkofdfmhhabDoor.wl
