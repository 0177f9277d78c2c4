import Derived.Test.YtmigdhohbjnhcaaDoorWk3
import Derived.Test.YtmigdhohbjnhcaaDoorCv
namespace Go.Proofs.YtmigdhohbjnhcaaDoor.wk4
open Go.RowKit Go.PlainAid
open Go.Proofs.YtmigdhohbjnhcaaDoor.pl Go.Proofs.YtmigdhohbjnhcaaDoor.ft Go.Proofs.YtmigdhohbjnhcaaDoor.pj Go.Proofs.YtmigdhohbjnhcaaDoor.rf Go.Proofs.YtmigdhohbjnhcaaDoor.cp Go.Proofs.YtmigdhohbjnhcaaDoor.cv Go.Proofs.YtmigdhohbjnhcaaDoor.ka Go.Proofs.YtmigdhohbjnhcaaDoor.gb Go.Proofs.YtmigdhohbjnhcaaDoor.wk2 Go.Proofs.YtmigdhohbjnhcaaDoor.wk3
set_option linter.unusedVariables false

theorem kept_walk (W : World) (a0 : Int) (w0 : (Lit.int .i64 a0).wf = true) (h : ByteArray) (tm due : Int) (mac leaf : ByteArray) (zl : leaf.size ≤ 140737488351232) (o : ByteArray) (size : Int) (root : ByteArray) (ext v4 : Value) (xs : List ByteArray) (hr : ReadsT W v4 xs) (hno : ∀ k c, v4 = .slice none k c → c = 0) (hx : ∀ x ∈ xs, x.size ≤ 140737488351232) (hl : xs.length * 16 ≤ 140737488351232) (a5 : Int) (w5 : (Lit.int .i64 a5).wf = true) (tabs : St8 W 1 ∧ K64 W 3 ∧ St8 W 0 ∧ K64 W 2) :
    Calls Tryd.prog 3 #[.int .i64 a0, .agg #[.string h, .int .i64 tm, .int .i64 due, .string mac], .string leaf, .agg #[.string o, .int .i64 size, .string root, ext], v4, .int .i64 a5] W fun e w' => e = .returned (.bool true) ∧ Below W.heap.size W w' :=
  law_kept a0 ⟨h, tm, due, mac, o, size, root, ext⟩ leaf v4 xs a5 (i64_of w0) (by omega) ⟨fun x h => by have := hx x h; omega, hl⟩ hno W hr (Tab4.of tabs)
end Go.Proofs.YtmigdhohbjnhcaaDoor.wk4
