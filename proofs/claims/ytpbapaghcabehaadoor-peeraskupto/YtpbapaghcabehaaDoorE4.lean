import Derived.Test.YtpbapaghcabehaaDoorD2
import Derived.Test.YtpbapaghcabehaaDoorE3
namespace Go.Proofs.YtpbapaghcabehaaDoor.e4
open Go.RowKit Go.PlainAid Go.Shelf
open Go.Proofs.YtpbapaghcabehaaDoor.tj Go.Proofs.YtpbapaghcabehaaDoor.va Go.Proofs.YtpbapaghcabehaaDoor.vb Go.Proofs.YtpbapaghcabehaaDoor.vc Go.Proofs.YtpbapaghcabehaaDoor.wa Go.Proofs.YtpbapaghcabehaaDoor.wb Go.Proofs.YtpbapaghcabehaaDoor.b3 Go.Proofs.YtpbapaghcabehaaDoor.d2 Go.Proofs.YtpbapaghcabehaaDoor.e1 Go.Proofs.YtpbapaghcabehaaDoor.e3
theorem law_peerask (old : Int) (pf : List ByteArray) (note : ByteArray) (a : Option Addr) (c : Nat) (b : ByteArray) (w : World) (hI : I64 old) (zn : note.size ≤ 1048576) (hr : Reads w (.slice a pf.length c) pf) (hno : a = none → c = 0) (hz : pf.length ≤ 1048576) (zb : b.size ≤ 1048576) (N : Hid (NumW w)) (M : Hid (MaxW w)) :
    Calls Tryd.prog 4 #[.agg #[.int .i64 old, .slice a pf.length c, .string note], .string b] w fun e w' => e = .returned (.bool true) ∧ Below w.heap.size w w' :=
  law_ask old pf note a c b w hI zn hr hno hz zb N M fun w' hN hM => readC b zb w' hN hM fun w B mv ms xss h1 h2 h3 h4 h5 => apartC w B mv ms xss h1 h2 h3 h4 h5
end Go.Proofs.YtpbapaghcabehaaDoor.e4
