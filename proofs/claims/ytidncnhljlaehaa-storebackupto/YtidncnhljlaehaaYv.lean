import Derived.Test.YtidncnhljlaehaaYu
import Derived.Test.YtidncnhljlaehaaYq
import Derived.Test.YtidncnhljlaehaaBn
namespace Go.Proofs.Ytidncnhljlaehaa.yv
open Go.RowKit Go.PlainAid Go.Maps Go.Shelf
open Go.Proofs.Ytidncnhljlaehaa.ca Go.Proofs.Ytidncnhljlaehaa.cb Go.Proofs.Ytidncnhljlaehaa.cp Go.Proofs.Ytidncnhljlaehaa.kp Go.Proofs.Ytidncnhljlaehaa.ka Go.Proofs.Ytidncnhljlaehaa.ya Go.Proofs.Ytidncnhljlaehaa.yb Go.Proofs.Ytidncnhljlaehaa.yc Go.Proofs.Ytidncnhljlaehaa.yd Go.Proofs.Ytidncnhljlaehaa.ye Go.Proofs.Ytidncnhljlaehaa.yf Go.Proofs.Ytidncnhljlaehaa.yg Go.Proofs.Ytidncnhljlaehaa.ym Go.Proofs.Ytidncnhljlaehaa.yn Go.Proofs.Ytidncnhljlaehaa.yo Go.Proofs.Ytidncnhljlaehaa.yp Go.Proofs.Ytidncnhljlaehaa.yq Go.Proofs.Ytidncnhljlaehaa.yr Go.Proofs.Ytidncnhljlaehaa.ys Go.Proofs.Ytidncnhljlaehaa.yt Go.Proofs.Ytidncnhljlaehaa.yu Go.Proofs.Ytidncnhljlaehaa.bn Go.Proofs.Ytidncnhljlaehaa.sb Go.Proofs.Ytidncnhljlaehaa.mc
set_option linter.unusedVariables false
set_option linter.unusedSimpArgs false
theorem ReadsO_up {B B' : Nat} {w : World} {v : Value} {l : List Opn} (h : ReadsO B w v l) (hB : B ≤ B') : ReadsO B' w v l := by
  obtain ⟨⟨a, c, e, h1⟩, h2⟩ := h
  refine ⟨⟨a, c, e, h1.imp id ?_⟩, h2⟩
  rintro ⟨b, off, e1, e2, h3⟩
  exact ⟨b, off, e1, by omega, h3⟩
theorem below_dm {B m : Nat} {a w w' : World} (h : Below B a w) (e : w' = w.drewN m) : Below B a w' := by rw [e]; exact below_dN h m
-- a store in memory, its blocks above B, behind whatever was done since w
structure At (B g bn bd : Nat) (s : S) (w w' : World) : Prop where
  ex : ∃ pv, Sr B g bn bd pv s w'
  bl : Below B w w'
theorem At.lat {B g bn bd : Nat} {s : S} {w w1 w2 : World} (h : At B g bn bd s w w1) (hb : Below w1.heap.size w1 w2) (hB : B ≤ w.heap.size) : At B g bn bd s w w2 := by
  obtain ⟨⟨pv, h1⟩, h2⟩ := h
  exact ⟨⟨pv, sr_later h1 hb⟩, h2.trans (hb.mono (Nat.le_trans hB h2.size))⟩
end Go.Proofs.Ytidncnhljlaehaa.yv
