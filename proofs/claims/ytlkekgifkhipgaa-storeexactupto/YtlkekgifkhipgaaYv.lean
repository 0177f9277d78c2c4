import Derived.Test.YtlkekgifkhipgaaYu
import Derived.Test.YtlkekgifkhipgaaYq
import Derived.Test.YtlkekgifkhipgaaBn
namespace Go.Proofs.Ytlkekgifkhipgaa.yv
open Go.RowKit Go.PlainAid Go.Maps Go.Shelf
open Go.Proofs.Ytlkekgifkhipgaa.ca Go.Proofs.Ytlkekgifkhipgaa.cb Go.Proofs.Ytlkekgifkhipgaa.cp Go.Proofs.Ytlkekgifkhipgaa.kp Go.Proofs.Ytlkekgifkhipgaa.ka Go.Proofs.Ytlkekgifkhipgaa.ya Go.Proofs.Ytlkekgifkhipgaa.yb Go.Proofs.Ytlkekgifkhipgaa.yc Go.Proofs.Ytlkekgifkhipgaa.yd Go.Proofs.Ytlkekgifkhipgaa.ye Go.Proofs.Ytlkekgifkhipgaa.yf Go.Proofs.Ytlkekgifkhipgaa.yg Go.Proofs.Ytlkekgifkhipgaa.ym Go.Proofs.Ytlkekgifkhipgaa.yn Go.Proofs.Ytlkekgifkhipgaa.yo Go.Proofs.Ytlkekgifkhipgaa.yp Go.Proofs.Ytlkekgifkhipgaa.yq Go.Proofs.Ytlkekgifkhipgaa.yr Go.Proofs.Ytlkekgifkhipgaa.ys Go.Proofs.Ytlkekgifkhipgaa.yt Go.Proofs.Ytlkekgifkhipgaa.yu Go.Proofs.Ytlkekgifkhipgaa.bn Go.Proofs.Ytlkekgifkhipgaa.sb Go.Proofs.Ytlkekgifkhipgaa.mc
set_option linter.unusedVariables false
set_option linter.unusedSimpArgs false
theorem ReadsO_up {B B' : Nat} {w : World} {v : Value} {l : List Opn} (h : ReadsO B w v l) (hB : B ≤ B') : ReadsO B' w v l := by
  obtain ⟨⟨a, c, e, h1⟩, h2⟩ := h
  refine ⟨⟨a, c, e, h1.imp id ?_⟩, h2⟩
  rintro ⟨b, off, e1, e2, h3⟩
  exact ⟨b, off, e1, by omega, h3⟩
theorem below_dm {B m : Nat} {a w w' : World} (h : Below B a w) (e : w' = w.drewN m) : Below B a w' := by rw [e]; exact below_dN h m
-- a store in memory, its blocks above B, behind whatever was done since w
structure At (B g bn bd : Nat) (s : S) (w w' : World) : Prop where
  ex : ∃ pv, Sr B g bn bd pv s w'
  bl : Below B w w'
theorem At.lat {B g bn bd : Nat} {s : S} {w w1 w2 : World} (h : At B g bn bd s w w1) (hb : Below w1.heap.size w1 w2) (hB : B ≤ w.heap.size) : At B g bn bd s w w2 := by
  obtain ⟨⟨pv, h1⟩, h2⟩ := h
  exact ⟨⟨pv, sr_later h1 hb⟩, h2.trans (hb.mono (Nat.le_trans hB h2.size))⟩
end Go.Proofs.Ytlkekgifkhipgaa.yv
