import Derived.Test.YtlkkibiedlakfaaGreatYu
import Derived.Test.YtlkkibiedlakfaaGreatYq
import Derived.Test.YtlkkibiedlakfaaGreatBn
namespace Go.Proofs.YtlkkibiedlakfaaGreat.yv
open Go.RowKit Go.PlainAid Go.Maps Go.Shelf
open Go.Proofs.YtlkkibiedlakfaaGreat.ca Go.Proofs.YtlkkibiedlakfaaGreat.cb Go.Proofs.YtlkkibiedlakfaaGreat.cp Go.Proofs.YtlkkibiedlakfaaGreat.kp Go.Proofs.YtlkkibiedlakfaaGreat.ka Go.Proofs.YtlkkibiedlakfaaGreat.ya Go.Proofs.YtlkkibiedlakfaaGreat.yb Go.Proofs.YtlkkibiedlakfaaGreat.yc Go.Proofs.YtlkkibiedlakfaaGreat.yd Go.Proofs.YtlkkibiedlakfaaGreat.ye Go.Proofs.YtlkkibiedlakfaaGreat.yf Go.Proofs.YtlkkibiedlakfaaGreat.yg Go.Proofs.YtlkkibiedlakfaaGreat.ym Go.Proofs.YtlkkibiedlakfaaGreat.yn Go.Proofs.YtlkkibiedlakfaaGreat.yo Go.Proofs.YtlkkibiedlakfaaGreat.yp Go.Proofs.YtlkkibiedlakfaaGreat.yq Go.Proofs.YtlkkibiedlakfaaGreat.yr Go.Proofs.YtlkkibiedlakfaaGreat.ys Go.Proofs.YtlkkibiedlakfaaGreat.yt Go.Proofs.YtlkkibiedlakfaaGreat.yu Go.Proofs.YtlkkibiedlakfaaGreat.bn Go.Proofs.YtlkkibiedlakfaaGreat.sb Go.Proofs.YtlkkibiedlakfaaGreat.mc
set_option linter.unusedVariables false
set_option linter.unusedSimpArgs false
theorem ReadsO_up {B B' : Nat} {w : World} {v : Value} {l : List Opn} (h : ReadsO B w v l) (hB : B ≤ B') : ReadsO B' w v l := by
  obtain ⟨⟨a, c, e, h1⟩, h2⟩ := h
  refine ⟨⟨a, c, e, h1.imp id ?_⟩, h2⟩
  rintro ⟨b, off, e1, e2, h3⟩
  exact ⟨b, off, e1, by omega, h3⟩
theorem below_dm {B m : Nat} {a w w' : World} (h : Below B a w) (e : w' = w.drewN m) : Below B a w' := by rw [e]; exact below_dN h m
-- a store in memory, its blocks above B, behind whatever was done since w
structure At (B g bn bd : Nat) (s : S) (w w' : World) : Prop where
  ex : ∃ pv, Sr B g bn bd pv s w'
  bl : Below B w w'
theorem At.lat {B g bn bd : Nat} {s : S} {w w1 w2 : World} (h : At B g bn bd s w w1) (hb : Below w1.heap.size w1 w2) (hB : B ≤ w.heap.size) : At B g bn bd s w w2 := by
  obtain ⟨⟨pv, h1⟩, h2⟩ := h
  exact ⟨⟨pv, sr_later h1 hb⟩, h2.trans (hb.mono (Nat.le_trans hB h2.size))⟩
end Go.Proofs.YtlkkibiedlakfaaGreat.yv
