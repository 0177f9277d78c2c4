import Derived.Test.YtdhhbkkinlmgnaaYu
import Derived.Test.YtdhhbkkinlmgnaaYq
import Derived.Test.YtdhhbkkinlmgnaaBn
namespace Go.Proofs.Ytdhhbkkinlmgnaa.yv
open Go.RowKit Go.PlainAid Go.Maps Go.Shelf
open Go.Proofs.Ytdhhbkkinlmgnaa.ca Go.Proofs.Ytdhhbkkinlmgnaa.cb Go.Proofs.Ytdhhbkkinlmgnaa.cp Go.Proofs.Ytdhhbkkinlmgnaa.kp Go.Proofs.Ytdhhbkkinlmgnaa.ka Go.Proofs.Ytdhhbkkinlmgnaa.ya Go.Proofs.Ytdhhbkkinlmgnaa.yb Go.Proofs.Ytdhhbkkinlmgnaa.yc Go.Proofs.Ytdhhbkkinlmgnaa.yd Go.Proofs.Ytdhhbkkinlmgnaa.ye Go.Proofs.Ytdhhbkkinlmgnaa.yf Go.Proofs.Ytdhhbkkinlmgnaa.yg Go.Proofs.Ytdhhbkkinlmgnaa.ym Go.Proofs.Ytdhhbkkinlmgnaa.yn Go.Proofs.Ytdhhbkkinlmgnaa.yo Go.Proofs.Ytdhhbkkinlmgnaa.yp Go.Proofs.Ytdhhbkkinlmgnaa.yq Go.Proofs.Ytdhhbkkinlmgnaa.yr Go.Proofs.Ytdhhbkkinlmgnaa.ys Go.Proofs.Ytdhhbkkinlmgnaa.yt Go.Proofs.Ytdhhbkkinlmgnaa.yu Go.Proofs.Ytdhhbkkinlmgnaa.bn Go.Proofs.Ytdhhbkkinlmgnaa.sb Go.Proofs.Ytdhhbkkinlmgnaa.mc
set_option linter.unusedVariables false
set_option linter.unusedSimpArgs false
theorem ReadsO_up {B B' : Nat} {w : World} {v : Value} {l : List Opn} (h : ReadsO B w v l) (hB : B ≤ B') : ReadsO B' w v l := by
  obtain ⟨⟨a, c, e, h1⟩, h2⟩ := h
  refine ⟨⟨a, c, e, h1.imp id ?_⟩, h2⟩
  rintro ⟨b, off, e1, e2, h3⟩
  exact ⟨b, off, e1, by omega, h3⟩
theorem below_dm {B m : Nat} {a w w' : World} (h : Below B a w) (e : w' = w.drewN m) : Below B a w' := by rw [e]; exact below_dN h m
-- a store in memory, its blocks above B, behind whatever was done since w
structure At (B g bn bd : Nat) (s : S) (w w' : World) : Prop where
  ex : ∃ pv, Sr B g bn bd pv s w'
  bl : Below B w w'
theorem At.lat {B g bn bd : Nat} {s : S} {w w1 w2 : World} (h : At B g bn bd s w w1) (hb : Below w1.heap.size w1 w2) (hB : B ≤ w.heap.size) : At B g bn bd s w w2 := by
  obtain ⟨⟨pv, h1⟩, h2⟩ := h
  exact ⟨⟨pv, sr_later h1 hb⟩, h2.trans (hb.mono (Nat.le_trans hB h2.size))⟩
end Go.Proofs.Ytdhhbkkinlmgnaa.yv
