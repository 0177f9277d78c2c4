import Derived.Test.YtlkkibiedlakfaaGreatYt
namespace Go.Proofs.YtlkkibiedlakfaaGreat.yu
open Go.RowKit Go.PlainAid Go.Maps Go.Shelf
open Go.Proofs.YtlkkibiedlakfaaGreat.ca Go.Proofs.YtlkkibiedlakfaaGreat.cb Go.Proofs.YtlkkibiedlakfaaGreat.cp Go.Proofs.YtlkkibiedlakfaaGreat.kp Go.Proofs.YtlkkibiedlakfaaGreat.ka Go.Proofs.YtlkkibiedlakfaaGreat.ya Go.Proofs.YtlkkibiedlakfaaGreat.yb Go.Proofs.YtlkkibiedlakfaaGreat.yc Go.Proofs.YtlkkibiedlakfaaGreat.yd Go.Proofs.YtlkkibiedlakfaaGreat.ye Go.Proofs.YtlkkibiedlakfaaGreat.yf Go.Proofs.YtlkkibiedlakfaaGreat.yg Go.Proofs.YtlkkibiedlakfaaGreat.yo Go.Proofs.YtlkkibiedlakfaaGreat.yp Go.Proofs.YtlkkibiedlakfaaGreat.yr Go.Proofs.YtlkkibiedlakfaaGreat.ys Go.Proofs.YtlkkibiedlakfaaGreat.yt Go.Proofs.YtlkkibiedlakfaaGreat.sb Go.Proofs.YtlkkibiedlakfaaGreat.mc
set_option linter.unusedVariables false
set_option linter.unusedSimpArgs false
-- a script in memory, in a block below B
def OkO (o : Opn) : Prop := o.key.size ≤ 140737488355328 ∧ o.data.size ≤ 140737488355328 ∧ o.n ≤ 9223372036854775807
structure ReadsO (B : Nat) (w : World) (v : Value) (l : List Opn) : Prop where
  form : ∃ a c, v = .slice a l.length c ∧ (l.length = 0 ∨ ∃ b off, a = some ⟨b, off, none⟩ ∧ b < B ∧ ∀ i o, l[i]? = some o → w.cell? ⟨b, off + i * 4, none⟩ = some (.int .i64 o.kind) ∧ w.cell? ⟨b, off + i * 4 + 1, none⟩ = some (.string o.key) ∧ w.cell? ⟨b, off + i * 4 + 2, none⟩ = some (.string o.data) ∧ w.cell? ⟨b, off + i * 4 + 3, none⟩ = some (.int .i64 o.n))
  each : ∀ o ∈ l, OkO o
theorem ReadsO.later {B : Nat} {w w' : World} {v : Value} {l : List Opn} (h : ReadsO B w v l) (hb : Below B w w') : ReadsO B w' v l := by
  obtain ⟨⟨a, c, e, h1⟩, h2⟩ := h
  refine ⟨⟨a, c, e, h1.imp id ?_⟩, h2⟩
  rintro ⟨b, off, e1, e2, h3⟩
  refine ⟨b, off, e1, e2, fun i o ho => ?_⟩
  have key : ∀ j x, w.cell? ⟨b, j, none⟩ = some x → w'.cell? ⟨b, j, none⟩ = some x := fun j x hx => by
    rw [← hx]
    unfold World.cell?
    rw [show (⟨b, j, none⟩ : Addr).block = b from rfl, hb.block b e2]
  obtain ⟨q0, q1, q2, q3⟩ := h3 i o ho
  exact ⟨key _ _ q0, key _ _ q1, key _ _ q2, key _ _ q3⟩
theorem rn_join {B g bn bd : Nat} {pv p1 : Value} {s : S} {w w1 w2 : World} (k1 : Kp (Fr g bn bd pv) w w1) (n1 : ∀ k, some k = p1.ownBlock → some k = pv.ownBlock ∨ w.heap.size ≤ k) (r : Rn B g bn bd p1 s w1 w2) : Rn B g bn bd pv s w w2 := by
  obtain ⟨p2, h2, k2, n2⟩ := r
  refine ⟨p2, h2, ⟨k2.os.trans k1.os, k2.tape.trans k1.tape, k2.output.trans k1.output, Nat.le_trans k1.size k2.size, fun j hj hn => ?_⟩, fun j hj => ?_⟩
  · refine (k2.block j (Nat.lt_of_lt_of_le hj k1.size) ?_).trans (k1.block j hj hn)
    rintro (e | e | e | e)
    · exact hn (.inl e)
    · exact hn (.inr (.inl e))
    · exact hn (.inr (.inr (.inl e)))
    · rcases n1 j e with e | e
      · exact hn (.inr (.inr (.inr e)))
      · omega
  · rcases n2 j hj with e | e
    · exact n1 j e
    · exact .inr (Nat.le_trans k1.size e)
end Go.Proofs.YtlkkibiedlakfaaGreat.yu
