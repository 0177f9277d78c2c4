import Derived.Test.YtidncnhljlaehaaYt
namespace Go.Proofs.Ytidncnhljlaehaa.yu
open Go.RowKit Go.PlainAid Go.Maps Go.Shelf
open Go.Proofs.Ytidncnhljlaehaa.ca Go.Proofs.Ytidncnhljlaehaa.cb Go.Proofs.Ytidncnhljlaehaa.cp Go.Proofs.Ytidncnhljlaehaa.kp Go.Proofs.Ytidncnhljlaehaa.ka Go.Proofs.Ytidncnhljlaehaa.ya Go.Proofs.Ytidncnhljlaehaa.yb Go.Proofs.Ytidncnhljlaehaa.yc Go.Proofs.Ytidncnhljlaehaa.yd Go.Proofs.Ytidncnhljlaehaa.ye Go.Proofs.Ytidncnhljlaehaa.yf Go.Proofs.Ytidncnhljlaehaa.yg Go.Proofs.Ytidncnhljlaehaa.yo Go.Proofs.Ytidncnhljlaehaa.yp Go.Proofs.Ytidncnhljlaehaa.yr Go.Proofs.Ytidncnhljlaehaa.ys Go.Proofs.Ytidncnhljlaehaa.yt Go.Proofs.Ytidncnhljlaehaa.sb Go.Proofs.Ytidncnhljlaehaa.mc
set_option linter.unusedVariables false
set_option linter.unusedSimpArgs false
-- a script in memory, in a block below B
def OkO (o : Opn) : Prop := o.key.size ≤ 140737488355328 ∧ o.data.size ≤ 140737488355328 ∧ o.n ≤ 9223372036854775807
structure ReadsO (B : Nat) (w : World) (v : Value) (l : List Opn) : Prop where
  form : ∃ a c, v = .slice a l.length c ∧ (l.length = 0 ∨ ∃ b off, a = some ⟨b, off, none⟩ ∧ b < B ∧ ∀ i o, l[i]? = some o → w.cell? ⟨b, off + i * 4, none⟩ = some (.int .i64 o.kind) ∧ w.cell? ⟨b, off + i * 4 + 1, none⟩ = some (.string o.key) ∧ w.cell? ⟨b, off + i * 4 + 2, none⟩ = some (.string o.data) ∧ w.cell? ⟨b, off + i * 4 + 3, none⟩ = some (.int .i64 o.n))
  each : ∀ o ∈ l, OkO o
theorem ReadsO.later {B : Nat} {w w' : World} {v : Value} {l : List Opn} (h : ReadsO B w v l) (hb : Below B w w') : ReadsO B w' v l := by
  obtain ⟨⟨a, c, e, h1⟩, h2⟩ := h
  refine ⟨⟨a, c, e, h1.imp id ?_⟩, h2⟩
  rintro ⟨b, off, e1, e2, h3⟩
  refine ⟨b, off, e1, e2, fun i o ho => ?_⟩
  have key : ∀ j x, w.cell? ⟨b, j, none⟩ = some x → w'.cell? ⟨b, j, none⟩ = some x := fun j x hx => by
    rw [← hx]
    unfold World.cell?
    rw [show (⟨b, j, none⟩ : Addr).block = b from rfl, hb.block b e2]
  obtain ⟨q0, q1, q2, q3⟩ := h3 i o ho
  exact ⟨key _ _ q0, key _ _ q1, key _ _ q2, key _ _ q3⟩
theorem rn_join {B g bn bd : Nat} {pv p1 : Value} {s : S} {w w1 w2 : World} (k1 : Kp (Fr g bn bd pv) w w1) (n1 : ∀ k, some k = p1.ownBlock → some k = pv.ownBlock ∨ w.heap.size ≤ k) (r : Rn B g bn bd p1 s w1 w2) : Rn B g bn bd pv s w w2 := by
  obtain ⟨p2, h2, k2, n2⟩ := r
  refine ⟨p2, h2, ⟨k2.os.trans k1.os, k2.tape.trans k1.tape, k2.output.trans k1.output, Nat.le_trans k1.size k2.size, fun j hj hn => ?_⟩, fun j hj => ?_⟩
  · refine (k2.block j (Nat.lt_of_lt_of_le hj k1.size) ?_).trans (k1.block j hj hn)
    rintro (e | e | e | e)
    · exact hn (.inl e)
    · exact hn (.inr (.inl e))
    · exact hn (.inr (.inr (.inl e)))
    · rcases n1 j e with e | e
      · exact hn (.inr (.inr (.inr e)))
      · omega
  · rcases n2 j hj with e | e
    · exact n1 j e
    · exact .inr (Nat.le_trans k1.size e)
set_option maxRecDepth 20000 in
set_option maxHeartbeats 6400000 in
theorem playC {B g bn bd : Nat} {pv v : Value} {s : S} {w : World} (l : List Opn) (h : Sr B g bn bd pv s w) (hv : ReadsO B w v l) (hm : mass s + tw l ≤ 140737488355000) (hn : nums s + l.length < 3518437208883) (ha : s.age + l.length < 4398046511104) (hB : B ≤ w.heap.size) :
    Calls Try.prog 22 #[.pointer (some ⟨g, 0, none⟩), v] w fun e w' => e = .returned (.tuple #[]) ∧ Rn B g bn bd pv (l.foldl doO s) w w' := by
  obtain ⟨va, vc, rfl, _⟩ := hv.form
  have H : Hid (Sr B g bn bd pv s w ∧ ReadsO B w (.slice va l.length vc) l) := ⟨h, hv⟩
  clear h hv
  go_enter Try.func22, Try.ntmps22
  go_wp2_with fail
  go_loopw [4] (fun i wr => ∃ j : Nat, i = .int .i64 j ∧ j ≤ l.length ∧ Hid (Rn B g bn bd pv ((l.take j).foldl doO s) w wr)) (fun i _ => (l.length - intOf i).toNat)
  case atStart => exact ⟨0, rfl, Nat.zero_le _, Rn.refl H.out.1⟩
  case round =>
    obtain ⟨j, rfl, hj, HH⟩ := hrel
    by_cases hlt : j < l.length
    · have hlt' : (j : Int) < l.length := by omega
      obtain ⟨o, ho⟩ : ∃ o, l[j]? = some o := ⟨_, List.getElem?_eq_getElem hlt⟩
      have hbw : Below B w wr := Rn.below H.out.1 HH.out hB
      obtain ⟨⟨a', c', e', h1⟩, hev⟩ := H.out.2.later hbw
      injection e' with e1 _ e2
      subst e1 e2
      obtain ⟨b, off, rfl, hbB, hc⟩ : ∃ b off, va = some ⟨b, off, none⟩ ∧ b < B ∧ ∀ i o, l[i]? = some o → wr.cell? ⟨b, off + i * 4, none⟩ = some (.int .i64 o.kind) ∧ wr.cell? ⟨b, off + i * 4 + 1, none⟩ = some (.string o.key) ∧ wr.cell? ⟨b, off + i * 4 + 2, none⟩ = some (.string o.data) ∧ wr.cell? ⟨b, off + i * 4 + 3, none⟩ = some (.int .i64 o.n) := by
        rcases h1 with h1 | h1
        · omega
        · exact h1
      obtain ⟨d0, d1, d2, d3⟩ := hc j o ho
      have hoo := hev o (List.mem_of_getElem? ho)
      have hst := steps s l j
      have htk := tw_take l j
      obtain ⟨pv1, h2, k2, n2⟩ := HH.out
      have hms : isz ((l.take j).foldl doO s).dur ≤ mass ((l.take j).foldl doO s) := by unfold mass; omega
      have hns : nums ((l.take j).foldl doO s) = ((l.take j).foldl doO s).dur.length + ((l.take j).foldl doO s).pend.length := rfl
      have CC : Hid (Calls _ _ _ _ _) := doC o.kind o.key o.data o.n h2 hoo.1 hoo.2.1 hoo.2.2 (by omega) (by omega) (by omega) (Nat.le_trans hB hbw.size)
      have FN : Hid (∀ w3, Rn B g bn bd pv1 (doS ((l.take j).foldl doO s) o.kind o.key o.data o.n).2 wr w3 → Rn B g bn bd pv ((l.take (j + 1)).foldl doO s) w w3) := fun w3 r3 => by
        have e : (l.take (j + 1)).foldl doO s = doO ((l.take j).foldl doO s) o := by rw [List.take_add_one, ho, List.foldl_append]; rfl
        rw [e]
        exact rn_join k2 n2 r3
      obtain ⟨kd, hkd⟩ : ∃ x, o.kind = x := ⟨_, rfl⟩
      obtain ⟨ky, hky⟩ : ∃ x, o.key = x := ⟨_, rfl⟩
      obtain ⟨dt, hdt⟩ : ∃ x, o.data = x := ⟨_, rfl⟩
      obtain ⟨nn, hnn⟩ : ∃ x, o.n = x := ⟨_, rfl⟩
      rw [hkd] at d0 CC FN
      rw [hky] at d1 CC FN
      rw [hdt] at d2 CC FN
      rw [hnn] at d3 CC FN
      clear HH hc ho hoo hst htk h2 k2 n2 hms hns hev h1 hkd hky hdt hnn
      go_wp2_with (first | (go_at_call 12; refine CC.out.mono ?_; rintro _ w3 ⟨t, na, nl, nc, xa, xb, xc, xf, xq, rfl, r3⟩; have F3 : Hid _ := FN.out w3 r3; clear r3) | go_in)
      go_roundw
      case rel => exact ⟨j + 1, by go_num, by omega, F3.out⟩
      case measure => simp [intOf]; omega
    · have hlt' : ¬ (j : Int) < l.length := by omega
      have hjl : j = l.length := by omega
      have F : Hid (Rn B g bn bd pv (l.foldl doO s) w wr) := by have := HH.out; rw [hjl, List.take_length] at this; exact this
      clear HH
      go_wp2_with fail
      go_end0
      exact ⟨rfl, F.out⟩
end Go.Proofs.Ytidncnhljlaehaa.yu
