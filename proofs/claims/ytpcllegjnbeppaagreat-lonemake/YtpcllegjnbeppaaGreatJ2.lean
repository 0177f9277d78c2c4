import Derived.Test.YtpcllegjnbeppaaGreatJ1
import Derived.Test.YtpcllegjnbeppaaGreatH3
namespace Go.Proofs.YtpcllegjnbeppaaGreat.jb
open Go.RowKit Go.PlainAid Go.Maps Go.Shelf
open Go.Proofs.YtpcllegjnbeppaaGreat.kp Go.Proofs.YtpcllegjnbeppaaGreat.ka Go.Proofs.YtpcllegjnbeppaaGreat.ya Go.Proofs.YtpcllegjnbeppaaGreat.yb Go.Proofs.YtpcllegjnbeppaaGreat.yc Go.Proofs.YtpcllegjnbeppaaGreat.yd Go.Proofs.YtpcllegjnbeppaaGreat.ye Go.Proofs.YtpcllegjnbeppaaGreat.yf Go.Proofs.YtpcllegjnbeppaaGreat.yg Go.Proofs.YtpcllegjnbeppaaGreat.yi Go.Proofs.YtpcllegjnbeppaaGreat.yj Go.Proofs.YtpcllegjnbeppaaGreat.yk Go.Proofs.YtpcllegjnbeppaaGreat.yl Go.Proofs.YtpcllegjnbeppaaGreat.ym
open Go.Proofs.YtpcllegjnbeppaaGreat.tqa Go.Proofs.YtpcllegjnbeppaaGreat.tba Go.Proofs.YtpcllegjnbeppaaGreat.tbb Go.Proofs.YtpcllegjnbeppaaGreat.tbc Go.Proofs.YtpcllegjnbeppaaGreat.tbd Go.Proofs.YtpcllegjnbeppaaGreat.tbe Go.Proofs.YtpcllegjnbeppaaGreat.tbf
open Go.Proofs.YtpcllegjnbeppaaGreat.tqb (over keyC keyNo kindT kindT_size spaceT spaceT_size key_is)
open Go.Proofs.YtpcllegjnbeppaaGreat.ea Go.Proofs.YtpcllegjnbeppaaGreat.eb Go.Proofs.YtpcllegjnbeppaaGreat.ec Go.Proofs.YtpcllegjnbeppaaGreat.ed Go.Proofs.YtpcllegjnbeppaaGreat.eh Go.Proofs.YtpcllegjnbeppaaGreat.ha Go.Proofs.YtpcllegjnbeppaaGreat.hi
open Go.Proofs.YtpcllegjnbeppaaGreat.ja Go.Proofs.YtpcllegjnbeppaaGreat.ia
set_option linter.unusedVariables false
set_option linter.unusedSimpArgs false
theorem fr_no {B g bn bd T j : Nat} {pv : Value} {s : S} {w : World} {cur : Array Value} {f : Nat × Nat} (h : Sr B g bn bd pv s w) (h1 : T ≠ 80) (h2 : T ≠ 100) (hj : Fr g bn bd pv j) (hh : w.heap[j]? = some (.cells cur T f)) : False := by
  rcases hj with e | e | e | e
  · subst e
    have := h.row
    unfold St at this
    rw [this] at hh
    exact h1 (Obj.cells.inj (Option.some.inj hh)).2.1.symm
  · exact h.mn.ne hh e.symm
  · exact h.md.ne hh e.symm
  · exact own_tag h.pr hh (Ne.symm h2) e
-- what a call leaves
def Ru (g bn bd : Nat) (pv : Value) (s : S) (w w' : World) : Prop := ∃ pv', Sr 0 g bn bd pv' s w' ∧ Kp (Fr g bn bd pv) w w' ∧ ∀ k, Fr g bn bd pv' k → Fr g bn bd pv k ∨ w.heap.size ≤ k
section
variable {g bn bd : Nat} {pv : Value} {s s' : S} {w w' : World}
theorem Ru.later (h : Sr 0 g bn bd pv s w) (b : Below w.heap.size w w') : Ru g bn bd pv s w w' := ⟨pv, sr_later h b, Kp.of_below b, fun k hk => .inl hk⟩
theorem Ru.rn (r : Rn 0 g bn bd pv s w w') : Ru g bn bd pv s w w' := by
  obtain ⟨p, h, k, n⟩ := r
  refine ⟨p, h, k, ?_⟩
  rintro j (e | e | e | e)
  · exact .inl (.inl e)
  · exact .inl (.inr (.inl e))
  · exact .inl (.inr (.inr (.inl e)))
  · exact (n j e).imp (fun x => .inr (.inr (.inr x))) id
theorem Ru.born {ge : Nat} {e : E} (r : Born ge g bn bd pv s e w w') : Ru g bn bd pv s w w' := by
  obtain ⟨p, l, h, k, n⟩ := r
  exact ⟨p, h.st, k, fun j hj => n j (.inl hj)⟩
theorem ru_box {W w1 w2 : World} {cur : Array Value} {f : Nat × Nat} (bW : Below w.heap.size w W) (r : Rn 0 g bn bd pv s W w1) (hz : w1.heap[w.heap.size]? = some (.cells cur 137 f)) (k : Kp (fun q => q = w.heap.size) w1 w2) : Ru g bn bd pv s w w2 := by
  obtain ⟨p1, h1, k1, n1⟩ := r
  refine ⟨p1, sr_keep h1 k (fun j hj e => by subst e; exact fr_no h1 (by decide) (by decide) hj hz), ⟨k.os.trans (k1.os.trans bW.os), k.tape.trans (k1.tape.trans bW.tape), k.output.trans (k1.output.trans bW.output), Nat.le_trans bW.size (Nat.le_trans k1.size k.size), fun j hj hn => ?_⟩, ?_⟩
  · have q1 := bW.size
    have q2 := k1.size
    exact (k.block j (by omega) (by omega)).trans ((k1.block j (by omega) hn).trans (bW.block j hj))
  · rintro j (e | e | e | e)
    · exact .inl (.inl e)
    · exact .inl (.inr (.inl e))
    · exact .inl (.inr (.inr (.inl e)))
    · rcases n1 j e with x | x
      · exact .inl (.inr (.inr (.inr x)))
      · exact .inr (Nat.le_trans bW.size x)
end
theorem em_now {s : S} (h : Em s) : now s = [] := by unfold now; rw [h.1, h.2]; rfl
theorem em_wipe {s : S} (h : Em s) (ho : s.off = false) {sp : Int} (hs : 0 ≤ sp) : wipeS s sp = ((0, 0), s) := by
  unfold wipeS
  rw [if_neg (by omega), if_neg (by simp [ho]), em_keys h]
  rfl
theorem em_purge {s : S} (h : Em s) (sp : Int) : purgeS s sp 0 = (0, s) := by
  unfold purgeS kindsS
  rw [em_keys h]
  rfl
theorem em_st {s : S} (h : Em s) (ho : s.off = false) (sp : Int) (hs : 0 ≤ sp) : IsSt s sp [] := by
  refine ⟨fun i hi => by simp at hi, ?_⟩
  unfold lf
  have e : (bgetS s sp 1 (([] : List ByteArray).length : Nat)).2 ≠ 0 := by
    unfold bgetS
    rw [if_pos ⟨hs, by omega, by omega, by simp⟩, get_on ho (by rw [keyT_size]; omega), em_now h]
    simp [rget, bgetV]
  rw [if_neg (fun x => e x.1)]
set_option maxHeartbeats 3200000 in
theorem kmakeNo {g bn bd : Nat} {pv : Value} {s : S} {w : World} (sp E : Int) (h : Sr 0 g bn bd pv s w) (h1 : sp ≤ 9223372036854775807) (hw0 : (wipeS s sp).1.2 = E) (hE : E ≠ 0) (hw2 : (wipeS s sp).2 = s) (hl : 2 * (s.dur.length + s.pend.length) + 1 < 3518437208883) :
    Calls Tryz.prog 91 #[.pointer (some ⟨g, 0, none⟩), .int .i64 sp] w fun r w' => r = .returned (.tuple #[.agg #[.pointer none, .int .i64 0, .int .i64 0], .int .i64 E]) ∧ Ru g bn bd pv s w w' := by
  obtain ⟨W, HW⟩ : ∃ W, Hid (w.alloc (.cells #[.pointer none, .int .i64 0, .int .i64 0] 137) = W) := ⟨_, rfl⟩
  have bW : Below w.heap.size w W := by rw [← HW.out]; exact new1 _ _
  have hz : W.heap[w.heap.size]? = some (.cells #[.pointer none, .int .i64 0, .int .i64 0] 137 (0, 0)) := by rw [← HW.out]; exact heap_alloc_new w _
  have CW : Hid (Calls _ _ _ _ _) := wipeC sp (sr_later h bW) h1 hl (Nat.zero_le _)
  rw [hw0, hw2] at CW
  have HZ : Hid (∀ w1, Rn 0 g bn bd pv s W w1 → w1.heap[w.heap.size]? = some (.cells #[.pointer none, .int .i64 0, .int .i64 0] 137 (0, 0))) := fun w1 ⟨p, r1, r2, r3⟩ => (r2.block _ (Array.getElem?_eq_some_iff.1 hz).1 (fun hf => by have := (sr_in h _ hf).1; omega)).trans hz
  have HBW : Hid (Below w.heap.size w W) := bW
  have hE' : (E == 0) = false := by rw [beq_eq_false_iff_ne]; exact hE
  generalize (wipeS s sp).1.1 = n0 at *
  clear h hz bW hw0 hw2 hl hE h1
  go_enter Tryz.func91, Tryz.ntmps91
  go_upto_region 1 with fail
  rw [HW.out]
  go_upto_region 3 with (first | (go_at_call 35; refine CW.out.mono ?_; rintro _ w1 ⟨rfl, r1⟩; have R1 : Hid (Rn 0 g bn bd pv s W w1) := r1; clear r1) | go_in)
  have z1 := HZ.out _ R1.out
  have d0 := cell_of_row _ _ 0 _ _ _ z1
  have d1 := cell_of_row _ _ 1 _ _ _ z1
  have d2 := cell_of_row _ _ 2 _ _ _ z1
  have f0 := frozen_of_row _ _ 0 _ _ z1
  have f1 := frozen_of_row _ _ 1 _ _ z1
  have f2 := frozen_of_row _ _ 2 _ _ z1
  have FIN : Hid (∀ W', W' = _ → _) := put3k w1 w.heap.size _ _ _ (.pointer none) (.int .i64 0) (.int .i64 0) _ z1
  have Z1 : Hid _ := z1
  clear z1
  go_wp2
  obtain ⟨⟨x0, x1, x2⟩, xk⟩ := FIN.out _ rfl
  refine bodyPost_ret (by simp [results, Tryz.results91, go_sem, x0, x1, x2]; try rfl) rfl ?_
  exact ⟨rfl, ru_box HBW.out R1.out Z1.out xk⟩
set_option maxHeartbeats 3200000 in
theorem kopenNo {g bn bd : Nat} {pv : Value} {s : S} {w : World} (sp E : Int) (h : Sr 0 g bn bd pv s w) (h1 : sp ≤ 9223372036854775807) (hE : (sp < 0 ∧ E = 10) ∨ (0 ≤ sp ∧ s.off = true ∧ E = 124)) :
    Calls Tryz.prog 94 #[.pointer (some ⟨g, 0, none⟩), .int .i64 sp] w fun r w' => r = .returned (.tuple #[.agg #[.pointer none, .int .i64 0, .int .i64 0], .int .i64 E]) ∧ Below w.heap.size w w' := by
  obtain ⟨W, HW⟩ : ∃ W, Hid (w.alloc (.cells #[.pointer none, .int .i64 0, .int .i64 0] 137) = W) := ⟨_, rfl⟩
  have bW : Below w.heap.size w W := by rw [← HW.out]; exact new1 _ _
  have hz : W.heap[w.heap.size]? = some (.cells #[.pointer none, .int .i64 0, .int .i64 0] 137 (0, 0)) := by rw [← HW.out]; exact heap_alloc_new w _
  have HZ : Hid (∀ w1, Below W.heap.size W w1 → w1.heap[w.heap.size]? = some (.cells #[.pointer none, .int .i64 0, .int .i64 0] 137 (0, 0)) ∧ Below w.heap.size w w1) := fun w1 b => ⟨(b.block _ (Array.getElem?_eq_some_iff.1 hz).1).trans hz, over bW b⟩
  rcases hE with ⟨h0, rfl⟩ | ⟨h0, ho, rfl⟩
  · have CK : Hid (Calls _ _ _ _ _) := keyNo sp 1 0 W (by omega)
    have BB : Hid (Below W.heap.size W W) := Below.refl _ _
    clear h bW hz h1 h0
    go_enter Tryz.func94, Tryz.ntmps94
    go_upto_region 1 with fail
    rw [HW.out]
    go_upto_region 3 with (first | (go_at_call 58; refine CK.out.mono ?_; rintro _ _ ⟨rfl, hw⟩; rw [hw]; clear hw) | go_in)
    obtain ⟨z1, b1⟩ := HZ.out W BB.out
    have d0 := cell_of_row _ _ 0 _ _ _ z1
    have d1 := cell_of_row _ _ 1 _ _ _ z1
    have d2 := cell_of_row _ _ 2 _ _ _ z1
    have f0 := frozen_of_row _ _ 0 _ _ z1
    have f1 := frozen_of_row _ _ 1 _ _ z1
    have f2 := frozen_of_row _ _ 2 _ _ z1
    have FIN : Hid (∀ W', W' = _ → _) := put3k W w.heap.size _ _ _ (.pointer none) (.int .i64 0) (.int .i64 0) _ z1
    have BE : Hid (Below w.heap.size w W) := b1
    clear z1 b1
    go_wp2
    obtain ⟨⟨x0, x1, x2⟩, xk⟩ := FIN.out _ rfl
    refine bodyPost_ret (by simp [results, Tryz.results94, go_sem, x0, x1, x2]; try rfl) rfl ?_
    exact ⟨rfl, BE.out.trans (xk.below (fun q e => by omega) BE.out.size)⟩
  · have CK : Hid (Calls _ _ _ _ _) := keyC sp 1 0 W h0 h1 (by omega) (by omega) (by omega) (by omega)
    have CD : Hid (∀ w1, Below W.heap.size W w1 → Calls _ _ _ _ _) := fun w1 b => downC (sr_later h (over bW b)).row
    rw [ho] at CD
    generalize keyT sp 1 0 = K at *
    clear h bW hz h1 h0 ho
    go_enter Tryz.func94, Tryz.ntmps94
    go_upto_region 1 with fail
    rw [HW.out]
    go_upto_region 4 with (first | (go_at_call 58; refine CK.out.mono ?_; rintro _ w1 ⟨rfl, b1⟩; have B1 : Hid (Below W.heap.size W w1) := b1; clear b1) | go_in)
    have C4 : Hid (Calls _ _ _ _ _) := CD.out w1 B1.out
    obtain ⟨z1, b1⟩ := HZ.out w1 B1.out
    have d0 := cell_of_row _ _ 0 _ _ _ z1
    have d1 := cell_of_row _ _ 1 _ _ _ z1
    have d2 := cell_of_row _ _ 2 _ _ _ z1
    have f0 := frozen_of_row _ _ 0 _ _ z1
    have f1 := frozen_of_row _ _ 1 _ _ z1
    have f2 := frozen_of_row _ _ 2 _ _ z1
    have FIN : Hid (∀ W', W' = _ → _) := put3k w1 w.heap.size _ _ _ (.pointer none) (.int .i64 0) (.int .i64 0) _ z1
    have BE : Hid (Below w.heap.size w w1) := b1
    clear z1 b1
    go_wp2_with (first | (go_at_call 13; refine C4.out.mono ?_; rintro _ _ ⟨rfl, hw⟩; rw [hw]; clear hw) | go_in)
    obtain ⟨⟨x0, x1, x2⟩, xk⟩ := FIN.out _ rfl
    refine bodyPost_ret (by simp [results, Tryz.results94, go_sem, x0, x1, x2]; try rfl) rfl ?_
    exact ⟨rfl, BE.out.trans (xk.below (fun q e => by omega) BE.out.size)⟩
set_option maxHeartbeats 3200000 in
theorem pMake {g bn bd : Nat} {pv : Value} {s : S} {w : World} (a b c d e f sp : Int) (h : Sr 0 g bn bd pv s w) (he : Em s) (hs : sp ≤ 9223372036854775807) : Calls Tryz.prog 52 #[.pointer (some ⟨g, 0, none⟩), .agg #[.int .i64 a, .int .i64 b, .int .i64 c, .int .i64 d, .int .i64 e, .int .i64 f], .int .i64 sp] w fun r w' => ∃ q, r = .returned (.tuple #[.pointer q, .int .i64 (mkE a b sp s.off)]) ∧ (q = none ↔ mkE a b sp s.off ≠ 0) ∧ Ru g bn bd pv s w w' := by
  have hln : 2 * (s.dur.length + s.pend.length) + 1 < 3518437208883 := by rw [he.1, he.2]; decide
  unfold mkE
  by_cases hok : okO a b = true
  · rw [if_pos hok]
    have hopt : a = 1 ∧ 1 ≤ b ∧ b ≤ 32 := by unfold okO at hok; exact of_decide_eq_true hok
    by_cases hr : 0 ≤ sp ∧ s.off = false
    · rw [if_neg (by omega), if_neg (by simp [hr.2])]
      have hw := em_wipe he hr.2 hr.1
      refine (MakeYes a b c d e f sp h ⟨hr.1, hs⟩ hopt (by rw [hw]) hln).mono ?_
      rintro r w' ⟨ge, rfl, hb⟩
      rw [hw] at hb
      exact ⟨_, rfl, by simp, Ru.born hb⟩
    · obtain ⟨R, HR⟩ : ∃ R, Hid ((if sp < 0 then (10 : Int) else if s.off = true then 124 else 0) = R) := ⟨_, rfl⟩
      have HC : Hid ((sp < 0 ∧ R = 10) ∨ (0 ≤ sp ∧ s.off = true ∧ R = 124)) := by
        have := HR.out
        by_cases h0 : sp < 0
        · rw [if_pos h0] at this; exact .inl ⟨h0, this.symm⟩
        · rw [if_neg h0] at this
          by_cases h2 : s.off = true
          · rw [if_pos h2] at this; exact .inr ⟨by omega, h2, this.symm⟩
          · exact absurd ⟨by omega, by simpa using h2⟩ hr
      rw [HR.out]
      have hR0 : R ≠ 0 := by rcases HC.out with ⟨_, e⟩ | ⟨_, _, e⟩ <;> (rw [e]; decide)
      have hR' : (R == 0) = false := by rw [beq_eq_false_iff_ne]; exact hR0
      obtain ⟨W, HW⟩ : ∃ W, Hid (w.alloc (.cells #[.int .i64 a, .int .i64 b, .int .i64 c, .int .i64 d, .int .i64 e, .int .i64 f] 36) = W) := ⟨_, rfl⟩
      have bW : Below w.heap.size w W := by rw [← HW.out]; exact new1 _ _
      have hz : W.heap[w.heap.size]? = some (.cells #[.int .i64 a, .int .i64 b, .int .i64 c, .int .i64 d, .int .i64 e, .int .i64 f] 36 (0, 0)) := by rw [← HW.out]; exact heap_alloc_new w _
      have p0 := cell_of_row _ _ 0 _ _ _ hz
      have p1 := cell_of_row _ _ 1 _ _ _ hz
      have p2 := cell_of_row _ _ 2 _ _ _ hz
      have p3 := cell_of_row _ _ 3 _ _ _ hz
      have p4 := cell_of_row _ _ 4 _ _ _ hz
      have p5 := cell_of_row _ _ 5 _ _ _ hz
      have CG : Hid (Calls _ _ _ _ _) := optsC a b c d e f W
      rw [hok] at CG
      have CK : Hid (∀ w1, Below w.heap.size w w1 → Calls Tryz.prog 91 #[.pointer (some ⟨g, 0, none⟩), .int .i64 sp] w1 fun r w' => r = .returned (.tuple #[.agg #[.pointer none, .int .i64 0, .int .i64 0], .int .i64 R]) ∧ Ru g bn bd pv s w1 w') := fun w1 bb => by
        have hw : (wipeS s sp).1.2 = R ∧ (wipeS s sp).2 = s := by
          unfold wipeS
          rcases HC.out with ⟨h0, e0⟩ | ⟨h0, h2, e0⟩
          · rw [if_pos h0]; exact ⟨e0.symm, rfl⟩
          · rw [if_neg (by omega), if_pos h2]; exact ⟨e0.symm, rfl⟩
        exact kmakeNo sp R (sr_later h bb) hs hw.1 hR0 hw.2 hln
      have HBW : Hid (Below w.heap.size w W) := bW
      have FINI : Hid (∀ w1 w2 w3, Below w.heap.size w w1 → Ru g bn bd pv s w1 w2 → Below w2.heap.size w2 w3 → Ru g bn bd pv s w w3) := fun w1 w2 w3 b1 ⟨p, r1, r2, r3⟩ b3 => ⟨p, sr_later r1 b3, ⟨b3.os.trans (r2.os.trans b1.os), b3.tape.trans (r2.tape.trans b1.tape), b3.output.trans (r2.output.trans b1.output), Nat.le_trans b1.size (Nat.le_trans r2.size b3.size), fun j hj hn => (b3.block j (by have := b1.size; have := r2.size; omega)).trans ((r2.block j (by have := b1.size; omega) hn).trans (b1.block j hj))⟩, fun k hk => (r3 k hk).imp id (fun x => Nat.le_trans b1.size x)⟩
      clear h bW hz hopt hr hln hok HR HC he hs
      go_enter Tryz.func52, Tryz.ntmps52
      go_upto_region 1 with fail
      rw [HW.out]
      go_upto_region 3 with (first | (go_at_call 90; refine CG.out.mono ?_; rintro _ w1 ⟨rfl, b1⟩; have B1 : Hid (Below w.heap.size w w1) := over HBW.out b1; clear b1) | go_in)
      go_wp2_with (first | (go_at_call 91; refine (CK.out _ B1.out).mono ?_; rintro _ w2 ⟨rfl, r2⟩; have R2 : Hid (Ru g bn bd pv s w1 w2) := r2; clear r2) | go_in)
      go_ret2
      exact ⟨_, rfl, by simp [hR0], FINI.out _ _ _ B1.out R2.out ((Below.refl _ _).alloc (Nat.le_refl _) _)⟩
  · have hok' : okO a b = false := by simpa using hok
    rw [if_neg hok]
    obtain ⟨W, HW⟩ : ∃ W, Hid (w.alloc (.cells #[.int .i64 a, .int .i64 b, .int .i64 c, .int .i64 d, .int .i64 e, .int .i64 f] 36) = W) := ⟨_, rfl⟩
    have bW : Below w.heap.size w W := by rw [← HW.out]; exact new1 _ _
    have hz : W.heap[w.heap.size]? = some (.cells #[.int .i64 a, .int .i64 b, .int .i64 c, .int .i64 d, .int .i64 e, .int .i64 f] 36 (0, 0)) := by rw [← HW.out]; exact heap_alloc_new w _
    have p0 := cell_of_row _ _ 0 _ _ _ hz
    have p1 := cell_of_row _ _ 1 _ _ _ hz
    have p2 := cell_of_row _ _ 2 _ _ _ hz
    have p3 := cell_of_row _ _ 3 _ _ _ hz
    have p4 := cell_of_row _ _ 4 _ _ _ hz
    have p5 := cell_of_row _ _ 5 _ _ _ hz
    have CG : Hid (Calls _ _ _ _ _) := optsC a b c d e f W
    rw [hok'] at CG
    have HH : Hid (Sr 0 g bn bd pv s w) := h
    have HBW : Hid (Below w.heap.size w W) := bW
    clear h bW hz hln hok hok' he hs
    go_enter Tryz.func52, Tryz.ntmps52
    go_upto_region 1 with fail
    rw [HW.out]
    go_wp2_with (first | (go_at_call 90; refine CG.out.mono ?_; rintro _ w1 ⟨rfl, b1⟩; have B1 : Hid (Below w.heap.size w w1) := over HBW.out b1; clear b1) | go_in)
    go_ret2
    exact ⟨_, rfl, by simp, Ru.later HH.out B1.out⟩
set_option maxHeartbeats 3200000 in
theorem pOpen {g bn bd : Nat} {pv : Value} {s : S} {w : World} (a b c d e f sp least : Int) (h : Sr 0 g bn bd pv s w) (he : Em s) (hs : sp ≤ 9223372036854775807) : Calls Tryz.prog 54 #[.pointer (some ⟨g, 0, none⟩), .agg #[.int .i64 a, .int .i64 b, .int .i64 c, .int .i64 d, .int .i64 e, .int .i64 f], .int .i64 sp, .int .i64 least] w fun r w' => ∃ q, r = .returned (.tuple #[.pointer q, .int .i64 (opE a b sp least s.off)]) ∧ (q = none ↔ opE a b sp least s.off ≠ 0) ∧ Ru g bn bd pv s w w' := by
  have hln : 2 * (s.dur.length + s.pend.length) + 1 < 3518437208883 := by rw [he.1, he.2]; decide
  unfold opE
  by_cases hok : okO a b = true
  · rw [if_pos hok]
    have hopt : a = 1 ∧ 1 ≤ b ∧ b ≤ 32 := by unfold okO at hok; exact of_decide_eq_true hok
    by_cases hr : 0 ≤ sp ∧ s.off = false
    · rw [if_neg (by omega), if_neg (by simp [hr.2])]
      by_cases hle : 0 < least
      · rw [if_pos hle]
        refine (OpenLost a b c d e f sp least [] h ⟨hr.1, hs⟩ hopt hr.2 (em_st he hr.2 sp hr.1) (by decide) (by simpa using hle)).mono ?_
        rintro r w' ⟨rfl, hb⟩
        exact ⟨_, rfl, by simp, Ru.later h hb⟩
      · rw [if_neg hle]
        refine (OpenYes a b c d e f sp least [] h ⟨hr.1, hs⟩ hopt hr.2 (em_st he hr.2 sp hr.1) (by decide) (by simp; omega) (em_purge he sp) hln).mono ?_
        rintro r w' ⟨ge, rfl, hb⟩
        exact ⟨_, rfl, by simp, Ru.born hb⟩
    · obtain ⟨R, HR⟩ : ∃ R, Hid ((if sp < 0 then (10 : Int) else if s.off = true then 124 else if 0 < least then 151 else 0) = R) := ⟨_, rfl⟩
      have HC : Hid ((sp < 0 ∧ R = 10) ∨ (0 ≤ sp ∧ s.off = true ∧ R = 124)) := by
        have := HR.out
        by_cases h0 : sp < 0
        · rw [if_pos h0] at this; exact .inl ⟨h0, this.symm⟩
        · rw [if_neg h0] at this
          by_cases h2 : s.off = true
          · rw [if_pos h2] at this; exact .inr ⟨by omega, h2, this.symm⟩
          · exact absurd ⟨by omega, by simpa using h2⟩ hr
      rw [HR.out]
      have hR0 : R ≠ 0 := by rcases HC.out with ⟨_, e⟩ | ⟨_, _, e⟩ <;> (rw [e]; decide)
      have hR' : (R == 0) = false := by rw [beq_eq_false_iff_ne]; exact hR0
      obtain ⟨W, HW⟩ : ∃ W, Hid (w.alloc (.cells #[.int .i64 a, .int .i64 b, .int .i64 c, .int .i64 d, .int .i64 e, .int .i64 f] 36) = W) := ⟨_, rfl⟩
      have bW : Below w.heap.size w W := by rw [← HW.out]; exact new1 _ _
      have hz : W.heap[w.heap.size]? = some (.cells #[.int .i64 a, .int .i64 b, .int .i64 c, .int .i64 d, .int .i64 e, .int .i64 f] 36 (0, 0)) := by rw [← HW.out]; exact heap_alloc_new w _
      have p0 := cell_of_row _ _ 0 _ _ _ hz
      have p1 := cell_of_row _ _ 1 _ _ _ hz
      have p2 := cell_of_row _ _ 2 _ _ _ hz
      have p3 := cell_of_row _ _ 3 _ _ _ hz
      have p4 := cell_of_row _ _ 4 _ _ _ hz
      have p5 := cell_of_row _ _ 5 _ _ _ hz
      have CG : Hid (Calls _ _ _ _ _) := optsC a b c d e f W
      rw [hok] at CG
      have CK : Hid (∀ w1, Below w.heap.size w w1 → Calls Tryz.prog 94 #[.pointer (some ⟨g, 0, none⟩), .int .i64 sp] w1 fun r w' => r = .returned (.tuple #[.agg #[.pointer none, .int .i64 0, .int .i64 0], .int .i64 R]) ∧ Ru g bn bd pv s w1 w') := fun w1 bb => by
        exact (kopenNo sp R (sr_later h bb) hs HC.out).mono fun r w' ⟨x, y⟩ => ⟨x, Ru.later (sr_later h bb) y⟩
      have HBW : Hid (Below w.heap.size w W) := bW
      have FINI : Hid (∀ w1 w2 w3, Below w.heap.size w w1 → Ru g bn bd pv s w1 w2 → Below w2.heap.size w2 w3 → Ru g bn bd pv s w w3) := fun w1 w2 w3 b1 ⟨p, r1, r2, r3⟩ b3 => ⟨p, sr_later r1 b3, ⟨b3.os.trans (r2.os.trans b1.os), b3.tape.trans (r2.tape.trans b1.tape), b3.output.trans (r2.output.trans b1.output), Nat.le_trans b1.size (Nat.le_trans r2.size b3.size), fun j hj hn => (b3.block j (by have := b1.size; have := r2.size; omega)).trans ((r2.block j (by have := b1.size; omega) hn).trans (b1.block j hj))⟩, fun k hk => (r3 k hk).imp id (fun x => Nat.le_trans b1.size x)⟩
      clear h bW hz hopt hr hln hok HR HC he hs
      go_enter Tryz.func54, Tryz.ntmps54
      go_upto_region 1 with fail
      rw [HW.out]
      go_upto_region 3 with (first | (go_at_call 90; refine CG.out.mono ?_; rintro _ w1 ⟨rfl, b1⟩; have B1 : Hid (Below w.heap.size w w1) := over HBW.out b1; clear b1) | go_in)
      go_wp2_with (first | (go_at_call 94; refine (CK.out _ B1.out).mono ?_; rintro _ w2 ⟨rfl, r2⟩; have R2 : Hid (Ru g bn bd pv s w1 w2) := r2; clear r2) | go_in)
      go_ret2
      exact ⟨_, rfl, by simp [hR0], FINI.out _ _ _ B1.out R2.out ((Below.refl _ _).alloc (Nat.le_refl _) _)⟩
  · have hok' : okO a b = false := by simpa using hok
    rw [if_neg hok]
    obtain ⟨W, HW⟩ : ∃ W, Hid (w.alloc (.cells #[.int .i64 a, .int .i64 b, .int .i64 c, .int .i64 d, .int .i64 e, .int .i64 f] 36) = W) := ⟨_, rfl⟩
    have bW : Below w.heap.size w W := by rw [← HW.out]; exact new1 _ _
    have hz : W.heap[w.heap.size]? = some (.cells #[.int .i64 a, .int .i64 b, .int .i64 c, .int .i64 d, .int .i64 e, .int .i64 f] 36 (0, 0)) := by rw [← HW.out]; exact heap_alloc_new w _
    have p0 := cell_of_row _ _ 0 _ _ _ hz
    have p1 := cell_of_row _ _ 1 _ _ _ hz
    have p2 := cell_of_row _ _ 2 _ _ _ hz
    have p3 := cell_of_row _ _ 3 _ _ _ hz
    have p4 := cell_of_row _ _ 4 _ _ _ hz
    have p5 := cell_of_row _ _ 5 _ _ _ hz
    have CG : Hid (Calls _ _ _ _ _) := optsC a b c d e f W
    rw [hok'] at CG
    have HH : Hid (Sr 0 g bn bd pv s w) := h
    have HBW : Hid (Below w.heap.size w W) := bW
    clear h bW hz hln hok hok' he hs
    go_enter Tryz.func54, Tryz.ntmps54
    go_upto_region 1 with fail
    rw [HW.out]
    go_wp2_with (first | (go_at_call 90; refine CG.out.mono ?_; rintro _ w1 ⟨rfl, b1⟩; have B1 : Hid (Below w.heap.size w w1) := over HBW.out b1; clear b1) | go_in)
    go_ret2
    exact ⟨_, rfl, by simp, Ru.later HH.out B1.out⟩
end Go.Proofs.YtpcllegjnbeppaaGreat.jb
