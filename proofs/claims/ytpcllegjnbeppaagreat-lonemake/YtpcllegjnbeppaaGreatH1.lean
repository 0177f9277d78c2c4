import Derived.Test.YtpcllegjnbeppaaGreatE1
namespace Go.Proofs.YtpcllegjnbeppaaGreat.ha
open Go.RowKit Go.PlainAid Go.Maps Go.Shelf
open Go.Proofs.YtpcllegjnbeppaaGreat.kp Go.Proofs.YtpcllegjnbeppaaGreat.ka Go.Proofs.YtpcllegjnbeppaaGreat.ya Go.Proofs.YtpcllegjnbeppaaGreat.yb Go.Proofs.YtpcllegjnbeppaaGreat.yc Go.Proofs.YtpcllegjnbeppaaGreat.yd Go.Proofs.YtpcllegjnbeppaaGreat.ye Go.Proofs.YtpcllegjnbeppaaGreat.yf Go.Proofs.YtpcllegjnbeppaaGreat.yg Go.Proofs.YtpcllegjnbeppaaGreat.yi Go.Proofs.YtpcllegjnbeppaaGreat.yj Go.Proofs.YtpcllegjnbeppaaGreat.yk Go.Proofs.YtpcllegjnbeppaaGreat.yl Go.Proofs.YtpcllegjnbeppaaGreat.ym
open Go.Proofs.YtpcllegjnbeppaaGreat.tqa Go.Proofs.YtpcllegjnbeppaaGreat.tba Go.Proofs.YtpcllegjnbeppaaGreat.tbb Go.Proofs.YtpcllegjnbeppaaGreat.tbc Go.Proofs.YtpcllegjnbeppaaGreat.tbd Go.Proofs.YtpcllegjnbeppaaGreat.tbe Go.Proofs.YtpcllegjnbeppaaGreat.tbf
open Go.Proofs.YtpcllegjnbeppaaGreat.tqb (over keyC keyNo kindT kindT_size spaceT spaceT_size key_is)
open Go.Proofs.YtpcllegjnbeppaaGreat.ea Go.Proofs.YtpcllegjnbeppaaGreat.eb Go.Proofs.YtpcllegjnbeppaaGreat.ec Go.Proofs.YtpcllegjnbeppaaGreat.ed Go.Proofs.YtpcllegjnbeppaaGreat.ee Go.Proofs.YtpcllegjnbeppaaGreat.ef Go.Proofs.YtpcllegjnbeppaaGreat.eg Go.Proofs.YtpcllegjnbeppaaGreat.eh Go.Proofs.YtpcllegjnbeppaaGreat.ei Go.Proofs.YtpcllegjnbeppaaGreat.ej Go.Proofs.YtpcllegjnbeppaaGreat.ek Go.Proofs.YtpcllegjnbeppaaGreat.el
set_option linter.unusedVariables false
set_option linter.unusedSimpArgs false
theorem put3k (w : World) (p : Nat) (a b c x y z : Value) (t : TypeId) (h : w.heap[p]? = some (.cells #[a, b, c] t (0, 0))) : ∀ W, W = ((w.setCell ⟨p, 0, none⟩ x).setCell ⟨p, 1, none⟩ y).setCell ⟨p, 2, none⟩ z → (W.cell? ⟨p, 0, none⟩ = some x ∧ W.cell? ⟨p, 1, none⟩ = some y ∧ W.cell? ⟨p, 2, none⟩ = some z) ∧ Kp (fun q => q = p) w W := by
  intro W hW
  have h1 := heap_setCell_same _ _ 0 _ _ x h
  have h2 := heap_setCell_same _ _ 1 _ _ y h1
  have h3 := heap_setCell_same _ _ 2 _ _ z h2
  rw [← hW] at h3
  refine ⟨⟨cell_of_row _ _ 0 _ _ _ h3, cell_of_row _ _ 1 _ _ _ h3, cell_of_row _ _ 2 _ _ _ h3⟩, ?_⟩
  rw [hW]; exact ((Kp.setCell (A := fun q => q = p) _ _ _ _ rfl).trans (Kp.setCell (A := fun q => q = p) _ _ _ _ rfl)).trans (Kp.setCell (A := fun q => q = p) _ _ _ _ rfl)
set_option maxHeartbeats 1600000 in
theorem kopenYes {B g bn bd : Nat} {pv : Value} {s : S} {w : World} (sp : Int) (h : Sr B g bn bd pv s w) (hs : okI sp) (ho : s.off = false) :
    Calls Tryz.prog 94 #[.pointer (some ⟨g, 0, none⟩), .int .i64 sp] w fun r w' => r = .returned (.tuple #[.agg #[.pointer (some ⟨g, 0, none⟩), .int .i64 sp, .int .i64 s.age], .int .i64 0]) ∧ Below w.heap.size w w' := by
  obtain ⟨W, HW⟩ : ∃ W, Hid (w.alloc (.cells #[.pointer none, .int .i64 0, .int .i64 0] 137) = W) := ⟨_, rfl⟩
  have bW : Below w.heap.size w W := by rw [← HW.out]; exact new1 _ _
  have hz : W.heap[w.heap.size]? = some (.cells #[.pointer none, .int .i64 0, .int .i64 0] 137 (0, 0)) := by rw [← HW.out]; exact heap_alloc_new w _
  have hzl := (Array.getElem?_eq_some_iff.1 hz).1
  have CK : Hid (Calls _ _ _ _ _) := keyC sp 1 0 W hs.1 hs.2 (by omega) (by omega) (by omega) (by omega)
  have CD : Hid (∀ w1, Below W.heap.size W w1 → Calls _ _ _ _ _) := fun w1 b => downC (sr_later h (over bW b)).row
  have CA : Hid (∀ w1, Below W.heap.size W w1 → Calls _ _ _ _ _) := fun w1 b => ageC (sr_later h (over bW b)).row
  rw [ho] at CD
  have HZ : Hid (∀ w1, Below W.heap.size W w1 → w1.heap[w.heap.size]? = some (.cells #[.pointer none, .int .i64 0, .int .i64 0] 137 (0, 0)) ∧ Below w.heap.size w w1) := fun w1 b => ⟨(b.block _ hzl).trans hz, over bW b⟩
  generalize keyT sp 1 0 = K at *
  generalize s.age = ag at *
  clear h hz hzl bW ho
  go_enter Tryz.func94, Tryz.ntmps94
  go_upto_region 1 with fail
  rw [HW.out]
  go_upto_region 4 with (first | (go_at_call 58; refine CK.out.mono ?_; rintro _ w1 ⟨rfl, b1⟩; have B1 : Hid (Below W.heap.size W w1) := b1; clear b1) | go_in)
  have C4 : Hid (Calls _ _ _ _ _) := CD.out w1 B1.out
  have C5 : Hid (Calls _ _ _ _ _) := CA.out w1 B1.out
  obtain ⟨z1, b1⟩ := HZ.out w1 B1.out
  have d0 := cell_of_row _ _ 0 _ _ _ z1
  have d1 := cell_of_row _ _ 1 _ _ _ z1
  have d2 := cell_of_row _ _ 2 _ _ _ z1
  have f0 := frozen_of_row _ _ 0 _ _ z1
  have f1 := frozen_of_row _ _ 1 _ _ z1
  have f2 := frozen_of_row _ _ 2 _ _ z1
  have FIN : Hid (∀ W', W' = _ → _) := put3k w1 w.heap.size _ _ _ (.pointer (some ⟨g, 0, none⟩)) (.int .i64 sp) (.int .i64 (ag : Int)) _ z1
  have BE : Hid (Below w.heap.size w w1) := b1
  clear z1 b1
  go_wp2_with (first | (go_at_call 13; refine C4.out.mono ?_; rintro _ _ ⟨rfl, hw⟩; rw [hw]; clear hw) | (go_at_call 121; refine C5.out.mono ?_; rintro _ _ ⟨rfl, hw⟩; rw [hw]; clear hw) | go_in)
  obtain ⟨⟨x0, x1, x2⟩, xk⟩ := FIN.out _ rfl
  refine bodyPost_ret (by simp [results, Tryz.results94, go_sem, x0, x1, x2]; try rfl) rfl ?_
  exact ⟨rfl, BE.out.trans (xk.below (fun q e => by omega) BE.out.size)⟩
theorem cut_off (s : S) (k : ByteArray) (h : (cutS s k).1 = 0) : (cutS s k).2.off = s.off ∧ (cutS s k).2.age = s.age ∧ (cutS s k).2.cap = s.cap := by
  unfold cutS at h ⊢
  split
  · rename_i h1; rw [if_pos h1] at h; exact absurd h h1
  · rename_i h1
    rw [if_neg h1] at h
    split
    · rename_i h2
      rw [if_pos h2] at h
      rw [age_spend, cap_spend]
      refine ⟨?_, rfl, rfl⟩
      unfold spendS at h ⊢
      split
      · rfl
      · rename_i h3
        rw [if_neg h3] at h
        split
        · rename_i h4; rw [if_pos h4] at h; cases h
        · rfl
    · rename_i h2; rw [if_neg h2] at h; cases h
theorem wipe_off : ∀ (ks : List ByteArray) (s : S), (wipeL ks s).1 = 0 → (wipeL ks s).2.off = s.off ∧ (wipeL ks s).2.age = s.age ∧ (wipeL ks s).2.cap = s.cap := by
  intro ks
  induction ks with
  | nil => intro s _; exact ⟨rfl, rfl, rfl⟩
  | cons k ks ih =>
    intro s h
    rw [wipeL] at h ⊢
    split
    · rename_i h1
      rw [if_pos h1] at h
      obtain ⟨a, b, c⟩ := ih _ h
      obtain ⟨a', b', c'⟩ := cut_off s k h1
      exact ⟨a.trans a', b.trans b', c.trans c'⟩
    · rename_i h1; rw [if_neg h1] at h; exact absurd h h1
theorem wipe_on {s : S} {sp : Int} (h : (wipeS s sp).1.2 = 0) : (wipeS s sp).2.off = false ∧ (wipeS s sp).2.age = s.age ∧ (wipeS s sp).2.cap = s.cap := by
  unfold wipeS at h ⊢
  split
  · rename_i h1; rw [if_pos h1] at h; cases h
  · rename_i h1
    rw [if_neg h1] at h
    cases ho : s.off with
    | true => rw [ho] at h; simp at h
    | false =>
      rw [ho] at h
      simp only [Bool.false_eq_true, if_false] at h ⊢
      split
      · rename_i h2
        obtain ⟨a, b, c⟩ := wipe_off _ s h2
        exact ⟨a.trans ho, b, c⟩
      · rename_i h2; rw [if_neg h2] at h; exact absurd h h2
set_option maxHeartbeats 3200000 in
theorem kmakeYes {g bn bd : Nat} {pv : Value} {s : S} {w : World} (sp : Int) (h : Sr 0 g bn bd pv s w) (hs : okI sp) (hw0 : (wipeS s sp).1.2 = 0) (hl : 2 * (s.dur.length + s.pend.length) + 1 < 3518437208883) :
    Calls Tryz.prog 91 #[.pointer (some ⟨g, 0, none⟩), .int .i64 sp] w fun r w' => r = .returned (.tuple #[.agg #[.pointer (some ⟨g, 0, none⟩), .int .i64 sp, .int .i64 s.age], .int .i64 0]) ∧ Rn 0 g bn bd pv (wipeS s sp).2 w w' := by
  obtain ⟨W, HW⟩ : ∃ W, Hid (w.alloc (.cells #[.pointer none, .int .i64 0, .int .i64 0] 137) = W) := ⟨_, rfl⟩
  have bW : Below w.heap.size w W := by rw [← HW.out]; exact new1 _ _
  have hz : W.heap[w.heap.size]? = some (.cells #[.pointer none, .int .i64 0, .int .i64 0] 137 (0, 0)) := by rw [← HW.out]; exact heap_alloc_new w _
  have hzl := (Array.getElem?_eq_some_iff.1 hz).1
  have hkn : ¬ Fr g bn bd pv w.heap.size := fun e => by have := (sr_in h _ e).1; omega
  obtain ⟨hoff, hage, _⟩ := wipe_on hw0
  have CW : Hid (Calls _ _ _ _ _) := wipeC sp (sr_later h bW) hs.2 hl (Nat.zero_le _)
  rw [hw0] at CW
  have SW : Hid (Sr 0 g bn bd pv s W) := sr_later h bW
  have CO : Hid (∀ w1, Rn 0 g bn bd pv (wipeS s sp).2 W w1 → Calls Tryz.prog 94 #[.pointer (some ⟨g, 0, none⟩), .int .i64 sp] w1 fun r w' => r = .returned (.tuple #[.agg #[.pointer (some ⟨g, 0, none⟩), .int .i64 sp, .int .i64 s.age], .int .i64 0]) ∧ Below w1.heap.size w1 w' ∧ Rn 0 g bn bd pv (wipeS s sp).2 W w' ∧ w'.heap[w.heap.size]? = some (.cells #[.pointer none, .int .i64 0, .int .i64 0] 137 (0, 0))) := fun w1 r => by
    have r' := r
    obtain ⟨p1, h1, k1, n1⟩ := r
    have C := kopenYes sp h1 hs hoff
    rw [hage] at C
    refine C.mono ?_
    rintro e w' ⟨rfl, b⟩
    have hz1 := (k1.block _ hzl hkn).trans hz
    exact ⟨rfl, b, ⟨p1, sr_later h1 b, k1.trans (Kp.of_below b), n1⟩, (b.block _ (Array.getElem?_eq_some_iff.1 hz1).1).trans hz1⟩
  have HN : Hid (∀ w1 w2, Rn 0 g bn bd pv (wipeS s sp).2 W w1 → Kp (fun q => q = w.heap.size) w1 w2 → Rn 0 g bn bd pv (wipeS s sp).2 w w2) := fun w1 w2 r k => by
    obtain ⟨p1, h1, k1, n1⟩ := r
    refine ⟨p1, sr_keep h1 k (fun j hj e => ?_), ⟨k.os.trans (k1.os.trans bW.os), k.tape.trans (k1.tape.trans bW.tape), k.output.trans (k1.output.trans bW.output), Nat.le_trans bW.size (Nat.le_trans k1.size k.size), fun j hj hn => ?_⟩, fun j hj => (n1 j hj).imp id (fun x => Nat.le_trans bW.size x)⟩
    · subst e
      rcases hj with hj | hj | hj | hj
      · exact hkn (.inl hj)
      · exact hkn (.inr (.inl hj))
      · exact hkn (.inr (.inr (.inl hj)))
      · rcases n1 _ hj with h2 | h2
        · exact hkn (.inr (.inr (.inr h2)))
        · omega
    · exact (k.block j (by have := bW.size; have := k1.size; omega) (fun e => by omega)).trans ((k1.block j (by have := bW.size; omega) hn).trans (bW.block j hj))
  generalize (wipeS s sp).1.1 = cn at *
  generalize (wipeS s sp).2 = s' at *
  generalize s.age = ag at *
  clear h hz hzl bW hkn hoff hage hw0 hl
  go_enter Tryz.func91, Tryz.ntmps91
  go_upto_region 1 with fail
  rw [HW.out]
  go_upto_region 4 with (first | (go_at_call 35; refine CW.out.mono ?_; rintro _ w1 ⟨rfl, r1⟩; have R1 : Hid (Rn 0 g bn bd pv s' W w1) := r1; clear r1) | go_in)
  have C4 : Hid (Calls _ _ _ _ _) := CO.out w1 R1.out
  go_wp2_with fail
  refine C4.out.mono ?_
  rintro _ w2 ⟨rfl, _, r2, z2⟩
  have R2 : Hid (Rn 0 g bn bd pv s' W w2) := r2
  have d0 := cell_of_row _ _ 0 _ _ _ z2
  have d1 := cell_of_row _ _ 1 _ _ _ z2
  have d2 := cell_of_row _ _ 2 _ _ _ z2
  have f0 := frozen_of_row _ _ 0 _ _ z2
  have f1 := frozen_of_row _ _ 1 _ _ z2
  have f2 := frozen_of_row _ _ 2 _ _ z2
  have FIN : Hid (∀ W', W' = _ → _) := put3k w2 w.heap.size _ _ _ (.pointer (some ⟨g, 0, none⟩)) (.int .i64 sp) (.int .i64 (ag : Int)) _ z2
  clear r2 z2
  go_wp2
  obtain ⟨⟨x0, x1, x2⟩, xk⟩ := FIN.out _ rfl
  refine bodyPost_ret (by simp [results, Tryz.results91, go_sem, x0, x1, x2]; try rfl) rfl ?_
  exact ⟨rfl, HN.out _ _ R2.out xk⟩
-- the engine that is made
def Born (ge g bn bd : Nat) (pv : Value) (s : S) (e : E) (w w' : World) : Prop := ∃ pv' lv', En ge g bn bd pv' lv' s e w' ∧ Kp (Fr g bn bd pv) w w' ∧ ∀ k, Ef ge g bn bd pv' lv' k → Fr g bn bd pv k ∨ w.heap.size ≤ k
set_option maxHeartbeats 3200000 in
theorem MakeYes {g bn bd : Nat} {pv : Value} {s : S} {w : World} (a b c d e f : Int) (sp : Int) (h : Sr 0 g bn bd pv s w) (hs : okI sp) (hopt : a = 1 ∧ 1 ≤ b ∧ b ≤ 32) (hw0 : (wipeS s sp).1.2 = 0) (hl : 2 * (s.dur.length + s.pend.length) + 1 < 3518437208883) :
    Calls Tryz.prog 52 #[.pointer (some ⟨g, 0, none⟩), .agg #[.int .i64 a, .int .i64 b, .int .i64 c, .int .i64 d, .int .i64 e, .int .i64 f], .int .i64 sp] w fun r w' => ∃ ge, r = .returned (.tuple #[.pointer (some ⟨ge, 0, none⟩), .int .i64 0]) ∧ Born ge g bn bd pv (wipeS s sp).2 ⟨sp, s.age, b, [], 0⟩ w w' := by
  obtain ⟨W, HW⟩ : ∃ W, Hid (w.alloc (.cells #[.int .i64 a, .int .i64 b, .int .i64 c, .int .i64 d, .int .i64 e, .int .i64 f] 36) = W) := ⟨_, rfl⟩
  have bW : Below w.heap.size w W := by rw [← HW.out]; exact new1 _ _
  have hz : W.heap[w.heap.size]? = some (.cells #[.int .i64 a, .int .i64 b, .int .i64 c, .int .i64 d, .int .i64 e, .int .i64 f] 36 (0, 0)) := by rw [← HW.out]; exact heap_alloc_new w _
  have hzl := (Array.getElem?_eq_some_iff.1 hz).1
  have hkn : ¬ Fr g bn bd pv w.heap.size := fun e => by have := (sr_in h _ e).1; omega
  have CO : Hid (Calls _ _ _ _ _) := optsC a b c d e f W
  have hok : okO a b = true := decide_eq_true hopt
  rw [hok] at CO
  have CM : Hid (∀ w1, Below W.heap.size W w1 → Calls _ _ _ _ _) := fun w1 bb => kmakeYes sp (sr_later h (over bW bb)) hs hw0 hl
  have HZ : Hid (∀ w1, Kp (Fr g bn bd pv) W w1 → w1.cell? ⟨w.heap.size, 1, none⟩ = some (.int .i64 b) ∧ w.heap.size < w1.heap.size) := fun w1 k => by
    have e1 := (k.block _ hzl hkn).trans hz
    exact ⟨cell_of_row _ _ 1 _ _ _ e1, (Array.getElem?_eq_some_iff.1 e1).1⟩
  have z0 : W.cell? ⟨w.heap.size, 0, none⟩ = some (.int .i64 a) := cell_of_row _ _ 0 _ _ _ hz
  have z1 : W.cell? ⟨w.heap.size, 1, none⟩ = some (.int .i64 b) := cell_of_row _ _ 1 _ _ _ hz
  have z2 : W.cell? ⟨w.heap.size, 2, none⟩ = some (.int .i64 c) := cell_of_row _ _ 2 _ _ _ hz
  have z3 : W.cell? ⟨w.heap.size, 3, none⟩ = some (.int .i64 d) := cell_of_row _ _ 3 _ _ _ hz
  have z4 : W.cell? ⟨w.heap.size, 4, none⟩ = some (.int .i64 e) := cell_of_row _ _ 4 _ _ _ hz
  have z5 : W.cell? ⟨w.heap.size, 5, none⟩ = some (.int .i64 f) := cell_of_row _ _ 5 _ _ _ hz
  have HFIN : Hid (∀ w1 w2 o, Below W.heap.size W w1 → Rn 0 g bn bd pv (wipeS s sp).2 w1 w2 → Born (w2.heap.size + 1) g bn bd pv (wipeS s sp).2 ⟨sp, s.age, b, [], 0⟩ w ((w2.alloc o).alloc (.cells #[.pointer (some ⟨g, 0, none⟩), .int .i64 sp, .int .i64 s.age, .int .i64 b, .slice none 0 0, .int .i64 0] 141))) := fun w1 w2 o b1 r => by
    obtain ⟨p, h2, k2, n2⟩ := r
    have bx := over (new1 w2 o) (new1 (w2.alloc o) (.cells #[.pointer (some ⟨g, 0, none⟩), .int .i64 sp, .int .i64 s.age, .int .i64 b, .slice none 0 0, .int .i64 0] 141))
    have b0 := over bW b1
    refine ⟨p, .slice none 0 0, ⟨sr_later h2 bx, ?_, World.ownsRow_nil _ _ _ _, ⟨hs, hopt.2, by simp, fun x hx => by cases hx⟩⟩, ((Kp.of_below b0).trans k2).trans (Kp.of_below bx), ?_⟩
    · have := heap_alloc_new (w2.alloc o) (.cells #[.pointer (some ⟨g, 0, none⟩), .int .i64 sp, .int .i64 s.age, .int .i64 b, .slice none 0 0, .int .i64 0] 141)
      have e1 : (w2.alloc o).heap.size = w2.heap.size + 1 := by simp
      rw [e1] at this
      exact this
    · rintro j ((hj | hj | hj | hj) | hj | hj)
      · exact .inl (.inl hj)
      · exact .inl (.inr (.inl hj))
      · exact .inl (.inr (.inr (.inl hj)))
      · rcases n2 j hj with h3 | h3
        · exact .inl (.inr (.inr (.inr h3)))
        · exact .inr (Nat.le_trans b0.size h3)
      · right
        have := b0.size; have := k2.size
        omega
      · cases hj
  have HRK : Hid (∀ w1 w2, Below W.heap.size W w1 → Rn 0 g bn bd pv (wipeS s sp).2 w1 w2 → Kp (Fr g bn bd pv) W w2) := fun w1 w2 b1 r => by
    obtain ⟨p, h2, k2, n2⟩ := r
    exact (Kp.of_below b1).trans k2
  generalize (wipeS s sp).2 = s' at *
  generalize s.age = ag at *
  clear h hz hzl bW hkn hok hw0 hl hopt
  go_enter Tryz.func52, Tryz.ntmps52
  go_upto_region 1 with fail
  rw [HW.out]
  go_upto_region 3 with (first | (go_at_call 90; refine CO.out.mono ?_; rintro _ w1 ⟨rfl, b1⟩; have B1 : Hid (Below W.heap.size W w1) := b1; clear b1) | go_in)
  have C4 : Hid (Calls _ _ _ _ _) := CM.out w1 B1.out
  go_upto_region 6 with (first | (go_at_call 91; refine C4.out.mono ?_; rintro _ w2 ⟨rfl, r2⟩; have R2 : Hid (Rn 0 g bn bd pv s' w1 w2) := r2; clear r2) | go_in)
  obtain ⟨y1, yl⟩ := HZ.out w2 (HRK.out w1 w2 B1.out R2.out)
  have y2 : ∀ o, (w2.alloc o).cell? ⟨w.heap.size, 1, none⟩ = some (.int .i64 b) := fun o => (Kp.of_below (A := fun _ => False) (new1 w2 o)).cell y1 (fun e => e)
  have y3 := y2 (.cells #[.pointer (some ⟨g, 0, none⟩), .int .i64 sp, .int .i64 (ag : Int)] 137)
  have HF : Hid _ := HFIN.out w1 w2 (.cells #[.pointer (some ⟨g, 0, none⟩), .int .i64 sp, .int .i64 (ag : Int)] 137) B1.out R2.out
  clear y2
  go_wp2
  go_ret2
  exact ⟨_, rfl, HF.out⟩
end Go.Proofs.YtpcllegjnbeppaaGreat.ha

namespace Go.Proofs.YtpcllegjnbeppaaGreat.hb
open Go.RowKit Go.PlainAid Go.Maps Go.Shelf
open Go.Proofs.YtpcllegjnbeppaaGreat.kp Go.Proofs.YtpcllegjnbeppaaGreat.ka Go.Proofs.YtpcllegjnbeppaaGreat.ya Go.Proofs.YtpcllegjnbeppaaGreat.yb Go.Proofs.YtpcllegjnbeppaaGreat.yc Go.Proofs.YtpcllegjnbeppaaGreat.yd Go.Proofs.YtpcllegjnbeppaaGreat.ye Go.Proofs.YtpcllegjnbeppaaGreat.yf Go.Proofs.YtpcllegjnbeppaaGreat.yg Go.Proofs.YtpcllegjnbeppaaGreat.yi Go.Proofs.YtpcllegjnbeppaaGreat.yj Go.Proofs.YtpcllegjnbeppaaGreat.yk Go.Proofs.YtpcllegjnbeppaaGreat.yl Go.Proofs.YtpcllegjnbeppaaGreat.ym
open Go.Proofs.YtpcllegjnbeppaaGreat.tqa Go.Proofs.YtpcllegjnbeppaaGreat.tba Go.Proofs.YtpcllegjnbeppaaGreat.tbc Go.Proofs.YtpcllegjnbeppaaGreat.tbd Go.Proofs.YtpcllegjnbeppaaGreat.tbe
open Go.Proofs.YtpcllegjnbeppaaGreat.tbf (okI)
open Go.Proofs.YtpcllegjnbeppaaGreat.tqb (over)
open Go.Proofs.YtpcllegjnbeppaaGreat.ea Go.Proofs.YtpcllegjnbeppaaGreat.eb Go.Proofs.YtpcllegjnbeppaaGreat.ec Go.Proofs.YtpcllegjnbeppaaGreat.ed Go.Proofs.YtpcllegjnbeppaaGreat.ee Go.Proofs.YtpcllegjnbeppaaGreat.ef Go.Proofs.YtpcllegjnbeppaaGreat.eg Go.Proofs.YtpcllegjnbeppaaGreat.eh Go.Proofs.YtpcllegjnbeppaaGreat.ei Go.Proofs.YtpcllegjnbeppaaGreat.ej Go.Proofs.YtpcllegjnbeppaaGreat.ek Go.Proofs.YtpcllegjnbeppaaGreat.el Go.Proofs.YtpcllegjnbeppaaGreat.ha
open Go.Proofs.YtpcllegjnbeppaaGreat.cp (i64)
set_option linter.unusedVariables false
set_option linter.unusedSimpArgs false
theorem ov {B : Nat} {a b c : World} (x : Below B a b) (y : Below B b c) : Below B a c := ⟨y.os.trans x.os, y.tape.trans x.tape, y.output.trans x.output, Nat.le_trans x.size y.size, fun k hk => (y.block k hk).trans (x.block k hk)⟩
theorem dn {B n : Nat} {a b : World} (x : Below n a b) (h : B ≤ n) : Below B a b := ⟨x.os, x.tape, x.output, x.size, fun k hk => x.block k (by omega)⟩
-- things in memory: their state, the blocks that they lie in
structure Thg (σ : Type) where
  P : σ → (Nat → Prop) → World → Prop
  keep : ∀ {s F w w' A}, P s F w → Kp A w w' → (∀ k, F k → ¬ A k) → P s F w'
  lt : ∀ {s F w}, P s F w → ∀ k, F k → k < w.heap.size
def Turn (F F' : Nat → Prop) (w w' : World) : Prop := Kp F w w' ∧ ∀ k, F' k → F k ∨ w.heap.size ≤ k
theorem Turn.refl (F : Nat → Prop) (w : World) : Turn F F w w := ⟨Kp.refl _ _, fun k h => .inl h⟩
theorem Turn.of_below {F : Nat → Prop} {w w' : World} (h : Below w.heap.size w w') : Turn F F w w' := ⟨Kp.of_below h, fun k h => .inl h⟩
theorem Turn.trans {F F' F'' : Nat → Prop} {a b c : World} (x : Turn F F' a b) (y : Turn F' F'' b c) : Turn F F'' a c := by
  refine ⟨⟨y.1.os.trans x.1.os, y.1.tape.trans x.1.tape, y.1.output.trans x.1.output, Nat.le_trans x.1.size y.1.size, fun k hk hn => ?_⟩, fun k h => ?_⟩
  · refine (y.1.block k (Nat.lt_of_lt_of_le hk x.1.size) fun h => ?_).trans (x.1.block k hk hn)
    rcases x.2 k h with h | h
    · exact hn h
    · omega
  · rcases y.2 k h with h | h
    · exact x.2 k h
    · exact .inr (Nat.le_trans x.1.size h)
-- one thing, above B
def One {σ : Type} (O : Thg σ) (B : Nat) (s : σ) (w0 w : World) : Prop := ∃ F, O.P s F w ∧ (∀ k, F k → B ≤ k) ∧ Below B w0 w ∧ B ≤ w0.heap.size
-- two things beside each other, above B
def Two {σ τ : Type} (O : Thg σ) (U : Thg τ) (B : Nat) (s : σ) (t : τ) (w0 w : World) : Prop := ∃ F G, O.P s F w ∧ U.P t G w ∧ (∀ k, F k → ¬ G k) ∧ (∀ k, F k → B ≤ k) ∧ (∀ k, G k → B ≤ k) ∧ Below B w0 w ∧ B ≤ w0.heap.size
section
variable {σ τ : Type} {O : Thg σ} {U : Thg τ} {B : Nat} {s s' : σ} {t t' : τ} {w0 w w' : World}
theorem One.turn {F F' : Nat → Prop} (hF : ∀ k, F k → B ≤ k) (hb : Below B w0 w) (hB : B ≤ w0.heap.size) (h' : O.P s' F' w') (T : Turn F F' w w') : One O B s' w0 w' := by
  have hs : B ≤ w.heap.size := Nat.le_trans hB hb.size
  refine ⟨F', h', fun k hk => ?_, ov hb (T.1.below hF hs), hB⟩
  rcases T.2 k hk with h | h
  · exact hF k h
  · omega
theorem One.step (h : One O B s w0 w) {f : Nat} {args : Array Value} {r : Ending} (C : ∀ F, O.P s F w → Calls Tryz.prog f args w fun e w' => e = r ∧ ∃ F', O.P s' F' w' ∧ Turn F F' w w') : Calls Tryz.prog f args w fun e w' => e = r ∧ One O B s' w0 w' := by
  obtain ⟨F, h1, h2, h3, h4⟩ := h
  exact (C F h1).mono fun e w' ⟨g1, F', g2, g3⟩ => ⟨g1, One.turn h2 h3 h4 g2 g3⟩
theorem One.later (h : One O B s w0 w) (hb : Below w.heap.size w w') : One O B s w0 w' := by
  obtain ⟨F, h1, h2, h3, h4⟩ := h
  exact One.turn h2 h3 h4 (O.keep h1 (Kp.of_below (A := fun _ => False) hb) (fun _ _ e => e)) (Turn.of_below hb)
theorem Two.below (h : Two O U B s t w0 w) : Below B w0 w := h.choose_spec.choose_spec.2.2.2.2.2.1
theorem Two.fst (h : Two O U B s t w0 w) : ∃ F, O.P s F w ∧ ∀ s' F' w', O.P s' F' w' → Turn F F' w w' → Two O U B s' t w0 w' := by
  obtain ⟨F, G, h1, h2, h3, h4, h5, h6, h7⟩ := h
  have hs : B ≤ w.heap.size := Nat.le_trans h7 h6.size
  refine ⟨F, h1, fun s' F' w' g1 g2 => ⟨F', G, g1, U.keep h2 g2.1 (fun k hk hf => h3 k hf hk), fun k hk hg => ?_, fun k hk => ?_, h5, ov h6 (g2.1.below h4 hs), h7⟩⟩
  · rcases g2.2 k hk with h | h
    · exact h3 k h hg
    · have := U.lt h2 k hg
      omega
  · rcases g2.2 k hk with h | h
    · exact h4 k h
    · omega
theorem Two.swap (h : Two O U B s t w0 w) : Two U O B t s w0 w := by
  obtain ⟨F, G, h1, h2, h3, h4, h5, h6, h7⟩ := h
  exact ⟨G, F, h2, h1, fun k hk hg => h3 k hg hk, h5, h4, h6, h7⟩
theorem Two.step (h : Two O U B s t w0 w) {f : Nat} {args : Array Value} {r : Ending} (C : ∀ F, O.P s F w → Calls Tryz.prog f args w fun e w' => e = r ∧ ∃ F', O.P s' F' w' ∧ Turn F F' w w') : Calls Tryz.prog f args w fun e w' => e = r ∧ Two O U B s' t w0 w' := by
  obtain ⟨F, h1, h2⟩ := h.fst
  exact (C F h1).mono fun e w' ⟨g1, F', g2, g3⟩ => ⟨g1, h2 _ _ _ g2 g3⟩
theorem Two.step2 (h : Two O U B s t w0 w) {f : Nat} {args : Array Value} {r : Ending} (C : ∀ F, U.P t F w → Calls Tryz.prog f args w fun e w' => e = r ∧ ∃ F', U.P t' F' w' ∧ Turn F F' w w') : Calls Tryz.prog f args w fun e w' => e = r ∧ Two O U B s t' w0 w' :=
  (h.swap.step C).mono fun e w' ⟨g1, g2⟩ => ⟨g1, g2.swap⟩
theorem Two.later (h : Two O U B s t w0 w) (hb : Below w.heap.size w w') : Two O U B s t w0 w' := by
  obtain ⟨F, h1, h2⟩ := h.fst
  exact h2 _ _ _ (O.keep h1 (Kp.of_below (A := fun _ => False) hb) (fun _ _ e => e)) (Turn.of_below hb)
theorem One.two (h : One O B s w0 w) {G : Nat → Prop} (hu : U.P t G w') (hb : Below w.heap.size w w') (hG : ∀ k, G k → w.heap.size ≤ k) : Two O U B s t w0 w' := by
  obtain ⟨F, h1, h2, h3, h4⟩ := h
  have hs : B ≤ w.heap.size := Nat.le_trans h4 h3.size
  exact ⟨F, G, O.keep h1 (Kp.of_below (A := fun _ => False) hb) (fun _ _ e => e), hu, fun k hk hg => by have := O.lt h1 k hk; have := hG k hg; omega, h2, fun k hk => Nat.le_trans hs (hG k hk), ov h3 (dn hb hs), h4⟩
theorem Two.one (h : Two O U B s t w0 w) : One O B s w0 w := by
  obtain ⟨F, G, h1, h2, h3, h4, h5, h6, h7⟩ := h
  exact ⟨F, h1, h4, h6, h7⟩
end
-- two things as one
def pairO {σ τ : Type} (O : Thg σ) (U : Thg τ) : Thg (σ × τ) where
  P s F w := ∃ F1 F2, O.P s.1 F1 w ∧ U.P s.2 F2 w ∧ (∀ k, F1 k → ¬ F2 k) ∧ ∀ k, F k ↔ F1 k ∨ F2 k
  keep := by
    rintro s F w w' A ⟨F1, F2, h1, h2, h3, h4⟩ k hn
    exact ⟨F1, F2, O.keep h1 k (fun j hj => hn j ((h4 j).2 (.inl hj))), U.keep h2 k (fun j hj => hn j ((h4 j).2 (.inr hj))), h3, h4⟩
  lt := by
    rintro s F w ⟨F1, F2, h1, h2, h3, h4⟩ k hk
    rcases (h4 k).1 hk with h | h
    · exact O.lt h1 k h
    · exact U.lt h2 k h
section
variable {σ τ : Type} {O : Thg σ} {U : Thg τ} {s s' : σ} {t t' : τ} {w w' : World}
theorem pair_fst {F : Nat → Prop} (h : (pairO O U).P (s, t) F w) : ∃ F1, O.P s F1 w ∧ ∀ s' F1' w', O.P s' F1' w' → Turn F1 F1' w w' → ∃ F', (pairO O U).P (s', t) F' w' ∧ Turn F F' w w' := by
  obtain ⟨F1, F2, h1, h2, h3, h4⟩ := h
  refine ⟨F1, h1, fun s' F1' w' g1 g2 => ⟨fun k => F1' k ∨ F2 k, ⟨F1', F2, g1, U.keep h2 g2.1 (fun k hk hf => h3 k hf hk), fun k hk hf => ?_, fun k => Iff.rfl⟩, g2.1.mono (fun k hk => (h4 k).2 (.inl hk)), fun k hk => ?_⟩⟩
  · rcases g2.2 k hk with h | h
    · exact h3 k h hf
    · have := U.lt h2 k hf
      omega
  · rcases hk with hk | hk
    · rcases g2.2 k hk with h | h
      · exact .inl ((h4 k).2 (.inl h))
      · exact .inr h
    · exact .inl ((h4 k).2 (.inr hk))
theorem pair_snd {F : Nat → Prop} (h : (pairO O U).P (s, t) F w) : ∃ F1, U.P t F1 w ∧ ∀ t' F1' w', U.P t' F1' w' → Turn F1 F1' w w' → ∃ F', (pairO O U).P (s, t') F' w' ∧ Turn F F' w w' := by
  obtain ⟨F1, F2, h1, h2, h3, h4⟩ := h
  refine ⟨F2, h2, fun s' F2' w' g1 g2 => ⟨fun k => F1 k ∨ F2' k, ⟨F1, F2', O.keep h1 g2.1 (fun k hk hf => h3 k hk hf), g1, fun k hk hf => ?_, fun k => Iff.rfl⟩, g2.1.mono (fun k hk => (h4 k).2 (.inr hk)), fun k hk => ?_⟩⟩
  · rcases g2.2 k hf with h | h
    · exact h3 k hk h
    · have := O.lt h1 k hk
      omega
  · rcases hk with hk | hk
    · exact .inl ((h4 k).2 (.inl hk))
    · rcases g2.2 k hk with h | h
      · exact .inl ((h4 k).2 (.inr h))
      · exact .inr h
theorem lift1 {f : Nat} {args : Array Value} {r : Ending} (C : ∀ F, O.P s F w → Calls Tryz.prog f args w fun e w' => e = r ∧ ∃ F', O.P s' F' w' ∧ Turn F F' w w') :
    ∀ F, (pairO O U).P (s, t) F w → Calls Tryz.prog f args w fun e w' => e = r ∧ ∃ F', (pairO O U).P (s', t) F' w' ∧ Turn F F' w w' := fun F h => by
  obtain ⟨F1, h1, h2⟩ := pair_fst h
  exact (C F1 h1).mono fun e w' ⟨g1, F', g2, g3⟩ => ⟨g1, h2 _ _ _ g2 g3⟩
theorem lift2 {f : Nat} {args : Array Value} {r : Ending} (C : ∀ F, U.P t F w → Calls Tryz.prog f args w fun e w' => e = r ∧ ∃ F', U.P t' F' w' ∧ Turn F F' w w') :
    ∀ F, (pairO O U).P (s, t) F w → Calls Tryz.prog f args w fun e w' => e = r ∧ ∃ F', (pairO O U).P (s, t') F' w' ∧ Turn F F' w w' := fun F h => by
  obtain ⟨F1, h1, h2⟩ := pair_snd h
  exact (C F1 h1).mono fun e w' ⟨g1, F', g2, g3⟩ => ⟨g1, h2 _ _ _ g2 g3⟩
theorem One.put {B : Nat} {w0 : World} (h : One O B s w0 w) {G : Nat → Prop} (hu : U.P t G w') (hb : Below w.heap.size w w') (hG : ∀ k, G k → w.heap.size ≤ k) : One (pairO O U) B (s, t) w0 w' := by
  obtain ⟨F, h1, h2, h3, h4⟩ := h
  have hs : B ≤ w.heap.size := Nat.le_trans h4 h3.size
  refine ⟨fun k => F k ∨ G k, ⟨F, G, O.keep h1 (Kp.of_below (A := fun _ => False) hb) (fun _ _ e => e), hu, fun k hk hg => ?_, fun k => Iff.rfl⟩, fun k hk => ?_, ov h3 (dn hb hs), h4⟩
  · have := O.lt h1 k hk
    have := hG k hg
    omega
  · rcases hk with hk | hk
    · exact h2 k hk
    · exact Nat.le_trans hs (hG k hk)
theorem One.born {B : Nat} (hB : B ≤ w.heap.size) {G : Nat → Prop} (hu : O.P s G w') (hb : Below w.heap.size w w') (hG : ∀ k, G k → w.heap.size ≤ k) : One O B s w w' :=
  ⟨G, hu, fun k hk => Nat.le_trans hB (hG k hk), dn hb hB, hB⟩
theorem One.below {B : Nat} {w0 : World} (h : One O B s w0 w) : Below B w0 w := h.choose_spec.2.2.1
theorem One.fst {B : Nat} {w0 : World} (h : One (pairO O U) B (s, t) w0 w) : One O B s w0 w := by
  obtain ⟨F, ⟨F1, F2, h1, h2, h3, h4⟩, h5, h6, h7⟩ := h
  exact ⟨F1, h1, fun k hk => h5 k ((h4 k).2 (.inl hk)), h6, h7⟩
theorem One.snd {B : Nat} {w0 : World} (h : One (pairO O U) B (s, t) w0 w) : One U B t w0 w := by
  obtain ⟨F, ⟨F1, F2, h1, h2, h3, h4⟩, h5, h6, h7⟩ := h
  exact ⟨F2, h2, fun k hk => h5 k ((h4 k).2 (.inr hk)), h6, h7⟩
theorem One.get {B : Nat} {w0 : World} (h : One O B s w0 w) : ∃ F, O.P s F w := ⟨_, h.choose_spec.1⟩
theorem One.hb {B : Nat} {w0 : World} (h : One O B s w0 w) : B ≤ w.heap.size := Nat.le_trans h.choose_spec.2.2.2 (One.below h).size
end
-- lists as things
structure Rdr (α : Type) where
  R : World → Value → List α → Prop
  keep : ∀ {w w' v l A}, R w v l → Kp A w w' → (∀ k, v.ownBlock = some k → l ≠ [] → ¬ A k) → R w' v l
def RowO {α : Type} (r : Rdr α) : Thg (Value × List α) where
  P s F w := r.R w s.1 s.2 ∧ (∀ k, s.1.ownBlock = some k → s.2 ≠ [] → F k) ∧ ∀ k, F k → k < w.heap.size
  keep := by
    rintro s F w w' A ⟨h1, h2, h3⟩ k hn
    exact ⟨r.keep h1 k (fun j hj hl => hn j (h2 j hj hl)), h2, fun j hj => Nat.lt_of_lt_of_le (h3 j hj) k.size⟩
  lt := fun ⟨h1, h2, h3⟩ k hk => h3 k hk
def rdT : Rdr ByteArray where
  R := ReadsT
  keep := by
    rintro w w' v l A ⟨a, cap, rfl, hc, h0 | ⟨b, off, rfl, hh⟩⟩ k hn
    · exact ⟨a, cap, rfl, hc, .inl h0⟩
    · refine ⟨_, cap, rfl, hc, .inr ⟨b, off, rfl, fun i hi => k.cell (hh i hi) (hn b rfl ?_)⟩⟩
      rintro rfl
      cases hi
theorem row_new {α : Type} {r : Rdr α} {w w' : World} {v : Value} {l : List α} (h : r.R w' v l) (ho : ∀ k, v.ownBlock = some k → w.heap.size ≤ k ∧ k < w'.heap.size) : (RowO r).P (v, l) (fun k => v.ownBlock = some k) w' ∧ ∀ k, v.ownBlock = some k → w.heap.size ≤ k :=
  ⟨⟨h, fun k hk _ => hk, fun k hk => (ho k hk).2⟩, fun k hk => (ho k hk).1⟩

-- an engine as such a thing
def EnO (ge g bn bd : Nat) : Thg (S × E) where
  P se F w := ∃ pv lv, En ge g bn bd pv lv se.1 se.2 w ∧ ∀ k, F k ↔ Ef ge g bn bd pv lv k
  keep := by
    rintro se F w w' A ⟨pv, lv, h1, h2⟩ k hn
    exact ⟨pv, lv, h1.keep k (fun j hj => hn j ((h2 j).2 hj)), h2⟩
  lt := by
    rintro se F w ⟨pv, lv, h1, h2⟩ k hk
    exact h1.lt k ((h2 k).1 hk)
theorem re_turn {ge g bn bd : Nat} {pv lv : Value} {s : S} {e : E} {F : Nat → Prop} {w w' : World} (h2 : ∀ k, F k ↔ Ef ge g bn bd pv lv k) (r : Re ge g bn bd pv lv s e w w') : ∃ F', (EnO ge g bn bd).P (s, e) F' w' ∧ Turn F F' w w' := by
  obtain ⟨p, l, h, k, n⟩ := r
  exact ⟨Ef ge g bn bd p l, ⟨p, l, h, fun k => Iff.rfl⟩, k.mono (fun j hj => (h2 j).2 hj), fun j hj => (n j hj).imp (fun x => (h2 j).2 x) id⟩
section
variable {ge g bn bd : Nat} {s : S} {e : E} {F : Nat → Prop} {w : World}
theorem oUsed (h : (EnO ge g bn bd).P (s, e) F w) : Calls Tryz.prog 9 #[.pointer (some ⟨g, 0, none⟩)] w fun r w' => r = .returned (.int .i64 (tot (now s) : Nat)) ∧ w' = w := by
  obtain ⟨pv, lv, h1, h2⟩ := h
  exact usedC h1.st.row
theorem rn_turn {s' : S} {pv lv : Value} (h : En ge g bn bd pv lv s e w) (h2 : ∀ k, F k ↔ Ef ge g bn bd pv lv k) {w' : World} (r : Rn 0 g bn bd pv s' w w') : ∃ F', (EnO ge g bn bd).P (s', e) F' w' ∧ Turn F F' w w' := re_turn h2 (h.rn r)
theorem oSync (h : (EnO ge g bn bd).P (s, e) F w) : Calls Tryz.prog 19 #[.pointer (some ⟨g, 0, none⟩)] w fun r w' => r = .returned (.int .i64 (syncS s).1) ∧ ∃ F', (EnO ge g bn bd).P ((syncS s).2, e) F' w' ∧ Turn F F' w w' := by
  obtain ⟨pv, lv, h1, h2⟩ := h
  exact (syncC h1.st (Nat.zero_le _)).mono fun r w' ⟨g1, g2⟩ => ⟨g1, rn_turn h1 h2 g2⟩
theorem oOk (h : (EnO ge g bn bd).P (s, e) F w) : OkS s ∧ OkE e := by
  obtain ⟨pv, lv, h1, h2⟩ := h
  exact ⟨h1.st.ok, h1.ok⟩
end
-- an engine that has just been made
theorem born_one {ge g bn bd B : Nat} {pv : Value} {s : S} {e : E} {w0 w w' : World} (hs : ∀ k, Fr g bn bd pv k → B ≤ k) (hb : Below B w0 w) (hB : B ≤ w0.heap.size) (h : Born ge g bn bd pv s e w w') : One (EnO ge g bn bd) B (s, e) w0 w' := by
  obtain ⟨p, l, h1, k, n⟩ := h
  have hsz : B ≤ w.heap.size := Nat.le_trans hB hb.size
  refine ⟨Ef ge g bn bd p l, ⟨p, l, h1, fun k => Iff.rfl⟩, fun j hj => ?_, ov hb (k.below hs hsz), hB⟩
  rcases n j hj with h2 | h2
  · exact hs j h2
  · omega
theorem One.bs {σ : Type} {O : Thg σ} {B : Nat} {s : σ} {w0 w : World} (h : One O B s w0 w) : ∃ F, O.P s F w ∧ ∀ k, F k → B ≤ k := ⟨_, h.choose_spec.1, h.choose_spec.2.1⟩
end Go.Proofs.YtpcllegjnbeppaaGreat.hb

namespace Go.Proofs.YtpcllegjnbeppaaGreat.hc
open Go.RowKit Go.PlainAid Go.Maps Go.Shelf
open Go.Proofs.YtpcllegjnbeppaaGreat.kp Go.Proofs.YtpcllegjnbeppaaGreat.ka Go.Proofs.YtpcllegjnbeppaaGreat.ya Go.Proofs.YtpcllegjnbeppaaGreat.yb Go.Proofs.YtpcllegjnbeppaaGreat.yc Go.Proofs.YtpcllegjnbeppaaGreat.yd Go.Proofs.YtpcllegjnbeppaaGreat.ye Go.Proofs.YtpcllegjnbeppaaGreat.yf Go.Proofs.YtpcllegjnbeppaaGreat.yg Go.Proofs.YtpcllegjnbeppaaGreat.yi Go.Proofs.YtpcllegjnbeppaaGreat.yj Go.Proofs.YtpcllegjnbeppaaGreat.yk Go.Proofs.YtpcllegjnbeppaaGreat.yl Go.Proofs.YtpcllegjnbeppaaGreat.ym
open Go.Proofs.YtpcllegjnbeppaaGreat.tqa Go.Proofs.YtpcllegjnbeppaaGreat.tba Go.Proofs.YtpcllegjnbeppaaGreat.tbc Go.Proofs.YtpcllegjnbeppaaGreat.tbd Go.Proofs.YtpcllegjnbeppaaGreat.tbe
open Go.Proofs.YtpcllegjnbeppaaGreat.tbf (okI)
open Go.Proofs.YtpcllegjnbeppaaGreat.tqb (over)
open Go.Proofs.YtpcllegjnbeppaaGreat.ea Go.Proofs.YtpcllegjnbeppaaGreat.eb Go.Proofs.YtpcllegjnbeppaaGreat.ec Go.Proofs.YtpcllegjnbeppaaGreat.ed Go.Proofs.YtpcllegjnbeppaaGreat.ee Go.Proofs.YtpcllegjnbeppaaGreat.ef Go.Proofs.YtpcllegjnbeppaaGreat.eg Go.Proofs.YtpcllegjnbeppaaGreat.eh Go.Proofs.YtpcllegjnbeppaaGreat.ei Go.Proofs.YtpcllegjnbeppaaGreat.ej Go.Proofs.YtpcllegjnbeppaaGreat.ek Go.Proofs.YtpcllegjnbeppaaGreat.el Go.Proofs.YtpcllegjnbeppaaGreat.ha Go.Proofs.YtpcllegjnbeppaaGreat.hb
open Go.Proofs.YtpcllegjnbeppaaGreat.cp (i64)
set_option linter.unusedVariables false
set_option linter.unusedSimpArgs false
section
variable {ge g bn bd B : Nat} {s : S} {e : E} {w0 w w' : World}
theorem oneSync (h : One (EnO ge g bn bd) B (s, e) w0 w) : Calls Tryz.prog 19 #[.pointer (some ⟨g, 0, none⟩)] w fun r w' => r = .returned (.int .i64 (syncS s).1) ∧ One (EnO ge g bn bd) B ((syncS s).2, e) w0 w' := by
  obtain ⟨F, h1, h2, h3, h4⟩ := h
  refine (oSync h1).mono ?_
  rintro r w'' ⟨g1, F', g2, g3⟩
  exact ⟨g1, One.turn h2 h3 h4 g2 g3⟩
theorem oneUsed (h : One (EnO ge g bn bd) B (s, e) w0 w) : Calls Tryz.prog 9 #[.pointer (some ⟨g, 0, none⟩)] w fun r w' => r = .returned (.int .i64 (tot (now s) : Nat)) ∧ w' = w := by
  obtain ⟨F, h1, h2, h3, h4⟩ := h
  exact oUsed h1
end
theorem wipe_new {c sp : Int} (hs : okI sp) (ag : Nat) : wipeS ⟨c, [], [], 0, false, ag⟩ sp = ((0, 0), ⟨c, [], [], 0, false, ag⟩) := by
  unfold wipeS
  rw [if_neg (by have := hs.1; omega)]
  have hk : keysS ⟨c, [], [], 0, false, ag⟩ (Go.Proofs.YtpcllegjnbeppaaGreat.tqb.spaceT sp) = [] := rfl
  simp only [Bool.false_eq_true, if_false]
  rw [hk]
  rfl
-- a new store and an engine in it
theorem newEngine {g bn bd : Nat} {c sp wd : Int} {w w1 : World} (hs : okI sp) (hwd : 1 ≤ wd ∧ wd ≤ 32) (h : Sr w.heap.size g bn bd (.slice none 0 0) ⟨c, [], [], 0, false, 0⟩ w1) (b1 : Below w.heap.size w w1) {w2 : World} (b2 : Below w1.heap.size w1 w2) :
    Calls Tryz.prog 52 #[.pointer (some ⟨g, 0, none⟩), .agg #[.int .i64 1, .int .i64 wd, .int .i64 0, .int .i64 0, .int .i64 0, .int .i64 0], .int .i64 sp] w2 fun r w' => ∃ ge, r = .returned (.tuple #[.pointer (some ⟨ge, 0, none⟩), .int .i64 0]) ∧ One (EnO ge g bn bd) w.heap.size (⟨c, [], [], 0, false, 0⟩, ⟨sp, 0, wd, [], 0⟩) w w' := by
  have h2 := sr_later h b2
  have hw := wipe_new (c := c) hs 0
  have C := MakeYes 1 wd 0 0 0 0 sp (sr_zero h2) hs ⟨rfl, hwd⟩ (by rw [hw]) (by simp)
  rw [hw] at C
  refine C.mono ?_
  rintro r w' ⟨ge, rfl, hB⟩
  exact ⟨ge, rfl, born_one (fun k hk => (sr_in h2 k hk).2) (over b1 b2) (Nat.le_refl _) hB⟩
def tA : ByteArray := ⟨#[97]⟩
def tB : ByteArray := ⟨#[98]⟩
def s00 : S := ⟨1000, [], [], 0, false, 0⟩
def e00 : E := ⟨1, 0, 32, [], 0⟩
theorem app_begun : ∃ s1, appS s00 e00 [tA, tB] = (0, s1, ⟨1, 0, 32, [tA, tB], 0⟩) ∧ gone s1 ⟨1, 0, 32, [tA, tB], 0⟩ = false := by
  have ho : Ow s00 e00.sp [] [] := Ow.new ⟨by decide, by decide⟩ (by decide) (by decide) 0
  rcases ho.app (ys := [tA, tB]) rfl rfl with ⟨h, _⟩ | ⟨_, h, _⟩ | ⟨_, _, _, s', h1, h2, h3, h4, h5, _⟩ | ⟨_, h, _⟩
  · exact absurd (by decide) h
  · exact absurd h (by decide)
  · refine ⟨s', h1, ?_⟩
    unfold gone
    rw [h4, h5]; rfl
  · exact absurd h (by decide)
theorem reads_new (w : World) (xs : List ByteArray) (m : Nat) (hm : xs.length = m) : ReadsT (w.alloc (.cells (xs.map Value.string).toArray 9)) (.slice (some ⟨w.heap.size, 0, none⟩) m m) xs := by
  refine ⟨_, m, by rw [hm], by omega, .inr ⟨w.heap.size, 0, rfl, fun i hi => ?_⟩⟩
  rw [Nat.zero_add, cell_of_row _ _ i _ _ _ (heap_alloc_new w _)]
  rw [List.getD, List.getElem?_eq_getElem hi]
  simp [hi]
end Go.Proofs.YtpcllegjnbeppaaGreat.hc

namespace Go.Proofs.YtpcllegjnbeppaaGreat.hd
open Go.RowKit Go.PlainAid Go.Maps Go.Shelf
open Go.Proofs.YtpcllegjnbeppaaGreat.kp Go.Proofs.YtpcllegjnbeppaaGreat.ka Go.Proofs.YtpcllegjnbeppaaGreat.ya Go.Proofs.YtpcllegjnbeppaaGreat.yb Go.Proofs.YtpcllegjnbeppaaGreat.yc Go.Proofs.YtpcllegjnbeppaaGreat.yd Go.Proofs.YtpcllegjnbeppaaGreat.ye Go.Proofs.YtpcllegjnbeppaaGreat.yf Go.Proofs.YtpcllegjnbeppaaGreat.yg Go.Proofs.YtpcllegjnbeppaaGreat.yi Go.Proofs.YtpcllegjnbeppaaGreat.yj Go.Proofs.YtpcllegjnbeppaaGreat.yk Go.Proofs.YtpcllegjnbeppaaGreat.yl Go.Proofs.YtpcllegjnbeppaaGreat.ym
open Go.Proofs.YtpcllegjnbeppaaGreat.tqa Go.Proofs.YtpcllegjnbeppaaGreat.tba Go.Proofs.YtpcllegjnbeppaaGreat.tbc Go.Proofs.YtpcllegjnbeppaaGreat.tbd Go.Proofs.YtpcllegjnbeppaaGreat.tbe
open Go.Proofs.YtpcllegjnbeppaaGreat.tbf (okI)
open Go.Proofs.YtpcllegjnbeppaaGreat.tqb (over)
open Go.Proofs.YtpcllegjnbeppaaGreat.ea Go.Proofs.YtpcllegjnbeppaaGreat.eb Go.Proofs.YtpcllegjnbeppaaGreat.ec Go.Proofs.YtpcllegjnbeppaaGreat.ed Go.Proofs.YtpcllegjnbeppaaGreat.ee Go.Proofs.YtpcllegjnbeppaaGreat.ef Go.Proofs.YtpcllegjnbeppaaGreat.eg Go.Proofs.YtpcllegjnbeppaaGreat.eh Go.Proofs.YtpcllegjnbeppaaGreat.ei Go.Proofs.YtpcllegjnbeppaaGreat.ej Go.Proofs.YtpcllegjnbeppaaGreat.ek Go.Proofs.YtpcllegjnbeppaaGreat.el Go.Proofs.YtpcllegjnbeppaaGreat.ha Go.Proofs.YtpcllegjnbeppaaGreat.hb Go.Proofs.YtpcllegjnbeppaaGreat.hc
open Go.Proofs.YtpcllegjnbeppaaGreat.cp (i64)
set_option linter.unusedVariables false
set_option linter.unusedSimpArgs false
-- a block that stays as it is
def BlkO (q : Nat) : Thg Obj where
  P o F w := w.heap[q]? = some o ∧ ∀ k, F k ↔ k = q
  keep := by
    rintro o F w w' A ⟨h1, h2⟩ k hn
    exact ⟨(k.block q (Array.getElem?_eq_some_iff.1 h1).1 (hn q ((h2 q).2 rfl))).trans h1, h2⟩
  lt := by
    rintro o F w ⟨h1, h2⟩ k hk
    rw [(h2 k).1 hk]
    exact (Array.getElem?_eq_some_iff.1 h1).1
section
variable {τ : Type} {U : Thg τ} {ge g bn bd B : Nat} {s : S} {e : E} {t : τ} {w0 w : World}
theorem pStep {se' : S × E} {f : Nat} {args : Array Value} {r : Ending} (h : One (pairO (EnO ge g bn bd) U) B ((s, e), t) w0 w) (C : ∀ F, (EnO ge g bn bd).P (s, e) F w → (∀ k, F k → B ≤ k) → Calls Tryz.prog f args w fun e w' => e = r ∧ ∃ F', (EnO ge g bn bd).P se' F' w' ∧ Turn F F' w w') :
    Calls Tryz.prog f args w fun e w' => e = r ∧ One (pairO (EnO ge g bn bd) U) B (se', t) w0 w' := by
  obtain ⟨F, h1, h2, h3, h4⟩ := h
  have hF := h1
  obtain ⟨F1, F2, _, _, _, hor⟩ := hF
  obtain ⟨G1, hE, hK⟩ := pair_fst h1
  have hG : ∀ k, G1 k → B ≤ k := by
    intro k hk
    obtain ⟨F', _, hT⟩ := hK (s, e) G1 w hE (Turn.refl _ _)
    obtain ⟨G2, G3, a1, a2, a3, a4⟩ := h1
    have : ∃ F', (pairO (EnO ge g bn bd) U).P ((s, e), t) F' w := ⟨_, ⟨G2, G3, a1, a2, a3, a4⟩⟩
    have he1 := hE
    obtain ⟨p1, l1, b1, c1⟩ := hE
    obtain ⟨p2, l2, b2, c2⟩ := a1
    have e1 : p1 = p2 := by have a := b1.st.row.c2; have b := b2.st.row.c2; rw [a] at b; exact Option.some.inj b
    have e2 : l1 = l2 := by have a := b1.c4; have b := b2.c4; rw [a] at b; exact Option.some.inj b
    subst e1 e2
    exact h2 k ((a4 k).2 (.inl ((c2 k).2 ((c1 k).1 hk))))
  refine (C G1 hE hG).mono ?_
  rintro x w' ⟨g1, F', g2, g3⟩
  obtain ⟨H, k1, k2⟩ := hK se' F' w' g2 g3
  exact ⟨g1, One.turn h2 h3 h4 k1 k2⟩
theorem pSync (h : One (pairO (EnO ge g bn bd) U) B ((s, e), t) w0 w) : Calls Tryz.prog 19 #[.pointer (some ⟨g, 0, none⟩)] w fun r w' => r = .returned (.int .i64 (syncS s).1) ∧ One (pairO (EnO ge g bn bd) U) B (((syncS s).2, e), t) w0 w' :=
  pStep h (fun F hF hb => oSync hF)
theorem pUsed (h : One (pairO (EnO ge g bn bd) U) B ((s, e), t) w0 w) : Calls Tryz.prog 9 #[.pointer (some ⟨g, 0, none⟩)] w fun r w' => r = .returned (.int .i64 (tot (now s) : Nat)) ∧ w' = w := oneUsed (One.fst h)
theorem pBlk {q : Nat} {o : Obj} (h : One (pairO (EnO ge g bn bd) (BlkO q)) B ((s, e), o) w0 w) : w.heap[q]? = some o := by
  obtain ⟨F, hP⟩ := One.get (One.snd h)
  exact hP.1
end
end Go.Proofs.YtpcllegjnbeppaaGreat.hd

namespace Go.Proofs.YtpcllegjnbeppaaGreat.he
open Go.RowKit Go.PlainAid Go.Maps Go.Shelf
open Go.Proofs.YtpcllegjnbeppaaGreat.kp Go.Proofs.YtpcllegjnbeppaaGreat.ka Go.Proofs.YtpcllegjnbeppaaGreat.ya Go.Proofs.YtpcllegjnbeppaaGreat.yb Go.Proofs.YtpcllegjnbeppaaGreat.yc Go.Proofs.YtpcllegjnbeppaaGreat.yd Go.Proofs.YtpcllegjnbeppaaGreat.ye Go.Proofs.YtpcllegjnbeppaaGreat.yf Go.Proofs.YtpcllegjnbeppaaGreat.yg Go.Proofs.YtpcllegjnbeppaaGreat.yi Go.Proofs.YtpcllegjnbeppaaGreat.yj Go.Proofs.YtpcllegjnbeppaaGreat.yk Go.Proofs.YtpcllegjnbeppaaGreat.yl Go.Proofs.YtpcllegjnbeppaaGreat.ym
open Go.Proofs.YtpcllegjnbeppaaGreat.tqa Go.Proofs.YtpcllegjnbeppaaGreat.tba Go.Proofs.YtpcllegjnbeppaaGreat.tbc Go.Proofs.YtpcllegjnbeppaaGreat.tbd Go.Proofs.YtpcllegjnbeppaaGreat.tbe
open Go.Proofs.YtpcllegjnbeppaaGreat.tbf (okI)
open Go.Proofs.YtpcllegjnbeppaaGreat.tqb (over)
open Go.Proofs.YtpcllegjnbeppaaGreat.ea Go.Proofs.YtpcllegjnbeppaaGreat.eb Go.Proofs.YtpcllegjnbeppaaGreat.ec Go.Proofs.YtpcllegjnbeppaaGreat.ed Go.Proofs.YtpcllegjnbeppaaGreat.ee Go.Proofs.YtpcllegjnbeppaaGreat.ef Go.Proofs.YtpcllegjnbeppaaGreat.eg Go.Proofs.YtpcllegjnbeppaaGreat.eh Go.Proofs.YtpcllegjnbeppaaGreat.ei Go.Proofs.YtpcllegjnbeppaaGreat.ej Go.Proofs.YtpcllegjnbeppaaGreat.ek Go.Proofs.YtpcllegjnbeppaaGreat.el Go.Proofs.YtpcllegjnbeppaaGreat.ha Go.Proofs.YtpcllegjnbeppaaGreat.hb Go.Proofs.YtpcllegjnbeppaaGreat.hc Go.Proofs.YtpcllegjnbeppaaGreat.hd
set_option linter.unusedVariables false
set_option linter.unusedSimpArgs false
-- what the law wants of an Append
def wantE (ls : List ByteArray) (room : Int) : Int := if ls.length = 0 then 82 else if 1024 < ls.length then 83 else if big ls then 121 else if room < wgt (enm 0 ls) then 122 else 0
theorem wgt_enm (n m : Nat) (xs : List ByteArray) : wgt (enm n xs) = wgt (enm m xs) := by
  induction xs generalizing n m with
  | nil => rfl
  | cons x xs ih => simp only [enm, wgt]; rw [ih (n + 1) (m + 1)]
structure Go (s : S) (e : E) (c : Int) (xs : List ByteArray) : Prop where
  ow : Ow s e.sp [] xs
  l : e.l = xs
  g : gone s e = false
  a : s.armed = 0
  c : s.cap = c
theorem Go.lens {s : S} {e : E} {c : Int} {xs : List ByteArray} (h : Go s e c xs) : s.dur.length + s.pend.length + 1024 < 3518437208883 ∧ e.l.length + 1024 ≤ 1099511627776 := by
  have h1 := h.ow.len
  have h2 : s.dur.length + s.pend.length = xs.length := by
    rw [h.ow.dur, h.ow.pend]
    simp [prs, enm_len, enm]
  rw [h2, h.l]
  simp only [List.nil_append] at h1
  omega
theorem Go.step {s : S} {e : E} {c : Int} {xs ys : List ByteArray} (h : Go s e c xs) : (appS s e ys).1 = wantE ys (c - wgt (enm 0 xs)) ∧ ((appS s e ys).1 = 0 → Go (appS s e ys).2.1 (appS s e ys).2.2 c (xs ++ ys)) ∧ ((appS s e ys).1 ≠ 0 → Go (appS s e ys).2.1 (appS s e ys).2.2 c xs) := by
  have hl := h.ow.len
  have hlc := h.lens
  have hw : wgt (enm 0 ([] ++ xs ++ ys)) = wgt (enm 0 xs) + wgt (enm 0 ys) := by
    rw [List.nil_append, enm_app, wgt_app, wgt_enm (0 + xs.length) 0]
  have hbw : batchE ys ([] ++ xs).length ≠ 10 := by
    intro hb
    unfold batchE at hb
    simp only [List.nil_append] at hb hl
    split at hb
    · cases hb
    · split at hb
      · cases hb
      · split at hb
        · cases hb
        · split at hb
          · rename_i h1 h2 h3 h4; omega
          · cases hb
  rcases h.ow.app (ys := ys) h.l h.g with ⟨hb, he⟩ | ⟨hb, hf, he⟩ | ⟨hb, hf, _, s', he, h2, h3, h4, h5, h6⟩ | ⟨_, h1, _⟩
  · rw [he]
    refine ⟨?_, fun h0 => absurd h0 hb, fun _ => h⟩
    show batchE ys ([] ++ xs).length = _
    unfold batchE at hb hbw ⊢
    unfold wantE
    split
    · rfl
    · rename_i h1
      rw [if_neg h1] at hb hbw
      split
      · rfl
      · rename_i h2
        rw [if_neg h2] at hb hbw
        split
        · rfl
        · rename_i h3
          rw [if_neg h3] at hb hbw
          split
          · rename_i h4; rw [if_pos h4] at hbw; exact absurd rfl hbw
          · rename_i h4; rw [if_neg h4] at hb; exact absurd rfl hb
  · rw [he]
    refine ⟨?_, (fun h0 => by cases h0), fun _ => h⟩
    obtain ⟨b1, b2, b3, b4⟩ := batch_ok hb
    have hbig : big ys = false := by
      unfold big
      rw [List.any_eq_false]
      intro x hx
      have := b3 x hx
      simp; omega
    unfold wantE
    rw [if_neg b1, if_neg (by omega), hbig, if_neg (by simp), if_pos (by rw [hw] at hf; have := h.c; omega)]
  · rw [he]
    obtain ⟨b1, b2, b3, b4⟩ := batch_ok hb
    have hbig : big ys = false := by
      unfold big
      rw [List.any_eq_false]
      intro x hx
      have := b3 x hx
      simp; omega
    refine ⟨?_, fun _ => ⟨h2, by show e.l ++ ys = _; rw [h.l], ?_, by rw [h6, h.a]; simp, h3.trans h.c⟩, fun h0 => absurd rfl h0⟩
    · unfold wantE
      rw [if_neg b1, if_neg (by omega), hbig, if_neg (by simp), if_neg (by rw [hw] at hf; have := h.c; omega)]
    · have := h.g
      unfold gone at this ⊢
      rw [h4, h5]
      have := (Bool.or_eq_false_iff.1 this).2
      simpa using this
  · rw [h.a] at h1; omega
theorem Go.tot {s : S} {e : E} {c : Int} {xs : List ByteArray} (h : Go s e c xs) : ya.tot (ye.now s) = wgt (enm 0 xs) := by
  have := h.ow.tot
  simpa using this
theorem Go.new {c sp wd : Int} (hs : okI sp) (hc : 0 ≤ c ∧ c ≤ 1073741824) : Go ⟨c, [], [], 0, false, 0⟩ ⟨sp, 0, wd, [], 0⟩ c [] := ⟨Ow.new hs hc.1 hc.2 0, rfl, rfl, rfl, rfl⟩
theorem big_take {ls : List ByteArray} {k : Nat} {x : ByteArray} (h : ls[k]? = some x) : big (ls.take (k + 1)) = (big (ls.take k) || decide (4096 < x.size)) := by
  rw [List.take_add_one, h]
  unfold big
  simp
theorem wgt_take {ls : List ByteArray} {k : Nat} {x : ByteArray} (h : ls[k]? = some x) : wgt (enm 0 (ls.take (k + 1))) = wgt (enm 0 (ls.take k)) + (52 + x.size) := by
  rw [List.take_add_one, h, enm_app, wgt_app]
  simp [enm, wgt]
theorem wgt_small {ls : List ByteArray} (K k : Nat) (h : ∀ x ∈ ls, 52 + x.size ≤ K) : wgt (enm 0 (ls.take k)) ≤ k * K := by
  induction k with
  | zero => simp [enm, wgt]
  | succ k ih =>
    have e : (k + 1) * K = k * K + K := Nat.succ_mul k K
    cases hx : ls[k]? with
    | none =>
      have : ls.take (k + 1) = ls.take k := by rw [List.take_add_one, hx]; simp
      rw [this, e]; exact Nat.le_trans ih (Nat.le_add_right _ _)
    | some x =>
      rw [wgt_take hx, e]
      exact Nat.add_le_add ih (h x (List.mem_of_getElem? hx))
end Go.Proofs.YtpcllegjnbeppaaGreat.he
