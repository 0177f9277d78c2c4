import Derived.Test.YtdhhbkkinlmgnaaXc
namespace Go.Proofs.Ytdhhbkkinlmgnaa.xd
open Go.RowKit Go.PlainAid Go.Maps Go.Shelf
open Go.Proofs.Ytdhhbkkinlmgnaa.ca Go.Proofs.Ytdhhbkkinlmgnaa.cb Go.Proofs.Ytdhhbkkinlmgnaa.cp Go.Proofs.Ytdhhbkkinlmgnaa.kp Go.Proofs.Ytdhhbkkinlmgnaa.ka Go.Proofs.Ytdhhbkkinlmgnaa.ya Go.Proofs.Ytdhhbkkinlmgnaa.yb Go.Proofs.Ytdhhbkkinlmgnaa.yc Go.Proofs.Ytdhhbkkinlmgnaa.ye Go.Proofs.Ytdhhbkkinlmgnaa.yf Go.Proofs.Ytdhhbkkinlmgnaa.yi Go.Proofs.Ytdhhbkkinlmgnaa.yk Go.Proofs.Ytdhhbkkinlmgnaa.yl Go.Proofs.Ytdhhbkkinlmgnaa.zf Go.Proofs.Ytdhhbkkinlmgnaa.zg Go.Proofs.Ytdhhbkkinlmgnaa.xa Go.Proofs.Ytdhhbkkinlmgnaa.xb Go.Proofs.Ytdhhbkkinlmgnaa.xc
set_option linter.unusedVariables false
set_option linter.unusedSimpArgs false
theorem diesD {g : Nat} {dv wv vv : Value} {s : S} {w : World} (h : Dt g dv wv vv s w) (ha : s.armed ≤ 9223372036854775807) (ho : s.off = false) : Calls Try.prog 71 #[.pointer (some ⟨g, 0, none⟩)] w fun e w' => e = .returned (.bool (decide ((spendS s).1 ≠ 0))) ∧ Dt g dv wv vv (spendS s).2 w' ∧ Kp (fun k => k = g) w w' := by
  have c := h.c4
  have f4 := h.fz 4
  have f3 := h.fz 3
  unfold spendS
  by_cases h0 : s.armed = 0
  · rw [if_pos h0]
    have H : Hid (Dt g dv wv vv s w) := h
    have h0' : ((s.armed : Int) == 0) = true := by rw [h0]; rfl
    clear h h0
    go_enter Try.func71, Try.ntmps71
    go_wp2
    go_ret
    exact ⟨rfl, H.out, Kp.refl _ _⟩
  · rw [if_neg h0]
    have h0' : ((s.armed : Int) == 0) = false := by rw [beq_eq_false_iff_ne]; omega
    obtain ⟨q, hq⟩ : ∃ q : Nat, s.armed - 1 = q := ⟨_, rfl⟩
    have HS : Hid (Dt g dv wv vv { s with armed := q } (w.setCell ⟨g, 4, none⟩ (.int .i64 (q : Int)))) := h.set4 q
    have hw1 : IntKind.i64.wrap ((s.armed : Int) - 1) = (q : Int) := by
      rw [show (s.armed : Int) - 1 = (q : Int) by omega]
      exact wrap_is _ (by omega)
    have hw2 : (s.armed : Int) - 1 = (q : Int) := by omega
    have K1 : Hid (Kp (fun k => k = g) w (w.setCell ⟨g, 4, none⟩ (.int .i64 (q : Int)))) := Kp.setCell _ _ _ _ rfl
    rw [hq]
    by_cases h1 : s.armed = 1
    · rw [if_pos h1]
      have hd : q = 0 := by omega
      subst hd
      have f3' := HS.out.fz 3
      have c4' : (w.setCell ⟨g, 4, none⟩ (.int .i64 (0 : Int))).cell? ⟨g, 4, none⟩ = some (.int .i64 0) := HS.out.c4
      have H2 : Hid (Dt g dv wv vv { s with armed := 0, off := true } ((w.setCell ⟨g, 4, none⟩ (.int .i64 (0 : Int))).setCell ⟨g, 3, none⟩ (.bool true))) := HS.out.set3 true
      have c3 : (w.setCell ⟨g, 4, none⟩ (.int .i64 (0 : Int))).cell? ⟨g, 3, none⟩ = some (.bool s.off) := HS.out.c3
      have c3' : ((w.setCell ⟨g, 4, none⟩ (.int .i64 (0 : Int))).setCell ⟨g, 3, none⟩ (.bool true)).cell? ⟨g, 3, none⟩ = some (.bool true) := H2.out.c3
      clear h h0 h1 hq
      go_enter Try.func71, Try.ntmps71
      go_wp2
      go_ret
      exact ⟨rfl, H2.out, K1.out.trans (Kp.setCell _ _ _ _ rfl)⟩
    · rw [if_neg h1]
      have hq0 : ((q : Int) == 0) = false := by rw [beq_eq_false_iff_ne]; omega
      have f3' := HS.out.fz 3
      have c4' : (w.setCell ⟨g, 4, none⟩ (.int .i64 (q : Int))).cell? ⟨g, 4, none⟩ = some (.int .i64 q) := HS.out.c4
      have H2 : Hid (Dt g dv wv vv { s with armed := q } ((w.setCell ⟨g, 4, none⟩ (.int .i64 (q : Int))).setCell ⟨g, 3, none⟩ (.bool false))) := by
        have := HS.out.set3 false
        rw [← ho] at this ⊢
        exact this
      have c3 : (w.setCell ⟨g, 4, none⟩ (.int .i64 (q : Int))).cell? ⟨g, 3, none⟩ = some (.bool s.off) := HS.out.c3
      have c3' : ((w.setCell ⟨g, 4, none⟩ (.int .i64 (q : Int))).setCell ⟨g, 3, none⟩ (.bool false)).cell? ⟨g, 3, none⟩ = some (.bool false) := by rw [H2.out.c3]; show some (Value.bool s.off) = _; rw [ho]
      clear h h0 h1 hq
      go_enter Try.func71, Try.ntmps71
      go_wp2
      go_ret
      exact ⟨rfl, H2.out, K1.out.trans (Kp.setCell _ _ _ _ rfl)⟩
theorem armD {B g : Nat} {dv wv vv : Value} {s : S} {w : World} (n : Int) (h : Ds B g dv wv vv s w) (hn : n ≤ 9223372036854775807) : Calls Try.prog 39 #[.pointer (some ⟨g, 0, none⟩), .int .i64 n] w fun e w' => e = .returned (.tuple #[]) ∧ Rd B g wv (armS s n) w w' := by
  have c3 := h.row.c3
  have f4 := h.row.fz 4
  have c4 := h.row.c4
  have H : Hid (Ds B g dv wv vv s w) := h
  unfold armS
  clear h
  cases ho : s.off with
  | true =>
    rw [ho] at c3
    simp only [if_true]
    go_enter Try.func39, Try.ntmps39
    go_wp2
    (try simp only [Exit.inBlock, Exit.then]); refine bodyPost_ret (results_none rfl _ _ _) rfl ?_
    exact ⟨rfl, Rd.refl H.out (Below.refl _ _)⟩
  | false =>
    rw [ho] at c3
    simp only [Bool.false_eq_true, if_false]
    obtain ⟨m, hm⟩ : ∃ m : Nat, n.toNat = m := ⟨_, rfl⟩
    rw [hm]
    have H0 : Hid (Dt g dv wv vv { s with armed := 0 } (w.setCell ⟨g, 4, none⟩ (.int .i64 (0 : Int)))) := H.out.row.set4 0
    have f4' := H0.out.fz 4
    have c4' : (w.setCell ⟨g, 4, none⟩ (.int .i64 (0 : Int))).cell? ⟨g, 4, none⟩ = some (.int .i64 0) := H0.out.c4
    have OK : Hid (∀ m : Nat, m ≤ 9223372036854775807 → OkS { s with armed := m }) := fun m hm => ⟨H.out.ok.dur, H.out.ok.srt, H.out.ok.pend, H.out.ok.cap0, H.out.ok.cap1, hm, H.out.ok.age, H.out.ok.len⟩
    have FN : Hid (∀ (m : Nat) W, m ≤ 9223372036854775807 → Dt g dv wv vv { s with armed := m } W → Kp (fun k => k = g) w W → Rd B g wv { s with armed := m } w W) := fun m W hm hr k => rd_row H.out hr k rfl rfl (OK.out m hm)
    rw [ho] at H0 FN
    by_cases hn0 : 0 < n
    · have hm0 : n = m := by omega
      subst hm0
      have H1 : Hid (Dt g dv wv vv { s with off := false, armed := m } ((w.setCell ⟨g, 4, none⟩ (.int .i64 (0 : Int))).setCell ⟨g, 4, none⟩ (.int .i64 (m : Int)))) := H0.out.set4 m
      clear hm
      go_enter Try.func39, Try.ntmps39
      go_wp2
      go_end0
      refine ⟨rfl, FN.out m _ (by omega) ?_ ?_⟩
      · first | exact H1.out | (have := H1.out; simpa using this)
      · first | exact Kp.trans (A := fun k => k = g) (Kp.setCell w g 4 (.int .i64 0) rfl) (Kp.setCell _ _ _ _ rfl) | exact Kp.setCell _ _ _ _ rfl
    · have hm0 : m = 0 := by omega
      subst hm0
      have hn1 : ¬ (0 : Int) < n := hn0
      go_enter Try.func39, Try.ntmps39
      go_wp2
      go_end0
      exact ⟨rfl, FN.out 0 _ (by omega) H0.out (Kp.setCell _ _ _ _ rfl)⟩
-- Sync
theorem ok_spendD {s : S} (h : OkS s) : OkS (spendS s).2 := ok_spend h
theorem syncD {B g : Nat} {dv wv vv : Value} {s : S} {w : World} (h : Ds B g dv wv vv s w) : Calls Try.prog 38 #[.pointer (some ⟨g, 0, none⟩)] w fun e w' => e = .returned (.int .i64 (syncS s).1) ∧ Rd B g wv (syncS s).2 w w' := by
  have c3 := h.row.c3
  have H : Hid (Ds B g dv wv vv s w) := h
  unfold syncS
  cases ho : s.off with
  | true =>
    rw [ho] at c3
    simp only [if_true]
    clear h
    go_enter Try.func38, Try.ntmps38
    go_wp2
    go_ret
    exact ⟨rfl, Rd.refl H.out (Below.refl _ _)⟩
  | false =>
    rw [ho] at c3
    simp only [Bool.false_eq_true, if_false]
    have CD : Hid (Calls _ _ _ _ _) := diesD h.row h.ok.arm ho
    obtain ⟨p, hp⟩ : ∃ p, (spendS s).1 = p := ⟨_, rfl⟩
    rw [hp] at CD ⊢
    have hP2 : (spendS s).2.dur = s.dur := dur_spend s
    have hP3 : (spendS s).2.pend = s.pend := pend_spend s
    have FN : Hid (∀ W, Dt g dv wv vv (spendS s).2 W → Kp (fun k => k = g) w W → Ds B g dv wv vv (spendS s).2 W) := fun W hr k => ds_row H.out hr k hP2 hP3 (ok_spend H.out.ok)
    by_cases hz : p ≠ 0
    · rw [if_pos hz]
      have e : spendS s = (p, (spendS s).2) := by rw [← hp]
      rw [e]
      have hp124 : p = 124 := by
        have := zb.spend_e s
        rw [hp] at this
        rcases this with h | h
        · exact absurd h hz
        · exact h
      rw [decide_eq_true hz] at CD
      subst hp124
      clear h
      go_enter Try.func38, Try.ntmps38
      go_wp2_with fail
      refine CD.out.mono ?_
      rintro _ w1 ⟨rfl, r1, k1⟩
      have D1 : Hid (Rd B g wv (spendS s).2 w w1) := rd_row H.out r1 k1 hP2 hP3 (ok_spend H.out.ok)
      clear r1 k1
      go_wp2
      go_ret
      exact ⟨rfl, D1.out⟩
    · rw [if_neg hz]
      rw [decide_eq_false hz] at CD
      have FIN : Hid (∀ w1, Dt g dv wv vv (spendS s).2 w1 → Kp (fun k => k = g) w w1 → Rd B g wv { (spendS s).2 with dur := now s, pend := [] } w ((w1.setCell ⟨g, 1, none⟩ vv).setCell ⟨g, 2, none⟩ (.slice none 0 0))) := fun w1 r1 k1 => by
        have d1 := FN.out w1 r1 k1
        have r2 := (r1.set1 vv).set2 (.slice none 0 0)
        have k2 : Kp (fun k => k = g) w1 ((w1.setCell ⟨g, 1, none⟩ vv).setCell ⟨g, 2, none⟩ (.slice none 0 0)) := Kp.trans (A := fun k => k = g) (Kp.setCell w1 g 1 vv rfl) (Kp.setCell _ _ _ _ rfl)
        have hv : Lr B vv (now s) ((w1.setCell ⟨g, 1, none⟩ vv).setCell ⟨g, 2, none⟩ (.slice none 0 0)) := by
          have h1 := d1.vl
          rw [now_spend] at h1
          exact own_kp h1 k2 (fun j hj e => own_tag h1 r1 dr1 (by rw [← e]; exact hj))
        have oks := ok_spend H.out.ok
        refine ⟨vv, .slice none 0 0, vv, ⟨r2, hv, hv, World.ownsRow_nil _ _ _ _, H.out.low, ?_⟩, (k1.trans k2).mono (fun _ e => .inl e), fun k hk => by cases hk⟩
        exact ⟨H.out.ok.now, H.out.ok.snow, (by intro x hx; cases hx), oks.cap0, oks.cap1, oks.arm, oks.age, by have := H.out.ok.lnow; show (now s).length + 0 < _; omega⟩
      obtain ⟨va, vc, hvv⟩ := lr_form h.vl
      have HVV : Hid _ := hvv
      generalize (now s).length = L at *
      clear h hz hp hP2 hP3
      subst hvv
      go_enter Try.func38, Try.ntmps38
      go_wp2_with fail
      refine CD.out.mono ?_
      rintro _ w1 ⟨rfl, r1, k1⟩
      have F1 : Hid _ := FIN.out w1 r1 k1
      have c6 := r1.c6
      have c1 := r1.c1
      have f1 := r1.fz 1
      have f2 := (r1.set1 (.slice va L vc)).fz 2
      have c2 := (r1.set1 (.slice va L vc)).c2
      have f2' := r1.fz 2
      have c2' := r1.c2
      clear r1 k1 FIN
      go_wp2
      go_ret
      exact ⟨rfl, F1.out⟩
end Go.Proofs.Ytdhhbkkinlmgnaa.xd
