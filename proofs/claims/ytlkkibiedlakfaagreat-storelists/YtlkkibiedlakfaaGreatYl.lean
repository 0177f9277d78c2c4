import Derived.Test.YtlkkibiedlakfaaGreatYi
import Derived.Laws.EntriesVeiled
namespace Go.Proofs.YtlkkibiedlakfaaGreat.yl
open Go.RowKit Go.PlainAid Go.Maps Go.Shelf
open Go.Proofs.YtlkkibiedlakfaaGreat.ca Go.Proofs.YtlkkibiedlakfaaGreat.cb Go.Proofs.YtlkkibiedlakfaaGreat.cp Go.Proofs.YtlkkibiedlakfaaGreat.kp Go.Proofs.YtlkkibiedlakfaaGreat.ka Go.Proofs.YtlkkibiedlakfaaGreat.ya Go.Proofs.YtlkkibiedlakfaaGreat.yb Go.Proofs.YtlkkibiedlakfaaGreat.yc Go.Proofs.YtlkkibiedlakfaaGreat.yd Go.Proofs.YtlkkibiedlakfaaGreat.ye Go.Proofs.YtlkkibiedlakfaaGreat.yf Go.Proofs.YtlkkibiedlakfaaGreat.yg Go.Proofs.YtlkkibiedlakfaaGreat.yh Go.Proofs.YtlkkibiedlakfaaGreat.yi Go.Proofs.YtlkkibiedlakfaaGreat.sb Go.Proofs.YtlkkibiedlakfaaGreat.mc
set_option linter.unusedVariables false
set_option linter.unusedSimpArgs false
theorem wcs_len (bd : Nat) (l : List W) : (wcs bd l).length = 3 * l.length := by
  induction l with
  | nil => rfl
  | cons x l ih => simp only [wcs, List.flatMap_cons, List.length_append, List.length_cons] at ih ⊢; rw [ih]; simp [wc]; omega
theorem wcs_get (bd : Nat) (l : List W) (i j : Nat) (x : W) (hi : l[i]? = some x) (hj : j < 3) : (wcs bd l)[3 * i + j]? = (wc bd x)[j]? := by
  induction l generalizing i with
  | nil => simp at hi
  | cons y l ih =>
    cases i with
    | zero =>
      simp at hi
      subst hi
      simp only [wcs, List.flatMap_cons]
      rw [List.getElem?_append_left (by simp [wc]; omega)]
      simp
    | succ i =>
      have h1 := ih i (by simpa using hi)
      simp only [wcs, List.flatMap_cons] at h1 ⊢
      rw [List.getElem?_append_right (by simp [wc]; omega), ← h1]
      congr 1
      simp [wc]; omega
-- the pending row's cells
theorem row_at {B n : Nat} {v : Value} {xs : List Value} {w : World} (o : w.ownsRow B 105 3 v n xs) (hn : 0 < n) : ∃ g c, v = .slice (some ⟨g, 0, none⟩) n c ∧ ∀ j, j < n * 3 → w.cell? ⟨g, j, none⟩ = xs[j]? := by
  rcases o.2 with ⟨_, h0⟩ | ⟨g, cap, cur, rfl, _, h3, h4, h5, h6, h7⟩
  · omega
  · refine ⟨g, cap, rfl, fun j hj => ?_⟩
    rw [cell_of_row _ _ j _ _ _ h3]
    have e : (cur.toList.take (n * 3))[j]? = xs[j]? := by rw [h7]
    rw [List.getElem?_take_of_lt hj] at e
    rw [← e]; simp
theorem pend_cells {B g bn bd u : Nat} {pv : Value} {rn rd : List Rec} {s : S} {w : World} {l : List W} (h : Sq B g bn bd pv u rn rd l.length (wcs bd l) s w) (i : Nat) (x : W) (hi : l[i]? = some x) : ∃ q c, pv = .slice (some ⟨q, 0, none⟩) l.length c ∧ w.cell? ⟨q, 3 * i, none⟩ = some (fnV bd x.cut) ∧ w.cell? ⟨q, 3 * i + 1, none⟩ = some (.string x.key) ∧ w.cell? ⟨q, 3 * i + 2, none⟩ = some (.string x.data) := by
  have hlt : i < l.length := by
    rcases Nat.lt_or_ge i l.length with h' | h'
    · exact h'
    · rw [List.getElem?_eq_none h'] at hi; cases hi
  obtain ⟨q, c, e, hc⟩ := row_at h.pr (by omega)
  refine ⟨q, c, e, ?_, ?_, ?_⟩
  · rw [hc _ (by omega)]; exact (wcs_get bd l i 0 x hi (by omega)).trans rfl
  · rw [hc _ (by omega)]; exact (wcs_get bd l i 1 x hi (by omega)).trans rfl
  · rw [hc _ (by omega)]; exact (wcs_get bd l i 2 x hi (by omega)).trans rfl
theorem do_take (l : List W) (i : Nat) (x : W) (r : List Rec) (hi : l[i]? = some x) : (l.take (i + 1)).foldl doW r = doW ((l.take i).foldl doW r) x := by
  rw [List.take_add_one, hi, List.foldl_append]; rfl
theorem len_doN (r : List Rec) (l : List W) (i : Nat) : ((l.take i).foldl doW r).length ≤ r.length + l.length := by
  have := len_do r (l.take i)
  have h2 : (l.take i).length ≤ l.length := by simp; omega
  omega
theorem sq_settled {B g bn bd : Nat} {pv : Value} {s1 : S} {r : List Rec} {w : World} (h : Sq B g bn bd pv (tot r) r r 0 [] s1 w) (o : OkS { s1 with dur := r, pend := [] }) : Sr B g bn bd pv { s1 with dur := r, pend := [] } w := by
  refine sr_of ?_ o
  have e : now { s1 with dur := r, pend := [] } = r := rfl
  rw [e]
  exact ⟨h.row, h.mn, h.md, h.ne, h.pr, h.low⟩
def syncS (s : S) : Int × S := if s.off then (124, s) else if (spendS s).1 ≠ 0 then spendS s else (0, { (spendS s).2 with dur := now s, pend := [] })
set_option maxRecDepth 20000 in
set_option maxHeartbeats 6400000 in
theorem syncC {B g bn bd : Nat} {pv : Value} {s : S} {w : World} (h : Sr B g bn bd pv s w) (hB : B ≤ w.heap.size) :
    Calls Tryz.prog 47 #[.pointer (some ⟨g, 0, none⟩)] w fun e w' => e = .returned (.int .i64 (syncS s).1) ∧ Rn B g bn bd pv (syncS s).2 w w' := by
  have CD : Hid (Calls _ _ _ _ _) := downC h.row
  have CS : Hid (Calls _ _ _ _ _) := spendC h.row h.ok.arm
  have H : Hid (Sr B g bn bd pv s w) := h
  have FS : Hid (∀ w1, St g bn bd pv (tot (now s)) (spendS s).2 w1 → Kp (fun k => k = g) w w1 → Sr B g bn bd pv (spendS s).2 w1) := fun w1 m k => sr_st h m k
  unfold syncS
  clear h
  cases ho : s.off with
  | true =>
    rw [ho] at CD
    go_enter Tryz.func47, Tryz.ntmps47
    go_wp2_with (first | (go_at_call 33; refine CD.out.mono ?_; rintro _ _ ⟨rfl, hw⟩; rw [hw]; clear hw) | go_in)
    go_ret
    exact ⟨rfl, Rn.refl H.out⟩
  | false =>
    rw [ho] at CD
    obtain ⟨x, s1, HX⟩ : ∃ x s1, Hid (spendS s = (x, s1)) := ⟨_, _, rfl⟩
    have HN : Hid (now s1 = now s ∧ s1.dur = s.dur ∧ s1.pend = s.pend) := by have h1 := now_spend s; have h2 := dur_spend s; have h3 := pend_spend s; rw [HX.out] at h1 h2 h3; exact ⟨h1, h2, h3⟩
    rw [HX.out] at CS FS ⊢
    rw [if_neg (by simp)]
    by_cases hx : x = 0
    · subst hx
      rw [if_neg (by simp)]
      have OK : Hid (OkS s) := H.out.ok
      clear H
      go_enter Tryz.func47, Tryz.ntmps47
      go_upto_region 6 with (first | (go_at_call 33; refine CD.out.mono ?_; rintro _ _ ⟨rfl, hw⟩; rw [hw]; clear hw) | (go_at_call 94; refine CS.out.mono ?_; rintro _ w1 ⟨rfl, m1, k1⟩; have F1 : Hid (Sr B g bn bd pv s1 w1) := FS.out w1 m1 k1; have K1 : Hid (Kp (fun k => k = g) w w1) := k1; clear m1 k1) | go_in)
      obtain ⟨l, HLL⟩ : ∃ l, Hid (s.pend = l) := ⟨_, rfl⟩
      have G1 : Hid (Sq B g bn bd pv (tot (now s)) (now s) s.dur l.length (wcs bd l) s1 w1) := by have := sq_of F1.out; rw [HN.out.1, HN.out.2.1, HN.out.2.2, HLL.out] at this; exact this
      have O1 : Hid (OkS s1) := F1.out.ok
      have hfm : ∃ a c, pv = .slice a l.length c := own_formS G1.out.pr
      obtain ⟨pa, pc, rfl⟩ := hfm
      have c2 := G1.out.row.c2
      have hll : l.length < 3518437208883 := by have := OK.out.len; rw [HLL.out] at this; omega
      clear CD CS FS F1
      go_wp2_with fail
      go_loopw [18] (fun i wr => ∃ j : Nat, i = .int .i64 j ∧ j ≤ l.length ∧ Hid (Sq B g bn bd (.slice pa l.length pc) (tot (now s)) (now s) ((l.take j).foldl doW s.dur) l.length (wcs bd l) s1 wr ∧ Kp (Fr g bn bd (.slice pa l.length pc)) w wr)) (fun i _ => (l.length - intOf i).toNat)
      case atStart => exact ⟨0, rfl, Nat.zero_le _, by simpa using G1.out, fr_g K1.out⟩
      case round =>
        obtain ⟨j, rfl, hj, HH⟩ := hrel
        by_cases hlt : j < l.length
        · have hlt' : (j : Int) < l.length := by omega
          obtain ⟨x, hx⟩ : ∃ x, l[j]? = some x := ⟨_, List.getElem?_eq_getElem hlt⟩
          obtain ⟨q, c, e, d0, d1, d2⟩ := pend_cells HH.out.1 j x hx
          injection e with e1 _ e2
          subst e1 e2
          have hok : OkW x := OK.out.pend x (by rw [HLL.out]; exact List.mem_of_getElem? hx)
          have HL : Hid (∀ w1, Below wr.heap.size wr w1 → Calls _ _ _ _ _) := fun w1 b1 => landC bd ((l.take j).foldl doW s.dur) x w1 ((HH.out.1.later b1).md) hok (by have := len_doN s.dur l j; have := OK.out.len; rw [HLL.out] at this; unfold maxLen; omega)
          have HNX : Hid (∀ w1 w2, Below wr.heap.size wr w1 → Mp bd (doW ((l.take j).foldl doW s.dur) x) w2 → Kp (fun k => k = bd) w1 w2 → Sq B g bn bd (.slice (some ⟨q, 0, none⟩) l.length pc) (tot (now s)) (now s) ((l.take (j + 1)).foldl doW s.dur) l.length (wcs bd l) s1 w2 ∧ Kp (Fr g bn bd (.slice (some ⟨q, 0, none⟩) l.length pc)) w w2) := fun w1 w2 b1 m2 k2 => by
            rw [do_take l j x s.dur hx]
            exact ⟨(HH.out.1.later b1).dm m2 k2, (HH.out.2.trans (Kp.of_below b1)).trans (fr_d k2)⟩
          obtain ⟨f, hf⟩ : ∃ f, fnV bd x.cut = .func (.func f) #[.map (some bd)] #[] := ⟨_, rfl⟩
          obtain ⟨xk, hxk⟩ : ∃ xk, x.key = xk := ⟨_, rfl⟩
          obtain ⟨xd, hxd⟩ : ∃ xd, x.data = xd := ⟨_, rfl⟩
          rw [hf] at d0 HL
          rw [hxk] at d1 HL
          rw [hxd] at d2 HL
          have HB : Hid (∀ o, Below wr.heap.size wr (wr.alloc o)) := fun o => (Below.refl _ wr).alloc (Nat.le_refl _) _
          clear HH hok hx hf hxk hxd
          rw [Nat.mul_comm] at d0 d1 d2
          go_wp2_with (first | (go_at_call 53; refine (HL.out _ (HB.out _)).mono ?_; rintro _ w3 ⟨rfl, m3, k3⟩; have F3 : Hid _ := HNX.out _ _ (HB.out _) m3 k3; clear m3 k3) | go_in)
          go_roundw
          case rel => exact ⟨j + 1, by go_num, by omega, F3.out⟩
          case measure => simp [intOf]; omega
        · have hlt' : ¬ (j : Int) < l.length := by omega
          have hjl : j = l.length := by omega
          have G2 : Hid (Sq B g bn bd (.slice pa l.length pc) (tot (now s)) (now s) (now s) l.length (wcs bd l) s1 wr ∧ Kp (Fr g bn bd (.slice pa l.length pc)) w wr) := by
            have := HH.out
            rw [hjl, List.take_length] at this
            unfold now
            rw [HLL.out]
            unfold now at this
            rw [HLL.out] at this
            exact this
          have c22 := G2.out.1.row.c2
          have f22 := G2.out.1.row.fz 2
          have G3 : Hid (Rn B g bn bd (.slice pa l.length pc) { s1 with dur := now s, pend := [] } w (wr.setCell ⟨g, 2, none⟩ (.slice none 0 0))) := by
            refine ⟨.slice none 0 0, sq_settled (G2.out.1.pv (World.ownsRow_nil _ _ _ _)) ?_, G2.out.2.trans (fr_g (Kp.setCell _ _ _ _ rfl)), fun k hk => absurd hk (by simp [Value.ownBlock])⟩
            exact ⟨OK.out.now, OK.out.snow, (by intro x hx; cases hx), O1.out.cap0, O1.out.cap1, O1.out.arm, O1.out.age, by have := OK.out.lnow; simpa using this⟩
          clear HH G2
          go_wp2
          go_ret
          exact ⟨rfl, G3.out⟩
    · rw [if_pos (by simpa using hx)]
      have hx' : (x != 0) = true := by rw [bne_iff_ne]; exact hx
      clear hx
      go_enter Tryz.func47, Tryz.ntmps47
      go_wp2_with (first | (go_at_call 33; refine CD.out.mono ?_; rintro _ _ ⟨rfl, hw⟩; rw [hw]; clear hw) | (go_at_call 94; refine CS.out.mono ?_; rintro _ w1 ⟨rfl, m1, k1⟩; have F1 : Hid (Sr B g bn bd pv s1 w1) := FS.out w1 m1 k1; have K1 : Hid (Kp (fun k => k = g) w w1) := k1; clear m1 k1) | go_in)
      go_ret
      exact ⟨rfl, Rn.of F1.out (fr_g K1.out)⟩
end Go.Proofs.YtlkkibiedlakfaaGreat.yl
