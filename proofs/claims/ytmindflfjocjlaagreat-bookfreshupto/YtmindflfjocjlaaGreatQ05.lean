import Derived.Test.YtmindflfjocjlaaGreatQ04
import Derived.Laws.EntriesVeiled
namespace Go.Proofs.YtmindflfjocjlaaGreat.yl
open Go.RowKit Go.PlainAid Go.Maps Go.Shelf
open Go.Proofs.YtmindflfjocjlaaGreat.ca Go.Proofs.YtmindflfjocjlaaGreat.cb Go.Proofs.YtmindflfjocjlaaGreat.cp Go.Proofs.YtmindflfjocjlaaGreat.kp Go.Proofs.YtmindflfjocjlaaGreat.ka Go.Proofs.YtmindflfjocjlaaGreat.ya Go.Proofs.YtmindflfjocjlaaGreat.yb Go.Proofs.YtmindflfjocjlaaGreat.yc Go.Proofs.YtmindflfjocjlaaGreat.yd Go.Proofs.YtmindflfjocjlaaGreat.ye Go.Proofs.YtmindflfjocjlaaGreat.yf Go.Proofs.YtmindflfjocjlaaGreat.yg Go.Proofs.YtmindflfjocjlaaGreat.yh Go.Proofs.YtmindflfjocjlaaGreat.yi Go.Proofs.YtmindflfjocjlaaGreat.sb Go.Proofs.YtmindflfjocjlaaGreat.mc
set_option linter.unusedVariables false
set_option linter.unusedSimpArgs false
theorem wcs_len (bd : Nat) (l : List W) : (wcs bd l).length = 3 * l.length := by
  induction l with
  | nil => rfl
  | cons x l ih => simp only [wcs, List.flatMap_cons, List.length_append, List.length_cons] at ih ⊢; rw [ih]; simp [wc]; omega
theorem wcs_get (bd : Nat) (l : List W) (i j : Nat) (x : W) (hi : l[i]? = some x) (hj : j < 3) : (wcs bd l)[3 * i + j]? = (wc bd x)[j]? := by
  induction l generalizing i with
  | nil => simp at hi
  | cons y l ih =>
    cases i with
    | zero =>
      simp at hi
      subst hi
      simp only [wcs, List.flatMap_cons]
      rw [List.getElem?_append_left (by simp [wc]; omega)]
      simp
    | succ i =>
      have h1 := ih i (by simpa using hi)
      simp only [wcs, List.flatMap_cons] at h1 ⊢
      rw [List.getElem?_append_right (by simp [wc]; omega), ← h1]
      congr 1
      simp [wc]; omega
-- the pending row's cells
theorem row_at {B n : Nat} {v : Value} {xs : List Value} {w : World} (o : w.ownsRow B 75 3 v n xs) (hn : 0 < n) : ∃ g c, v = .slice (some ⟨g, 0, none⟩) n c ∧ ∀ j, j < n * 3 → w.cell? ⟨g, j, none⟩ = xs[j]? := by
  rcases o.2 with ⟨_, h0⟩ | ⟨g, cap, cur, rfl, _, h3, h4, h5, h6, h7⟩
  · omega
  · refine ⟨g, cap, rfl, fun j hj => ?_⟩
    rw [cell_of_row _ _ j _ _ _ h3]
    have e : (cur.toList.take (n * 3))[j]? = xs[j]? := by rw [h7]
    rw [List.getElem?_take_of_lt hj] at e
    rw [← e]; simp
theorem pend_cells {B g bn bd u : Nat} {pv : Value} {rn rd : List Rec} {s : S} {w : World} {l : List W} (h : Sq B g bn bd pv u rn rd l.length (wcs bd l) s w) (i : Nat) (x : W) (hi : l[i]? = some x) : ∃ q c, pv = .slice (some ⟨q, 0, none⟩) l.length c ∧ w.cell? ⟨q, 3 * i, none⟩ = some (fnV bd x.cut) ∧ w.cell? ⟨q, 3 * i + 1, none⟩ = some (.string x.key) ∧ w.cell? ⟨q, 3 * i + 2, none⟩ = some (.string x.data) := by
  have hlt : i < l.length := by
    rcases Nat.lt_or_ge i l.length with h' | h'
    · exact h'
    · rw [List.getElem?_eq_none h'] at hi; cases hi
  obtain ⟨q, c, e, hc⟩ := row_at h.pr (by omega)
  refine ⟨q, c, e, ?_, ?_, ?_⟩
  · rw [hc _ (by omega)]; exact (wcs_get bd l i 0 x hi (by omega)).trans rfl
  · rw [hc _ (by omega)]; exact (wcs_get bd l i 1 x hi (by omega)).trans rfl
  · rw [hc _ (by omega)]; exact (wcs_get bd l i 2 x hi (by omega)).trans rfl
theorem do_take (l : List W) (i : Nat) (x : W) (r : List Rec) (hi : l[i]? = some x) : (l.take (i + 1)).foldl doW r = doW ((l.take i).foldl doW r) x := by
  rw [List.take_add_one, hi, List.foldl_append]; rfl
theorem len_doN (r : List Rec) (l : List W) (i : Nat) : ((l.take i).foldl doW r).length ≤ r.length + l.length := by
  have := len_do r (l.take i)
  have h2 : (l.take i).length ≤ l.length := by simp; omega
  omega
theorem sq_settled {B g bn bd : Nat} {pv : Value} {s1 : S} {r : List Rec} {w : World} (h : Sq B g bn bd pv (tot r) r r 0 [] s1 w) (o : OkS { s1 with dur := r, pend := [] }) : Sr B g bn bd pv { s1 with dur := r, pend := [] } w := by
  refine sr_of ?_ o
  have e : now { s1 with dur := r, pend := [] } = r := rfl
  rw [e]
  exact ⟨h.row, h.mn, h.md, h.ne, h.pr, h.low⟩
def syncS (s : S) : Int × S := if s.off then (124, s) else if (spendS s).1 ≠ 0 then spendS s else (0, { (spendS s).2 with dur := now s, pend := [] })
set_option maxRecDepth 20000 in
set_option maxHeartbeats 6400000 in
theorem syncC {B g bn bd : Nat} {pv : Value} {s : S} {w : World} (h : Sr B g bn bd pv s w) (hB : B ≤ w.heap.size) :
    Calls Tryz.prog 30 #[.pointer (some ⟨g, 0, none⟩)] w fun e w' => e = .returned (.int .i64 (syncS s).1) ∧ Rn B g bn bd pv (syncS s).2 w w' := by
  have CD : Hid (Calls _ _ _ _ _) := downC h.row
  have CS : Hid (Calls _ _ _ _ _) := spendC h.row h.ok.arm
  have H : Hid (Sr B g bn bd pv s w) := h
  have FS : Hid (∀ w1, St g bn bd pv (tot (now s)) (spendS s).2 w1 → Kp (fun k => k = g) w w1 → Sr B g bn bd pv (spendS s).2 w1) := fun w1 m k => sr_st h m k
  unfold syncS
  clear h
  cases ho : s.off with
  | true =>
    rw [ho] at CD
    go_enter Tryz.func30, Tryz.ntmps30
    go_wp2_with (first | (go_at_call 55; refine CD.out.mono ?_; rintro _ _ ⟨rfl, hw⟩; rw [hw]; clear hw) | go_in)
    go_ret
    exact ⟨rfl, Rn.refl H.out⟩
  | false =>
    rw [ho] at CD
    obtain ⟨x, s1, HX⟩ : ∃ x s1, Hid (spendS s = (x, s1)) := ⟨_, _, rfl⟩
    have HN : Hid (now s1 = now s ∧ s1.dur = s.dur ∧ s1.pend = s.pend) := by have h1 := now_spend s; have h2 := dur_spend s; have h3 := pend_spend s; rw [HX.out] at h1 h2 h3; exact ⟨h1, h2, h3⟩
    rw [HX.out] at CS FS ⊢
    rw [if_neg (by simp)]
    by_cases hx : x = 0
    · subst hx
      rw [if_neg (by simp)]
      have OK : Hid (OkS s) := H.out.ok
      clear H
      go_enter Tryz.func30, Tryz.ntmps30
      go_upto_region 6 with (first | (go_at_call 55; refine CD.out.mono ?_; rintro _ _ ⟨rfl, hw⟩; rw [hw]; clear hw) | (go_at_call 65; refine CS.out.mono ?_; rintro _ w1 ⟨rfl, m1, k1⟩; have F1 : Hid (Sr B g bn bd pv s1 w1) := FS.out w1 m1 k1; have K1 : Hid (Kp (fun k => k = g) w w1) := k1; clear m1 k1) | go_in)
      obtain ⟨l, HLL⟩ : ∃ l, Hid (s.pend = l) := ⟨_, rfl⟩
      have G1 : Hid (Sq B g bn bd pv (tot (now s)) (now s) s.dur l.length (wcs bd l) s1 w1) := by have := sq_of F1.out; rw [HN.out.1, HN.out.2.1, HN.out.2.2, HLL.out] at this; exact this
      have O1 : Hid (OkS s1) := F1.out.ok
      have hfm : ∃ a c, pv = .slice a l.length c := own_formS G1.out.pr
      obtain ⟨pa, pc, rfl⟩ := hfm
      have c2 := G1.out.row.c2
      have hll : l.length < 3518437208883 := by have := OK.out.len; rw [HLL.out] at this; omega
      clear CD CS FS F1
      go_wp2_with fail
      go_loopw [18] (fun i wr => ∃ j : Nat, i = .int .i64 j ∧ j ≤ l.length ∧ Hid (Sq B g bn bd (.slice pa l.length pc) (tot (now s)) (now s) ((l.take j).foldl doW s.dur) l.length (wcs bd l) s1 wr ∧ Kp (Fr g bn bd (.slice pa l.length pc)) w wr)) (fun i _ => (l.length - intOf i).toNat)
      case atStart => exact ⟨0, rfl, Nat.zero_le _, by simpa using G1.out, fr_g K1.out⟩
      case round =>
        obtain ⟨j, rfl, hj, HH⟩ := hrel
        by_cases hlt : j < l.length
        · have hlt' : (j : Int) < l.length := by omega
          obtain ⟨x, hx⟩ : ∃ x, l[j]? = some x := ⟨_, List.getElem?_eq_getElem hlt⟩
          obtain ⟨q, c, e, d0, d1, d2⟩ := pend_cells HH.out.1 j x hx
          injection e with e1 _ e2
          subst e1 e2
          have hok : OkW x := OK.out.pend x (by rw [HLL.out]; exact List.mem_of_getElem? hx)
          have HL : Hid (∀ w1, Below wr.heap.size wr w1 → Calls _ _ _ _ _) := fun w1 b1 => landC bd ((l.take j).foldl doW s.dur) x w1 ((HH.out.1.later b1).md) hok (by have := len_doN s.dur l j; have := OK.out.len; rw [HLL.out] at this; unfold maxLen; omega)
          have HNX : Hid (∀ w1 w2, Below wr.heap.size wr w1 → Mp bd (doW ((l.take j).foldl doW s.dur) x) w2 → Kp (fun k => k = bd) w1 w2 → Sq B g bn bd (.slice (some ⟨q, 0, none⟩) l.length pc) (tot (now s)) (now s) ((l.take (j + 1)).foldl doW s.dur) l.length (wcs bd l) s1 w2 ∧ Kp (Fr g bn bd (.slice (some ⟨q, 0, none⟩) l.length pc)) w w2) := fun w1 w2 b1 m2 k2 => by
            rw [do_take l j x s.dur hx]
            exact ⟨(HH.out.1.later b1).dm m2 k2, (HH.out.2.trans (Kp.of_below b1)).trans (fr_d k2)⟩
          obtain ⟨f, hf⟩ : ∃ f, fnV bd x.cut = .func (.func f) #[.map (some bd)] #[] := ⟨_, rfl⟩
          obtain ⟨xk, hxk⟩ : ∃ xk, x.key = xk := ⟨_, rfl⟩
          obtain ⟨xd, hxd⟩ : ∃ xd, x.data = xd := ⟨_, rfl⟩
          rw [hf] at d0 HL
          rw [hxk] at d1 HL
          rw [hxd] at d2 HL
          have HB : Hid (∀ o, Below wr.heap.size wr (wr.alloc o)) := fun o => (Below.refl _ wr).alloc (Nat.le_refl _) _
          clear HH hok hx hf hxk hxd
          rw [Nat.mul_comm] at d0 d1 d2
          go_wp2_with (first | (go_at_call 36; refine (HL.out _ (HB.out _)).mono ?_; rintro _ w3 ⟨rfl, m3, k3⟩; have F3 : Hid _ := HNX.out _ _ (HB.out _) m3 k3; clear m3 k3) | go_in)
          go_roundw
          case rel => exact ⟨j + 1, by go_num, by omega, F3.out⟩
          case measure => simp [intOf]; omega
        · have hlt' : ¬ (j : Int) < l.length := by omega
          have hjl : j = l.length := by omega
          have G2 : Hid (Sq B g bn bd (.slice pa l.length pc) (tot (now s)) (now s) (now s) l.length (wcs bd l) s1 wr ∧ Kp (Fr g bn bd (.slice pa l.length pc)) w wr) := by
            have := HH.out
            rw [hjl, List.take_length] at this
            unfold now
            rw [HLL.out]
            unfold now at this
            rw [HLL.out] at this
            exact this
          have c22 := G2.out.1.row.c2
          have f22 := G2.out.1.row.fz 2
          have G3 : Hid (Rn B g bn bd (.slice pa l.length pc) { s1 with dur := now s, pend := [] } w (wr.setCell ⟨g, 2, none⟩ (.slice none 0 0))) := by
            refine ⟨.slice none 0 0, sq_settled (G2.out.1.pv (World.ownsRow_nil _ _ _ _)) ?_, G2.out.2.trans (fr_g (Kp.setCell _ _ _ _ rfl)), fun k hk => absurd hk (by simp [Value.ownBlock])⟩
            exact ⟨OK.out.now, OK.out.snow, (by intro x hx; cases hx), O1.out.cap0, O1.out.cap1, O1.out.arm, O1.out.age, by have := OK.out.lnow; simpa using this⟩
          clear HH G2
          go_wp2
          go_ret
          exact ⟨rfl, G3.out⟩
    · rw [if_pos (by simpa using hx)]
      have hx' : (x != 0) = true := by rw [bne_iff_ne]; exact hx
      clear hx
      go_enter Tryz.func30, Tryz.ntmps30
      go_wp2_with (first | (go_at_call 55; refine CD.out.mono ?_; rintro _ _ ⟨rfl, hw⟩; rw [hw]; clear hw) | (go_at_call 65; refine CS.out.mono ?_; rintro _ w1 ⟨rfl, m1, k1⟩; have F1 : Hid (Sr B g bn bd pv s1 w1) := FS.out w1 m1 k1; have K1 : Hid (Kp (fun k => k = g) w w1) := k1; clear m1 k1) | go_in)
      go_ret
      exact ⟨rfl, Rn.of F1.out (fr_g K1.out)⟩
end Go.Proofs.YtmindflfjocjlaaGreat.yl

namespace Go.Proofs.YtmindflfjocjlaaGreat.ym
open Go.RowKit Go.PlainAid Go.Maps Go.Shelf
open Go.Proofs.YtmindflfjocjlaaGreat.ca Go.Proofs.YtmindflfjocjlaaGreat.cb Go.Proofs.YtmindflfjocjlaaGreat.cp Go.Proofs.YtmindflfjocjlaaGreat.kp Go.Proofs.YtmindflfjocjlaaGreat.ka Go.Proofs.YtmindflfjocjlaaGreat.ya Go.Proofs.YtmindflfjocjlaaGreat.yb Go.Proofs.YtmindflfjocjlaaGreat.yc Go.Proofs.YtmindflfjocjlaaGreat.yd Go.Proofs.YtmindflfjocjlaaGreat.ye Go.Proofs.YtmindflfjocjlaaGreat.yf Go.Proofs.YtmindflfjocjlaaGreat.yg Go.Proofs.YtmindflfjocjlaaGreat.yh Go.Proofs.YtmindflfjocjlaaGreat.yi Go.Proofs.YtmindflfjocjlaaGreat.yl Go.Proofs.YtmindflfjocjlaaGreat.sb Go.Proofs.YtmindflfjocjlaaGreat.mc Go.Proofs.YtmindflfjocjlaaGreat.na Go.Proofs.YtmindflfjocjlaaGreat.nb
set_option linter.unusedVariables false
set_option linter.unusedSimpArgs false
-- what is left of the pending writes
def surv (keep : ByteArray) (i : Nat) : Bool := decide (keep.size ≠ 0 ∧ bt keep (i % keep.size) % 2 = 1)
def kdN (keep : ByteArray) (l : List W) (r : List Rec) : Nat → List Rec
  | 0 => r
  | j + 1 => match l[j]? with
    | some x => if surv keep j then doW (kdN keep l r j) x else kdN keep l r j
    | none => kdN keep l r j
def tbN (rd : List Rec) (l : List W) (rn : List Rec) : Nat → List Rec
  | 0 => rn
  | j + 1 => match l[j]? with
    | some x => tb rd (tbN rd l rn j) x.key
    | none => tbN rd l rn j
theorem ok_kd {keep : ByteArray} {l : List W} {r : List Rec} (h : OkR r) (hl : ∀ x ∈ l, OkW x) (j : Nat) : OkR (kdN keep l r j) := by
  induction j with
  | zero => exact h
  | succ j ih =>
    unfold kdN
    split
    · rename_i x hx
      split
      · exact ok_doW ih (hl x (List.mem_of_getElem? hx))
      · exact ih
    · exact ih
theorem srt_kd {keep : ByteArray} {l : List W} {r : List Rec} (h : Srt r) (j : Nat) : Srt (kdN keep l r j) := by
  induction j with
  | zero => exact h
  | succ j ih =>
    unfold kdN
    split
    · split
      · exact srt_doW ih
      · exact ih
    · exact ih
theorem len_kd (keep : ByteArray) (l : List W) (r : List Rec) (j : Nat) : (kdN keep l r j).length ≤ r.length + j := by
  induction j with
  | zero => exact Nat.le_refl _
  | succ j ih =>
    unfold kdN
    split
    · split
      · rename_i x _ _; have := len_doW (kdN keep l r j) x; omega
      · omega
    · omega
theorem ok_tb {rd rn : List Rec} {k : ByteArray} (h : OkR rd) (hn : OkR rn) : OkR (tb rd rn k) := by
  unfold tb
  split
  · rename_i d hd; have := h.get hd; exact hn.put this.1 this.2.1 this.2.2
  · exact hn.del
theorem srt_tb {rd rn : List Rec} {k : ByteArray} (hn : Srt rn) : Srt (tb rd rn k) := by
  unfold tb
  split
  · exact srt_put hn
  · exact srt_del hn
theorem len_tb (rd rn : List Rec) (k : ByteArray) : (tb rd rn k).length ≤ rn.length + 1 := by
  unfold tb
  split
  · exact len_put _ _ _
  · have := len_del k rn; omega
theorem ok_tbN {rd rn : List Rec} {l : List W} (h : OkR rd) (hn : OkR rn) (j : Nat) : OkR (tbN rd l rn j) := by
  induction j with
  | zero => exact hn
  | succ j ih => unfold tbN; split; exact ok_tb h ih; exact ih
theorem srt_tbN {rd rn : List Rec} {l : List W} (hn : Srt rn) (j : Nat) : Srt (tbN rd l rn j) := by
  induction j with
  | zero => exact hn
  | succ j ih => unfold tbN; split; exact srt_tb ih; exact ih
theorem len_tbN (rd rn : List Rec) (l : List W) (j : Nat) : (tbN rd l rn j).length ≤ rn.length + j := by
  induction j with
  | zero => exact Nat.le_refl _
  | succ j ih => unfold tbN; split; (rename_i x _; have := len_tb rd (tbN rd l rn j) x.key; omega); omega
theorem get_doW {r : List Rec} {x : W} {k : ByteArray} (h : Srt r) (hn : x.key ≠ k) : rget k (doW r x) = rget k r := by
  unfold doW
  split
  · exact get_del_other h (fun e => hn e.symm)
  · exact get_put_other h (fun e => hn e.symm)
theorem get_do {l : List W} {r : List Rec} {k : ByteArray} (h : Srt r) (hn : ∀ x ∈ l, x.key ≠ k) : rget k (l.foldl doW r) = rget k r := by
  induction l generalizing r with
  | nil => rfl
  | cons x l ih => rw [List.foldl_cons, ih (srt_doW h) (fun y hy => hn y (by simp [hy])), get_doW h (hn x (by simp))]
theorem get_kd {keep : ByteArray} {l : List W} {r : List Rec} {k : ByteArray} (h : Srt r) (hn : ∀ x ∈ l, x.key ≠ k) (j : Nat) : rget k (kdN keep l r j) = rget k r := by
  induction j with
  | zero => rfl
  | succ j ih =>
    unfold kdN
    split
    · rename_i x hx
      split
      · rw [get_doW (srt_kd h j) (hn x (List.mem_of_getElem? hx)), ih]
      · exact ih
    · exact ih
theorem get_tb_same {rd rn : List Rec} {k : ByteArray} (hn : Srt rn) : rget k (tb rd rn k) = rget k rd := by
  unfold tb
  split
  · rename_i d hd; rw [get_put_same hn, hd]
  · rename_i hd; rw [get_del_same, hd]
theorem get_tb_other {rd rn : List Rec} {k k' : ByteArray} (hn : Srt rn) (h : k' ≠ k) : rget k' (tb rd rn k) = rget k' rn := by
  unfold tb
  split
  · exact get_put_other hn h
  · exact get_del_other hn h
theorem get_tbN {rd rn : List Rec} {l : List W} {k : ByteArray} (hn : Srt rn) (j : Nat) : rget k (tbN rd l rn j) = if (∃ x ∈ l.take j, x.key = k) then rget k rd else rget k rn := by
  induction j with
  | zero => simp [tbN]
  | succ j ih =>
    unfold tbN
    split
    · rename_i x hx
      rw [List.take_add_one, hx]
      by_cases e : x.key = k
      · rw [if_pos ⟨x, by simp, e⟩, ← e, get_tb_same (srt_tbN hn j)]
      · rw [get_tb_other (srt_tbN hn j) (fun h => e h.symm), ih]
        congr 1
        simp only [eq_iff_iff]
        constructor
        · rintro ⟨y, h1, h2⟩; exact ⟨y, by simp [h1], h2⟩
        · rintro ⟨y, h1, h2⟩
          rcases List.mem_append.1 h1 with h1 | h1
          · exact ⟨y, h1, h2⟩
          · simp at h1; subst h1; exact absurd h2 e
    · rename_i hx
      rw [ih, List.take_add_one, hx]
      simp
-- behind the taking back what is there is what is durable
theorem tb_all {keep : ByteArray} {l : List W} {r : List Rec} (h : Srt r) : tbN (kdN keep l r l.length) l (l.foldl doW r) l.length = kdN keep l r l.length := by
  refine ext_get (srt_tbN (srt_do h) _) (srt_kd h _) fun k => ?_
  rw [get_tbN (srt_do h), List.take_length]
  split
  · rfl
  · rename_i hn
    have hn : ∀ x ∈ l, x.key ≠ k := fun x hx e => hn ⟨x, hx, e⟩
    rw [get_do h hn, get_kd h hn]
def crashS (s : S) (keep : ByteArray) : S := ⟨s.cap, kdN keep s.pend s.dur s.pend.length, [], 0, false, s.age + 1⟩
theorem survC (keep : ByteArray) (i : Nat) (w : World) (hk : keep.size ≤ 140737488355328) (hi : i ≤ 4398046511104) : Calls Tryz.prog 35 #[.string keep, .int .i64 i] w fun e w' => e = .returned (.bool (surv keep i)) ∧ w' = w := by
  have hbt := get_bt keep
  by_cases h0 : keep.size = 0
  · have hk0 : keep = ⟨#[]⟩ := by
      cases keep with
      | mk d => simp only [ByteArray.size] at h0; rw [Array.eq_empty_of_size_eq_zero h0]
    subst hk0
    go_enter Tryz.func35, Tryz.ntmps35
    go_wp2
    go_ret
    exact ⟨congrArg (fun b => Ending.returned (.bool b)) (decide_eq_false (fun h => h.1 rfl)).symm, rfl⟩
  · have hne : (keep.toList == []) = false := by
      rw [beq_eq_false_iff_ne, ByteArray.toList_eq]
      intro e
      have := congrArg List.length e
      have e2 : keep.data.toList.length = 0 := this
      rw [Array.length_toList] at e2
      exact h0 e2
    have hne' : (keep.toList != []) = true := by rw [bne, hne]; rfl
    obtain ⟨n, hn⟩ : ∃ n, keep.size = n := ⟨_, rfl⟩
    obtain ⟨r, hr⟩ : ∃ r, i % n = r := ⟨_, rfl⟩
    have hrn : r < n := by rw [← hr]; exact Nat.mod_lt _ (by omega)
    have hm : Int.tmod (i : Int) (n : Int) = (r : Int) := by rw [← hr]; rfl
    have hn0 : ((n : Int) == 0) = false := by rw [beq_eq_false_iff_ne]; omega
    have hw1 : IntKind.i64.wrap (r : Int) = r := wrap_is _ (by omega)
    have hrs : r < keep.size := by omega
    have hb0 := bt_nonneg keep r
    have hb1 := bt_le keep r
    have HSV : Hid (surv keep i = decide (bt keep r % 2 = 1)) := by
      show _ = _
      unfold surv
      rw [hn, hr]
      simp [show n ≠ 0 by omega]
    have hlt2 : (r : Int) < (n : Int) := by omega
    obtain ⟨y, hy⟩ : ∃ y, bt keep r = y := ⟨_, rfl⟩
    rw [hy] at hb0 hb1
    have hy' : ∀ h, ((keep[r]'h).toNat : Int) = y := fun h => by rw [← hy]; exact hbt r h
    have ht : Int.tmod y 2 = y % 2 := Int.tmod_eq_emod_of_nonneg hb0
    have hw2 : IntKind.u8.wrap (y % 2) = y % 2 := by
      have : 0 ≤ y % 2 ∧ y % 2 < 256 := by omega
      rcases (show y % 2 = 0 ∨ y % 2 = 1 by omega) with e | e <;> rw [e] <;> decide
    rw [HSV.out, hy]
    clear hr hbt hy h0 HSV
    go_enter Tryz.func35, Tryz.ntmps35
    go_wp2
    go_ret
    exact ⟨rfl, rfl⟩
end Go.Proofs.YtmindflfjocjlaaGreat.ym

namespace Go.Proofs.YtmindflfjocjlaaGreat.yn
open Go.RowKit Go.PlainAid Go.Maps Go.Shelf
open Go.Proofs.YtmindflfjocjlaaGreat.ca Go.Proofs.YtmindflfjocjlaaGreat.cb Go.Proofs.YtmindflfjocjlaaGreat.cp Go.Proofs.YtmindflfjocjlaaGreat.kp Go.Proofs.YtmindflfjocjlaaGreat.ka Go.Proofs.YtmindflfjocjlaaGreat.ya Go.Proofs.YtmindflfjocjlaaGreat.yb Go.Proofs.YtmindflfjocjlaaGreat.yc Go.Proofs.YtmindflfjocjlaaGreat.yd Go.Proofs.YtmindflfjocjlaaGreat.ye Go.Proofs.YtmindflfjocjlaaGreat.yf Go.Proofs.YtmindflfjocjlaaGreat.yg Go.Proofs.YtmindflfjocjlaaGreat.yh Go.Proofs.YtmindflfjocjlaaGreat.yi Go.Proofs.YtmindflfjocjlaaGreat.yl Go.Proofs.YtmindflfjocjlaaGreat.ym Go.Proofs.YtmindflfjocjlaaGreat.sb Go.Proofs.YtmindflfjocjlaaGreat.mc
set_option linter.unusedVariables false
set_option linter.unusedSimpArgs false
theorem kd_yes {keep : ByteArray} {l : List W} {r : List Rec} {j : Nat} {x : W} (hx : l[j]? = some x) (h : surv keep j = true) : kdN keep l r (j + 1) = doW (kdN keep l r j) x := by rw [kdN, hx]; simp only; rw [if_pos h]
theorem kd_no {keep : ByteArray} {l : List W} {r : List Rec} {j : Nat} {x : W} (hx : l[j]? = some x) (h : surv keep j = false) : kdN keep l r (j + 1) = kdN keep l r j := by rw [kdN, hx]; simp only; rw [if_neg (by rw [h]; decide)]
theorem tb_next {rd rn : List Rec} {l : List W} {j : Nat} {x : W} (hx : l[j]? = some x) : tbN rd l rn (j + 1) = tb rd (tbN rd l rn j) x.key := by rw [tbN, hx]
set_option maxRecDepth 20000 in
set_option maxHeartbeats 12800000 in
theorem crashC {B g bn bd : Nat} {pv : Value} {s : S} {w : World} (keep : ByteArray) (h : Sr B g bn bd pv s w) (hk : keep.size ≤ 140737488355328) (ha : s.age < 4398046511104) :
    Calls Tryz.prog 8 #[.pointer (some ⟨g, 0, none⟩), .string keep] w fun e w' => e = .returned (.tuple #[]) ∧ Rn B g bn bd pv (crashS s keep) w w' := by
  have OK : Hid (OkS s) := h.ok
  obtain ⟨l, HLL⟩ : ∃ l, Hid (s.pend = l) := ⟨_, rfl⟩
  have G1 : Hid (Sq B g bn bd pv (tot (now s)) (now s) s.dur l.length (wcs bd l) s w) := by have := sq_of h; rw [HLL.out] at this; exact this
  have hfm : ∃ a c, pv = .slice a l.length c := own_formS G1.out.pr
  obtain ⟨pa, pc, rfl⟩ := hfm
  have c2 := G1.out.row.c2
  have hll : s.dur.length + l.length < 3518437208883 := by have := OK.out.len; rw [HLL.out] at this; exact this
  have hll2 : l.length < 3518437208883 := by omega
  have HPW : Hid (∀ x ∈ l, OkW x) := by have := OK.out.pend; rw [HLL.out] at this; exact this
  have CO : Hid (∀ w, Calls _ _ _ _ _) := fun w => orNoneC g w
  clear h
  go_enter Tryz.func8, Tryz.ntmps8
  go_wp2_with (first | (go_at_call 34; refine (CO.out _).mono ?_; rintro _ _ ⟨rfl, hw⟩; rw [hw]; clear hw) | go_in)
  go_loopw [15] (fun i wr => ∃ j : Nat, i = .int .i64 j ∧ j ≤ l.length ∧ Hid (Sq B g bn bd (.slice pa l.length pc) (tot (now s)) (now s) (kdN keep l s.dur j) l.length (wcs bd l) s wr ∧ Kp (Fr g bn bd (.slice pa l.length pc)) w wr)) (fun i _ => (l.length - intOf i).toNat)
  case atStart => exact ⟨0, rfl, Nat.zero_le _, G1.out, Kp.refl _ _⟩
  case round =>
    obtain ⟨j, rfl, hj, HH⟩ := hrel
    by_cases hlt : j < l.length
    · have hlt' : (j : Int) < l.length := by omega
      obtain ⟨x, hx⟩ : ∃ x, l[j]? = some x := ⟨_, List.getElem?_eq_getElem hlt⟩
      obtain ⟨q, c, e, d0, d1, d2⟩ := pend_cells HH.out.1 j x hx
      injection e with e1 _ e2
      subst e1 e2
      have hok : OkW x := HPW.out x (List.mem_of_getElem? hx)
      have HL : Hid (∀ w1, Below wr.heap.size wr w1 → Calls _ _ _ _ _) := fun w1 b1 => landC bd (kdN keep l s.dur j) x w1 ((HH.out.1.later b1).md) hok (by have := len_kd keep l s.dur j; unfold maxLen; omega)
      have HNX : Hid (surv keep j = true → ∀ w1 w2, Below wr.heap.size wr w1 → Mp bd (doW (kdN keep l s.dur j) x) w2 → Kp (fun k => k = bd) w1 w2 → Sq B g bn bd (.slice (some ⟨q, 0, none⟩) l.length pc) (tot (now s)) (now s) (kdN keep l s.dur (j + 1)) l.length (wcs bd l) s w2 ∧ Kp (Fr g bn bd (.slice (some ⟨q, 0, none⟩) l.length pc)) w w2) := fun hs w1 w2 b1 m2 k2 => by
        rw [kd_yes hx hs]
        exact ⟨(HH.out.1.later b1).dm m2 k2, (HH.out.2.trans (Kp.of_below b1)).trans (fr_d k2)⟩
      have HNO : Hid (surv keep j = false → ∀ w1, Below wr.heap.size wr w1 → Sq B g bn bd (.slice (some ⟨q, 0, none⟩) l.length pc) (tot (now s)) (now s) (kdN keep l s.dur (j + 1)) l.length (wcs bd l) s w1 ∧ Kp (Fr g bn bd (.slice (some ⟨q, 0, none⟩) l.length pc)) w w1) := fun hs w1 b1 => by
        rw [kd_no hx hs]
        exact ⟨HH.out.1.later b1, HH.out.2.trans (Kp.of_below b1)⟩
      obtain ⟨f, hf⟩ : ∃ f, fnV bd x.cut = .func (.func f) #[.map (some bd)] #[] := ⟨_, rfl⟩
      obtain ⟨xk, hxk⟩ : ∃ xk, x.key = xk := ⟨_, rfl⟩
      obtain ⟨xd, hxd⟩ : ∃ xd, x.data = xd := ⟨_, rfl⟩
      rw [hf] at d0 HL
      rw [hxk] at d1 HL
      rw [hxd] at d2 HL
      have HB : Hid (∀ o, Below wr.heap.size wr (wr.alloc o)) := fun o => (Below.refl _ wr).alloc (Nat.le_refl _) _
      have CV : Hid (∀ w, Calls _ _ _ _ _) := fun w => survC keep j w hk (by omega)
      clear HH hok hx hf hxk hxd
      rw [Nat.mul_comm] at d0 d1 d2
      cases hs : surv keep j with
      | true =>
        rw [hs] at CV
        go_wp2_with (first | (go_at_call 35; refine (CV.out _).mono ?_; rintro _ _ ⟨rfl, hw⟩; rw [hw]; clear hw) | (go_at_call 36; refine (HL.out _ (HB.out _)).mono ?_; rintro _ w3 ⟨rfl, m3, k3⟩; have F3 : Hid _ := HNX.out hs _ _ (HB.out _) m3 k3; clear m3 k3) | go_in)
        go_roundw
        case rel => exact ⟨j + 1, by go_num, by omega, F3.out⟩
        case measure => simp [intOf]; omega
      | false =>
        rw [hs] at CV
        go_wp2_with (first | (go_at_call 35; refine (CV.out _).mono ?_; rintro _ _ ⟨rfl, hw⟩; rw [hw]; clear hw) | go_in)
        go_roundw
        case rel => exact ⟨j + 1, by go_num, by omega, HNO.out hs _ (HB.out _)⟩
        case measure => simp [intOf]; omega
    · have hlt' : ¬ (j : Int) < l.length := by omega
      have hjl : j = l.length := by omega
      subst hjl
      obtain ⟨rd, HRD⟩ : ∃ rd, Hid (kdN keep l s.dur l.length = rd) := ⟨_, rfl⟩
      have G2 : Hid (Sq B g bn bd (.slice pa l.length pc) (tot (now s)) (now s) rd l.length (wcs bd l) s wr ∧ Kp (Fr g bn bd (.slice pa l.length pc)) w wr) := by rw [← HRD.out]; exact HH.out
      have OD : Hid (OkR rd ∧ Srt rd ∧ rd.length < 3518437208883) := by rw [← HRD.out]; exact ⟨ok_kd OK.out.dur HPW.out _, srt_kd OK.out.srt _, by have := len_kd keep l s.dur l.length; omega⟩
      have c22 := G2.out.1.row.c2
      clear HH
      go_wp2_with fail
      go_loopw [31] (fun i wr => ∃ j : Nat, i = .int .i64 j ∧ j ≤ l.length ∧ Hid (Sq B g bn bd (.slice pa l.length pc) (tot (tbN rd l (now s) j)) (tbN rd l (now s) j) rd l.length (wcs bd l) s wr ∧ Kp (Fr g bn bd (.slice pa l.length pc)) w wr)) (fun i _ => (l.length - intOf i).toNat)
      case atStart => exact ⟨0, rfl, Nat.zero_le _, G2.out⟩
      case round =>
        clear c22 G2
        obtain ⟨j, rfl, hj, HH⟩ := hrel
        by_cases hlt : j < l.length
        · have hlt' : (j : Int) < l.length := by omega
          obtain ⟨x, hx⟩ : ∃ x, l[j]? = some x := ⟨_, List.getElem?_eq_getElem hlt⟩
          obtain ⟨q, c, e, d0, d1, d2⟩ := pend_cells HH.out.1 j x hx
          injection e with e1 _ e2
          subst e1 e2
          have hok : OkW x := HPW.out x (List.mem_of_getElem? hx)
          have HT : Hid (∀ w1, Below wr.heap.size wr w1 → Calls _ _ _ _ _) := fun w1 b1 => takeBackC (HH.out.1.later b1) x.key (by have := hok.2.1; omega) (ok_tbN OD.out.1 OK.out.now j) OD.out.1 (by have := len_tbN rd (now s) l j; have := len_do s.dur s.pend; rw [HLL.out] at this; unfold now; rw [HLL.out]; unfold now at *; rw [HLL.out] at *; omega)
          have HNX : Hid (∀ w1 w2, Below wr.heap.size wr w1 → Sq B g bn bd (.slice (some ⟨q, 0, none⟩) l.length pc) (tot (tb rd (tbN rd l (now s) j) x.key)) (tb rd (tbN rd l (now s) j) x.key) rd l.length (wcs bd l) s w2 → Kp (Fr g bn bd (.slice (some ⟨q, 0, none⟩) l.length pc)) w1 w2 → Sq B g bn bd (.slice (some ⟨q, 0, none⟩) l.length pc) (tot (tbN rd l (now s) (j + 1))) (tbN rd l (now s) (j + 1)) rd l.length (wcs bd l) s w2 ∧ Kp (Fr g bn bd (.slice (some ⟨q, 0, none⟩) l.length pc)) w w2) := fun w1 w2 b1 m2 k2 => by
            rw [tb_next hx]
            exact ⟨m2, (HH.out.2.trans (Kp.of_below b1)).trans k2⟩
          obtain ⟨f, hf⟩ : ∃ f, fnV bd x.cut = .func (.func f) #[.map (some bd)] #[] := ⟨_, rfl⟩
          obtain ⟨xk, hxk⟩ : ∃ xk, x.key = xk := ⟨_, rfl⟩
          obtain ⟨xd, hxd⟩ : ∃ xd, x.data = xd := ⟨_, rfl⟩
          rw [hf] at d0
          rw [hxk] at d1 HT HNX
          rw [hxd] at d2
          have HB : Hid (∀ o, Below wr.heap.size wr (wr.alloc o)) := fun o => (Below.refl _ wr).alloc (Nat.le_refl _) _
          clear HH hok hx hf hxk hxd
          rw [Nat.mul_comm] at d0 d1 d2
          go_wp2_with (first | (go_at_call 37; refine (HT.out _ (HB.out _)).mono ?_; rintro _ w3 ⟨rfl, m3, k3⟩; have F3 : Hid _ := HNX.out _ _ (HB.out _) m3 k3; clear m3 k3) | go_in)
          go_roundw
          case rel => exact ⟨j + 1, by go_num, by omega, F3.out⟩
          case measure => simp [intOf]; omega
        · have hlt' : ¬ (j : Int) < l.length := by omega
          have hjl : j = l.length := by omega
          subst hjl
          have G3 : Hid (Sq B g bn bd (.slice pa l.length pc) (tot rd) rd rd l.length (wcs bd l) s wr ∧ Kp (Fr g bn bd (.slice pa l.length pc)) w wr) := by
            have h1 := tb_all (keep := keep) (l := l) OK.out.srt
            rw [HRD.out] at h1
            have h2 := HH.out
            have e : now s = l.foldl doW s.dur := by unfold now; rw [HLL.out]
            rw [e, h1] at h2
            exact h2
          have c2 := G3.out.1.row.c2
          have f2 := G3.out.1.row.fz 2
          have Q1 : Hid (Sq B g bn bd (.slice none 0 0) (tot rd) rd rd 0 [] s (wr.setCell ⟨g, 2, none⟩ (.slice none 0 0))) := G3.out.1.pv (World.ownsRow_nil _ _ _ _)
          have f5 := Q1.out.row.fz 5
          have c5 := Q1.out.row.c5
          have Q2 : Hid (Sq B g bn bd (.slice none 0 0) (tot rd) rd rd 0 [] { s with armed := 0 } ((wr.setCell ⟨g, 2, none⟩ (.slice none 0 0)).setCell ⟨g, 5, none⟩ (.int .i64 0))) := Q1.out.st (Q1.out.row.set5 0) (Kp.setCell _ _ _ _ rfl)
          have f6 := Q2.out.row.fz 6
          have c6 := Q2.out.row.c6
          have Q3 : Hid (Sq B g bn bd (.slice none 0 0) (tot rd) rd rd 0 [] { s with armed := 0, off := false } (((wr.setCell ⟨g, 2, none⟩ (.slice none 0 0)).setCell ⟨g, 5, none⟩ (.int .i64 0)).setCell ⟨g, 6, none⟩ (.bool false))) := Q2.out.st (Q2.out.row.set6 false) (Kp.setCell _ _ _ _ rfl)
          have f7 := Q3.out.row.fz 7
          have c7 := Q3.out.row.c7
          have ea : ((s.age + 1 : Nat) : Int) = (s.age : Int) + 1 := by omega
          have Q4 : Hid (Sq B g bn bd (.slice none 0 0) (tot rd) rd rd 0 [] { s with armed := 0, off := false, age := s.age + 1 } ((((wr.setCell ⟨g, 2, none⟩ (.slice none 0 0)).setCell ⟨g, 5, none⟩ (.int .i64 0)).setCell ⟨g, 6, none⟩ (.bool false)).setCell ⟨g, 7, none⟩ (.int .i64 ((s.age : Int) + 1)))) := by
            have := Q3.out.st (Q3.out.row.set7 (s.age + 1)) (Kp.setCell _ _ _ _ rfl)
            rw [ea] at this
            exact this
          have Q5 : Hid (Rn B g bn bd (.slice pa l.length pc) (crashS s keep) w ((((wr.setCell ⟨g, 2, none⟩ (.slice none 0 0)).setCell ⟨g, 5, none⟩ (.int .i64 0)).setCell ⟨g, 6, none⟩ (.bool false)).setCell ⟨g, 7, none⟩ (.int .i64 ((s.age : Int) + 1)))) := by
            have e : crashS s keep = { ({ s with armed := 0, off := false, age := s.age + 1 } : S) with dur := rd, pend := [] } := by unfold crashS; rw [HLL.out, HRD.out]
            rw [e]
            refine ⟨.slice none 0 0, sq_settled Q4.out ?_, (((G3.out.2.trans (fr_g (Kp.setCell _ _ _ _ rfl))).trans (fr_g (Kp.setCell _ _ _ _ rfl))).trans (fr_g (Kp.setCell _ _ _ _ rfl))).trans (fr_g (Kp.setCell _ _ _ _ rfl)), fun k hk => absurd hk (by simp [Value.ownBlock])⟩
            exact ⟨OD.out.1, OD.out.2.1, (by intro x hx; cases hx), OK.out.cap0, OK.out.cap1, Nat.zero_le _, by show s.age + 1 ≤ _; omega, by have := OD.out.2.2; simpa using this⟩
          have hwa : IntKind.i64.wrap ((s.age : Int) + 1) = (s.age : Int) + 1 := by rw [← ea]; exact wrap_is _ (by omega)
          clear HH G3 Q1 Q2 Q3 Q4 ea
          go_wp2
          go_end0
          exact ⟨rfl, Q5.out⟩
end Go.Proofs.YtmindflfjocjlaaGreat.yn
