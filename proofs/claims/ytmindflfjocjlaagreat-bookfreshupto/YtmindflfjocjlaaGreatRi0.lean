import Derived.Test.YtmindflfjocjlaaGreatRh0
import Derived.Test.YtmindflfjocjlaaGreatQ06
namespace Go.Proofs.YtmindflfjocjlaaGreat.ji
open Go.RowKit Go.PlainAid Go.Maps Go.Shelf
open Go.Proofs.YtmindflfjocjlaaGreat.kp Go.Proofs.YtmindflfjocjlaaGreat.ka Go.Proofs.YtmindflfjocjlaaGreat.ya Go.Proofs.YtmindflfjocjlaaGreat.yb Go.Proofs.YtmindflfjocjlaaGreat.yc Go.Proofs.YtmindflfjocjlaaGreat.yd Go.Proofs.YtmindflfjocjlaaGreat.ye Go.Proofs.YtmindflfjocjlaaGreat.yf Go.Proofs.YtmindflfjocjlaaGreat.yi
open Go.Proofs.YtmindflfjocjlaaGreat.nb (str str_size)
open Go.Proofs.YtmindflfjocjlaaGreat.tpa (lowB lowB_length)
open Go.Proofs.YtmindflfjocjlaaGreat.tqa Go.Proofs.YtmindflfjocjlaaGreat.tbd Go.Proofs.YtmindflfjocjlaaGreat.tbe
open Go.Proofs.YtmindflfjocjlaaGreat.tqb (over spaceT letterB)
open Go.Proofs.YtmindflfjocjlaaGreat.tda (big8R)
open Go.Proofs.YtmindflfjocjlaaGreat.xc (Ds Rd Dt)
open Go.Proofs.YtmindflfjocjlaaGreat.xf (cutD)
open Go.Proofs.YtmindflfjocjlaaGreat.xh (keysD)
open Go.Proofs.YtmindflfjocjlaaGreat.je (rd_pre)
set_option linter.unusedVariables false
set_option linter.unusedSimpArgs false
theorem Rd.trans {g : Nat} {dv wv wv' vv : Value} {s' s'' : S} {w w1 w2 : World} (r : Rd 0 g wv s' w w1) (h : Ds 0 g dv wv' vv s' w1) (r2 : Rd 0 g wv' s'' w1 w2) : Rd 0 g wv s'' w w2 := by
  obtain ⟨a, b, c, h1, k1, n1⟩ := r
  have e : b = wv' := by
    have x := h1.row.c2
    have y := h.row.c2
    rw [x] at y
    exact Option.some.inj y
  subst e
  obtain ⟨a2, b2, c2, h2, k2, n2⟩ := r2
  refine ⟨a2, b2, c2, h2, ⟨k2.os.trans k1.os, k2.tape.trans k1.tape, k2.output.trans k1.output, Nat.le_trans k1.size k2.size, fun j hj hn => ?_⟩, fun j hj => ?_⟩
  · refine (k2.block j (Nat.lt_of_lt_of_le hj k1.size) ?_).trans (k1.block j hj hn)
    rintro (e | e)
    · exact hn (.inl e)
    · rcases n1 j e with e | e
      · exact hn (.inr e)
      · omega
  · rcases n2 j hj with e | e
    · exact n1 j e
    · exact .inr (Nat.le_trans k1.size e)
theorem row_apartD {T z B' g n : Nat} {dv wv vv v : Value} {s : S} {xs : List Value} {w : World} (h1 : T ≠ 48) (h2 : T ≠ 81) (h : Ds 0 g dv wv vv s w) (o : w.ownsRow B' T z v n xs) : ∀ j, xc.Fd g wv j → some j ≠ v.ownBlock := by
  rintro j (rfl | hj)
  · exact own_tag o h.row h1
  · obtain ⟨cur, f, hc⟩ : ∃ cur f, w.heap[j]? = some (.cells cur 81 f) := by
      rcases h.wl.2 with ⟨e, _⟩ | ⟨g', cap, cur', e, _, h3, _⟩
      · rw [e] at hj; cases hj
      · rw [e] at hj
        have e : j = g' := Option.some.inj hj
        exact ⟨_, _, by rw [e]; exact h3⟩
    exact own_tag o hc h2
set_option maxRecDepth 100000 in
set_option maxHeartbeats 6400000 in
theorem wipeR {g : Nat} {dv wv vv : Value} {s : S} {w : World} (sp : Int) (h : Ds 0 g dv wv vv s w) (h1 : sp ≤ 9223372036854775807) (hl : 2 * (s.dur.length + s.pend.length) + 1 < 3518437208883) :
    Calls Tryz.prog 25 #[.pointer (some ⟨g, 0, none⟩), .int .i64 sp] w fun e w' => e = .returned (.tuple #[.int .i64 (wipeS s sp).1.1, .int .i64 (wipeS s sp).1.2]) ∧ Rd 0 g wv (wipeS s sp).2 w w' := by
  have H : Hid (Ds 0 g dv wv vv s w) := h
  have HB : Hid (Below w.heap.size w w) := Below.refl _ _
  unfold wipeS
  by_cases hs0 : sp < 0
  · rw [if_pos hs0]
    clear h
    go_enter Tryz.func25, Tryz.ntmps25
    go_wp2
    go_ret2
    exact ⟨rfl, xc.Rd.refl H.out HB.out⟩
  rw [if_neg hs0]
  have CD : Hid (Calls _ _ _ _ _) := xc.downD h
  cases ho : s.off with
  | true =>
    rw [ho] at CD
    rw [if_pos rfl]
    clear h
    go_enter Tryz.func25, Tryz.ntmps25
    go_wp2_with fail
    refine CD.out.mono ?_
    rintro _ _ ⟨rfl, hw⟩; rw [hw]; clear hw
    go_wp2
    go_ret2
    exact ⟨rfl, xc.Rd.refl H.out HB.out⟩
  | false =>
    rw [ho] at CD
    rw [if_neg (by simp)]
    have C1 : Hid (∀ w, Calls _ _ _ _ _) := fun w => big8R sp w (by omega) h1
    have HE : spaceT sp = ⟨#[66]⟩ ++ str (lowB sp 8) := by rw [letterB, str_app]; rfl
    have hz8 : (str (lowB sp 8)).size = 8 := by rw [str_size, lowB_length]
    have C2 : Hid (∀ w1, Below w.heap.size w w1 → Calls _ _ _ _ _) := fun w1 b => keysD (spaceT sp) (h.later b)
    have hko := keys_ok h.ok (spaceT sp)
    have hkl : (keysS s (spaceT sp)).length ≤ s.dur.length + s.pend.length := by
      unfold keysS
      split
      · exact Nat.zero_le _
      · unfold keysL
        rw [List.length_map]
        exact Nat.le_trans (List.length_filter_le _ _) (len_do _ _)
    rw [HE] at C2 hko hkl ⊢
    generalize str (lowB sp 8) = t8 at *
    obtain ⟨ks, HKS⟩ : ∃ ks, Hid (keysS s (⟨#[66]⟩ ++ t8) = ks) := ⟨_, rfl⟩
    rw [HKS.out] at C2 hko hkl ⊢
    have hlen := hko.1
    have HZ : Hid _ := hko.2
    have hcut : Hid (∀ s' dv' wv' vv' w1 (k : ByteArray), Ds 0 g dv' wv' vv' s' w1 → s'.dur.length + s'.pend.length + 1 < 3518437208883 → Calls _ _ _ _ _) := fun s' dv' wv' vv' w1 k h' hl' => cutD k h' (Nat.zero_le _) hl'
    have HL0 : Hid (2 * (s.dur.length + s.pend.length) + 1 < 3518437208883 ∧ ks.length ≤ s.dur.length + s.pend.length) := ⟨hl, hkl⟩
    obtain ⟨rs, HRS⟩ : ∃ rs, Hid (wipeL ks s = rs) := ⟨_, rfl⟩
    rw [HRS.out]
    obtain ⟨fv, HFV⟩ : ∃ fv, Hid ((if rs.1 = 0 then (((ks.length : Int), (0 : Int)), rs.2) else ((0, rs.1), rs.2)) = fv) := ⟨_, rfl⟩
    rw [HFV.out]
    clear h hko hl hkl ho HE
    go_enter Tryz.func25, Tryz.ntmps25
    go_wp2_with fail
    refine CD.out.mono ?_
    rintro _ _ ⟨rfl, hw⟩; rw [hw]; clear hw
    go_wp2_with fail
    refine (C1.out _).mono ?_
    rintro _ w1 ⟨rfl, b1⟩
    go_wp2_with fail
    refine (C2.out _ b1).mono ?_
    rintro _ w2 ⟨v, rfl, hrow, b2⟩
    have B2 : Hid (Below w.heap.size w w2) := over b1 b2
    have O2 : Hid (w2.ownsRow w1.heap.size 9 1 v ks.length (ks.map Value.string)) := hrow
    clear b1 b2 hrow
    obtain ⟨ka', kc, hform⟩ := own_formS O2.out
    subst hform
    go_wp2_with fail
    go_loopw [8] (fun iv wr => ∃ (i : Nat) (s' : S), i ≤ ks.length ∧ iv = .int .i64 i ∧ Hid (wipeL (ks.drop i) s' = rs ∧ s'.dur.length + s'.pend.length ≤ s.dur.length + s.pend.length + i) ∧ Hid (Rd 0 g wv s' w2 wr ∧ wr.ownsRow w1.heap.size 9 1 (.slice ka' ks.length kc) ks.length (ks.map Value.string))) (fun iv _ => (ks.length - intOf iv).toNat)
    case atStart => exact ⟨0, s, by omega, rfl, ⟨HRS.out, by omega⟩, xc.Rd.refl (H.out.later B2.out) (Below.refl _ _), O2.out⟩
    case round =>
      obtain ⟨i, s', hil, rfl, HW, HH⟩ := hrel
      by_cases hlt : i < ks.length
      · have g1 : (i : Int) < ks.length := by omega
        obtain ⟨x, hx⟩ : ∃ x, ks[i]? = some x := ⟨_, List.getElem?_eq_getElem hlt⟩
        obtain ⟨dv', wv', vv', h', k', n'⟩ := HH.out.1
        have hl2 : s'.dur.length + s'.pend.length + 1 < 3518437208883 := by have h1 := HW.out.2; have h2 := HL0.out; omega
        have CC : Hid (Calls _ _ _ _ _) := hcut.out s' dv' wv' vv' wr x h' hl2
        have HS' : Hid (Ds 0 g dv' wv' vv' s' wr) := h'
        have HD : Hid _ := drop_next hx
        have HCL : Hid _ := cut_len s' x
        obtain ⟨a', c', e0, _, hcl⟩ := own_readsT HH.out.2
        injection e0 with e1 e2 e3
        subst e1
        rcases hcl with h0 | ⟨lb, lo', rfl, hcl⟩
        · omega
        have cx : wr.cell? ⟨lb, lo' + i, none⟩ = some (.string x) := by
          have h := hcl i hlt
          rw [List.getD, hx] at h
          exact h
        clear hcl e2 e3 hx h' k' n' hl2
        obtain ⟨cs, HCS⟩ : ∃ cs, Hid (cutS s' x = cs) := ⟨_, rfl⟩
        rw [HCS.out] at CC HCL
        have HWW : Hid ((if cs.1 = 0 then wipeL (ks.drop (i + 1)) cs.2 else cs) = rs) := by
          have h := HW.out.1
          rw [HD.out, wipeL, HCS.out] at h
          exact h
        obtain ⟨ce, c2⟩ := cs
        by_cases hce : ce = 0
        · subst hce
          have HW2 : Hid (wipeL (ks.drop (i + 1)) c2 = rs) := by have h9 := HWW.out; rw [if_pos rfl] at h9; exact h9
          go_wp2_with fail
          refine CC.out.mono ?_
          rintro _ w5 ⟨rfl, r5⟩
          have R5 : Hid (Rd 0 g wv' c2 wr w5) := r5
          clear r5
          go_wp2
          go_roundw
          case rel =>
            refine ⟨i + 1, c2, by omega, by go_num, ⟨HW2.out, ?_⟩, ?_, ?_⟩
            · have h1 : c2.dur = s'.dur ∧ c2.pend.length ≤ s'.pend.length + 1 := HCL.out
              have h2 := HW.out.2
              rw [h1.1]; omega
            · exact Rd.trans HH.out.1 HS'.out R5.out
            · obtain ⟨_, _, _, _, k5, _⟩ := R5.out
              exact own_kp HH.out.2 k5 (fun j hj hF => row_apartD (by decide) (by decide) HS'.out HH.out.2 j hF hj)
          case measure => simp [intOf]; omega
        · have hce' : (ce != 0) = true := by rw [bne_iff_ne]; exact hce
          have HW2 : Hid (rs = (ce, c2) ∧ ¬ rs.1 = 0) := by
            have h := HWW.out
            rw [if_neg hce] at h
            exact ⟨h.symm, by rw [← h]; exact hce⟩
          clear hce
          go_wp2_with fail
          refine CC.out.mono ?_
          rintro _ w5 ⟨rfl, r5⟩
          have R5 : Hid (Rd 0 g wv' c2 wr w5) := r5
          clear r5
          go_wp2
          go_ret2
          have hfv : fv = ((0, ce), c2) := by rw [← HFV.out, if_neg HW2.out.2, HW2.out.1]
          subst hfv
          exact ⟨rfl, rd_pre B2.out (Rd.trans HH.out.1 HS'.out R5.out)⟩
      · have g1 : ¬ (i : Int) < ks.length := by omega
        obtain rfl : i = ks.length := by omega
        have HR : Hid (rs = (0, s')) := by
          have h := HW.out.1
          rw [List.drop_length] at h
          exact h.symm
        go_wp2
        go_ret2
        have hfv : fv = (((ks.length : Int), (0 : Int)), s') := by rw [← HFV.out, HR.out, if_pos rfl]
        subst hfv
        exact ⟨rfl, rd_pre B2.out HH.out.1⟩
end Go.Proofs.YtmindflfjocjlaaGreat.ji

namespace Go.Proofs.YtmindflfjocjlaaGreat.jj
open Go.RowKit Go.PlainAid Go.Maps Go.Shelf
open Go.Proofs.YtmindflfjocjlaaGreat.ya Go.Proofs.YtmindflfjocjlaaGreat.yc Go.Proofs.YtmindflfjocjlaaGreat.ye Go.Proofs.YtmindflfjocjlaaGreat.yf Go.Proofs.YtmindflfjocjlaaGreat.yi Go.Proofs.YtmindflfjocjlaaGreat.yk Go.Proofs.YtmindflfjocjlaaGreat.yl Go.Proofs.YtmindflfjocjlaaGreat.ym Go.Proofs.YtmindflfjocjlaaGreat.yo
open Go.Proofs.YtmindflfjocjlaaGreat.yt (isz_ins isz_del wW)
open Go.Proofs.YtmindflfjocjlaaGreat.tqa Go.Proofs.YtmindflfjocjlaaGreat.tba Go.Proofs.YtmindflfjocjlaaGreat.tbe
open Go.Proofs.YtmindflfjocjlaaGreat.ec (bdropS)
set_option linter.unusedVariables false
set_option linter.unusedSimpArgs false
-- how a store grows: a cut is written where a record is, so cuts are no more than what was there and what was put
def wP (x : W) : Nat := if x.cut then 0 else wW x
def pP : List W → Nat
  | [] => 0
  | x :: l => wP x + pP l
def aN : List W → Nat
  | [] => 0
  | x :: l => (if x.cut then 0 else 1) + aN l
def cN : List W → Nat
  | [] => 0
  | x :: l => (if x.cut then 1 else 0) + cN l
theorem pP_app (l m : List W) : pP (l ++ m) = pP l + pP m := by
  induction l with
  | nil => simp [pP]
  | cons x l ih => simp [pP, ih]; omega
theorem aN_app (l m : List W) : aN (l ++ m) = aN l + aN m := by
  induction l with
  | nil => simp [aN]
  | cons x l ih => simp [aN, ih]; omega
theorem cN_app (l m : List W) : cN (l ++ m) = cN l + cN m := by
  induction l with
  | nil => simp [cN]
  | cons x l ih => simp [cN, ih]; omega
theorem ac_len (l : List W) : l.length = aN l + cN l := by
  induction l with
  | nil => rfl
  | cons x l ih => simp only [List.length_cons, aN, cN]; split <;> omega
theorem aN_pP (l : List W) : aN l ≤ pP l := by
  induction l with
  | nil => exact Nat.le_refl _
  | cons x l ih => simp only [aN, pP, wP, wW]; split <;> omega
theorem len_isz (r : List Rec) : r.length ≤ isz r := by
  induction r with
  | nil => exact Nat.zero_le _
  | cons x r ih => simp only [List.length_cons, isz]; omega
theorem isz_doP (r : List Rec) (x : W) : isz (doW r x) ≤ isz r + wP x := by
  unfold doW wP
  split
  · have := isz_del x.key r; omega
  · have := isz_del x.key r; rw [put, isz_ins]; simp only [wW]; omega
theorem isz_nowP (r : List Rec) (l : List W) : isz (l.foldl doW r) ≤ isz r + pP l := by
  induction l generalizing r with
  | nil => simp [pP]
  | cons x l ih => have := ih (doW r x); have := isz_doP r x; simp only [List.foldl_cons, pP]; omega
theorem isz_kdP (keep : ByteArray) (l : List W) (r : List Rec) (j : Nat) : isz (kdN keep l r j) ≤ isz r + pP (l.take j) := by
  induction j with
  | zero => simp [kdN, pP]
  | succ j ih =>
    unfold kdN
    split
    · rename_i x hx
      rw [List.take_add_one, hx, pP_app]
      have e : pP (some x).toList = wP x := by simp [pP]
      rw [e]
      split
      · have := isz_doP (kdN keep l r j) x; omega
      · omega
    · rename_i hx
      rw [List.take_add_one, hx]
      simpa using ih
theorem len_cut {k : ByteArray} {r : List Rec} (h : (rget k r).isSome = true) : (del k r).length + 1 ≤ r.length := by
  obtain ⟨d, hd⟩ := Option.isSome_iff_exists.1 h
  have hm := get_mem hd
  have : (del k r).length < r.length := by
    unfold del
    rw [List.length_filter_lt_length_iff_exists]
    exact ⟨_, hm, by simp⟩
  omega
structure Gr (s : S) (T a : Nat) : Prop where
  m : isz s.dur + pP s.pend ≤ T
  c : cN s.pend + (now s).length ≤ s.dur.length + aN s.pend
  age : s.age ≤ a
theorem Gr.mono {s : S} {T T' a a' : Nat} (h : Gr s T a) (h1 : T ≤ T') (h2 : a ≤ a') : Gr s T' a' := ⟨Nat.le_trans h.m h1, h.c, Nat.le_trans h.age h2⟩
theorem Gr.nums {s : S} {T a : Nat} (h : Gr s T a) : s.dur.length + s.pend.length ≤ 2 * T := by
  have h1 := h.m
  have h2 := h.c
  have h3 := ac_len s.pend
  have h4 := aN_pP s.pend
  have h5 := len_isz s.dur
  omega
theorem Gr.spend {s : S} {T a : Nat} (h : Gr s T a) : Gr (spendS s).2 T a :=
  ⟨by rw [dur_spend, pend_spend]; exact h.m, by rw [dur_spend, pend_spend, now_spend]; exact h.c, by rw [age_spend]; exact h.age⟩
theorem Gr.put {s : S} {T a : Nat} (h : Gr s T a) (k d : ByteArray) : Gr (putS s k d).2 (T + (k.size + d.size + 5)) a := by
  unfold putS
  split
  · exact h.mono (by omega) (Nat.le_refl _)
  · split
    · split
      · exact h.mono (by omega) (Nat.le_refl _)
      · refine Gr.spend ⟨?_, ?_, h.age⟩
        · show isz s.dur + pP (s.pend ++ [_]) ≤ _
          rw [pP_app]
          have := h.m
          simp only [pP, wP, wW, Bool.false_eq_true, if_false]; omega
        · rw [now_add]
          have h1 := len_doW (now s) ⟨false, k, d⟩
          have h2 := h.c
          show cN (s.pend ++ [_]) + _ ≤ s.dur.length + aN (s.pend ++ [_])
          rw [cN_app, aN_app]
          simp only [cN, aN, Bool.false_eq_true, if_false]; omega
    · exact h.mono (by omega) (Nat.le_refl _)
theorem Gr.cut {s : S} {T a : Nat} (h : Gr s T a) (k : ByteArray) : Gr (cutS s k).2 T a := by
  unfold cutS
  split
  · exact h
  · split
    · rename_i hr
      refine Gr.spend ⟨?_, ?_, h.age⟩
      · show isz s.dur + pP (s.pend ++ [_]) ≤ _
        rw [pP_app]
        have := h.m
        simp only [pP, wP, if_true]; omega
      · rw [now_add]
        have h1 := len_cut hr
        have h2 := h.c
        show cN (s.pend ++ [_]) + (del k (now s)).length ≤ s.dur.length + aN (s.pend ++ [_])
        rw [cN_app, aN_app]
        simp only [cN, aN, if_true]; omega
    · exact h
theorem Gr.sync {s : S} {T a : Nat} (h : Gr s T a) : Gr (syncS s).2 T a := by
  unfold syncS
  split
  · exact h
  · split
    · exact h.spend
    · have h1 := isz_nowP s.dur s.pend
      have h2 := h.m
      refine ⟨?_, ?_, by show (spendS s).2.age ≤ a; rw [age_spend]; exact h.age⟩
      · show isz (now s) + 0 ≤ T
        unfold now; omega
      · show 0 + (now s).length ≤ (now s).length + 0
        omega
theorem Gr.crash {s : S} {T a : Nat} (h : Gr s T a) (keep : ByteArray) : Gr (crashS s keep) T (a + 1) := by
  have h1 := isz_kdP keep s.pend s.dur s.pend.length
  rw [List.take_length] at h1
  have h2 := h.m
  have h3 := h.age
  refine ⟨?_, ?_, ?_⟩
  · show isz (kdN keep s.pend s.dur s.pend.length) + 0 ≤ T
    omega
  · show 0 + (kdN keep s.pend s.dur s.pend.length).length ≤ (kdN keep s.pend s.dur s.pend.length).length + 0
    omega
  · show s.age + 1 ≤ a + 1
    omega
theorem Gr.arm {s : S} {T a : Nat} (h : Gr s T a) (n : Int) : Gr (armS s n) T a := by
  unfold armS
  split
  · exact h
  · exact ⟨h.m, h.c, h.age⟩
theorem Gr.wipeL {T a : Nat} (ks : List ByteArray) : ∀ {s : S}, Gr s T a → Gr (wipeL ks s).2 T a := by
  induction ks with
  | nil => intro s h; exact h
  | cons k ks ih =>
    intro s h
    unfold tbe.wipeL
    split
    · exact ih (h.cut k)
    · exact h.cut k
theorem Gr.wipe {s : S} {T a : Nat} (h : Gr s T a) (sp : Int) : Gr (wipeS s sp).2 T a := by
  unfold wipeS
  split
  · exact h
  · split
    · exact h
    · split
      · exact Gr.wipeL _ h
      · exact Gr.wipeL _ h
-- a step of the law
structure Stp where
  d : Int
  sp : Int
  k : Int
  n : Int
  m : Int
  key : ByteArray
  text : ByteArray
def recS (s : S) (o : Stp) : S := if o.d = 1 then (bputS s o.sp o.k o.n o.text).2 else if o.d = 3 then (bdropS s o.sp o.k o.n).2 else if o.d = 6 then (wipeS s o.sp).2 else s
def frB (k n : Int) (p : ByteArray) : ByteArray := if 1 ≤ k ∧ k ≤ 255 ∧ 0 ≤ n ∧ p.size ≤ 524288 then frameT k n p else ByteArray.empty
def keB (sp k n : Int) : ByteArray := if 0 ≤ sp ∧ 1 ≤ k ∧ k ≤ 255 ∧ 0 ≤ n then keyT sp k n else ByteArray.empty
def othS (s : S) (o : Stp) : S := if o.d = 7 then (putS s o.key o.text).2 else if o.d = 8 then (putS s (keB o.sp o.k o.m) (frB o.k o.n o.text)).2 else if o.d = 9 then (syncS s).2 else if o.d = 10 then armS s o.m else if o.d = 11 then crashS s o.text else s
def stp (s : S) (o : Stp) : S := othS (recS s o) o
theorem frB_size (k n : Int) (p : ByteArray) : (frB k n p).size ≤ p.size + 18 := by
  unfold frB; split
  · rw [frameT_size]; omega
  · exact Nat.zero_le _
theorem keB_size (sp k n : Int) : (keB sp k n).size ≤ 18 := by
  unfold keB; split
  · rw [keyT_size]; omega
  · exact Nat.zero_le _
def wS (o : Stp) : Nat := o.key.size + o.text.size + 8
theorem Gr.recs {s : S} {T a : Nat} (h : Gr s T a) (o : Stp) : Gr (recS s o) (T + 8 * wS o) a ∧ (o.d ≠ 1 → Gr (recS s o) T a) := by
  unfold recS
  split
  · refine ⟨?_, fun e => absurd (by assumption) e⟩
    unfold bputS
    split
    · split
      · have h1 := h.put (keyT o.sp o.k o.n) (frameT o.k o.n o.text)
        rw [keyT_size, frameT_size] at h1
        exact h1.mono (by unfold wS; omega) (Nat.le_refl _)
      · exact h.mono (by omega) (Nat.le_refl _)
    · exact h.mono (by omega) (Nat.le_refl _)
  · split
    · have h1 : Gr (bdropS s o.sp o.k o.n).2 T a := by
        unfold bdropS
        split
        · exact h.cut _
        · exact h
      exact ⟨h1.mono (by omega) (Nat.le_refl _), fun _ => h1⟩
    · split
      · exact ⟨(h.wipe _).mono (by omega) (Nat.le_refl _), fun _ => h.wipe _⟩
      · exact ⟨h.mono (by omega) (Nat.le_refl _), fun _ => h⟩
theorem Gr.oth {s : S} {T a : Nat} (h : Gr s T a) (o : Stp) : Gr (othS s o) (T + 8 * wS o) (a + 1) ∧ (o.d = 1 → Gr (othS s o) T (a + 1)) := by
  unfold othS
  split
  · exact ⟨(h.put _ _).mono (by unfold wS; omega) (by omega), fun e => by omega⟩
  · split
    · have h1 := frB_size o.k o.n o.text
      have h2 := keB_size o.sp o.k o.m
      exact ⟨(h.put _ _).mono (by unfold wS; omega) (by omega), fun e => by omega⟩
    · split
      · exact ⟨h.sync.mono (by omega) (by omega), fun e => by omega⟩
      · split
        · exact ⟨(h.arm _).mono (by omega) (by omega), fun e => by omega⟩
        · split
          · exact ⟨(h.crash _).mono (by omega) (Nat.le_refl _), fun e => by omega⟩
          · exact ⟨h.mono (by omega) (by omega), fun _ => h.mono (Nat.le_refl _) (by omega)⟩
theorem Gr.stp {s : S} {T a : Nat} (h : Gr s T a) (o : Stp) : Gr (stp s o) (T + 8 * wS o) (a + 1) := by
  unfold jj.stp
  by_cases e : o.d = 1
  · exact (Gr.oth (h.recs o).1 o).2 e
  · exact (Gr.oth ((h.recs o).2 e) o).1
def tS : List Stp → Nat
  | [] => 0
  | o :: l => wS o + tS l
theorem tS_at (l : List Stp) (j : Nat) (o : Stp) (h : l[j]? = some o) : tS (l.take (j + 1)) = tS (l.take j) + wS o := by
  induction l generalizing j with
  | nil => simp at h
  | cons p l ih =>
    cases j with
    | zero => simp at h; subst h; simp [tS]
    | succ j => simp only [List.take_succ_cons, tS]; have := ih j (by simpa using h); omega
theorem tS_take (l : List Stp) (j : Nat) : tS (l.take j) ≤ tS l := by
  induction l generalizing j with
  | nil => simp
  | cons p l ih =>
    cases j with
    | zero => simp [tS]
    | succ j => simp only [List.take_succ_cons, tS]; have := ih j; omega
theorem len_tS (l : List Stp) : l.length ≤ tS l := by
  induction l with
  | nil => exact Nat.le_refl _
  | cons o l ih => simp only [tS, wS, List.length_cons]; omega
end Go.Proofs.YtmindflfjocjlaaGreat.jj

namespace Go.Proofs.YtmindflfjocjlaaGreat.jk
open Go.RowKit Go.PlainAid Go.Maps Go.Shelf
open Go.Proofs.YtmindflfjocjlaaGreat.kp Go.Proofs.YtmindflfjocjlaaGreat.ka Go.Proofs.YtmindflfjocjlaaGreat.ya Go.Proofs.YtmindflfjocjlaaGreat.yb Go.Proofs.YtmindflfjocjlaaGreat.yc Go.Proofs.YtmindflfjocjlaaGreat.yd Go.Proofs.YtmindflfjocjlaaGreat.ye Go.Proofs.YtmindflfjocjlaaGreat.yf Go.Proofs.YtmindflfjocjlaaGreat.yi Go.Proofs.YtmindflfjocjlaaGreat.yk Go.Proofs.YtmindflfjocjlaaGreat.yl Go.Proofs.YtmindflfjocjlaaGreat.ym
open Go.Proofs.YtmindflfjocjlaaGreat.tqa Go.Proofs.YtmindflfjocjlaaGreat.tba Go.Proofs.YtmindflfjocjlaaGreat.tbd Go.Proofs.YtmindflfjocjlaaGreat.tbe
open Go.Proofs.YtmindflfjocjlaaGreat.tqb (over keyC keyNo)
open Go.Proofs.YtmindflfjocjlaaGreat.yj
open Go.Proofs.YtmindflfjocjlaaGreat.ec (bdropS)
open Go.Proofs.YtmindflfjocjlaaGreat.xc (Ds Rd Dt)
open Go.Proofs.YtmindflfjocjlaaGreat.jg Go.Proofs.YtmindflfjocjlaaGreat.jj
set_option linter.unusedVariables false
set_option linter.unusedSimpArgs false
-- Drop (as Hg's)
theorem bdropC {B g bn bd : Nat} {pv : Value} {s : S} {w : World} (sp k n : Int) (h : Sr B g bn bd pv s w) (h1 : sp ≤ 9223372036854775807) (n1 : n ≤ 9223372036854775807) (hl : s.dur.length + s.pend.length + 1 < 3518437208883) (hB : B ≤ w.heap.size) :
    Calls Tryz.prog 22 #[.pointer (some ⟨g, 0, none⟩), .int .i64 sp, .int .i64 k, .int .i64 n] w fun e w' => e = .returned (.int .i64 (bdropS s sp k n).1) ∧ Rn B g bn bd pv (bdropS s sp k n).2 w w' := by
  have H : Hid (Sr B g bn bd pv s w) := h
  unfold bdropS
  by_cases hk : 0 ≤ sp ∧ 1 ≤ k ∧ k ≤ 255 ∧ 0 ≤ n
  · rw [if_pos hk]
    have CK : Hid (∀ w, Calls _ _ _ _ _) := fun w => keyC sp k n w hk.1 h1 hk.2.1 hk.2.2.1 hk.2.2.2 n1
    have zk := keyT_size sp k n
    have CC : Hid (∀ w1, Below w.heap.size w w1 → Calls _ _ _ _ _) := fun w1 b1 => cutC (keyT sp k n) (sr_later H.out b1) (by omega) hl (Nat.le_trans hB b1.size)
    generalize keyT sp k n = K at *
    clear h hk hl
    go_enter Tryz.func22, Tryz.ntmps22
    go_wp2_with fail
    refine (CK.out _).mono ?_
    rintro _ w1 ⟨rfl, b1⟩
    have B1 : Hid (Below w.heap.size w w1) := b1
    clear b1
    go_wp2_with fail
    refine (CC.out w1 B1.out).mono ?_
    rintro _ w2 ⟨rfl, r2⟩
    have R2 : Hid (Rn _ _ _ _ _ _ _ _) := r2
    clear r2
    go_wp2
    go_ret
    exact ⟨rfl, rn_pre B1.out R2.out⟩
  · rw [if_neg hk]
    have CK : Hid (∀ w, Calls _ _ _ _ _) := fun w => keyNo sp k n w hk
    clear h hk hl
    go_enter Tryz.func22, Tryz.ntmps22
    go_wp2_with fail
    refine (CK.out _).mono ?_
    rintro _ _ ⟨rfl, hw⟩; rw [hw]; clear hw
    go_wp2
    go_ret
    exact ⟨rfl, Rn.refl H.out⟩
-- the program's store and the document's, both in memory made since w0
theorem fr_not {B g bn bd T j : Nat} {pv : Value} {s : S} {w : World} {cur : Array Value} {f : Nat × Nat} (h : Sr B g bn bd pv s w) (h1 : T ≠ 72) (h2 : T ≠ 75) (hj : Fr g bn bd pv j) (hh : w.heap[j]? = some (.cells cur T f)) : False := by
  rcases hj with e | e | e | e
  · subst e
    have := h.row
    unfold St at this
    rw [this] at hh
    exact h1 (Obj.cells.inj (Option.some.inj hh)).2.1.symm
  · exact h.mn.ne hh e.symm
  · exact h.md.ne hh e.symm
  · exact own_tag h.pr hh (Ne.symm h2) e
theorem own_cs {w : World} {B t z n j : Nat} {v : Value} {xs : List Value} (o : w.ownsRow B t z v n xs) (hj : some j = v.ownBlock) : ∃ cur f, w.heap[j]? = some (.cells cur t f) := by
  rcases o.2 with ⟨rfl, _⟩ | ⟨g', cap, cur', rfl, _, h3, _⟩
  · cases hj
  · have e : j = g' := Option.some.inj hj
    exact ⟨_, _, by rw [e]; exact h3⟩
theorem fd_not {g T j : Nat} {dv wv vv : Value} {s : S} {w : World} {cur : Array Value} {f : Nat × Nat} (h : Ds 0 g dv wv vv s w) (h1 : T ≠ 48) (h2 : T ≠ 81) (hj : xc.Fd g wv j) (hh : w.heap[j]? = some (.cells cur T f)) : False := by
  rcases hj with e | e
  · subst e
    have hr : w.heap[j]? = _ := h.row
    rw [hr] at hh
    exact h1 (Obj.cells.inj (Option.some.inj hh)).2.1.symm
  · exact own_tag h.wl hh (Ne.symm h2) e
theorem ap {g bn bd g' : Nat} {pv dv wv vv : Value} {s t : S} {w : World} (h1 : Sr 0 g bn bd pv s w) (h2 : Ds 0 g' dv wv vv t w) (j : Nat) (hj : Fr g bn bd pv j) : j ≠ g' ∧ some j ≠ wv.ownBlock ∧ some j ≠ dv.ownBlock ∧ some j ≠ vv.ownBlock := by
  refine ⟨fun e => ?_, fun e => ?_, fun e => ?_, fun e => ?_⟩
  · subst e
    have hr : w.heap[j]? = _ := h2.row
    exact fr_not h1 (by decide) (by decide) hj hr
  · obtain ⟨cur, f, hc⟩ := own_cs h2.wl e
    exact fr_not h1 (by decide) (by decide) hj hc
  · obtain ⟨cur, f, hc⟩ := own_cs h2.dl e
    exact fr_not h1 (by decide) (by decide) hj hc
  · obtain ⟨cur, f, hc⟩ := own_cs h2.vl e
    exact fr_not h1 (by decide) (by decide) hj hc
structure Two (g bn bd g' : Nat) (s t : S) (w0 w : World) : Prop where
  ex : ∃ pv dv wv vv, Sr 0 g bn bd pv s w ∧ Ds 0 g' dv wv vv t w ∧ (∀ j, Fr g bn bd pv j → w0.heap.size ≤ j) ∧ ∀ j, xc.Fd g' wv j → w0.heap.size ≤ j
  bl : Below w0.heap.size w0 w
-- what a call leaves of a block of another kind
def Kst (T : Nat) (w w' : World) : Prop := ∀ (P : Nat) (cs : Array Value) (f : Nat × Nat), w.heap[P]? = some (.cells cs T f) → w'.heap[P]? = some (.cells cs T f)
theorem Kst.later {T : Nat} {w w' : World} (b : Below w.heap.size w w') : Kst T w w' := fun P cs f h => (b.block _ (Array.getElem?_eq_some_iff.1 h).1).trans h
section
variable {g bn bd g' : Nat} {s t : S} {w0 w w' : World}
theorem Two.later (h : Two g bn bd g' s t w0 w) (b : Below w.heap.size w w') : Two g bn bd g' s t w0 w' := by
  obtain ⟨⟨pv, dv, wv, vv, h1, h2, l1, l2⟩, bl⟩ := h
  exact ⟨⟨pv, dv, wv, vv, sr_later h1 b, h2.later b, l1, l2⟩, over bl b⟩
theorem Two.fst (h : Two g bn bd g' s t w0 w) : ∃ pv, Sr 0 g bn bd pv s w ∧ ∀ s' w', Rn 0 g bn bd pv s' w w' → Two g bn bd g' s' t w0 w' ∧ ∀ T, T ≠ 72 → T ≠ 75 → Kst T w w' := by
  obtain ⟨⟨pv, dv, wv, vv, h1, h2, l1, l2⟩, bl⟩ := h
  refine ⟨pv, h1, fun s' w' ⟨p, r1, r2, r3⟩ => ⟨⟨⟨p, dv, wv, vv, r1, h2.keep r2 (fun hf => (ap h1 h2 _ hf).1 rfl) (fun j hj hf => (ap h1 h2 j hf).2.1 hj) (fun j hj hf => (ap h1 h2 j hf).2.2.1 hj) (fun j hj hf => (ap h1 h2 j hf).2.2.2 hj), ?_, l2⟩, ?_⟩, ?_⟩⟩
  · rintro j (e | e | e | e)
    · exact l1 j (.inl e)
    · exact l1 j (.inr (.inl e))
    · exact l1 j (.inr (.inr (.inl e)))
    · rcases r3 j e with x | x
      · exact l1 j (.inr (.inr (.inr x)))
      · exact Nat.le_trans bl.size x
  · exact ⟨r2.os.trans bl.os, r2.tape.trans bl.tape, r2.output.trans bl.output, Nat.le_trans bl.size r2.size, fun j hj => (r2.block j (by have := bl.size; omega) (fun hf => by have := l1 j hf; omega)).trans (bl.block j hj)⟩
  · intro T t1 t2 P cs f hP
    exact (r2.block _ (Array.getElem?_eq_some_iff.1 hP).1 (fun hf => fr_not h1 t1 t2 hf hP)).trans hP
theorem Two.snd (h : Two g bn bd g' s t w0 w) : ∃ dv wv vv, Ds 0 g' dv wv vv t w ∧ ∀ t' w', Rd 0 g' wv t' w w' → Two g bn bd g' s t' w0 w' ∧ ∀ T, T ≠ 48 → T ≠ 81 → Kst T w w' := by
  obtain ⟨⟨pv, dv, wv, vv, h1, h2, l1, l2⟩, bl⟩ := h
  refine ⟨dv, wv, vv, h2, fun t' w' ⟨dv', wv', vv', r1, r2, r3⟩ => ⟨⟨⟨pv, dv', wv', vv', sr_keep h1 r2 (fun j hj hf => ?_), r1, l1, ?_⟩, ?_⟩, ?_⟩⟩
  · rcases hf with x | x
    · exact (ap h1 h2 j hj).1 x
    · exact (ap h1 h2 j hj).2.1 x
  · rintro j (x | x)
    · exact l2 j (.inl x)
    · rcases r3 j x with y | y
      · exact l2 j (.inr y)
      · exact Nat.le_trans bl.size y
  · exact ⟨r2.os.trans bl.os, r2.tape.trans bl.tape, r2.output.trans bl.output, Nat.le_trans bl.size r2.size, fun j hj => (r2.block j (by have := bl.size; omega) (fun hf => by have := l2 j hf; omega)).trans (bl.block j hj)⟩
  · intro T t1 t2 P cs f hP
    exact (r2.block _ (Array.getElem?_eq_some_iff.1 hP).1 (fun hf => fd_not h2 t1 t2 hf hP)).trans hP
end
-- the step in its box
def scs (o : Stp) : Array Value := #[.int .i64 o.d, .int .i64 o.sp, .int .i64 o.k, .int .i64 o.n, .int .i64 o.m, .string o.key, .string o.text]
def Bp (P g bn bd g' : Nat) (o : Stp) (s t : S) (w0 w : World) : Prop := Two g bn bd g' s t w0 w ∧ w.heap[P]? = some (.cells (scs o) 29 (0, 0))
structure Fine (o : Stp) : Prop where
  sp : o.sp ≤ 9223372036854775807
  n : o.n ≤ 9223372036854775807
  m : o.m ≤ 9223372036854775807
  key : o.key.size ≤ 1048576
  text : o.text.size ≤ 1048576
section
variable {P g bn bd g' : Nat} {o : Stp} {s t : S} {w0 w w' : World}
theorem Bp.later (h : Bp P g bn bd g' o s t w0 w) (b : Below w.heap.size w w') : Bp P g bn bd g' o s t w0 w' := ⟨h.1.later b, Kst.later (T := 29) b _ _ _ h.2⟩
theorem Bp.cells (h : Bp P g bn bd g' o s t w0 w) : w.cell? ⟨P, 0, none⟩ = some (.int .i64 o.d) ∧ w.cell? ⟨P, 1, none⟩ = some (.int .i64 o.sp) ∧ w.cell? ⟨P, 2, none⟩ = some (.int .i64 o.k) ∧ w.cell? ⟨P, 3, none⟩ = some (.int .i64 o.n) ∧ w.cell? ⟨P, 4, none⟩ = some (.int .i64 o.m) ∧ w.cell? ⟨P, 5, none⟩ = some (.string o.key) ∧ w.cell? ⟨P, 6, none⟩ = some (.string o.text) :=
  ⟨cell_of_row _ _ 0 _ _ _ h.2, cell_of_row _ _ 1 _ _ _ h.2, cell_of_row _ _ 2 _ _ _ h.2, cell_of_row _ _ 3 _ _ _ h.2, cell_of_row _ _ 4 _ _ _ h.2, cell_of_row _ _ 5 _ _ _ h.2, cell_of_row _ _ 6 _ _ _ h.2⟩
theorem Bp.fst (h : Bp P g bn bd g' o s t w0 w) : ∃ pv, Sr 0 g bn bd pv s w ∧ ∀ s' w', Rn 0 g bn bd pv s' w w' → Bp P g bn bd g' o s' t w0 w' := by
  obtain ⟨pv, h1, h2⟩ := h.1.fst
  exact ⟨pv, h1, fun s' w' r => ⟨(h2 s' w' r).1, (h2 s' w' r).2 29 (by decide) (by decide) _ _ _ h.2⟩⟩
theorem Bp.snd (h : Bp P g bn bd g' o s t w0 w) : ∃ dv wv vv, Ds 0 g' dv wv vv t w ∧ ∀ t' w', Rd 0 g' wv t' w w' → Bp P g bn bd g' o s t' w0 w' := by
  obtain ⟨dv, wv, vv, h1, h2⟩ := h.1.snd
  exact ⟨dv, wv, vv, h1, fun s' w' r => ⟨(h2 s' w' r).1, (h2 s' w' r).2 29 (by decide) (by decide) _ _ _ h.2⟩⟩
theorem Bp.box (h : Two g bn bd g' s t w0 w) : Bp w.heap.size g bn bd g' o s t w0 (w.alloc (.cells (scs o) 29)) := ⟨h.later ((Below.refl _ _).alloc (Nat.le_refl _) _), heap_alloc_new w _⟩
-- each call on its own store
theorem put1 (sp k n : Int) (p : ByteArray) (h : Bp P g bn bd g' o s t w0 w) (a1 : sp ≤ 9223372036854775807) (a2 : n ≤ 9223372036854775807) (hl : s.dur.length + s.pend.length + 1 < 3518437208883) : Calls Tryz.prog 18 #[.pointer (some ⟨g, 0, none⟩), .int .i64 sp, .int .i64 k, .int .i64 n, .string p] w fun e w' => e = .returned (.int .i64 (bputS s sp k n p).1) ∧ Bp P g bn bd g' o (bputS s sp k n p).2 t w0 w' := by
  obtain ⟨pv, h1, h2⟩ := h.fst
  exact (bputC sp k n p h1 a1 a2 hl (Nat.zero_le _)).mono fun e w' ⟨q1, q2⟩ => ⟨q1, h2 _ _ q2⟩
theorem put2 (sp k n : Int) (p : ByteArray) (h : Bp P g bn bd g' o s t w0 w) (a1 : sp ≤ 9223372036854775807) (a2 : n ≤ 9223372036854775807) (hl : t.dur.length + t.pend.length + 1 < 3518437208883) : Calls Tryz.prog 19 #[.pointer (some ⟨g', 0, none⟩), .int .i64 sp, .int .i64 k, .int .i64 n, .string p] w fun e w' => e = .returned (.int .i64 (bputS t sp k n p).1) ∧ Bp P g bn bd g' o s (bputS t sp k n p).2 w0 w' := by
  obtain ⟨dv, wv, vv, h1, h2⟩ := h.snd
  exact (je.putR sp k n p h1 a1 a2 hl).mono fun e w' ⟨q1, q2⟩ => ⟨q1, h2 _ _ q2⟩
theorem drop1 (sp k n : Int) (h : Bp P g bn bd g' o s t w0 w) (a1 : sp ≤ 9223372036854775807) (a2 : n ≤ 9223372036854775807) (hl : s.dur.length + s.pend.length + 1 < 3518437208883) : Calls Tryz.prog 22 #[.pointer (some ⟨g, 0, none⟩), .int .i64 sp, .int .i64 k, .int .i64 n] w fun e w' => e = .returned (.int .i64 (bdropS s sp k n).1) ∧ Bp P g bn bd g' o (bdropS s sp k n).2 t w0 w' := by
  obtain ⟨pv, h1, h2⟩ := h.fst
  exact (bdropC sp k n h1 a1 a2 hl (Nat.zero_le _)).mono fun e w' ⟨q1, q2⟩ => ⟨q1, h2 _ _ q2⟩
theorem drop2 (sp k n : Int) (h : Bp P g bn bd g' o s t w0 w) (a1 : sp ≤ 9223372036854775807) (a2 : n ≤ 9223372036854775807) (hl : t.dur.length + t.pend.length + 1 < 3518437208883) : Calls Tryz.prog 23 #[.pointer (some ⟨g', 0, none⟩), .int .i64 sp, .int .i64 k, .int .i64 n] w fun e w' => e = .returned (.int .i64 (bdropS t sp k n).1) ∧ Bp P g bn bd g' o s (bdropS t sp k n).2 w0 w' := by
  obtain ⟨dv, wv, vv, h1, h2⟩ := h.snd
  exact (je.dropR sp k n h1 a1 a2 hl).mono fun e w' ⟨q1, q2⟩ => ⟨q1, h2 _ _ q2⟩
theorem wipe1 (sp : Int) (h : Bp P g bn bd g' o s t w0 w) (a1 : sp ≤ 9223372036854775807) (hl : 2 * (s.dur.length + s.pend.length) + 1 < 3518437208883) : Calls Tryz.prog 24 #[.pointer (some ⟨g, 0, none⟩), .int .i64 sp] w fun e w' => e = .returned (.tuple #[.int .i64 (wipeS s sp).1.1, .int .i64 (wipeS s sp).1.2]) ∧ Bp P g bn bd g' o (wipeS s sp).2 t w0 w' := by
  obtain ⟨pv, h1, h2⟩ := h.fst
  exact (wipeC sp h1 a1 hl (Nat.zero_le _)).mono fun e w' ⟨q1, q2⟩ => ⟨q1, h2 _ _ q2⟩
theorem wipe2 (sp : Int) (h : Bp P g bn bd g' o s t w0 w) (a1 : sp ≤ 9223372036854775807) (hl : 2 * (t.dur.length + t.pend.length) + 1 < 3518437208883) : Calls Tryz.prog 25 #[.pointer (some ⟨g', 0, none⟩), .int .i64 sp] w fun e w' => e = .returned (.tuple #[.int .i64 (wipeS t sp).1.1, .int .i64 (wipeS t sp).1.2]) ∧ Bp P g bn bd g' o s (wipeS t sp).2 w0 w' := by
  obtain ⟨dv, wv, vv, h1, h2⟩ := h.snd
  exact (ji.wipeR sp h1 a1 hl).mono fun e w' ⟨q1, q2⟩ => ⟨q1, h2 _ _ q2⟩
theorem sput1 (k d : ByteArray) (h : Bp P g bn bd g' o s t w0 w) (a1 : k.size ≤ 140737488355328) (a2 : d.size ≤ 140737488355328) (hl : s.dur.length + s.pend.length + 1 < 3518437208883) : Calls Tryz.prog 26 #[.pointer (some ⟨g, 0, none⟩), .string k, .string d] w fun e w' => e = .returned (.int .i64 (putS s k d).1) ∧ Bp P g bn bd g' o (putS s k d).2 t w0 w' := by
  obtain ⟨pv, h1, h2⟩ := h.fst
  exact (putC k d h1 a1 a2 hl (Nat.zero_le _)).mono fun e w' ⟨q1, q2⟩ => ⟨q1, h2 _ _ q2⟩
theorem sput2 (k d : ByteArray) (h : Bp P g bn bd g' o s t w0 w) (a1 : k.size ≤ 140737488355328) (a2 : d.size ≤ 140737488355328) (hl : t.dur.length + t.pend.length + 1 < 3518437208883) : Calls Tryz.prog 27 #[.pointer (some ⟨g', 0, none⟩), .string k, .string d] w fun e w' => e = .returned (.int .i64 (putS t k d).1) ∧ Bp P g bn bd g' o s (putS t k d).2 w0 w' := by
  obtain ⟨dv, wv, vv, h1, h2⟩ := h.snd
  exact (xf.putD k d h1 (Nat.zero_le _) hl a2).mono fun e w' ⟨q1, q2⟩ => ⟨q1, h2 _ _ q2⟩
theorem sync1  (h : Bp P g bn bd g' o s t w0 w)  : Calls Tryz.prog 30 #[.pointer (some ⟨g, 0, none⟩)] w fun e w' => e = .returned (.int .i64 (syncS s).1) ∧ Bp P g bn bd g' o (syncS s).2 t w0 w' := by
  obtain ⟨pv, h1, h2⟩ := h.fst
  exact (syncC h1 (Nat.zero_le _)).mono fun e w' ⟨q1, q2⟩ => ⟨q1, h2 _ _ q2⟩
theorem sync2  (h : Bp P g bn bd g' o s t w0 w)  : Calls Tryz.prog 31 #[.pointer (some ⟨g', 0, none⟩)] w fun e w' => e = .returned (.int .i64 (syncS t).1) ∧ Bp P g bn bd g' o s (syncS t).2 w0 w' := by
  obtain ⟨dv, wv, vv, h1, h2⟩ := h.snd
  exact (xd.syncD h1).mono fun e w' ⟨q1, q2⟩ => ⟨q1, h2 _ _ q2⟩
theorem arm1 (n : Int) (h : Bp P g bn bd g' o s t w0 w) (a1 : n ≤ 9223372036854775807) : Calls Tryz.prog 32 #[.pointer (some ⟨g, 0, none⟩), .int .i64 n] w fun e w' => e = .returned (.tuple #[]) ∧ Bp P g bn bd g' o (armS s n) t w0 w' := by
  obtain ⟨pv, h1, h2⟩ := h.fst
  exact (armC n h1 a1).mono fun e w' ⟨q1, q2⟩ => ⟨q1, h2 _ _ q2⟩
theorem arm2 (n : Int) (h : Bp P g bn bd g' o s t w0 w) (a1 : n ≤ 9223372036854775807) : Calls Tryz.prog 33 #[.pointer (some ⟨g', 0, none⟩), .int .i64 n] w fun e w' => e = .returned (.tuple #[]) ∧ Bp P g bn bd g' o s (armS t n) w0 w' := by
  obtain ⟨dv, wv, vv, h1, h2⟩ := h.snd
  exact (xd.armD n h1 a1).mono fun e w' ⟨q1, q2⟩ => ⟨q1, h2 _ _ q2⟩
theorem crash1 (p : ByteArray) (h : Bp P g bn bd g' o s t w0 w) (a1 : p.size ≤ 140737488355328) (a2 : s.age < 4398046511104) : Calls Tryz.prog 8 #[.pointer (some ⟨g, 0, none⟩), .string p] w fun e w' => e = .returned (.tuple #[]) ∧ Bp P g bn bd g' o (crashS s p) t w0 w' := by
  obtain ⟨pv, h1, h2⟩ := h.fst
  exact (yn.crashC p h1 a1 a2).mono fun e w' ⟨q1, q2⟩ => ⟨q1, h2 _ _ q2⟩
theorem crash2 (p : ByteArray) (h : Bp P g bn bd g' o s t w0 w) (a1 : p.size ≤ 140737488355328) (a2 : t.age < 4398046511104) : Calls Tryz.prog 9 #[.pointer (some ⟨g', 0, none⟩), .string p] w fun e w' => e = .returned (.tuple #[]) ∧ Bp P g bn bd g' o s (crashS t p) w0 w' := by
  obtain ⟨dv, wv, vv, h1, h2⟩ := h.snd
  exact (xg.crashD p h1 (Nat.zero_le _) a1 a2).mono fun e w' ⟨q1, q2⟩ => ⟨q1, h2 _ _ q2⟩
theorem get1 (sp k n : Int) (h : Bp P g bn bd g' o s t w0 w) (a1 : sp ≤ 9223372036854775807) (a2 : n ≤ 9223372036854775807) : Calls Tryz.prog 20 #[.pointer (some ⟨g, 0, none⟩), .int .i64 sp, .int .i64 k, .int .i64 n] w fun e w' => e = .returned (.tuple #[.string (bgetS s sp k n).1, .int .i64 (bgetS s sp k n).2]) ∧ Below w.heap.size w w' := by
  obtain ⟨pv, h1, h2⟩ := h.fst
  exact bgetC sp k n h1 a1 a2
theorem get2 (sp k n : Int) (h : Bp P g bn bd g' o s t w0 w) (a1 : sp ≤ 9223372036854775807) (a2 : n ≤ 9223372036854775807) : Calls Tryz.prog 21 #[.pointer (some ⟨g', 0, none⟩), .int .i64 sp, .int .i64 k, .int .i64 n] w fun e w' => e = .returned (.tuple #[.string (bgetS t sp k n).1, .int .i64 (bgetS t sp k n).2]) ∧ Below w.heap.size w w' := by
  obtain ⟨dv, wv, vv, h1, h2⟩ := h.snd
  exact je.getR sp k n h1 a1 a2
theorem numb1 (sp k : Int) (h : Bp P g bn bd g' o s t w0 w) (a1 : sp ≤ 9223372036854775807) : Calls Tryz.prog 12 #[.pointer (some ⟨g, 0, none⟩), .int .i64 sp, .int .i64 k] w fun e w' => ∃ v, e = .returned v ∧ ReadsN w' v (numbersS s sp k) ∧ Below w.heap.size w w' := by
  obtain ⟨pv, h1, h2⟩ := h.fst
  exact (numbersC sp k h1 a1).mono fun e w' ⟨v, q1, q2, q3⟩ => ⟨v, q1, own_readsN q2, q3⟩
theorem numb2 (sp k : Int) (h : Bp P g bn bd g' o s t w0 w) (a1 : sp ≤ 9223372036854775807) : Calls Tryz.prog 10 #[.pointer (some ⟨g', 0, none⟩), .int .i64 sp, .int .i64 k] w fun e w' => ∃ v, e = .returned v ∧ ReadsN w' v (numbersS t sp k) ∧ Below w.heap.size w w' := by
  obtain ⟨dv, wv, vv, h1, h2⟩ := h.snd
  exact (numbersR sp k h1 a1).mono fun e w' ⟨v, q1, q2, q3⟩ => ⟨v, q1, own_readsN q2, q3⟩
theorem spac1  (h : Bp P g bn bd g' o s t w0 w)  : Calls Tryz.prog 14 #[.pointer (some ⟨g, 0, none⟩)] w fun e w' => ∃ v, e = .returned v ∧ ReadsN w' v (spacesS s) ∧ Below w.heap.size w w' := by
  obtain ⟨pv, h1, h2⟩ := h.fst
  exact (jh.spacesC h1).mono fun e w' ⟨v, q1, q2, q3⟩ => ⟨v, q1, own_readsN q2, q3⟩
theorem spac2  (h : Bp P g bn bd g' o s t w0 w)  : Calls Tryz.prog 11 #[.pointer (some ⟨g', 0, none⟩)] w fun e w' => ∃ v, e = .returned v ∧ ReadsN w' v (spacesS t) ∧ Below w.heap.size w w' := by
  obtain ⟨dv, wv, vv, h1, h2⟩ := h.snd
  exact (jh.spacesR h1).mono fun e w' ⟨v, q1, q2, q3⟩ => ⟨v, q1, own_readsN q2, q3⟩
theorem Bp.ok (h : Bp P g bn bd g' o s t w0 w) : OkS s := by
  obtain ⟨pv, h1, h2⟩ := h.fst
  exact h1.ok
theorem numb_len (h : OkS s) (sp k : Int) : (numbersS s sp k).length ≤ 140737488351232 := by
  unfold numbersS
  split
  · have h1 := nums_len (keysS s (tqb.kindT sp k))
    have h2 := (keys_ok h (tqb.kindT sp k)).1
    omega
  · simp
theorem spac_len (h : OkS s) : (spacesS s).length ≤ 140737488351232 := by
  unfold spacesS
  have h1 := sps_len (keysS s mk)
  have h2 := (keys_ok h mk).1
  omega
end
end Go.Proofs.YtmindflfjocjlaaGreat.jk
