import Derived.Test.YtofmkdagehehaaaGreatDoorB8
import Derived.Test.YtofmkdagehehaaaGreatDoorA1
import Derived.Deep.DeepCutAuto
import Derived.BigQuiet
import Derived.Laws.OwnMore
namespace Go.Proofs.YtofmkdagehehaaaGreatDoor.hm
open Go.RowKit Go.PlainAid Go.Maps Go.Shelf
open Go.Proofs.YtofmkdagehehaaaGreatDoor.kp Go.Proofs.YtofmkdagehehaaaGreatDoor.ka Go.Proofs.YtofmkdagehehaaaGreatDoor.ya Go.Proofs.YtofmkdagehehaaaGreatDoor.yb Go.Proofs.YtofmkdagehehaaaGreatDoor.yc Go.Proofs.YtofmkdagehehaaaGreatDoor.yd Go.Proofs.YtofmkdagehehaaaGreatDoor.ye Go.Proofs.YtofmkdagehehaaaGreatDoor.yf Go.Proofs.YtofmkdagehehaaaGreatDoor.yg Go.Proofs.YtofmkdagehehaaaGreatDoor.yi Go.Proofs.YtofmkdagehehaaaGreatDoor.yj Go.Proofs.YtofmkdagehehaaaGreatDoor.yk Go.Proofs.YtofmkdagehehaaaGreatDoor.yl Go.Proofs.YtofmkdagehehaaaGreatDoor.ym
open Go.Proofs.YtofmkdagehehaaaGreatDoor.tqa Go.Proofs.YtofmkdagehehaaaGreatDoor.tba Go.Proofs.YtofmkdagehehaaaGreatDoor.tbc Go.Proofs.YtofmkdagehehaaaGreatDoor.tbd Go.Proofs.YtofmkdagehehaaaGreatDoor.tbe
open Go.Proofs.YtofmkdagehehaaaGreatDoor.tbf (okI kind_is)
open Go.Proofs.YtofmkdagehehaaaGreatDoor.cp (own_later i64)
open Go.Proofs.YtofmkdagehehaaaGreatDoor.tqb (over)
open Go.Proofs.YtofmkdagehehaaaGreatDoor.ea Go.Proofs.YtofmkdagehehaaaGreatDoor.eb Go.Proofs.YtofmkdagehehaaaGreatDoor.ec Go.Proofs.YtofmkdagehehaaaGreatDoor.ed Go.Proofs.YtofmkdagehehaaaGreatDoor.ee Go.Proofs.YtofmkdagehehaaaGreatDoor.ef Go.Proofs.YtofmkdagehehaaaGreatDoor.eg Go.Proofs.YtofmkdagehehaaaGreatDoor.eh Go.Proofs.YtofmkdagehehaaaGreatDoor.ei Go.Proofs.YtofmkdagehehaaaGreatDoor.ej Go.Proofs.YtofmkdagehehaaaGreatDoor.ek Go.Proofs.YtofmkdagehehaaaGreatDoor.el Go.Proofs.YtofmkdagehehaaaGreatDoor.ha Go.Proofs.YtofmkdagehehaaaGreatDoor.hb Go.Proofs.YtofmkdagehehaaaGreatDoor.hc Go.Proofs.YtofmkdagehehaaaGreatDoor.hd Go.Proofs.YtofmkdagehehaaaGreatDoor.hf Go.Proofs.YtofmkdagehehaaaGreatDoor.hg Go.Proofs.YtofmkdagehehaaaGreatDoor.hh Go.Proofs.YtofmkdagehehaaaGreatDoor.hi Go.Proofs.YtofmkdagehehaaaGreatDoor.hj
open Go.Proofs.YtofmkdagehehaaaGreatDoor.pj (Tab)
open Go.Proofs.YtofmkdagehehaaaGreatDoor.hk
open Go.Proofs.YtofmkdagehehaaaGreatDoor.yn (crashC)
set_option linter.unusedVariables false
set_option linter.unusedSimpArgs false
theorem now_none {s : S} (h : s.pend = []) : ye.now s = s.dur := by unfold ye.now; rw [h]; rfl
theorem sync_on {s : S} (ho : s.off = false) (ha : s.armed = 0) : syncS s = (0, { s with dur := ye.now s, pend := [] }) := by
  unfold syncS
  rw [ho]
  simp only [Bool.false_eq_true, if_false]
  unfold spendS
  rw [if_pos ha, if_neg (by simp)]
  simp [ho]
-- the power goes, and comes back: what is opened then, and Synced
theorem Ow.crash {s : S} {sp : Int} {l1 xs : List ByteArray} (h : Ow s sp l1 xs) (keep : ByteArray) :
    ∃ ys s2, ys <+: xs ∧ IsSt (crashS s keep) sp (l1 ++ ys) ∧ purgeS (crashS s keep) sp (l1 ++ ys).length = (0, s2) ∧ 2 * ((crashS s keep).dur.length + (crashS s keep).pend.length) + 1 < 3518437208883 ∧ (syncS s2).1 = 0 ∧ Ow (syncS s2).2 sp (l1 ++ ys) [] ∧ (syncS s2).2.cap = s.cap ∧ (syncS s2).2.off = false ∧ (syncS s2).2.age = s.age + 1 ∧ (syncS s2).2.armed = 0 := by
  have hlen := h.len
  have e0 : enm 0 (l1 ++ xs) = enm 0 l1 ++ enm l1.length xs := by rw [enm_app, Nat.zero_add]
  have ha := asc_enm 0 (l1 ++ xs)
  have hb := h.bnd
  rw [e0] at ha hb
  obtain ⟨y0, hsub, hk⟩ := kd_prs h.oks keep ha hb (enm l1.length xs).length (Nat.le_refl _)
  rw [List.take_length] at hsub
  have hd : (crashS s keep).dur = prs sp (enm 0 l1 ++ y0) := by
    show kdN keep s.pend s.dur s.pend.length = _
    rw [h.pend, h.dur, List.length_map]
    exact hk
  have hasc : Asc (enm 0 l1 ++ y0) := asc_sub ha (List.Sublist.append (List.Sublist.refl _) hsub)
  have hbnd : Bnd (enm 0 l1 ++ y0) := hb.sub (List.Sublist.append (List.Sublist.refl _) hsub)
  have hlow : ∀ p ∈ y0, l1.length ≤ p.1 := fun p hp => (enm_low p (hsub.subset hp)).1
  obtain ⟨l, zs, e1, hz⟩ := asc_split y0 l1.length (asc_app.1 hasc).2.1 hlow
  have e2 : enm 0 l1 ++ y0 = enm 0 (l1 ++ l) ++ zs := by rw [e1, enm_app, Nat.zero_add, List.append_assoc]
  rw [e2] at hd hasc hbnd
  have hpre : l <+: xs := by
    rw [List.prefix_iff_getElem?]
    intro i hi
    have hm : (l1.length + i, l[i]) ∈ enm l1.length l := mem_enm.2 ⟨by omega, by rw [show l1.length + i - l1.length = i by omega]; exact List.getElem?_eq_getElem hi⟩
    have h2 : (l1.length + i, l[i]) ∈ enm l1.length xs := hsub.subset (by rw [e1]; exact List.mem_append_left _ hm)
    have h3 := (mem_enm.1 h2).2
    rw [show l1.length + i - l1.length = i by omega] at h3
    exact h3
  have hll : l.length ≤ xs.length := hpre.length_le
  simp only [List.length_append] at hlen
  have hnow : ye.now (crashS s keep) = prs sp (enm 0 (l1 ++ l) ++ zs) := by rw [now_none rfl]; exact hd
  have hz' : ∀ p ∈ zs, (l1 ++ l).length < p.1 := fun p hp => by have := hz p hp; rw [List.length_append]; exact this
  have hlt : (l1 ++ l).length < 4611686018427387904 := by rw [List.length_append]; omega
  obtain ⟨s', cs, p1, p2, p3, p4, p5, p6⟩ := purge_prs (s := crashS s keep) rfl rfl h.oks hasc hbnd hnow hz'
  have hdl : (crashS s keep).dur.length ≤ (l1 ++ xs).length := by
    rw [hd, ← e2]
    unfold prs
    rw [List.length_map, List.length_append, enm_len, List.length_append]
    have := hsub.length_le
    rw [enm_len] at this
    omega
  rw [List.length_append] at hdl
  have hoff : s'.off = false := by rw [p2]; rfl
  have harm : s'.armed = 0 := by rw [p2]; rfl
  refine ⟨l, s', hpre, st_prs rfl h.oks hasc hbnd hnow hz' hlt, p1, ?_, ?_⟩
  · have : (crashS s keep).pend.length = 0 := rfl
    omega
  · rw [sync_on hoff harm]
    have hs1 : s'.cap = s.cap := by rw [p2]; rfl
    have hs2 : s'.age = s.age + 1 := by rw [p2]; rfl
    have hfit : (enm 0 (l1 ++ l)).Sublist (enm 0 (l1 ++ xs)) := by
      obtain ⟨r, hr⟩ := hpre
      rw [← hr, ← List.append_assoc, enm_app 0 (l1 ++ l) r]
      exact List.sublist_append_left _ _
    refine ⟨rfl, ⟨h.oks, p5, rfl, ?_, ?_, ?_⟩, hs1, hoff, hs2, harm⟩
    · intro x hx
      rw [List.append_nil] at hx
      refine h.sz x ?_
      rcases List.mem_append.1 hx with hx | hx
      · exact List.mem_append_left _ hx
      · exact List.mem_append_right _ (hpre.subset hx)
    · rw [List.append_nil]
      have h1 := wgt_sub hfit
      have h2 := h.fits
      show (wgt (enm 0 (l1 ++ l)) : Int) ≤ s'.cap
      rw [hs1]
      omega
    · show s'.cap ≤ _
      rw [hs1]; exact h.cap
-- what stands between two power cuts
structure Sm (s : S) (e : E) (ag : Nat) (safe all under : List ByteArray) : Prop where
  ow : ∃ xs, Ow s 3 safe xs ∧ (s.off = false → safe ++ xs = all ∧ under = all) ∧ (s.off = true → safe ++ xs <+: under)
  cap : s.cap = 1073741824
  age : s.age = ag
  ea : e.age = ag
  sp : e.sp = 3
  l : e.l = all
  al : 52 * all.length ≤ 1073741824
  ul : under.length ≤ all.length + 1024
theorem Sm.gone {s : S} {e : E} {age : Nat} {safe all under : List ByteArray} (h : Sm s e age safe all under) : eb.gone s e = s.off := by
  unfold eb.gone
  rw [h.age, h.ea]
  simp
theorem Sm.lens {s : S} {e : E} {age : Nat} {safe all under : List ByteArray} (h : Sm s e age safe all under) : s.dur.length + s.pend.length + 1024 < 3518437208883 ∧ e.l.length + 1024 ≤ 1099511627776 ∧ safe.length ≤ 30000000 ∧ all.length ≤ 30000000 ∧ under.length ≤ 30000000 := by
  obtain ⟨xs, ho, _, _⟩ := h.ow
  have h1 := ho.len
  have h2 : s.dur.length + s.pend.length = (safe ++ xs).length := by
    rw [ho.dur, ho.pend]
    simp [prs, enm_len]
  have h3 := h.al
  have h4 := h.ul
  have h5 : safe.length ≤ (safe ++ xs).length := by simp
  rw [h2, h.l]
  omega
theorem Sm.arm {s : S} {e : E} {age : Nat} {safe all under : List ByteArray} (h : Sm s e age safe all under) (n : Int) : Sm (armS s n) e age safe all under := by
  unfold armS
  split
  · exact h
  · rename_i hf
    have hf : s.off = false := by simpa using hf
    obtain ⟨xs, ho, h1, h2⟩ := h.ow
    refine ⟨⟨xs, ?_, h1, h2⟩, h.cap, h.age, h.ea, h.sp, h.l, h.al, h.ul⟩
    have := ho.arm n.toNat s.off
    exact this
theorem Sm.app {s : S} {e : E} {age : Nat} {safe all under ys : List ByteArray} (h : Sm s e age safe all under) :
    ((appS s e ys).1 = 0 → Sm (appS s e ys).2.1 (appS s e ys).2.2 age safe (all ++ ys) (all ++ ys) ∧ ys.length ≤ 1024 ∧ ys.length ≠ 0 ∧ (appS s e ys).2.1.off = false) ∧
    ((appS s e ys).1 = 124 → (under = all → ys.length ≤ 1024 → Sm (appS s e ys).2.1 (appS s e ys).2.2 age safe all (all ++ ys)) ∧ (¬ (under = all ∧ ys.length ≤ 1024) → Sm (appS s e ys).2.1 (appS s e ys).2.2 age safe all under)) ∧
    ((appS s e ys).1 ≠ 0 → (appS s e ys).1 ≠ 124 → Sm (appS s e ys).2.1 (appS s e ys).2.2 age safe all under) ∧ (appS s e ys).2.2.wd = e.wd := by
  obtain ⟨xs, ho, h1, h2⟩ := h.ow
  cases hoff : s.off with
  | true =>
    have he : appS s e ys = (124, s, e) := by unfold appS; rw [h.gone, hoff]; simp
    rw [he]
    refine ⟨(fun h0 => by cases h0), fun _ => ⟨fun hu hy => ?_, fun _ => h⟩, fun _ h0 => absurd rfl h0, rfl⟩
    refine ⟨⟨xs, ho, (fun hf => by rw [hoff] at hf; cases hf), fun hf => ?_⟩, h.cap, h.age, h.ea, h.sp, h.l, h.al, by rw [List.length_append]; omega⟩
    have := h2 hoff
    rw [hu] at this
    exact this.trans (List.prefix_append _ _)
  | false =>
    obtain ⟨e1, e2⟩ := h1 hoff
    have ho' := ho
    rw [← h.sp] at ho'
    rcases ho'.app (ys := ys) (h.l.trans e1.symm) (h.gone.trans hoff) with ⟨hb, he⟩ | ⟨hb, hf, he⟩ | ⟨hb, hf, _, s', he, k2, k3, k4, k5, k6⟩ | ⟨hb, k0, k1, s', he, k2, k3, k4, k5⟩
    · rw [he]
      have hne : batchE ys (safe ++ xs).length ≠ 124 := by
        unfold batchE
        split
        · decide
        · split
          · decide
          · split
            · decide
            · split <;> decide
      exact ⟨fun h0 => absurd h0 hb, fun h0 => absurd h0 hne, fun _ _ => h, rfl⟩
    · rw [he]
      exact ⟨(fun h0 => by cases h0), (fun h0 => by cases h0), fun _ _ => h, rfl⟩
    · rw [he]
      obtain ⟨b1, b2, b3, b4⟩ := batch_ok hb
      rw [h.sp] at k2
      have hl := k2.len
      refine ⟨fun _ => ⟨⟨⟨xs ++ ys, k2, fun _ => ⟨by rw [← List.append_assoc, e1], rfl⟩, fun hf => by rw [k4] at hf; cases hf⟩, k3.trans h.cap, k5.trans h.age, h.ea, h.sp, by show e.l ++ ys = _; rw [h.l], ?_, by omega⟩, b2, b1, k4⟩, (fun h0 => by cases h0), fun h0 => absurd rfl h0, rfl⟩
      rw [← List.append_assoc, e1] at hl
      exact hl
    · rw [he]
      obtain ⟨b1, b2, b3, b4⟩ := batch_ok hb
      rw [h.sp] at k2
      refine ⟨(fun h0 => by cases h0), fun _ => ⟨fun hu hy => ?_, fun hn => absurd ⟨e2, b2⟩ hn⟩, fun _ h0 => absurd rfl h0, rfl⟩
      refine ⟨⟨xs ++ ys.take s.armed, k2, (fun hf => by rw [k4] at hf; cases hf), fun _ => ?_⟩, k3.trans h.cap, k5.trans h.age, h.ea, h.sp, h.l, h.al, by rw [List.length_append]; omega⟩
      rw [← List.append_assoc, e1]
      exact (List.prefix_append_right_inj _).2 (List.take_prefix _ _)
theorem Sm.sync {s : S} {e : E} {age : Nat} {safe all under : List ByteArray} (h : Sm s e age safe all under) (hoff : s.off = false) : ((syncS s).1 = 0 → Sm (syncS s).2 e age all all under) ∧ ((syncS s).1 ≠ 0 → Sm (syncS s).2 e age safe all under) := by
  obtain ⟨xs, ho, h1, h2⟩ := h.ow
  obtain ⟨e1, e2⟩ := h1 hoff
  rcases ho.sync hoff with ⟨k1, he⟩ | ⟨k1, s', he, k2, k3, k4, k5, k6⟩
  · rw [he]
    refine ⟨(fun h0 => by cases h0), fun _ => ⟨⟨xs, ho.arm 0 true, (fun hf => by cases hf), fun _ => by rw [e1, e2]; exact List.prefix_refl _⟩, h.cap, h.age, h.ea, h.sp, h.l, h.al, h.ul⟩⟩
  · rw [he]
    rw [e1] at k2
    refine ⟨fun _ => ⟨⟨[], k2, fun _ => ⟨by simp, e2⟩, fun hf => by rw [k4] at hf; cases hf⟩, k3.trans h.cap, k5.trans h.age, h.ea, h.sp, h.l, h.al, h.ul⟩, fun h0 => absurd rfl h0⟩
theorem Sm.crash {s : S} {e : E} {age : Nat} {safe all under : List ByteArray} (h : Sm s e age safe all under) (keep : ByteArray) :
    ∃ found s2, safe <+: found ∧ found <+: under ∧ IsSt (crashS s keep) 3 found ∧ purgeS (crashS s keep) 3 found.length = (0, s2) ∧ 2 * ((crashS s keep).dur.length + (crashS s keep).pend.length) + 1 < 3518437208883 ∧ (syncS s2).1 = 0 ∧ found.length ≤ 30000000 ∧ ∀ wd nd, Sm (syncS s2).2 ⟨3, age + 1, wd, found, nd⟩ (age + 1) found found found ∧ (syncS s2).2.off = false := by
  obtain ⟨xs, ho, h1, h2⟩ := h.ow
  obtain ⟨ys, s2, p1, p2, p3, p4, p5, p6, p7, p8, p9, p10⟩ := Ow.crash ho keep
  have hl := p6.len
  rw [List.append_nil] at hl
  refine ⟨safe ++ ys, s2, List.prefix_append _ _, ?_, p2, p3, p4, p5, by omega, fun wd nd => ⟨⟨⟨[], p6, fun _ => ⟨by simp, rfl⟩, fun hf => by rw [p8] at hf; cases hf⟩, p7.trans h.cap, by rw [p9, h.age], rfl, rfl, rfl, hl, by omega⟩, p8⟩⟩
  have h3 : safe ++ ys <+: safe ++ xs := (List.prefix_append_right_inj _).2 p1
  cases hoff : s.off with
  | true => exact h3.trans (h2 hoff)
  | false => obtain ⟨e1, e2⟩ := h1 hoff; rw [e2, ← e1]; exact h3
theorem Sm.new {wd : Int} : Sm ⟨1073741824, [], [], 0, false, 0⟩ ⟨3, 0, wd, [], 0⟩ 0 [] [] [] := ⟨⟨[], Ow.new ⟨by omega, by omega⟩ (by omega) (by omega) 0, fun _ => ⟨rfl, rfl⟩, fun hf => by cases hf⟩, rfl, rfl, rfl, rfl, rfl, by simp, by simp⟩
section
variable {τ : Type} {U : Thg τ} {ge g bn bd B : Nat} {s : S} {e : E} {t : τ} {w0 w : World}
theorem pArm (h : One (pairO (EnO ge g bn bd) U) B ((s, e), t) w0 w) (n : Int) (hn : n ≤ 9223372036854775807) : Calls Tryz.prog 17 #[.pointer (some ⟨g, 0, none⟩), .int .i64 n] w fun r w' => r = .returned (.tuple #[]) ∧ One (pairO (EnO ge g bn bd) U) B ((armS s n, e), t) w0 w' :=
  pStep h (fun F hF hb => by
    obtain ⟨pv, lv, h1, h2⟩ := hF
    exact (armC n h1.st hn).mono fun r w' ⟨g1, g2⟩ => ⟨g1, rn_turn h1 h2 g2⟩)
theorem pCrash (h : One (pairO (EnO ge g bn bd) U) B ((s, e), t) w0 w) (keep : ByteArray) (hk : keep.size ≤ 140737488355328) (ha : s.age < 4398046511104) : Calls Tryz.prog 19 #[.pointer (some ⟨g, 0, none⟩), .string keep] w fun r w' => r = .returned (.tuple #[]) ∧ One (pairO (EnO ge g bn bd) U) B ((crashS s keep, e), t) w0 w' :=
  pStep h (fun F hF hb => by
    obtain ⟨pv, lv, h1, h2⟩ := hF
    exact (crashC keep h1.st hk ha).mono fun r w' ⟨g1, g2⟩ => ⟨g1, rn_turn h1 h2 g2⟩)
end
end Go.Proofs.YtofmkdagehehaaaGreatDoor.hm

namespace Go.Proofs.YtofmkdagehehaaaGreatDoor.hs
open Go.RowKit Go.PlainAid
open Go.Proofs.YtofmkdagehehaaaGreatDoor.ca Go.Proofs.YtofmkdagehehaaaGreatDoor.cp Go.Proofs.YtofmkdagehehaaaGreatDoor.ka
set_option linter.unusedVariables false

theorem getD_at (xs : List ByteArray) (k : Nat) (h : k < xs.length) : xs.getD k ByteArray.empty = xs[k] := by
  rw [List.getD_eq_getElem?_getD, List.getElem?_eq_getElem h]; rfl
theorem lists_eq {xs ys : List ByteArray} (hl : xs.length = ys.length) (h : ∀ j, j < xs.length → xs.getD j ByteArray.empty = ys.getD j ByteArray.empty) : xs = ys := by
  apply List.ext_getElem hl
  intro j h1 h2
  have := h j h1
  rwa [getD_at _ _ h1, getD_at _ _ h2] at this
theorem beqL (a b : ByteArray) : (a.toList == b.toList) = decide (a = b) := by
  by_cases h : a = b
  · subst h; simp
  · rw [decide_eq_false h, beq_eq_false_iff_ne, ByteArray.toList_eq, ByteArray.toList_eq]
    intro e
    exact h (ByteArray.ext (Array.ext' e))
theorem beqLit (a : ByteArray) (l : List UInt8) : (a.toList == l) = decide (a = ⟨l.toArray⟩) := by
  rw [← beqL, ByteArray.toList_eq, ByteArray.toList_eq]
-- two lists held against each other: nothing is written
set_option maxHeartbeats 1600000 in
theorem same (va vb : Value) (xs ys : List ByteArray) (w : World) (h1 : ReadsT w va xs) (h2 : ReadsT w vb ys) (hz : xs.length ≤ 140737488355328) :
    Calls Tryz.prog 18 #[va, vb] w fun e w' => e = .returned (.bool (decide (xs = ys))) ∧ ∃ m, w' = w.drewN m := by
  obtain ⟨a, cap, rfl, _, h1⟩ := h1
  obtain ⟨a', cap', rfl, _, h2⟩ := h2
  by_cases hl : xs.length = ys.length
  · have HC : Hid (xs.length = 0 ∨ ∃ b off, a = some ⟨b, off, none⟩ ∧ ∀ i, i < xs.length → w.cell? ⟨b, off + i, none⟩ = some (.string (xs.getD i ByteArray.empty))) := h1
    rw [← hl] at h2 ⊢
    have HC' : Hid (xs.length = 0 ∨ ∃ b off, a' = some ⟨b, off, none⟩ ∧ ∀ i, i < xs.length → w.cell? ⟨b, off + i, none⟩ = some (.string (ys.getD i ByteArray.empty))) := h2
    have HL : Hid (xs.length = ys.length) := hl
    obtain ⟨n, HN⟩ : ∃ n, Hid (xs.length = n) := ⟨_, rfl⟩
    obtain ⟨r, HR⟩ : ∃ r, Hid (decide (xs = ys) = r) := ⟨_, rfl⟩
    rw [HR.out]
    rw [HN.out] at HC HC' hz ⊢
    clear h1 h2 hl
    have hl' : ((n : Int) == (n : Int)) = true := beq_self_eq_true _
    go_enter Tryz.func18, Tryz.ntmps18
    go_wp2
    go_loopw [5] (fun i wr => ∃ k m : Nat, k ≤ n ∧ i = .int .i64 k ∧ Hid (∀ j, j < k → xs.getD j ByteArray.empty = ys.getD j ByteArray.empty) ∧ wr = w.drewN m) (fun i _ => (n - intOf i).toNat)
    case atStart => exact ⟨0, 0, by omega, rfl, fun j h => by omega, rfl⟩
    case round =>
      obtain ⟨k, m, hk, rfl, HS, rfl⟩ := hrel
      by_cases hlt : k < n
      · have hlt' : (k : Int) < n := by omega
        obtain ⟨b, off, rfl, hc⟩ : ∃ b off, a = some ⟨b, off, none⟩ ∧ ∀ i, i < n → w.cell? ⟨b, off + i, none⟩ = some (.string (xs.getD i ByteArray.empty)) := by
          rcases HC.out with h | h
          · omega
          · exact h
        obtain ⟨b', off', rfl, hc'⟩ : ∃ b off, a' = some ⟨b, off, none⟩ ∧ ∀ i, i < n → w.cell? ⟨b, off + i, none⟩ = some (.string (ys.getD i ByteArray.empty)) := by
          rcases HC'.out with h | h
          · omega
          · exact h
        obtain ⟨X, HX⟩ : ∃ X, Hid (xs.getD k ByteArray.empty = X) := ⟨_, rfl⟩
        obtain ⟨Y, HY⟩ : ∃ X, Hid (ys.getD k ByteArray.empty = X) := ⟨_, rfl⟩
        have c1 := hc k hlt
        have c2 := hc' k hlt
        rw [HX.out] at c1
        rw [HY.out] at c2
        clear hc hc'
        by_cases hxy : X = Y
        · have hb : (X.toList == Y.toList) = true := by rw [beqL]; exact decide_eq_true hxy
          have HS1 : Hid (∀ j, j < k + 1 → xs.getD j ByteArray.empty = ys.getD j ByteArray.empty) := fun j hj => by
            rcases Nat.lt_or_ge j k with h | h
            · exact HS.out j h
            · obtain rfl : j = k := by omega
              rw [HX.out, HY.out, hxy]
          clear hxy
          go_wp2_with fail
          go_quiet (fail)
          go_wp2
          go_roundw
          case rel => exact ⟨k + 1, _, by omega, by go_num, HS1.out, rfl⟩
          case measure => simp [intOf]; omega
        · have hb : (X.toList == Y.toList) = false := by rw [beqL]; exact decide_eq_false hxy
          have HE : Hid (r = false) := by
            show _ = _
            rw [← HR.out]
            apply decide_eq_false
            intro e
            apply hxy
            rw [← HX.out, ← HY.out, e]
          clear hxy
          go_wp2_with fail
          go_quiet (fail)
          go_wp2
          go_ret
          exact ⟨by rw [HE.out]; rfl, m + nq, by rw [World.drewN_drewN]⟩
      · have hlt' : ¬ (k : Int) < n := by omega
        have HE : Hid (r = true) := by
          show _ = _
          rw [← HR.out]
          apply decide_eq_true
          exact lists_eq HL.out (fun j hj => HS.out j (by rw [HN.out] at hj; omega))
        go_wp2
        go_ret
        exact ⟨by rw [HE.out]; rfl, _, rfl⟩
  · rw [decide_eq_false (fun e => hl (by rw [e]))]
    have hb : ((xs.length : Int) == (ys.length : Int)) = false := by rw [beq_eq_false_iff_ne]; omega
    clear hl h1 h2
    go_enter Tryz.func18, Tryz.ntmps18
    go_wp2
    go_ret
    exact ⟨rfl, 0, rfl⟩
-- is a how b begins?
set_option maxHeartbeats 1600000 in
theorem begins (va vb : Value) (xs ys : List ByteArray) (w : World) (h1 : ReadsT w va xs) (h2 : ReadsT w vb ys) (hno : vb = .slice none 0 0 ∨ ∃ g n c, vb = .slice (some ⟨g, 0, none⟩) n c) (hz : xs.length ≤ 140737488355328) (hzy : ys.length ≤ 140737488355328) (hp : xs <+: ys) :
    Calls Tryz.prog 22 #[va, vb] w fun e w' => e = .returned (.bool true) ∧ ∃ m, w' = w.drewN m := by
  have hlen := hp.length_le
  have he : ys.take xs.length = xs := (List.prefix_iff_eq_take.1 hp).symm
  obtain ⟨a, ca, rfl, hca, h1'⟩ := id h1
  obtain ⟨b, cb, rfl, hcb, h2'⟩ := id h2
  have hr3 : ReadsT w (.slice b xs.length cb) xs := by
    refine ⟨b, cb, rfl, by omega, ?_⟩
    rcases h2' with h0 | ⟨k, off, e1, hh⟩
    · exact .inl (by omega)
    · refine .inr ⟨k, off, e1, fun i hi => ?_⟩
      have := hh i (by omega)
      rw [this]
      conv => rhs; rw [← he]
      rw [List.getD_eq_getElem?_getD, List.getD_eq_getElem?_getD, List.getElem?_take, if_pos hi]
  have CS : Hid (Calls _ _ _ _ _) := same (.slice a xs.length ca) (.slice b xs.length cb) xs xs w h1 hr3 hz
  rw [decide_eq_true rfl] at CS
  have hle : decide ((xs.length : Int) ≤ (ys.length : Int)) = true := decide_eq_true (by omega)
  obtain ⟨n, HN⟩ : ∃ n, Hid (xs.length = n) := ⟨_, rfl⟩
  obtain ⟨m, HM⟩ : ∃ n, Hid (ys.length = n) := ⟨_, rfl⟩
  rw [HN.out] at CS hle hz hlen ⊢
  rw [HM.out] at hle hcb hzy hlen ⊢
  have hncb : n ≤ cb := by omega
  have hcases : (∃ k off, b = some ⟨k, off, none⟩) ∨ (b = none ∧ m = 0 ∧ cb = 0) := by
    rw [HM.out] at hno
    rcases hno with h | ⟨g, n', c', h⟩
    · injection h with e1 e2 e3
      exact .inr ⟨e1, e2, e3⟩
    · injection h with e1 e2 e3
      exact .inl ⟨g, 0, e1⟩
  clear h1 h2 h1' h2' hr3 he hp hno
  rcases hcases with ⟨k, off, rfl⟩ | ⟨rfl, rfl, rfl⟩
  · go_enter Tryz.func22, Tryz.ntmps22
    go_wp2_with (first | (go_at_call 18; refine CS.out.mono ?_; rintro _ w1 ⟨rfl, q, hq⟩; have HQ : Hid _ := hq; clear hq) | go_in)
    go_ret
    exact ⟨rfl, _, HQ.out⟩
  · obtain rfl : n = 0 := by omega
    go_enter Tryz.func22, Tryz.ntmps22
    go_wp2_with (first | (go_at_call 18; refine CS.out.mono ?_; rintro _ w1 ⟨rfl, q, hq⟩; have HQ : Hid _ := hq; clear hq) | go_in)
    go_ret
    exact ⟨rfl, _, HQ.out⟩
end Go.Proofs.YtofmkdagehehaaaGreatDoor.hs

namespace Go.Proofs.YtofmkdagehehaaaGreatDoor.hn
open Go.RowKit Go.PlainAid Go.Maps Go.Shelf
open Go.Proofs.YtofmkdagehehaaaGreatDoor.kp Go.Proofs.YtofmkdagehehaaaGreatDoor.ka Go.Proofs.YtofmkdagehehaaaGreatDoor.ya Go.Proofs.YtofmkdagehehaaaGreatDoor.yb Go.Proofs.YtofmkdagehehaaaGreatDoor.yc Go.Proofs.YtofmkdagehehaaaGreatDoor.yd Go.Proofs.YtofmkdagehehaaaGreatDoor.ye Go.Proofs.YtofmkdagehehaaaGreatDoor.yf Go.Proofs.YtofmkdagehehaaaGreatDoor.yg Go.Proofs.YtofmkdagehehaaaGreatDoor.yi Go.Proofs.YtofmkdagehehaaaGreatDoor.yj Go.Proofs.YtofmkdagehehaaaGreatDoor.yk Go.Proofs.YtofmkdagehehaaaGreatDoor.yl Go.Proofs.YtofmkdagehehaaaGreatDoor.ym
open Go.Proofs.YtofmkdagehehaaaGreatDoor.tqa Go.Proofs.YtofmkdagehehaaaGreatDoor.tba Go.Proofs.YtofmkdagehehaaaGreatDoor.tbc Go.Proofs.YtofmkdagehehaaaGreatDoor.tbd Go.Proofs.YtofmkdagehehaaaGreatDoor.tbe
open Go.Proofs.YtofmkdagehehaaaGreatDoor.tbf (okI kind_is)
open Go.Proofs.YtofmkdagehehaaaGreatDoor.cp (own_later i64)
open Go.Proofs.YtofmkdagehehaaaGreatDoor.tqb (over)
open Go.Proofs.YtofmkdagehehaaaGreatDoor.ea Go.Proofs.YtofmkdagehehaaaGreatDoor.eb Go.Proofs.YtofmkdagehehaaaGreatDoor.ec Go.Proofs.YtofmkdagehehaaaGreatDoor.ed Go.Proofs.YtofmkdagehehaaaGreatDoor.ee Go.Proofs.YtofmkdagehehaaaGreatDoor.ef Go.Proofs.YtofmkdagehehaaaGreatDoor.eg Go.Proofs.YtofmkdagehehaaaGreatDoor.eh Go.Proofs.YtofmkdagehehaaaGreatDoor.ei Go.Proofs.YtofmkdagehehaaaGreatDoor.ej Go.Proofs.YtofmkdagehehaaaGreatDoor.ek Go.Proofs.YtofmkdagehehaaaGreatDoor.el Go.Proofs.YtofmkdagehehaaaGreatDoor.ha Go.Proofs.YtofmkdagehehaaaGreatDoor.hb Go.Proofs.YtofmkdagehehaaaGreatDoor.hc Go.Proofs.YtofmkdagehehaaaGreatDoor.hd Go.Proofs.YtofmkdagehehaaaGreatDoor.hf Go.Proofs.YtofmkdagehehaaaGreatDoor.hg Go.Proofs.YtofmkdagehehaaaGreatDoor.hh Go.Proofs.YtofmkdagehehaaaGreatDoor.hi Go.Proofs.YtofmkdagehehaaaGreatDoor.hj
open Go.Proofs.YtofmkdagehehaaaGreatDoor.pj (Tab)
open Go.Proofs.YtofmkdagehehaaaGreatDoor.hk Go.Proofs.YtofmkdagehehaaaGreatDoor.hm
set_option linter.unusedVariables false
set_option linter.unusedSimpArgs false
-- an append, and what stands of the rows that share the block
def Own (w : World) (v : Value) (xs : List ByteArray) : Prop := w.ownsRow 0 9 1 v xs.length (xs.map Value.string)
theorem Own.form {w : World} {v : Value} {xs : List ByteArray} (h : Own w v xs) : (v = .slice none 0 0 ∧ xs = []) ∨ ∃ g c, v = .slice (some ⟨g, 0, none⟩) xs.length c ∧ xs.length ≤ c := by
  rcases h.2 with ⟨h1, h2⟩ | ⟨g, cap, cur, h1, _, _, h4, _⟩
  · exact .inl ⟨h1, List.length_eq_zero_iff.1 h2⟩
  · exact .inr ⟨g, cap, h1, h4⟩
theorem Own.cells {w : World} {g c : Nat} {xs : List ByteArray} (h : Own w (.slice (some ⟨g, 0, none⟩) xs.length c) xs) : ∀ j u, (xs.map Value.string)[j]? = some u → w.cell? (Addr.add ⟨g, 0, none⟩ j) = some u := by
  intro j u hu
  have hj : j < xs.length := by have := (List.getElem?_eq_some_iff.1 hu).1; simpa using this
  have := World.ownsRow.cellAt h j (by omega)
  rw [Addr.add_mid, Nat.zero_add, this]
  exact hu
theorem Own.reads {w : World} {v : Value} {xs : List ByteArray} (h : Own w v xs) : ReadsT w v xs := by
  rcases h.form with ⟨rfl, rfl⟩ | ⟨g, c, rfl, hc⟩
  · exact ⟨none, 0, rfl, Nat.le_refl _, .inl rfl⟩
  · refine ⟨_, c, rfl, hc, .inr ⟨g, 0, rfl, fun i hi => ?_⟩⟩
    have hx : xs[i]? = some (xs.getD i ByteArray.empty) := by rw [List.getD_eq_getElem?_getD, List.getElem?_eq_getElem hi]; rfl
    have := h.cells i (.string (xs.getD i ByteArray.empty)) (by rw [List.getElem?_map, hx]; rfl)
    rw [Addr.add_mid] at this
    exact this
theorem Own.nil (w : World) : Own w (.slice none 0 0) [] := World.ownsRow_nil w 0 9 1
theorem run_app {P : Program} (w : World) (t ty e : TypeId) (i : TypeInfo) (z : Value) (bytes : Nat) (ht : P.underlying t = some (.slice e)) (hi : P.info? e = some i) (hz : i.zero = some z)
    (hsize : i.size = 1) (hby : i.bytes = bytes) (hzs : z.cells.size = 1) (v : Value) (n : Nat) (xs : List Value) (hown : w.ownsRow 0 e 1 v n xs)
    (a : Addr) (m c : Nat) (news : List Value) (hl : news.length = m * 1) (hnews : ∀ j u, news[j]? = some u → w.cell? (a.add j) = some u) (h1 : ∀ u ∈ news, u.oneCell' = true) (h63 : n + m ≤ maxLen) (hbytes : (n + m) * bytes ≤ 140737488355328) :
    ∃ v' w', (Builtin.append_ #[t, t] ty #[v, .slice (some a) m c]).run P w = .ok v' w' ∧ w'.ownsRow 0 e 1 v' (n + m) (xs ++ news) ∧ w.grownBy w' v.ownBlock ∧ (v'.ownBlock = v.ownBlock ∨ v'.ownBlock = some w.heap.size) ∧
      ∀ p k ps, w.ownsRow 0 e 1 p k ps → (p.ownBlock = v.ownBlock → k ≤ n) → w'.ownsRow 0 e 1 p k ps := by
  obtain ⟨v', w', hr, h2, h3, h4, h5⟩ := run_append_own_at (P := P) w 0 t ty e i z 1 bytes ht hi hz hsize hby hzs (by omega) v n xs hown a m c news hl hnews h1 h63 hbytes (Nat.zero_le _)
  refine ⟨v', w', hr, h2, h3, h5, fun p k ps hp hk => ?_⟩
  by_cases hne : p.ownBlock = none ∨ p.ownBlock ≠ v.ownBlock
  · exact hp.kept h3 hne
  · have hpn : p.ownBlock ≠ none := fun e => hne (.inl e)
    have hpe : p.ownBlock = v.ownBlock := by by_cases e : p.ownBlock = v.ownBlock; exact e; exact absurd (.inr e) hne
    have hkn := hk hpe
    rcases hown.2 with ⟨rfl, rfl⟩ | ⟨g, cap, cur, rfl, hbg, hg, hnc, hcm, hcs, htake⟩
    · exact absurd hpe hpn
    · rcases hp.2 with ⟨rfl, _⟩ | ⟨g2, cap2, cur2, rfl, hbg2, hg2, hnc2, hcm2, hcs2, htake2⟩
      · exact absurd rfl hpn
      · have eg : g2 = g := Option.some.inj hpe
        subst eg
        have ec : cur2 = cur := by
          rw [hg] at hg2
          have := Option.some.inj hg2
          injection this with q1 q2 q3
          exact q1.symm
        subst ec
        have ecap : cap2 = cap := by omega
        subst ecap
        by_cases hroom : n + m ≤ cap2
        · have hr2 := run_append_room (P := P) w t ty e i ht hi g2 n cap2 cur2 hg a m c news (by rw [hsize]; exact hl) hnews h1 hroom (by rw [hsize]; omega)
          rw [hr] at hr2
          injection hr2 with q1 q2
          subst q1
          rcases h2.2 with ⟨q, _⟩ | ⟨g3, cap3, cur3, q, hbg3, hg3, hnc3, hcm3, hcs3, htake3⟩
          · cases q
          · have qa := Value.slice.inj q
            have qb : g2 = g3 := congrArg Addr.block (Option.some.inj qa.1)
            have qc : cap2 = cap3 := qa.2.2
            subst qb qc
            refine ⟨hp.1, .inr ⟨g2, cap2, cur3, rfl, hbg2, hg3, hnc2, hcm2, by omega, ?_⟩⟩
            have e1 : cur3.toList.take (k * 1) = ((cur3.toList.take ((n + m) * 1)).take (k * 1)) := by rw [List.take_take]; congr 1; omega
            have e2 : cur2.toList.take (k * 1) = ((cur2.toList.take (n * 1)).take (k * 1)) := by rw [List.take_take]; congr 1; omega
            rw [e1, htake3, ← htake2, e2, htake, List.take_append_of_le_length (by rw [hown.1]; omega)]
        · have holds : ∀ j u, xs[j]? = some u → w.cell? ((⟨g2, 0, none⟩ : Addr).add j) = some u := hown.cells (g := g2) rfl
          have hr2 := run_append_grow (P := P) w t ty e i z ht hi hz ⟨g2, 0, none⟩ n cap2 xs (by rw [hsize]; exact hown.1) holds a m c news (by rw [hsize]; exact hl) hnews (by omega) (by simp only [maxLen] at h63; omega) (growslice_fits (by omega) (by rw [hby]; exact hbytes))
          rw [hr] at hr2
          injection hr2 with q1 q2
          refine ⟨hp.1, .inr ⟨g2, cap2, cur2, rfl, hbg2, ?_, hnc2, hcm2, hcs2, htake2⟩⟩
          rw [q2]
          exact (heap_alloc_old w.drew _ (Array.getElem?_eq_some_iff.1 hg2).1).trans hg2
-- rows of the law's own, some of them of one block
def RowsO : Thg (List (Value × List ByteArray)) where
  P l F w := (∀ p ∈ l, Own w p.1 p.2) ∧ ∀ k, F k ↔ ∃ p ∈ l, some k = p.1.ownBlock
  keep := by
    rintro l F w w' A ⟨h1, h2⟩ k hn
    exact ⟨fun p hp => own_kp (h1 p hp) k (fun j hj => hn j ((h2 j).2 ⟨p, hp, hj⟩)), h2⟩
  lt := by
    rintro l F w ⟨h1, h2⟩ k hk
    obtain ⟨p, hp, e⟩ := (h2 k).1 hk
    exact ((h1 p hp).lt _ e.symm).2
def Top (v : Value) (n : Nat) (l : List (Value × List ByteArray)) : Prop := ∀ p ∈ l, p.1.ownBlock = v.ownBlock → p.2.length ≤ n
section
variable {ge g bn bd B : Nat} {s : S} {e : E} {w0 w : World} {l : List (Value × List ByteArray)}
theorem rRow (h : One (pairO (EnO ge g bn bd) RowsO) B ((s, e), l) w0 w) {v : Value} {xs : List ByteArray} (hm : (v, xs) ∈ l) : Own w v xs := by
  obtain ⟨F, hP⟩ := One.get (One.snd h)
  exact hP.1 _ hm
-- fewer rows, or some twice
theorem rSub (h : One (pairO (EnO ge g bn bd) RowsO) B ((s, e), l) w0 w) {l' : List (Value × List ByteArray)} (hs : ∀ p ∈ l', p ∈ l ∨ p.1 = .slice none 0 0 ∧ p.2 = []) : One (pairO (EnO ge g bn bd) RowsO) B ((s, e), l') w0 w := by
  obtain ⟨F, h1, h2, h3, h4⟩ := h
  obtain ⟨F1, hU, hK⟩ := pair_snd h1
  obtain ⟨F', a1, a2⟩ := hK l' (fun k => ∃ p ∈ l', some k = p.1.ownBlock) w ⟨fun p hp => by
    rcases hs p hp with h | ⟨h, h'⟩
    · exact hU.1 p h
    · rw [h, h']; exact Own.nil w, fun k => Iff.rfl⟩ ⟨Kp.refl _ _, fun k ⟨p, hp, hk⟩ => by
      rcases hs p hp with h | ⟨h, h'⟩
      · exact .inl ((hU.2 k).2 ⟨p, h, hk⟩)
      · rw [h] at hk; cases hk⟩
  exact One.turn h2 h3 h4 a1 a2
theorem rGrow {v v' : Value} {xs ys : List ByteArray} {w' : World} (h : One (pairO (EnO ge g bn bd) RowsO) B ((s, e), (v, xs) :: l) w0 w) (ho : Own w' v' (xs ++ ys)) (hg : w.grownBy w' v.ownBlock) (hl : v'.ownBlock = v.ownBlock ∨ v'.ownBlock = some w.heap.size) (hT : Top v xs.length l)
    (hk : ∀ p k ps, w.ownsRow 0 9 1 p k ps → (p.ownBlock = v.ownBlock → k ≤ xs.length) → w'.ownsRow 0 9 1 p k ps) : One (pairO (EnO ge g bn bd) RowsO) B ((s, e), (v', xs ++ ys) :: l) w0 w' ∧ Top v' (xs ++ ys).length l := by
  obtain ⟨F, h1, h2, h3, h4⟩ := h
  obtain ⟨F1, hU, hK⟩ := pair_snd h1
  have k2 : Kp F1 w w' := ⟨hg.os, hg.tape, hg.output, hg.size, fun j hj hn => hg.block j hj (fun e => hn ((hU.2 j).2 ⟨_, List.mem_cons_self, e⟩))⟩
  have hrow : ∀ p ∈ l, Own w' p.1 p.2 := fun p hp => hk _ _ _ (hU.1 p (List.mem_cons_of_mem _ hp)) (hT p hp)
  refine ⟨?_, fun p hp hb => ?_⟩
  · obtain ⟨F', a1, a2⟩ := hK ((v', xs ++ ys) :: l) (fun k => ∃ p ∈ (v', xs ++ ys) :: l, some k = p.1.ownBlock) w' ⟨fun p hp => by
      rcases List.mem_cons.1 hp with rfl | hp
      · exact ho
      · exact hrow p hp, fun k => Iff.rfl⟩ ⟨k2, fun k ⟨p, hp, hk⟩ => by
        rcases List.mem_cons.1 hp with rfl | hp
        · rcases hl with h | h
          · exact .inl ((hU.2 k).2 ⟨_, List.mem_cons_self, by rw [hk, h]⟩)
          · have hk : some k = v'.ownBlock := hk
            rw [h] at hk
            exact .inr (by rw [Option.some.inj hk]; exact Nat.le_refl _)
        · exact .inl ((hU.2 k).2 ⟨p, List.mem_cons_of_mem _ hp, hk⟩)⟩
    exact One.turn h2 h3 h4 a1 a2
  · rw [List.length_append]
    rcases hl with h | h
    · have := hT p hp (hb.trans h); omega
    · have := ((hU.1 p (List.mem_cons_of_mem _ hp)).lt _ (hb.trans h)).2
      omega
end
section
variable {P : Program} {w : World}
theorem wpList_app {ops : Array Oper} {rest : List Oper} {o : Oper} {a : Act} {Q : Exit → Act → World → Prop} (hgd : o.guard = none) (s x : Operand) (t : TypeId)
    (ho : o.op = .call { callee := .builtin .append, args := #[s, x], argTypes := #[t, t] })
    (e : TypeId) (i : TypeInfo) (z : Value) (bytes : Nat) (ht : P.underlying t = some (.slice e)) (hi : P.info? e = some i) (hz : i.zero = some z)
    (hsize : i.size = 1) (hby : i.bytes = bytes) (hzs : z.cells.size = 1)
    (v : Value) (n : Nat) (xs : List Value) (hs : a.eval s = v) (hown : w.ownsRow 0 e 1 v n xs)
    (ad : Addr) (m c : Nat) (news : List Value) (hx : a.eval x = .slice (some ad) m c) (hl : news.length = m * 1) (hnews : ∀ j u, news[j]? = some u → w.cell? (ad.add j) = some u) (h1 : ∀ u ∈ news, u.oneCell' = true)
    (h63 : n + m ≤ maxLen) (hbytes : (n + m) * bytes ≤ 140737488355328)
    (h : ∀ v' w', w'.ownsRow 0 e 1 v' (n + m) (xs ++ news) → w.grownBy w' v.ownBlock → (v'.ownBlock = v.ownBlock ∨ v'.ownBlock = some w.heap.size) → (∀ p k ps, w.ownsRow 0 e 1 p k ps → (p.ownBlock = v.ownBlock → k ≤ n) → w'.ownsRow 0 e 1 p k ps) → wpList P ops Q rest (a.put o.dst v') w') :
    wpList P ops Q (o :: rest) a w := by
  refine wpList_plain hgd fun K hK => ?_
  obtain ⟨v', w', hr, h2, h3, h4, h5⟩ := run_app (P := P) w t o.type e i z bytes ht hi hz hsize hby hzs v n xs hown ad m c news hl hnews h1 h63 hbytes
  unfold Oper.wp execOp
  simp only [ho, resolve, invoke, builtin, Sem.run_bind, Sem.run_pure, Result.andThen_ok, List.map_toArray, List.map_cons, List.map_nil, hs, hx, hr]
  exact hK _ _ (h v' w' h2 h3 h4 h5)
theorem wpList_app_none {ops : Array Oper} {rest : List Oper} {o : Oper} {a : Act} {Q : Exit → Act → World → Prop} (hgd : o.guard = none) (s x : Operand) (t : TypeId)
    (ho : o.op = .call { callee := .builtin .append, args := #[s, x], argTypes := #[t, t] })
    (e : TypeId) (i : TypeInfo) (ht : P.underlying t = some (.slice e)) (hi : P.info? e = some i)
    (v : Value) (n : Nat) (xs : List Value) (hs : a.eval s = v) (hown : w.ownsRow 0 e 1 v n xs) (hx : a.eval x = .slice none 0 0)
    (h : wpList P ops Q rest (a.put o.dst v) w) :
    wpList P ops Q (o :: rest) a w := by
  refine wpList_plain hgd fun K hK => ?_
  have hr := run_append_owned_none (P := P) w 0 t o.type e i 1 ht hi v n xs hown
  unfold Oper.wp execOp
  simp only [ho, resolve, invoke, builtin, Sem.run_bind, Sem.run_pure, Result.andThen_ok, List.map_toArray, List.map_cons, List.map_nil, hs, hx, hr]
  exact hK _ _ h
end
end Go.Proofs.YtofmkdagehehaaaGreatDoor.hn

namespace Go.Proofs.YtofmkdagehehaaaGreatDoor.ho
open Go.RowKit Go.PlainAid Go.Maps Go.Shelf
open Go.Proofs.YtofmkdagehehaaaGreatDoor.kp Go.Proofs.YtofmkdagehehaaaGreatDoor.ka Go.Proofs.YtofmkdagehehaaaGreatDoor.ya Go.Proofs.YtofmkdagehehaaaGreatDoor.yb Go.Proofs.YtofmkdagehehaaaGreatDoor.yc Go.Proofs.YtofmkdagehehaaaGreatDoor.yd Go.Proofs.YtofmkdagehehaaaGreatDoor.ye Go.Proofs.YtofmkdagehehaaaGreatDoor.yf Go.Proofs.YtofmkdagehehaaaGreatDoor.yg Go.Proofs.YtofmkdagehehaaaGreatDoor.yi Go.Proofs.YtofmkdagehehaaaGreatDoor.yj Go.Proofs.YtofmkdagehehaaaGreatDoor.yk Go.Proofs.YtofmkdagehehaaaGreatDoor.yl Go.Proofs.YtofmkdagehehaaaGreatDoor.ym
open Go.Proofs.YtofmkdagehehaaaGreatDoor.tqa Go.Proofs.YtofmkdagehehaaaGreatDoor.tba Go.Proofs.YtofmkdagehehaaaGreatDoor.tbc Go.Proofs.YtofmkdagehehaaaGreatDoor.tbd Go.Proofs.YtofmkdagehehaaaGreatDoor.tbe
open Go.Proofs.YtofmkdagehehaaaGreatDoor.tbf (okI kind_is)
open Go.Proofs.YtofmkdagehehaaaGreatDoor.cp (own_later i64)
open Go.Proofs.YtofmkdagehehaaaGreatDoor.tqb (over)
open Go.Proofs.YtofmkdagehehaaaGreatDoor.ea Go.Proofs.YtofmkdagehehaaaGreatDoor.eb Go.Proofs.YtofmkdagehehaaaGreatDoor.ec Go.Proofs.YtofmkdagehehaaaGreatDoor.ed Go.Proofs.YtofmkdagehehaaaGreatDoor.ee Go.Proofs.YtofmkdagehehaaaGreatDoor.ef Go.Proofs.YtofmkdagehehaaaGreatDoor.eg Go.Proofs.YtofmkdagehehaaaGreatDoor.eh Go.Proofs.YtofmkdagehehaaaGreatDoor.ei Go.Proofs.YtofmkdagehehaaaGreatDoor.ej Go.Proofs.YtofmkdagehehaaaGreatDoor.ek Go.Proofs.YtofmkdagehehaaaGreatDoor.el Go.Proofs.YtofmkdagehehaaaGreatDoor.ha Go.Proofs.YtofmkdagehehaaaGreatDoor.hb Go.Proofs.YtofmkdagehehaaaGreatDoor.hc Go.Proofs.YtofmkdagehehaaaGreatDoor.hd Go.Proofs.YtofmkdagehehaaaGreatDoor.hf Go.Proofs.YtofmkdagehehaaaGreatDoor.hg Go.Proofs.YtofmkdagehehaaaGreatDoor.hh Go.Proofs.YtofmkdagehehaaaGreatDoor.hi Go.Proofs.YtofmkdagehehaaaGreatDoor.hj
open Go.Proofs.YtofmkdagehehaaaGreatDoor.pj (Tab)
open Go.Proofs.YtofmkdagehehaaaGreatDoor.hk Go.Proofs.YtofmkdagehehaaaGreatDoor.hm Go.Proofs.YtofmkdagehehaaaGreatDoor.hn
set_option linter.unusedVariables false
set_option linter.unusedSimpArgs false
section
variable {ge g bn bd B : Nat} {s : S} {e : E} {w0 w : World} {l : List (Value × List ByteArray)}
-- the list that an engine tells
set_option maxRecDepth 100000 in
set_option maxHeartbeats 6400000 in
theorem toldC (h : One (pairO (EnO ge g bn bd) RowsO) B ((s, e), l) w0 w) (hg : gone s e = false) (m : Nat) (HM : Hid (e.l.length = m)) (hm : m ≤ 30000000) :
    Calls Tryz.prog 20 #[.pointer (some ⟨ge, 0, none⟩)] w fun r w' => ∃ a c, r = .returned (.slice a m c) ∧ One (pairO (EnO ge g bn bd) RowsO) B ((s, e), (.slice a m c, e.l) :: l) w0 w' := by
  have CS : Hid (∀ w1 l1, One (pairO (EnO ge g bn bd) RowsO) B ((s, e), l1) w0 w1 → Calls Tryz.prog 21 #[.pointer (some ⟨ge, 0, none⟩)] w1 fun r w' => r = .returned (.int .i64 (m : Nat)) ∧ w' = w1) := fun w1 l1 hh => by
    have C := pSize hh
    rw [HM.out] at C
    exact C
  have CL : Hid (∀ w1 l1 (i : Nat) x, One (pairO (EnO ge g bn bd) RowsO) B ((s, e), l1) w0 w1 → i < m → e.l[i]? = some x → Calls Tryz.prog 30 #[.pointer (some ⟨ge, 0, none⟩), .int .i64 i] w1 fun r w' => r = .returned (.tuple #[.string x, .int .i64 0]) ∧ One (pairO (EnO ge g bn bd) RowsO) B ((s, e), l1) w0 w') := fun w1 l1 i x hh hi hx => by
    have C := pLeaf hh (i : Int) hg
    have e1 : leafV e.l i = (x, 0) := by
      unfold leafV
      rw [if_pos ⟨by omega, by rw [HM.out]; omega⟩, Int.toNat_natCast, List.getD, hx]; rfl
    rw [e1] at C
    exact C
  have H0 : Hid (One (pairO (EnO ge g bn bd) RowsO) B ((s, e), (.slice none 0 0, []) :: l) w0 w) := rSub h (fun p hp => by
    rcases List.mem_cons.1 hp with rfl | hp
    · exact .inr ⟨rfl, rfl⟩
    · exact .inl hp)
  have T0 : Hid (Top (.slice none 0 0) 0 l) := fun p hp hb => by
    have := rRow h hp
    rcases this.form with ⟨_, e2⟩ | ⟨g', c', e1, _⟩
    · rw [e2]; exact Nat.le_refl _
    · rw [e1] at hb; cases hb
  obtain ⟨L, HL⟩ : ∃ L, Hid (e.l = L) := ⟨_, rfl⟩
  rw [HL.out] at CL HM ⊢
  obtain ⟨i9, hi9', hz0, hz1, hz2⟩ := info_parts hi9
  have HIN : Hid (_ ∧ _ ∧ _ ∧ _) := ⟨hi9', hz0, hz1, hz2⟩
  clear hi9' hz0 hz1 hz2 h hg
  have hmi : (m : Int) ≤ 30000000 := by omega
  go_enter Tryz.func20, Tryz.ntmps20
  go_wp2_with fail
  go_loopw [3, 4] (fun ov iv wr => ∃ (i : Nat) (a : Option Addr) (c : Nat), i ≤ m ∧ ov = .slice a i c ∧ iv = .int .i64 i ∧ Hid (One (pairO (EnO ge g bn bd) RowsO) B ((s, e), (.slice a i c, L.take i) :: l) w0 wr ∧ Top (.slice a i c) i l)) (fun _ iv _ => (m - intOf iv).toNat)
  case atStart => exact ⟨0, none, 0, by omega, rfl, rfl, by simpa using H0.out, T0.out⟩
  case round =>
    obtain ⟨i, a, c, hi, rfl, rfl, HH⟩ := hrel
    have C1 : Hid (Calls _ _ _ _ _) := CS.out wr _ HH.out.1
    by_cases hlt : i < m
    · have hlt' : decide ((i : Int) < (m : Int)) = true := decide_eq_true (by omega)
      obtain ⟨x, hx⟩ : ∃ x, L[i]? = some x := ⟨L[i]'(by rw [HM.out]; exact hlt), List.getElem?_eq_getElem _⟩
      have HX : Hid (L[i]? = some x) := hx
      have C2 : Hid (Calls _ _ _ _ _) := CL.out wr _ i x HH.out.1 hlt hx
      have HLI : Hid ((L.take i).length = i) := by show _ = _; rw [List.length_take, HM.out]; omega
      have HT1 : Hid (L.take i ++ [x] = L.take (i + 1)) := by show _ = _; rw [List.take_add_one, hx]; rfl
      clear hx
      go_upto_region 8 with (first
        | (go_at_call 21; refine C1.out.mono ?_; rintro _ _ ⟨rfl, hw⟩; rw [hw]; clear hw)
        | (go_at_call 30; refine C2.out.mono ?_; rintro _ w2 ⟨rfl, h2⟩; have H2 : Hid _ := h2; clear h2)
        | go_in)
      have H3 : Hid (One (pairO (EnO ge g bn bd) RowsO) B ((s, e), (.slice a i c, L.take i) :: l) w0 (w2.alloc (.cells #[.string x] 9))) := One.later H2.out (new1 w2 _)
      have O3 : Hid ((w2.alloc (.cells #[.string x] 9)).ownsRow 0 9 1 (.slice a i c) i ((L.take i).map Value.string)) := by
        have := rRow H3.out List.mem_cons_self
        unfold Own at this
        rw [HLI.out] at this
        exact this
      have HG : Hid (∀ v' w4, w4.ownsRow 0 9 1 v' (i + 1) ((L.take i).map Value.string ++ [.string x]) → (w2.alloc (.cells #[.string x] 9)).grownBy w4 (Value.slice a i c).ownBlock → (v'.ownBlock = (Value.slice a i c).ownBlock ∨ v'.ownBlock = some (w2.alloc (.cells #[.string x] 9)).heap.size) → (∀ p k ps, (w2.alloc (.cells #[.string x] 9)).ownsRow 0 9 1 p k ps → (p.ownBlock = (Value.slice a i c).ownBlock → k ≤ i) → w4.ownsRow 0 9 1 p k ps) → One (pairO (EnO ge g bn bd) RowsO) B ((s, e), (v', L.take (i + 1)) :: l) w0 w4 ∧ Top v' (i + 1) l) := fun v' w4 k1 k2 k3 k4 => by
        have hT := HH.out.2
        have := rGrow (ys := [x]) H3.out (by
          unfold Own
          rw [List.length_append, List.map_append, HLI.out]
          exact k1) k2 k3 (by rw [HLI.out]; exact hT) (by rw [HLI.out]; exact k4)
        rw [HT1.out] at this
        have e1 : (L.take (i + 1)).length = i + 1 := by rw [List.length_take, HM.out]; omega
        rw [e1] at this
        exact this
      go_wp2_with (first | (at_builtin; (refine wpList_app rfl _ _ 22 rfl 9 i9 (.string ByteArray.empty) 16 Tryz.underlying22 HIN.out.1 HIN.out.2.1 HIN.out.2.2.1 HIN.out.2.2.2 rfl _ i _ rfl O3.out ⟨w2.heap.size, 0, none⟩ 1 1 [.string x] rfl rfl (new_text _ _ _) (one_text _) (by unfold maxLen; omega) (by omega) ?_; intro v' w4 ho hg hls hkp; have H4 : Hid _ := HG.out v' w4 ho hg hls hkp; have hvf : ∃ a c, v' = .slice a (i + 1) c := own_formS ho; clear ho hg hls hkp; obtain ⟨a4, c4, rfl⟩ := hvf)) | go_in)
      go_roundw
      case rel => exact ⟨i + 1, a4, c4, by omega, rfl, by go_num, H4.out⟩
      case measure => simp [intOf]; omega
    · have hlt' : decide ((i : Int) < (m : Int)) = false := decide_eq_false (by omega)
      obtain rfl : i = m := by omega
      have HTM : Hid (L.take i = L) := by show _ = _; rw [← HM.out]; exact List.take_length
      rw [HTM.out] at HH
      go_wp2_with (first
        | (go_at_call 21; refine C1.out.mono ?_; rintro _ _ ⟨rfl, hw⟩; rw [hw]; clear hw)
        | go_in)
      go_ret
      exact ⟨a, c, rfl, HH.out.1⟩
end
end Go.Proofs.YtofmkdagehehaaaGreatDoor.ho

namespace Go.Proofs.YtofmkdagehehaaaGreatDoor.hp
open Go.RowKit Go.PlainAid Go.Maps Go.Shelf
open Go.Proofs.YtofmkdagehehaaaGreatDoor.kp Go.Proofs.YtofmkdagehehaaaGreatDoor.ka Go.Proofs.YtofmkdagehehaaaGreatDoor.ya Go.Proofs.YtofmkdagehehaaaGreatDoor.yb Go.Proofs.YtofmkdagehehaaaGreatDoor.yc Go.Proofs.YtofmkdagehehaaaGreatDoor.yd Go.Proofs.YtofmkdagehehaaaGreatDoor.ye Go.Proofs.YtofmkdagehehaaaGreatDoor.yf Go.Proofs.YtofmkdagehehaaaGreatDoor.yg Go.Proofs.YtofmkdagehehaaaGreatDoor.yi Go.Proofs.YtofmkdagehehaaaGreatDoor.yj Go.Proofs.YtofmkdagehehaaaGreatDoor.yk Go.Proofs.YtofmkdagehehaaaGreatDoor.yl Go.Proofs.YtofmkdagehehaaaGreatDoor.ym
open Go.Proofs.YtofmkdagehehaaaGreatDoor.tqa Go.Proofs.YtofmkdagehehaaaGreatDoor.tba Go.Proofs.YtofmkdagehehaaaGreatDoor.tbc Go.Proofs.YtofmkdagehehaaaGreatDoor.tbd Go.Proofs.YtofmkdagehehaaaGreatDoor.tbe
open Go.Proofs.YtofmkdagehehaaaGreatDoor.tbf (okI kind_is)
open Go.Proofs.YtofmkdagehehaaaGreatDoor.cp (own_later i64)
open Go.Proofs.YtofmkdagehehaaaGreatDoor.tqb (over)
open Go.Proofs.YtofmkdagehehaaaGreatDoor.ea Go.Proofs.YtofmkdagehehaaaGreatDoor.eb Go.Proofs.YtofmkdagehehaaaGreatDoor.ec Go.Proofs.YtofmkdagehehaaaGreatDoor.ed Go.Proofs.YtofmkdagehehaaaGreatDoor.ee Go.Proofs.YtofmkdagehehaaaGreatDoor.ef Go.Proofs.YtofmkdagehehaaaGreatDoor.eg Go.Proofs.YtofmkdagehehaaaGreatDoor.eh Go.Proofs.YtofmkdagehehaaaGreatDoor.ei Go.Proofs.YtofmkdagehehaaaGreatDoor.ej Go.Proofs.YtofmkdagehehaaaGreatDoor.ek Go.Proofs.YtofmkdagehehaaaGreatDoor.el Go.Proofs.YtofmkdagehehaaaGreatDoor.ha Go.Proofs.YtofmkdagehehaaaGreatDoor.hb Go.Proofs.YtofmkdagehehaaaGreatDoor.hc Go.Proofs.YtofmkdagehehaaaGreatDoor.hd Go.Proofs.YtofmkdagehehaaaGreatDoor.hf Go.Proofs.YtofmkdagehehaaaGreatDoor.hg Go.Proofs.YtofmkdagehehaaaGreatDoor.hh Go.Proofs.YtofmkdagehehaaaGreatDoor.hi Go.Proofs.YtofmkdagehehaaaGreatDoor.hj
open Go.Proofs.YtofmkdagehehaaaGreatDoor.pj (Tab)
open Go.Proofs.YtofmkdagehehaaaGreatDoor.hk Go.Proofs.YtofmkdagehehaaaGreatDoor.hm Go.Proofs.YtofmkdagehehaaaGreatDoor.hn Go.Proofs.YtofmkdagehehaaaGreatDoor.ho
set_option linter.unusedVariables false
set_option linter.unusedSimpArgs false
section
variable {τ : Type} {U : Thg τ} {ge g bn bd B K : Nat} {s : S} {e : E} {t : τ} {w0 w : World} {l : List (Value × List ByteArray)} {ob : Obj}
-- a box beside
theorem addBox (h : One (pairO (EnO ge g bn bd) U) B ((s, e), t) w0 w) (cs : Array Value) (ty : TypeId) : One (pairO (EnO ge g bn bd) (pairO U (BlkO w.heap.size))) B ((s, e), (t, .cells cs ty (0, 0))) w0 (w.alloc (.cells cs ty)) := by
  have bW := new1 w (.cells cs ty)
  have hz := heap_alloc_new w (.cells cs ty)
  obtain ⟨F, h1, h2, h3, h4⟩ := h
  have hsz : B ≤ w.heap.size := Nat.le_trans h4 h3.size
  obtain ⟨F1, F2, a1, a2, a3, a4⟩ := h1
  refine ⟨fun k => F1 k ∨ (F2 k ∨ k = w.heap.size), ⟨F1, fun k => F2 k ∨ k = w.heap.size, (EnO ge g bn bd).keep a1 (Kp.of_below (A := fun _ => False) bW) (fun _ _ e => e), ⟨F2, fun k => k = w.heap.size, U.keep a2 (Kp.of_below (A := fun _ => False) bW) (fun _ _ e => e), ⟨hz, fun k => Iff.rfl⟩, fun k hk e => by have := U.lt a2 k hk; omega, fun k => Iff.rfl⟩, fun k hk hf => ?_, fun k => Iff.rfl⟩, fun k hk => ?_, ov h3 (dn bW hsz), h4⟩
  · rcases hf with hf | hf
    · exact a3 k hk hf
    · have := (EnO ge g bn bd).lt a1 k hk; omega
  · rcases hk with hk | hk | hk
    · exact h2 k ((a4 k).2 (.inl hk))
    · exact h2 k ((a4 k).2 (.inr hk))
    · omega
theorem dropBox (h : One (pairO (EnO ge g bn bd) (pairO U (BlkO K))) B ((s, e), (t, ob)) w0 w) : One (pairO (EnO ge g bn bd) U) B ((s, e), t) w0 w ∧ w.heap[K]? = some ob := by
  obtain ⟨F, h1, h2, h3, h4⟩ := h
  obtain ⟨F1, F2, a1, ⟨G1, G2, c1, c2, c3, c4⟩, a3, a4⟩ := h1
  refine ⟨⟨fun k => F1 k ∨ G1 k, ⟨F1, G1, a1, c1, fun k hk hf => a3 k hk ((c4 k).2 (.inl hf)), fun k => Iff.rfl⟩, fun k hk => ?_, h3, h4⟩, c2.1⟩
  rcases hk with hk | hk
  · exact h2 k ((a4 k).2 (.inl hk))
  · exact h2 k ((a4 k).2 (.inr ((c4 k).2 (.inl hk))))
-- rows beside something else
theorem bRow (h : One (pairO (EnO ge g bn bd) (pairO RowsO U)) B ((s, e), (l, t)) w0 w) {v : Value} {xs : List ByteArray} (hm : (v, xs) ∈ l) : Own w v xs := by
  obtain ⟨F, hP⟩ := One.get (One.snd h)
  obtain ⟨F1, F2, a1, _⟩ := hP
  exact a1.1 _ hm
theorem bSub (h : One (pairO (EnO ge g bn bd) (pairO RowsO U)) B ((s, e), (l, t)) w0 w) {l' : List (Value × List ByteArray)} (hs : ∀ p ∈ l', p ∈ l ∨ p.1 = .slice none 0 0 ∧ p.2 = []) : One (pairO (EnO ge g bn bd) (pairO RowsO U)) B ((s, e), (l', t)) w0 w := by
  obtain ⟨F, h1, h2, h3, h4⟩ := h
  obtain ⟨F0, hV, hK0⟩ := pair_snd h1
  obtain ⟨F1, hU, hK⟩ := pair_fst hV
  obtain ⟨F', a1, a2⟩ := hK l' (fun k => ∃ p ∈ l', some k = p.1.ownBlock) w ⟨fun p hp => by
    rcases hs p hp with h | ⟨h, h'⟩
    · exact hU.1 p h
    · rw [h, h']; exact Own.nil w, fun k => Iff.rfl⟩ ⟨Kp.refl _ _, fun k ⟨p, hp, hk⟩ => by
      rcases hs p hp with h | ⟨h, h'⟩
      · exact .inl ((hU.2 k).2 ⟨p, h, hk⟩)
      · rw [h] at hk; cases hk⟩
  obtain ⟨F'', b1, b2⟩ := hK0 _ _ _ a1 a2
  exact One.turn h2 h3 h4 b1 b2
theorem bGrow {v v' : Value} {xs ys : List ByteArray} {w' : World} (h : One (pairO (EnO ge g bn bd) (pairO RowsO U)) B ((s, e), ((v, xs) :: l, t)) w0 w) (ho : Own w' v' (xs ++ ys)) (hg : w.grownBy w' v.ownBlock) (hl : v'.ownBlock = v.ownBlock ∨ v'.ownBlock = some w.heap.size) (hT : Top v xs.length l)
    (hk : ∀ p k ps, w.ownsRow 0 9 1 p k ps → (p.ownBlock = v.ownBlock → k ≤ xs.length) → w'.ownsRow 0 9 1 p k ps) : One (pairO (EnO ge g bn bd) (pairO RowsO U)) B ((s, e), ((v', xs ++ ys) :: l, t)) w0 w' ∧ Top v' (xs ++ ys).length l := by
  obtain ⟨F, h1, h2, h3, h4⟩ := h
  obtain ⟨F0, hV, hK0⟩ := pair_snd h1
  obtain ⟨F1, hU, hK⟩ := pair_fst hV
  have k2 : Kp F1 w w' := ⟨hg.os, hg.tape, hg.output, hg.size, fun j hj hn => hg.block j hj (fun e => hn ((hU.2 j).2 ⟨_, List.mem_cons_self, e⟩))⟩
  have hrow : ∀ p ∈ l, Own w' p.1 p.2 := fun p hp => hk _ _ _ (hU.1 p (List.mem_cons_of_mem _ hp)) (hT p hp)
  refine ⟨?_, fun p hp hb => ?_⟩
  · obtain ⟨F', a1, a2⟩ := hK ((v', xs ++ ys) :: l) (fun k => ∃ p ∈ (v', xs ++ ys) :: l, some k = p.1.ownBlock) w' ⟨fun p hp => by
      rcases List.mem_cons.1 hp with rfl | hp
      · exact ho
      · exact hrow p hp, fun k => Iff.rfl⟩ ⟨k2, fun k ⟨p, hp, hk⟩ => by
        rcases List.mem_cons.1 hp with rfl | hp
        · rcases hl with h | h
          · exact .inl ((hU.2 k).2 ⟨_, List.mem_cons_self, by rw [hk, h]⟩)
          · have hk : some k = v'.ownBlock := hk
            rw [h] at hk
            exact .inr (by rw [Option.some.inj hk]; exact Nat.le_refl _)
        · exact .inl ((hU.2 k).2 ⟨p, List.mem_cons_of_mem _ hp, hk⟩)⟩
    obtain ⟨F'', b1, b2⟩ := hK0 _ _ _ a1 a2
    exact One.turn h2 h3 h4 b1 b2
  · rw [List.length_append]
    rcases hl with h | h
    · have := hT p hp (hb.trans h); omega
    · have := ((hU.1 p (List.mem_cons_of_mem _ hp)).lt _ (hb.trans h)).2
      omega
end
theorem top_nil {w : World} {l : List (Value × List ByteArray)} (h : ∀ p ∈ l, Own w p.1 p.2) : Top (.slice none 0 0) 0 l := fun p hp hb => by
  rcases (h p hp).form with ⟨_, e2⟩ | ⟨g', c', e1, _⟩
  · rw [e2]; exact Nat.le_refl _
  · rw [e1] at hb; cases hb
-- a list that is read, as append takes it
def Rd (w : World) (y : Value) (ys : List ByteArray) : Prop := ReadsT w y ys ∧ ∀ n c, y = .slice none n c → c = 0
theorem Own.rd {w : World} {v : Value} {xs : List ByteArray} (h : Own w v xs) : Rd w v xs := ⟨h.reads, fun n c e => by
  rcases h.form with ⟨e1, _⟩ | ⟨g', c', e1, _⟩
  · rw [e1] at e; injection e with _ _ e; exact e.symm
  · rw [e1] at e; cases e⟩
section
variable {w : World}
theorem wpList_appO {ops : Array Oper} {rest : List Oper} {o : Oper} {a : Act} {Q : Exit → Act → World → Prop} (hgd : o.guard = none) (s x : Operand)
    (ho : o.op = .call { callee := .builtin .append, args := #[s, x], argTypes := #[22, 22] })
    (v y : Value) (xs ys : List ByteArray) (hs : a.eval s = v) (hown : Own w v xs) (hx : a.eval x = y) (hy : Rd w y ys) (hb : (xs.length + ys.length) * 16 ≤ 140737488355328)
    (h : ∀ v' w', Own w' v' (xs ++ ys) → w.grownBy w' v.ownBlock → (v'.ownBlock = v.ownBlock ∨ v'.ownBlock = some w.heap.size) → (∀ p k ps, w.ownsRow 0 9 1 p k ps → (p.ownBlock = v.ownBlock → k ≤ xs.length) → w'.ownsRow 0 9 1 p k ps) → wpList Tryz.prog ops Q rest (a.put o.dst v') w') :
    wpList Tryz.prog ops Q (o :: rest) a w := by
  obtain ⟨i9, hi9', hz0, hz1, hz2⟩ := info_parts hi9
  obtain ⟨⟨ad, c, rfl, hc, hr⟩, hn⟩ := hy
  cases ad with
  | none =>
    have hc0 := hn _ _ rfl
    subst hc0
    have hl0 : ys = [] := List.length_eq_zero_iff.1 (by omega)
    subst hl0
    refine wpList_app_none hgd s x 22 ho 9 i9 Tryz.underlying22 hi9' v _ _ hs hown hx ?_
    exact h v w (by rw [List.append_nil]; exact hown) ⟨rfl, rfl, rfl, Nat.le_refl _, fun _ _ _ => rfl⟩ (.inl rfl) (fun p k ps hp _ => hp)
  | some ad =>
    refine wpList_app hgd s x 22 ho 9 i9 (.string ByteArray.empty) 16 Tryz.underlying22 hi9' hz0 hz1 hz2 rfl v _ _ hs hown ad ys.length c (ys.map Value.string) hx (by rw [List.length_map, Nat.mul_one]) (fun j u hu => ?_) (fun u hu => ?_) (by unfold maxLen; omega) hb ?_
    · rcases hr with h0 | ⟨b, off, e1, hh⟩
      · rw [List.length_eq_zero_iff.1 h0] at hu; simp at hu
      · have e1 := Option.some.inj e1
        subst e1
        rw [List.getElem?_map] at hu
        cases hj : ys[j]? with
        | none => rw [hj] at hu; cases hu
        | some y =>
          rw [hj] at hu
          have h7 := hh j (List.getElem?_eq_some_iff.1 hj).1
          rw [List.getD, hj] at h7
          rw [Addr.add_mid, h7]
          exact hu
    · obtain ⟨y, _, rfl⟩ := List.mem_map.1 hu
      rfl
    · intro v' w' k1 k2 k3 k4
      exact h v' w' (by unfold Own; rw [List.length_append, List.map_append]; exact k1) k2 k3 k4
end
-- storms in memory
structure Stm where
  bs : List (List ByteArray)
  syncs : Int
  at_ : Int
  after : Int
  keep : ByteArray
def ReadsK (w : World) (v : Value) (bs : List (List ByteArray)) : Prop := ∃ a c, v = .slice a bs.length c ∧ (bs.length = 0 ∨ ∃ b off, a = some ⟨b, off, none⟩ ∧ ∀ i l, bs[i]? = some l → ∃ a' c', w.cell? ⟨b, off + i, none⟩ = some (.slice a' l.length c') ∧ Rd w (.slice a' l.length c') l)
theorem Rd.later {w w' : World} {v : Value} {l : List ByteArray} (h : Rd w v l) (b : Below w.heap.size w w') : Rd w' v l := ⟨h.1.later b, h.2⟩
theorem ReadsK.later {w w' : World} {v : Value} {bs : List (List ByteArray)} (h : ReadsK w v bs) (b : Below w.heap.size w w') : ReadsK w' v bs := by
  obtain ⟨a, c, rfl, h0 | ⟨b', off, rfl, hh⟩⟩ := h
  · exact ⟨a, c, rfl, .inl h0⟩
  · refine ⟨_, c, rfl, .inr ⟨b', off, rfl, fun i l hl => ?_⟩⟩
    obtain ⟨a', c', h1, h2⟩ := hh i l hl
    exact ⟨a', c', (b.cell (World.block_lt_of_cell? _ _ h1)).trans h1, h2.later b⟩
def ReadsM (w : World) (v : Value) (ss : List Stm) : Prop := ∃ a c, v = .slice a ss.length c ∧ (ss.length = 0 ∨ ∃ b off, a = some ⟨b, off, none⟩ ∧ ∀ i st, ss[i]? = some st → ∃ bv, w.cell? ⟨b, off + i * 5, none⟩ = some bv ∧ ReadsK w bv st.bs ∧ w.cell? ⟨b, off + i * 5 + 1, none⟩ = some (.int .i64 st.syncs) ∧ w.cell? ⟨b, off + i * 5 + 2, none⟩ = some (.int .i64 st.at_) ∧ w.cell? ⟨b, off + i * 5 + 3, none⟩ = some (.int .i64 st.after) ∧ w.cell? ⟨b, off + i * 5 + 4, none⟩ = some (.string st.keep))
theorem ReadsM.later {w w' : World} {v : Value} {ss : List Stm} (h : ReadsM w v ss) (b : Below w.heap.size w w') : ReadsM w' v ss := by
  obtain ⟨a, c, rfl, h0 | ⟨b', off, rfl, hh⟩⟩ := h
  · exact ⟨a, c, rfl, .inl h0⟩
  · refine ⟨_, c, rfl, .inr ⟨b', off, rfl, fun i st hl => ?_⟩⟩
    obtain ⟨bv, h1, h2, h3, h4, h5, h6⟩ := hh i st hl
    have k : ∀ {p : Addr} {v : Value}, w.cell? p = some v → w'.cell? p = some v := fun h => (b.cell (World.block_lt_of_cell? _ _ h)).trans h
    exact ⟨bv, k h1, h2.later b, k h3, k h4, k h5, k h6⟩
end Go.Proofs.YtofmkdagehehaaaGreatDoor.hp
