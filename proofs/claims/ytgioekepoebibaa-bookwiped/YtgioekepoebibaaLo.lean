import Derived.Test.YtgioekepoebibaaBb
namespace Go.Proofs.Ytgioekepoebibaa.lo
open Go.RowKit Go.PlainAid Go.Maps Go.Shelf
open Go.Proofs.Ytgioekepoebibaa.kp Go.Proofs.Ytgioekepoebibaa.ka Go.Proofs.Ytgioekepoebibaa.ya Go.Proofs.Ytgioekepoebibaa.yb Go.Proofs.Ytgioekepoebibaa.yc Go.Proofs.Ytgioekepoebibaa.yd Go.Proofs.Ytgioekepoebibaa.ye Go.Proofs.Ytgioekepoebibaa.yf Go.Proofs.Ytgioekepoebibaa.yg Go.Proofs.Ytgioekepoebibaa.yi Go.Proofs.Ytgioekepoebibaa.yk Go.Proofs.Ytgioekepoebibaa.yl Go.Proofs.Ytgioekepoebibaa.ym Go.Proofs.Ytgioekepoebibaa.yn
open Go.Proofs.Ytgioekepoebibaa.qa Go.Proofs.Ytgioekepoebibaa.qg Go.Proofs.Ytgioekepoebibaa.qh Go.Proofs.Ytgioekepoebibaa.ba Go.Proofs.Ytgioekepoebibaa.bb
open Go.Proofs.Ytgioekepoebibaa.qb (over keyC keyNo)
open Go.Proofs.Ytgioekepoebibaa.qc (key_same wi kd wi_ok kd_ok withinC kindOfC)
open Go.Proofs.Ytgioekepoebibaa.lb (shF shF_size shortC)
set_option linter.unusedVariables false
set_option linter.unusedSimpArgs false
def besd (n : Int) : Int := if n = 0 then 1 else n - 1
theorem besd_ok (n : Int) (h0 : 0 ≤ n) (h1 : n ≤ 9223372036854775807) : 0 ≤ besd n ∧ besd n ≤ 9223372036854775807 ∧ besd n ≠ n := by unfold besd; split <;> omega
theorem besideC (n : Int) (w : World) (h0 : 0 ≤ n) (h1 : n ≤ 9223372036854775807) : Calls Try.prog 20 #[.int .i64 n] w fun e w' => e = .returned (.int .i64 (besd n)) ∧ w' = w := by
  by_cases h : n = 0
  · rw [besd, if_pos h]
    subst h
    go_enter Try.func20, Try.ntmps20
    go_wp2
    go_ret
    exact ⟨rfl, rfl⟩
  · rw [besd, if_neg h]
    have h' : (n == 0) = false := by rw [beq_eq_false_iff_ne]; exact h
    clear h
    go_enter Try.func20, Try.ntmps20
    go_wp2
    go_ret
    exact ⟨rfl, rfl⟩
theorem text_ne {a b : ByteArray} (h : a ≠ b) : (a.toList == b.toList) = false := by
  rw [beq_eq_false_iff_ne]
  intro e
  rw [ByteArray.toList_eq, ByteArray.toList_eq] at e
  exact h (ByteArray.ext (Array.toList_inj.1 e))
theorem keys_apart (s k n t l m : Int) (s0 : 0 ≤ s) (s1 : s ≤ 9223372036854775807) (k0 : 0 ≤ k) (k1 : k ≤ 255) (n0 : 0 ≤ n) (n1 : n ≤ 9223372036854775807) (t0 : 0 ≤ t) (t1 : t ≤ 9223372036854775807) (l0 : 0 ≤ l) (l1 : l ≤ 255) (m0 : 0 ≤ m) (m1 : m ≤ 9223372036854775807) (h : ¬ (s = t ∧ k = l ∧ n = m)) : keyT s k n ≠ keyT t l m := by
  intro e
  have hh := key_same s k n t l m s0 s1 k0 k1 n0 n1 t0 t1 l0 l1 m0 m1
  rw [e] at hh
  simp at hh
  exact h ⟨hh.1.1, hh.1.2, hh.2⟩
theorem bget_frame {k n : Int} {p : ByteArray} (k0 : 1 ≤ k) (k1 : k ≤ 255) (n0 : 0 ≤ n) (n1 : n ≤ 9223372036854775807) (hp : p.size ≤ 524288) : bgetV k n (frameT k n p, 0) = (p, 0) := by
  obtain ⟨h1, h2, h3, h4⟩ := parse_frame k n p k0 k1 n0 n1 hp
  unfold bgetV
  rw [if_pos rfl, if_pos ⟨h1, h2, h3⟩, h4]
theorem mt_new {T B g bn bd n : Nat} {s : S} {v u : Value} {xs : List Value} {w w1 : World} (h : Mt T 1 B g bn bd s v n xs w w1) (hB : B ≤ w.heap.size) : Mt T 1 B g bn bd s (.slice (some ⟨w1.heap.size, 0, none⟩) 1 1) 1 [u] w (w1.alloc (.cells #[u] T)) := by
  have h2 := h.later ((Below.refl _ w1).alloc (Nat.le_refl _) (.cells #[u] T)) hB
  refine ⟨h2.ex, ⟨rfl, .inr ⟨w1.heap.size, 1, #[u], rfl, Nat.le_trans hB h.bl.size, heap_alloc_new w1 _, Nat.le_refl _, by unfold maxLen; omega, rfl, rfl⟩⟩, h2.bl⟩
theorem tne1 : (9 : Nat) ≠ 79 := by decide
theorem tne2 : (9 : Nat) ≠ 82 := by decide
def bsd : ByteArray := ⟨#[98, 101, 115, 105, 100, 101]⟩
set_option maxRecDepth 100000 in
set_option maxHeartbeats 12800000 in
theorem outlasts_walk (space : Int) (ws : (Lit.int .i64 space).wf = true) (kind : Int) (wk : (Lit.int .i64 kind).wf = true) (number : Int) (wn : (Lit.int .i64 number).wf = true) (first : ByteArray) (zf : first.size ≤ 140737488351232) (lv : Value) (ls : List ByteArray) {W : World} (hr : ReadsT W lv ls) (hno : ∀ k c, lv = .slice none k c → c = 0) (hsz : ∀ x ∈ ls, x.size ≤ 140737488351232) (hln : ls.length * 16 ≤ 140737488351232) (keep : ByteArray) (zk : keep.size ≤ 140737488351232) :
    Calls Try.prog 7 #[.int .i64 space, .int .i64 kind, .int .i64 number, .string first, lv, .string keep] W fun e w' => e = .returned (.bool true) ∧ Below W.heap.size W w' := by
  have bs' := bounds_i64 ws
  have bk := bounds_i64 wk
  have bn' := bounds_i64 wn
  have HS1 : Hid (∀ w, Calls _ _ _ _ _) := fun w => withinC space w
  have HK1 : Hid (∀ w, Calls _ _ _ _ _) := fun w => kindOfC kind w bk.1 bk.2
  have HN1 : Hid (∀ w, Calls _ _ _ _ _) := fun w => withinC number w
  have aS := wi_ok space bs'.2
  have aN := wi_ok number bn'.2
  have aK := kd_ok kind
  have HO1 : Hid (∀ w, Calls _ _ _ _ _) := fun w => shortC first w zf
  have zo := shF_size first
  obtain ⟨Sp, hSp⟩ : ∃ x, wi space = x := ⟨_, rfl⟩
  obtain ⟨Nu, hNu⟩ : ∃ x, wi number = x := ⟨_, rfl⟩
  obtain ⟨Kd, hKd⟩ : ∃ x, kd kind = x := ⟨_, rfl⟩
  obtain ⟨old, hold⟩ : ∃ x, shF first = x := ⟨_, rfl⟩
  rw [hSp] at HS1 aS
  rw [hNu] at HN1 aN
  rw [hKd] at HK1 aK
  rw [hold] at HO1 zo
  clear hSp hNu hKd hold ws wk wn bs' bk bn'
  have aB := besd_ok Nu aN.1 aN.2
  have HB1 : Hid (∀ w, Calls _ _ _ _ _) := fun w => besideC Nu w aN.1 aN.2
  obtain ⟨Nb, hNb⟩ : ∃ x, besd Nu = x := ⟨_, rfl⟩
  rw [hNb] at HB1 aB
  clear hNb
  have hks : Ks (keyT Sp Kd Nu) (keyT Sp Kd Nb) := ⟨keys_apart _ _ _ _ _ _ aS.1 aS.2 (by omega) aK.2 aN.1 aN.2 aS.1 aS.2 (by omega) aK.2 aB.1 aB.2.1 (fun h => aB.2.2 h.2.2.symm), keyT_size _ _ _, keyT_size _ _ _⟩
  have zFo := frameT_size Kd Nu old
  have zFb := frameT_size Kd Nb bsd
  have zb : bsd.size = 6 := rfl
  have ok1 : 0 ≤ Sp ∧ 1 ≤ Kd ∧ Kd ≤ 255 ∧ 0 ≤ Nu := ⟨aS.1, aK.1, aK.2, aN.1⟩
  have ok2 : 0 ≤ Sp ∧ 1 ≤ Kd ∧ Kd ≤ 255 ∧ 0 ≤ Nb := ⟨aS.1, aK.1, aK.2, aB.1⟩
  have hbp : ∀ s p, p.size ≤ 524288 → bputS s Sp Kd Nu p = putS s (keyT Sp Kd Nu) (frameT Kd Nu p) := fun s p hp => by unfold bputS; rw [if_pos ok1, if_pos hp]
  have hbq : ∀ s, bputS s Sp Kd Nb bsd = putS s (keyT Sp Kd Nb) (frameT Kd Nb bsd) := fun s => by unfold bputS; rw [if_pos ok2, if_pos (by rw [zb]; omega)]
  have hs0 := s00_put hks (a := frameT Kd Nu old) (b := frameT Kd Nb bsd) (by omega) (by omega)
  -- the contracts over the law's own states
  have CN : Hid (∀ w1, Calls _ _ _ _ _) := fun w1 => newC 536870912 w1 (by omega)
  have CA : Hid (∀ g bn bd v n xs w1, Mt 9 1 W.heap.size g bn bd s00 v n xs W w1 → Calls Try.prog 19 #[.pointer (some ⟨g, 0, none⟩), .int .i64 Sp, .int .i64 Kd, .int .i64 Nu, .string old] w1 fun e w' => e = .returned (.int .i64 0) ∧ Mt 9 1 W.heap.size g bn bd (addW s00 ⟨false, keyT Sp Kd Nu, frameT Kd Nu old⟩) v n xs W w') := fun g bn bd v n xs w1 h => by
    obtain ⟨pv, hp⟩ := h.ex
    have C := bputC Sp Kd Nu old hp aS.2 aN.2 (by decide) (Nat.le_trans (Nat.le_refl _) h.bl.size)
    rw [hbp _ _ zo, hs0.1] at C
    exact C.mono (by rintro e w' ⟨rfl, r⟩; exact ⟨rfl, h.rn tne1 tne2 hp r (Nat.le_refl _)⟩)
  have CB : Hid (∀ g bn bd v n xs w1, Mt 9 1 W.heap.size g bn bd (addW s00 ⟨false, keyT Sp Kd Nu, frameT Kd Nu old⟩) v n xs W w1 → Calls Try.prog 19 #[.pointer (some ⟨g, 0, none⟩), .int .i64 Sp, .int .i64 Kd, .int .i64 Nb, .string bsd] w1 fun e w' => e = .returned (.int .i64 0) ∧ Mt 9 1 W.heap.size g bn bd (addW (addW s00 ⟨false, keyT Sp Kd Nu, frameT Kd Nu old⟩) ⟨false, keyT Sp Kd Nb, frameT Kd Nb bsd⟩) v n xs W w') := fun g bn bd v n xs w1 h => by
    obtain ⟨pv, hp⟩ := h.ex
    have C := bputC Sp Kd Nb bsd hp aS.2 aB.2.1 (by show 0 + 1 + 1 < _; omega) (Nat.le_trans (Nat.le_refl _) h.bl.size)
    rw [hbq, hs0.2] at C
    exact C.mono (by rintro e w' ⟨rfl, r⟩; exact ⟨rfl, h.rn tne1 tne2 hp r (Nat.le_refl _)⟩)
  have CC : Hid (∀ g bn bd v n xs w1, Mt 9 1 W.heap.size g bn bd (addW (addW s00 ⟨false, keyT Sp Kd Nu, frameT Kd Nu old⟩) ⟨false, keyT Sp Kd Nb, frameT Kd Nb bsd⟩) v n xs W w1 → Calls Try.prog 21 #[.pointer (some ⟨g, 0, none⟩)] w1 fun e w' => e = .returned (.int .i64 0) ∧ Mt 9 1 W.heap.size g bn bd (sL (frameT Kd Nu) (keyT Sp Kd Nu) (keyT Sp Kd Nb) (frameT Kd Nu old) (frameT Kd Nb bsd) []) v n xs W w') := fun g bn bd v n xs w1 h => by
    obtain ⟨pv, hp⟩ := h.ex
    have C := syncC hp (Nat.le_trans (Nat.le_refl _) h.bl.size)
    rw [s00_sync (frameT Kd Nu)] at C
    exact C.mono (by rintro e w' ⟨rfl, r⟩; exact ⟨rfl, h.rn tne1 tne2 hp r (Nat.le_refl _)⟩)
  have CP : Hid (∀ g bn bd v n xs w1 ps p, ps.length ≤ 50 → p.size ≤ 524288 → Mt 9 1 W.heap.size g bn bd (sL (frameT Kd Nu) (keyT Sp Kd Nu) (keyT Sp Kd Nb) (frameT Kd Nu old) (frameT Kd Nb bsd) ps) v n xs W w1 → Calls Try.prog 19 #[.pointer (some ⟨g, 0, none⟩), .int .i64 Sp, .int .i64 Kd, .int .i64 Nu, .string p] w1 fun e w' => e = .returned (.int .i64 0) ∧ Mt 9 1 W.heap.size g bn bd (sL (frameT Kd Nu) (keyT Sp Kd Nu) (keyT Sp Kd Nb) (frameT Kd Nu old) (frameT Kd Nb bsd) (ps ++ [p])) v n xs W w') := fun g bn bd v n xs w1 ps p hps hp' h => by
    obtain ⟨pv, hp⟩ := h.ex
    have hdl : (D0 (keyT Sp Kd Nu) (keyT Sp Kd Nb) (frameT Kd Nu old) (frameT Kd Nb bsd)).length ≤ 2 := by
      unfold D0
      have h1 := len_put (keyT Sp Kd Nb) (frameT Kd Nb bsd) (put (keyT Sp Kd Nu) (frameT Kd Nu old) [])
      have h2 := len_put (keyT Sp Kd Nu) (frameT Kd Nu old) []
      simp at h2
      omega
    have zfp := frameT_size Kd Nu p
    have C := bputC Sp Kd Nu p hp aS.2 aN.2 (by simp only [sL, List.length_map]; omega) (Nat.le_trans (Nat.le_refl _) h.bl.size)
    rw [hbp _ _ hp', sL_put hks (by omega) (by omega) ps p (by omega)] at C
    exact C.mono (by rintro e w' ⟨rfl, r⟩; exact ⟨rfl, h.rn tne1 tne2 hp r (Nat.le_refl _)⟩)
  have CG : Hid (∀ g bn bd v n xs w1 ps p, p.size ≤ 524288 → Mt 9 1 W.heap.size g bn bd (sL (frameT Kd Nu) (keyT Sp Kd Nu) (keyT Sp Kd Nb) (frameT Kd Nu old) (frameT Kd Nb bsd) (ps ++ [p])) v n xs W w1 → Calls Try.prog 22 #[.pointer (some ⟨g, 0, none⟩), .int .i64 Sp, .int .i64 Kd, .int .i64 Nu] w1 fun e w' => e = .returned (.tuple #[.string p, .int .i64 0]) ∧ Mt 9 1 W.heap.size g bn bd (sL (frameT Kd Nu) (keyT Sp Kd Nu) (keyT Sp Kd Nb) (frameT Kd Nu old) (frameT Kd Nb bsd) (ps ++ [p])) v n xs W w') := fun g bn bd v n xs w1 ps p hp' h => by
    obtain ⟨pv, hp⟩ := h.ex
    have C := bgetC Sp Kd Nu hp aS.2 aN.2
    have e : bgetS (sL (frameT Kd Nu) (keyT Sp Kd Nu) (keyT Sp Kd Nb) (frameT Kd Nu old) (frameT Kd Nb bsd) (ps ++ [p])) Sp Kd Nu = (p, 0) := by
      unfold bgetS
      rw [if_pos ok1, sL_get hks, bget_frame aK.1 aK.2 aN.1 aN.2 hp']
    rw [e] at C
    exact C.mono (by rintro e w' ⟨rfl, b⟩; exact ⟨rfl, h.later b (Nat.le_refl _)⟩)
  have CX : Hid (∀ g bn bd v n xs w1 ps, Mt 9 1 W.heap.size g bn bd (sL (frameT Kd Nu) (keyT Sp Kd Nu) (keyT Sp Kd Nb) (frameT Kd Nu old) (frameT Kd Nb bsd) ps) v n xs W w1 → Calls Try.prog 23 #[.pointer (some ⟨g, 0, none⟩), .string keep] w1 fun e w' => e = .returned (.tuple #[]) ∧ Mt 9 1 W.heap.size g bn bd (sC (frameT Kd Nu) (keyT Sp Kd Nu) (keyT Sp Kd Nb) (frameT Kd Nu old) (frameT Kd Nb bsd) ps keep) v n xs W w') := fun g bn bd v n xs w1 ps h => by
    obtain ⟨pv, hp⟩ := h.ex
    have C := crashC keep hp (by omega) (by show 0 < _; omega)
    exact C.mono (by rintro e w' ⟨rfl, r⟩; exact ⟨rfl, h.rn tne1 tne2 hp r (Nat.le_refl _)⟩)
  have CY : Hid (∀ ps, (∀ p ∈ old :: ps, p.size ≤ 524288) → ∃ p ∈ old :: ps, ∀ g bn bd v n xs w1, Mt 9 1 W.heap.size g bn bd (sC (frameT Kd Nu) (keyT Sp Kd Nu) (keyT Sp Kd Nb) (frameT Kd Nu old) (frameT Kd Nb bsd) ps keep) v n xs W w1 → Calls Try.prog 22 #[.pointer (some ⟨g, 0, none⟩), .int .i64 Sp, .int .i64 Kd, .int .i64 Nu] w1 fun e w' => e = .returned (.tuple #[.string p, .int .i64 0]) ∧ Mt 9 1 W.heap.size g bn bd (sC (frameT Kd Nu) (keyT Sp Kd Nu) (keyT Sp Kd Nb) (frameT Kd Nu old) (frameT Kd Nb bsd) ps keep) v n xs W w') := fun ps hps => by
    obtain ⟨⟨p, hp, hg⟩, _⟩ := sC_get (F := frameT Kd Nu) (a0 := old) (b := frameT Kd Nb bsd) hks ps keep
    refine ⟨p, hp, fun g bn bd v n xs w1 h => ?_⟩
    obtain ⟨pv, hp2⟩ := h.ex
    have C := bgetC Sp Kd Nu hp2 aS.2 aN.2
    have e : bgetS (sC (frameT Kd Nu) (keyT Sp Kd Nu) (keyT Sp Kd Nb) (frameT Kd Nu old) (frameT Kd Nb bsd) ps keep) Sp Kd Nu = (p, 0) := by
      unfold bgetS
      rw [if_pos ok1, hg, bget_frame aK.1 aK.2 aN.1 aN.2 (hps p hp)]
    rw [e] at C
    exact C.mono (by rintro e w' ⟨rfl, b⟩; exact ⟨rfl, h.later b (Nat.le_refl _)⟩)
  have CZ : Hid (∀ ps g bn bd v n xs w1, Mt 9 1 W.heap.size g bn bd (sC (frameT Kd Nu) (keyT Sp Kd Nu) (keyT Sp Kd Nb) (frameT Kd Nu old) (frameT Kd Nb bsd) ps keep) v n xs W w1 → Calls Try.prog 22 #[.pointer (some ⟨g, 0, none⟩), .int .i64 Sp, .int .i64 Kd, .int .i64 Nb] w1 fun e w' => e = .returned (.tuple #[.string bsd, .int .i64 0]) ∧ Mt 9 1 W.heap.size g bn bd (sC (frameT Kd Nu) (keyT Sp Kd Nu) (keyT Sp Kd Nb) (frameT Kd Nu old) (frameT Kd Nb bsd) ps keep) v n xs W w') := fun ps g bn bd v n xs w1 h => by
    obtain ⟨pv, hp2⟩ := h.ex
    have C := bgetC Sp Kd Nb hp2 aS.2 aB.2.1
    have e : bgetS (sC (frameT Kd Nu) (keyT Sp Kd Nu) (keyT Sp Kd Nb) (frameT Kd Nu old) (frameT Kd Nb bsd) ps keep) Sp Kd Nb = (bsd, 0) := by
      unfold bgetS
      rw [if_pos ok2, (sC_get (F := frameT Kd Nu) (a0 := old) (b := frameT Kd Nb bsd) hks ps keep).2, bget_frame aK.1 aK.2 aB.1 aB.2.1 (by rw [zb]; omega)]
    rw [e] at C
    exact C.mono (by rintro e w' ⟨rfl, b⟩; exact ⟨rfl, h.later b (Nat.le_refl _)⟩)
  have HRD : Hid (∀ w1, Below W.heap.size W w1 → ReadsT w1 lv ls) := fun w1 b => hr.later b
  obtain ⟨la, lc, rfl, hcap, hcells⟩ := hr
  obtain ⟨i9, hi, hz0, hz1, hz2⟩ := ka.info_parts ka.hi9
  have HIN : Hid (_ ∧ _ ∧ _ ∧ _) := ⟨hi, hz0, hz1, hz2⟩
  generalize keyT Sp Kd Nu = K1 at *
  generalize keyT Sp Kd Nb = K2 at *
  generalize frameT Kd Nu = F at *
  generalize frameT Kd Nb bsd = FB at *
  unfold bsd at CB CZ
  clear hi hz0 hz1 hz2 hbp hbq hs0 hks zFo zFb zb ok1 ok2 aB aS aK aN hcells hno
  have HSZ : Hid (∀ x ∈ ls, x.size ≤ 140737488351232) := hsz
  clear hsz
  go_enter Try.func7, Try.ntmps7
  go_wp2_with fail
  refine (CN.out _).mono ?_
  rintro _ w1 ⟨g, bn, bd, rfl, h1, b1⟩
  have M1 : Hid (Mt 9 1 W.heap.size g bn bd s00 (.slice none 0 0) 0 [] W w1) := ⟨⟨_, h1⟩, World.ownsRow_nil _ _ _ _, b1⟩
  clear h1 b1
  go_wp2_with fail
  refine (HS1.out _).mono ?_
  rintro _ _ ⟨rfl, hw⟩; rw [hw]; clear hw
  go_wp2_with fail
  refine (HK1.out _).mono ?_
  rintro _ _ ⟨rfl, hw⟩; rw [hw]; clear hw
  go_wp2_with fail
  refine (HN1.out _).mono ?_
  rintro _ _ ⟨rfl, hw⟩; rw [hw]; clear hw
  go_wp2_with fail
  refine (HO1.out _).mono ?_
  rintro _ _ ⟨rfl, hw⟩; rw [hw]; clear hw
  go_wp2_with fail
  refine (CA.out _ _ _ _ _ _ _ M1.out).mono ?_
  rintro _ w2 ⟨rfl, m2⟩
  have M2 : Hid (Mt _ _ _ _ _ _ _ _ _ _ _ _) := m2
  clear m2 M1
  go_wp2_with fail
  refine (HB1.out _).mono ?_
  rintro _ _ ⟨rfl, hw⟩; rw [hw]; clear hw
  go_wp2_with fail
  refine (CB.out _ _ _ _ _ _ _ M2.out).mono ?_
  rintro _ w3 ⟨rfl, m3⟩
  have M3 : Hid (Mt _ _ _ _ _ _ _ _ _ _ _ _) := m3
  clear m3 M2
  go_wp2_with fail
  refine (CC.out _ _ _ _ _ _ _ M3.out).mono ?_
  rintro _ w4 ⟨rfl, m4⟩
  have M4 : Hid (Mt _ _ _ _ _ _ _ _ _ _ _ _) := mt_new (u := .string old) m4 (Nat.le_refl _)
  clear m4 M3
  go_wp2_with fail
  go_loopw [21, 22] (fun mv iv wr => ∃ (i : Nat) (ps : List ByteArray), i ≤ 50 ∧ i ≤ ls.length ∧ iv = .int .i64 i ∧ Hid (ps.length = i ∧ ∀ p ∈ old :: ps, p.size ≤ 524288) ∧ Hid (Mt 9 1 W.heap.size g bn bd (sL F K1 K2 (F old) FB ps) mv (i + 1) ((old :: ps).map Value.string) W wr)) (fun _ iv _ => (50 - intOf iv).toNat)
  case atStart => exact ⟨0, [], by omega, by omega, rfl, ⟨rfl, fun p hp => by simp at hp; subst hp; exact zo⟩, M4.out⟩
  case round =>
    clear M4
    obtain ⟨i, ps, hi50, hil, rfl, HP, MM⟩ := hrel
    obtain ⟨ma, mc, hform⟩ := own_formS MM.out.row
    subst hform
    by_cases hgo : i < ls.length ∧ i < 50
    · have g1 : (i : Int) < ls.length := by omega
      have g2 : (i : Int) < 50 := by omega
      have hi1 := hgo.1
      clear hgo
      obtain ⟨x, hx⟩ : ∃ x, ls[i]? = some x := ⟨_, List.getElem?_eq_getElem hi1⟩
      have CSx : Hid (∀ w, Calls _ _ _ _ _) := fun w => shortC x w (HSZ.out x (List.mem_of_getElem? hx))
      have zx := shF_size x
      obtain ⟨p, HPP⟩ : ∃ p, Hid (shF x = p) := ⟨_, rfl⟩
      rw [HPP.out] at CSx zx
      obtain ⟨la', lc', e0, _, hcl⟩ := HRD.out wr MM.out.bl
      injection e0 with e1 e2 e3
      subst e1
      rcases hcl with h0 | ⟨lb, lo', rfl, hcl⟩
      · omega
      have cx : wr.cell? ⟨lb, lo' + i, none⟩ = some (.string x) := by
        have h := hcl i hi1
        rw [List.getD, hx] at h
        exact h
      have HX : Hid _ := hx
      clear hcl e2 e3 hx
      have t1 : (p.toList != p.toList) = false := by simp
      go_wp2_with fail
      refine (CSx.out _).mono ?_
      rintro _ _ ⟨rfl, hw⟩; rw [hw]; clear hw
      go_wp2_with fail
      refine (CP.out _ _ _ _ _ _ _ ps p (by rw [HP.out.1]; omega) zx MM.out).mono ?_
      rintro _ w5 ⟨rfl, m5⟩
      have M5 : Hid (Mt _ _ _ _ _ _ _ _ _ _ _ _) := m5
      clear m5
      go_wp2_with fail
      refine (CG.out _ _ _ _ _ _ _ ps p zx M5.out).mono ?_
      rintro _ w6 ⟨rfl, m6⟩
      have M6 : Hid (Mt _ _ _ _ _ _ _ _ _ _ _ _) := m6.later ((Below.refl _ w6).alloc (Nat.le_refl _) (.cells #[.string p] 9)) (Nat.le_refl _)
      have hsz6 : W.heap.size ≤ w6.heap.size := m6.bl.size
      clear m6 M5
      have hlm : ((old :: ps).map Value.string).length = i + 1 := by have := HP.out.1; simp; omega
      go_wp2_with (first | (at_builtin; (refine wpList_append_own _ rfl _ _ 42 rfl W.heap.size 9 i9 (.string ByteArray.empty) 1 16 Try.underlying42 HIN.out.1 HIN.out.2.1 HIN.out.2.2.1 HIN.out.2.2.2 rfl (by decide) _ (i + 1) _ rfl M6.out.row ⟨w6.heap.size, 0, none⟩ 1 1 [.string p] rfl rfl (new_text _ _ _) (one_text _) (by unfold maxLen; omega) (by omega) (by simp; omega) ?_; intro v' w7 ho hg hnn; have HO3 : Hid (World.ownsRow _ _ _ _ _ _ _) := ho; have HG3 : Hid (World.grownBy _ _ _) := hg; clear ho hg hnn)) | go_in)
      go_roundw
      case rel =>
        refine ⟨i + 1, ps ++ [p], by omega, by omega, by go_num, ⟨by have := HP.out.1; simp; omega, fun q hq => ?_⟩, ?_⟩
        · rw [← List.cons_append] at hq
          rcases List.mem_append.1 hq with h | h
          · exact HP.out.2 q h
          · simp at h; subst h; exact zx
        · have h := M6.out.grown tne1 tne2 HO3.out HG3.out (Nat.le_refl _)
          rw [← List.cons_append, List.map_append]
          exact h
      case measure => simp [intOf]; omega
    · have hend : (¬ (i : Int) < ls.length) ∨ ((i : Int) < ls.length ∧ ¬ (i : Int) < 50) := by omega
      clear hgo
      obtain ⟨q, hq, cy⟩ := CY.out ps HP.out.2
      have CYq : Hid (∀ g bn bd v n xs w1, Mt _ _ _ _ _ _ _ _ _ _ _ _ → Calls _ _ _ _ _) := cy
      have HQ : Hid _ := hq
      clear cy hq CY
      have t1 : ((⟨#[98, 101, 115, 105, 100, 101]⟩ : ByteArray).toList != (⟨#[98, 101, 115, 105, 100, 101]⟩ : ByteArray).toList) = false := by simp
      rcases hend with g1 | ⟨g1, g2⟩
      all_goals
        go_wp2_with fail
        refine (CX.out _ _ _ _ _ _ _ ps MM.out).mono ?_
        rintro _ w5 ⟨rfl, m5⟩
        have M5 : Hid (Mt _ _ _ _ _ _ _ _ _ _ _ _) := m5
        clear m5
        go_wp2_with fail
        refine (CYq.out _ _ _ _ _ _ _ M5.out).mono ?_
        rintro _ w6 ⟨rfl, m6⟩
        have M6 : Hid (Mt _ _ _ _ _ _ _ _ _ _ _ _) := m6
        clear m6 M5
        go_wp2_with fail
        refine (HB1.out _).mono ?_
        rintro _ _ ⟨rfl, hw⟩; rw [hw]; clear hw
        go_wp2_with fail
        refine (CZ.out ps _ _ _ _ _ _ _ M6.out).mono ?_
        rintro _ w7 ⟨rfl, m7⟩
        have M7 : Hid (Mt _ _ _ _ _ _ _ _ _ _ _ _) := m7
        clear m7 M6
        go_wp2_with fail
        go_loop [31] (fun iv => ∃ j : Nat, j ≤ i + 1 ∧ iv = .int .i64 j ∧ Hid (∀ k, k < j → (old :: ps)[k]? ≠ some q)) (fun iv => (i + 1 - intOf iv).toNat)
        case atStart => exact ⟨0, by omega, rfl, fun k hk => by omega⟩
        case round =>
          obtain ⟨j, hj, rfl, HJ⟩ := hrel
          have hlen : (old :: ps).length = i + 1 := by have := HP.out.1; simp; omega
          by_cases hlt : j < i + 1
          · have g3 : (j : Int) < ((i + 1 : Nat) : Int) := by omega
            have g3' : (j : Int) < (i : Int) + 1 := by omega
            obtain ⟨y, hy⟩ : ∃ y, (old :: ps)[j]? = some y := ⟨_, List.getElem?_eq_getElem (by omega)⟩
            obtain ⟨a', c', e0, _, hcl⟩ := own_readsT M7.out.row
            injection e0 with e1 e2 e3
            subst e1
            rcases hcl with h0 | ⟨lb, lo', rfl, hcl⟩
            · omega
            have cy : w7.cell? ⟨lb, lo' + j, none⟩ = some (.string y) := by
              have h := hcl j (by omega)
              rw [List.getD, hy] at h
              exact h
            have HY : Hid _ := hy
            clear hcl e2 e3 hy hlen
            by_cases e : y = q
            · subst e
              have t2 : (y.toList == y.toList) = true := by simp
              go_wp2
              go_ret
              exact ⟨rfl, M7.out.bl⟩
            · have t2 : (y.toList == q.toList) = false := text_ne e
              have HE : Hid _ := e
              clear e
              go_wp2
              go_round
              case rel => exact ⟨j + 1, by omega, by go_num, fun k hk => by
                rcases Nat.lt_or_ge k j with h | h
                · exact HJ.out k h
                · rw [show k = j by omega, HY.out]; exact fun e => HE.out (Option.some.inj e)⟩
              case measure => simp [intOf]; omega
          · exfalso
            obtain ⟨k, hk, he⟩ := List.mem_iff_getElem.1 HQ.out
            exact HJ.out k (by omega) (by rw [List.getElem?_eq_getElem hk, he])
end Go.Proofs.Ytgioekepoebibaa.lo
