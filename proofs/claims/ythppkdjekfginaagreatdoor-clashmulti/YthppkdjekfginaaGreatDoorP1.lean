import Derived.Test.YthppkdjekfginaaGreatDoorG5
import Derived.Test.YthppkdjekfginaaGreatDoorG4
import Derived.Deep.AppendLies
import Derived.Laws.AppendOwnNone
import Derived.Lib.SliceRun
import Derived.BigQuiet
import Derived.RowKit3
import Derived.Handy
import Derived.Deep.DeepCutAuto
import Derived.Test.YthppkdjekfginaaGreatDoorG1
namespace Go.Proofs.YthppkdjekfginaaGreatDoor.qk
open Go.RowKit Go.PlainAid
open Go.Proofs.YthppkdjekfginaaGreatDoor.pl Go.Proofs.YthppkdjekfginaaGreatDoor.pi Go.Proofs.YthppkdjekfginaaGreatDoor.pj Go.Proofs.YthppkdjekfginaaGreatDoor.rf Go.Proofs.YthppkdjekfginaaGreatDoor.ca Go.Proofs.YthppkdjekfginaaGreatDoor.cb Go.Proofs.YthppkdjekfginaaGreatDoor.cp Go.Proofs.YthppkdjekfginaaGreatDoor.ga Go.Proofs.YthppkdjekfginaaGreatDoor.aa Go.Proofs.YthppkdjekfginaaGreatDoor.ka Go.Proofs.YthppkdjekfginaaGreatDoor.kb Go.Proofs.YthppkdjekfginaaGreatDoor.kp Go.Proofs.YthppkdjekfginaaGreatDoor.mi Go.Proofs.YthppkdjekfginaaGreatDoor.lm Go.Proofs.YthppkdjekfginaaGreatDoor.co Go.Proofs.YthppkdjekfginaaGreatDoor.dc Go.Proofs.YthppkdjekfginaaGreatDoor.de Go.Proofs.YthppkdjekfginaaGreatDoor.df Go.Proofs.YthppkdjekfginaaGreatDoor.dw Go.Proofs.YthppkdjekfginaaGreatDoor.qa Go.Proofs.YthppkdjekfginaaGreatDoor.qb Go.Proofs.YthppkdjekfginaaGreatDoor.qc Go.Proofs.YthppkdjekfginaaGreatDoor.qe Go.Proofs.YthppkdjekfginaaGreatDoor.qi Go.Proofs.YthppkdjekfginaaGreatDoor.qj
set_option linter.unusedVariables false

-- a list of numbers beside a block
def Bes (tb : Nat) (w : World) (v : Value) (xs : List Int) : Prop := ReadsI w v xs ∧ ∀ g off n c, v = .slice (some ⟨g, off, none⟩) n c → g ≠ tb
theorem Bes.keep {tb : Nat} {w w' : World} {v : Value} {xs : List Int} (h : Bes tb w v xs) (k : Kp (fun b => b = tb) w w') : Bes tb w' v xs := by
  obtain ⟨⟨a, cap, rfl, hc, hh⟩, hn⟩ := h
  refine ⟨⟨a, cap, rfl, hc, ?_⟩, hn⟩
  rcases hh with h0 | ⟨b, off, rfl, hh⟩
  · exact .inl h0
  · exact .inr ⟨b, off, rfl, fun i hi => k.cell (hh i hi) (hn b off _ _ rfl)⟩
def Gave (wd : Int) (base tb : Nat) (vp vh : Value) (p h : List ByteArray) (u m : Nat) (lk : Nat → Nat → Nat) (a b : Nat) (w : World) (e : Ending) (w' : World) : Prop :=
  e = .returned (.string (gp wd lk (h.drop m) (p.drop u) a b).1) ∧ (gp wd lk (h.drop m) (p.drop u) a b).1.size = wid wd ∧ Tk base tb vp vh p h (u + (WL lk a b).length) (m + (WL (fl lk) a b).length) w' ∧ Kp (fun b => b = tb) w w'
theorem size_at {wd : Int} {l : List ByteArray} (h : Wide wd l) {u : Nat} (hu : u < l.length) : (l.getD u ByteArray.empty).size = wid wd := by
  rw [List.getD_eq_getElem?_getD, List.getElem?_eq_getElem hu]
  exact h _ (List.getElem_mem hu)
-- a range's walk: what it does at a part
def lkS (lo hi a b : Nat) : Nat := if b ≤ lo ∨ hi ≤ a then 1 else if b - a = 1 then 0 else 2
theorem wideS {lo hi a b : Nat} (hab : a < b) (h : 2 ≤ lkS lo hi a b) : 2 ≤ b - a := by
  unfold lkS at h
  split at h
  · omega
  · split at h <;> omega
theorem fourS (lo hi a b : Nat) : lkS lo hi a b ≤ 3 := by
  unfold lkS
  split
  · omega
  · split <;> omega
-- what a step makes of the state
theorem gave_proof {wd : Int} {base tb : Nat} {vp vh : Value} {p h : List ByteArray} {u m : Nat} {lk : Nat → Nat → Nat} {a b : Nat} {w w' : World} {e : Ending} (hk : lk a b = 1) (hW : Wide wd p) (hu : u < p.length) (q : e = .returned (.string (p.getD u ByteArray.empty)) ∧ Tk base tb vp vh p h (u + 1) m w' ∧ Kp (fun b => b = tb) w w') : Gave wd base tb vp vh p h u m lk a b w e w' := by
  unfold Gave
  rw [gp_proof hk, WL_take hk, WL_pass (lk := fl lk) (by unfold fl; rw [if_neg (by omega), if_pos hk])]
  simp only
  rw [headD_drop]
  exact ⟨q.1, size_at hW hu, q.2.1, q.2.2⟩
theorem gave_claim {wd : Int} {base tb : Nat} {vp vh : Value} {p h : List ByteArray} {u m : Nat} {lk : Nat → Nat → Nat} {a b : Nat} {w w' : World} {e : Ending} (hk : lk a b = 0) (hW : Wide wd h) (hm : m < h.length) (q : e = .returned (.string (h.getD m ByteArray.empty)) ∧ Tk base tb vp vh p h u (m + 1) w' ∧ Kp (fun b => b = tb) w w') : Gave wd base tb vp vh p h u m lk a b w e w' := by
  unfold Gave
  rw [gp_claim hk, WL_pass hk, WL_take (lk := fl lk) (by unfold fl; rw [if_pos hk])]
  simp only
  rw [headD_drop]
  exact ⟨q.1, size_at hW hm, q.2.1, q.2.2⟩
set_option maxHeartbeats 3200000 in
theorem rRng (wd : Int) (lo hi : Nat) (hlo : lo ≤ 4611686018427387904) (hhi : hi ≤ 4611686018427387904) (base tb : Nat) (vp vh : Value) (p h : List ByteArray) (hp : Wide wd p) (hh : Wide wd h) (zp : p.length ≤ 140737488355328) (zh : h.length ≤ 140737488355328) (n : Nat) : ∀ (a b u m : Nat) (w : World), b - a = n → a < b → b ≤ 4611686018427387904 → Tk base tb vp vh p h u m w → u + (WL (lkS lo hi) a b).length ≤ p.length → m + (WL (fl (lkS lo hi)) a b).length ≤ h.length →
    Calls Tryz.prog 68 #[.int .i64 (wid wd : Nat), .int .i64 a, .int .i64 b, .int .i64 lo, .int .i64 hi, .pointer (some ⟨tb, 0, none⟩)] w (Gave wd base tb vp vh p h u m (lkS lo hi) a b w) := by
  induction n using Nat.strongRecOn with
  | ind n ih =>
    intro a b u m w hn hab hb t hu hm
    have h32 := qb.wid_le wd
    by_cases h1 : b ≤ lo ∨ hi ≤ a
    · have hk : lkS lo hi a b = 1 := by unfold lkS; rw [if_pos h1]
      have hu1 : u < p.length := by rw [WL_take hk] at hu; exact hu
      have NC : Hid (Calls _ _ _ _ _) := nextD base tb vp vh p h u m w t hu1 zp
      have FIN : Hid (∀ e w', _ → Gave wd base tb vp vh p h u m (lkS lo hi) a b w e w') := fun e w' q => gave_proof hk hp hu1 q
      obtain ⟨x, HX⟩ : ∃ x, Hid (wid wd = x) := ⟨_, rfl⟩
      obtain ⟨y, HY⟩ : ∃ y, Hid (p.getD u ByteArray.empty = y) := ⟨_, rfl⟩
      rw [HX.out]
      rw [HY.out] at NC FIN
      clear ih t hu hm hk hu1 hn
      rcases h1 with h1 | h1
      · go_enter Tryz.func68, Tryz.ntmps68
        go_wp2_with fail
        refine NC.out.mono ?_
        rintro e w1 ⟨rfl, q2, q3⟩
        have Q : Hid (_ ∧ _) := ⟨q2, q3⟩
        clear q2 q3
        go_wp2
        go_ret
        exact FIN.out _ _ ⟨rfl, Q.out.1, Q.out.2⟩
      · by_cases h0 : b ≤ lo
        · go_enter Tryz.func68, Tryz.ntmps68
          go_wp2_with fail
          refine NC.out.mono ?_
          rintro e w1 ⟨rfl, q2, q3⟩
          have Q : Hid (_ ∧ _) := ⟨q2, q3⟩
          clear q2 q3
          go_wp2
          go_ret
          exact FIN.out _ _ ⟨rfl, Q.out.1, Q.out.2⟩
        · go_enter Tryz.func68, Tryz.ntmps68
          go_wp2_with fail
          refine NC.out.mono ?_
          rintro e w1 ⟨rfl, q2, q3⟩
          have Q : Hid (_ ∧ _) := ⟨q2, q3⟩
          clear q2 q3
          go_wp2
          go_ret
          exact FIN.out _ _ ⟨rfl, Q.out.1, Q.out.2⟩
    have hx1 : ¬ b ≤ lo := fun q => h1 (.inl q)
    have hx2 : ¬ hi ≤ a := fun q => h1 (.inr q)
    have hw2 : IntKind.i64.wrap ((b : Int) - a) = (b : Int) - a := by rw [IntKind.wrap_i64]; omega
    by_cases h2 : b - a = 1
    · have hk : lkS lo hi a b = 0 := by unfold lkS; rw [if_neg h1, if_pos h2]
      have hm1 : m < h.length := by rw [WL_take (lk := fl (lkS lo hi)) (by unfold fl; rw [if_pos hk])] at hm; exact hm
      have NC : Hid (Calls _ _ _ _ _) := claimD base tb vp vh p h u m w t hm1 zh
      have FIN : Hid (∀ e w', _ → Gave wd base tb vp vh p h u m (lkS lo hi) a b w e w') := fun e w' q => gave_claim hk hh hm1 q
      have q1 : ((b : Int) - a == 1) = true := by rw [beq_iff_eq]; omega
      obtain ⟨x, HX⟩ : ∃ x, Hid (wid wd = x) := ⟨_, rfl⟩
      obtain ⟨y, HY⟩ : ∃ y, Hid (h.getD m ByteArray.empty = y) := ⟨_, rfl⟩
      rw [HX.out]
      rw [HY.out] at NC FIN
      clear ih t hu hm hk hm1 hn h1 h2
      go_enter Tryz.func68, Tryz.ntmps68
      go_wp2_with fail
      refine NC.out.mono ?_
      rintro e w1 ⟨rfl, q2, q3⟩
      have Q : Hid (_ ∧ _) := ⟨q2, q3⟩
      clear q2 q3
      go_wp2
      go_ret
      exact FIN.out _ _ ⟨rfl, Q.out.1, Q.out.2⟩
    have hk : lkS lo hi a b = 2 := by unfold lkS; rw [if_neg h1, if_neg h2]
    have h2n : 2 ≤ b - a := by omega
    have hh2 := half_lt h2n
    rw [WL_left hk h2n, List.length_append] at hu
    rw [WL_left (lk := fl (lkS lo hi)) (by rw [fl_two (by omega)]; exact hk) h2n, List.length_append] at hm
    have st := gp_state wd (lk := lkS lo hi) wideS (fourS lo hi) (a := a) (b := a + half (b - a)) (by omega) (h.drop m) (p.drop u)
    rw [List.drop_drop, List.drop_drop] at st
    have SP : Hid (∀ w, Calls _ _ _ _ _) := fun w => rSplit (b - a) h2n (by omega) w
    have I1 : Hid (Calls _ _ _ _ _) := ih (half (b - a)) (by omega) a (a + half (b - a)) u m w (by omega) (by omega) (by omega) t (by omega) (by omega)
    have I2 : Hid (∀ w', Tk base tb vp vh p h (u + (WL (lkS lo hi) a (a + half (b - a))).length) (m + (WL (fl (lkS lo hi)) a (a + half (b - a))).length) w' → Calls _ _ _ _ _) := fun w' t' => ih (b - a - half (b - a)) (by omega) (a + half (b - a)) b _ _ w' (by omega) (by omega) hb t' (by omega) (by omega)
    have FIN : Hid (∀ (w1 w2 : World), (gp wd (lkS lo hi) (h.drop m) (p.drop u) a (a + half (b - a))).1.size = wid wd → (gp wd (lkS lo hi) (h.drop (m + (WL (fl (lkS lo hi)) a (a + half (b - a))).length)) (p.drop (u + (WL (lkS lo hi) a (a + half (b - a))).length)) (a + half (b - a)) b).1.size = wid wd → Tk base tb vp vh p h (u + (WL (lkS lo hi) a (a + half (b - a))).length + (WL (lkS lo hi) (a + half (b - a)) b).length) (m + (WL (fl (lkS lo hi)) a (a + half (b - a))).length + (WL (fl (lkS lo hi)) (a + half (b - a)) b).length) w1 → Kp (fun b => b = tb) w w1 → Below w1.heap.size w1 w2 → Gave wd base tb vp vh p h u m (lkS lo hi) a b w (.returned (.string (NF wd (gp wd (lkS lo hi) (h.drop m) (p.drop u) a (a + half (b - a))).1 (gp wd (lkS lo hi) (h.drop (m + (WL (fl (lkS lo hi)) a (a + half (b - a))).length)) (p.drop (u + (WL (lkS lo hi) a (a + half (b - a))).length)) (a + half (b - a)) b).1))) w2) := by
      intro w1 w2 s1 s2 t1 k1 b2
      unfold Gave
      rw [gp_left hk h2n, WL_left hk h2n, WL_left (lk := fl (lkS lo hi)) (by rw [fl_two (by omega)]; exact hk) h2n, List.length_append, List.length_append, st, ← Nat.add_assoc, ← Nat.add_assoc]
      exact ⟨rfl, NF_size _ _ _, t1.keep b2, k1.trans (Kp.of_below b2)⟩
    unfold Gave at I1 I2
    obtain ⟨k, HK⟩ : ∃ k, Hid (half (b - a) = k) := ⟨_, rfl⟩
    rw [HK.out] at SP I1 I2 FIN hh2
    obtain ⟨x, HX⟩ : ∃ x, Hid ((gp wd (lkS lo hi) (h.drop m) (p.drop u) a (a + k)).1 = x) := ⟨_, rfl⟩
    obtain ⟨y, HY⟩ : ∃ y, Hid ((gp wd (lkS lo hi) (h.drop (m + (WL (fl (lkS lo hi)) a (a + k)).length)) (p.drop (u + (WL (lkS lo hi) a (a + k)).length)) (a + k) b).1 = y) := ⟨_, rfl⟩
    rw [HX.out] at I1 FIN
    rw [HY.out] at I2 FIN
    have NC : Hid (∀ w', x.size = wid wd → y.size = wid wd → Tab4 w' → Calls _ _ _ _ _) := fun w' q1 q2 t' => rNode ((wid wd : Nat) : Int) x y (by omega) w' t'
    rw [NF_wid] at NC
    obtain ⟨r, HRR⟩ : ∃ r, Hid (NF wd x y = r) := ⟨_, rfl⟩
    rw [HRR.out] at NC FIN
    obtain ⟨mm, HMM⟩ : ∃ q, Hid (wid wd = q) := ⟨_, rfl⟩
    rw [HMM.out] at I1 I2 FIN NC ⊢
    have q1 : ((b : Int) - a == 1) = false := by rw [beq_eq_false_iff_ne]; omega
    have z1 : ((b - a : Nat) : Int) = (b : Int) - a := by omega
    have z2 : ((a + k : Nat) : Int) = (a : Int) + k := by omega
    rw [z1] at SP
    rw [z2] at I1 I2
    have hw1 : IntKind.i64.wrap ((a : Int) + k) = (a : Int) + k := by rw [IntKind.wrap_i64]; omega
    clear ih t hu hm hk h1 h2 h2n hh2 hn st h32
    go_enter Tryz.func68, Tryz.ntmps68
    go_wp2_with fail
    refine (SP.out _).mono ?_
    rintro e w1 ⟨rfl, hw⟩
    subst hw
    go_wp2_with fail
    refine I1.out.mono ?_
    rintro e w2 ⟨rfl, s2, t2, k2⟩
    have Q2 : Hid (x.size = mm ∧ _ ∧ Kp (fun b => b = tb) w1 w2) := ⟨s2, t2, k2⟩
    have I2' : Hid (Calls _ _ _ _ _) := I2.out w2 t2
    clear s2 t2 k2
    go_wp2_with fail
    refine I2'.out.mono ?_
    rintro e w3 ⟨rfl, s3, t3, k3⟩
    have Q3 : Hid (y.size = mm ∧ _ ∧ Kp (fun b => b = tb) w1 w3) := ⟨s3, t3, Q2.out.2.2.trans k3⟩
    have NC' : Hid (Calls _ _ _ _ _) := NC.out w3 Q2.out.1 s3 t3.tab
    clear s3 t3 k3
    go_wp2_with fail
    refine NC'.out.mono ?_
    rintro e w4 ⟨rfl, hb4⟩
    have B4 : Hid (Below w3.heap.size w3 w4) := hb4
    clear hb4
    go_wp2
    go_ret
    exact FIN.out w3 w4 Q2.out.1 Q3.out.1 Q3.out.2.1 Q3.out.2.2 B4.out
end Go.Proofs.YthppkdjekfginaaGreatDoor.qk

namespace Go.Proofs.YthppkdjekfginaaGreatDoor.ql
open Go.RowKit Go.PlainAid
open Go.Proofs.YthppkdjekfginaaGreatDoor.pl Go.Proofs.YthppkdjekfginaaGreatDoor.pi Go.Proofs.YthppkdjekfginaaGreatDoor.pj Go.Proofs.YthppkdjekfginaaGreatDoor.rf Go.Proofs.YthppkdjekfginaaGreatDoor.ca Go.Proofs.YthppkdjekfginaaGreatDoor.cb Go.Proofs.YthppkdjekfginaaGreatDoor.cp Go.Proofs.YthppkdjekfginaaGreatDoor.ga Go.Proofs.YthppkdjekfginaaGreatDoor.aa Go.Proofs.YthppkdjekfginaaGreatDoor.ka Go.Proofs.YthppkdjekfginaaGreatDoor.kb Go.Proofs.YthppkdjekfginaaGreatDoor.kp Go.Proofs.YthppkdjekfginaaGreatDoor.mi Go.Proofs.YthppkdjekfginaaGreatDoor.lm Go.Proofs.YthppkdjekfginaaGreatDoor.co Go.Proofs.YthppkdjekfginaaGreatDoor.dc Go.Proofs.YthppkdjekfginaaGreatDoor.de Go.Proofs.YthppkdjekfginaaGreatDoor.df Go.Proofs.YthppkdjekfginaaGreatDoor.dw Go.Proofs.YthppkdjekfginaaGreatDoor.qa Go.Proofs.YthppkdjekfginaaGreatDoor.qb Go.Proofs.YthppkdjekfginaaGreatDoor.qc Go.Proofs.YthppkdjekfginaaGreatDoor.qe Go.Proofs.YthppkdjekfginaaGreatDoor.qi Go.Proofs.YthppkdjekfginaaGreatDoor.qj Go.Proofs.YthppkdjekfginaaGreatDoor.qk
set_option linter.unusedVariables false

set_option maxHeartbeats 6400000 in
theorem rGath (wd : Int) (base tb : Nat) (vp vh : Value) (p h : List ByteArray) (hp : Wide wd p) (hh : Wide wd h) (zp : p.length ≤ 140737488355328) (zh : h.length ≤ 140737488355328) (n : Nat) : ∀ (a b u m : Nat) (v : Value) (xs : List Int) (w : World), b - a = n → a < b → b ≤ 4611686018427387904 → Within xs a b → xs.length ≤ 1024 → Bes tb w v xs → Tk base tb vp vh p h u m w → u + (WL (lkM (natL xs)) a b).length ≤ p.length → m + (WL (fl (lkM (natL xs))) a b).length ≤ h.length →
    Calls Tryz.prog 75 #[.int .i64 (wid wd : Nat), .int .i64 a, .int .i64 b, v, .pointer (some ⟨tb, 0, none⟩)] w (Gave wd base tb vp vh p h u m (lkM (natL xs)) a b w) := by
  induction n using Nat.strongRecOn with
  | ind n ih =>
    intro a b u m v xs w hn hab hb hWi hz hB t hu hm
    have h32 := qb.wid_le wd
    have HBS : Hid (Bes tb w v xs) := hB
    obtain ⟨⟨va, cap, rfl, hcap, _⟩, _⟩ := hB
    by_cases h0 : xs = []
    · have hk : lkM (natL xs) a b = 1 := by rw [h0]; exact lkM_nil a b
      have hu1 : u < p.length := by rw [WL_take hk] at hu; exact hu
      have NC : Hid (Calls _ _ _ _ _) := nextD base tb vp vh p h u m w t hu1 zp
      have FIN : Hid (∀ e w', _ → Gave wd base tb vp vh p h u m (lkM (natL xs)) a b w e w') := fun e w' q => gave_proof hk hp hu1 q
      obtain ⟨x, HX⟩ : ∃ x, Hid (wid wd = x) := ⟨_, rfl⟩
      obtain ⟨y, HY⟩ : ∃ y, Hid (p.getD u ByteArray.empty = y) := ⟨_, rfl⟩
      rw [HX.out]
      rw [HY.out] at NC FIN
      have hl : xs.length = 0 := by rw [h0]; rfl
      rw [hl]
      clear ih t hu hm hk hu1 hn HBS hcap hz hl h0
      go_enter Tryz.func75, Tryz.ntmps75
      go_wp2_with fail
      refine NC.out.mono ?_
      rintro e w1 ⟨rfl, q2, q3⟩
      have Q : Hid (_ ∧ _) := ⟨q2, q3⟩
      clear q2 q3
      go_wp2
      go_ret
      exact FIN.out _ _ ⟨rfl, Q.out.1, Q.out.2⟩
    have hlk := lkM_has hWi h0
    have hl0 : xs.length ≠ 0 := fun q => h0 (List.length_eq_zero_iff.1 q)
    have hw2 : IntKind.i64.wrap ((b : Int) - a) = (b : Int) - a := by rw [IntKind.wrap_i64]; omega
    by_cases h2 : b - a = 1
    · have hk : lkM (natL xs) a b = 0 := by rw [hlk, if_pos h2]
      have hm1 : m < h.length := by rw [WL_take (lk := fl (lkM (natL xs))) (by unfold fl; rw [if_pos hk])] at hm; exact hm
      have NC : Hid (Calls _ _ _ _ _) := claimD base tb vp vh p h u m w t hm1 zh
      have FIN : Hid (∀ e w', _ → Gave wd base tb vp vh p h u m (lkM (natL xs)) a b w e w') := fun e w' q => gave_claim hk hh hm1 q
      have q1 : ((b : Int) - a == 1) = true := by rw [beq_iff_eq]; omega
      obtain ⟨x, HX⟩ : ∃ x, Hid (wid wd = x) := ⟨_, rfl⟩
      obtain ⟨y, HY⟩ : ∃ y, Hid (h.getD m ByteArray.empty = y) := ⟨_, rfl⟩
      obtain ⟨l, HL⟩ : ∃ l, Hid (xs.length = l) := ⟨_, rfl⟩
      rw [HX.out]
      rw [HY.out] at NC FIN
      rw [HL.out] at hl0 ⊢
      have q0 : ((l : Int) == 0) = false := by rw [beq_eq_false_iff_ne]; omega
      clear ih t hu hm hk hm1 hn h2 HBS hcap hz h0 hlk
      go_enter Tryz.func75, Tryz.ntmps75
      go_wp2_with fail
      refine NC.out.mono ?_
      rintro e w1 ⟨rfl, q2, q3⟩
      have Q : Hid (_ ∧ _) := ⟨q2, q3⟩
      clear q2 q3
      go_wp2
      go_ret
      exact FIN.out _ _ ⟨rfl, Q.out.1, Q.out.2⟩
    have hk : lkM (natL xs) a b = 2 := by rw [hlk, if_neg h2]
    have h2n : 2 ≤ b - a := by omega
    have hh2 := half_lt h2n
    have H0 : ∀ q ∈ xs, (0 : Int) ≤ q := fun q hq => by have := hWi q hq; omega
    have g1 : ∀ c d, a ≤ c → c < d → d ≤ a + half (b - a) → lkM (natL (inX xs a (a + half (b - a)))) c d = lkM (natL xs) c d := fun c d q1 q2 q3 => lkM_congr fun p r1 r2 => (mem_in H0 (by omega) (by omega)).symm
    have g2 : ∀ c d, a + half (b - a) ≤ c → c < d → d ≤ b → lkM (natL (inX xs (a + half (b - a)) b)) c d = lkM (natL xs) c d := fun c d q1 q2 q3 => lkM_congr fun p r1 r2 => (mem_in H0 (by omega) (by omega)).symm
    have W1e := WL_congr (half (b - a)) a (a + half (b - a)) (by omega) g1 (by omega)
    have W2e := WL_congr (b - a - half (b - a)) (a + half (b - a)) b (by omega) g2 (by omega)
    have V1e := WL_congr (lk := fl (lkM (natL (inX xs a (a + half (b - a)))))) (lk' := fl (lkM (natL xs))) (half (b - a)) a (a + half (b - a)) (by omega) (fun c d q1 q2 q3 => fl_congr (g1 c d q1 q2 q3)) (by omega)
    have V2e := WL_congr (lk := fl (lkM (natL (inX xs (a + half (b - a)) b)))) (lk' := fl (lkM (natL xs))) (b - a - half (b - a)) (a + half (b - a)) b (by omega) (fun c d q1 q2 q3 => fl_congr (g2 c d q1 q2 q3)) (by omega)
    have P1e := fun c p => gp_congr wd (half (b - a)) a (a + half (b - a)) c p (by omega) g1 (by omega)
    have P2e := fun c p => gp_congr wd (b - a - half (b - a)) (a + half (b - a)) b c p (by omega) g2 (by omega)
    rw [WL_left hk h2n, List.length_append] at hu
    rw [WL_left (lk := fl (lkM (natL xs))) (by rw [fl_two (by omega)]; exact hk) h2n, List.length_append] at hm
    have st := gp_state wd (lk := lkM (natL xs)) wideM (fourM _) (a := a) (b := a + half (b - a)) (by omega) (h.drop m) (p.drop u)
    rw [List.drop_drop, List.drop_drop] at st
    have SP : Hid (∀ w, Calls _ _ _ _ _) := fun w => rSplit (b - a) h2n (by omega) w
    have tlt : tb < w.heap.size := (Array.getElem?_eq_some_iff.1 t.box).1
    have N1 : Hid (Calls _ _ _ _ _) := withinO (.slice va xs.length cap) xs a (a + half (b - a)) w HBS.out.1 hz
    have N2 : Hid (∀ w', ReadsI w' (.slice va xs.length cap) xs → Calls _ _ _ _ _) := fun w' q => withinO (.slice va xs.length cap) xs (a + half (b - a)) b w' q hz
    have I1 : Hid (∀ (w' : World) (v' : Value), Bes tb w' v' (inX xs a (a + half (b - a))) → Tk base tb vp vh p h u m w' → Calls Tryz.prog 75 #[.int .i64 (wid wd : Nat), .int .i64 a, .int .i64 (a + half (b - a) : Nat), v', .pointer (some ⟨tb, 0, none⟩)] w' (Gave wd base tb vp vh p h u m (lkM (natL xs)) a (a + half (b - a)) w')) := fun w' v' q1 q2 => by
      have z := ih (half (b - a)) (by omega) a (a + half (b - a)) u m v' _ w' (by omega) (by omega) (by omega) (inX_within _ _ _) (Nat.le_trans (inX_len _ _ _) hz) q1 q2 (by rw [W1e]; omega) (by rw [V1e]; omega)
      unfold Gave at z ⊢
      rw [W1e, V1e, P1e] at z
      exact z
    have I2 : Hid (∀ (w' : World) (v' : Value), Bes tb w' v' (inX xs (a + half (b - a)) b) → Tk base tb vp vh p h (u + (WL (lkM (natL xs)) a (a + half (b - a))).length) (m + (WL (fl (lkM (natL xs))) a (a + half (b - a))).length) w' → Calls Tryz.prog 75 #[.int .i64 (wid wd : Nat), .int .i64 (a + half (b - a) : Nat), .int .i64 b, v', .pointer (some ⟨tb, 0, none⟩)] w' (Gave wd base tb vp vh p h (u + (WL (lkM (natL xs)) a (a + half (b - a))).length) (m + (WL (fl (lkM (natL xs))) a (a + half (b - a))).length) (lkM (natL xs)) (a + half (b - a)) b w')) := fun w' v' q1 q2 => by
      have z := ih (b - a - half (b - a)) (by omega) (a + half (b - a)) b _ _ v' _ w' (by omega) (by omega) hb (inX_within _ _ _) (Nat.le_trans (inX_len _ _ _) hz) q1 q2 (by rw [W2e]; omega) (by rw [V2e]; omega)
      unfold Gave at z ⊢
      rw [W2e, V2e, P2e] at z
      exact z
    have FIN : Hid (∀ (w0 w1 w2 : World), (gp wd (lkM (natL xs)) (h.drop m) (p.drop u) a (a + half (b - a))).1.size = wid wd → (gp wd (lkM (natL xs)) (h.drop (m + (WL (fl (lkM (natL xs))) a (a + half (b - a))).length)) (p.drop (u + (WL (lkM (natL xs)) a (a + half (b - a))).length)) (a + half (b - a)) b).1.size = wid wd → Tk base tb vp vh p h (u + (WL (lkM (natL xs)) a (a + half (b - a))).length + (WL (lkM (natL xs)) (a + half (b - a)) b).length) (m + (WL (fl (lkM (natL xs))) a (a + half (b - a))).length + (WL (fl (lkM (natL xs))) (a + half (b - a)) b).length) w1 → Kp (fun b => b = tb) w w1 → Below w1.heap.size w1 w2 → Gave wd base tb vp vh p h u m (lkM (natL xs)) a b w (.returned (.string (NF wd (gp wd (lkM (natL xs)) (h.drop m) (p.drop u) a (a + half (b - a))).1 (gp wd (lkM (natL xs)) (h.drop (m + (WL (fl (lkM (natL xs))) a (a + half (b - a))).length)) (p.drop (u + (WL (lkM (natL xs)) a (a + half (b - a))).length)) (a + half (b - a)) b).1))) w2) := by
      intro w0 w1 w2 s1 s2 t1 k1 b2
      unfold Gave
      rw [gp_left hk h2n, WL_left hk h2n, WL_left (lk := fl (lkM (natL xs))) (by rw [fl_two (by omega)]; exact hk) h2n, List.length_append, List.length_append, st, ← Nat.add_assoc, ← Nat.add_assoc]
      exact ⟨rfl, NF_size _ _ _, t1.keep b2, k1.trans (Kp.of_below b2)⟩
    unfold Gave at I1 I2
    obtain ⟨k, HK⟩ : ∃ k, Hid (half (b - a) = k) := ⟨_, rfl⟩
    rw [HK.out] at SP I1 I2 FIN hh2 N1 N2
    obtain ⟨x, HX⟩ : ∃ x, Hid ((gp wd (lkM (natL xs)) (h.drop m) (p.drop u) a (a + k)).1 = x) := ⟨_, rfl⟩
    obtain ⟨y, HY⟩ : ∃ y, Hid ((gp wd (lkM (natL xs)) (h.drop (m + (WL (fl (lkM (natL xs))) a (a + k)).length)) (p.drop (u + (WL (lkM (natL xs)) a (a + k)).length)) (a + k) b).1 = y) := ⟨_, rfl⟩
    rw [HX.out] at I1 FIN
    rw [HY.out] at I2 FIN
    have NC : Hid (∀ w', x.size = wid wd → y.size = wid wd → Tab4 w' → Calls _ _ _ _ _) := fun w' q1 q2 t' => rNode ((wid wd : Nat) : Int) x y (by omega) w' t'
    rw [NF_wid] at NC
    obtain ⟨r, HRR⟩ : ∃ r, Hid (NF wd x y = r) := ⟨_, rfl⟩
    rw [HRR.out] at NC FIN
    obtain ⟨mm, HMM⟩ : ∃ q, Hid (wid wd = q) := ⟨_, rfl⟩
    rw [HMM.out] at I1 I2 FIN NC ⊢
    have q1 : ((b : Int) - a == 1) = false := by rw [beq_eq_false_iff_ne]; omega
    have z1 : ((b - a : Nat) : Int) = (b : Int) - a := by omega
    have z2 : ((a + k : Nat) : Int) = (a : Int) + k := by omega
    rw [z1] at SP
    rw [z2] at I1 I2 N1 N2
    have hw1 : IntKind.i64.wrap ((a : Int) + k) = (a : Int) + k := by rw [IntKind.wrap_i64]; omega
    obtain ⟨xs1, HX1⟩ : ∃ z, Hid (inX xs a (a + k) = z) := ⟨_, rfl⟩
    obtain ⟨xs2, HX2⟩ : ∃ z, Hid (inX xs (a + k) b = z) := ⟨_, rfl⟩
    rw [HX1.out] at I1 N1
    rw [HX2.out] at I2 N2
    obtain ⟨l, HL⟩ : ∃ l, Hid (xs.length = l) := ⟨_, rfl⟩
    rw [HL.out] at hl0 HBS N1 N2 ⊢
    have q0 : ((l : Int) == 0) = false := by rw [beq_eq_false_iff_ne]; omega
    have HT0 : Hid (Tk base tb vp vh p h u m w ∧ tb < w.heap.size) := ⟨t, tlt⟩
    clear ih t hu hm hk h2 h2n hh2 hn st h32 W1e W2e V1e V2e P1e P2e g1 g2 H0 hWi hlk h0 hcap hz tlt
    go_enter Tryz.func75, Tryz.ntmps75
    go_wp2_with fail
    refine (SP.out _).mono ?_
    rintro e w1 ⟨rfl, hw⟩
    subst hw
    go_wp2_with fail
    refine N1.out.mono ?_
    rintro e w2 ⟨⟨p1, l1, c1, rfl, hr1, hn1⟩, hb2⟩
    have B2 : Hid (Below w1.heap.size w1 w2) := hb2
    have I1' : Hid (Calls _ _ _ _ _) := I1.out w2 (.slice p1 l1 c1) ⟨hr1, fun g off n c e => by injection e with e1 _ _; have := hn1 g off e1; have := HT0.out.2; omega⟩ (HT0.out.1.keep hb2)
    clear hb2 hr1 hn1
    go_wp2_with fail
    refine I1'.out.mono ?_
    rintro e w3 ⟨rfl, s3, t3, k3⟩
    have Q3 : Hid (x.size = mm ∧ Kp (fun b => b = tb) w1 w3) := ⟨s3, (Kp.of_below B2.out).trans k3⟩
    have T3 : Hid (Tk _ _ _ _ _ _ _ _ w3) := t3
    have N2' : Hid (Calls _ _ _ _ _) := N2.out w3 (HBS.out.keep Q3.out.2).1
    clear s3 t3 k3
    go_wp2_with fail
    refine N2'.out.mono ?_
    rintro e w4 ⟨⟨p2, l2, c2, rfl, hr2, hn2⟩, hb4⟩
    have K4 : Hid (Kp (fun b => b = tb) w1 w4) := Q3.out.2.trans (Kp.of_below hb4)
    have I2' : Hid (Calls _ _ _ _ _) := I2.out w4 (.slice p2 l2 c2) ⟨hr2, fun g off n c e => by injection e with e1 _ _; have := hn2 g off e1; have := HT0.out.2; have := Q3.out.2.size; omega⟩ (T3.out.keep hb4)
    clear hb4 hr2 hn2
    go_wp2_with fail
    refine I2'.out.mono ?_
    rintro e w5 ⟨rfl, s5, t5, k5⟩
    have Q5 : Hid (y.size = mm ∧ _ ∧ Kp (fun b => b = tb) w1 w5) := ⟨s5, t5, K4.out.trans k5⟩
    have NC' : Hid (Calls _ _ _ _ _) := NC.out w5 Q3.out.1 s5 t5.tab
    clear s5 t5 k5
    go_wp2_with fail
    refine NC'.out.mono ?_
    rintro e w6 ⟨rfl, hb6⟩
    have B6 : Hid (Below w5.heap.size w5 w6) := hb6
    clear hb6
    go_wp2
    go_ret
    exact FIN.out w1 w5 w6 Q3.out.1 Q5.out.1 Q5.out.2.1 Q5.out.2.2 B6.out
end Go.Proofs.YthppkdjekfginaaGreatDoor.ql

namespace Go.Proofs.YthppkdjekfginaaGreatDoor.qm
open Go.RowKit Go.PlainAid
open Go.Proofs.YthppkdjekfginaaGreatDoor.pl Go.Proofs.YthppkdjekfginaaGreatDoor.pi Go.Proofs.YthppkdjekfginaaGreatDoor.pj Go.Proofs.YthppkdjekfginaaGreatDoor.rf Go.Proofs.YthppkdjekfginaaGreatDoor.ca Go.Proofs.YthppkdjekfginaaGreatDoor.cb Go.Proofs.YthppkdjekfginaaGreatDoor.cp Go.Proofs.YthppkdjekfginaaGreatDoor.ga Go.Proofs.YthppkdjekfginaaGreatDoor.aa Go.Proofs.YthppkdjekfginaaGreatDoor.ka Go.Proofs.YthppkdjekfginaaGreatDoor.kb Go.Proofs.YthppkdjekfginaaGreatDoor.kp Go.Proofs.YthppkdjekfginaaGreatDoor.lk Go.Proofs.YthppkdjekfginaaGreatDoor.mi Go.Proofs.YthppkdjekfginaaGreatDoor.lm Go.Proofs.YthppkdjekfginaaGreatDoor.co Go.Proofs.YthppkdjekfginaaGreatDoor.cn Go.Proofs.YthppkdjekfginaaGreatDoor.qa Go.Proofs.YthppkdjekfginaaGreatDoor.qb Go.Proofs.YthppkdjekfginaaGreatDoor.qc Go.Proofs.YthppkdjekfginaaGreatDoor.qg Go.Proofs.YthppkdjekfginaaGreatDoor.qj
set_option linter.unusedVariables false

-- what is answered, once the numbers are right
def seen (wd : Int) (lk : Nat → Nat → Nat) (n : Nat) (count : Int) (hs proof : List ByteArray) (root : ByteArray) : Int :=
  if rH wd count proof (root :: hs) = 0 then (if (gp wd lk hs proof 0 n).1 = root then 0 else 90) else rH wd count proof (root :: hs)
theorem okH_cons (wd : Int) (x : ByteArray) (l : List ByteArray) : okH wd (x :: l) = (okH wd [x] && okH wd l) := by
  unfold okH
  simp
theorem seen_is (wd : Int) (lk : Nat → Nat → Nat) (cur : Nat → Nat) (n : Nat) (count : Int) (hs proof : List ByteArray) (root : ByteArray) : lookA wd lk cur n count hs proof root = seen wd lk n count hs proof root := by
  unfold lookA seen rk
  rw [(go_gp wd lk cur n 0 n (cur 0) hs proof rfl).1]
  have e : rH wd count proof (root :: hs) = if okH wd hs = true then rH wd count proof [root] else 72 := by
    unfold rH
    rw [okH_cons wd root hs]
    cases okH wd hs <;> cases okH wd [root] <;> cases okH wd proof <;> rfl
  rw [e]
  by_cases h : okH wd hs = true
  · rw [if_pos h, if_pos h]
  · rw [if_neg h, if_neg h, if_neg (by decide)]
def mulA (wd n : Int) (xs : List Int) (hs proof : List ByteArray) (root : ByteArray) : Int :=
  if (cnt9 4 0 0 n xs).2 = 0 then (if hs.length = xs.length then seen wd (lkM (natL xs)) n.toNat (cnt9 4 0 0 n xs).1 hs proof root else 71) else (cnt9 4 0 0 n xs).2
theorem mul_ok {n : Int} {xs : List Int} (h : (cnt9 4 0 0 n xs).2 = 0) : ∃ N : Nat, n = N ∧ 1 ≤ N ∧ N ≤ 4611686018427387904 ∧ places xs n = 0 ∧ cnt9 4 0 0 n xs = ((((WL (lkM (natL xs)) 0 N).length : Nat) : Int), 0) := by
  by_cases h0 : ref9 4 0 0 n xs = 0
  · have hc : cnt9 4 0 0 n xs = (((num9 4 0 0 n xs : Nat) : Int), 0) := by unfold cnt9; rw [if_pos h0]
    unfold ref9 at h0
    rw [if_neg (by omega)] at h0
    by_cases k2 : n < 0 ∨ 4611686018427387904 < n
    · rw [if_pos k2] at h0; omega
    rw [if_neg k2, if_neg (by omega), if_neg (by omega), if_neg (by omega)] at h0
    obtain ⟨N, rfl⟩ : ∃ A : Nat, n = A := ⟨n.toNat, by omega⟩
    obtain ⟨p1, p2, p3, p4⟩ := places_ok h0
    have := p3 0 (by omega)
    refine ⟨N, rfl, by omega, by omega, h0, ?_⟩
    rw [hc]
    unfold num9
    rw [if_neg (by omega), if_neg (by omega), if_neg (by omega), Int.toNat_natCast]
  · have hc : cnt9 4 0 0 n xs = (0, ref9 4 0 0 n xs) := by unfold cnt9; rw [if_neg h0]
    rw [hc] at h
    exact absurd h h0
set_option maxHeartbeats 3200000 in
theorem MultiC (wd n : Int) (hwd : i64 wd) (v : Value) (xs : List Int) (vh vp : Value) (hs proof : List ByteArray) (root : ByteArray) (w : World) (hv : ReadsI w v xs) (hh : ReadsT w vh hs) (hp : ReadsT w vp proof) (zx : xs.length ≤ 140737488355328) (zh : hs.length ≤ 140737488355328) (zp : proof.length ≤ 140737488355328) (hT : Tab w) :
    Calls Tryz.prog 38 #[.int .i64 wd, .int .i64 n, v, vh, vp, .string root] w fun e w' => e = .returned (.int .i64 (mulA wd n xs hs proof root)) ∧ Below w.heap.size w w' := by
  have CC : Hid (Calls _ _ _ _ _) := countC 4 0 0 n v xs w hv zx
  have OH : Hid (Old w.heap.size w vh hs ∧ Old w.heap.size w vp proof ∧ ReadsI w v xs ∧ Tab w) := ⟨Old.of hh, Old.of hp, hv, hT⟩
  obtain ⟨va, vc, rfl, _⟩ := hv
  obtain ⟨ha, hc, rfl, _⟩ := hh
  obtain ⟨pa, pc, rfl, _⟩ := hp
  unfold mulA
  by_cases h : (cnt9 4 0 0 n xs).2 = 0
  · obtain ⟨N, rfl, n1, n2, n3, n4⟩ := mul_ok h
    rw [if_pos h, Int.toNat_natCast, n4]
    rw [n4] at CC
    simp only at CC ⊢
    have hr := ris_of n3
    obtain ⟨p1, p2, p3, p4⟩ := places_ok n3
    by_cases h2 : hs.length = xs.length
    · rw [if_pos h2]
      have MC : Hid (∀ w, Calls _ _ _ _ _) := fun w => multiC va xs.length vc w
      have LC : Hid (∀ w1, Below w.heap.size w w1 → Calls Tryz.prog 65 #[.int .i64 wd, .int .i64 N, .int .i64 ((WL (lkM (natL xs)) 0 N).length : Nat), .func (.func 107) #[] #[.pointer (some ⟨w1.heap.size, 0, none⟩)], .slice ha hs.length hc, .slice pa proof.length pc, .string root] (w1.alloc (.cells #[.slice va xs.length vc] 33)) fun e w' => e = .returned (.int .i64 (seen wd (lkM (natL xs)) N ((WL (lkM (natL xs)) 0 N).length : Nat) hs proof root)) ∧ Below w.heap.size w w') := by
        intro w1 hb1
        obtain ⟨g, hg, hS⟩ := SM_new hr (OH.out.2.2.1.later hb1) p1
        have b2 : Below w1.heap.size w1 (w1.alloc (.cells #[.slice va xs.length vc] 33)) := (Below.refl _ _).alloc (Nat.le_refl _) _
        have hb2 := over hb1 b2
        have kk : Kp no w (w1.alloc (.cells #[.slice va xs.length vc] 33)) := Kp.of_below hb2
        have hcl := claimsM hr N 0 N rfl (by omega)
        rw [cnt_zero hr, cnt_all hr (fun j hj => (p3 j hj).2)] at hcl
        have z := lookC (ShM w1.heap.size g xs hr (fun j hj => by have := (p3 j hj).2; omega)) wd hwd N w.heap.size _ _ hs proof root n1 n2 _ hS (OH.out.1.keep kk (fun _ e => e.elim)) (OH.out.2.1.keep kk (fun _ e => e.elim)) zh zp (OH.out.2.2.2.down hb2) OH.out.2.2.2.big hb2.size (fun b e => by subst e; exact hb1.size) (by omega)
        rw [seen_is] at z
        exact z.mono fun e w' q => ⟨q.1, hb2.trans q.2⟩
      obtain ⟨r, HRR⟩ : ∃ r, Hid (seen wd (lkM (natL xs)) N ((WL (lkM (natL xs)) 0 N).length : Nat) hs proof root = r) := ⟨_, rfl⟩
      rw [HRR.out] at LC ⊢
      obtain ⟨cn, HCN⟩ : ∃ c, Hid ((WL (lkM (natL xs)) 0 N).length = c) := ⟨_, rfl⟩
      rw [HCN.out] at CC LC
      rw [h2] at LC ⊢
      obtain ⟨l, HL⟩ : ∃ l, Hid (xs.length = l) := ⟨_, rfl⟩
      obtain ⟨lp, HLP⟩ : ∃ l, Hid (proof.length = l) := ⟨_, rfl⟩
      rw [HL.out] at CC LC MC ⊢
      rw [HLP.out] at LC ⊢
      have q : ((l : Int) == l) = true := beq_self_eq_true _
      clear OH h n3 n4 hr p1 p2 p3 p4 h2 zx zh zp hT hwd n1 n2
      go_enter Tryz.func38, Tryz.ntmps38
      go_wp2_with fail
      refine CC.out.mono ?_
      rintro e w1 ⟨rfl, hb1⟩
      have B1 : Hid (Below w.heap.size w w1) := hb1
      clear hb1
      go_wp2_with fail
      refine (MC.out _).mono ?_
      rintro e w2 ⟨rfl, hw⟩
      have LC1 : Hid (Calls _ _ _ _ _) := LC.out w1 B1.out
      rw [← hw] at LC1
      clear hw
      go_wp2_with fail
      refine LC1.out.mono ?_
      rintro e w3 ⟨rfl, hb3⟩
      have B3 : Hid (Below w.heap.size w w3) := hb3
      clear hb3
      go_wp2
      go_ret
      exact ⟨rfl, B3.out⟩
    · rw [if_neg h2]
      have q : ((hs.length : Int) == xs.length) = false := by rw [beq_eq_false_iff_ne]; omega
      have q2 : (hs.length == xs.length) = false := by rw [beq_eq_false_iff_ne]; exact h2
      obtain ⟨l, HL⟩ : ∃ l, Hid (xs.length = l) := ⟨_, rfl⟩
      obtain ⟨lh, HLH⟩ : ∃ l, Hid (hs.length = l) := ⟨_, rfl⟩
      obtain ⟨lp, HLP⟩ : ∃ l, Hid (proof.length = l) := ⟨_, rfl⟩
      obtain ⟨cn, HCN⟩ : ∃ c, Hid ((WL (lkM (natL xs)) 0 N).length = c) := ⟨_, rfl⟩
      rw [HCN.out] at CC
      rw [HL.out] at CC h2 q q2 ⊢
      rw [HLH.out] at h2 q q2 ⊢
      rw [HLP.out]
      clear OH h n3 n4 hr p1 p2 p3 p4 zx zh zp hT hwd
      go_enter Tryz.func38, Tryz.ntmps38
      go_wp2_with fail
      refine CC.out.mono ?_
      rintro e w1 ⟨rfl, hb1⟩
      have B1 : Hid (Below w.heap.size w w1) := hb1
      clear hb1
      go_wp2
      go_ret
      exact ⟨rfl, B1.out⟩
  · rw [if_neg h]
    obtain ⟨c, HC⟩ : ∃ c, Hid (cnt9 4 0 0 n xs = c) := ⟨_, rfl⟩
    obtain ⟨c1, c2⟩ := c
    rw [HC.out] at CC h ⊢
    simp only at CC h ⊢
    have q : (c2 == 0) = false := by rw [beq_eq_false_iff_ne]; exact h
    obtain ⟨l, HL⟩ : ∃ l, Hid (xs.length = l) := ⟨_, rfl⟩
    obtain ⟨lh, HLH⟩ : ∃ l, Hid (hs.length = l) := ⟨_, rfl⟩
    obtain ⟨lp, HLP⟩ : ∃ l, Hid (proof.length = l) := ⟨_, rfl⟩
    rw [HL.out] at CC ⊢
    rw [HLH.out, HLP.out]
    clear OH h zx zh zp hT hwd
    go_enter Tryz.func38, Tryz.ntmps38
    go_wp2_with fail
    refine CC.out.mono ?_
    rintro e w1 ⟨rfl, hb1⟩
    have B1 : Hid (Below w.heap.size w w1) := hb1
    clear hb1
    go_wp2
    go_ret
    exact ⟨rfl, B1.out⟩
end Go.Proofs.YthppkdjekfginaaGreatDoor.qm

namespace Go.Proofs.YthppkdjekfginaaGreatDoor.ts
open Go.RowKit Go.PlainAid
open Go.Proofs.YthppkdjekfginaaGreatDoor.ca Go.Proofs.YthppkdjekfginaaGreatDoor.cp Go.Proofs.YthppkdjekfginaaGreatDoor.ka
set_option linter.unusedVariables false

theorem info_parts {t : TypeId} {z : Value} {n b : Nat} (h : (Tryz.prog.info? t).map (fun i => (i.zero, i.size, i.bytes)) = some (some z, n, b)) : ∃ i, Tryz.prog.info? t = some i ∧ i.zero = some z ∧ i.size = n ∧ i.bytes = b := by
  obtain ⟨i, hi, he⟩ := Option.map_eq_some_iff.1 h
  injection he with e1 e2
  injection e2 with e2 e3
  exact ⟨i, hi, e1, e2, e3⟩
theorem hiE : (Tryz.prog.info? 9).map (fun i => (i.zero, i.size, i.bytes)) = some (some (.string ByteArray.empty), 1, 16) := by kernel_rfl
theorem own_form {w : World} {B e s n : Nat} {v : Value} {xs : List Value} (h : w.ownsRow B e s v n xs) : ∃ a c, v = .slice a n c := by
  rcases h.2 with ⟨h, h2⟩ | ⟨g, cap, cur, h, _⟩
  · exact ⟨none, 0, by rw [h, h2]⟩
  · exact ⟨_, _, h⟩
theorem ones (hs : List ByteArray) : ∀ u ∈ hs.map (Value.string), u.oneCell' = true := by
  intro u hu
  obtain ⟨x, _, rfl⟩ := List.mem_map.1 hu
  rfl
theorem new_one (W : World) (u : Value) (t : TypeId) : ∀ (j : Nat) (x : Value), [u][j]? = some x → (W.alloc (.cells #[u] t)).cell? (Addr.add ⟨W.heap.size, 0, none⟩ j) = some x := by
  intro j x hx
  rw [show (Addr.add ⟨W.heap.size, 0, none⟩ j) = ⟨W.heap.size, j, none⟩ by cases j <;> simp [Addr.add], World.cell?_alloc_at _ _ _ _ rfl]
  simpa using hx
-- a list's twin, with a mark behind it
def Tw (w : World) (B g n cp : Nat) (xs : List ByteArray) : Prop := w.ownsRow B 9 1 (.slice (some ⟨g, 0, none⟩) (n + 1) cp) (n + 1) (xs.map (Value.string) ++ [(Value.string ⟨#[109, 97, 114, 107]⟩)])
theorem Tw.later {w w' : World} {B g n cp : Nat} {xs : List ByteArray} (h : Tw w B g n cp xs) (hb : Below w.heap.size w w') : Tw w' B g n cp xs := own_later h hb
theorem Tw.cell {w : World} {B g n cp : Nat} {xs : List ByteArray} (h : Tw w B g n cp xs) (hn : xs.length = n) : (∀ i, i < n → w.cell? ⟨g, i, none⟩ = some (Value.string (xs.getD i ByteArray.empty))) ∧ w.cell? ⟨g, n, none⟩ = some (Value.string ⟨#[109, 97, 114, 107]⟩) ∧ n + 1 ≤ cp := by
  refine ⟨fun i hi => ?_, ?_, ?_⟩
  · rw [h.cellAt i (by omega), List.getElem?_append_left (by rw [List.length_map]; omega), List.getElem?_map, List.getElem?_eq_getElem (by omega), List.getD_eq_getElem?_getD, List.getElem?_eq_getElem (by omega)]
    rfl
  · rw [h.cellAt n (by omega), List.getElem?_append_right (by rw [List.length_map]; omega), List.length_map, hn, Nat.sub_self]
    rfl
  · rcases h.2 with ⟨e, _⟩ | ⟨g', cap', cur, e, _, _, hc, _⟩
    · cases e
    · injection e with _ _ e3; omega
theorem Tw.reads {w : World} {B g n cp : Nat} {xs : List ByteArray} (h : Tw w B g n cp xs) (hn : xs.length = n) : ReadsT w (.slice (some ⟨g, 0, none⟩) n cp) xs := by
  obtain ⟨h1, h2, h3⟩ := h.cell hn
  refine ⟨_, cp, by rw [hn], by omega, .inr ⟨g, 0, rfl, fun i hi => ?_⟩⟩
  rw [Nat.zero_add]
  exact h1 i (by omega)
end Go.Proofs.YthppkdjekfginaaGreatDoor.ts

namespace Go.Proofs.YthppkdjekfginaaGreatDoor.qn
open Go.RowKit Go.PlainAid
open Go.Proofs.YthppkdjekfginaaGreatDoor.pl Go.Proofs.YthppkdjekfginaaGreatDoor.pi Go.Proofs.YthppkdjekfginaaGreatDoor.pj Go.Proofs.YthppkdjekfginaaGreatDoor.rf Go.Proofs.YthppkdjekfginaaGreatDoor.ca Go.Proofs.YthppkdjekfginaaGreatDoor.cb Go.Proofs.YthppkdjekfginaaGreatDoor.cp Go.Proofs.YthppkdjekfginaaGreatDoor.ga Go.Proofs.YthppkdjekfginaaGreatDoor.aa Go.Proofs.YthppkdjekfginaaGreatDoor.ka Go.Proofs.YthppkdjekfginaaGreatDoor.kb Go.Proofs.YthppkdjekfginaaGreatDoor.kp Go.Proofs.YthppkdjekfginaaGreatDoor.mi Go.Proofs.YthppkdjekfginaaGreatDoor.lm Go.Proofs.YthppkdjekfginaaGreatDoor.co Go.Proofs.YthppkdjekfginaaGreatDoor.cn Go.Proofs.YthppkdjekfginaaGreatDoor.dc Go.Proofs.YthppkdjekfginaaGreatDoor.de Go.Proofs.YthppkdjekfginaaGreatDoor.df Go.Proofs.YthppkdjekfginaaGreatDoor.qa Go.Proofs.YthppkdjekfginaaGreatDoor.qb Go.Proofs.YthppkdjekfginaaGreatDoor.qc Go.Proofs.YthppkdjekfginaaGreatDoor.qe Go.Proofs.YthppkdjekfginaaGreatDoor.qg Go.Proofs.YthppkdjekfginaaGreatDoor.qi Go.Proofs.YthppkdjekfginaaGreatDoor.qj Go.Proofs.YthppkdjekfginaaGreatDoor.qk Go.Proofs.YthppkdjekfginaaGreatDoor.ql Go.Proofs.YthppkdjekfginaaGreatDoor.qm Go.Proofs.YthppkdjekfginaaGreatDoor.ts
set_option linter.unusedVariables false

theorem own_readsT {w : World} {B : Nat} {v : Value} {zs : List ByteArray} (h : w.ownsRow B 9 1 v zs.length (zs.map Value.string)) : ReadsT w v zs := by
  rcases h.2 with ⟨h1, h2⟩ | ⟨g, cap, cur, rfl, _, _, hc, _⟩
  · rw [h1]; exact ⟨none, 0, by rw [h2], by omega, .inl h2⟩
  · refine ⟨_, cap, rfl, by omega, .inr ⟨g, 0, rfl, fun i hi => ?_⟩⟩
    rw [Nat.zero_add, h.cellAt i (by omega), List.getElem?_map, List.getElem?_eq_getElem hi, List.getD_eq_getElem?_getD, List.getElem?_eq_getElem hi]
    rfl
theorem one_row (w : World) (base : Nat) (hb : base ≤ w.heap.size) (root : ByteArray) : (w.alloc (.cells #[.string root] 9)).ownsRow base 9 1 (.slice (some ⟨w.heap.size, 0, none⟩) 1 1) 1 [.string root] :=
  ⟨rfl, .inr ⟨w.heap.size, 1, #[.string root], rfl, hb, heap_alloc_new w _, Nat.le_refl _, by unfold maxLen; omega, rfl, by simp⟩⟩
theorem taken_new {w0 w : World} {vp vh : Value} {p h : List ByteArray} (hp : ReadsT w0 vp p) (hh : ReadsT w0 vh h) (hb : Below w0.heap.size w0 w) (hT : Tab4 w0) : Tk w0.heap.size w.heap.size vp vh p h 0 0 (w.alloc (.cells #[vp, .int .i64 0, vh, .int .i64 0] 94)) := by
  have b2 : Below w.heap.size w (w.alloc (.cells #[vp, .int .i64 0, vh, .int .i64 0] 94)) := (Below.refl _ _).alloc (Nat.le_refl _) _
  have hb2 := over hb b2
  have kk : Kp (fun _ => False) w0 (w.alloc (.cells #[vp, .int .i64 0, vh, .int .i64 0] 94)) := Kp.of_below hb2
  exact ⟨hb.size, heap_alloc_new w _, (Old.of hp).keep kk (fun _ e => e.elim), (Old.of hh).keep kk (fun _ e => e.elim), hT.down hb2, ⟨hT.big, hb2.size⟩⟩
theorem seen_ok {wd : Int} {count : Int} {hs proof : List ByteArray} {root : ByteArray} (h : rH wd count proof (root :: hs) = 0) : (proof.length : Int) = count ∧ Wide wd proof ∧ Wide wd hs := by
  unfold rH at h
  by_cases q : (okH wd (root :: hs) && okH wd proof) = true
  · rw [if_pos q] at h
    rw [Bool.and_eq_true] at q
    by_cases q2 : (proof.length : Int) = count
    · exact ⟨q2, okH_wide q.2, fun x hx => okH_wide q.1 x (List.mem_cons_of_mem _ hx)⟩
    · rw [if_neg q2] at h; omega
  · rw [if_neg q] at h; omega
set_option maxHeartbeats 6400000 in
theorem rMulti (wd n : Int) (v : Value) (xs : List Int) (vh vp : Value) (hs proof : List ByteArray) (root : ByteArray) (w : World) (hv : ReadsI w v xs) (hh : ReadsT w vh hs) (hp : ReadsT w vp proof) (zx : xs.length ≤ 140737488355328) (zh : hs.length * 16 ≤ 140737488351232) (zp : proof.length ≤ 140737488355328) (hT : Tab4 w) :
    Calls Tryz.prog 43 #[.int .i64 wd, .int .i64 n, v, vh, vp, .string root] w fun e w' => e = .returned (.int .i64 (mulA wd n xs hs proof root)) ∧ Below w.heap.size w w' := by
  have CC : Hid (Calls _ _ _ _ _) := rCount 4 0 0 n v xs w hv zx
  unfold Counted at CC
  have HR : Hid (ReadsI w v xs ∧ ReadsT w vh hs ∧ ReadsT w vp proof ∧ Tab4 w) := ⟨hv, hh, hp, hT⟩
  obtain ⟨i9, hi9', hz0, hz1, hz2⟩ := info_parts hiE
  have HIN : Hid (_ ∧ _ ∧ _ ∧ _) := ⟨hi9', hz0, hz1, hz2⟩
  clear hi9' hz0 hz1 hz2
  obtain ⟨va, vc, rfl, _, hvv⟩ := hv
  obtain ⟨ha, hc, rfl, hhc, hhh⟩ := hh
  obtain ⟨pa, pc, rfl, _⟩ := hp
  unfold mulA
  by_cases h : (cnt9 4 0 0 n xs).2 = 0
  · obtain ⟨N, rfl, n1, n2, n3, n4⟩ := mul_ok h
    rw [if_pos h, Int.toNat_natCast, n4]
    rw [n4] at CC
    simp only at CC ⊢
    have hr := ris_of n3
    obtain ⟨p1, p2, p3, p4⟩ := places_ok n3
    by_cases h2 : hs.length = xs.length
    · rw [if_pos h2]
      have WC : Hid (∀ w, Calls _ _ _ _ _) := fun w => widthD wd w
      obtain ⟨b, off, rfl, hcc⟩ := hhh.resolve_left (by omega)
      have NX : Hid (∀ (W : World), Below w.heap.size w W → ∀ (j : Nat) (u : Value), (hs.map Value.string)[j]? = some u → W.cell? (Addr.add ⟨b, off, none⟩ j) = some u) := by
        intro W hW j u hu
        rw [List.getElem?_map] at hu
        obtain ⟨x, hx, rfl⟩ := Option.map_eq_some_iff.1 hu
        have hj := (List.getElem?_eq_some_iff.1 hx).1
        have c1 := hcc j hj
        rw [List.getD_eq_getElem?_getD, hx] at c1
        rw [show (Addr.add ⟨b, off, none⟩ j) = ⟨b, off + j, none⟩ by cases j <;> simp [Addr.add]]
        exact (hW.cell (World.block_lt_of_cell? _ _ c1)).trans c1
      have LK : Hid (∀ w' u, Below w.heap.size w w' → ReadsT w' u (root :: hs) → Calls _ _ _ _ _) := fun w' u hb hu => lookedD wd ((WL (lkM (natL xs)) 0 N).length : Nat) _ u proof (root :: hs) w' (HR.out.2.2.1.later hb) hu zp (by rw [List.length_cons]; omega)
      have RD : Hid (∀ (w' : World) (B : Nat) (u : Value), w'.ownsRow B 9 1 u (1 + hs.length) ([Value.string root] ++ hs.map Value.string) → ReadsT w' u (root :: hs)) := fun w' B u ho => own_readsT (by rw [List.length_cons, Nat.add_comm]; exact ho)
      have hcl := claimsM hr N 0 N rfl (by omega)
      rw [cnt_zero hr, cnt_all hr (fun j hj => (p3 j hj).2)] at hcl
      have GC : Hid (rH wd ((WL (lkM (natL xs)) 0 N).length : Nat) proof (root :: hs) = 0 → ∀ w', Below w.heap.size w w' → Calls Tryz.prog 75 #[.int .i64 (wid wd : Nat), .int .i64 0, .int .i64 N, .slice va xs.length vc, .pointer (some ⟨w'.heap.size, 0, none⟩)] (w'.alloc (.cells #[.slice pa proof.length pc, .int .i64 0, .slice (some ⟨b, off, none⟩) hs.length hc, .int .i64 0] 94)) fun e w'' => e = .returned (.string (gp wd (lkM (natL xs)) hs proof 0 N).1) ∧ Below w.heap.size w w'') := by
        intro ok w' hb
        obtain ⟨o1, o2, o3⟩ := seen_ok ok
        have t := taken_new HR.out.2.2.1 HR.out.2.1 hb HR.out.2.2.2
        have hb2 : Below w.heap.size w (w'.alloc (.cells #[.slice pa proof.length pc, .int .i64 0, .slice (some ⟨b, off, none⟩) hs.length hc, .int .i64 0] 94)) := hb.alloc hb.size _
        have z := rGath wd w.heap.size w'.heap.size _ _ proof hs o2 o3 zp (by omega) N 0 N 0 0 (.slice va xs.length vc) xs _ rfl (by omega) n2 (fun p hp => by
          obtain ⟨j, hj, rfl⟩ := List.getElem_of_mem hp
          have := p3 j hj
          rw [List.getD_eq_getElem?_getD, List.getElem?_eq_getElem hj] at this
          exact this) p2 ⟨HR.out.1.later hb2, fun g o nn c e => by
            injection e with e1 _ _
            rcases hvv with q | ⟨b', off', e2, hq⟩
            · omega
            · rw [e2] at e1
              injection e1 with e1
              injection e1 with e1
              subst e1
              have q1 : b' < w.heap.size := World.block_lt_of_cell? _ _ (hq 0 (by omega))
              have q2 := hb.size
              omega⟩ t (by omega) (by omega)
        refine z.mono fun e w'' q => ?_
        obtain ⟨q1, q2, q3, q4⟩ := q
        rw [List.drop_zero, List.drop_zero] at q1
        exact ⟨q1, hb2.trans (q4.below (fun b e => by subst e; exact hb.size) hb2.size)⟩
      unfold qm.seen
      obtain ⟨cn, HCN⟩ : ∃ c, Hid ((WL (lkM (natL xs)) 0 N).length = c) := ⟨_, rfl⟩
      rw [HCN.out] at CC LK GC ⊢
      obtain ⟨mm, HMM⟩ : ∃ q, Hid (wid wd = q) := ⟨_, rfl⟩
      rw [HMM.out] at WC LK GC
      have hz1 : (1 + hs.length) * 16 ≤ 140737488355328 := by omega
      rw [h2] at RD GC hz1 hhc ⊢
      have hlm : (hs.map Value.string).length = xs.length := by rw [List.length_map]; exact h2
      obtain ⟨l, HL⟩ : ∃ l, Hid (xs.length = l) := ⟨_, rfl⟩
      obtain ⟨lp, HLP⟩ : ∃ l, Hid (proof.length = l) := ⟨_, rfl⟩
      rw [HL.out] at CC RD GC hz1 hhc hlm p2 ⊢
      rw [HLP.out] at LK GC ⊢
      have HLM : Hid ((hs.map Value.string).length = l * 1) := by show _ = _; rw [hlm, Nat.mul_one]
      have q : ((l : Int) == l) = true := beq_self_eq_true _
      clear h n3 n4 hr p1 p3 p4 h2 zx zh zp hT n1 n2 hcl hcc hhh hvv hlm
      by_cases ok : rH wd cn proof (root :: hs) = 0
      · rw [if_pos ok]
        have GC1 : Hid (∀ w', Below w.heap.size w w' → Calls _ _ _ _ _) := GC.out ok
        rw [ok] at LK
        obtain ⟨x, HX⟩ : ∃ x, Hid ((gp wd (lkM (natL xs)) hs proof 0 N).1 = x) := ⟨_, rfl⟩
        rw [HX.out] at GC1 ⊢
        obtain ⟨z, HZ⟩ : ∃ z : Bool, Hid (decide (x = root) = z) := ⟨_, rfl⟩
        have qz : (x.toList == root.toList) = z := by rw [beqL]; exact HZ.out
        have HE : Hid ((if x = root then (0 : Int) else 90) = if z then 0 else 90) := by
          show _ = _
          rw [← HZ.out]
          by_cases g : x = root <;> simp [g]
        rw [HE.out]
        clear HE HZ GC ok
        cases z
        all_goals (
          go_enter Tryz.func43, Tryz.ntmps43
          go_wp2_with fail
          refine CC.out.mono ?_
          rintro e w1 ⟨rfl, hb1⟩
          have B1 : Hid (Below w.heap.size w w1) := hb1
          clear hb1
          go_wp2_with fail
          refine (WC.out _).mono ?_
          rintro e w1' ⟨rfl, hw⟩
          subst hw
          have B2 : Hid (Below w.heap.size w (w1'.alloc (.cells #[.string root] 9))) := B1.out.alloc B1.out.size _
          have O2 : Hid ((w1'.alloc (.cells #[.string root] 9)).ownsRow w.heap.size 9 1 (.slice (some ⟨w1'.heap.size, 0, none⟩) 1 1) 1 [.string root]) := one_row w1' _ B1.out.size root
          go_wp2_with (at_builtin; refine wpList_append_own _ rfl _ _ 22 rfl w.heap.size 9 i9 (.string ByteArray.empty) 1 16 Tryz.underlying22 HIN.out.1 HIN.out.2.1 HIN.out.2.2.1 HIN.out.2.2.2 rfl (by decide) _ 1 _ rfl O2.out ⟨b, off, none⟩ l hc (hs.map Value.string) rfl HLM.out (NX.out _ B2.out) (ones _) (by unfold maxLen; omega) hz1 B2.out.size ?_; intro p' w5 ho hg hnn; obtain ⟨ga, gc, rfl⟩ := own_form ho; have B5 : Hid (Below w.heap.size w w5) := Below.grown B2.out hg B2.out.size (fun jj hj => (O2.out.lt _ hj).1); have LK1 : Hid (Calls _ _ _ _ _) := LK.out w5 _ B5.out (RD.out w5 _ _ ho); clear ho hg hnn)
          refine LK1.out.mono ?_
          rintro e w6 ⟨rfl, hw⟩
          subst hw
          have GC2 : Hid (Calls _ _ _ _ _) := GC1.out w6 B5.out
          go_wp2_with fail
          refine GC2.out.mono ?_
          rintro e w7 ⟨rfl, hb7⟩
          have B7 : Hid (Below w.heap.size w w7) := hb7
          clear hb7
          go_wp2
          go_ret
          exact ⟨by first | rfl | simp, B7.out⟩)
      · rw [if_neg ok]
        have q3 : (rH wd cn proof (root :: hs) == 0) = false := by rw [beq_eq_false_iff_ne]; exact ok
        obtain ⟨r, HRR⟩ : ∃ r, Hid (rH wd cn proof (root :: hs) = r) := ⟨_, rfl⟩
        rw [HRR.out] at LK q3 ⊢
        clear GC ok
        go_enter Tryz.func43, Tryz.ntmps43
        go_wp2_with fail
        refine CC.out.mono ?_
        rintro e w1 ⟨rfl, hb1⟩
        have B1 : Hid (Below w.heap.size w w1) := hb1
        clear hb1
        go_wp2_with fail
        refine (WC.out _).mono ?_
        rintro e w1' ⟨rfl, hw⟩
        subst hw
        have B2 : Hid (Below w.heap.size w (w1'.alloc (.cells #[.string root] 9))) := B1.out.alloc B1.out.size _
        have O2 : Hid ((w1'.alloc (.cells #[.string root] 9)).ownsRow w.heap.size 9 1 (.slice (some ⟨w1'.heap.size, 0, none⟩) 1 1) 1 [.string root]) := one_row w1' _ B1.out.size root
        go_wp2_with (at_builtin; refine wpList_append_own _ rfl _ _ 22 rfl w.heap.size 9 i9 (.string ByteArray.empty) 1 16 Tryz.underlying22 HIN.out.1 HIN.out.2.1 HIN.out.2.2.1 HIN.out.2.2.2 rfl (by decide) _ 1 _ rfl O2.out ⟨b, off, none⟩ l hc (hs.map Value.string) rfl HLM.out (NX.out _ B2.out) (ones _) (by unfold maxLen; omega) hz1 B2.out.size ?_; intro p' w5 ho hg hnn; obtain ⟨ga, gc, rfl⟩ := own_form ho; have B5 : Hid (Below w.heap.size w w5) := Below.grown B2.out hg B2.out.size (fun jj hj => (O2.out.lt _ hj).1); have LK1 : Hid (Calls _ _ _ _ _) := LK.out w5 _ B5.out (RD.out w5 _ _ ho); clear ho hg hnn)
        refine LK1.out.mono ?_
        rintro e w6 ⟨rfl, hw⟩
        subst hw
        go_wp2
        go_ret
        exact ⟨rfl, B5.out⟩
    · rw [if_neg h2]
      have q : ((hs.length : Int) == xs.length) = false := by rw [beq_eq_false_iff_ne]; omega
      have q2 : (hs.length == xs.length) = false := by rw [beq_eq_false_iff_ne]; exact h2
      obtain ⟨l, HL⟩ : ∃ l, Hid (xs.length = l) := ⟨_, rfl⟩
      obtain ⟨lh, HLH⟩ : ∃ l, Hid (hs.length = l) := ⟨_, rfl⟩
      obtain ⟨lp, HLP⟩ : ∃ l, Hid (proof.length = l) := ⟨_, rfl⟩
      obtain ⟨cn, HCN⟩ : ∃ c, Hid ((WL (lkM (natL xs)) 0 N).length = c) := ⟨_, rfl⟩
      rw [HCN.out] at CC
      rw [HL.out] at CC h2 q q2 ⊢
      rw [HLH.out] at h2 q q2 ⊢
      rw [HLP.out]
      clear HR h n3 n4 hr p1 p2 p3 p4 zx zh zp hT hhc hhh hvv
      go_enter Tryz.func43, Tryz.ntmps43
      go_wp2_with fail
      refine CC.out.mono ?_
      rintro e w1 ⟨rfl, hb1⟩
      have B1 : Hid (Below w.heap.size w w1) := hb1
      clear hb1
      go_wp2
      go_ret
      exact ⟨rfl, B1.out⟩
  · rw [if_neg h]
    obtain ⟨c, HC⟩ : ∃ c, Hid (cnt9 4 0 0 n xs = c) := ⟨_, rfl⟩
    obtain ⟨c1, c2⟩ := c
    rw [HC.out] at CC h ⊢
    simp only at CC h ⊢
    have q : (c2 == 0) = false := by rw [beq_eq_false_iff_ne]; exact h
    obtain ⟨l, HL⟩ : ∃ l, Hid (xs.length = l) := ⟨_, rfl⟩
    obtain ⟨lh, HLH⟩ : ∃ l, Hid (hs.length = l) := ⟨_, rfl⟩
    obtain ⟨lp, HLP⟩ : ∃ l, Hid (proof.length = l) := ⟨_, rfl⟩
    rw [HL.out] at CC ⊢
    rw [HLH.out, HLP.out]
    clear HR h zx zh zp hT hhc hhh hvv
    go_enter Tryz.func43, Tryz.ntmps43
    go_wp2_with fail
    refine CC.out.mono ?_
    rintro e w1 ⟨rfl, hb1⟩
    have B1 : Hid (Below w.heap.size w w1) := hb1
    clear hb1
    go_wp2
    go_ret
    exact ⟨rfl, B1.out⟩
end Go.Proofs.YthppkdjekfginaaGreatDoor.qn

namespace Go.Proofs.YthppkdjekfginaaGreatDoor.qo
open Go.RowKit Go.PlainAid
open Go.Proofs.YthppkdjekfginaaGreatDoor.pl Go.Proofs.YthppkdjekfginaaGreatDoor.pi Go.Proofs.YthppkdjekfginaaGreatDoor.pj Go.Proofs.YthppkdjekfginaaGreatDoor.rf Go.Proofs.YthppkdjekfginaaGreatDoor.ca Go.Proofs.YthppkdjekfginaaGreatDoor.cb Go.Proofs.YthppkdjekfginaaGreatDoor.cp Go.Proofs.YthppkdjekfginaaGreatDoor.ga Go.Proofs.YthppkdjekfginaaGreatDoor.aa Go.Proofs.YthppkdjekfginaaGreatDoor.ab Go.Proofs.YthppkdjekfginaaGreatDoor.ae Go.Proofs.YthppkdjekfginaaGreatDoor.ba Go.Proofs.YthppkdjekfginaaGreatDoor.bb Go.Proofs.YthppkdjekfginaaGreatDoor.ka Go.Proofs.YthppkdjekfginaaGreatDoor.kb Go.Proofs.YthppkdjekfginaaGreatDoor.kp Go.Proofs.YthppkdjekfginaaGreatDoor.lk Go.Proofs.YthppkdjekfginaaGreatDoor.mi Go.Proofs.YthppkdjekfginaaGreatDoor.lm Go.Proofs.YthppkdjekfginaaGreatDoor.co Go.Proofs.YthppkdjekfginaaGreatDoor.cn Go.Proofs.YthppkdjekfginaaGreatDoor.qa Go.Proofs.YthppkdjekfginaaGreatDoor.qb Go.Proofs.YthppkdjekfginaaGreatDoor.qc Go.Proofs.YthppkdjekfginaaGreatDoor.qg Go.Proofs.YthppkdjekfginaaGreatDoor.qj Go.Proofs.YthppkdjekfginaaGreatDoor.qk Go.Proofs.YthppkdjekfginaaGreatDoor.qm
set_option linter.unusedVariables false

-- a shape that goes on down to the leaves
theorem singlyC (lg : Nat) (lv : Array Value) (w : World) : Calls Tryz.prog 66 #[.func (.func lg) #[] lv] w fun e w' => e = .returned (.func (.func 103) #[] #[.pointer (some ⟨w.heap.size, 0, none⟩)]) ∧ w' = w.alloc (.cells #[.func (.func lg) #[] lv] 99) := by
  go_enter Tryz.func66, Tryz.ntmps66
  go_wp2
  go_ret
  exact ⟨rfl, rfl⟩
theorem lkS_is (lo hi a b : Nat) (hab : a < b) : lkS lo hi a b = if lkR lo hi a b = 0 then (if b - a = 1 then 0 else 2) else lkR lo hi a b := by
  unfold lkS lkR
  by_cases h1 : b ≤ lo ∨ hi ≤ a
  · rw [if_pos h1, if_pos h1, if_neg (by omega)]
  · rw [if_neg h1, if_neg h1]
    by_cases h2 : lo ≤ a ∧ b ≤ hi
    · rw [if_pos h2, if_pos rfl]
    · rw [if_neg h2, if_neg (by omega), if_neg (by omega)]
set_option maxHeartbeats 1600000 in
theorem lookSg (sb lb' hb' lo hi a b : Nat) (w : World) (hab : a < b) (hb : b ≤ 4611686018427387904) (hP : w.cell? ⟨lb', 0, none⟩ = some (.int .i64 lo)) (hQ : w.cell? ⟨hb', 0, none⟩ = some (.int .i64 hi)) (hS : w.cell? ⟨sb, 0, none⟩ = some (.func (.func 105) #[] #[.pointer (some ⟨lb', 0, none⟩), .pointer (some ⟨hb', 0, none⟩)])) :
    Calls Tryz.prog 103 #[.agg #[.int .i64 a, .int .i64 b], .pointer (some ⟨sb, 0, none⟩)] w fun e w' => e = .returned (.int .i64 (lkS lo hi a b : Nat)) ∧ Below w.heap.size w w' := by
  have BA : Hid (Below w.heap.size w (w.alloc (.cells #[.int .i64 a, .int .i64 b] 117))) := (Below.refl _ _).alloc (Nat.le_refl _) _
  have HB : Hid (Bx (w.alloc (.cells #[.int .i64 a, .int .i64 b] 117)) w.heap.size a b) := part_box w a b
  have cs := (BA.out.cell (World.block_lt_of_cell? _ _ hS)).trans hS
  have RC : Hid (Calls _ _ _ _ _) := lookR lb' hb' lo hi a b (w.alloc (.cells #[.int .i64 a, .int .i64 b] 117)) hab hb ((BA.out.cell (World.block_lt_of_cell? _ _ hP)).trans hP) ((BA.out.cell (World.block_lt_of_cell? _ _ hQ)).trans hQ)
  have LC : Hid (∀ w, Calls _ _ _ _ _) := fun w => isLeaf a b (by omega) hb w
  rw [lkS_is lo hi a b hab]
  obtain ⟨r, HR⟩ : ∃ r, Hid (lkR lo hi a b = r) := ⟨_, rfl⟩
  rw [HR.out] at RC ⊢
  obtain ⟨c1, c2⟩ := HB.out
  clear hP hQ hS
  by_cases h : r = 0
  · subst h
    rw [if_pos rfl]
    by_cases h1 : b - a = 1
    · rw [decide_eq_true h1] at LC
      rw [if_pos h1]
      clear h1 HR
      go_enter Tryz.func103, Tryz.ntmps103
      go_wp2_with fail
      refine RC.out.mono ?_
      rintro e w1 ⟨rfl, hb1⟩
      have B1 : Hid (Below w.heap.size w w1) := over BA.out hb1
      obtain ⟨d1, d2⟩ := HB.out.later hb1
      clear hb1 c1 c2 cs
      go_wp2_with fail
      refine (LC.out _).mono ?_
      rintro e w2 ⟨rfl, hb2⟩
      have B2 : Hid (Below w.heap.size w w2) := over B1.out hb2
      clear hb2 d1 d2
      go_wp2
      go_ret
      exact ⟨rfl, B2.out⟩
    · rw [decide_eq_false h1] at LC
      rw [if_neg h1]
      clear h1 HR
      go_enter Tryz.func103, Tryz.ntmps103
      go_wp2_with fail
      refine RC.out.mono ?_
      rintro e w1 ⟨rfl, hb1⟩
      have B1 : Hid (Below w.heap.size w w1) := over BA.out hb1
      obtain ⟨d1, d2⟩ := HB.out.later hb1
      clear hb1 c1 c2 cs
      go_wp2_with fail
      refine (LC.out _).mono ?_
      rintro e w2 ⟨rfl, hb2⟩
      have B2 : Hid (Below w.heap.size w w2) := over B1.out hb2
      clear hb2 d1 d2
      go_wp2
      go_ret
      exact ⟨rfl, B2.out⟩
  · rw [if_neg h]
    have q : ((r : Int) == 0) = false := by rw [beq_eq_false_iff_ne]; omega
    clear HR LC
    go_enter Tryz.func103, Tryz.ntmps103
    go_wp2_with fail
    refine RC.out.mono ?_
    rintro e w1 ⟨rfl, hb1⟩
    have B1 : Hid (Below w.heap.size w w1) := over BA.out hb1
    clear hb1 c1 c2 cs
    go_wp2
    go_ret
    exact ⟨rfl, B1.out⟩
theorem ShS (sb lb' hb' lo hi : Nat) : Shp (fun b => b = sb ∨ b = lb' ∨ b = hb') no (fun _ w => w.cell? ⟨lb', 0, none⟩ = some (.int .i64 lo) ∧ w.cell? ⟨hb', 0, none⟩ = some (.int .i64 hi) ∧ w.cell? ⟨sb, 0, none⟩ = some (.func (.func 105) #[] #[.pointer (some ⟨lb', 0, none⟩), .pointer (some ⟨hb', 0, none⟩)])) (lkS lo hi) (fun _ => 0) 103 #[.pointer (some ⟨sb, 0, none⟩)] where
  enter := fun args w => by simp [go_sem]
  keep := fun h k hg => ⟨k.cell h.1 (fun g => hg _ g (.inr (.inl rfl))), k.cell h.2.1 (fun g => hg _ g (.inr (.inr rfl))), k.cell h.2.2 (fun g => hg _ g (.inl rfl))⟩
  fd := fun b h => h.elim
  fl := fun h b hb => by
    rcases hb with rfl | rfl | rfl
    · exact World.block_lt_of_cell? _ _ h.2.2
    · exact World.block_lt_of_cell? _ _ h.1
    · exact World.block_lt_of_cell? _ _ h.2.1
  call := fun a b w hab hb hP => (lookSg sb lb' hb' lo hi a b w hab hb hP.1 hP.2.1 hP.2.2).mono fun e w' h => ⟨h.1, ⟨(h.2.cell (World.block_lt_of_cell? _ _ hP.1)).trans hP.1, (h.2.cell (World.block_lt_of_cell? _ _ hP.2.1)).trans hP.2.1, (h.2.cell (World.block_lt_of_cell? _ _ hP.2.2)).trans hP.2.2⟩, Kp.of_below h.2⟩
  wide := wideS
  four := fourS lo hi
  turn := fun _ _ => rfl
-- a range is its places
def rg (lo hi : Nat) : List Int := (List.range' lo (hi - lo)).map Int.ofNat
theorem rg_len (lo hi : Nat) : (rg lo hi).length = hi - lo := by unfold rg; simp
theorem rg_get (lo hi j : Nat) (h : j < hi - lo) : (rg lo hi).getD j 0 = ((lo + j : Nat) : Int) := by
  unfold rg
  rw [List.getD_eq_getElem?_getD, List.getElem?_map, List.getElem?_range' (by omega)]
  simp
theorem rg_ris (lo hi : Nat) : Ris (rg lo hi) := ⟨fun j hj => by rw [rg_len] at hj; rw [rg_get lo hi j hj]; omega, fun i j hij hj => by rw [rg_len] at hj; rw [rg_get lo hi i (by omega), rg_get lo hi j hj]; omega⟩
theorem rg_mem (lo hi p : Nat) : p ∈ natL (rg lo hi) ↔ lo ≤ p ∧ p < hi := by
  unfold natL rg
  rw [List.map_map, List.mem_map]
  constructor
  · rintro ⟨q, hq, rfl⟩
    rw [List.mem_range'_1] at hq
    simp only [Function.comp]
    show lo ≤ (Int.ofNat q).toNat ∧ _
    have : (Int.ofNat q).toNat = q := rfl
    rw [this]
    omega
  · rintro ⟨h1, h2⟩
    exact ⟨p, by rw [List.mem_range'_1]; omega, rfl⟩
theorem lkS_M (lo hi a b : Nat) (hlh : lo < hi) (hab : a < b) : lkS lo hi a b = lkM (natL (rg lo hi)) a b := by
  unfold lkS lkM
  by_cases h : b ≤ lo ∨ hi ≤ a
  · rw [if_pos h, if_neg]
    rintro ⟨p, hp, h1, h2⟩
    rw [rg_mem] at hp
    omega
  · rw [if_neg h, if_pos (show ∃ p ∈ natL (rg lo hi), a ≤ p ∧ p < b from ⟨max a lo, (rg_mem lo hi _).2 (by omega), by omega, by omega⟩)]
theorem counts (lo hi n : Nat) (hlh : lo < hi) (hn : hi ≤ n) : (WL (lkS lo hi) 0 n).length = (WL (lkR lo hi) 0 n).length ∧ (WL (fl (lkS lo hi)) 0 n).length = hi - lo := by
  have e1 := WL_congr (lk := lkS lo hi) (lk' := lkM (natL (rg lo hi))) n 0 n rfl (fun c d _ q _ => lkS_M lo hi c d hlh q) (by omega)
  have e2 := WL_congr (lk := fl (lkS lo hi)) (lk' := fl (lkM (natL (rg lo hi)))) n 0 n rfl (fun c d _ q _ => fl_congr (lkS_M lo hi c d hlh q)) (by omega)
  have e3 := range_multi (natL (rg lo hi)) lo hi hlh (rg_mem lo hi) n 0 n rfl (by omega)
  have e4 := claimsM (rg_ris lo hi) n 0 n rfl (by omega)
  rw [cnt_zero (rg_ris lo hi), cnt_all (rg_ris lo hi) (fun j hj => by rw [rg_len] at hj; rw [rg_get lo hi j hj]; omega), rg_len] at e4
  exact ⟨by rw [e1, e3], by rw [e2]; omega⟩
end Go.Proofs.YthppkdjekfginaaGreatDoor.qo

namespace Go.Proofs.YthppkdjekfginaaGreatDoor.qp
open Go.RowKit Go.PlainAid
open Go.Proofs.YthppkdjekfginaaGreatDoor.pl Go.Proofs.YthppkdjekfginaaGreatDoor.pi Go.Proofs.YthppkdjekfginaaGreatDoor.pj Go.Proofs.YthppkdjekfginaaGreatDoor.rf Go.Proofs.YthppkdjekfginaaGreatDoor.ca Go.Proofs.YthppkdjekfginaaGreatDoor.cb Go.Proofs.YthppkdjekfginaaGreatDoor.cp Go.Proofs.YthppkdjekfginaaGreatDoor.ga Go.Proofs.YthppkdjekfginaaGreatDoor.aa Go.Proofs.YthppkdjekfginaaGreatDoor.ka Go.Proofs.YthppkdjekfginaaGreatDoor.kb Go.Proofs.YthppkdjekfginaaGreatDoor.kp Go.Proofs.YthppkdjekfginaaGreatDoor.lk Go.Proofs.YthppkdjekfginaaGreatDoor.mi Go.Proofs.YthppkdjekfginaaGreatDoor.lm Go.Proofs.YthppkdjekfginaaGreatDoor.co Go.Proofs.YthppkdjekfginaaGreatDoor.cn Go.Proofs.YthppkdjekfginaaGreatDoor.dc Go.Proofs.YthppkdjekfginaaGreatDoor.df Go.Proofs.YthppkdjekfginaaGreatDoor.qa Go.Proofs.YthppkdjekfginaaGreatDoor.qb Go.Proofs.YthppkdjekfginaaGreatDoor.qc Go.Proofs.YthppkdjekfginaaGreatDoor.qe Go.Proofs.YthppkdjekfginaaGreatDoor.qg Go.Proofs.YthppkdjekfginaaGreatDoor.qi Go.Proofs.YthppkdjekfginaaGreatDoor.qj Go.Proofs.YthppkdjekfginaaGreatDoor.qk Go.Proofs.YthppkdjekfginaaGreatDoor.qm Go.Proofs.YthppkdjekfginaaGreatDoor.qn Go.Proofs.YthppkdjekfginaaGreatDoor.qo Go.Proofs.YthppkdjekfginaaGreatDoor.ts
set_option linter.unusedVariables false

def rngA (wd lo n : Int) (hs proof : List ByteArray) (root : ByteArray) : Int :=
  if (cnt9 3 lo (lo + hs.length) n []).2 = 0 then qm.seen wd (lkS lo.toNat (lo + hs.length).toNat) n.toNat (cnt9 3 lo (lo + hs.length) n []).1 hs proof root else (cnt9 3 lo (lo + hs.length) n []).2
theorem cnt_hi {lo n : Int} {L : Nat} (h : lo < 0 ∨ 4611686018427387904 < lo + L) : cnt9 3 lo lo n [] = cnt9 3 lo (lo + L) n [] := by
  have r : ∀ b : Int, (b ≤ lo ∨ lo < 0 ∨ 4611686018427387904 < b) → ref9 3 lo b n [] = if n < 0 ∨ 4611686018427387904 < n then 80 else 81 := fun b hb => by
    unfold ref9
    rw [if_neg (by omega)]
    by_cases k : n < 0 ∨ 4611686018427387904 < n
    · rw [if_pos k, if_pos k]
    · rw [if_neg k, if_neg k, if_neg (by omega), if_neg (by omega), if_pos rfl, if_pos (by omega)]
  have e1 := r lo (.inl (by omega))
  have e2 := r (lo + L) (by omega)
  have e3 : (if n < 0 ∨ 4611686018427387904 < n then (80 : Int) else 81) ≠ 0 := by split <;> omega
  unfold cnt9
  rw [e1, e2, if_neg e3, if_neg e3]
theorem rng_ok {lo n : Int} {L : Nat} (h : (cnt9 3 lo (lo + L) n []).2 = 0) : ∃ A N : Nat, lo = A ∧ n = N ∧ 1 ≤ L ∧ A + L ≤ N ∧ N ≤ 4611686018427387904 ∧ cnt9 3 lo (lo + L) n [] = ((((WL (lkR A (A + L)) 0 N).length : Nat) : Int), 0) := by
  by_cases h0 : ref9 3 lo (lo + L) n [] = 0
  · have hc : cnt9 3 lo (lo + L) n [] = (((num9 3 lo (lo + L) n [] : Nat) : Int), 0) := by unfold cnt9; rw [if_pos h0]
    unfold ref9 at h0
    rw [if_neg (by omega)] at h0
    by_cases k2 : n < 0 ∨ 4611686018427387904 < n
    · rw [if_pos k2] at h0; omega
    rw [if_neg k2, if_neg (by omega), if_neg (by omega), if_pos rfl] at h0
    by_cases g : lo < 0 ∨ lo + L ≤ lo ∨ n < lo + L
    · rw [if_pos g] at h0; omega
    obtain ⟨N, rfl⟩ : ∃ A : Nat, n = A := ⟨n.toNat, by omega⟩
    obtain ⟨A, rfl⟩ : ∃ B : Nat, lo = B := ⟨lo.toNat, by omega⟩
    refine ⟨A, N, rfl, rfl, by omega, by omega, by omega, ?_⟩
    rw [hc]
    unfold num9
    rw [if_neg (by omega), if_neg (by omega), if_pos rfl, Int.toNat_natCast, Int.toNat_natCast, show ((A : Int) + L).toNat = A + L by omega]
  · have hc : cnt9 3 lo (lo + L) n [] = (0, ref9 3 lo (lo + L) n []) := by unfold cnt9; rw [if_neg h0]
    rw [hc] at h
    exact absurd h h0
-- the sum
theorem sumC (a b : Int) (ha : 0 ≤ a ∧ a ≤ 9223372036854775807) (hb : 0 ≤ b ∧ b ≤ 9223372036854775807) (w : World) : Calls Tryz.prog 101 #[.int .i64 a, .int .i64 b, .int .i64 9223372036854775807] w fun e w' => e = .returned (.tuple (if 9223372036854775807 - a < b then #[.int .i64 0, .int .i64 11] else #[.int .i64 (a + b), .int .i64 0])) ∧ w' = w := by
  have d1 : decide (9223372036854775807 < a) = false := decide_eq_false (by omega)
  have hw : IntKind.i64.wrap (9223372036854775807 - a) = 9223372036854775807 - a := by rw [IntKind.wrap_i64]; omega
  by_cases h : 9223372036854775807 - a < b
  · rw [if_pos h]
    have d2 : decide (9223372036854775807 - a < b) = true := decide_eq_true h
    clear h
    go_enter Tryz.func101, Tryz.ntmps101
    go_wp2
    go_ret2
    exact ⟨rfl, rfl⟩
  · rw [if_neg h]
    have d2 : decide (9223372036854775807 - a < b) = false := decide_eq_false h
    have hw2 : IntKind.i64.wrap (a + b) = a + b := by rw [IntKind.wrap_i64]; omega
    clear h
    go_enter Tryz.func101, Tryz.ntmps101
    go_wp2
    go_ret2
    exact ⟨rfl, rfl⟩
def addE (lo : Int) (L : Nat) : Value := if lo < 0 then .tuple #[.int .i64 0, .int .i64 10] else .tuple (if 9223372036854775807 - lo < L then #[.int .i64 0, .int .i64 11] else #[.int .i64 (lo + L), .int .i64 0])
theorem addC (lo : Int) (hlo : i64 lo) (L : Nat) (hL : (L : Int) ≤ 9223372036854775807) (w : World) : Calls Tryz.prog 64 #[.int .i64 lo, .int .i64 L] w fun e w' => e = .returned (addE lo L) ∧ w' = w := by
  obtain ⟨l1, l2⟩ := hlo
  unfold addE
  by_cases h : lo < 0
  · rw [if_pos h]
    have d1 : decide (lo < 0) = true := decide_eq_true h
    clear h
    go_enter Tryz.func64, Tryz.ntmps64
    go_wp2
    go_ret2
    exact ⟨rfl, rfl⟩
  · rw [if_neg h]
    have d1 : decide (lo < 0) = false := decide_eq_false h
    have d2 : decide ((L : Int) < 0) = false := decide_eq_false (by omega)
    have SC : Hid (∀ w, Calls _ _ _ _ _) := fun w => sumC lo L ⟨by omega, by omega⟩ ⟨by omega, by omega⟩ w
    by_cases g : 9223372036854775807 - lo < L
    · rw [if_pos g] at SC ⊢
      clear h g
      go_enter Tryz.func64, Tryz.ntmps64
      go_wp2_with fail
      refine (SC.out _).mono ?_
      rintro e w1 ⟨rfl, hw⟩
      subst hw
      go_wp2
      go_ret2
      exact ⟨rfl, rfl⟩
    · rw [if_neg g] at SC ⊢
      clear h g
      go_enter Tryz.func64, Tryz.ntmps64
      go_wp2_with fail
      refine (SC.out _).mono ?_
      rintro e w1 ⟨rfl, hw⟩
      subst hw
      go_wp2
      go_ret2
      exact ⟨rfl, rfl⟩
theorem reads_nilI (w : World) : ReadsI w (.slice none 0 0) [] := ⟨none, 0, rfl, Nat.le_refl _, .inl rfl⟩
set_option maxHeartbeats 3200000 in
theorem RangeC (wd lo n : Int) (hwd : i64 wd) (hlo : i64 lo) (vh vp : Value) (hs proof : List ByteArray) (root : ByteArray) (w : World) (hh : ReadsT w vh hs) (hp : ReadsT w vp proof) (zh : hs.length ≤ 140737488355328) (zp : proof.length ≤ 140737488355328) (hT : Tab w) :
    Calls Tryz.prog 29 #[.int .i64 wd, .int .i64 lo, .int .i64 n, vh, vp, .string root] w fun e w' => e = .returned (.int .i64 (rngA wd lo n hs proof root)) ∧ Below w.heap.size w w' := by
  have AC : Hid (∀ w, Calls _ _ _ _ _) := fun w => addC lo hlo hs.length (by omega) w
  have OH : Hid (Old w.heap.size w vh hs ∧ Old w.heap.size w vp proof ∧ Tab w) := ⟨Old.of hh, Old.of hp, hT⟩
  obtain ⟨ha, hc, rfl, _⟩ := hh
  obtain ⟨pa, pc, rfl, _⟩ := hp
  obtain ⟨l1, l2⟩ := hlo
  -- the sum is the end, or a number that is refused alike
  obtain ⟨hi, s1, s2, ADD, hhi⟩ : ∃ (hi s1 s2 : Int), Hid (addE lo hs.length = .tuple #[.int .i64 s1, .int .i64 s2]) ∧ ((s2 = 0 ∧ s1 = hi ∧ hi = lo + hs.length) ∨ (s2 ≠ 0 ∧ hi = lo ∧ (lo < 0 ∨ 4611686018427387904 < lo + hs.length))) := by
    unfold addE
    by_cases h : lo < 0
    · rw [if_pos h]; exact ⟨lo, 0, 10, rfl, .inr ⟨by omega, rfl, .inl h⟩⟩
    · rw [if_neg h]
      by_cases g : 9223372036854775807 - lo < hs.length
      · rw [if_pos g]; exact ⟨lo, 0, 11, rfl, .inr ⟨by omega, rfl, .inr (by omega)⟩⟩
      · rw [if_neg g]; exact ⟨lo + hs.length, lo + hs.length, 0, rfl, .inl ⟨rfl, rfl, rfl⟩⟩
  rw [ADD.out] at AC
  have hcnt : cnt9 3 lo hi n [] = cnt9 3 lo (lo + hs.length) n [] := by
    rcases hhi with ⟨_, _, rfl⟩ | ⟨_, rfl, q⟩
    · rfl
    · exact cnt_hi q
  have CC : Hid (∀ w, Calls _ _ _ _ _) := fun w => countC 3 lo hi n (.slice none 0 0) [] w (reads_nilI w) (by simp)
  rw [hcnt] at CC
  unfold rngA
  by_cases h : (cnt9 3 lo (lo + hs.length) n []).2 = 0
  · obtain ⟨A, N, rfl, rfl, n0, n1, n2, n4⟩ := rng_ok h
    rw [if_pos h, Int.toNat_natCast, Int.toNat_natCast, show ((A : Int) + hs.length).toNat = A + hs.length by omega, n4]
    rw [n4] at CC
    simp only at CC ⊢
    obtain ⟨hs2, hs1, hhi2⟩ : s2 = 0 ∧ s1 = hi ∧ hi = ((A + hs.length : Nat) : Int) := by
      rcases hhi with ⟨q1, q2, q3⟩ | ⟨_, _, q⟩
      · exact ⟨q1, q2, by omega⟩
      · omega
    subst hs2 hs1 hhi2
    have RC : Hid (∀ w, Calls _ _ _ _ _) := fun w => rangedC A ((A + hs.length : Nat) : Int) w
    have SC : Hid (∀ w lv, Calls _ _ _ _ _) := fun w lv => singlyC 105 lv w
    have CNT := counts A (A + hs.length) N (by omega) n1
    have LC : Hid (∀ w1, Below w.heap.size w w1 → Calls Tryz.prog 65 #[.int .i64 wd, .int .i64 N, .int .i64 ((WL (lkR A (A + hs.length)) 0 N).length : Nat), .func (.func 103) #[] #[.pointer (some ⟨w1.heap.size + 1 + 1, 0, none⟩)], .slice ha hs.length hc, .slice pa proof.length pc, .string root] (((w1.alloc (.cells #[.int .i64 A] 3)).alloc (.cells #[.int .i64 ((A + hs.length : Nat) : Int)] 3)).alloc (.cells #[.func (.func 105) #[] #[.pointer (some ⟨w1.heap.size, 0, none⟩), .pointer (some ⟨w1.heap.size + 1, 0, none⟩)]] 99)) fun e w' => e = .returned (.int .i64 (qm.seen wd (lkS A (A + hs.length)) N ((WL (lkR A (A + hs.length)) 0 N).length : Nat) hs proof root)) ∧ Below w.heap.size w w') := by
      intro w1 hb1
      obtain ⟨x1, x2, x3⟩ := three_one w1 (.int .i64 A) (.int .i64 ((A + hs.length : Nat) : Int)) (.func (.func 105) #[] #[.pointer (some ⟨w1.heap.size, 0, none⟩), .pointer (some ⟨w1.heap.size + 1, 0, none⟩)]) 3 3 99
      have b2 : Below w1.heap.size w1 (((w1.alloc (.cells #[.int .i64 A] 3)).alloc (.cells #[.int .i64 ((A + hs.length : Nat) : Int)] 3)).alloc (.cells #[.func (.func 105) #[] #[.pointer (some ⟨w1.heap.size, 0, none⟩), .pointer (some ⟨w1.heap.size + 1, 0, none⟩)]] 99)) := (((Below.refl _ _).alloc (Nat.le_refl _) _).alloc (by simp) _).alloc (by simp; omega) _
      have hb2 := over hb1 b2
      have kk : Kp no w _ := Kp.of_below hb2
      have z := lookC (ShS (w1.heap.size + 1 + 1) w1.heap.size (w1.heap.size + 1) A (A + hs.length)) wd hwd N w.heap.size _ _ hs proof root (by omega) n2 _ ⟨x1, x2, x3⟩ (OH.out.1.keep kk (fun _ e => e.elim)) (OH.out.2.1.keep kk (fun _ e => e.elim)) zh zp (OH.out.2.2.down hb2) OH.out.2.2.big hb2.size (fun b e => e.elim) (by rw [CNT.2]; omega)
      rw [seen_is, CNT.1] at z
      exact z.mono fun e w' q => ⟨q.1, hb2.trans q.2⟩
    obtain ⟨r, HRR⟩ : ∃ r, Hid (qm.seen wd (lkS A (A + hs.length)) N ((WL (lkR A (A + hs.length)) 0 N).length : Nat) hs proof root = r) := ⟨_, rfl⟩
    rw [HRR.out] at LC ⊢
    obtain ⟨cn, HCN⟩ : ∃ c, Hid ((WL (lkR A (A + hs.length)) 0 N).length = c) := ⟨_, rfl⟩
    rw [HCN.out] at CC LC
    obtain ⟨lh, HL⟩ : ∃ l, Hid (hs.length = l) := ⟨_, rfl⟩
    obtain ⟨lp, HLP⟩ : ∃ l, Hid (proof.length = l) := ⟨_, rfl⟩
    rw [HL.out] at AC CC LC RC ⊢
    rw [HLP.out] at LC ⊢
    clear OH h n4 n0 n1 n2 zh zp hT hwd hhi hcnt CNT ADD l1 l2
    obtain ⟨E, HEE⟩ : ∃ E : Int, Hid (((A + lh : Nat) : Int) = E) := ⟨_, rfl⟩
    rw [HEE.out] at AC CC LC RC
    go_enter Tryz.func29, Tryz.ntmps29
    go_wp2_with fail
    refine (AC.out _).mono ?_
    rintro e w0 ⟨rfl, hw⟩
    subst hw
    go_wp2_with fail
    refine (CC.out _).mono ?_
    rintro e w1 ⟨rfl, hb1⟩
    have B1 : Hid (Below w0.heap.size w0 w1) := hb1
    clear hb1
    go_wp2_with fail
    refine (RC.out _).mono ?_
    rintro e w2 ⟨rfl, hw2⟩
    have s2 : w2.heap.size = w1.heap.size + 1 + 1 := by rw [hw2]; simp
    have SC1 : Hid (Calls _ _ _ _ _) := SC.out w2 #[.pointer (some ⟨w1.heap.size, 0, none⟩), .pointer (some ⟨w1.heap.size + 1, 0, none⟩)]
    rw [s2] at SC1
    have HW2 : Hid (w2 = _) := hw2
    clear hw2 s2
    go_wp2_with fail
    refine SC1.out.mono ?_
    rintro e w3 ⟨rfl, hw3⟩
    have LC1 : Hid (Calls _ _ _ _ _) := LC.out w1 B1.out
    rw [← HW2.out, ← hw3] at LC1
    clear hw3 HW2
    go_wp2_with fail
    refine LC1.out.mono ?_
    rintro e w4 ⟨rfl, hb4⟩
    have B4 : Hid (Below w0.heap.size w0 w4) := hb4
    clear hb4
    go_wp2
    go_ret
    exact ⟨rfl, B4.out⟩
  · rw [if_neg h]
    obtain ⟨c, HC⟩ : ∃ c, Hid (cnt9 3 lo (lo + hs.length) n [] = c) := ⟨_, rfl⟩
    obtain ⟨c1, c2⟩ := c
    rw [HC.out] at CC h ⊢
    simp only at CC h ⊢
    have q : (c2 == 0) = false := by rw [beq_eq_false_iff_ne]; exact h
    obtain ⟨lh, HLH⟩ : ∃ l, Hid (hs.length = l) := ⟨_, rfl⟩
    obtain ⟨lp, HLP⟩ : ∃ l, Hid (proof.length = l) := ⟨_, rfl⟩
    rw [HLH.out] at AC ⊢
    rw [HLP.out]
    have hs12 : (s2 = 0 ∧ s1 = hi) ∨ (s2 ≠ 0 ∧ hi = lo) := by
      rcases hhi with ⟨q1, q2, _⟩ | ⟨q1, q2, _⟩
      · exact .inl ⟨q1, q2⟩
      · exact .inr ⟨q1, q2⟩
    clear OH h zh zp hT hwd hhi hcnt ADD l1 l2
    rcases hs12 with ⟨rfl, rfl⟩ | ⟨g, rfl⟩
    · go_enter Tryz.func29, Tryz.ntmps29
      go_wp2_with fail
      refine (AC.out _).mono ?_
      rintro e w0 ⟨rfl, hw⟩
      subst hw
      go_wp2_with fail
      refine (CC.out _).mono ?_
      rintro e w1 ⟨rfl, hb1⟩
      have B1 : Hid (Below w0.heap.size w0 w1) := hb1
      clear hb1
      go_wp2
      go_ret
      exact ⟨rfl, B1.out⟩
    · have q2 : (s2 == 0) = false := by rw [beq_eq_false_iff_ne]; exact g
      clear g
      go_enter Tryz.func29, Tryz.ntmps29
      go_wp2_with fail
      refine (AC.out _).mono ?_
      rintro e w0 ⟨rfl, hw⟩
      subst hw
      go_wp2_with fail
      refine (CC.out _).mono ?_
      rintro e w1 ⟨rfl, hb1⟩
      have B1 : Hid (Below w0.heap.size w0 w1) := hb1
      clear hb1
      go_wp2
      go_ret
      exact ⟨rfl, B1.out⟩
end Go.Proofs.YthppkdjekfginaaGreatDoor.qp

namespace Go.Proofs.YthppkdjekfginaaGreatDoor.qq
open Go.RowKit Go.PlainAid
open Go.Proofs.YthppkdjekfginaaGreatDoor.pl Go.Proofs.YthppkdjekfginaaGreatDoor.pi Go.Proofs.YthppkdjekfginaaGreatDoor.pj Go.Proofs.YthppkdjekfginaaGreatDoor.rf Go.Proofs.YthppkdjekfginaaGreatDoor.ca Go.Proofs.YthppkdjekfginaaGreatDoor.cb Go.Proofs.YthppkdjekfginaaGreatDoor.cp Go.Proofs.YthppkdjekfginaaGreatDoor.ga Go.Proofs.YthppkdjekfginaaGreatDoor.aa Go.Proofs.YthppkdjekfginaaGreatDoor.ka Go.Proofs.YthppkdjekfginaaGreatDoor.kb Go.Proofs.YthppkdjekfginaaGreatDoor.kp Go.Proofs.YthppkdjekfginaaGreatDoor.mi Go.Proofs.YthppkdjekfginaaGreatDoor.lm Go.Proofs.YthppkdjekfginaaGreatDoor.co Go.Proofs.YthppkdjekfginaaGreatDoor.cn Go.Proofs.YthppkdjekfginaaGreatDoor.dc Go.Proofs.YthppkdjekfginaaGreatDoor.de Go.Proofs.YthppkdjekfginaaGreatDoor.df Go.Proofs.YthppkdjekfginaaGreatDoor.qa Go.Proofs.YthppkdjekfginaaGreatDoor.qb Go.Proofs.YthppkdjekfginaaGreatDoor.qc Go.Proofs.YthppkdjekfginaaGreatDoor.qe Go.Proofs.YthppkdjekfginaaGreatDoor.qg Go.Proofs.YthppkdjekfginaaGreatDoor.qi Go.Proofs.YthppkdjekfginaaGreatDoor.qj Go.Proofs.YthppkdjekfginaaGreatDoor.qk Go.Proofs.YthppkdjekfginaaGreatDoor.qm Go.Proofs.YthppkdjekfginaaGreatDoor.qn Go.Proofs.YthppkdjekfginaaGreatDoor.qo Go.Proofs.YthppkdjekfginaaGreatDoor.qp Go.Proofs.YthppkdjekfginaaGreatDoor.ts
set_option linter.unusedVariables false

set_option maxHeartbeats 6400000 in
theorem rRange (wd lo n : Int) (hlo : i64 lo) (vh vp : Value) (hs proof : List ByteArray) (root : ByteArray) (w : World) (hh : ReadsT w vh hs) (hp : ReadsT w vp proof) (zh : hs.length * 16 ≤ 140737488351232) (zp : proof.length ≤ 140737488355328) (hT : Tab4 w) :
    Calls Tryz.prog 34 #[.int .i64 wd, .int .i64 lo, .int .i64 n, vh, vp, .string root] w fun e w' => e = .returned (.int .i64 (rngA wd lo n hs proof root)) ∧ Below w.heap.size w w' := by
  have HR : Hid (ReadsT w vh hs ∧ ReadsT w vp proof ∧ Tab4 w) := ⟨hh, hp, hT⟩
  obtain ⟨i9, hi9', hz0, hz1, hz2⟩ := info_parts hiE
  have HIN : Hid (_ ∧ _ ∧ _ ∧ _) := ⟨hi9', hz0, hz1, hz2⟩
  clear hi9' hz0 hz1 hz2
  obtain ⟨ha, hc, rfl, hhc, hhh⟩ := hh
  obtain ⟨pa, pc, rfl, _⟩ := hp
  have CN : Hid (∀ hi w, Calls _ _ _ _ _) := fun hi w => rCount 3 lo hi n (.slice none 0 0) [] w (qp.reads_nilI w) (by simp)
  unfold Counted at CN
  unfold rngA
  by_cases h : (cnt9 3 lo (lo + hs.length) n []).2 = 0
  · obtain ⟨A, N, rfl, rfl, n0, n1, n2, n4⟩ := rng_ok h
    rw [if_pos h, Int.toNat_natCast, Int.toNat_natCast, show ((A : Int) + hs.length).toNat = A + hs.length by omega, n4]
    have CC : Hid (∀ w, Calls _ _ _ _ _) := fun w => CN.out ((A : Int) + hs.length) w
    rw [n4] at CC
    simp only at CC ⊢
    have WC : Hid (∀ w, Calls _ _ _ _ _) := fun w => widthD wd w
    obtain ⟨b, off, rfl, hcc⟩ := hhh.resolve_left (by omega)
    have NX : Hid (∀ (W : World), Below w.heap.size w W → ∀ (j : Nat) (u : Value), (hs.map Value.string)[j]? = some u → W.cell? (Addr.add ⟨b, off, none⟩ j) = some u) := by
      intro W hW j u hu
      rw [List.getElem?_map] at hu
      obtain ⟨x, hx, rfl⟩ := Option.map_eq_some_iff.1 hu
      have hj := (List.getElem?_eq_some_iff.1 hx).1
      have c1 := hcc j hj
      rw [List.getD_eq_getElem?_getD, hx] at c1
      rw [show (Addr.add ⟨b, off, none⟩ j) = ⟨b, off + j, none⟩ by cases j <;> simp [Addr.add]]
      exact (hW.cell (World.block_lt_of_cell? _ _ c1)).trans c1
    have LK : Hid (∀ w' u, Below w.heap.size w w' → ReadsT w' u (root :: hs) → Calls _ _ _ _ _) := fun w' u hb hu => lookedD wd ((WL (lkR A (A + hs.length)) 0 N).length : Nat) _ u proof (root :: hs) w' (HR.out.2.1.later hb) hu zp (by rw [List.length_cons]; omega)
    have RD : Hid (∀ (w' : World) (B : Nat) (u : Value), w'.ownsRow B 9 1 u (1 + hs.length) ([Value.string root] ++ hs.map Value.string) → ReadsT w' u (root :: hs)) := fun w' B u ho => own_readsT (by rw [List.length_cons, Nat.add_comm]; exact ho)
    have CNT := counts A (A + hs.length) N (by omega) n1
    have GC : Hid (rH wd ((WL (lkR A (A + hs.length)) 0 N).length : Nat) proof (root :: hs) = 0 → ∀ w', Below w.heap.size w w' → Calls Tryz.prog 68 #[.int .i64 (wid wd : Nat), .int .i64 0, .int .i64 N, .int .i64 A, .int .i64 ((A : Int) + hs.length), .pointer (some ⟨w'.heap.size, 0, none⟩)] (w'.alloc (.cells #[.slice pa proof.length pc, .int .i64 0, .slice (some ⟨b, off, none⟩) hs.length hc, .int .i64 0] 94)) fun e w'' => e = .returned (.string (gp wd (lkS A (A + hs.length)) hs proof 0 N).1) ∧ Below w.heap.size w w'') := by
      intro ok w' hb
      obtain ⟨o1, o2, o3⟩ := seen_ok ok
      have t := taken_new HR.out.2.1 HR.out.1 hb HR.out.2.2
      have hb2 : Below w.heap.size w (w'.alloc (.cells #[.slice pa proof.length pc, .int .i64 0, .slice (some ⟨b, off, none⟩) hs.length hc, .int .i64 0] 94)) := hb.alloc hb.size _
      have z := rRng wd A (A + hs.length) (by omega) (by omega) w.heap.size w'.heap.size _ _ proof hs o2 o3 zp (by omega) N 0 N 0 0 _ rfl (by omega) n2 t (by rw [CNT.1]; omega) (by rw [CNT.2]; omega)
      rw [show (((A + hs.length : Nat)) : Int) = (A : Int) + hs.length by omega] at z
      refine z.mono fun e w'' q => ?_
      obtain ⟨q1, q2, q3, q4⟩ := q
      rw [List.drop_zero, List.drop_zero] at q1
      exact ⟨q1, hb2.trans (q4.below (fun b e => by subst e; exact hb.size) hb2.size)⟩
    unfold qm.seen
    obtain ⟨cn, HCN⟩ : ∃ c, Hid ((WL (lkR A (A + hs.length)) 0 N).length = c) := ⟨_, rfl⟩
    rw [HCN.out] at CC LK GC ⊢
    obtain ⟨mm, HMM⟩ : ∃ q, Hid (wid wd = q) := ⟨_, rfl⟩
    rw [HMM.out] at WC LK GC
    have hz1 : (1 + hs.length) * 16 ≤ 140737488355328 := by omega
    have hA1 : (0 : Int) ≤ A := by omega
    have hA2 : decide ((A : Int) ≤ 4611686018427387904) = true := decide_eq_true (by omega)
    have hA3 : A ≤ 4611686018427387904 := by omega
    have hwp : IntKind.i64.wrap ((A : Int) + hs.length) = (A : Int) + hs.length := by rw [IntKind.wrap_i64]; omega
    obtain ⟨x, HX⟩ : ∃ x, Hid ((gp wd (lkS A (A + hs.length)) hs proof 0 N).1 = x) := ⟨_, rfl⟩
    rw [HX.out] at GC ⊢
    have hlm : (hs.map Value.string).length = hs.length := by rw [List.length_map]
    obtain ⟨l, HL⟩ : ∃ l, Hid (hs.length = l) := ⟨_, rfl⟩
    obtain ⟨lp, HLP⟩ : ∃ l, Hid (proof.length = l) := ⟨_, rfl⟩
    rw [HL.out] at CC RD GC hz1 hhc hlm hwp n1 ⊢
    rw [HLP.out] at LK GC ⊢
    have HLM : Hid ((hs.map Value.string).length = l * 1) := by show _ = _; rw [hlm, Nat.mul_one]
    clear h n4 n0 zh zp hT hcc hhh hlm CNT CN hlo
    by_cases ok : rH wd cn proof (root :: hs) = 0
    · rw [if_pos ok]
      have GC1 : Hid (∀ w', Below w.heap.size w w' → Calls _ _ _ _ _) := GC.out ok
      rw [ok] at LK
      obtain ⟨z, HZ⟩ : ∃ z : Bool, Hid (decide (x = root) = z) := ⟨_, rfl⟩
      have qz : (x.toList == root.toList) = z := by rw [beqL]; exact HZ.out
      have HE : Hid ((if x = root then (0 : Int) else 90) = if z then 0 else 90) := by
        show _ = _
        rw [← HZ.out]
        by_cases g : x = root <;> simp [g]
      rw [HE.out]
      clear HE HZ GC ok
      cases z
      all_goals (
        go_enter Tryz.func34, Tryz.ntmps34
        go_wp2_with fail
        refine (CC.out _).mono ?_
        rintro e w1 ⟨rfl, hb1⟩
        have B1 : Hid (Below w.heap.size w w1) := hb1
        clear hb1
        go_wp2_with fail
        refine (WC.out _).mono ?_
        rintro e w1' ⟨rfl, hw⟩
        subst hw
        have B2 : Hid (Below w.heap.size w (w1'.alloc (.cells #[.string root] 9))) := B1.out.alloc B1.out.size _
        have O2 : Hid ((w1'.alloc (.cells #[.string root] 9)).ownsRow w.heap.size 9 1 (.slice (some ⟨w1'.heap.size, 0, none⟩) 1 1) 1 [.string root]) := one_row w1' _ B1.out.size root
        go_wp2_with (at_builtin; refine wpList_append_own _ rfl _ _ 22 rfl w.heap.size 9 i9 (.string ByteArray.empty) 1 16 Tryz.underlying22 HIN.out.1 HIN.out.2.1 HIN.out.2.2.1 HIN.out.2.2.2 rfl (by decide) _ 1 _ rfl O2.out ⟨b, off, none⟩ l hc (hs.map Value.string) rfl HLM.out (NX.out _ B2.out) (ones _) (by unfold maxLen; omega) hz1 B2.out.size ?_; intro p' w5 ho hg hnn; obtain ⟨ga, gc, rfl⟩ := own_form ho; have B5 : Hid (Below w.heap.size w w5) := Below.grown B2.out hg B2.out.size (fun jj hj => (O2.out.lt _ hj).1); have LK1 : Hid (Calls _ _ _ _ _) := LK.out w5 _ B5.out (RD.out w5 _ _ ho); clear ho hg hnn)
        refine LK1.out.mono ?_
        rintro e w6 ⟨rfl, hw⟩
        subst hw
        have GC2 : Hid (Calls _ _ _ _ _) := GC1.out w6 B5.out
        go_wp2_with fail
        refine GC2.out.mono ?_
        rintro e w7 ⟨rfl, hb7⟩
        have B7 : Hid (Below w.heap.size w w7) := hb7
        clear hb7
        go_wp2
        go_ret
        exact ⟨by first | rfl | simp, B7.out⟩)
    · rw [if_neg ok]
      have q3 : (rH wd cn proof (root :: hs) == 0) = false := by rw [beq_eq_false_iff_ne]; exact ok
      obtain ⟨r, HRR⟩ : ∃ r, Hid (rH wd cn proof (root :: hs) = r) := ⟨_, rfl⟩
      rw [HRR.out] at LK q3 ⊢
      clear GC ok
      go_enter Tryz.func34, Tryz.ntmps34
      go_wp2_with fail
      refine (CC.out _).mono ?_
      rintro e w1 ⟨rfl, hb1⟩
      have B1 : Hid (Below w.heap.size w w1) := hb1
      clear hb1
      go_wp2_with fail
      refine (WC.out _).mono ?_
      rintro e w1' ⟨rfl, hw⟩
      subst hw
      have B2 : Hid (Below w.heap.size w (w1'.alloc (.cells #[.string root] 9))) := B1.out.alloc B1.out.size _
      have O2 : Hid ((w1'.alloc (.cells #[.string root] 9)).ownsRow w.heap.size 9 1 (.slice (some ⟨w1'.heap.size, 0, none⟩) 1 1) 1 [.string root]) := one_row w1' _ B1.out.size root
      go_wp2_with (at_builtin; refine wpList_append_own _ rfl _ _ 22 rfl w.heap.size 9 i9 (.string ByteArray.empty) 1 16 Tryz.underlying22 HIN.out.1 HIN.out.2.1 HIN.out.2.2.1 HIN.out.2.2.2 rfl (by decide) _ 1 _ rfl O2.out ⟨b, off, none⟩ l hc (hs.map Value.string) rfl HLM.out (NX.out _ B2.out) (ones _) (by unfold maxLen; omega) hz1 B2.out.size ?_; intro p' w5 ho hg hnn; obtain ⟨ga, gc, rfl⟩ := own_form ho; have B5 : Hid (Below w.heap.size w w5) := Below.grown B2.out hg B2.out.size (fun jj hj => (O2.out.lt _ hj).1); have LK1 : Hid (Calls _ _ _ _ _) := LK.out w5 _ B5.out (RD.out w5 _ _ ho); clear ho hg hnn)
      refine LK1.out.mono ?_
      rintro e w6 ⟨rfl, hw⟩
      subst hw
      go_wp2
      go_ret
      exact ⟨rfl, B5.out⟩
  · rw [if_neg h]
    obtain ⟨l1, l2⟩ := hlo
    have E1 : (lo < 0 ∨ 4611686018427387904 < lo + hs.length) → cnt9 3 lo lo n [] = cnt9 3 lo (lo + hs.length) n [] := cnt_hi
    have CA : Hid (∀ w, Calls _ _ _ _ _) := fun w => CN.out (lo + hs.length) w
    have CB : Hid (∀ w, Calls _ _ _ _ _) := fun w => CN.out lo w
    obtain ⟨c, HC⟩ : ∃ c, Hid (cnt9 3 lo (lo + hs.length) n [] = c) := ⟨_, rfl⟩
    obtain ⟨c1, c2⟩ := c
    rw [HC.out] at CA h E1 ⊢
    simp only at CA h ⊢
    have q : (c2 == 0) = false := by rw [beq_eq_false_iff_ne]; exact h
    have hl43 : hs.length ≤ 8796093022208 := by omega
    obtain ⟨lh, HLH⟩ : ∃ l, Hid (hs.length = l) := ⟨_, rfl⟩
    obtain ⟨lp, HLP⟩ : ∃ l, Hid (proof.length = l) := ⟨_, rfl⟩
    rw [HLH.out] at CA E1 hl43 ⊢
    rw [HLP.out]
    clear HR h zh zp hT hhc hhh CN
    by_cases g1 : 0 ≤ lo
    · have d1 : decide (0 ≤ lo) = true := decide_eq_true g1
      by_cases g2 : lo ≤ 4611686018427387904
      · have d2 : decide (lo ≤ 4611686018427387904) = true := decide_eq_true g2
        have hwp : IntKind.i64.wrap (lo + lh) = lo + lh := by rw [IntKind.wrap_i64]; omega
        clear g1 g2 E1
        go_enter Tryz.func34, Tryz.ntmps34
        go_wp2_with fail
        refine (CA.out _).mono ?_
        rintro e w1 ⟨rfl, hb1⟩
        have B1 : Hid (Below w.heap.size w w1) := hb1
        clear hb1
        go_wp2
        go_ret
        exact ⟨rfl, B1.out⟩
      · have d2 : decide (lo ≤ 4611686018427387904) = false := decide_eq_false g2
        rw [E1 (.inr (by omega))] at CB
        clear g1 g2 E1
        go_enter Tryz.func34, Tryz.ntmps34
        go_wp2_with fail
        refine (CB.out _).mono ?_
        rintro e w1 ⟨rfl, hb1⟩
        have B1 : Hid (Below w.heap.size w w1) := hb1
        clear hb1
        go_wp2
        go_ret
        exact ⟨rfl, B1.out⟩
    · have d1 : decide (0 ≤ lo) = false := decide_eq_false g1
      rw [E1 (.inl (by omega))] at CB
      clear g1 E1
      go_enter Tryz.func34, Tryz.ntmps34
      go_wp2_with fail
      refine (CB.out _).mono ?_
      rintro e w1 ⟨rfl, hb1⟩
      have B1 : Hid (Below w.heap.size w w1) := hb1
      clear hb1
      go_wp2
      go_ret
      exact ⟨rfl, B1.out⟩
end Go.Proofs.YthppkdjekfginaaGreatDoor.qq
