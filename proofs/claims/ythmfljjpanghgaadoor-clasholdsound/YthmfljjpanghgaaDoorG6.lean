import Derived.Test.YthmfljjpanghgaaDoorG5
import Derived.Deep.DeepCutAuto
import Derived.BigQuiet
import Derived.Test.YthmfljjpanghgaaDoorG3
import Derived.Test.YthmfljjpanghgaaDoorG1
import Derived.Deep.RegionWith
import Derived.Deep.RegionHeld3
namespace Go.Proofs.YthmfljjpanghgaaDoor.qi
open Go.RowKit Go.PlainAid
open Go.Proofs.YthmfljjpanghgaaDoor.pl Go.Proofs.YthmfljjpanghgaaDoor.pi Go.Proofs.YthmfljjpanghgaaDoor.pj Go.Proofs.YthmfljjpanghgaaDoor.rf Go.Proofs.YthmfljjpanghgaaDoor.ca Go.Proofs.YthmfljjpanghgaaDoor.cb Go.Proofs.YthmfljjpanghgaaDoor.cp Go.Proofs.YthmfljjpanghgaaDoor.ga Go.Proofs.YthmfljjpanghgaaDoor.aa Go.Proofs.YthmfljjpanghgaaDoor.ka Go.Proofs.YthmfljjpanghgaaDoor.kb Go.Proofs.YthmfljjpanghgaaDoor.kp Go.Proofs.YthmfljjpanghgaaDoor.mi Go.Proofs.YthmfljjpanghgaaDoor.lm Go.Proofs.YthmfljjpanghgaaDoor.co Go.Proofs.YthmfljjpanghgaaDoor.dc Go.Proofs.YthmfljjpanghgaaDoor.de Go.Proofs.YthmfljjpanghgaaDoor.df Go.Proofs.YthmfljjpanghgaaDoor.qa Go.Proofs.YthmfljjpanghgaaDoor.qb Go.Proofs.YthmfljjpanghgaaDoor.qc Go.Proofs.YthmfljjpanghgaaDoor.qe
set_option linter.unusedVariables false

-- hashes that are taken: the proof's, and the claimed ones
structure Tk (base tb : Nat) (vp vh : Value) (p h : List ByteArray) (u m : Nat) (w : World) : Prop where
  new : base ≤ tb
  box : w.heap[tb]? = some (.cells #[vp, .int .i64 u, vh, .int .i64 m] 95 (0, 0))
  op : Old base w vp p
  oh : Old base w vh h
  tab : Tab4 w
  big : 4 ≤ base ∧ base ≤ w.heap.size
theorem Tk.keep {base tb : Nat} {vp vh : Value} {p h : List ByteArray} {u m : Nat} {w w' : World} (t : Tk base tb vp vh p h u m w) (hb : Below w.heap.size w w') : Tk base tb vp vh p h u m w' :=
  have k : Kp (fun _ => False) w w' := Kp.of_below hb
  ⟨t.new, (hb.block _ (Array.getElem?_eq_some_iff.1 t.box).1).trans t.box, t.op.keep k (fun _ e => e.elim), t.oh.keep k (fun _ e => e.elim), t.tab.down hb, ⟨t.big.1, Nat.le_trans t.big.2 hb.size⟩⟩
theorem old_at {base : Nat} {w : World} {v : Value} {l : List ByteArray} {u : Nat} (h : Old base w v l) (hu : u < l.length) : ∃ g off cap, v = .slice (some ⟨g, off, none⟩) l.length cap ∧ g < base ∧ w.cell? ⟨g, off + u, none⟩ = some (.string (l.getD u ByteArray.empty)) := by
  obtain ⟨a, cap, rfl, hc, h0 | ⟨g, off, rfl, hl, hh⟩⟩ := h
  · omega
  · exact ⟨g, off, cap, rfl, hl, hh u hu⟩
theorem below_tk {base tb : Nat} {w : World} (h1 : base ≤ tb) (h2 : base ≤ w.heap.size) (o : Nat) (v : Value) (m : Nat) : Below base w ((w.setCell ⟨tb, o, none⟩ v).drewN m) := below_dN ((Below.refl _ _).setCell (p := ⟨tb, o, none⟩) h1 v) m
theorem Tk.set1 {base tb : Nat} {vp vh : Value} {p h : List ByteArray} {u m : Nat} {w : World} (t : Tk base tb vp vh p h u m w) (x : Nat) (d : Nat) : Tk base tb vp vh p h x m ((w.setCell ⟨tb, 1, none⟩ (.int .i64 x)).drewN d) := by
  have hb := below_tk t.new t.big.2 1 (.int .i64 (x : Int)) d
  have k : Kp (fun b => base ≤ b) w ((w.setCell ⟨tb, 1, none⟩ (.int .i64 (x : Int))).drewN d) := ⟨hb.os, hb.tape, hb.output, hb.size, fun k hk hn => hb.block k (by omega)⟩
  exact ⟨t.new, heap_setCell_same _ _ 1 _ _ _ t.box, t.op.keep k (fun _ e => e), t.oh.keep k (fun _ e => e), t.tab.below hb t.big.1, ⟨t.big.1, Nat.le_trans t.big.2 hb.size⟩⟩
theorem Tk.set3 {base tb : Nat} {vp vh : Value} {p h : List ByteArray} {u m : Nat} {w : World} (t : Tk base tb vp vh p h u m w) (x : Nat) (d : Nat) : Tk base tb vp vh p h u x ((w.setCell ⟨tb, 3, none⟩ (.int .i64 x)).drewN d) := by
  have hb := below_tk t.new t.big.2 3 (.int .i64 (x : Int)) d
  have k : Kp (fun b => base ≤ b) w ((w.setCell ⟨tb, 3, none⟩ (.int .i64 (x : Int))).drewN d) := ⟨hb.os, hb.tape, hb.output, hb.size, fun k hk hn => hb.block k (by omega)⟩
  exact ⟨t.new, heap_setCell_same _ _ 3 _ _ _ t.box, t.op.keep k (fun _ e => e), t.oh.keep k (fun _ e => e), t.tab.below hb t.big.1, ⟨t.big.1, Nat.le_trans t.big.2 hb.size⟩⟩
theorem nextD (base tb : Nat) (vp vh : Value) (p h : List ByteArray) (u m : Nat) (w : World) (t : Tk base tb vp vh p h u m w) (hu : u < p.length) (hz : p.length ≤ 140737488355328) :
    Calls Tryd.prog 94 #[.pointer (some ⟨tb, 0, none⟩)] w fun e w' => e = .returned (.string (p.getD u ByteArray.empty)) ∧ Tk base tb vp vh p h (u + 1) m w' ∧ Kp (fun b => b = tb) w w' := by
  obtain ⟨g, off, cap, rfl, hg, hc⟩ := old_at t.op hu
  have HS : Hid (∀ d, Tk base tb (.slice (some ⟨g, off, none⟩) p.length cap) vh p h (u + 1) m ((w.setCell ⟨tb, 1, none⟩ (.int .i64 ((u + 1 : Nat) : Int))).drewN d) ∧ Kp (fun b => b = tb) w ((w.setCell ⟨tb, 1, none⟩ (.int .i64 ((u + 1 : Nat) : Int))).drewN d)) := fun d => ⟨t.set1 (u + 1) d, (Kp.setCell (A := fun b => b = tb) w tb 1 _ rfl).trans (Kp.of_below (below_dN (Below.refl _ _) d))⟩
  have c1 : w.cell? ⟨tb, 1, none⟩ = some (.int .i64 u) := cell_of_row _ _ 1 _ _ _ t.box
  have f1 := frozen_of_row _ _ 1 _ _ t.box
  have bx := (HS.out 0).1.box
  have d0 : (w.setCell ⟨tb, 1, none⟩ (.int .i64 ((u + 1 : Nat) : Int))).cell? ⟨tb, 0, none⟩ = some (.slice (some ⟨g, off, none⟩) p.length cap) := cell_of_row _ _ 0 _ _ _ bx
  have d1 : (w.setCell ⟨tb, 1, none⟩ (.int .i64 ((u + 1 : Nat) : Int))).cell? ⟨tb, 1, none⟩ = some (.int .i64 ((u + 1 : Nat) : Int)) := cell_of_row _ _ 1 _ _ _ bx
  have hgt : g ≠ tb := by have := t.new; omega
  have d2 : (w.setCell ⟨tb, 1, none⟩ (.int .i64 ((u + 1 : Nat) : Int))).cell? ⟨g, off + u, none⟩ = some (.string (p.getD u ByteArray.empty)) := (Kp.setCell (A := fun b => b = tb) w tb 1 _ rfl).cell hc hgt
  obtain ⟨x, HX⟩ : ∃ x, Hid (p.getD u ByteArray.empty = x) := ⟨_, rfl⟩
  obtain ⟨l, HL⟩ : ∃ l, Hid (p.length = l) := ⟨_, rfl⟩
  rw [HX.out] at d2 ⊢
  rw [HL.out] at d0 hu hz HS ⊢
  have e1 : ((u + 1 : Nat) : Int) = (u : Int) + 1 := by omega
  have e2 : (u : Int) < l := by omega
  rw [e1] at d0 d1 d2 HS
  obtain ⟨W1, HW1⟩ : ∃ W1, W1 = w.setCell ⟨tb, 1, none⟩ (.int .i64 ((u : Int) + 1)) := ⟨_, rfl⟩
  rw [← HW1] at d0 d1 d2 HS
  clear bx hc hg t
  go_enter Tryd.func94, Tryd.ntmps94
  go_upto_region 2 with fail
  rw [← HW1]
  clear HW1 c1 f1
  go_quiet (fail)
  go_wp2
  go_ret
  exact ⟨rfl, (HS.out _).1, (HS.out _).2⟩
end Go.Proofs.YthmfljjpanghgaaDoor.qi

namespace Go.Proofs.YthmfljjpanghgaaDoor.qj
open Go.RowKit Go.PlainAid
open Go.Proofs.YthmfljjpanghgaaDoor.pl Go.Proofs.YthmfljjpanghgaaDoor.pi Go.Proofs.YthmfljjpanghgaaDoor.pj Go.Proofs.YthmfljjpanghgaaDoor.rf Go.Proofs.YthmfljjpanghgaaDoor.ca Go.Proofs.YthmfljjpanghgaaDoor.cb Go.Proofs.YthmfljjpanghgaaDoor.cp Go.Proofs.YthmfljjpanghgaaDoor.ga Go.Proofs.YthmfljjpanghgaaDoor.aa Go.Proofs.YthmfljjpanghgaaDoor.ka Go.Proofs.YthmfljjpanghgaaDoor.kb Go.Proofs.YthmfljjpanghgaaDoor.kp Go.Proofs.YthmfljjpanghgaaDoor.mi Go.Proofs.YthmfljjpanghgaaDoor.lm Go.Proofs.YthmfljjpanghgaaDoor.co Go.Proofs.YthmfljjpanghgaaDoor.dc Go.Proofs.YthmfljjpanghgaaDoor.de Go.Proofs.YthmfljjpanghgaaDoor.df Go.Proofs.YthmfljjpanghgaaDoor.dw Go.Proofs.YthmfljjpanghgaaDoor.qa Go.Proofs.YthmfljjpanghgaaDoor.qb Go.Proofs.YthmfljjpanghgaaDoor.qc Go.Proofs.YthmfljjpanghgaaDoor.qe Go.Proofs.YthmfljjpanghgaaDoor.qi
set_option linter.unusedVariables false

theorem headD_drop (l : List ByteArray) (u : Nat) : (l.drop u).headD ByteArray.empty = l.getD u ByteArray.empty := by
  rw [List.headD_eq_head?_getD, List.head?_drop, List.getD_eq_getElem?_getD]
theorem WL_congr {lk lk' : Nat → Nat → Nat} (n : Nat) : ∀ a b, b - a = n → (∀ c d, a ≤ c → c < d → d ≤ b → lk c d = lk' c d) → a < b → WL lk a b = WL lk' a b := by
  induction n using Nat.strongRecOn with
  | ind n ih =>
    intro a b hn h hab
    have e := h a b (Nat.le_refl _) hab (Nat.le_refl _)
    by_cases h0 : lk a b = 0
    · rw [WL_pass h0, WL_pass (by rw [← e]; exact h0)]
    by_cases h1 : lk a b = 1
    · rw [WL_take h1, WL_take (by rw [← e]; exact h1)]
    by_cases h2 : 2 ≤ b - a
    · have hh := half_lt h2
      have i1 := ih (half (b - a)) (by omega) a (a + half (b - a)) (by omega) (fun c d q1 q2 q3 => h c d q1 q2 (by omega)) (by omega)
      have i2 := ih (b - a - half (b - a)) (by omega) (a + half (b - a)) b (by omega) (fun c d q1 q2 q3 => h c d (by omega) q2 q3) (by omega)
      by_cases h3 : lk a b = 2
      · rw [WL_left h3 h2, WL_left (by rw [← e]; exact h3) h2, i1, i2]
      · rw [WL_right (by omega) h2, WL_right (by rw [← e]; omega) h2, i1, i2]
    · rw [WL, if_neg h0, if_neg h1, dif_neg h2, WL, if_neg (by rw [← e]; exact h0), if_neg (by rw [← e]; exact h1), dif_neg h2]
theorem fl_congr {lk lk' : Nat → Nat → Nat} {a b : Nat} (h : lk a b = lk' a b) : fl lk a b = fl lk' a b := by unfold fl; rw [h]
-- what is reckoned, without the shape's mind
def gp (wd : Int) (lk : Nat → Nat → Nat) (c p : List ByteArray) (a b : Nat) : ByteArray × List ByteArray × List ByteArray :=
  if lk a b = 0 then (c.headD ByteArray.empty, c.drop 1, p)
  else if lk a b = 1 then (p.headD ByteArray.empty, c, p.drop 1)
  else if h : 2 ≤ b - a then
    if lk a b = 2 then
      (NF wd (gp wd lk c p a (a + half (b - a))).1 (gp wd lk (gp wd lk c p a (a + half (b - a))).2.1 (gp wd lk c p a (a + half (b - a))).2.2 (a + half (b - a)) b).1, (gp wd lk (gp wd lk c p a (a + half (b - a))).2.1 (gp wd lk c p a (a + half (b - a))).2.2 (a + half (b - a)) b).2)
    else
      (NF wd (gp wd lk (gp wd lk c p (a + half (b - a)) b).2.1 (gp wd lk c p (a + half (b - a)) b).2.2 a (a + half (b - a))).1 (gp wd lk c p (a + half (b - a)) b).1, (gp wd lk (gp wd lk c p (a + half (b - a)) b).2.1 (gp wd lk c p (a + half (b - a)) b).2.2 a (a + half (b - a))).2)
  else (c.headD ByteArray.empty, c.drop 1, p)
termination_by b - a
decreasing_by all_goals (have := half_lt h; omega)
theorem gp_claim {wd : Int} {lk : Nat → Nat → Nat} {c p : List ByteArray} {a b : Nat} (h : lk a b = 0) : gp wd lk c p a b = (c.headD ByteArray.empty, c.drop 1, p) := by rw [gp, if_pos h]
theorem gp_proof {wd : Int} {lk : Nat → Nat → Nat} {c p : List ByteArray} {a b : Nat} (h : lk a b = 1) : gp wd lk c p a b = (p.headD ByteArray.empty, c, p.drop 1) := by rw [gp, if_neg (by omega), if_pos h]
theorem gp_left {wd : Int} {lk : Nat → Nat → Nat} {c p : List ByteArray} {a b : Nat} (h : lk a b = 2) (h2 : 2 ≤ b - a) : gp wd lk c p a b = (NF wd (gp wd lk c p a (a + half (b - a))).1 (gp wd lk (gp wd lk c p a (a + half (b - a))).2.1 (gp wd lk c p a (a + half (b - a))).2.2 (a + half (b - a)) b).1, (gp wd lk (gp wd lk c p a (a + half (b - a))).2.1 (gp wd lk c p a (a + half (b - a))).2.2 (a + half (b - a)) b).2) := by rw [gp, if_neg (by omega), if_neg (by omega), dif_pos h2, if_pos h]
theorem gp_right {wd : Int} {lk : Nat → Nat → Nat} {c p : List ByteArray} {a b : Nat} (h : 3 ≤ lk a b) (h2 : 2 ≤ b - a) : gp wd lk c p a b = (NF wd (gp wd lk (gp wd lk c p (a + half (b - a)) b).2.1 (gp wd lk c p (a + half (b - a)) b).2.2 a (a + half (b - a))).1 (gp wd lk c p (a + half (b - a)) b).1, (gp wd lk (gp wd lk c p (a + half (b - a)) b).2.1 (gp wd lk c p (a + half (b - a)) b).2.2 a (a + half (b - a))).2) := by rw [gp, if_neg (by omega), if_neg (by omega), dif_pos h2, if_neg (by omega)]
theorem gp_odd {wd : Int} {lk : Nat → Nat → Nat} {c p : List ByteArray} {a b : Nat} (h : 2 ≤ lk a b) (h2 : ¬ 2 ≤ b - a) : gp wd lk c p a b = (c.headD ByteArray.empty, c.drop 1, p) := by rw [gp, if_neg (by omega), if_neg (by omega), dif_neg h2]
theorem go_gp (wd : Int) (lk : Nat → Nat → Nat) (cur : Nat → Nat) (n : Nat) : ∀ a b x c p, b - a = n → (go (WS wd lk cur) (x, c, p) a b).1 = (gp wd lk c p a b).1 ∧ (go (WS wd lk cur) (x, c, p) a b).2.2 = (gp wd lk c p a b).2 := by
  induction n using Nat.strongRecOn with
  | ind n ih =>
    intro a b x c p hn
    have z : (WS wd lk cur).lk (x, c, p) a b = (lk a b, (if lk a b < 2 then cur b else x), c, p) := rfl
    generalize hy : (if lk a b < 2 then cur b else x) = y at z
    by_cases h0 : lk a b = 0
    · rw [go_stop (by rw [z]; show lk a b < 2; omega), z, gp_claim h0]
      show ((WS wd lk cur).hv (y, c, p) a b (lk a b)).1 = _ ∧ _
      rw [h0]
      exact ⟨rfl, rfl⟩
    by_cases h1 : lk a b = 1
    · rw [go_stop (by rw [z]; show lk a b < 2; omega), z, gp_proof h1]
      show ((WS wd lk cur).hv (y, c, p) a b (lk a b)).1 = _ ∧ _
      rw [h1]
      exact ⟨rfl, rfl⟩
    by_cases h2 : 2 ≤ b - a
    · have hh := half_lt h2
      by_cases h3 : lk a b = 2
      · obtain ⟨l1, l2⟩ := ih (half (b - a)) (by omega) a (a + half (b - a)) y c p (by omega)
        obtain ⟨r1, r2⟩ := ih (b - a - half (b - a)) (by omega) (a + half (b - a)) b (go (WS wd lk cur) (y, c, p) a (a + half (b - a))).2.1 (go (WS wd lk cur) (y, c, p) a (a + half (b - a))).2.2.1 (go (WS wd lk cur) (y, c, p) a (a + half (b - a))).2.2.2 (by omega)
        rw [go_left (by rw [z]; exact h3) h2, gp_left h3 h2, z]
        rw [← l2]
        exact ⟨(congrArg (fun q => NF wd q _) l1).trans (congrArg (NF wd _) r1), r2⟩
      · obtain ⟨l1, l2⟩ := ih (b - a - half (b - a)) (by omega) (a + half (b - a)) b y c p (by omega)
        obtain ⟨r1, r2⟩ := ih (half (b - a)) (by omega) a (a + half (b - a)) (go (WS wd lk cur) (y, c, p) (a + half (b - a)) b).2.1 (go (WS wd lk cur) (y, c, p) (a + half (b - a)) b).2.2.1 (go (WS wd lk cur) (y, c, p) (a + half (b - a)) b).2.2.2 (by omega)
        rw [go_right (by rw [z]; show 3 ≤ lk a b; omega) h2, gp_right (by omega) h2, z]
        rw [← l2]
        exact ⟨(congrArg (fun q => NF wd q _) r1).trans (congrArg (NF wd _) l1), r2⟩
    · rw [go, if_neg (by rw [z]; show ¬ lk a b < 2; omega), dif_neg h2, z, gp_odd (by omega) h2]
      exact ⟨rfl, rfl⟩
theorem gp_state (wd : Int) {lk : Nat → Nat → Nat} (hw : ∀ {a b}, a < b → 2 ≤ lk a b → 2 ≤ b - a) (hf : ∀ a b, lk a b ≤ 3) {a b : Nat} (hab : a < b) (c p : List ByteArray) : (gp wd lk c p a b).2 = (c.drop (WL (fl lk) a b).length, p.drop (WL lk a b).length) := by
  rw [← (go_gp wd lk (fun _ => 0) (b - a) a b 0 c p rfl).2, go_state wd hw hf (cur := fun _ => 0) (fun _ _ => rfl) (b - a) a b c p rfl hab]
theorem gp_congr (wd : Int) {lk lk' : Nat → Nat → Nat} (n : Nat) : ∀ a b c p, b - a = n → (∀ c d, a ≤ c → c < d → d ≤ b → lk c d = lk' c d) → a < b → gp wd lk c p a b = gp wd lk' c p a b := by
  induction n using Nat.strongRecOn with
  | ind n ih =>
    intro a b c p hn h hab
    have e := h a b (Nat.le_refl _) hab (Nat.le_refl _)
    by_cases h0 : lk a b = 0
    · rw [gp_claim h0, gp_claim (by rw [← e]; exact h0)]
    by_cases h1 : lk a b = 1
    · rw [gp_proof h1, gp_proof (by rw [← e]; exact h1)]
    by_cases h2 : 2 ≤ b - a
    · have hh := half_lt h2
      have i1 := fun c p => ih (half (b - a)) (by omega) a (a + half (b - a)) c p (by omega) (fun c d q1 q2 q3 => h c d q1 q2 (by omega)) (by omega)
      have i2 := fun c p => ih (b - a - half (b - a)) (by omega) (a + half (b - a)) b c p (by omega) (fun c d q1 q2 q3 => h c d (by omega) q2 q3) (by omega)
      by_cases h3 : lk a b = 2
      · rw [gp_left h3 h2, gp_left (by rw [← e]; exact h3) h2, i1, i2]
      · rw [gp_right (by omega) h2, gp_right (by rw [← e]; omega) h2, i2, i1]
    · rw [gp_odd (by omega) h2, gp_odd (by rw [← e]; omega) h2]
theorem lkM_congr {ps qs : List Nat} {c d : Nat} (h : ∀ p, c ≤ p → p < d → (p ∈ ps ↔ p ∈ qs)) : lkM ps c d = lkM qs c d := by
  unfold lkM
  have e : (∃ p ∈ ps, c ≤ p ∧ p < d) ↔ (∃ p ∈ qs, c ≤ p ∧ p < d) := ⟨fun ⟨p, h1, h2, h3⟩ => ⟨p, (h p h2 h3).1 h1, h2, h3⟩, fun ⟨p, h1, h2, h3⟩ => ⟨p, (h p h2 h3).2 h1, h2, h3⟩⟩
  by_cases g : ∃ p ∈ ps, c ≤ p ∧ p < d
  · rw [if_pos g, if_pos (e.1 g)]
  · rw [if_neg g, if_neg (fun x => g (e.2 x))]
theorem mem_in {xs : List Int} (h0 : ∀ p ∈ xs, (0 : Int) ≤ p) {a b p : Nat} (h1 : a ≤ p) (h2 : p < b) : p ∈ natL xs ↔ p ∈ natL (inX xs a b) := by
  unfold natL inX
  rw [List.mem_map, List.mem_map]
  constructor
  · rintro ⟨x, hx, rfl⟩
    have := h0 x hx
    exact ⟨x, List.mem_filter.2 ⟨hx, by rw [Bool.and_eq_true, decide_eq_true_eq, decide_eq_true_eq]; omega⟩, rfl⟩
  · rintro ⟨x, hx, rfl⟩
    exact ⟨x, (List.mem_filter.1 hx).1, rfl⟩
theorem wideM {ps : List Nat} {a b : Nat} (hab : a < b) (h : 2 ≤ lkM ps a b) : 2 ≤ b - a := by
  unfold lkM at h
  split at h
  · split at h <;> omega
  · omega
theorem fourM (ps : List Nat) (a b : Nat) : lkM ps a b ≤ 3 := by
  unfold lkM
  split
  · split <;> omega
  · omega
end Go.Proofs.YthmfljjpanghgaaDoor.qj

namespace Go.Proofs.YthmfljjpanghgaaDoor.wb
open Go.RowKit Go.PlainAid
open Go.Proofs.YthmfljjpanghgaaDoor.ca Go.Proofs.YthmfljjpanghgaaDoor.cb Go.Proofs.YthmfljjpanghgaaDoor.cp Go.Proofs.YthmfljjpanghgaaDoor.ga Go.Proofs.YthmfljjpanghgaaDoor.aa Go.Proofs.YthmfljjpanghgaaDoor.ba Go.Proofs.YthmfljjpanghgaaDoor.bb Go.Proofs.YthmfljjpanghgaaDoor.kp Go.Proofs.YthmfljjpanghgaaDoor.wt
set_option linter.unusedVariables false

def e2 (v : ByteArray × ByteArray) : Value := .agg #[.string v.1, .string v.2]
-- the part's box and the result's
theorem two_start (w : World) (a b : Value) : ((w.alloc (.cells #[a, b] 114)).alloc (.cells #[.string ⟨#[]⟩, .string ⟨#[]⟩] 84)).heap[w.heap.size + 1]? = some (.cells #[.string ⟨#[]⟩, .string ⟨#[]⟩] 84 (0, 0)) := by
  have s1 : (w.alloc (.cells #[a, b] 114)).heap.size = w.heap.size + 1 := by simp
  rw [← s1]; exact heap_alloc_new _ _
-- two texts written into a box
theorem set_two {w : World} {b : Nat} {x y : Value} (h : w.heap[b]? = some (.cells #[x, y] 84 (0, 0))) (u v : Value) : ((w.setCell ⟨b, 0, none⟩ u).setCell ⟨b, 1, none⟩ v).heap[b]? = some (.cells #[u, v] 84 (0, 0)) :=
  heap_setCell_same _ _ 1 _ _ v (heap_setCell_same _ _ 0 _ _ u h)
theorem kp_two {A : Nat → Prop} (w : World) (b : Nat) (u v : Value) (hb : A b) : Kp A w ((w.setCell ⟨b, 0, none⟩ u).setCell ⟨b, 1, none⟩ v) := (Kp.setCell w b 0 u hb).trans (Kp.setCell _ b 1 v hb)
-- but for F and what is new
theorem kp_new {F : Nat → Prop} {w w2 w3 : World} (k : Kp F w w2) {b : Nat} (k2 : Kp (fun q => q = b) w2 w3) (hb : w.heap.size ≤ b) : Kp F w w3 :=
  ⟨k2.os.trans k.os, k2.tape.trans k.tape, k2.output.trans k.output, Nat.le_trans k.size k2.size, fun q hq hn => (k2.block q (Nat.lt_of_lt_of_le hq k.size) (fun e => by omega)).trans (k.block q hq hn)⟩
section
variable {X : Type} {F : Nat → Prop} {St : X → World → Prop} {W : Wy X (ByteArray × ByteArray)} {P : X → Nat → Nat → Prop} {Q : ByteArray × ByteArray → Prop} {lg hg jg : Nat} {lv hv jv : Array Value}
set_option maxHeartbeats 6400000 in
theorem stopB (K : Wk F St e2 W P Q lg hg jg lv hv jv) {D : Nat → Prop} (dl : ∀ {x w}, St x w → ∀ b, D b → b < w.heap.size) (keep : ∀ {x w w'} {G : Nat → Prop}, St x w → Kp G w w' → (∀ b, G b → ¬ D b) → St x w') (a b : Nat) (x : X) (w : World) (hab : a < b) (hb : b ≤ 4611686018427387904) (hP : P x a b) (hS : St x w) (hs : (W.lk x a b).1 < 2) :
    Calls Tryd.prog 82 #[.agg #[.int .i64 a, .int .i64 b], .func (.func lg) #[] lv, .func (.func hg) #[] hv, .func (.func jg) #[] jv] w fun e w' => e = .returned (e2 (go W x a b).1) ∧ St (go W x a b).2 w' ∧ Kp F w w' ∧ Q (go W x a b).1 := by
  have eg := K.lent
  have eh := K.hent
  have BA : Hid (Below w.heap.size w ((w.alloc (.cells #[.int .i64 a, .int .i64 b] 114)).alloc (.cells #[.string ⟨#[]⟩, .string ⟨#[]⟩] 84))) := ((Below.refl _ _).alloc (Nat.le_refl _) _).alloc (by simp) _
  have LC : Hid (Calls _ _ _ _ _) := K.look x a b _ hab hb hP (K.later hS BA.out)
  have HVC : Hid (∀ w, St (W.lk x a b).2 w → Calls _ _ _ _ _) := fun w h2 => K.have' x a b w hab hb hP hs h2
  have HBX : Hid (_ ∧ _ ∧ _ ∧ _) := two_box w (.int .i64 a) (.int .i64 b) (.string ⟨#[]⟩) (.string ⟨#[]⟩) 114 84
  have HR8 := two_start w (.int .i64 a) (.int .i64 b)
  have HF : Hid (∀ b, F b → b < w.heap.size) := K.fl hS
  have HD : Hid (¬ D (w.heap.size + 1)) := fun h => by have := dl hS _ h; omega
  have KE : Hid (∀ {x w w'} {G : Nat → Prop}, St x w → Kp G w w' → (∀ b, G b → ¬ D b) → St x w') := keep
  have HG : go W x a b = W.hv (W.lk x a b).2 a b (W.lk x a b).1 := go_stop hs
  have HQ : Hid (Q (go W x a b).1) := by rw [HG]; exact K.qh hab hP hs
  rw [← HG] at HVC
  have KK : Hid (Wk F St e2 W P Q lg hg jg lv hv jv) := K
  obtain ⟨s, HS⟩ : ∃ s, Hid ((W.lk x a b).1 = s) := ⟨_, rfl⟩
  obtain ⟨y, HY⟩ : ∃ y, Hid ((W.lk x a b).2 = y) := ⟨_, rfl⟩
  obtain ⟨G, HGG⟩ : ∃ G, Hid (go W x a b = G) := ⟨_, rfl⟩
  rw [HS.out, HY.out] at HVC LC
  rw [HS.out] at hs
  rw [HGG.out] at HVC HQ ⊢
  obtain ⟨⟨g1, g2⟩, g3⟩ := G
  unfold e2 at HVC ⊢
  simp only at HVC HQ ⊢
  have H8 : Hid (_ = _) := HR8
  clear K hP hS HG HR8 dl keep
  rcases (show s = 0 ∨ s = 1 by omega) with rfl | rfl
  all_goals (
    go_enter Tryd.func82, Tryd.ntmps82
    go_wp2_with fail
    refine LC.out.mono ?_
    rintro e w1 ⟨rfl, hs1, hk1⟩
    have S1 : Hid (St y w1) := hs1
    have K1 : Hid (Kp F w w1) := (Kp.of_below BA.out).trans hk1
    have c1 := hk1.cell HBX.out.1 (fun h => by have := HF.out _ h; omega)
    have c2 := hk1.cell HBX.out.2.1 (fun h => by have := HF.out _ h; omega)
    have r1 : w1.heap[w.heap.size + 1]? = _ := (hk1.block _ (by simp) (fun h => by have := HF.out _ h; omega)).trans H8.out
    have R1 : Hid (w1.heap[w.heap.size + 1]? = some (.cells #[.string ⟨#[]⟩, .string ⟨#[]⟩] 84 (0, 0))) := r1
    clear hs1 hk1 r1
    go_wp2_with fail
    refine (HVC.out _ S1.out).mono ?_
    rintro e w2 ⟨rfl, hs2, hk2⟩
    have hlt : w.heap.size + 1 < w1.heap.size := (Array.getElem?_eq_some_iff.1 R1.out).1
    have r2 : w2.heap[w.heap.size + 1]? = some (.cells #[.string ⟨#[]⟩, .string ⟨#[]⟩] 84 (0, 0)) := (hk2.block _ hlt (fun h => by have := HF.out _ h; omega)).trans R1.out
    have S2 : Hid (St g3 w2 ∧ Kp F w w2) := ⟨hs2, K1.out.trans hk2⟩
    have f0 := frozen_of_row _ _ 0 _ _ r2
    have f1 := frozen_of_row _ _ 1 _ _ r2
    have d0 : w2.cell? ⟨w.heap.size + 1, 0, none⟩ = some (.string ⟨#[]⟩) := cell_of_row _ _ 0 _ _ _ r2
    have d1 : w2.cell? ⟨w.heap.size + 1, 1, none⟩ = some (.string ⟨#[]⟩) := cell_of_row _ _ 1 _ _ _ r2
    clear hs2 hk2 c1 c2 hlt
    have R3 := set_two r2 (.string g1) (.string g2)
    have K3 : Hid (Kp (fun q => q = w.heap.size + 1) w2 ((w2.setCell ⟨w.heap.size + 1, 0, none⟩ (.string g1)).setCell ⟨w.heap.size + 1, 1, none⟩ (.string g2))) := kp_two w2 _ _ _ rfl
    have e0 : ((w2.setCell ⟨w.heap.size + 1, 0, none⟩ (.string g1)).setCell ⟨w.heap.size + 1, 1, none⟩ (.string g2)).cell? ⟨w.heap.size + 1, 0, none⟩ = some (.string g1) := cell_of_row _ _ 0 _ _ _ R3
    have e1 : ((w2.setCell ⟨w.heap.size + 1, 0, none⟩ (.string g1)).setCell ⟨w.heap.size + 1, 1, none⟩ (.string g2)).cell? ⟨w.heap.size + 1, 1, none⟩ = some (.string g2) := cell_of_row _ _ 1 _ _ _ R3
    have E01 : Hid (_ ∧ _) := ⟨e0, e1⟩
    clear R3 r2 e0 e1
    go_wp2
    generalize (w2.setCell ⟨w.heap.size + 1, 0, none⟩ (.string g1)).setCell ⟨w.heap.size + 1, 1, none⟩ (.string g2) = w3 at K3 E01 ⊢
    (try simp only [Exit.inBlock, Exit.then])
    refine bodyPost_ret (by simp [results, Tryd.results82, go_sem, E01.out.1, E01.out.2]; try rfl) rfl ?_
    exact ⟨rfl, KE.out S2.out.1 K3.out (fun b e => by rw [e]; exact HD.out), kp_new S2.out.2 K3.out (by omega), HQ.out⟩)
set_option maxHeartbeats 12800000 in
theorem leftB (K : Wk F St e2 W P Q lg hg jg lv hv jv) {D : Nat → Prop} (dl : ∀ {x w}, St x w → ∀ b, D b → b < w.heap.size) (keep : ∀ {x w w'} {G : Nat → Prop}, St x w → Kp G w w' → (∀ b, G b → ¬ D b) → St x w') (a b : Nat) (x : X) (w : World) (hab : a < b) (hb : b ≤ 4611686018427387904) (hP : P x a b) (hS : St x w) (hs : (W.lk x a b).1 = 2)
    (IH : ∀ (a' b' : Nat), b' - a' < b - a → a' < b' → b' ≤ 4611686018427387904 → ∀ x w, P x a' b' → St x w → Calls Tryd.prog 82 #[.agg #[.int .i64 a', .int .i64 b'], .func (.func lg) #[] lv, .func (.func hg) #[] hv, .func (.func jg) #[] jv] w fun e w' => e = .returned (e2 (go W x a' b').1) ∧ St (go W x a' b').2 w' ∧ Kp F w w' ∧ Q (go W x a' b').1) :
    Calls Tryd.prog 82 #[.agg #[.int .i64 a, .int .i64 b], .func (.func lg) #[] lv, .func (.func hg) #[] hv, .func (.func jg) #[] jv] w fun e w' => e = .returned (e2 (go W x a b).1) ∧ St (go W x a b).2 w' ∧ Kp F w w' ∧ Q (go W x a b).1 := by
  have eg := K.lent
  have ej := K.jent
  have BA : Hid (Below w.heap.size w ((w.alloc (.cells #[.int .i64 a, .int .i64 b] 114)).alloc (.cells #[.string ⟨#[]⟩, .string ⟨#[]⟩] 84))) := ((Below.refl _ _).alloc (Nat.le_refl _) _).alloc (by simp) _
  have LC : Hid (Calls _ _ _ _ _) := K.look x a b _ hab hb hP (K.later hS BA.out)
  have HBX : Hid (_ ∧ _ ∧ _ ∧ _) := two_box w (.int .i64 a) (.int .i64 b) (.string ⟨#[]⟩) (.string ⟨#[]⟩) 114 84
  have HR8 := two_start w (.int .i64 a) (.int .i64 b)
  have HF : Hid (∀ b, F b → b < w.heap.size) := K.fl hS
  have HD : Hid (¬ D (w.heap.size + 1)) := fun h => by have := dl hS _ h; omega
  have KE : Hid (∀ {x w w'} {G : Nat → Prop}, St x w → Kp G w w' → (∀ b, G b → ¬ D b) → St x w') := keep
  have KK : Hid (Wk F St e2 W P Q lg hg jg lv hv jv) := K
  have h2 := K.wide hab hP (by omega)
  have hh := half_lt h2
  have HC : Hid (∀ w, Calls _ _ _ _ _) := fun w => halves a b h2 hb w
  have HGE : Hid (go W x a b = _) := go_left hs h2
  have HPP : Hid (_ ∧ _) := K.left hab hP hs
  rw [hs] at LC
  obtain ⟨y, HY⟩ : ∃ y, Hid ((W.lk x a b).2 = y) := ⟨_, rfl⟩
  rw [HY.out] at LC HGE HPP
  obtain ⟨k, HK⟩ : ∃ k, Hid (a + half (b - a) = k) := ⟨_, rfl⟩
  have hk : a < k ∧ k < b := by rw [← HK.out]; omega
  rw [HK.out] at HC HGE HPP
  unfold pv at HC
  obtain ⟨A, HAA⟩ : ∃ A, Hid (go W y a k = A) := ⟨_, rfl⟩
  rw [HAA.out] at HGE HPP
  obtain ⟨B, HBB⟩ : ∃ B, Hid (go W A.2 k b = B) := ⟨_, rfl⟩
  rw [HBB.out] at HGE
  have I1 : Hid (∀ w', St y w' → Calls _ _ _ _ _) := fun w' h => IH a k (by omega) hk.1 (by omega) y w' HPP.out.1 h
  have I2 : Hid (∀ w', St A.2 w' → Calls _ _ _ _ _) := fun w' h => IH k b (by omega) hk.2 hb A.2 w' HPP.out.2 h
  rw [HAA.out] at I1
  rw [HBB.out] at I2
  have JC : Hid (∀ w, Q A.1 → Q B.1 → St B.2 w → Calls _ _ _ _ _) := fun w q1 q2 q3 => K.join A.1 B.1 B.2 w q1 q2 q3
  have QJ : Hid (Q A.1 → Q B.1 → Q (W.jn A.1 B.1)) := fun q1 q2 => K.qj q1 q2
  rw [HGE.out]
  obtain ⟨J, HJ⟩ : ∃ J, Hid (W.jn A.1 B.1 = J) := ⟨_, rfl⟩
  rw [HJ.out] at JC QJ ⊢
  obtain ⟨⟨a1, a2⟩, a3⟩ := A
  obtain ⟨⟨b1, b2⟩, b3⟩ := B
  obtain ⟨j1, j2⟩ := J
  unfold e2 at I1 I2 JC ⊢
  simp only at I1 I2 JC QJ ⊢
  have H8 : Hid (_ = _) := HR8
  clear K hP hS HR8 dl keep IH h2 hh HK hs
  go_enter Tryd.func82, Tryd.ntmps82
  go_wp2_with fail
  refine LC.out.mono ?_
  rintro e w1 ⟨rfl, hs1, hk1⟩
  have S1 : Hid (St y w1) := hs1
  have K1 : Hid (Kp F w w1) := (Kp.of_below BA.out).trans hk1
  have c1 := hk1.cell HBX.out.1 (fun h => by have := HF.out _ h; omega)
  have c2 := hk1.cell HBX.out.2.1 (fun h => by have := HF.out _ h; omega)
  have R1 : Hid (w1.heap[w.heap.size + 1]? = some (.cells #[.string ⟨#[]⟩, .string ⟨#[]⟩] 84 (0, 0))) := (hk1.block _ (by simp) (fun h => by have := HF.out _ h; omega)).trans H8.out
  clear hs1 hk1
  go_wp2_with fail
  refine (HC.out _).mono ?_
  rintro e w2 ⟨rfl, hb2⟩
  have B3 : Hid (Below w2.heap.size w2 ((w2.alloc (.cells #[.int .i64 a, .int .i64 k] 114)).alloc (.cells #[.int .i64 k, .int .i64 b] 114))) := ((Below.refl _ _).alloc (Nat.le_refl _) _).alloc (by simp) _
  have S3 : Hid (St y ((w2.alloc (.cells #[.int .i64 a, .int .i64 k] 114)).alloc (.cells #[.int .i64 k, .int .i64 b] 114))) := KK.out.later (KK.out.later S1.out hb2) B3.out
  have K3 : Hid (Kp F w ((w2.alloc (.cells #[.int .i64 a, .int .i64 k] 114)).alloc (.cells #[.int .i64 k, .int .i64 b] 114))) := (K1.out.trans (Kp.of_below hb2)).trans (Kp.of_below B3.out)
  have hz : w.heap.size ≤ w2.heap.size := Nat.le_trans K1.out.size hb2.size
  have HN : Hid (¬ F w2.heap.size ∧ ¬ F (w2.heap.size + 1) ∧ ¬ F (w.heap.size + 1)) := ⟨fun h => by have := HF.out _ h; omega, fun h => by have := HF.out _ h; omega, fun h => by have := HF.out _ h; omega⟩
  have HBB2 : Hid (_ ∧ _ ∧ _ ∧ _) := two_box w2 (.int .i64 a) (.int .i64 k) (.int .i64 k) (.int .i64 b) 114 114
  have R3 : Hid (((w2.alloc (.cells #[.int .i64 a, .int .i64 k] 114)).alloc (.cells #[.int .i64 k, .int .i64 b] 114)).heap[w.heap.size + 1]? = some (.cells #[.string ⟨#[]⟩, .string ⟨#[]⟩] 84 (0, 0))) := by
    have l1 := (Array.getElem?_eq_some_iff.1 R1.out).1
    have q2 := (hb2.block _ l1).trans R1.out
    exact (B3.out.block _ (Array.getElem?_eq_some_iff.1 q2).1).trans q2
  clear hb2 c1 c2
  go_wp2_with fail
  refine (I1.out _ S3.out).mono ?_
  rintro e w4 ⟨rfl, hs4, hk4, hq4⟩
  have S4 : Hid (St a3 w4 ∧ Q (a1, a2)) := ⟨hs4, hq4⟩
  have K4 : Hid (Kp F w w4) := K3.out.trans hk4
  have c3 := hk4.cell HBB2.out.2.2.1 HN.out.2.1
  have c4 := hk4.cell HBB2.out.2.2.2 HN.out.2.1
  have R4 : Hid (w4.heap[w.heap.size + 1]? = some (.cells #[.string ⟨#[]⟩, .string ⟨#[]⟩] 84 (0, 0))) := (hk4.block _ (Array.getElem?_eq_some_iff.1 R3.out).1 HN.out.2.2).trans R3.out
  have l4 : w2.heap.size + 1 < w4.heap.size := World.block_lt_of_cell? _ _ c3
  clear hs4 hk4 hq4 HBB2
  have BL : Hid (Below w4.heap.size w4 (w4.alloc (.cells #[.string a1, .string a2] 84))) := (Below.refl _ _).alloc (Nat.le_refl _) _
  have SL : Hid (St a3 (w4.alloc (.cells #[.string a1, .string a2] 84)).drew) := KK.out.later (KK.out.later S4.out.1 BL.out) (below_dN (Below.refl _ _) 1)
  have hl0 : (w4.alloc (.cells #[.string a1, .string a2] 84)).cell? ⟨w4.heap.size, 0, none⟩ = some (.string a1) := by rw [World.cell?_alloc_at _ _ _ _ rfl]; rfl
  have hl1 : (w4.alloc (.cells #[.string a1, .string a2] 84)).cell? ⟨w4.heap.size, 1, none⟩ = some (.string a2) := by rw [World.cell?_alloc_at _ _ _ _ rfl]; rfl
  have hp0 := (BL.out.cell (World.block_lt_of_cell? _ _ c3)).trans c3
  have hp1 := (BL.out.cell (World.block_lt_of_cell? _ _ c4)).trans c4
  have RL : Hid ((w4.alloc (.cells #[.string a1, .string a2] 84)).heap[w.heap.size + 1]? = some (.cells #[.string ⟨#[]⟩, .string ⟨#[]⟩] 84 (0, 0))) := (BL.out.block _ (Array.getElem?_eq_some_iff.1 R4.out).1).trans R4.out
  clear c3 c4
  have hnl : Hid (¬ F w4.heap.size) := fun h => by have := HF.out _ h; have := K4.out.size; omega
  go_wp2_with fail
  go_region_with (first
    | (go_at_call 82; refine (I2.out _ SL.out).mono ?_; rintro e w5 ⟨rfl, hs5, hk5, hq5⟩; have S5 : Hid (St b3 w5 ∧ Q (b1, b2) ∧ Kp F w w5) := ⟨hs5, hq5, ((K4.out.trans (Kp.of_below BL.out)).trans (Kp.of_below (below_dN (Below.refl _ _) 1))).trans hk5⟩; have R5 : Hid (w5.heap[w.heap.size + 1]? = some (.cells #[.string ⟨#[]⟩, .string ⟨#[]⟩] 84 (0, 0))) := (hk5.block _ (Array.getElem?_eq_some_iff.1 RL.out).1 HN.out.2.2).trans RL.out; have hm0 : w5.cell? ⟨w4.heap.size, 0, none⟩ = some (.string a1) := hk5.cell hl0 hnl.out; have hm1 : w5.cell? ⟨w4.heap.size, 1, none⟩ = some (.string a2) := hk5.cell hl1 hnl.out; clear hs5 hk5 hq5)
    | (refine (JC.out _ S4.out.2 S5.out.2.1 S5.out.1).mono ?_; rintro e w6 ⟨rfl, hb6⟩; have r6 : w6.heap[w.heap.size + 1]? = some (.cells #[.string ⟨#[]⟩, .string ⟨#[]⟩] 84 (0, 0)) := (hb6.block _ (Array.getElem?_eq_some_iff.1 R5.out).1).trans R5.out; have S6 : Hid (St b3 w6 ∧ Kp F w w6 ∧ w6.heap[w.heap.size + 1]? = some (.cells #[.string ⟨#[]⟩, .string ⟨#[]⟩] 84 (0, 0))) := ⟨KK.out.later S5.out.1 hb6, S5.out.2.2.trans (Kp.of_below hb6), r6⟩; have f0 := frozen_of_row _ _ 0 _ _ r6; have f1 := frozen_of_row _ _ 1 _ _ r6; have d0 : w6.cell? ⟨w.heap.size + 1, 0, none⟩ = some (.string ⟨#[]⟩) := cell_of_row _ _ 0 _ _ _ r6; have d1 : w6.cell? ⟨w.heap.size + 1, 1, none⟩ = some (.string ⟨#[]⟩) := cell_of_row _ _ 1 _ _ _ r6; have K7 : Hid (Kp (fun q => q = w.heap.size + 1) w6 ((w6.setCell ⟨w.heap.size + 1, 0, none⟩ (.string j1)).setCell ⟨w.heap.size + 1, 1, none⟩ (.string j2))) := kp_two w6 _ _ _ rfl; have E01 : Hid (((w6.setCell ⟨w.heap.size + 1, 0, none⟩ (.string j1)).setCell ⟨w.heap.size + 1, 1, none⟩ (.string j2)).cell? ⟨w.heap.size + 1, 0, none⟩ = some (.string j1) ∧ ((w6.setCell ⟨w.heap.size + 1, 0, none⟩ (.string j1)).setCell ⟨w.heap.size + 1, 1, none⟩ (.string j2)).cell? ⟨w.heap.size + 1, 1, none⟩ = some (.string j2)) := ⟨cell_of_row _ _ 0 _ _ _ (set_two r6 _ _), cell_of_row _ _ 1 _ _ _ (set_two r6 _ _)⟩; clear hb6 r6))
  all_goals (
    go_wp2
    generalize (w6.setCell ⟨w.heap.size + 1, 0, none⟩ (.string j1)).setCell ⟨w.heap.size + 1, 1, none⟩ (.string j2) = w7 at K7 E01 ⊢
    (try simp only [Exit.inBlock, Exit.then])
    refine bodyPost_ret (by simp [results, Tryd.results82, go_sem, E01.out.1, E01.out.2]; try rfl) rfl ?_
    exact ⟨rfl, KE.out S6.out.1 K7.out (fun b e => by rw [e]; exact HD.out), kp_new S6.out.2.1 K7.out (by omega), QJ.out S4.out.2 S5.out.2.1⟩)
set_option maxHeartbeats 12800000 in
theorem rightB (K : Wk F St e2 W P Q lg hg jg lv hv jv) {D : Nat → Prop} (dl : ∀ {x w}, St x w → ∀ b, D b → b < w.heap.size) (keep : ∀ {x w w'} {G : Nat → Prop}, St x w → Kp G w w' → (∀ b, G b → ¬ D b) → St x w') (a b : Nat) (x : X) (w : World) (hab : a < b) (hb : b ≤ 4611686018427387904) (hP : P x a b) (hS : St x w) (hs : (W.lk x a b).1 = 3)
    (IH : ∀ (a' b' : Nat), b' - a' < b - a → a' < b' → b' ≤ 4611686018427387904 → ∀ x w, P x a' b' → St x w → Calls Tryd.prog 82 #[.agg #[.int .i64 a', .int .i64 b'], .func (.func lg) #[] lv, .func (.func hg) #[] hv, .func (.func jg) #[] jv] w fun e w' => e = .returned (e2 (go W x a' b').1) ∧ St (go W x a' b').2 w' ∧ Kp F w w' ∧ Q (go W x a' b').1) :
    Calls Tryd.prog 82 #[.agg #[.int .i64 a, .int .i64 b], .func (.func lg) #[] lv, .func (.func hg) #[] hv, .func (.func jg) #[] jv] w fun e w' => e = .returned (e2 (go W x a b).1) ∧ St (go W x a b).2 w' ∧ Kp F w w' ∧ Q (go W x a b).1 := by
  have eg := K.lent
  have ej := K.jent
  have BA : Hid (Below w.heap.size w ((w.alloc (.cells #[.int .i64 a, .int .i64 b] 114)).alloc (.cells #[.string ⟨#[]⟩, .string ⟨#[]⟩] 84))) := ((Below.refl _ _).alloc (Nat.le_refl _) _).alloc (by simp) _
  have LC : Hid (Calls _ _ _ _ _) := K.look x a b _ hab hb hP (K.later hS BA.out)
  have HBX : Hid (_ ∧ _ ∧ _ ∧ _) := two_box w (.int .i64 a) (.int .i64 b) (.string ⟨#[]⟩) (.string ⟨#[]⟩) 114 84
  have HR8 := two_start w (.int .i64 a) (.int .i64 b)
  have HF : Hid (∀ b, F b → b < w.heap.size) := K.fl hS
  have HD : Hid (¬ D (w.heap.size + 1)) := fun h => by have := dl hS _ h; omega
  have KE : Hid (∀ {x w w'} {G : Nat → Prop}, St x w → Kp G w w' → (∀ b, G b → ¬ D b) → St x w') := keep
  have KK : Hid (Wk F St e2 W P Q lg hg jg lv hv jv) := K
  have h2 := K.wide hab hP (by omega)
  have hh := half_lt h2
  have HC : Hid (∀ w, Calls _ _ _ _ _) := fun w => halves a b h2 hb w
  have HGE : Hid (go W x a b = _) := go_right (by omega) h2
  have HPP : Hid (_ ∧ _) := K.right hab hP hs
  rw [hs] at LC
  obtain ⟨y, HY⟩ : ∃ y, Hid ((W.lk x a b).2 = y) := ⟨_, rfl⟩
  rw [HY.out] at LC HGE HPP
  obtain ⟨k, HK⟩ : ∃ k, Hid (a + half (b - a) = k) := ⟨_, rfl⟩
  have hk : a < k ∧ k < b := by rw [← HK.out]; omega
  rw [HK.out] at HC HGE HPP
  unfold pv at HC
  obtain ⟨A, HAA⟩ : ∃ A, Hid (go W y k b = A) := ⟨_, rfl⟩
  rw [HAA.out] at HGE HPP
  obtain ⟨B, HBB⟩ : ∃ B, Hid (go W A.2 a k = B) := ⟨_, rfl⟩
  rw [HBB.out] at HGE
  have I1 : Hid (∀ w', St y w' → Calls _ _ _ _ _) := fun w' h => IH k b (by omega) hk.2 hb y w' HPP.out.1 h
  have I2 : Hid (∀ w', St A.2 w' → Calls _ _ _ _ _) := fun w' h => IH a k (by omega) hk.1 (by omega) A.2 w' HPP.out.2 h
  rw [HAA.out] at I1
  rw [HBB.out] at I2
  have JC : Hid (∀ w, Q A.1 → Q B.1 → St B.2 w → Calls _ _ _ _ _) := fun w q1 q2 q3 => K.join B.1 A.1 B.2 w q2 q1 q3
  have QJ : Hid (Q A.1 → Q B.1 → Q (W.jn B.1 A.1)) := fun q1 q2 => K.qj q2 q1
  rw [HGE.out]
  obtain ⟨J, HJ⟩ : ∃ J, Hid (W.jn B.1 A.1 = J) := ⟨_, rfl⟩
  rw [HJ.out] at JC QJ ⊢
  obtain ⟨⟨a1, a2⟩, a3⟩ := A
  obtain ⟨⟨b1, b2⟩, b3⟩ := B
  obtain ⟨j1, j2⟩ := J
  unfold e2 at I1 I2 JC ⊢
  simp only at I1 I2 JC QJ ⊢
  have H8 : Hid (_ = _) := HR8
  clear K hP hS HR8 dl keep IH h2 hh HK hs
  go_enter Tryd.func82, Tryd.ntmps82
  go_wp2_with fail
  refine LC.out.mono ?_
  rintro e w1 ⟨rfl, hs1, hk1⟩
  have S1 : Hid (St y w1) := hs1
  have K1 : Hid (Kp F w w1) := (Kp.of_below BA.out).trans hk1
  have c1 := hk1.cell HBX.out.1 (fun h => by have := HF.out _ h; omega)
  have c2 := hk1.cell HBX.out.2.1 (fun h => by have := HF.out _ h; omega)
  have R1 : Hid (w1.heap[w.heap.size + 1]? = some (.cells #[.string ⟨#[]⟩, .string ⟨#[]⟩] 84 (0, 0))) := (hk1.block _ (by simp) (fun h => by have := HF.out _ h; omega)).trans H8.out
  clear hs1 hk1
  go_wp2_with fail
  refine (HC.out _).mono ?_
  rintro e w2 ⟨rfl, hb2⟩
  have B3 : Hid (Below w2.heap.size w2 ((w2.alloc (.cells #[.int .i64 a, .int .i64 k] 114)).alloc (.cells #[.int .i64 k, .int .i64 b] 114))) := ((Below.refl _ _).alloc (Nat.le_refl _) _).alloc (by simp) _
  have S3 : Hid (St y ((w2.alloc (.cells #[.int .i64 a, .int .i64 k] 114)).alloc (.cells #[.int .i64 k, .int .i64 b] 114))) := KK.out.later (KK.out.later S1.out hb2) B3.out
  have K3 : Hid (Kp F w ((w2.alloc (.cells #[.int .i64 a, .int .i64 k] 114)).alloc (.cells #[.int .i64 k, .int .i64 b] 114))) := (K1.out.trans (Kp.of_below hb2)).trans (Kp.of_below B3.out)
  have hz : w.heap.size ≤ w2.heap.size := Nat.le_trans K1.out.size hb2.size
  have HN : Hid (¬ F w2.heap.size ∧ ¬ F (w2.heap.size + 1) ∧ ¬ F (w.heap.size + 1)) := ⟨fun h => by have := HF.out _ h; omega, fun h => by have := HF.out _ h; omega, fun h => by have := HF.out _ h; omega⟩
  have HBB2 : Hid (_ ∧ _ ∧ _ ∧ _) := two_box w2 (.int .i64 a) (.int .i64 k) (.int .i64 k) (.int .i64 b) 114 114
  have R3 : Hid (((w2.alloc (.cells #[.int .i64 a, .int .i64 k] 114)).alloc (.cells #[.int .i64 k, .int .i64 b] 114)).heap[w.heap.size + 1]? = some (.cells #[.string ⟨#[]⟩, .string ⟨#[]⟩] 84 (0, 0))) := by
    have l1 := (Array.getElem?_eq_some_iff.1 R1.out).1
    have q2 := (hb2.block _ l1).trans R1.out
    exact (B3.out.block _ (Array.getElem?_eq_some_iff.1 q2).1).trans q2
  have g1 := HBB2.out.2.2.1
  have g2 := HBB2.out.2.2.2
  clear hb2 c1 c2
  go_wp2_with fail
  refine (I1.out _ S3.out).mono ?_
  rintro e w4 ⟨rfl, hs4, hk4, hq4⟩
  have S4 : Hid (St a3 w4 ∧ Q (a1, a2)) := ⟨hs4, hq4⟩
  have K4 : Hid (Kp F w w4) := K3.out.trans hk4
  have c3 := hk4.cell HBB2.out.1 HN.out.1
  have c4 := hk4.cell HBB2.out.2.1 HN.out.1
  have R4 : Hid (w4.heap[w.heap.size + 1]? = some (.cells #[.string ⟨#[]⟩, .string ⟨#[]⟩] 84 (0, 0))) := (hk4.block _ (Array.getElem?_eq_some_iff.1 R3.out).1 HN.out.2.2).trans R3.out
  have l4 : w2.heap.size < w4.heap.size := World.block_lt_of_cell? _ _ c3
  clear hs4 hk4 hq4 HBB2 g1 g2
  have BL : Hid (Below w4.heap.size w4 (w4.alloc (.cells #[.string a1, .string a2] 84))) := (Below.refl _ _).alloc (Nat.le_refl _) _
  have SL : Hid (St a3 (w4.alloc (.cells #[.string a1, .string a2] 84)).drew) := KK.out.later (KK.out.later S4.out.1 BL.out) (below_dN (Below.refl _ _) 1)
  have hl0 : (w4.alloc (.cells #[.string a1, .string a2] 84)).cell? ⟨w4.heap.size, 0, none⟩ = some (.string a1) := by rw [World.cell?_alloc_at _ _ _ _ rfl]; rfl
  have hl1 : (w4.alloc (.cells #[.string a1, .string a2] 84)).cell? ⟨w4.heap.size, 1, none⟩ = some (.string a2) := by rw [World.cell?_alloc_at _ _ _ _ rfl]; rfl
  have hp0 := (BL.out.cell (World.block_lt_of_cell? _ _ c3)).trans c3
  have hp1 := (BL.out.cell (World.block_lt_of_cell? _ _ c4)).trans c4
  have RL : Hid ((w4.alloc (.cells #[.string a1, .string a2] 84)).heap[w.heap.size + 1]? = some (.cells #[.string ⟨#[]⟩, .string ⟨#[]⟩] 84 (0, 0))) := (BL.out.block _ (Array.getElem?_eq_some_iff.1 R4.out).1).trans R4.out
  clear c3 c4
  have hnl : Hid (¬ F w4.heap.size) := fun h => by have := HF.out _ h; have := K4.out.size; omega
  go_wp2_with fail
  go_region_with (first
    | (go_at_call 82; refine (I2.out _ SL.out).mono ?_; rintro e w5 ⟨rfl, hs5, hk5, hq5⟩; have S5 : Hid (St b3 w5 ∧ Q (b1, b2) ∧ Kp F w w5) := ⟨hs5, hq5, ((K4.out.trans (Kp.of_below BL.out)).trans (Kp.of_below (below_dN (Below.refl _ _) 1))).trans hk5⟩; have R5 : Hid (w5.heap[w.heap.size + 1]? = some (.cells #[.string ⟨#[]⟩, .string ⟨#[]⟩] 84 (0, 0))) := (hk5.block _ (Array.getElem?_eq_some_iff.1 RL.out).1 HN.out.2.2).trans RL.out; have hm0 : w5.cell? ⟨w4.heap.size, 0, none⟩ = some (.string a1) := hk5.cell hl0 hnl.out; have hm1 : w5.cell? ⟨w4.heap.size, 1, none⟩ = some (.string a2) := hk5.cell hl1 hnl.out; clear hs5 hk5 hq5)
    | (refine (JC.out _ S4.out.2 S5.out.2.1 S5.out.1).mono ?_; rintro e w6 ⟨rfl, hb6⟩; have r6 : w6.heap[w.heap.size + 1]? = some (.cells #[.string ⟨#[]⟩, .string ⟨#[]⟩] 84 (0, 0)) := (hb6.block _ (Array.getElem?_eq_some_iff.1 R5.out).1).trans R5.out; have S6 : Hid (St b3 w6 ∧ Kp F w w6 ∧ w6.heap[w.heap.size + 1]? = some (.cells #[.string ⟨#[]⟩, .string ⟨#[]⟩] 84 (0, 0))) := ⟨KK.out.later S5.out.1 hb6, S5.out.2.2.trans (Kp.of_below hb6), r6⟩; have f0 := frozen_of_row _ _ 0 _ _ r6; have f1 := frozen_of_row _ _ 1 _ _ r6; have d0 : w6.cell? ⟨w.heap.size + 1, 0, none⟩ = some (.string ⟨#[]⟩) := cell_of_row _ _ 0 _ _ _ r6; have d1 : w6.cell? ⟨w.heap.size + 1, 1, none⟩ = some (.string ⟨#[]⟩) := cell_of_row _ _ 1 _ _ _ r6; have K7 : Hid (Kp (fun q => q = w.heap.size + 1) w6 ((w6.setCell ⟨w.heap.size + 1, 0, none⟩ (.string j1)).setCell ⟨w.heap.size + 1, 1, none⟩ (.string j2))) := kp_two w6 _ _ _ rfl; have E01 : Hid (((w6.setCell ⟨w.heap.size + 1, 0, none⟩ (.string j1)).setCell ⟨w.heap.size + 1, 1, none⟩ (.string j2)).cell? ⟨w.heap.size + 1, 0, none⟩ = some (.string j1) ∧ ((w6.setCell ⟨w.heap.size + 1, 0, none⟩ (.string j1)).setCell ⟨w.heap.size + 1, 1, none⟩ (.string j2)).cell? ⟨w.heap.size + 1, 1, none⟩ = some (.string j2)) := ⟨cell_of_row _ _ 0 _ _ _ (set_two r6 _ _), cell_of_row _ _ 1 _ _ _ (set_two r6 _ _)⟩; clear hb6 r6))
  all_goals (
    go_wp2
    generalize (w6.setCell ⟨w.heap.size + 1, 0, none⟩ (.string j1)).setCell ⟨w.heap.size + 1, 1, none⟩ (.string j2) = w7 at K7 E01 ⊢
    (try simp only [Exit.inBlock, Exit.then])
    refine bodyPost_ret (by simp [results, Tryd.results82, go_sem, E01.out.1, E01.out.2]; try rfl) rfl ?_
    exact ⟨rfl, KE.out S6.out.1 K7.out (fun b e => by rw [e]; exact HD.out), kp_new S6.out.2.1 K7.out (by omega), QJ.out S4.out.2 S5.out.2.1⟩)
theorem walkC (K : Wk F St e2 W P Q lg hg jg lv hv jv) {D : Nat → Prop} (dl : ∀ {x w}, St x w → ∀ b, D b → b < w.heap.size) (keep : ∀ {x w w'} {G : Nat → Prop}, St x w → Kp G w w' → (∀ b, G b → ¬ D b) → St x w') (n : Nat) : ∀ (a b : Nat) (x : X) (w : World), b - a = n → a < b → b ≤ 4611686018427387904 → P x a b → St x w →
    Calls Tryd.prog 82 #[.agg #[.int .i64 a, .int .i64 b], .func (.func lg) #[] lv, .func (.func hg) #[] hv, .func (.func jg) #[] jv] w fun e w' => e = .returned (e2 (go W x a b).1) ∧ St (go W x a b).2 w' ∧ Kp F w w' ∧ Q (go W x a b).1 := by
  induction n using Nat.strongRecOn with
  | ind n ih =>
    intro a b x w hn hab hb hP hS
    have h3 := K.four hab hP
    rcases (show (W.lk x a b).1 < 2 ∨ (W.lk x a b).1 = 2 ∨ (W.lk x a b).1 = 3 by omega) with h | h | h
    · exact stopB K dl keep a b x w hab hb hP hS h
    · exact leftB K dl keep a b x w hab hb hP hS h (fun a' b' q1 q2 q3 x w => ih (b' - a') (by omega) a' b' x w rfl q2 q3)
    · exact rightB K dl keep a b x w hab hb hP hS h (fun a' b' q1 q2 q3 x w => ih (b' - a') (by omega) a' b' x w rfl q2 q3)
end
end Go.Proofs.YthmfljjpanghgaaDoor.wb
