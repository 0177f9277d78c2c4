import Derived.Test.YtgkhnjmbmbebiabDoorG5
import Derived.Deep.DeepCutAuto
import Derived.BigQuiet
import Derived.Test.YtgkhnjmbmbebiabDoorG3
import Derived.Test.YtgkhnjmbmbebiabDoorG4
namespace Go.Proofs.YtgkhnjmbmbebiabDoor.qi
open Go.RowKit Go.PlainAid
open Go.Proofs.YtgkhnjmbmbebiabDoor.pl Go.Proofs.YtgkhnjmbmbebiabDoor.pi Go.Proofs.YtgkhnjmbmbebiabDoor.pj Go.Proofs.YtgkhnjmbmbebiabDoor.rf Go.Proofs.YtgkhnjmbmbebiabDoor.ca Go.Proofs.YtgkhnjmbmbebiabDoor.cb Go.Proofs.YtgkhnjmbmbebiabDoor.cp Go.Proofs.YtgkhnjmbmbebiabDoor.ga Go.Proofs.YtgkhnjmbmbebiabDoor.aa Go.Proofs.YtgkhnjmbmbebiabDoor.ka Go.Proofs.YtgkhnjmbmbebiabDoor.kb Go.Proofs.YtgkhnjmbmbebiabDoor.kp Go.Proofs.YtgkhnjmbmbebiabDoor.mi Go.Proofs.YtgkhnjmbmbebiabDoor.lm Go.Proofs.YtgkhnjmbmbebiabDoor.co Go.Proofs.YtgkhnjmbmbebiabDoor.dc Go.Proofs.YtgkhnjmbmbebiabDoor.de Go.Proofs.YtgkhnjmbmbebiabDoor.df Go.Proofs.YtgkhnjmbmbebiabDoor.qa Go.Proofs.YtgkhnjmbmbebiabDoor.qb Go.Proofs.YtgkhnjmbmbebiabDoor.qc Go.Proofs.YtgkhnjmbmbebiabDoor.qe
set_option linter.unusedVariables false

-- hashes that are taken: the proof's, and the claimed ones
structure Tk (base tb : Nat) (vp vh : Value) (p h : List ByteArray) (u m : Nat) (w : World) : Prop where
  new : base ≤ tb
  box : w.heap[tb]? = some (.cells #[vp, .int .i64 u, vh, .int .i64 m] 55 (0, 0))
  op : Old base w vp p
  oh : Old base w vh h
  tab : Tab4 w
  big : 4 ≤ base ∧ base ≤ w.heap.size
theorem Tk.keep {base tb : Nat} {vp vh : Value} {p h : List ByteArray} {u m : Nat} {w w' : World} (t : Tk base tb vp vh p h u m w) (hb : Below w.heap.size w w') : Tk base tb vp vh p h u m w' :=
  have k : Kp (fun _ => False) w w' := Kp.of_below hb
  ⟨t.new, (hb.block _ (Array.getElem?_eq_some_iff.1 t.box).1).trans t.box, t.op.keep k (fun _ e => e.elim), t.oh.keep k (fun _ e => e.elim), t.tab.down hb, ⟨t.big.1, Nat.le_trans t.big.2 hb.size⟩⟩
theorem old_at {base : Nat} {w : World} {v : Value} {l : List ByteArray} {u : Nat} (h : Old base w v l) (hu : u < l.length) : ∃ g off cap, v = .slice (some ⟨g, off, none⟩) l.length cap ∧ g < base ∧ w.cell? ⟨g, off + u, none⟩ = some (.string (l.getD u ByteArray.empty)) := by
  obtain ⟨a, cap, rfl, hc, h0 | ⟨g, off, rfl, hl, hh⟩⟩ := h
  · omega
  · exact ⟨g, off, cap, rfl, hl, hh u hu⟩
theorem below_tk {base tb : Nat} {w : World} (h1 : base ≤ tb) (h2 : base ≤ w.heap.size) (o : Nat) (v : Value) (m : Nat) : Below base w ((w.setCell ⟨tb, o, none⟩ v).drewN m) := below_dN ((Below.refl _ _).setCell (p := ⟨tb, o, none⟩) h1 v) m
theorem Tk.set1 {base tb : Nat} {vp vh : Value} {p h : List ByteArray} {u m : Nat} {w : World} (t : Tk base tb vp vh p h u m w) (x : Nat) (d : Nat) : Tk base tb vp vh p h x m ((w.setCell ⟨tb, 1, none⟩ (.int .i64 x)).drewN d) := by
  have hb := below_tk t.new t.big.2 1 (.int .i64 (x : Int)) d
  have k : Kp (fun b => base ≤ b) w ((w.setCell ⟨tb, 1, none⟩ (.int .i64 (x : Int))).drewN d) := ⟨hb.os, hb.tape, hb.output, hb.size, fun k hk hn => hb.block k (by omega)⟩
  exact ⟨t.new, heap_setCell_same _ _ 1 _ _ _ t.box, t.op.keep k (fun _ e => e), t.oh.keep k (fun _ e => e), t.tab.below hb t.big.1, ⟨t.big.1, Nat.le_trans t.big.2 hb.size⟩⟩
theorem Tk.set3 {base tb : Nat} {vp vh : Value} {p h : List ByteArray} {u m : Nat} {w : World} (t : Tk base tb vp vh p h u m w) (x : Nat) (d : Nat) : Tk base tb vp vh p h u x ((w.setCell ⟨tb, 3, none⟩ (.int .i64 x)).drewN d) := by
  have hb := below_tk t.new t.big.2 3 (.int .i64 (x : Int)) d
  have k : Kp (fun b => base ≤ b) w ((w.setCell ⟨tb, 3, none⟩ (.int .i64 (x : Int))).drewN d) := ⟨hb.os, hb.tape, hb.output, hb.size, fun k hk hn => hb.block k (by omega)⟩
  exact ⟨t.new, heap_setCell_same _ _ 3 _ _ _ t.box, t.op.keep k (fun _ e => e), t.oh.keep k (fun _ e => e), t.tab.below hb t.big.1, ⟨t.big.1, Nat.le_trans t.big.2 hb.size⟩⟩
theorem nextD (base tb : Nat) (vp vh : Value) (p h : List ByteArray) (u m : Nat) (w : World) (t : Tk base tb vp vh p h u m w) (hu : u < p.length) (hz : p.length ≤ 140737488355328) :
    Calls Tryd.prog 51 #[.pointer (some ⟨tb, 0, none⟩)] w fun e w' => e = .returned (.string (p.getD u ByteArray.empty)) ∧ Tk base tb vp vh p h (u + 1) m w' ∧ Kp (fun b => b = tb) w w' := by
  obtain ⟨g, off, cap, rfl, hg, hc⟩ := old_at t.op hu
  have HS : Hid (∀ d, Tk base tb (.slice (some ⟨g, off, none⟩) p.length cap) vh p h (u + 1) m ((w.setCell ⟨tb, 1, none⟩ (.int .i64 ((u + 1 : Nat) : Int))).drewN d) ∧ Kp (fun b => b = tb) w ((w.setCell ⟨tb, 1, none⟩ (.int .i64 ((u + 1 : Nat) : Int))).drewN d)) := fun d => ⟨t.set1 (u + 1) d, (Kp.setCell (A := fun b => b = tb) w tb 1 _ rfl).trans (Kp.of_below (below_dN (Below.refl _ _) d))⟩
  have c1 : w.cell? ⟨tb, 1, none⟩ = some (.int .i64 u) := cell_of_row _ _ 1 _ _ _ t.box
  have f1 := frozen_of_row _ _ 1 _ _ t.box
  have bx := (HS.out 0).1.box
  have d0 : (w.setCell ⟨tb, 1, none⟩ (.int .i64 ((u + 1 : Nat) : Int))).cell? ⟨tb, 0, none⟩ = some (.slice (some ⟨g, off, none⟩) p.length cap) := cell_of_row _ _ 0 _ _ _ bx
  have d1 : (w.setCell ⟨tb, 1, none⟩ (.int .i64 ((u + 1 : Nat) : Int))).cell? ⟨tb, 1, none⟩ = some (.int .i64 ((u + 1 : Nat) : Int)) := cell_of_row _ _ 1 _ _ _ bx
  have hgt : g ≠ tb := by have := t.new; omega
  have d2 : (w.setCell ⟨tb, 1, none⟩ (.int .i64 ((u + 1 : Nat) : Int))).cell? ⟨g, off + u, none⟩ = some (.string (p.getD u ByteArray.empty)) := (Kp.setCell (A := fun b => b = tb) w tb 1 _ rfl).cell hc hgt
  obtain ⟨x, HX⟩ : ∃ x, Hid (p.getD u ByteArray.empty = x) := ⟨_, rfl⟩
  obtain ⟨l, HL⟩ : ∃ l, Hid (p.length = l) := ⟨_, rfl⟩
  rw [HX.out] at d2 ⊢
  rw [HL.out] at d0 hu hz HS ⊢
  have e1 : ((u + 1 : Nat) : Int) = (u : Int) + 1 := by omega
  have e2 : (u : Int) < l := by omega
  rw [e1] at d0 d1 d2 HS
  obtain ⟨W1, HW1⟩ : ∃ W1, W1 = w.setCell ⟨tb, 1, none⟩ (.int .i64 ((u : Int) + 1)) := ⟨_, rfl⟩
  rw [← HW1] at d0 d1 d2 HS
  clear bx hc hg t
  go_enter Tryd.func51, Tryd.ntmps51
  go_upto_region 2 with fail
  rw [← HW1]
  clear HW1 c1 f1
  go_quiet (fail)
  go_wp2
  go_ret
  exact ⟨rfl, (HS.out _).1, (HS.out _).2⟩
theorem claimD (base tb : Nat) (vp vh : Value) (p h : List ByteArray) (u m : Nat) (w : World) (t : Tk base tb vp vh p h u m w) (hu : m < h.length) (hz : h.length ≤ 140737488355328) :
    Calls Tryd.prog 59 #[.pointer (some ⟨tb, 0, none⟩)] w fun e w' => e = .returned (.string (h.getD m ByteArray.empty)) ∧ Tk base tb vp vh p h u (m + 1) w' ∧ Kp (fun b => b = tb) w w' := by
  obtain ⟨g, off, cap, rfl, hg, hc⟩ := old_at t.oh hu
  have HS : Hid (∀ d, Tk base tb vp (.slice (some ⟨g, off, none⟩) h.length cap) p h u (m + 1) ((w.setCell ⟨tb, 3, none⟩ (.int .i64 ((m + 1 : Nat) : Int))).drewN d) ∧ Kp (fun b => b = tb) w ((w.setCell ⟨tb, 3, none⟩ (.int .i64 ((m + 1 : Nat) : Int))).drewN d)) := fun d => ⟨t.set3 (m + 1) d, (Kp.setCell (A := fun b => b = tb) w tb 3 _ rfl).trans (Kp.of_below (below_dN (Below.refl _ _) d))⟩
  have c1 : w.cell? ⟨tb, 3, none⟩ = some (.int .i64 m) := cell_of_row _ _ 3 _ _ _ t.box
  have f1 := frozen_of_row _ _ 3 _ _ t.box
  have bx := (HS.out 0).1.box
  have d0 : (w.setCell ⟨tb, 3, none⟩ (.int .i64 ((m + 1 : Nat) : Int))).cell? ⟨tb, 2, none⟩ = some (.slice (some ⟨g, off, none⟩) h.length cap) := cell_of_row _ _ 2 _ _ _ bx
  have d1 : (w.setCell ⟨tb, 3, none⟩ (.int .i64 ((m + 1 : Nat) : Int))).cell? ⟨tb, 3, none⟩ = some (.int .i64 ((m + 1 : Nat) : Int)) := cell_of_row _ _ 3 _ _ _ bx
  have hgt : g ≠ tb := by have := t.new; omega
  have d2 : (w.setCell ⟨tb, 3, none⟩ (.int .i64 ((m + 1 : Nat) : Int))).cell? ⟨g, off + m, none⟩ = some (.string (h.getD m ByteArray.empty)) := (Kp.setCell (A := fun b => b = tb) w tb 3 _ rfl).cell hc hgt
  obtain ⟨x, HX⟩ : ∃ x, Hid (h.getD m ByteArray.empty = x) := ⟨_, rfl⟩
  obtain ⟨l, HL⟩ : ∃ l, Hid (h.length = l) := ⟨_, rfl⟩
  rw [HX.out] at d2 ⊢
  rw [HL.out] at d0 hu hz HS ⊢
  have e1 : ((m + 1 : Nat) : Int) = (m : Int) + 1 := by omega
  have e2 : (m : Int) < l := by omega
  rw [e1] at d0 d1 d2 HS
  obtain ⟨W1, HW1⟩ : ∃ W1, W1 = w.setCell ⟨tb, 3, none⟩ (.int .i64 ((m : Int) + 1)) := ⟨_, rfl⟩
  rw [← HW1] at d0 d1 d2 HS
  clear bx hc hg t
  go_enter Tryd.func59, Tryd.ntmps59
  go_upto_region 2 with fail
  rw [← HW1]
  clear HW1 c1 f1
  go_quiet (fail)
  go_wp2
  go_ret
  exact ⟨rfl, (HS.out _).1, (HS.out _).2⟩
end Go.Proofs.YtgkhnjmbmbebiabDoor.qi

namespace Go.Proofs.YtgkhnjmbmbebiabDoor.qj
open Go.RowKit Go.PlainAid
open Go.Proofs.YtgkhnjmbmbebiabDoor.pl Go.Proofs.YtgkhnjmbmbebiabDoor.pi Go.Proofs.YtgkhnjmbmbebiabDoor.pj Go.Proofs.YtgkhnjmbmbebiabDoor.rf Go.Proofs.YtgkhnjmbmbebiabDoor.ca Go.Proofs.YtgkhnjmbmbebiabDoor.cb Go.Proofs.YtgkhnjmbmbebiabDoor.cp Go.Proofs.YtgkhnjmbmbebiabDoor.ga Go.Proofs.YtgkhnjmbmbebiabDoor.aa Go.Proofs.YtgkhnjmbmbebiabDoor.ka Go.Proofs.YtgkhnjmbmbebiabDoor.kb Go.Proofs.YtgkhnjmbmbebiabDoor.kp Go.Proofs.YtgkhnjmbmbebiabDoor.mi Go.Proofs.YtgkhnjmbmbebiabDoor.lm Go.Proofs.YtgkhnjmbmbebiabDoor.co Go.Proofs.YtgkhnjmbmbebiabDoor.dc Go.Proofs.YtgkhnjmbmbebiabDoor.de Go.Proofs.YtgkhnjmbmbebiabDoor.df Go.Proofs.YtgkhnjmbmbebiabDoor.dw Go.Proofs.YtgkhnjmbmbebiabDoor.qa Go.Proofs.YtgkhnjmbmbebiabDoor.qb Go.Proofs.YtgkhnjmbmbebiabDoor.qc Go.Proofs.YtgkhnjmbmbebiabDoor.qe Go.Proofs.YtgkhnjmbmbebiabDoor.qi
set_option linter.unusedVariables false

theorem headD_drop (l : List ByteArray) (u : Nat) : (l.drop u).headD ByteArray.empty = l.getD u ByteArray.empty := by
  rw [List.headD_eq_head?_getD, List.head?_drop, List.getD_eq_getElem?_getD]
theorem WL_congr {lk lk' : Nat → Nat → Nat} (n : Nat) : ∀ a b, b - a = n → (∀ c d, a ≤ c → c < d → d ≤ b → lk c d = lk' c d) → a < b → WL lk a b = WL lk' a b := by
  induction n using Nat.strongRecOn with
  | ind n ih =>
    intro a b hn h hab
    have e := h a b (Nat.le_refl _) hab (Nat.le_refl _)
    by_cases h0 : lk a b = 0
    · rw [WL_pass h0, WL_pass (by rw [← e]; exact h0)]
    by_cases h1 : lk a b = 1
    · rw [WL_take h1, WL_take (by rw [← e]; exact h1)]
    by_cases h2 : 2 ≤ b - a
    · have hh := half_lt h2
      have i1 := ih (half (b - a)) (by omega) a (a + half (b - a)) (by omega) (fun c d q1 q2 q3 => h c d q1 q2 (by omega)) (by omega)
      have i2 := ih (b - a - half (b - a)) (by omega) (a + half (b - a)) b (by omega) (fun c d q1 q2 q3 => h c d (by omega) q2 q3) (by omega)
      by_cases h3 : lk a b = 2
      · rw [WL_left h3 h2, WL_left (by rw [← e]; exact h3) h2, i1, i2]
      · rw [WL_right (by omega) h2, WL_right (by rw [← e]; omega) h2, i1, i2]
    · rw [WL, if_neg h0, if_neg h1, dif_neg h2, WL, if_neg (by rw [← e]; exact h0), if_neg (by rw [← e]; exact h1), dif_neg h2]
theorem fl_congr {lk lk' : Nat → Nat → Nat} {a b : Nat} (h : lk a b = lk' a b) : fl lk a b = fl lk' a b := by unfold fl; rw [h]
-- what is reckoned, without the shape's mind
def gp (wd : Int) (lk : Nat → Nat → Nat) (c p : List ByteArray) (a b : Nat) : ByteArray × List ByteArray × List ByteArray :=
  if lk a b = 0 then (c.headD ByteArray.empty, c.drop 1, p)
  else if lk a b = 1 then (p.headD ByteArray.empty, c, p.drop 1)
  else if h : 2 ≤ b - a then
    if lk a b = 2 then
      (NF wd (gp wd lk c p a (a + half (b - a))).1 (gp wd lk (gp wd lk c p a (a + half (b - a))).2.1 (gp wd lk c p a (a + half (b - a))).2.2 (a + half (b - a)) b).1, (gp wd lk (gp wd lk c p a (a + half (b - a))).2.1 (gp wd lk c p a (a + half (b - a))).2.2 (a + half (b - a)) b).2)
    else
      (NF wd (gp wd lk (gp wd lk c p (a + half (b - a)) b).2.1 (gp wd lk c p (a + half (b - a)) b).2.2 a (a + half (b - a))).1 (gp wd lk c p (a + half (b - a)) b).1, (gp wd lk (gp wd lk c p (a + half (b - a)) b).2.1 (gp wd lk c p (a + half (b - a)) b).2.2 a (a + half (b - a))).2)
  else (c.headD ByteArray.empty, c.drop 1, p)
termination_by b - a
decreasing_by all_goals (have := half_lt h; omega)
theorem gp_claim {wd : Int} {lk : Nat → Nat → Nat} {c p : List ByteArray} {a b : Nat} (h : lk a b = 0) : gp wd lk c p a b = (c.headD ByteArray.empty, c.drop 1, p) := by rw [gp, if_pos h]
theorem gp_proof {wd : Int} {lk : Nat → Nat → Nat} {c p : List ByteArray} {a b : Nat} (h : lk a b = 1) : gp wd lk c p a b = (p.headD ByteArray.empty, c, p.drop 1) := by rw [gp, if_neg (by omega), if_pos h]
theorem gp_left {wd : Int} {lk : Nat → Nat → Nat} {c p : List ByteArray} {a b : Nat} (h : lk a b = 2) (h2 : 2 ≤ b - a) : gp wd lk c p a b = (NF wd (gp wd lk c p a (a + half (b - a))).1 (gp wd lk (gp wd lk c p a (a + half (b - a))).2.1 (gp wd lk c p a (a + half (b - a))).2.2 (a + half (b - a)) b).1, (gp wd lk (gp wd lk c p a (a + half (b - a))).2.1 (gp wd lk c p a (a + half (b - a))).2.2 (a + half (b - a)) b).2) := by rw [gp, if_neg (by omega), if_neg (by omega), dif_pos h2, if_pos h]
theorem gp_right {wd : Int} {lk : Nat → Nat → Nat} {c p : List ByteArray} {a b : Nat} (h : 3 ≤ lk a b) (h2 : 2 ≤ b - a) : gp wd lk c p a b = (NF wd (gp wd lk (gp wd lk c p (a + half (b - a)) b).2.1 (gp wd lk c p (a + half (b - a)) b).2.2 a (a + half (b - a))).1 (gp wd lk c p (a + half (b - a)) b).1, (gp wd lk (gp wd lk c p (a + half (b - a)) b).2.1 (gp wd lk c p (a + half (b - a)) b).2.2 a (a + half (b - a))).2) := by rw [gp, if_neg (by omega), if_neg (by omega), dif_pos h2, if_neg (by omega)]
theorem gp_odd {wd : Int} {lk : Nat → Nat → Nat} {c p : List ByteArray} {a b : Nat} (h : 2 ≤ lk a b) (h2 : ¬ 2 ≤ b - a) : gp wd lk c p a b = (c.headD ByteArray.empty, c.drop 1, p) := by rw [gp, if_neg (by omega), if_neg (by omega), dif_neg h2]
theorem go_gp (wd : Int) (lk : Nat → Nat → Nat) (cur : Nat → Nat) (n : Nat) : ∀ a b x c p, b - a = n → (go (WS wd lk cur) (x, c, p) a b).1 = (gp wd lk c p a b).1 ∧ (go (WS wd lk cur) (x, c, p) a b).2.2 = (gp wd lk c p a b).2 := by
  induction n using Nat.strongRecOn with
  | ind n ih =>
    intro a b x c p hn
    have z : (WS wd lk cur).lk (x, c, p) a b = (lk a b, (if lk a b < 2 then cur b else x), c, p) := rfl
    generalize hy : (if lk a b < 2 then cur b else x) = y at z
    by_cases h0 : lk a b = 0
    · rw [go_stop (by rw [z]; show lk a b < 2; omega), z, gp_claim h0]
      show ((WS wd lk cur).hv (y, c, p) a b (lk a b)).1 = _ ∧ _
      rw [h0]
      exact ⟨rfl, rfl⟩
    by_cases h1 : lk a b = 1
    · rw [go_stop (by rw [z]; show lk a b < 2; omega), z, gp_proof h1]
      show ((WS wd lk cur).hv (y, c, p) a b (lk a b)).1 = _ ∧ _
      rw [h1]
      exact ⟨rfl, rfl⟩
    by_cases h2 : 2 ≤ b - a
    · have hh := half_lt h2
      by_cases h3 : lk a b = 2
      · obtain ⟨l1, l2⟩ := ih (half (b - a)) (by omega) a (a + half (b - a)) y c p (by omega)
        obtain ⟨r1, r2⟩ := ih (b - a - half (b - a)) (by omega) (a + half (b - a)) b (go (WS wd lk cur) (y, c, p) a (a + half (b - a))).2.1 (go (WS wd lk cur) (y, c, p) a (a + half (b - a))).2.2.1 (go (WS wd lk cur) (y, c, p) a (a + half (b - a))).2.2.2 (by omega)
        rw [go_left (by rw [z]; exact h3) h2, gp_left h3 h2, z]
        rw [← l2]
        exact ⟨(congrArg (fun q => NF wd q _) l1).trans (congrArg (NF wd _) r1), r2⟩
      · obtain ⟨l1, l2⟩ := ih (b - a - half (b - a)) (by omega) (a + half (b - a)) b y c p (by omega)
        obtain ⟨r1, r2⟩ := ih (half (b - a)) (by omega) a (a + half (b - a)) (go (WS wd lk cur) (y, c, p) (a + half (b - a)) b).2.1 (go (WS wd lk cur) (y, c, p) (a + half (b - a)) b).2.2.1 (go (WS wd lk cur) (y, c, p) (a + half (b - a)) b).2.2.2 (by omega)
        rw [go_right (by rw [z]; show 3 ≤ lk a b; omega) h2, gp_right (by omega) h2, z]
        rw [← l2]
        exact ⟨(congrArg (fun q => NF wd q _) r1).trans (congrArg (NF wd _) l1), r2⟩
    · rw [go, if_neg (by rw [z]; show ¬ lk a b < 2; omega), dif_neg h2, z, gp_odd (by omega) h2]
      exact ⟨rfl, rfl⟩
theorem gp_state (wd : Int) {lk : Nat → Nat → Nat} (hw : ∀ {a b}, a < b → 2 ≤ lk a b → 2 ≤ b - a) (hf : ∀ a b, lk a b ≤ 3) {a b : Nat} (hab : a < b) (c p : List ByteArray) : (gp wd lk c p a b).2 = (c.drop (WL (fl lk) a b).length, p.drop (WL lk a b).length) := by
  rw [← (go_gp wd lk (fun _ => 0) (b - a) a b 0 c p rfl).2, go_state wd hw hf (cur := fun _ => 0) (fun _ _ => rfl) (b - a) a b c p rfl hab]
theorem gp_congr (wd : Int) {lk lk' : Nat → Nat → Nat} (n : Nat) : ∀ a b c p, b - a = n → (∀ c d, a ≤ c → c < d → d ≤ b → lk c d = lk' c d) → a < b → gp wd lk c p a b = gp wd lk' c p a b := by
  induction n using Nat.strongRecOn with
  | ind n ih =>
    intro a b c p hn h hab
    have e := h a b (Nat.le_refl _) hab (Nat.le_refl _)
    by_cases h0 : lk a b = 0
    · rw [gp_claim h0, gp_claim (by rw [← e]; exact h0)]
    by_cases h1 : lk a b = 1
    · rw [gp_proof h1, gp_proof (by rw [← e]; exact h1)]
    by_cases h2 : 2 ≤ b - a
    · have hh := half_lt h2
      have i1 := fun c p => ih (half (b - a)) (by omega) a (a + half (b - a)) c p (by omega) (fun c d q1 q2 q3 => h c d q1 q2 (by omega)) (by omega)
      have i2 := fun c p => ih (b - a - half (b - a)) (by omega) (a + half (b - a)) b c p (by omega) (fun c d q1 q2 q3 => h c d (by omega) q2 q3) (by omega)
      by_cases h3 : lk a b = 2
      · rw [gp_left h3 h2, gp_left (by rw [← e]; exact h3) h2, i1, i2]
      · rw [gp_right (by omega) h2, gp_right (by rw [← e]; omega) h2, i2, i1]
    · rw [gp_odd (by omega) h2, gp_odd (by rw [← e]; omega) h2]
theorem lkM_congr {ps qs : List Nat} {c d : Nat} (h : ∀ p, c ≤ p → p < d → (p ∈ ps ↔ p ∈ qs)) : lkM ps c d = lkM qs c d := by
  unfold lkM
  have e : (∃ p ∈ ps, c ≤ p ∧ p < d) ↔ (∃ p ∈ qs, c ≤ p ∧ p < d) := ⟨fun ⟨p, h1, h2, h3⟩ => ⟨p, (h p h2 h3).1 h1, h2, h3⟩, fun ⟨p, h1, h2, h3⟩ => ⟨p, (h p h2 h3).2 h1, h2, h3⟩⟩
  by_cases g : ∃ p ∈ ps, c ≤ p ∧ p < d
  · rw [if_pos g, if_pos (e.1 g)]
  · rw [if_neg g, if_neg (fun x => g (e.2 x))]
theorem mem_in {xs : List Int} (h0 : ∀ p ∈ xs, (0 : Int) ≤ p) {a b p : Nat} (h1 : a ≤ p) (h2 : p < b) : p ∈ natL xs ↔ p ∈ natL (inX xs a b) := by
  unfold natL inX
  rw [List.mem_map, List.mem_map]
  constructor
  · rintro ⟨x, hx, rfl⟩
    have := h0 x hx
    exact ⟨x, List.mem_filter.2 ⟨hx, by rw [Bool.and_eq_true, decide_eq_true_eq, decide_eq_true_eq]; omega⟩, rfl⟩
  · rintro ⟨x, hx, rfl⟩
    exact ⟨x, (List.mem_filter.1 hx).1, rfl⟩
theorem wideM {ps : List Nat} {a b : Nat} (hab : a < b) (h : 2 ≤ lkM ps a b) : 2 ≤ b - a := by
  unfold lkM at h
  split at h
  · split at h <;> omega
  · omega
theorem fourM (ps : List Nat) (a b : Nat) : lkM ps a b ≤ 3 := by
  unfold lkM
  split
  · split <;> omega
  · omega
end Go.Proofs.YtgkhnjmbmbebiabDoor.qj

namespace Go.Proofs.YtgkhnjmbmbebiabDoor.qk
open Go.RowKit Go.PlainAid
open Go.Proofs.YtgkhnjmbmbebiabDoor.pl Go.Proofs.YtgkhnjmbmbebiabDoor.pi Go.Proofs.YtgkhnjmbmbebiabDoor.pj Go.Proofs.YtgkhnjmbmbebiabDoor.rf Go.Proofs.YtgkhnjmbmbebiabDoor.ca Go.Proofs.YtgkhnjmbmbebiabDoor.cb Go.Proofs.YtgkhnjmbmbebiabDoor.cp Go.Proofs.YtgkhnjmbmbebiabDoor.ga Go.Proofs.YtgkhnjmbmbebiabDoor.aa Go.Proofs.YtgkhnjmbmbebiabDoor.ka Go.Proofs.YtgkhnjmbmbebiabDoor.kb Go.Proofs.YtgkhnjmbmbebiabDoor.kp Go.Proofs.YtgkhnjmbmbebiabDoor.mi Go.Proofs.YtgkhnjmbmbebiabDoor.lm Go.Proofs.YtgkhnjmbmbebiabDoor.co Go.Proofs.YtgkhnjmbmbebiabDoor.dc Go.Proofs.YtgkhnjmbmbebiabDoor.de Go.Proofs.YtgkhnjmbmbebiabDoor.df Go.Proofs.YtgkhnjmbmbebiabDoor.dw Go.Proofs.YtgkhnjmbmbebiabDoor.qa Go.Proofs.YtgkhnjmbmbebiabDoor.qb Go.Proofs.YtgkhnjmbmbebiabDoor.qc Go.Proofs.YtgkhnjmbmbebiabDoor.qe Go.Proofs.YtgkhnjmbmbebiabDoor.qi Go.Proofs.YtgkhnjmbmbebiabDoor.qj
set_option linter.unusedVariables false

-- a list of numbers beside a block
def Bes (tb : Nat) (w : World) (v : Value) (xs : List Int) : Prop := ReadsI w v xs ∧ ∀ g off n c, v = .slice (some ⟨g, off, none⟩) n c → g ≠ tb
theorem Bes.keep {tb : Nat} {w w' : World} {v : Value} {xs : List Int} (h : Bes tb w v xs) (k : Kp (fun b => b = tb) w w') : Bes tb w' v xs := by
  obtain ⟨⟨a, cap, rfl, hc, hh⟩, hn⟩ := h
  refine ⟨⟨a, cap, rfl, hc, ?_⟩, hn⟩
  rcases hh with h0 | ⟨b, off, rfl, hh⟩
  · exact .inl h0
  · exact .inr ⟨b, off, rfl, fun i hi => k.cell (hh i hi) (hn b off _ _ rfl)⟩
def Gave (wd : Int) (base tb : Nat) (vp vh : Value) (p h : List ByteArray) (u m : Nat) (lk : Nat → Nat → Nat) (a b : Nat) (w : World) (e : Ending) (w' : World) : Prop :=
  e = .returned (.string (gp wd lk (h.drop m) (p.drop u) a b).1) ∧ (gp wd lk (h.drop m) (p.drop u) a b).1.size = wid wd ∧ Tk base tb vp vh p h (u + (WL lk a b).length) (m + (WL (fl lk) a b).length) w' ∧ Kp (fun b => b = tb) w w'
theorem size_at {wd : Int} {l : List ByteArray} (h : Wide wd l) {u : Nat} (hu : u < l.length) : (l.getD u ByteArray.empty).size = wid wd := by
  rw [List.getD_eq_getElem?_getD, List.getElem?_eq_getElem hu]
  exact h _ (List.getElem_mem hu)
-- a range's walk: what it does at a part
def lkS (lo hi a b : Nat) : Nat := if b ≤ lo ∨ hi ≤ a then 1 else if b - a = 1 then 0 else 2
theorem wideS {lo hi a b : Nat} (hab : a < b) (h : 2 ≤ lkS lo hi a b) : 2 ≤ b - a := by
  unfold lkS at h
  split at h
  · omega
  · split at h <;> omega
theorem fourS (lo hi a b : Nat) : lkS lo hi a b ≤ 3 := by
  unfold lkS
  split
  · omega
  · split <;> omega
-- what a step makes of the state
theorem gave_proof {wd : Int} {base tb : Nat} {vp vh : Value} {p h : List ByteArray} {u m : Nat} {lk : Nat → Nat → Nat} {a b : Nat} {w w' : World} {e : Ending} (hk : lk a b = 1) (hW : Wide wd p) (hu : u < p.length) (q : e = .returned (.string (p.getD u ByteArray.empty)) ∧ Tk base tb vp vh p h (u + 1) m w' ∧ Kp (fun b => b = tb) w w') : Gave wd base tb vp vh p h u m lk a b w e w' := by
  unfold Gave
  rw [gp_proof hk, WL_take hk, WL_pass (lk := fl lk) (by unfold fl; rw [if_neg (by omega), if_pos hk])]
  simp only
  rw [headD_drop]
  exact ⟨q.1, size_at hW hu, q.2.1, q.2.2⟩
theorem gave_claim {wd : Int} {base tb : Nat} {vp vh : Value} {p h : List ByteArray} {u m : Nat} {lk : Nat → Nat → Nat} {a b : Nat} {w w' : World} {e : Ending} (hk : lk a b = 0) (hW : Wide wd h) (hm : m < h.length) (q : e = .returned (.string (h.getD m ByteArray.empty)) ∧ Tk base tb vp vh p h u (m + 1) w' ∧ Kp (fun b => b = tb) w w') : Gave wd base tb vp vh p h u m lk a b w e w' := by
  unfold Gave
  rw [gp_claim hk, WL_pass hk, WL_take (lk := fl lk) (by unfold fl; rw [if_pos hk])]
  simp only
  rw [headD_drop]
  exact ⟨q.1, size_at hW hm, q.2.1, q.2.2⟩
set_option maxHeartbeats 3200000 in
theorem rRng (wd : Int) (lo hi : Nat) (hlo : lo ≤ 4611686018427387904) (hhi : hi ≤ 4611686018427387904) (base tb : Nat) (vp vh : Value) (p h : List ByteArray) (hp : Wide wd p) (hh : Wide wd h) (zp : p.length ≤ 140737488355328) (zh : h.length ≤ 140737488355328) (n : Nat) : ∀ (a b u m : Nat) (w : World), b - a = n → a < b → b ≤ 4611686018427387904 → Tk base tb vp vh p h u m w → u + (WL (lkS lo hi) a b).length ≤ p.length → m + (WL (fl (lkS lo hi)) a b).length ≤ h.length →
    Calls Tryd.prog 30 #[.int .i64 (wid wd : Nat), .int .i64 a, .int .i64 b, .int .i64 lo, .int .i64 hi, .pointer (some ⟨tb, 0, none⟩)] w (Gave wd base tb vp vh p h u m (lkS lo hi) a b w) := by
  induction n using Nat.strongRecOn with
  | ind n ih =>
    intro a b u m w hn hab hb t hu hm
    have h32 := qb.wid_le wd
    by_cases h1 : b ≤ lo ∨ hi ≤ a
    · have hk : lkS lo hi a b = 1 := by unfold lkS; rw [if_pos h1]
      have hu1 : u < p.length := by rw [WL_take hk] at hu; exact hu
      have NC : Hid (Calls _ _ _ _ _) := nextD base tb vp vh p h u m w t hu1 zp
      have FIN : Hid (∀ e w', _ → Gave wd base tb vp vh p h u m (lkS lo hi) a b w e w') := fun e w' q => gave_proof hk hp hu1 q
      obtain ⟨x, HX⟩ : ∃ x, Hid (wid wd = x) := ⟨_, rfl⟩
      obtain ⟨y, HY⟩ : ∃ y, Hid (p.getD u ByteArray.empty = y) := ⟨_, rfl⟩
      rw [HX.out]
      rw [HY.out] at NC FIN
      clear ih t hu hm hk hu1 hn
      rcases h1 with h1 | h1
      · go_enter Tryd.func30, Tryd.ntmps30
        go_wp2_with fail
        refine NC.out.mono ?_
        rintro e w1 ⟨rfl, q2, q3⟩
        have Q : Hid (_ ∧ _) := ⟨q2, q3⟩
        clear q2 q3
        go_wp2
        go_ret
        exact FIN.out _ _ ⟨rfl, Q.out.1, Q.out.2⟩
      · by_cases h0 : b ≤ lo
        · go_enter Tryd.func30, Tryd.ntmps30
          go_wp2_with fail
          refine NC.out.mono ?_
          rintro e w1 ⟨rfl, q2, q3⟩
          have Q : Hid (_ ∧ _) := ⟨q2, q3⟩
          clear q2 q3
          go_wp2
          go_ret
          exact FIN.out _ _ ⟨rfl, Q.out.1, Q.out.2⟩
        · go_enter Tryd.func30, Tryd.ntmps30
          go_wp2_with fail
          refine NC.out.mono ?_
          rintro e w1 ⟨rfl, q2, q3⟩
          have Q : Hid (_ ∧ _) := ⟨q2, q3⟩
          clear q2 q3
          go_wp2
          go_ret
          exact FIN.out _ _ ⟨rfl, Q.out.1, Q.out.2⟩
    have hx1 : ¬ b ≤ lo := fun q => h1 (.inl q)
    have hx2 : ¬ hi ≤ a := fun q => h1 (.inr q)
    have hw2 : IntKind.i64.wrap ((b : Int) - a) = (b : Int) - a := by rw [IntKind.wrap_i64]; omega
    by_cases h2 : b - a = 1
    · have hk : lkS lo hi a b = 0 := by unfold lkS; rw [if_neg h1, if_pos h2]
      have hm1 : m < h.length := by rw [WL_take (lk := fl (lkS lo hi)) (by unfold fl; rw [if_pos hk])] at hm; exact hm
      have NC : Hid (Calls _ _ _ _ _) := claimD base tb vp vh p h u m w t hm1 zh
      have FIN : Hid (∀ e w', _ → Gave wd base tb vp vh p h u m (lkS lo hi) a b w e w') := fun e w' q => gave_claim hk hh hm1 q
      have q1 : ((b : Int) - a == 1) = true := by rw [beq_iff_eq]; omega
      obtain ⟨x, HX⟩ : ∃ x, Hid (wid wd = x) := ⟨_, rfl⟩
      obtain ⟨y, HY⟩ : ∃ y, Hid (h.getD m ByteArray.empty = y) := ⟨_, rfl⟩
      rw [HX.out]
      rw [HY.out] at NC FIN
      clear ih t hu hm hk hm1 hn h1 h2
      go_enter Tryd.func30, Tryd.ntmps30
      go_wp2_with fail
      refine NC.out.mono ?_
      rintro e w1 ⟨rfl, q2, q3⟩
      have Q : Hid (_ ∧ _) := ⟨q2, q3⟩
      clear q2 q3
      go_wp2
      go_ret
      exact FIN.out _ _ ⟨rfl, Q.out.1, Q.out.2⟩
    have hk : lkS lo hi a b = 2 := by unfold lkS; rw [if_neg h1, if_neg h2]
    have h2n : 2 ≤ b - a := by omega
    have hh2 := half_lt h2n
    rw [WL_left hk h2n, List.length_append] at hu
    rw [WL_left (lk := fl (lkS lo hi)) (by rw [fl_two (by omega)]; exact hk) h2n, List.length_append] at hm
    have st := gp_state wd (lk := lkS lo hi) wideS (fourS lo hi) (a := a) (b := a + half (b - a)) (by omega) (h.drop m) (p.drop u)
    rw [List.drop_drop, List.drop_drop] at st
    have SP : Hid (∀ w, Calls _ _ _ _ _) := fun w => rSplit (b - a) h2n (by omega) w
    have I1 : Hid (Calls _ _ _ _ _) := ih (half (b - a)) (by omega) a (a + half (b - a)) u m w (by omega) (by omega) (by omega) t (by omega) (by omega)
    have I2 : Hid (∀ w', Tk base tb vp vh p h (u + (WL (lkS lo hi) a (a + half (b - a))).length) (m + (WL (fl (lkS lo hi)) a (a + half (b - a))).length) w' → Calls _ _ _ _ _) := fun w' t' => ih (b - a - half (b - a)) (by omega) (a + half (b - a)) b _ _ w' (by omega) (by omega) hb t' (by omega) (by omega)
    have FIN : Hid (∀ (w1 w2 : World), (gp wd (lkS lo hi) (h.drop m) (p.drop u) a (a + half (b - a))).1.size = wid wd → (gp wd (lkS lo hi) (h.drop (m + (WL (fl (lkS lo hi)) a (a + half (b - a))).length)) (p.drop (u + (WL (lkS lo hi) a (a + half (b - a))).length)) (a + half (b - a)) b).1.size = wid wd → Tk base tb vp vh p h (u + (WL (lkS lo hi) a (a + half (b - a))).length + (WL (lkS lo hi) (a + half (b - a)) b).length) (m + (WL (fl (lkS lo hi)) a (a + half (b - a))).length + (WL (fl (lkS lo hi)) (a + half (b - a)) b).length) w1 → Kp (fun b => b = tb) w w1 → Below w1.heap.size w1 w2 → Gave wd base tb vp vh p h u m (lkS lo hi) a b w (.returned (.string (NF wd (gp wd (lkS lo hi) (h.drop m) (p.drop u) a (a + half (b - a))).1 (gp wd (lkS lo hi) (h.drop (m + (WL (fl (lkS lo hi)) a (a + half (b - a))).length)) (p.drop (u + (WL (lkS lo hi) a (a + half (b - a))).length)) (a + half (b - a)) b).1))) w2) := by
      intro w1 w2 s1 s2 t1 k1 b2
      unfold Gave
      rw [gp_left hk h2n, WL_left hk h2n, WL_left (lk := fl (lkS lo hi)) (by rw [fl_two (by omega)]; exact hk) h2n, List.length_append, List.length_append, st, ← Nat.add_assoc, ← Nat.add_assoc]
      exact ⟨rfl, NF_size _ _ _, t1.keep b2, k1.trans (Kp.of_below b2)⟩
    unfold Gave at I1 I2
    obtain ⟨k, HK⟩ : ∃ k, Hid (half (b - a) = k) := ⟨_, rfl⟩
    rw [HK.out] at SP I1 I2 FIN hh2
    obtain ⟨x, HX⟩ : ∃ x, Hid ((gp wd (lkS lo hi) (h.drop m) (p.drop u) a (a + k)).1 = x) := ⟨_, rfl⟩
    obtain ⟨y, HY⟩ : ∃ y, Hid ((gp wd (lkS lo hi) (h.drop (m + (WL (fl (lkS lo hi)) a (a + k)).length)) (p.drop (u + (WL (lkS lo hi) a (a + k)).length)) (a + k) b).1 = y) := ⟨_, rfl⟩
    rw [HX.out] at I1 FIN
    rw [HY.out] at I2 FIN
    have NC : Hid (∀ w', x.size = wid wd → y.size = wid wd → Tab4 w' → Calls _ _ _ _ _) := fun w' q1 q2 t' => rNode ((wid wd : Nat) : Int) x y (by omega) w' t'
    rw [NF_wid] at NC
    obtain ⟨r, HRR⟩ : ∃ r, Hid (NF wd x y = r) := ⟨_, rfl⟩
    rw [HRR.out] at NC FIN
    obtain ⟨mm, HMM⟩ : ∃ q, Hid (wid wd = q) := ⟨_, rfl⟩
    rw [HMM.out] at I1 I2 FIN NC ⊢
    have q1 : ((b : Int) - a == 1) = false := by rw [beq_eq_false_iff_ne]; omega
    have z1 : ((b - a : Nat) : Int) = (b : Int) - a := by omega
    have z2 : ((a + k : Nat) : Int) = (a : Int) + k := by omega
    rw [z1] at SP
    rw [z2] at I1 I2
    have hw1 : IntKind.i64.wrap ((a : Int) + k) = (a : Int) + k := by rw [IntKind.wrap_i64]; omega
    clear ih t hu hm hk h1 h2 h2n hh2 hn st h32
    go_enter Tryd.func30, Tryd.ntmps30
    go_wp2_with fail
    refine (SP.out _).mono ?_
    rintro e w1 ⟨rfl, hw⟩
    subst hw
    go_wp2_with fail
    refine I1.out.mono ?_
    rintro e w2 ⟨rfl, s2, t2, k2⟩
    have Q2 : Hid (x.size = mm ∧ _ ∧ Kp (fun b => b = tb) w1 w2) := ⟨s2, t2, k2⟩
    have I2' : Hid (Calls _ _ _ _ _) := I2.out w2 t2
    clear s2 t2 k2
    go_wp2_with fail
    refine I2'.out.mono ?_
    rintro e w3 ⟨rfl, s3, t3, k3⟩
    have Q3 : Hid (y.size = mm ∧ _ ∧ Kp (fun b => b = tb) w1 w3) := ⟨s3, t3, Q2.out.2.2.trans k3⟩
    have NC' : Hid (Calls _ _ _ _ _) := NC.out w3 Q2.out.1 s3 t3.tab
    clear s3 t3 k3
    go_wp2_with fail
    refine NC'.out.mono ?_
    rintro e w4 ⟨rfl, hb4⟩
    have B4 : Hid (Below w3.heap.size w3 w4) := hb4
    clear hb4
    go_wp2
    go_ret
    exact FIN.out w3 w4 Q2.out.1 Q3.out.1 Q3.out.2.1 Q3.out.2.2 B4.out
end Go.Proofs.YtgkhnjmbmbebiabDoor.qk

namespace Go.Proofs.YtgkhnjmbmbebiabDoor.ql
open Go.RowKit Go.PlainAid
open Go.Proofs.YtgkhnjmbmbebiabDoor.pl Go.Proofs.YtgkhnjmbmbebiabDoor.pi Go.Proofs.YtgkhnjmbmbebiabDoor.pj Go.Proofs.YtgkhnjmbmbebiabDoor.rf Go.Proofs.YtgkhnjmbmbebiabDoor.ca Go.Proofs.YtgkhnjmbmbebiabDoor.cb Go.Proofs.YtgkhnjmbmbebiabDoor.cp Go.Proofs.YtgkhnjmbmbebiabDoor.ga Go.Proofs.YtgkhnjmbmbebiabDoor.aa Go.Proofs.YtgkhnjmbmbebiabDoor.ka Go.Proofs.YtgkhnjmbmbebiabDoor.kb Go.Proofs.YtgkhnjmbmbebiabDoor.kp Go.Proofs.YtgkhnjmbmbebiabDoor.mi Go.Proofs.YtgkhnjmbmbebiabDoor.lm Go.Proofs.YtgkhnjmbmbebiabDoor.co Go.Proofs.YtgkhnjmbmbebiabDoor.dc Go.Proofs.YtgkhnjmbmbebiabDoor.de Go.Proofs.YtgkhnjmbmbebiabDoor.df Go.Proofs.YtgkhnjmbmbebiabDoor.dw Go.Proofs.YtgkhnjmbmbebiabDoor.qa Go.Proofs.YtgkhnjmbmbebiabDoor.qb Go.Proofs.YtgkhnjmbmbebiabDoor.qc Go.Proofs.YtgkhnjmbmbebiabDoor.qe Go.Proofs.YtgkhnjmbmbebiabDoor.qi Go.Proofs.YtgkhnjmbmbebiabDoor.qj Go.Proofs.YtgkhnjmbmbebiabDoor.qk
set_option linter.unusedVariables false

set_option maxHeartbeats 6400000 in
theorem rGath (wd : Int) (base tb : Nat) (vp vh : Value) (p h : List ByteArray) (hp : Wide wd p) (hh : Wide wd h) (zp : p.length ≤ 140737488355328) (zh : h.length ≤ 140737488355328) (n : Nat) : ∀ (a b u m : Nat) (v : Value) (xs : List Int) (w : World), b - a = n → a < b → b ≤ 4611686018427387904 → Within xs a b → xs.length ≤ 1024 → Bes tb w v xs → Tk base tb vp vh p h u m w → u + (WL (lkM (natL xs)) a b).length ≤ p.length → m + (WL (fl (lkM (natL xs))) a b).length ≤ h.length →
    Calls Tryd.prog 32 #[.int .i64 (wid wd : Nat), .int .i64 a, .int .i64 b, v, .pointer (some ⟨tb, 0, none⟩)] w (Gave wd base tb vp vh p h u m (lkM (natL xs)) a b w) := by
  induction n using Nat.strongRecOn with
  | ind n ih =>
    intro a b u m v xs w hn hab hb hWi hz hB t hu hm
    have h32 := qb.wid_le wd
    have HBS : Hid (Bes tb w v xs) := hB
    obtain ⟨⟨va, cap, rfl, hcap, _⟩, _⟩ := hB
    by_cases h0 : xs = []
    · have hk : lkM (natL xs) a b = 1 := by rw [h0]; exact lkM_nil a b
      have hu1 : u < p.length := by rw [WL_take hk] at hu; exact hu
      have NC : Hid (Calls _ _ _ _ _) := nextD base tb vp vh p h u m w t hu1 zp
      have FIN : Hid (∀ e w', _ → Gave wd base tb vp vh p h u m (lkM (natL xs)) a b w e w') := fun e w' q => gave_proof hk hp hu1 q
      obtain ⟨x, HX⟩ : ∃ x, Hid (wid wd = x) := ⟨_, rfl⟩
      obtain ⟨y, HY⟩ : ∃ y, Hid (p.getD u ByteArray.empty = y) := ⟨_, rfl⟩
      rw [HX.out]
      rw [HY.out] at NC FIN
      have hl : xs.length = 0 := by rw [h0]; rfl
      rw [hl]
      clear ih t hu hm hk hu1 hn HBS hcap hz hl h0
      go_enter Tryd.func32, Tryd.ntmps32
      go_wp2_with fail
      refine NC.out.mono ?_
      rintro e w1 ⟨rfl, q2, q3⟩
      have Q : Hid (_ ∧ _) := ⟨q2, q3⟩
      clear q2 q3
      go_wp2
      go_ret
      exact FIN.out _ _ ⟨rfl, Q.out.1, Q.out.2⟩
    have hlk := lkM_has hWi h0
    have hl0 : xs.length ≠ 0 := fun q => h0 (List.length_eq_zero_iff.1 q)
    have hw2 : IntKind.i64.wrap ((b : Int) - a) = (b : Int) - a := by rw [IntKind.wrap_i64]; omega
    by_cases h2 : b - a = 1
    · have hk : lkM (natL xs) a b = 0 := by rw [hlk, if_pos h2]
      have hm1 : m < h.length := by rw [WL_take (lk := fl (lkM (natL xs))) (by unfold fl; rw [if_pos hk])] at hm; exact hm
      have NC : Hid (Calls _ _ _ _ _) := claimD base tb vp vh p h u m w t hm1 zh
      have FIN : Hid (∀ e w', _ → Gave wd base tb vp vh p h u m (lkM (natL xs)) a b w e w') := fun e w' q => gave_claim hk hh hm1 q
      have q1 : ((b : Int) - a == 1) = true := by rw [beq_iff_eq]; omega
      obtain ⟨x, HX⟩ : ∃ x, Hid (wid wd = x) := ⟨_, rfl⟩
      obtain ⟨y, HY⟩ : ∃ y, Hid (h.getD m ByteArray.empty = y) := ⟨_, rfl⟩
      obtain ⟨l, HL⟩ : ∃ l, Hid (xs.length = l) := ⟨_, rfl⟩
      rw [HX.out]
      rw [HY.out] at NC FIN
      rw [HL.out] at hl0 ⊢
      have q0 : ((l : Int) == 0) = false := by rw [beq_eq_false_iff_ne]; omega
      clear ih t hu hm hk hm1 hn h2 HBS hcap hz h0 hlk
      go_enter Tryd.func32, Tryd.ntmps32
      go_wp2_with fail
      refine NC.out.mono ?_
      rintro e w1 ⟨rfl, q2, q3⟩
      have Q : Hid (_ ∧ _) := ⟨q2, q3⟩
      clear q2 q3
      go_wp2
      go_ret
      exact FIN.out _ _ ⟨rfl, Q.out.1, Q.out.2⟩
    have hk : lkM (natL xs) a b = 2 := by rw [hlk, if_neg h2]
    have h2n : 2 ≤ b - a := by omega
    have hh2 := half_lt h2n
    have H0 : ∀ q ∈ xs, (0 : Int) ≤ q := fun q hq => by have := hWi q hq; omega
    have g1 : ∀ c d, a ≤ c → c < d → d ≤ a + half (b - a) → lkM (natL (inX xs a (a + half (b - a)))) c d = lkM (natL xs) c d := fun c d q1 q2 q3 => lkM_congr fun p r1 r2 => (mem_in H0 (by omega) (by omega)).symm
    have g2 : ∀ c d, a + half (b - a) ≤ c → c < d → d ≤ b → lkM (natL (inX xs (a + half (b - a)) b)) c d = lkM (natL xs) c d := fun c d q1 q2 q3 => lkM_congr fun p r1 r2 => (mem_in H0 (by omega) (by omega)).symm
    have W1e := WL_congr (half (b - a)) a (a + half (b - a)) (by omega) g1 (by omega)
    have W2e := WL_congr (b - a - half (b - a)) (a + half (b - a)) b (by omega) g2 (by omega)
    have V1e := WL_congr (lk := fl (lkM (natL (inX xs a (a + half (b - a)))))) (lk' := fl (lkM (natL xs))) (half (b - a)) a (a + half (b - a)) (by omega) (fun c d q1 q2 q3 => fl_congr (g1 c d q1 q2 q3)) (by omega)
    have V2e := WL_congr (lk := fl (lkM (natL (inX xs (a + half (b - a)) b)))) (lk' := fl (lkM (natL xs))) (b - a - half (b - a)) (a + half (b - a)) b (by omega) (fun c d q1 q2 q3 => fl_congr (g2 c d q1 q2 q3)) (by omega)
    have P1e := fun c p => gp_congr wd (half (b - a)) a (a + half (b - a)) c p (by omega) g1 (by omega)
    have P2e := fun c p => gp_congr wd (b - a - half (b - a)) (a + half (b - a)) b c p (by omega) g2 (by omega)
    rw [WL_left hk h2n, List.length_append] at hu
    rw [WL_left (lk := fl (lkM (natL xs))) (by rw [fl_two (by omega)]; exact hk) h2n, List.length_append] at hm
    have st := gp_state wd (lk := lkM (natL xs)) wideM (fourM _) (a := a) (b := a + half (b - a)) (by omega) (h.drop m) (p.drop u)
    rw [List.drop_drop, List.drop_drop] at st
    have SP : Hid (∀ w, Calls _ _ _ _ _) := fun w => rSplit (b - a) h2n (by omega) w
    have tlt : tb < w.heap.size := (Array.getElem?_eq_some_iff.1 t.box).1
    have N1 : Hid (Calls _ _ _ _ _) := withinO (.slice va xs.length cap) xs a (a + half (b - a)) w HBS.out.1 hz
    have N2 : Hid (∀ w', ReadsI w' (.slice va xs.length cap) xs → Calls _ _ _ _ _) := fun w' q => withinO (.slice va xs.length cap) xs (a + half (b - a)) b w' q hz
    have I1 : Hid (∀ (w' : World) (v' : Value), Bes tb w' v' (inX xs a (a + half (b - a))) → Tk base tb vp vh p h u m w' → Calls Tryd.prog 32 #[.int .i64 (wid wd : Nat), .int .i64 a, .int .i64 (a + half (b - a) : Nat), v', .pointer (some ⟨tb, 0, none⟩)] w' (Gave wd base tb vp vh p h u m (lkM (natL xs)) a (a + half (b - a)) w')) := fun w' v' q1 q2 => by
      have z := ih (half (b - a)) (by omega) a (a + half (b - a)) u m v' _ w' (by omega) (by omega) (by omega) (inX_within _ _ _) (Nat.le_trans (inX_len _ _ _) hz) q1 q2 (by rw [W1e]; omega) (by rw [V1e]; omega)
      unfold Gave at z ⊢
      rw [W1e, V1e, P1e] at z
      exact z
    have I2 : Hid (∀ (w' : World) (v' : Value), Bes tb w' v' (inX xs (a + half (b - a)) b) → Tk base tb vp vh p h (u + (WL (lkM (natL xs)) a (a + half (b - a))).length) (m + (WL (fl (lkM (natL xs))) a (a + half (b - a))).length) w' → Calls Tryd.prog 32 #[.int .i64 (wid wd : Nat), .int .i64 (a + half (b - a) : Nat), .int .i64 b, v', .pointer (some ⟨tb, 0, none⟩)] w' (Gave wd base tb vp vh p h (u + (WL (lkM (natL xs)) a (a + half (b - a))).length) (m + (WL (fl (lkM (natL xs))) a (a + half (b - a))).length) (lkM (natL xs)) (a + half (b - a)) b w')) := fun w' v' q1 q2 => by
      have z := ih (b - a - half (b - a)) (by omega) (a + half (b - a)) b _ _ v' _ w' (by omega) (by omega) hb (inX_within _ _ _) (Nat.le_trans (inX_len _ _ _) hz) q1 q2 (by rw [W2e]; omega) (by rw [V2e]; omega)
      unfold Gave at z ⊢
      rw [W2e, V2e, P2e] at z
      exact z
    have FIN : Hid (∀ (w0 w1 w2 : World), (gp wd (lkM (natL xs)) (h.drop m) (p.drop u) a (a + half (b - a))).1.size = wid wd → (gp wd (lkM (natL xs)) (h.drop (m + (WL (fl (lkM (natL xs))) a (a + half (b - a))).length)) (p.drop (u + (WL (lkM (natL xs)) a (a + half (b - a))).length)) (a + half (b - a)) b).1.size = wid wd → Tk base tb vp vh p h (u + (WL (lkM (natL xs)) a (a + half (b - a))).length + (WL (lkM (natL xs)) (a + half (b - a)) b).length) (m + (WL (fl (lkM (natL xs))) a (a + half (b - a))).length + (WL (fl (lkM (natL xs))) (a + half (b - a)) b).length) w1 → Kp (fun b => b = tb) w w1 → Below w1.heap.size w1 w2 → Gave wd base tb vp vh p h u m (lkM (natL xs)) a b w (.returned (.string (NF wd (gp wd (lkM (natL xs)) (h.drop m) (p.drop u) a (a + half (b - a))).1 (gp wd (lkM (natL xs)) (h.drop (m + (WL (fl (lkM (natL xs))) a (a + half (b - a))).length)) (p.drop (u + (WL (lkM (natL xs)) a (a + half (b - a))).length)) (a + half (b - a)) b).1))) w2) := by
      intro w0 w1 w2 s1 s2 t1 k1 b2
      unfold Gave
      rw [gp_left hk h2n, WL_left hk h2n, WL_left (lk := fl (lkM (natL xs))) (by rw [fl_two (by omega)]; exact hk) h2n, List.length_append, List.length_append, st, ← Nat.add_assoc, ← Nat.add_assoc]
      exact ⟨rfl, NF_size _ _ _, t1.keep b2, k1.trans (Kp.of_below b2)⟩
    unfold Gave at I1 I2
    obtain ⟨k, HK⟩ : ∃ k, Hid (half (b - a) = k) := ⟨_, rfl⟩
    rw [HK.out] at SP I1 I2 FIN hh2 N1 N2
    obtain ⟨x, HX⟩ : ∃ x, Hid ((gp wd (lkM (natL xs)) (h.drop m) (p.drop u) a (a + k)).1 = x) := ⟨_, rfl⟩
    obtain ⟨y, HY⟩ : ∃ y, Hid ((gp wd (lkM (natL xs)) (h.drop (m + (WL (fl (lkM (natL xs))) a (a + k)).length)) (p.drop (u + (WL (lkM (natL xs)) a (a + k)).length)) (a + k) b).1 = y) := ⟨_, rfl⟩
    rw [HX.out] at I1 FIN
    rw [HY.out] at I2 FIN
    have NC : Hid (∀ w', x.size = wid wd → y.size = wid wd → Tab4 w' → Calls _ _ _ _ _) := fun w' q1 q2 t' => rNode ((wid wd : Nat) : Int) x y (by omega) w' t'
    rw [NF_wid] at NC
    obtain ⟨r, HRR⟩ : ∃ r, Hid (NF wd x y = r) := ⟨_, rfl⟩
    rw [HRR.out] at NC FIN
    obtain ⟨mm, HMM⟩ : ∃ q, Hid (wid wd = q) := ⟨_, rfl⟩
    rw [HMM.out] at I1 I2 FIN NC ⊢
    have q1 : ((b : Int) - a == 1) = false := by rw [beq_eq_false_iff_ne]; omega
    have z1 : ((b - a : Nat) : Int) = (b : Int) - a := by omega
    have z2 : ((a + k : Nat) : Int) = (a : Int) + k := by omega
    rw [z1] at SP
    rw [z2] at I1 I2 N1 N2
    have hw1 : IntKind.i64.wrap ((a : Int) + k) = (a : Int) + k := by rw [IntKind.wrap_i64]; omega
    obtain ⟨xs1, HX1⟩ : ∃ z, Hid (inX xs a (a + k) = z) := ⟨_, rfl⟩
    obtain ⟨xs2, HX2⟩ : ∃ z, Hid (inX xs (a + k) b = z) := ⟨_, rfl⟩
    rw [HX1.out] at I1 N1
    rw [HX2.out] at I2 N2
    obtain ⟨l, HL⟩ : ∃ l, Hid (xs.length = l) := ⟨_, rfl⟩
    rw [HL.out] at hl0 HBS N1 N2 ⊢
    have q0 : ((l : Int) == 0) = false := by rw [beq_eq_false_iff_ne]; omega
    have HT0 : Hid (Tk base tb vp vh p h u m w ∧ tb < w.heap.size) := ⟨t, tlt⟩
    clear ih t hu hm hk h2 h2n hh2 hn st h32 W1e W2e V1e V2e P1e P2e g1 g2 H0 hWi hlk h0 hcap hz tlt
    go_enter Tryd.func32, Tryd.ntmps32
    go_wp2_with fail
    refine (SP.out _).mono ?_
    rintro e w1 ⟨rfl, hw⟩
    subst hw
    go_wp2_with fail
    refine N1.out.mono ?_
    rintro e w2 ⟨⟨p1, l1, c1, rfl, hr1, hn1⟩, hb2⟩
    have B2 : Hid (Below w1.heap.size w1 w2) := hb2
    have I1' : Hid (Calls _ _ _ _ _) := I1.out w2 (.slice p1 l1 c1) ⟨hr1, fun g off n c e => by injection e with e1 _ _; have := hn1 g off e1; have := HT0.out.2; omega⟩ (HT0.out.1.keep hb2)
    clear hb2 hr1 hn1
    go_wp2_with fail
    refine I1'.out.mono ?_
    rintro e w3 ⟨rfl, s3, t3, k3⟩
    have Q3 : Hid (x.size = mm ∧ Kp (fun b => b = tb) w1 w3) := ⟨s3, (Kp.of_below B2.out).trans k3⟩
    have T3 : Hid (Tk _ _ _ _ _ _ _ _ w3) := t3
    have N2' : Hid (Calls _ _ _ _ _) := N2.out w3 (HBS.out.keep Q3.out.2).1
    clear s3 t3 k3
    go_wp2_with fail
    refine N2'.out.mono ?_
    rintro e w4 ⟨⟨p2, l2, c2, rfl, hr2, hn2⟩, hb4⟩
    have K4 : Hid (Kp (fun b => b = tb) w1 w4) := Q3.out.2.trans (Kp.of_below hb4)
    have I2' : Hid (Calls _ _ _ _ _) := I2.out w4 (.slice p2 l2 c2) ⟨hr2, fun g off n c e => by injection e with e1 _ _; have := hn2 g off e1; have := HT0.out.2; have := Q3.out.2.size; omega⟩ (T3.out.keep hb4)
    clear hb4 hr2 hn2
    go_wp2_with fail
    refine I2'.out.mono ?_
    rintro e w5 ⟨rfl, s5, t5, k5⟩
    have Q5 : Hid (y.size = mm ∧ _ ∧ Kp (fun b => b = tb) w1 w5) := ⟨s5, t5, K4.out.trans k5⟩
    have NC' : Hid (Calls _ _ _ _ _) := NC.out w5 Q3.out.1 s5 t5.tab
    clear s5 t5 k5
    go_wp2_with fail
    refine NC'.out.mono ?_
    rintro e w6 ⟨rfl, hb6⟩
    have B6 : Hid (Below w5.heap.size w5 w6) := hb6
    clear hb6
    go_wp2
    go_ret
    exact FIN.out w1 w5 w6 Q3.out.1 Q5.out.1 Q5.out.2.1 Q5.out.2.2 B6.out
end Go.Proofs.YtgkhnjmbmbebiabDoor.ql

namespace Go.Proofs.YtgkhnjmbmbebiabDoor.qm
open Go.RowKit Go.PlainAid
open Go.Proofs.YtgkhnjmbmbebiabDoor.pl Go.Proofs.YtgkhnjmbmbebiabDoor.pi Go.Proofs.YtgkhnjmbmbebiabDoor.pj Go.Proofs.YtgkhnjmbmbebiabDoor.rf Go.Proofs.YtgkhnjmbmbebiabDoor.ca Go.Proofs.YtgkhnjmbmbebiabDoor.cb Go.Proofs.YtgkhnjmbmbebiabDoor.cp Go.Proofs.YtgkhnjmbmbebiabDoor.ga Go.Proofs.YtgkhnjmbmbebiabDoor.aa Go.Proofs.YtgkhnjmbmbebiabDoor.ka Go.Proofs.YtgkhnjmbmbebiabDoor.kb Go.Proofs.YtgkhnjmbmbebiabDoor.kp Go.Proofs.YtgkhnjmbmbebiabDoor.lk Go.Proofs.YtgkhnjmbmbebiabDoor.mi Go.Proofs.YtgkhnjmbmbebiabDoor.lm Go.Proofs.YtgkhnjmbmbebiabDoor.co Go.Proofs.YtgkhnjmbmbebiabDoor.cn Go.Proofs.YtgkhnjmbmbebiabDoor.qa Go.Proofs.YtgkhnjmbmbebiabDoor.qb Go.Proofs.YtgkhnjmbmbebiabDoor.qc Go.Proofs.YtgkhnjmbmbebiabDoor.qg Go.Proofs.YtgkhnjmbmbebiabDoor.qj
set_option linter.unusedVariables false

-- what is answered, once the numbers are right
def seen (wd : Int) (lk : Nat → Nat → Nat) (n : Nat) (count : Int) (hs proof : List ByteArray) (root : ByteArray) : Int :=
  if rH wd count proof (root :: hs) = 0 then (if (gp wd lk hs proof 0 n).1 = root then 0 else 90) else rH wd count proof (root :: hs)
theorem okH_cons (wd : Int) (x : ByteArray) (l : List ByteArray) : okH wd (x :: l) = (okH wd [x] && okH wd l) := by
  unfold okH
  simp
theorem seen_is (wd : Int) (lk : Nat → Nat → Nat) (cur : Nat → Nat) (n : Nat) (count : Int) (hs proof : List ByteArray) (root : ByteArray) : lookA wd lk cur n count hs proof root = seen wd lk n count hs proof root := by
  unfold lookA seen rk
  rw [(go_gp wd lk cur n 0 n (cur 0) hs proof rfl).1]
  have e : rH wd count proof (root :: hs) = if okH wd hs = true then rH wd count proof [root] else 72 := by
    unfold rH
    rw [okH_cons wd root hs]
    cases okH wd hs <;> cases okH wd [root] <;> cases okH wd proof <;> rfl
  rw [e]
  by_cases h : okH wd hs = true
  · rw [if_pos h, if_pos h]
  · rw [if_neg h, if_neg h, if_neg (by decide)]
def mulA (wd n : Int) (xs : List Int) (hs proof : List ByteArray) (root : ByteArray) : Int :=
  if (cnt9 4 0 0 n xs).2 = 0 then (if hs.length = xs.length then seen wd (lkM (natL xs)) n.toNat (cnt9 4 0 0 n xs).1 hs proof root else 71) else (cnt9 4 0 0 n xs).2
theorem mul_ok {n : Int} {xs : List Int} (h : (cnt9 4 0 0 n xs).2 = 0) : ∃ N : Nat, n = N ∧ 1 ≤ N ∧ N ≤ 4611686018427387904 ∧ places xs n = 0 ∧ cnt9 4 0 0 n xs = ((((WL (lkM (natL xs)) 0 N).length : Nat) : Int), 0) := by
  by_cases h0 : ref9 4 0 0 n xs = 0
  · have hc : cnt9 4 0 0 n xs = (((num9 4 0 0 n xs : Nat) : Int), 0) := by unfold cnt9; rw [if_pos h0]
    unfold ref9 at h0
    rw [if_neg (by omega)] at h0
    by_cases k2 : n < 0 ∨ 4611686018427387904 < n
    · rw [if_pos k2] at h0; omega
    rw [if_neg k2, if_neg (by omega), if_neg (by omega), if_neg (by omega)] at h0
    obtain ⟨N, rfl⟩ : ∃ A : Nat, n = A := ⟨n.toNat, by omega⟩
    obtain ⟨p1, p2, p3, p4⟩ := places_ok h0
    have := p3 0 (by omega)
    refine ⟨N, rfl, by omega, by omega, h0, ?_⟩
    rw [hc]
    unfold num9
    rw [if_neg (by omega), if_neg (by omega), if_neg (by omega), Int.toNat_natCast]
  · have hc : cnt9 4 0 0 n xs = (0, ref9 4 0 0 n xs) := by unfold cnt9; rw [if_neg h0]
    rw [hc] at h
    exact absurd h h0
set_option maxHeartbeats 3200000 in
theorem MultiC (wd n : Int) (hwd : i64 wd) (v : Value) (xs : List Int) (vh vp : Value) (hs proof : List ByteArray) (root : ByteArray) (w : World) (hv : ReadsI w v xs) (hh : ReadsT w vh hs) (hp : ReadsT w vp proof) (zx : xs.length ≤ 140737488355328) (zh : hs.length ≤ 140737488355328) (zp : proof.length ≤ 140737488355328) (hT : Tab w) :
    Calls Tryd.prog 13 #[.int .i64 wd, .int .i64 n, v, vh, vp, .string root] w fun e w' => e = .returned (.int .i64 (mulA wd n xs hs proof root)) ∧ Below w.heap.size w w' := by
  have CC : Hid (Calls _ _ _ _ _) := countC 4 0 0 n v xs w hv zx
  have OH : Hid (Old w.heap.size w vh hs ∧ Old w.heap.size w vp proof ∧ ReadsI w v xs ∧ Tab w) := ⟨Old.of hh, Old.of hp, hv, hT⟩
  obtain ⟨va, vc, rfl, _⟩ := hv
  obtain ⟨ha, hc, rfl, _⟩ := hh
  obtain ⟨pa, pc, rfl, _⟩ := hp
  unfold mulA
  by_cases h : (cnt9 4 0 0 n xs).2 = 0
  · obtain ⟨N, rfl, n1, n2, n3, n4⟩ := mul_ok h
    rw [if_pos h, Int.toNat_natCast, n4]
    rw [n4] at CC
    simp only at CC ⊢
    have hr := ris_of n3
    obtain ⟨p1, p2, p3, p4⟩ := places_ok n3
    by_cases h2 : hs.length = xs.length
    · rw [if_pos h2]
      have MC : Hid (∀ w, Calls _ _ _ _ _) := fun w => multiC va xs.length vc w
      have LC : Hid (∀ w1, Below w.heap.size w w1 → Calls Tryd.prog 27 #[.int .i64 wd, .int .i64 N, .int .i64 ((WL (lkM (natL xs)) 0 N).length : Nat), .func (.func 60) #[] #[.pointer (some ⟨w1.heap.size, 0, none⟩)], .slice ha hs.length hc, .slice pa proof.length pc, .string root] (w1.alloc (.cells #[.slice va xs.length vc] 32)) fun e w' => e = .returned (.int .i64 (seen wd (lkM (natL xs)) N ((WL (lkM (natL xs)) 0 N).length : Nat) hs proof root)) ∧ Below w.heap.size w w') := by
        intro w1 hb1
        obtain ⟨g, hg, hS⟩ := SM_new hr (OH.out.2.2.1.later hb1) p1
        have b2 : Below w1.heap.size w1 (w1.alloc (.cells #[.slice va xs.length vc] 32)) := (Below.refl _ _).alloc (Nat.le_refl _) _
        have hb2 := over hb1 b2
        have kk : Kp no w (w1.alloc (.cells #[.slice va xs.length vc] 32)) := Kp.of_below hb2
        have hcl := claimsM hr N 0 N rfl (by omega)
        rw [cnt_zero hr, cnt_all hr (fun j hj => (p3 j hj).2)] at hcl
        have z := lookC (ShM w1.heap.size g xs hr (fun j hj => by have := (p3 j hj).2; omega)) wd hwd N w.heap.size _ _ hs proof root n1 n2 _ hS (OH.out.1.keep kk (fun _ e => e.elim)) (OH.out.2.1.keep kk (fun _ e => e.elim)) zh zp (OH.out.2.2.2.down hb2) OH.out.2.2.2.big hb2.size (fun b e => by subst e; exact hb1.size) (by omega)
        rw [seen_is] at z
        exact z.mono fun e w' q => ⟨q.1, hb2.trans q.2⟩
      obtain ⟨r, HRR⟩ : ∃ r, Hid (seen wd (lkM (natL xs)) N ((WL (lkM (natL xs)) 0 N).length : Nat) hs proof root = r) := ⟨_, rfl⟩
      rw [HRR.out] at LC ⊢
      obtain ⟨cn, HCN⟩ : ∃ c, Hid ((WL (lkM (natL xs)) 0 N).length = c) := ⟨_, rfl⟩
      rw [HCN.out] at CC LC
      rw [h2] at LC ⊢
      obtain ⟨l, HL⟩ : ∃ l, Hid (xs.length = l) := ⟨_, rfl⟩
      obtain ⟨lp, HLP⟩ : ∃ l, Hid (proof.length = l) := ⟨_, rfl⟩
      rw [HL.out] at CC LC MC ⊢
      rw [HLP.out] at LC ⊢
      have q : ((l : Int) == l) = true := beq_self_eq_true _
      clear OH h n3 n4 hr p1 p2 p3 p4 h2 zx zh zp hT hwd n1 n2
      go_enter Tryd.func13, Tryd.ntmps13
      go_wp2_with fail
      refine CC.out.mono ?_
      rintro e w1 ⟨rfl, hb1⟩
      have B1 : Hid (Below w.heap.size w w1) := hb1
      clear hb1
      go_wp2_with fail
      refine (MC.out _).mono ?_
      rintro e w2 ⟨rfl, hw⟩
      have LC1 : Hid (Calls _ _ _ _ _) := LC.out w1 B1.out
      rw [← hw] at LC1
      clear hw
      go_wp2_with fail
      refine LC1.out.mono ?_
      rintro e w3 ⟨rfl, hb3⟩
      have B3 : Hid (Below w.heap.size w w3) := hb3
      clear hb3
      go_wp2
      go_ret
      exact ⟨rfl, B3.out⟩
    · rw [if_neg h2]
      have q : ((hs.length : Int) == xs.length) = false := by rw [beq_eq_false_iff_ne]; omega
      have q2 : (hs.length == xs.length) = false := by rw [beq_eq_false_iff_ne]; exact h2
      obtain ⟨l, HL⟩ : ∃ l, Hid (xs.length = l) := ⟨_, rfl⟩
      obtain ⟨lh, HLH⟩ : ∃ l, Hid (hs.length = l) := ⟨_, rfl⟩
      obtain ⟨lp, HLP⟩ : ∃ l, Hid (proof.length = l) := ⟨_, rfl⟩
      obtain ⟨cn, HCN⟩ : ∃ c, Hid ((WL (lkM (natL xs)) 0 N).length = c) := ⟨_, rfl⟩
      rw [HCN.out] at CC
      rw [HL.out] at CC h2 q q2 ⊢
      rw [HLH.out] at h2 q q2 ⊢
      rw [HLP.out]
      clear OH h n3 n4 hr p1 p2 p3 p4 zx zh zp hT hwd
      go_enter Tryd.func13, Tryd.ntmps13
      go_wp2_with fail
      refine CC.out.mono ?_
      rintro e w1 ⟨rfl, hb1⟩
      have B1 : Hid (Below w.heap.size w w1) := hb1
      clear hb1
      go_wp2
      go_ret
      exact ⟨rfl, B1.out⟩
  · rw [if_neg h]
    obtain ⟨c, HC⟩ : ∃ c, Hid (cnt9 4 0 0 n xs = c) := ⟨_, rfl⟩
    obtain ⟨c1, c2⟩ := c
    rw [HC.out] at CC h ⊢
    simp only at CC h ⊢
    have q : (c2 == 0) = false := by rw [beq_eq_false_iff_ne]; exact h
    obtain ⟨l, HL⟩ : ∃ l, Hid (xs.length = l) := ⟨_, rfl⟩
    obtain ⟨lh, HLH⟩ : ∃ l, Hid (hs.length = l) := ⟨_, rfl⟩
    obtain ⟨lp, HLP⟩ : ∃ l, Hid (proof.length = l) := ⟨_, rfl⟩
    rw [HL.out] at CC ⊢
    rw [HLH.out, HLP.out]
    clear OH h zx zh zp hT hwd
    go_enter Tryd.func13, Tryd.ntmps13
    go_wp2_with fail
    refine CC.out.mono ?_
    rintro e w1 ⟨rfl, hb1⟩
    have B1 : Hid (Below w.heap.size w w1) := hb1
    clear hb1
    go_wp2
    go_ret
    exact ⟨rfl, B1.out⟩
end Go.Proofs.YtgkhnjmbmbebiabDoor.qm

namespace Go.Proofs.YtgkhnjmbmbebiabDoor.qn
open Go.RowKit Go.PlainAid
open Go.Proofs.YtgkhnjmbmbebiabDoor.pl Go.Proofs.YtgkhnjmbmbebiabDoor.pi Go.Proofs.YtgkhnjmbmbebiabDoor.pj Go.Proofs.YtgkhnjmbmbebiabDoor.rf Go.Proofs.YtgkhnjmbmbebiabDoor.ca Go.Proofs.YtgkhnjmbmbebiabDoor.cb Go.Proofs.YtgkhnjmbmbebiabDoor.cp Go.Proofs.YtgkhnjmbmbebiabDoor.ga Go.Proofs.YtgkhnjmbmbebiabDoor.aa Go.Proofs.YtgkhnjmbmbebiabDoor.ka Go.Proofs.YtgkhnjmbmbebiabDoor.kb Go.Proofs.YtgkhnjmbmbebiabDoor.kp Go.Proofs.YtgkhnjmbmbebiabDoor.mi Go.Proofs.YtgkhnjmbmbebiabDoor.lm Go.Proofs.YtgkhnjmbmbebiabDoor.co Go.Proofs.YtgkhnjmbmbebiabDoor.cn Go.Proofs.YtgkhnjmbmbebiabDoor.dc Go.Proofs.YtgkhnjmbmbebiabDoor.de Go.Proofs.YtgkhnjmbmbebiabDoor.df Go.Proofs.YtgkhnjmbmbebiabDoor.qa Go.Proofs.YtgkhnjmbmbebiabDoor.qb Go.Proofs.YtgkhnjmbmbebiabDoor.qc Go.Proofs.YtgkhnjmbmbebiabDoor.qe Go.Proofs.YtgkhnjmbmbebiabDoor.qg Go.Proofs.YtgkhnjmbmbebiabDoor.qi Go.Proofs.YtgkhnjmbmbebiabDoor.qj Go.Proofs.YtgkhnjmbmbebiabDoor.qk Go.Proofs.YtgkhnjmbmbebiabDoor.ql Go.Proofs.YtgkhnjmbmbebiabDoor.qm Go.Proofs.YtgkhnjmbmbebiabDoor.ts
set_option linter.unusedVariables false

theorem own_readsT {w : World} {B : Nat} {v : Value} {zs : List ByteArray} (h : w.ownsRow B 9 1 v zs.length (zs.map Value.string)) : ReadsT w v zs := by
  rcases h.2 with ⟨h1, h2⟩ | ⟨g, cap, cur, rfl, _, _, hc, _⟩
  · rw [h1]; exact ⟨none, 0, by rw [h2], by omega, .inl h2⟩
  · refine ⟨_, cap, rfl, by omega, .inr ⟨g, 0, rfl, fun i hi => ?_⟩⟩
    rw [Nat.zero_add, h.cellAt i (by omega), List.getElem?_map, List.getElem?_eq_getElem hi, List.getD_eq_getElem?_getD, List.getElem?_eq_getElem hi]
    rfl
theorem one_row (w : World) (base : Nat) (hb : base ≤ w.heap.size) (root : ByteArray) : (w.alloc (.cells #[.string root] 9)).ownsRow base 9 1 (.slice (some ⟨w.heap.size, 0, none⟩) 1 1) 1 [.string root] :=
  ⟨rfl, .inr ⟨w.heap.size, 1, #[.string root], rfl, hb, heap_alloc_new w _, Nat.le_refl _, by unfold maxLen; omega, rfl, by simp⟩⟩
theorem taken_new {w0 w : World} {vp vh : Value} {p h : List ByteArray} (hp : ReadsT w0 vp p) (hh : ReadsT w0 vh h) (hb : Below w0.heap.size w0 w) (hT : Tab4 w0) : Tk w0.heap.size w.heap.size vp vh p h 0 0 (w.alloc (.cells #[vp, .int .i64 0, vh, .int .i64 0] 55)) := by
  have b2 : Below w.heap.size w (w.alloc (.cells #[vp, .int .i64 0, vh, .int .i64 0] 55)) := (Below.refl _ _).alloc (Nat.le_refl _) _
  have hb2 := over hb b2
  have kk : Kp (fun _ => False) w0 (w.alloc (.cells #[vp, .int .i64 0, vh, .int .i64 0] 55)) := Kp.of_below hb2
  exact ⟨hb.size, heap_alloc_new w _, (Old.of hp).keep kk (fun _ e => e.elim), (Old.of hh).keep kk (fun _ e => e.elim), hT.down hb2, ⟨hT.big, hb2.size⟩⟩
theorem seen_ok {wd : Int} {count : Int} {hs proof : List ByteArray} {root : ByteArray} (h : rH wd count proof (root :: hs) = 0) : (proof.length : Int) = count ∧ Wide wd proof ∧ Wide wd hs := by
  unfold rH at h
  by_cases q : (okH wd (root :: hs) && okH wd proof) = true
  · rw [if_pos q] at h
    rw [Bool.and_eq_true] at q
    by_cases q2 : (proof.length : Int) = count
    · exact ⟨q2, okH_wide q.2, fun x hx => okH_wide q.1 x (List.mem_cons_of_mem _ hx)⟩
    · rw [if_neg q2] at h; omega
  · rw [if_neg q] at h; omega
set_option maxHeartbeats 6400000 in
theorem rMulti (wd n : Int) (v : Value) (xs : List Int) (vh vp : Value) (hs proof : List ByteArray) (root : ByteArray) (w : World) (hv : ReadsI w v xs) (hh : ReadsT w vh hs) (hp : ReadsT w vp proof) (zx : xs.length ≤ 140737488355328) (zh : hs.length * 16 ≤ 140737488351232) (zp : proof.length ≤ 140737488355328) (hT : Tab4 w) :
    Calls Tryd.prog 14 #[.int .i64 wd, .int .i64 n, v, vh, vp, .string root] w fun e w' => e = .returned (.int .i64 (mulA wd n xs hs proof root)) ∧ Below w.heap.size w w' := by
  have CC : Hid (Calls _ _ _ _ _) := rCount 4 0 0 n v xs w hv zx
  unfold Counted at CC
  have HR : Hid (ReadsI w v xs ∧ ReadsT w vh hs ∧ ReadsT w vp proof ∧ Tab4 w) := ⟨hv, hh, hp, hT⟩
  obtain ⟨i9, hi9', hz0, hz1, hz2⟩ := info_parts hiE
  have HIN : Hid (_ ∧ _ ∧ _ ∧ _) := ⟨hi9', hz0, hz1, hz2⟩
  clear hi9' hz0 hz1 hz2
  obtain ⟨va, vc, rfl, _, hvv⟩ := hv
  obtain ⟨ha, hc, rfl, hhc, hhh⟩ := hh
  obtain ⟨pa, pc, rfl, _⟩ := hp
  unfold mulA
  by_cases h : (cnt9 4 0 0 n xs).2 = 0
  · obtain ⟨N, rfl, n1, n2, n3, n4⟩ := mul_ok h
    rw [if_pos h, Int.toNat_natCast, n4]
    rw [n4] at CC
    simp only at CC ⊢
    have hr := ris_of n3
    obtain ⟨p1, p2, p3, p4⟩ := places_ok n3
    by_cases h2 : hs.length = xs.length
    · rw [if_pos h2]
      have WC : Hid (∀ w, Calls _ _ _ _ _) := fun w => widthD wd w
      obtain ⟨b, off, rfl, hcc⟩ := hhh.resolve_left (by omega)
      have NX : Hid (∀ (W : World), Below w.heap.size w W → ∀ (j : Nat) (u : Value), (hs.map Value.string)[j]? = some u → W.cell? (Addr.add ⟨b, off, none⟩ j) = some u) := by
        intro W hW j u hu
        rw [List.getElem?_map] at hu
        obtain ⟨x, hx, rfl⟩ := Option.map_eq_some_iff.1 hu
        have hj := (List.getElem?_eq_some_iff.1 hx).1
        have c1 := hcc j hj
        rw [List.getD_eq_getElem?_getD, hx] at c1
        rw [show (Addr.add ⟨b, off, none⟩ j) = ⟨b, off + j, none⟩ by cases j <;> simp [Addr.add]]
        exact (hW.cell (World.block_lt_of_cell? _ _ c1)).trans c1
      have LK : Hid (∀ w' u, Below w.heap.size w w' → ReadsT w' u (root :: hs) → Calls _ _ _ _ _) := fun w' u hb hu => lookedD wd ((WL (lkM (natL xs)) 0 N).length : Nat) _ u proof (root :: hs) w' (HR.out.2.2.1.later hb) hu zp (by rw [List.length_cons]; omega)
      have RD : Hid (∀ (w' : World) (B : Nat) (u : Value), w'.ownsRow B 9 1 u (1 + hs.length) ([Value.string root] ++ hs.map Value.string) → ReadsT w' u (root :: hs)) := fun w' B u ho => own_readsT (by rw [List.length_cons, Nat.add_comm]; exact ho)
      have hcl := claimsM hr N 0 N rfl (by omega)
      rw [cnt_zero hr, cnt_all hr (fun j hj => (p3 j hj).2)] at hcl
      have GC : Hid (rH wd ((WL (lkM (natL xs)) 0 N).length : Nat) proof (root :: hs) = 0 → ∀ w', Below w.heap.size w w' → Calls Tryd.prog 32 #[.int .i64 (wid wd : Nat), .int .i64 0, .int .i64 N, .slice va xs.length vc, .pointer (some ⟨w'.heap.size, 0, none⟩)] (w'.alloc (.cells #[.slice pa proof.length pc, .int .i64 0, .slice (some ⟨b, off, none⟩) hs.length hc, .int .i64 0] 55)) fun e w'' => e = .returned (.string (gp wd (lkM (natL xs)) hs proof 0 N).1) ∧ Below w.heap.size w w'') := by
        intro ok w' hb
        obtain ⟨o1, o2, o3⟩ := seen_ok ok
        have t := taken_new HR.out.2.2.1 HR.out.2.1 hb HR.out.2.2.2
        have hb2 : Below w.heap.size w (w'.alloc (.cells #[.slice pa proof.length pc, .int .i64 0, .slice (some ⟨b, off, none⟩) hs.length hc, .int .i64 0] 55)) := hb.alloc hb.size _
        have z := rGath wd w.heap.size w'.heap.size _ _ proof hs o2 o3 zp (by omega) N 0 N 0 0 (.slice va xs.length vc) xs _ rfl (by omega) n2 (fun p hp => by
          obtain ⟨j, hj, rfl⟩ := List.getElem_of_mem hp
          have := p3 j hj
          rw [List.getD_eq_getElem?_getD, List.getElem?_eq_getElem hj] at this
          exact this) p2 ⟨HR.out.1.later hb2, fun g o nn c e => by
            injection e with e1 _ _
            rcases hvv with q | ⟨b', off', e2, hq⟩
            · omega
            · rw [e2] at e1
              injection e1 with e1
              injection e1 with e1
              subst e1
              have q1 : b' < w.heap.size := World.block_lt_of_cell? _ _ (hq 0 (by omega))
              have q2 := hb.size
              omega⟩ t (by omega) (by omega)
        refine z.mono fun e w'' q => ?_
        obtain ⟨q1, q2, q3, q4⟩ := q
        rw [List.drop_zero, List.drop_zero] at q1
        exact ⟨q1, hb2.trans (q4.below (fun b e => by subst e; exact hb.size) hb2.size)⟩
      unfold qm.seen
      obtain ⟨cn, HCN⟩ : ∃ c, Hid ((WL (lkM (natL xs)) 0 N).length = c) := ⟨_, rfl⟩
      rw [HCN.out] at CC LK GC ⊢
      obtain ⟨mm, HMM⟩ : ∃ q, Hid (wid wd = q) := ⟨_, rfl⟩
      rw [HMM.out] at WC LK GC
      have hz1 : (1 + hs.length) * 16 ≤ 140737488355328 := by omega
      rw [h2] at RD GC hz1 hhc ⊢
      have hlm : (hs.map Value.string).length = xs.length := by rw [List.length_map]; exact h2
      obtain ⟨l, HL⟩ : ∃ l, Hid (xs.length = l) := ⟨_, rfl⟩
      obtain ⟨lp, HLP⟩ : ∃ l, Hid (proof.length = l) := ⟨_, rfl⟩
      rw [HL.out] at CC RD GC hz1 hhc hlm p2 ⊢
      rw [HLP.out] at LK GC ⊢
      have HLM : Hid ((hs.map Value.string).length = l * 1) := by show _ = _; rw [hlm, Nat.mul_one]
      have q : ((l : Int) == l) = true := beq_self_eq_true _
      clear h n3 n4 hr p1 p3 p4 h2 zx zh zp hT n1 n2 hcl hcc hhh hvv hlm
      by_cases ok : rH wd cn proof (root :: hs) = 0
      · rw [if_pos ok]
        have GC1 : Hid (∀ w', Below w.heap.size w w' → Calls _ _ _ _ _) := GC.out ok
        rw [ok] at LK
        obtain ⟨x, HX⟩ : ∃ x, Hid ((gp wd (lkM (natL xs)) hs proof 0 N).1 = x) := ⟨_, rfl⟩
        rw [HX.out] at GC1 ⊢
        obtain ⟨z, HZ⟩ : ∃ z : Bool, Hid (decide (x = root) = z) := ⟨_, rfl⟩
        have qz : (x.toList == root.toList) = z := by rw [beqL]; exact HZ.out
        have HE : Hid ((if x = root then (0 : Int) else 90) = if z then 0 else 90) := by
          show _ = _
          rw [← HZ.out]
          by_cases g : x = root <;> simp [g]
        rw [HE.out]
        clear HE HZ GC ok
        cases z
        all_goals (
          go_enter Tryd.func14, Tryd.ntmps14
          go_wp2_with fail
          refine CC.out.mono ?_
          rintro e w1 ⟨rfl, hb1⟩
          have B1 : Hid (Below w.heap.size w w1) := hb1
          clear hb1
          go_wp2_with fail
          refine (WC.out _).mono ?_
          rintro e w1' ⟨rfl, hw⟩
          subst hw
          have B2 : Hid (Below w.heap.size w (w1'.alloc (.cells #[.string root] 9))) := B1.out.alloc B1.out.size _
          have O2 : Hid ((w1'.alloc (.cells #[.string root] 9)).ownsRow w.heap.size 9 1 (.slice (some ⟨w1'.heap.size, 0, none⟩) 1 1) 1 [.string root]) := one_row w1' _ B1.out.size root
          go_wp2_with (at_builtin; refine wpList_append_own _ rfl _ _ 22 rfl w.heap.size 9 i9 (.string ByteArray.empty) 1 16 Tryd.underlying22 HIN.out.1 HIN.out.2.1 HIN.out.2.2.1 HIN.out.2.2.2 rfl (by decide) _ 1 _ rfl O2.out ⟨b, off, none⟩ l hc (hs.map Value.string) rfl HLM.out (NX.out _ B2.out) (ones _) (by unfold maxLen; omega) hz1 B2.out.size ?_; intro p' w5 ho hg hnn; obtain ⟨ga, gc, rfl⟩ := own_form ho; have B5 : Hid (Below w.heap.size w w5) := Below.grown B2.out hg B2.out.size (fun jj hj => (O2.out.lt _ hj).1); have LK1 : Hid (Calls _ _ _ _ _) := LK.out w5 _ B5.out (RD.out w5 _ _ ho); clear ho hg hnn)
          refine LK1.out.mono ?_
          rintro e w6 ⟨rfl, hw⟩
          subst hw
          have GC2 : Hid (Calls _ _ _ _ _) := GC1.out w6 B5.out
          go_wp2_with fail
          refine GC2.out.mono ?_
          rintro e w7 ⟨rfl, hb7⟩
          have B7 : Hid (Below w.heap.size w w7) := hb7
          clear hb7
          go_wp2
          go_ret
          exact ⟨by first | rfl | simp, B7.out⟩)
      · rw [if_neg ok]
        have q3 : (rH wd cn proof (root :: hs) == 0) = false := by rw [beq_eq_false_iff_ne]; exact ok
        obtain ⟨r, HRR⟩ : ∃ r, Hid (rH wd cn proof (root :: hs) = r) := ⟨_, rfl⟩
        rw [HRR.out] at LK q3 ⊢
        clear GC ok
        go_enter Tryd.func14, Tryd.ntmps14
        go_wp2_with fail
        refine CC.out.mono ?_
        rintro e w1 ⟨rfl, hb1⟩
        have B1 : Hid (Below w.heap.size w w1) := hb1
        clear hb1
        go_wp2_with fail
        refine (WC.out _).mono ?_
        rintro e w1' ⟨rfl, hw⟩
        subst hw
        have B2 : Hid (Below w.heap.size w (w1'.alloc (.cells #[.string root] 9))) := B1.out.alloc B1.out.size _
        have O2 : Hid ((w1'.alloc (.cells #[.string root] 9)).ownsRow w.heap.size 9 1 (.slice (some ⟨w1'.heap.size, 0, none⟩) 1 1) 1 [.string root]) := one_row w1' _ B1.out.size root
        go_wp2_with (at_builtin; refine wpList_append_own _ rfl _ _ 22 rfl w.heap.size 9 i9 (.string ByteArray.empty) 1 16 Tryd.underlying22 HIN.out.1 HIN.out.2.1 HIN.out.2.2.1 HIN.out.2.2.2 rfl (by decide) _ 1 _ rfl O2.out ⟨b, off, none⟩ l hc (hs.map Value.string) rfl HLM.out (NX.out _ B2.out) (ones _) (by unfold maxLen; omega) hz1 B2.out.size ?_; intro p' w5 ho hg hnn; obtain ⟨ga, gc, rfl⟩ := own_form ho; have B5 : Hid (Below w.heap.size w w5) := Below.grown B2.out hg B2.out.size (fun jj hj => (O2.out.lt _ hj).1); have LK1 : Hid (Calls _ _ _ _ _) := LK.out w5 _ B5.out (RD.out w5 _ _ ho); clear ho hg hnn)
        refine LK1.out.mono ?_
        rintro e w6 ⟨rfl, hw⟩
        subst hw
        go_wp2
        go_ret
        exact ⟨rfl, B5.out⟩
    · rw [if_neg h2]
      have q : ((hs.length : Int) == xs.length) = false := by rw [beq_eq_false_iff_ne]; omega
      have q2 : (hs.length == xs.length) = false := by rw [beq_eq_false_iff_ne]; exact h2
      obtain ⟨l, HL⟩ : ∃ l, Hid (xs.length = l) := ⟨_, rfl⟩
      obtain ⟨lh, HLH⟩ : ∃ l, Hid (hs.length = l) := ⟨_, rfl⟩
      obtain ⟨lp, HLP⟩ : ∃ l, Hid (proof.length = l) := ⟨_, rfl⟩
      obtain ⟨cn, HCN⟩ : ∃ c, Hid ((WL (lkM (natL xs)) 0 N).length = c) := ⟨_, rfl⟩
      rw [HCN.out] at CC
      rw [HL.out] at CC h2 q q2 ⊢
      rw [HLH.out] at h2 q q2 ⊢
      rw [HLP.out]
      clear HR h n3 n4 hr p1 p2 p3 p4 zx zh zp hT hhc hhh hvv
      go_enter Tryd.func14, Tryd.ntmps14
      go_wp2_with fail
      refine CC.out.mono ?_
      rintro e w1 ⟨rfl, hb1⟩
      have B1 : Hid (Below w.heap.size w w1) := hb1
      clear hb1
      go_wp2
      go_ret
      exact ⟨rfl, B1.out⟩
  · rw [if_neg h]
    obtain ⟨c, HC⟩ : ∃ c, Hid (cnt9 4 0 0 n xs = c) := ⟨_, rfl⟩
    obtain ⟨c1, c2⟩ := c
    rw [HC.out] at CC h ⊢
    simp only at CC h ⊢
    have q : (c2 == 0) = false := by rw [beq_eq_false_iff_ne]; exact h
    obtain ⟨l, HL⟩ : ∃ l, Hid (xs.length = l) := ⟨_, rfl⟩
    obtain ⟨lh, HLH⟩ : ∃ l, Hid (hs.length = l) := ⟨_, rfl⟩
    obtain ⟨lp, HLP⟩ : ∃ l, Hid (proof.length = l) := ⟨_, rfl⟩
    rw [HL.out] at CC ⊢
    rw [HLH.out, HLP.out]
    clear HR h zx zh zp hT hhc hhh hvv
    go_enter Tryd.func14, Tryd.ntmps14
    go_wp2_with fail
    refine CC.out.mono ?_
    rintro e w1 ⟨rfl, hb1⟩
    have B1 : Hid (Below w.heap.size w w1) := hb1
    clear hb1
    go_wp2
    go_ret
    exact ⟨rfl, B1.out⟩
end Go.Proofs.YtgkhnjmbmbebiabDoor.qn
