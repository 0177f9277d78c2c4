import Derived.Test.YthppkdjekfginaaGreatDoorG1
import Derived.Deep.DeepCutAuto
import Derived.Laws.BitsAllLaws
import Derived.BigQuiet
import Derived.Test.YthppkdjekfginaaGreatDoorP2
import Derived.Test.YthppkdjekfginaaGreatDoorL4
import Derived.Test.YthppkdjekfginaaGreatDoorP1
namespace Go.Proofs.YthppkdjekfginaaGreatDoor.mn
open Go.RowKit Go.PlainAid
open Go.Proofs.YthppkdjekfginaaGreatDoor.ca Go.Proofs.YthppkdjekfginaaGreatDoor.cp Go.Proofs.YthppkdjekfginaaGreatDoor.mi
set_option linter.unusedVariables false

theorem rise_lt {xs : List Int} (h : ∀ j, j + 1 < xs.length → xs.getD j 0 < xs.getD (j + 1) 0) (i d : Nat) (hd : i + d + 1 < xs.length) : xs.getD i 0 < xs.getD (i + d + 1) 0 := by
  induction d with
  | zero => exact h i hd
  | succ d ih =>
    have h1 := ih (by omega)
    have h2 := h (i + d + 1) hd
    exact Int.lt_trans h1 h2
theorem nan1 (x : Int) (w : World) : Calls Tryz.prog 108 #[.int .i64 x] w fun e w' => e = .returned (.bool false) ∧ w' = w := by
  have h : (x == x) = true := beq_self_eq_true _
  go_enter Tryz.func108, Tryz.ntmps108
  go_wp2
  go_ret
  exact ⟨by first | rfl | simp, rfl⟩
theorem nan2 (x : Int) (w : World) : Calls Tryz.prog 74 #[.int .i64 x] w fun e w' => e = .returned (.bool false) ∧ w' = w := by
  have h : (x == x) = true := beq_self_eq_true _
  go_enter Tryz.func74, Tryz.ntmps74
  go_wp2
  go_ret
  exact ⟨by first | rfl | simp, rfl⟩
theorem less (x y : Int) (w : World) : Calls Tryz.prog 73 #[.int .i64 x, .int .i64 y] w fun e w' => e = .returned (.bool (decide (x < y))) ∧ w' = w := by
  have N1 : Hid (∀ w, Calls _ _ _ _ _) := fun w => nan1 x w
  go_enter Tryz.func73, Tryz.ntmps73
  go_wp2_with fail
  refine (N1.out _).mono ?_
  rintro e w1 ⟨rfl, rfl⟩
  go_wp2
  go_ret
  exact ⟨by first | rfl | simp, rfl⟩
def Lo (xs : List Int) (t : Int) (l i : Nat) : Prop := (∀ j, j < i → xs.getD j 0 < t) ∧ (∀ j, i ≤ j → j < l → t ≤ xs.getD j 0)
def Found (xs : List Int) (t : Int) (l : Nat) (w : World) (e : Ending) (w' : World) : Prop := (∃ (i : Nat) (f : Bool), e = .returned (.tuple #[.int .i64 i, .bool f]) ∧ i ≤ l ∧ Lo xs t l i) ∧ w' = w
set_option maxHeartbeats 1600000 in
theorem bsearch (v : Value) (xs : List Int) (t : Int) (w : World) (hR : ReadsI w v xs) (hz : xs.length ≤ 1024) (hs : ∀ j, j + 1 < xs.length → xs.getD j 0 < xs.getD (j + 1) 0) :
    Calls Tryz.prog 41 #[v, .int .i64 t] w (Found xs t xs.length w) := by
  have LE : Hid (∀ x w, Calls _ _ _ _ _) := fun x w => less x t w
  have NA : Hid (∀ x w, Calls _ _ _ _ _) := fun x w => nan2 x w
  have RI : Hid (∀ i j, i ≤ j → j < xs.length → xs.getD i 0 ≤ xs.getD j 0) := fun i j h1 h2 => by
    rcases Nat.eq_or_lt_of_le h1 with e | e
    · rw [e]; exact Int.le_refl _
    · have := rise_lt hs i (j - i - 1) (by omega)
      rw [show i + (j - i - 1) + 1 = j by omega] at this
      exact Int.le_of_lt this
  obtain ⟨a, cap, rfl, _, h1⟩ := hR
  have HC : Hid (xs.length = 0 ∨ ∃ b off, a = some ⟨b, off, none⟩ ∧ ∀ i, i < xs.length → w.cell? ⟨b, off + i, none⟩ = some (.int .i64 (xs.getD i 0))) := h1
  obtain ⟨l, HN⟩ : ∃ n, Hid (xs.length = n) := ⟨_, rfl⟩
  rw [HN.out] at HC hz RI ⊢
  clear h1 hs
  go_enter Tryz.func41, Tryz.ntmps41
  go_wp2
  go_loopw [7, 8] (fun x y wr => ∃ i j : Nat, i ≤ j ∧ j ≤ l ∧ x = .int .i64 i ∧ y = .int .i64 j ∧ Hid ((∀ p, p < i → xs.getD p 0 < t) ∧ (∀ p, j ≤ p → p < l → t ≤ xs.getD p 0)) ∧ w = wr) (fun x y _ => (intOf y - intOf x).toNat)
  case atStart => exact ⟨0, l, by omega, by omega, rfl, rfl, ⟨fun p h => by omega, fun p h1 h2 => by omega⟩, rfl⟩
  case round =>
    obtain ⟨i, j, hij, hjl, rfl, rfl, HS, rfl⟩ := hrel
    by_cases hlt : i < j
    · have hlt' : (i : Int) < j := by omega
      obtain ⟨b, off, rfl, hc⟩ : ∃ b off, a = some ⟨b, off, none⟩ ∧ ∀ i, i < l → w.cell? ⟨b, off + i, none⟩ = some (.int .i64 (xs.getD i 0)) := by
        rcases HC.out with h | h
        · omega
        · exact h
      have hm : i ≤ (i + j) / 2 ∧ (i + j) / 2 < j := by omega
      obtain ⟨X, HX⟩ : ∃ X, Hid (xs.getD ((i + j) / 2) 0 = X) := ⟨_, rfl⟩
      have c1 := hc ((i + j) / 2) (by omega)
      rw [HX.out] at c1
      have LX : Hid (∀ w, Calls _ _ _ _ _) := fun w => LE.out X w
      by_cases hx : X < t
      · have HS1 : Hid ((∀ p, p < (i + j) / 2 + 1 → xs.getD p 0 < t) ∧ (∀ p, j ≤ p → p < l → t ≤ xs.getD p 0)) := ⟨fun p hp => Int.lt_of_le_of_lt (RI.out p ((i + j) / 2) (by omega) (by omega)) (by rw [HX.out]; exact hx), HS.out.2⟩
        rw [decide_eq_true hx] at LX
        clear hc
        go_wp2_with fail
        refine (LX.out _).mono ?_
        rintro e w1 ⟨rfl, rfl⟩
        go_wp2
        go_roundw
        case rel => exact ⟨(i + j) / 2 + 1, j, by omega, by omega, by first | go_num | (congr 1), rfl, HS1, by first | rfl | trivial⟩
        case measure => simp [intOf]; omega
      · have HS1 : Hid ((∀ p, p < i → xs.getD p 0 < t) ∧ (∀ p, (i + j) / 2 ≤ p → p < l → t ≤ xs.getD p 0)) := ⟨HS.out.1, fun p h1 h2 => Int.le_trans (by have := HX.out; omega) (RI.out ((i + j) / 2) p h1 h2)⟩
        rw [decide_eq_false hx] at LX
        clear hc
        go_wp2_with fail
        refine (LX.out _).mono ?_
        rintro e w1 ⟨rfl, rfl⟩
        go_wp2
        go_roundw
        case rel => exact ⟨i, (i + j) / 2, by omega, by omega, rfl, by first | go_num | (congr 1), HS1, by first | rfl | trivial⟩
        case measure => simp [intOf]; omega
    · have hlt' : ¬ (i : Int) < j := by omega
      have HL : Hid (i ≤ l ∧ Lo xs t l i) := ⟨by omega, HS.out.1, fun p h1 h2 => HS.out.2 p (by omega) h2⟩
      by_cases hil : i < l
      · have d1 : decide ((i : Int) < l) = true := decide_eq_true (by omega)
        obtain ⟨b, off, rfl, hc⟩ : ∃ b off, a = some ⟨b, off, none⟩ ∧ ∀ i, i < l → w.cell? ⟨b, off + i, none⟩ = some (.int .i64 (xs.getD i 0)) := by
          rcases HC.out with h | h
          · omega
          · exact h
        obtain ⟨X, HX⟩ : ∃ X, Hid (xs.getD i 0 = X) := ⟨_, rfl⟩
        have c1 := hc i hil
        rw [HX.out] at c1
        have NX : Hid (∀ w, Calls _ _ _ _ _) := fun w => NA.out X w
        clear hc
        by_cases hx : X = t
        · have d2 : (X == t) = true := by rw [beq_iff_eq]; exact hx
          clear hx
          go_wp2
          go_ret2
          exact ⟨⟨i, _, rfl, HL.out.1, HL.out.2⟩, rfl⟩
        · have d2 : (X == t) = false := by rw [beq_eq_false_iff_ne]; exact hx
          clear hx
          go_wp2_with fail
          refine (NX.out _).mono ?_
          rintro e w1 ⟨rfl, rfl⟩
          go_wp2
          go_ret2
          exact ⟨⟨i, _, rfl, HL.out.1, HL.out.2⟩, rfl⟩
      · have d1 : decide ((i : Int) < l) = false := decide_eq_false (by omega)
        go_wp2
        go_ret2
        exact ⟨⟨i, _, rfl, HL.out.1, HL.out.2⟩, rfl⟩
end Go.Proofs.YthppkdjekfginaaGreatDoor.mn

namespace Go.Proofs.YthppkdjekfginaaGreatDoor.wa
open Go.RowKit Go.PlainAid
open Go.Proofs.YthppkdjekfginaaGreatDoor.pl Go.Proofs.YthppkdjekfginaaGreatDoor.pi Go.Proofs.YthppkdjekfginaaGreatDoor.pj Go.Proofs.YthppkdjekfginaaGreatDoor.ca Go.Proofs.YthppkdjekfginaaGreatDoor.cb Go.Proofs.YthppkdjekfginaaGreatDoor.cp Go.Proofs.YthppkdjekfginaaGreatDoor.ga Go.Proofs.YthppkdjekfginaaGreatDoor.gb Go.Proofs.YthppkdjekfginaaGreatDoor.aa Go.Proofs.YthppkdjekfginaaGreatDoor.ba Go.Proofs.YthppkdjekfginaaGreatDoor.bb Go.Proofs.YthppkdjekfginaaGreatDoor.ka Go.Proofs.YthppkdjekfginaaGreatDoor.kb Go.Proofs.YthppkdjekfginaaGreatDoor.kc Go.Proofs.YthppkdjekfginaaGreatDoor.kp Go.Proofs.YthppkdjekfginaaGreatDoor.lk Go.Proofs.YthppkdjekfginaaGreatDoor.lm Go.Proofs.YthppkdjekfginaaGreatDoor.co Go.Proofs.YthppkdjekfginaaGreatDoor.dc Go.Proofs.YthppkdjekfginaaGreatDoor.qa Go.Proofs.YthppkdjekfginaaGreatDoor.qb Go.Proofs.YthppkdjekfginaaGreatDoor.qc Go.Proofs.YthppkdjekfginaaGreatDoor.qj Go.Proofs.YthppkdjekfginaaGreatDoor.qk Go.Proofs.YthppkdjekfginaaGreatDoor.qo Go.Proofs.YthppkdjekfginaaGreatDoor.qp Go.Proofs.YthppkdjekfginaaGreatDoor.ta Go.Proofs.YthppkdjekfginaaGreatDoor.tb Go.Proofs.YthppkdjekfginaaGreatDoor.td Go.Proofs.YthppkdjekfginaaGreatDoor.tc Go.Proofs.YthppkdjekfginaaGreatDoor.ua Go.Proofs.YthppkdjekfginaaGreatDoor.ub Go.Proofs.YthppkdjekfginaaGreatDoor.ma Go.Proofs.YthppkdjekfginaaGreatDoor.uh Go.Proofs.YthppkdjekfginaaGreatDoor.ui Go.Proofs.YthppkdjekfginaaGreatDoor.uj Go.Proofs.YthppkdjekfginaaGreatDoor.uk Go.Proofs.YthppkdjekfginaaGreatDoor.ul Go.Proofs.YthppkdjekfginaaGreatDoor.um Go.Proofs.YthppkdjekfginaaGreatDoor.un Go.Proofs.YthppkdjekfginaaGreatDoor.uo Go.Proofs.YthppkdjekfginaaGreatDoor.uq Go.Proofs.YthppkdjekfginaaGreatDoor.va Go.Proofs.YthppkdjekfginaaGreatDoor.ur Go.Proofs.YthppkdjekfginaaGreatDoor.vb Go.Proofs.YthppkdjekfginaaGreatDoor.mi Go.Proofs.YthppkdjekfginaaGreatDoor.cn Go.Proofs.YthppkdjekfginaaGreatDoor.mn Go.Proofs.YthppkdjekfginaaGreatDoor.qm
set_option linter.unusedVariables false

-- a list of numbers in old memory
def OldI (base : Nat) (w : World) (v : Value) (l : List Int) : Prop :=
  ∃ a cap, v = .slice a l.length cap ∧ l.length ≤ cap ∧ (l.length = 0 ∨ ∃ g off, a = some ⟨g, off, none⟩ ∧ g < base ∧ ∀ i, i < l.length → w.cell? ⟨g, off + i, none⟩ = some (.int .i64 (l.getD i 0)))
theorem OldI.keep {base : Nat} {w w' : World} {v : Value} {l : List Int} (h : OldI base w v l) {G : Nat → Prop} (k : Kp G w w') (hg : ∀ b, G b → base ≤ b) : OldI base w' v l := by
  obtain ⟨a, cap, rfl, hc, h0 | ⟨g, off, rfl, hl, hh⟩⟩ := h
  · exact ⟨a, cap, rfl, hc, .inl h0⟩
  · exact ⟨_, cap, rfl, hc, .inr ⟨g, off, rfl, hl, fun i hi => k.cell (hh i hi) (fun e => by have := hg _ e; omega)⟩⟩
theorem OldI.of {w : World} {v : Value} {l : List Int} (h : ReadsI w v l) : OldI w.heap.size w v l := by
  obtain ⟨a, cap, rfl, hc, h0 | ⟨g, off, rfl, hh⟩⟩ := h
  · exact ⟨a, cap, rfl, hc, .inl h0⟩
  · by_cases h0 : l.length = 0
    · exact ⟨_, cap, rfl, hc, .inl h0⟩
    · exact ⟨_, cap, rfl, hc, .inr ⟨g, off, rfl, World.block_lt_of_cell? _ _ (hh 0 (by omega)), hh⟩⟩
theorem OldI.reads {base : Nat} {w : World} {v : Value} {l : List Int} (h : OldI base w v l) : ReadsI w v l := by
  obtain ⟨a, cap, rfl, hc, h0 | ⟨g, off, rfl, _, hh⟩⟩ := h
  · exact ⟨a, cap, rfl, hc, .inl h0⟩
  · exact ⟨_, cap, rfl, hc, .inr ⟨g, off, rfl, hh⟩⟩
-- rising places, 1024 at most
structure Pls (zs : List Int) : Prop where
  r : Ris zs
  m : zs.length ≤ 1024
theorem Pls.step {zs : List Int} (h : Pls zs) : ∀ j, j + 1 < zs.length → zs.getD j 0 < zs.getD (j + 1) 0 := fun j hj => h.r.2 j (j + 1) (by omega) hj
theorem found_cnt {zs : List Int} (h : Pls zs) {a i : Nat} (hi : i ≤ zs.length) (hl : Lo zs a zs.length i) : i = cnt zs a := (cnt_is h.r hi hl.1 (fun j h1 h2 => hl.2 j h1 h2)).symm
theorem lkM_ne {zs : List Int} (h : Pls zs) (a b : Nat) : lkM (natL zs) a b ≠ 1 ↔ cnt zs a < zs.length ∧ zs.getD (cnt zs a) 0 < b := by
  constructor
  · intro g
    have hle := cnt_le zs a
    refine ⟨?_, ?_⟩
    · by_cases q : cnt zs a < zs.length
      · exact q
      · exact absurd (lkM_none h.r (.inl (by omega))) g
    · by_cases q : zs.getD (cnt zs a) 0 < b
      · exact q
      · exact absurd (lkM_none h.r (.inr (by omega))) g
  · rintro ⟨g1, g2⟩
    rw [lkM_some h.r g1 g2]
    split <;> omega
set_option maxHeartbeats 3200000 in
theorem multi1 (tb a b : Nat) (v : Value) (zs : List Int) (h : Pls zs) (w : World) (hc : w.cell? ⟨tb, 0, none⟩ = some v) (hR : ReadsI w v zs) :
    Calls Tryz.prog 40 #[.agg #[.int .i64 a, .int .i64 b], .pointer (some ⟨tb, 0, none⟩)] w fun e w' => e = .returned (.bool (decide (lkM (natL zs) a b ≠ 1))) ∧ Below w.heap.size w w' := by
  obtain ⟨W, HW⟩ : ∃ W, Hid (W = w.alloc (.cells #[.int .i64 a, .int .i64 b] 43)) := ⟨_, rfl⟩
  have hw : w.alloc (.cells #[.int .i64 a, .int .i64 b] 43) = W := HW.out.symm
  have BW : Hid (Below w.heap.size w W) := by rw [HW.out]; exact (Below.refl _ _).alloc (Nat.le_refl _) _
  have s0 : W.cell? ⟨w.heap.size, 0, none⟩ = some (.int .i64 a) := by rw [HW.out, World.cell?_alloc_at _ _ _ _ rfl]; rfl
  have s1 : W.cell? ⟨w.heap.size, 1, none⟩ = some (.int .i64 b) := by rw [HW.out, World.cell?_alloc_at _ _ _ _ rfl]; rfl
  have ct : W.cell? ⟨tb, 0, none⟩ = some v := (BW.out.cell (World.block_lt_of_cell? _ _ hc)).trans hc
  have hRW : ReadsI W v zs := hR.later BW.out
  have SC' : Hid (Calls _ _ _ _ _) := bsearch v zs a W hRW h.m h.step
  have HF : Hid (∀ i, i ≤ zs.length → Lo zs a zs.length i → i = cnt zs a) := fun i h1 h2 => found_cnt h h1 h2
  have HD : Hid (lkM (natL zs) a b ≠ 1 ↔ cnt zs a < zs.length ∧ zs.getD (cnt zs a) 0 < b) := lkM_ne h a b
  have hm := h.m
  obtain ⟨va, vc, rfl, hvc, hh⟩ := hRW
  obtain ⟨l, HL⟩ : ∃ l, Hid (zs.length = l) := ⟨_, rfl⟩
  rw [HL.out] at SC' HF HD hh ct hm hvc
  obtain ⟨k, HK⟩ : ∃ k, Hid (cnt zs a = k) := ⟨_, rfl⟩
  rw [HK.out] at HF HD
  obtain ⟨r, HRR⟩ : ∃ r, Hid (decide (lkM (natL zs) a b ≠ 1) = r) := ⟨_, rfl⟩
  rw [HRR.out]
  by_cases h1 : k < l
  · obtain ⟨bb, off, ha, hq⟩ := hh.resolve_left (by omega)
    subst ha
    have c9 := hq k h1
    obtain ⟨y, HY⟩ : ∃ y, Hid (zs.getD k 0 = y) := ⟨_, rfl⟩
    rw [HY.out] at c9 HD
    have d1 : decide (k < l) = true := decide_eq_true h1
    have d1' : decide ((k : Int) < l) = true := decide_eq_true (by omega)
    have d2 : (k : Int) < l := by omega
    have hr : Hid (r = decide (y < (b : Int))) := by
      show _ = _
      rw [← HRR.out]
      by_cases q : y < (b : Int)
      · rw [decide_eq_true q, decide_eq_true (HD.out.2 ⟨h1, q⟩)]
      · rw [decide_eq_false q, decide_eq_false (fun e => q (HD.out.1 e).2)]
    obtain ⟨t, HT⟩ : ∃ t, Hid (decide (y < (b : Int)) = t) := ⟨_, rfl⟩
    have ht : decide (y < (b : Int)) = t := HT.out
    rw [hr.out, ht]
    clear hh hq hc hR HD hr HRR h
    go_enter Tryz.func40, Tryz.ntmps40
    go_wp2_with (rw [hw])
    refine SC'.out.mono ?_
    rintro e w2 ⟨⟨i, f, rfl, hi, hlo⟩, hw2⟩
    obtain rfl := HF.out i hi hlo
    subst hw2
    clear hi hlo
    go_wp2_with fail
    go_quiet (fail)
    go_wp2
    go_ret
    exact ⟨rfl, below_dN BW.out _⟩
  · have d1 : decide (k < l) = false := decide_eq_false h1
    have d1' : decide ((k : Int) < l) = false := decide_eq_false (by omega)
    have hr : r = false := by rw [← HRR.out]; exact decide_eq_false (fun e => h1 (HD.out.1 e).1)
    subst hr
    clear hh hc hR HD HRR h
    go_enter Tryz.func40, Tryz.ntmps40
    go_wp2_with (rw [hw])
    refine SC'.out.mono ?_
    rintro e w2 ⟨⟨i, f, rfl, hi, hlo⟩, hw2⟩
    obtain rfl := HF.out i hi hlo
    subst hw2
    clear hi hlo
    go_wp2_with fail
    go_quiet (fail)
    go_wp2
    go_ret
    exact ⟨rfl, below_dN BW.out _⟩
theorem multi2 (tb cb p : Nat) (v : Value) (zs : List Int) (h : Pls zs) (a : Option Addr) (n cap : Nat) (cs : List ByteArray) (w : World) (hc : w.cell? ⟨tb, 0, none⟩ = some v) (hR : ReadsI w v zs) (hc2 : w.cell? ⟨cb, 0, none⟩ = some (.slice a n cap)) (hR2 : ReadsT w (.slice a n cap) cs) (hp : cnt zs p < cs.length) :
    Calls Tryz.prog 42 #[.int .i64 p, .pointer (some ⟨tb, 0, none⟩), .pointer (some ⟨cb, 0, none⟩)] w fun e w' => e = .returned (.string (cs.getD (cnt zs p) ByteArray.empty)) ∧ Below w.heap.size w w' := by
  have SC' : Hid (Calls _ _ _ _ _) := bsearch v zs p w hR h.m h.step
  have HF : Hid (∀ i, i ≤ zs.length → Lo zs p zs.length i → i = cnt zs p) := fun i h1 h2 => found_cnt h h1 h2
  obtain ⟨va, vc, rfl, hvc, hh⟩ := hR
  obtain ⟨a', cap', e, hcc, hh2⟩ := hR2
  injection e with e1 e2 e3
  subst e1 e2
  obtain ⟨bb, off, ha, hq⟩ := hh2.resolve_left (by omega)
  subst ha
  obtain ⟨k, HK⟩ : ∃ k, Hid (cnt zs p = k) := ⟨_, rfl⟩
  rw [HK.out] at HF hp ⊢
  have c9 := hq k hp
  obtain ⟨x, HX⟩ : ∃ x, Hid (cs.getD k ByteArray.empty = x) := ⟨_, rfl⟩
  rw [HX.out] at c9 ⊢
  obtain ⟨n, HN⟩ : ∃ n, Hid (cs.length = n) := ⟨_, rfl⟩
  rw [HN.out] at hc2 hp
  have d2 : (k : Int) < n := by omega
  obtain ⟨l, HL⟩ : ∃ l, Hid (zs.length = l) := ⟨_, rfl⟩
  rw [HL.out] at SC' HF hc
  clear hh hh2 hq hcc h hvc e3
  go_enter Tryz.func42, Tryz.ntmps42
  go_wp2_with fail
  refine SC'.out.mono ?_
  rintro e w2 ⟨⟨i, f, rfl, hi, hlo⟩, hw2⟩
  obtain rfl := HF.out i hi hlo
  subst hw2
  clear hi hlo
  go_wp2
  go_ret
  exact ⟨rfl, Below.refl _ _⟩
theorem dirM (ps : List Nat) {a b : Nat} (h1 : lkM ps a b ≠ 1) (h2 : 2 ≤ b - a) (q : Prop) : lkM ps a b = 2 ↔ ¬ (false = true ∧ q) := by
  refine ⟨fun _ h => Bool.noConfusion h.1, fun _ => ?_⟩
  unfold lkM at h1 ⊢
  split
  · rw [if_neg (by omega)]
  · rename_i h; rw [if_neg h] at h1; exact absurd rfl h1
-- the state of a claim with leaves at some places
structure MS (base pb tb cb : Nat) (vt vc : Value) (zs : List Int) (cs : List ByteArray) (x : List ByteArray) (w : World) : Prop where
  p : KPile base pb x w
  a : w.cell? ⟨tb, 0, none⟩ = some vt
  ar : OldI base w vt zs
  c : w.cell? ⟨cb, 0, none⟩ = some vc
  r : Old base w vc cs
  t : Tab w
theorem multiFl {base pb tb cb N n cap : Nat} {ad : Option Addr} {vt : Value} {wd : Int} {zs : List Int} {cs : List ByteArray} (hN : N ≤ 4611686018427387904) (hB : 4 ≤ base) (hc : cb ≠ pb) (ht : tb ≠ pb) (hp : Pls zs) (hh : cs.length = zs.length) (hf : Fits cs) :
    Fl (fun b => b = pb) (MS base pb tb cb vt (.slice ad n cap) zs cs) wd (lkM (natL zs)) false (fun p => cs.getD (cnt zs p) ByteArray.empty) nx (PW wd (lkM (natL zs)) N) 40 20 (.func (.func 42) #[] #[.pointer (some ⟨tb, 0, none⟩), .pointer (some ⟨cb, 0, none⟩)]) #[] #[.pointer (some ⟨tb, 0, none⟩)] #[.pointer (some ⟨pb, 0, none⟩)] #[] where
  kent := fun args w => by simp [go_sem]
  hent := fun args w => by simp [go_sem]
  later := fun h hb => ⟨h.p.keep (Kp.of_below (A := no) hb) (fun _ e => e.elim) (fun e => e), (hb.cell (World.block_lt_of_cell? _ _ h.a)).trans h.a, h.ar.keep (Kp.of_below (A := no) hb) (fun _ e => e.elim), (hb.cell (World.block_lt_of_cell? _ _ h.c)).trans h.c, h.r.keep (Kp.of_below (A := no) hb) (fun _ e => e.elim), h.t.down hb⟩
  fl := fun h b e => by subst e; exact h.p.lt
  tab := fun h => h.t
  bnd := fun h => Nat.le_trans h.2.2 hN
  knows := fun x a b a' b' w _ _ _ _ hS => multi1 tb a b vt zs hp w hS.a hS.ar.reads
  leaf := fun x a b h1 hP hk => ⟨_, _, _, rfl, fun args w => by simp [go_sem], fun w hS => multi2 tb cb a vt zs hp ad n cap cs w hS.a hS.ar.reads hS.c (Old.reads hS.r) (by have := ((lkM_ne hp a b).1 hk).1; omega)⟩
  lsz := fun {x a b} h1 hP hk => by
    have h : cnt zs a < cs.length := by have := ((lkM_ne hp a b).1 hk).1; omega
    show (cs.getD (cnt zs a) ByteArray.empty).size ≤ _
    rw [List.getD_eq_getElem?_getD, List.getElem?_eq_getElem h]
    exact hf.each _ (List.getElem_mem h)
  hash := fun x a b w hab hP h1 hS => by
    obtain ⟨p1, p2, p3⟩ := hP
    rw [WL_take h1] at p1
    cases x with
    | nil => simp at p1
    | cons y t => exact (knext base pb y t a b w hS.p).mono fun e w' h => ⟨h.1, ⟨h.2.1, h.2.2.cell hS.a ht, hS.ar.keep h.2.2 (fun k e => by subst e; exact hS.p.new), h.2.2.cell hS.c hc, hS.r.keep h.2.2 (fun k e => by subst e; exact hS.p.new), hS.t.below (h.2.2.below (fun k e => by subst e; exact hS.p.new) (Nat.le_trans hS.p.new (Nat.le_of_lt hS.p.lt))) hB⟩, h.2.2⟩
  hsz := fun {x a b} hP h1 => by
    obtain ⟨p1, p2, p3⟩ := hP
    rw [WL_take h1] at p1
    have : (x.headD ByteArray.empty).size = wid wd := p2.head p1
    show (x.headD ByteArray.empty).size ≤ 32
    rw [this]
    exact qb.wid_le wd
  dir := fun _ _ h1 h2 => dirM _ h1 h2 _
  left := fun _ hP h3 h2 => hP.left (fun a b => lkM_zero _ a b) h3 h2
  right := fun _ hP h1 h3 h2 => hP.right (fun a b => lkM_zero _ a b) h1 h3 h2
-- has the list these leaves at these places?
def atP (xs : List ByteArray) (zs : List Int) (cs : List ByteArray) (k : Nat) : Prop := ∀ j, j < k → xs.getD (zs.getD j 0).toNat ByteArray.empty = cs.getD j ByteArray.empty
instance (xs : List ByteArray) (zs : List Int) (cs : List ByteArray) (k : Nat) : Decidable (atP xs zs cs k) := by unfold atP; exact Nat.decidableBallLT k _
end Go.Proofs.YthppkdjekfginaaGreatDoor.wa

namespace Go.Proofs.YthppkdjekfginaaGreatDoor.jw
open Go.RowKit Go.PlainAid
open Go.Proofs.YthppkdjekfginaaGreatDoor.pl Go.Proofs.YthppkdjekfginaaGreatDoor.pi Go.Proofs.YthppkdjekfginaaGreatDoor.pj Go.Proofs.YthppkdjekfginaaGreatDoor.ca Go.Proofs.YthppkdjekfginaaGreatDoor.cb Go.Proofs.YthppkdjekfginaaGreatDoor.cp Go.Proofs.YthppkdjekfginaaGreatDoor.ga Go.Proofs.YthppkdjekfginaaGreatDoor.gb Go.Proofs.YthppkdjekfginaaGreatDoor.aa Go.Proofs.YthppkdjekfginaaGreatDoor.ba Go.Proofs.YthppkdjekfginaaGreatDoor.bb Go.Proofs.YthppkdjekfginaaGreatDoor.ka Go.Proofs.YthppkdjekfginaaGreatDoor.kb Go.Proofs.YthppkdjekfginaaGreatDoor.kc Go.Proofs.YthppkdjekfginaaGreatDoor.kp Go.Proofs.YthppkdjekfginaaGreatDoor.lk Go.Proofs.YthppkdjekfginaaGreatDoor.lm Go.Proofs.YthppkdjekfginaaGreatDoor.co Go.Proofs.YthppkdjekfginaaGreatDoor.dc Go.Proofs.YthppkdjekfginaaGreatDoor.qa Go.Proofs.YthppkdjekfginaaGreatDoor.qb Go.Proofs.YthppkdjekfginaaGreatDoor.qc Go.Proofs.YthppkdjekfginaaGreatDoor.qj Go.Proofs.YthppkdjekfginaaGreatDoor.qk Go.Proofs.YthppkdjekfginaaGreatDoor.qo Go.Proofs.YthppkdjekfginaaGreatDoor.qp Go.Proofs.YthppkdjekfginaaGreatDoor.ta Go.Proofs.YthppkdjekfginaaGreatDoor.tb Go.Proofs.YthppkdjekfginaaGreatDoor.td Go.Proofs.YthppkdjekfginaaGreatDoor.tc Go.Proofs.YthppkdjekfginaaGreatDoor.ua Go.Proofs.YthppkdjekfginaaGreatDoor.ub Go.Proofs.YthppkdjekfginaaGreatDoor.ma Go.Proofs.YthppkdjekfginaaGreatDoor.uh Go.Proofs.YthppkdjekfginaaGreatDoor.ui Go.Proofs.YthppkdjekfginaaGreatDoor.uj Go.Proofs.YthppkdjekfginaaGreatDoor.uk Go.Proofs.YthppkdjekfginaaGreatDoor.ul Go.Proofs.YthppkdjekfginaaGreatDoor.um Go.Proofs.YthppkdjekfginaaGreatDoor.un Go.Proofs.YthppkdjekfginaaGreatDoor.uo Go.Proofs.YthppkdjekfginaaGreatDoor.uq Go.Proofs.YthppkdjekfginaaGreatDoor.va Go.Proofs.YthppkdjekfginaaGreatDoor.ur Go.Proofs.YthppkdjekfginaaGreatDoor.vb Go.Proofs.YthppkdjekfginaaGreatDoor.mi Go.Proofs.YthppkdjekfginaaGreatDoor.cn Go.Proofs.YthppkdjekfginaaGreatDoor.mn Go.Proofs.YthppkdjekfginaaGreatDoor.qm Go.Proofs.YthppkdjekfginaaGreatDoor.ve Go.Proofs.YthppkdjekfginaaGreatDoor.wa
set_option linter.unusedVariables false

set_option maxHeartbeats 1600000 in
theorem areAtC (vl vt vc : Value) (xs : List ByteArray) (zs : List Int) (cs : List ByteArray) (w : World) (hl : ReadsT w vl xs) (ht : ReadsI w vt zs) (hc : ReadsT w vc cs) (hz : zs.length ≤ 1024) (he : cs.length = zs.length) (hi : ∀ j, j < zs.length → 0 ≤ zs.getD j 0 ∧ zs.getD j 0 < xs.length) (hxm : xs.length ≤ 4611686018427387904) :
    Calls Tryz.prog 39 #[vl, vt, vc] w fun e w' => e = .returned (.bool (decide (atP xs zs cs zs.length))) ∧ ∃ m, w' = w.drewN m := by
  obtain ⟨la, lc, rfl, _, hlh⟩ := hl
  obtain ⟨ta, tc, rfl, _, hth⟩ := ht
  obtain ⟨ca, cc, rfl, _, hch⟩ := hc
  have HL : Hid (xs.length = 0 ∨ ∃ b off, la = some ⟨b, off, none⟩ ∧ ∀ i, i < xs.length → w.cell? ⟨b, off + i, none⟩ = some (.string (xs.getD i ByteArray.empty))) := hlh
  have HT : Hid (zs.length = 0 ∨ ∃ b off, ta = some ⟨b, off, none⟩ ∧ ∀ i, i < zs.length → w.cell? ⟨b, off + i, none⟩ = some (.int .i64 (zs.getD i 0))) := hth
  rw [he] at hch ⊢
  have HC : Hid (zs.length = 0 ∨ ∃ b off, ca = some ⟨b, off, none⟩ ∧ ∀ i, i < zs.length → w.cell? ⟨b, off + i, none⟩ = some (.string (cs.getD i ByteArray.empty))) := hch
  have HI : Hid (∀ j, j < zs.length → 0 ≤ zs.getD j 0 ∧ zs.getD j 0 < xs.length) := hi
  obtain ⟨r, HR⟩ : ∃ r, Hid (decide (atP xs zs cs zs.length) = r) := ⟨_, rfl⟩
  rw [HR.out]
  obtain ⟨l, HLL⟩ : ∃ n, Hid (zs.length = n) := ⟨_, rfl⟩
  obtain ⟨n, HN⟩ : ∃ n, Hid (xs.length = n) := ⟨_, rfl⟩
  rw [HLL.out] at HT HC HI HR hz ⊢
  rw [HN.out] at HL HI hxm ⊢
  clear hlh hth hch hi he
  go_enter Tryz.func39, Tryz.ntmps39
  go_wp2
  go_loopw [11] (fun i wr => ∃ k m : Nat, k ≤ l ∧ i = .int .i64 k ∧ Hid (atP xs zs cs k) ∧ wr = w.drewN m) (fun i _ => (l - intOf i).toNat)
  case atStart => exact ⟨0, 0, by omega, rfl, fun j h => by omega, rfl⟩
  case round =>
    obtain ⟨k, m, hk, rfl, HS, rfl⟩ := hrel
    by_cases hlt : k < l
    · have hlt' : (k : Int) < l := by omega
      obtain ⟨b1, o1, rfl, h1⟩ := HT.out.resolve_left (by omega)
      obtain ⟨b2, o2, rfl, h2⟩ := HC.out.resolve_left (by omega)
      obtain ⟨i1, i2⟩ := HI.out k hlt
      obtain ⟨b3, o3, rfl, h3⟩ := HL.out.resolve_left (by omega)
      obtain ⟨p, hp⟩ : ∃ p : Nat, zs.getD k 0 = p := ⟨(zs.getD k 0).toNat, by omega⟩
      have c1 := h1 k hlt
      have c2 := h2 k hlt
      have hpn : p < n := by omega
      have c3 := h3 p hpn
      have HP : Hid ((zs.getD k 0).toNat = p) := by show _ = _; omega
      rw [hp] at c1
      have hpn' : (p : Int) < n := by omega
      obtain ⟨X, HX⟩ : ∃ X, Hid (xs.getD p ByteArray.empty = X) := ⟨_, rfl⟩
      obtain ⟨Y, HY⟩ : ∃ X, Hid (cs.getD k ByteArray.empty = X) := ⟨_, rfl⟩
      rw [HX.out] at c3
      rw [HY.out] at c2
      clear h1 h2 h3 i1 i2 hp hpn
      by_cases hxy : X = Y
      · have hb : (X.toList == Y.toList) = true := by rw [beqL]; exact decide_eq_true hxy
        have HS1 : Hid (atP xs zs cs (k + 1)) := fun j hj => by
          rcases Nat.lt_or_ge j k with h | h
          · exact HS.out j h
          · obtain rfl : j = k := by omega
            rw [HP.out, HX.out, HY.out, hxy]
        clear hxy
        go_wp2_with fail
        go_quiet (fail)
        go_wp2
        go_roundw
        case rel => exact ⟨k + 1, _, by omega, by go_num, HS1, rfl⟩
        case measure => simp [intOf]; omega
      · have hb : (X.toList == Y.toList) = false := by rw [beqL]; exact decide_eq_false hxy
        have HE : Hid (r = false) := by
          show _ = _
          rw [← HR.out]
          apply decide_eq_false
          intro e
          apply hxy
          rw [← HX.out, ← HY.out, ← HP.out, e k hlt]
        clear hxy
        go_wp2_with fail
        go_quiet (fail)
        go_wp2
        go_ret
        exact ⟨by rw [HE.out]; rfl, m + nq, by rw [World.drewN_drewN]⟩
    · have hlt' : ¬ (k : Int) < l := by omega
      obtain rfl : k = l := by omega
      have HE : Hid (r = true) := by
        show _ = _
        rw [← HR.out]
        exact decide_eq_true HS.out
      go_wp2
      go_ret
      exact ⟨by rw [HE.out]; rfl, _, rfl⟩
-- what an accepted claim of places tells
theorem mulA_ok {wd : Int} {N : Nat} {zs : List Int} {hs proof : List ByteArray} {root : ByteArray} (h : mulA wd N zs hs proof root = 0) : places zs N = 0 ∧ hs.length = zs.length ∧ 1 ≤ N ∧ N ≤ 4611686018427387904 ∧ proof.length = (WL (lkM (natL zs)) 0 N).length ∧ Wide wd proof ∧ (gp wd (lkM (natL zs)) hs proof 0 N).1 = root := by
  unfold mulA at h
  by_cases h0 : (cnt9 4 0 0 N zs).2 = 0
  · rw [if_pos h0] at h
    obtain ⟨N', e, n1, n2, n3, n4⟩ := mul_ok h0
    obtain rfl : N' = N := by omega
    by_cases h1 : hs.length = zs.length
    · rw [if_pos h1, n4, Int.toNat_natCast] at h
      unfold qm.seen at h
      simp only at h
      by_cases q : rH wd ((WL (lkM (natL zs)) 0 N').length : Nat) proof (root :: hs) = 0
      · rw [if_pos q] at h
        by_cases q2 : (gp wd (lkM (natL zs)) hs proof 0 N').1 = root
        · unfold rH at q
          by_cases q3 : (okH wd (root :: hs) && okH wd proof) = true
          · rw [if_pos q3] at q
            rw [Bool.and_eq_true] at q3
            by_cases q4 : (proof.length : Int) = (((WL (lkM (natL zs)) 0 N').length : Nat) : Int)
            · exact ⟨n3, h1, n1, n2, by omega, okH_wide q3.2, q2⟩
            · rw [if_neg q4] at q; omega
          · rw [if_neg q3] at q; omega
        · rw [if_neg q2] at h; omega
      · rw [if_neg q] at h; exact absurd h q
    · rw [if_neg h1] at h; omega
  · rw [if_neg h0] at h; exact absurd h h0
def multiX (wd : Int) (zs : List Int) (xs cs proof : List ByteArray) : Option (ByteArray × ByteArray) :=
  if mulA wd xs.length zs (LX wd cs) proof (RT wd xs) = 0 then (if atP xs zs cs zs.length then none else fst1 (gw (HH wd) (lkM (natL zs)) (fun p => cs.getD (cnt zs p) ByteArray.empty) nx proof 0 xs.length).1 (ownT wd (lkM (natL zs)) xs)) else none
set_option maxRecDepth 100000 in
set_option maxHeartbeats 12800000 in
theorem kMultiC (wd : Int) (hwd : i64 wd) (vl : Value) (xs : List ByteArray) (vt : Value) (zs : List Int) (vc : Value) (cs : List ByteArray) (vp : Value) (proof : List ByteArray) (w : World) (hl : ReadsT w vl xs) (ht : ReadsI w vt zs) (hc : ReadsT w vc cs) (hp : ReadsT w vp proof) (hx : Fits xs) (hf : Fits cs) (zt : zs.length ≤ 140737488355328) (zp : proof.length ≤ 140737488355328) (hT : Tab w) :
    Calls Tryz.prog 14 #[.int .i64 wd, vl, vt, vc, vp] w fun e w' => e = .returned (clV (multiX wd zs xs cs proof)) ∧ Below w.heap.size w w' := by
  have OL : Hid (Old w.heap.size w vl xs ∧ Old w.heap.size w vp proof ∧ Old w.heap.size w vc cs ∧ Tab w ∧ Fits xs ∧ Fits cs ∧ OldI w.heap.size w vt zs) := ⟨Old.of hl, Old.of hp, Old.of hc, hT, hx, hf, OldI.of ht⟩
  have RD : Hid (ReadsT w vl xs ∧ ReadsT w vp proof ∧ ReadsT w vc cs ∧ ReadsI w vt zs) := ⟨hl, hp, hc, ht⟩
  have HC : Hid (∀ w', Tab w' → ReadsT w' vc cs → Calls _ _ _ _ _) := fun w' h1 h2 => hashesC wd vc cs w' h1 h2 hf
  have RC : Hid (∀ w', Tab w' → ReadsT w' vl xs → Calls _ _ _ _ _) := fun w' h1 h2 => mb.rootC wd _ xs w' hwd h1 h2 hx
  have hfm := hf.many
  have IC : Hid (∀ w' u, Tab w' → ReadsT w' vp proof → ReadsT w' u (LX wd cs) → ReadsI w' vt zs → Calls _ _ _ _ _) := fun w' u h1 h2 h3 h4 => MultiC wd xs.length hwd vt zs u vp (LX wd cs) proof (RT wd xs) w' h4 h3 h2 zt (by rw [LX_len]; omega) zp h1
  have hxm := hx.many
  obtain ⟨la, lc, rfl, hlc, hlh⟩ := hl
  obtain ⟨pa, pc, rfl, _⟩ := hp
  obtain ⟨ca, cc, rfl, hcc, hch⟩ := hc
  obtain ⟨ta, tc, rfl, htc, hth⟩ := ht
  unfold multiX
  obtain ⟨E, HE⟩ : ∃ E, Hid (mulA wd xs.length zs (LX wd cs) proof (RT wd xs) = E) := ⟨_, rfl⟩
  obtain ⟨y2, HY2⟩ : ∃ y, Hid (RT wd xs = y) := ⟨_, rfl⟩
  rw [HE.out] at IC ⊢
  rw [HY2.out] at RC IC
  have ACC : Hid (E = 0 → (∀ w', ReadsT w' (.slice la xs.length lc) xs → ReadsI w' (.slice ta zs.length tc) zs → ReadsT w' (.slice ca cs.length cc) cs → Calls Tryz.prog 39 #[.slice la xs.length lc, .slice ta zs.length tc, .slice ca cs.length cc] w' fun e w2 => e = .returned (.bool (decide (atP xs zs cs zs.length))) ∧ ∃ m, w2 = w'.drewN m) ∧ Pls zs ∧ cs.length = zs.length ∧ 1 ≤ xs.length ∧ xs.length ≤ 4611686018427387904 ∧ proof.length = (WL (lkM (natL zs)) 0 xs.length).length ∧ Wide wd proof) := fun h0 => by
    obtain ⟨q1, q2, q3, q4, q5, q6, q7⟩ := mulA_ok (HE.out.trans h0)
    rw [LX_len] at q2
    obtain ⟨p1, p2, p3, p4⟩ := places_ok q1
    exact ⟨fun w' a1 a2 a3 => areAtC _ _ _ xs zs cs w' a1 a2 a3 p2 q2 (fun j hj => p3 j hj) q4, ⟨ris_of q1, p2⟩, q2, q3, q4, q5, q6⟩
  obtain ⟨n, HN⟩ : ∃ n, Hid (xs.length = n) := ⟨_, rfl⟩
  obtain ⟨m, HM⟩ : ∃ n, Hid (proof.length = n) := ⟨_, rfl⟩
  obtain ⟨c, HCN⟩ : ∃ n, Hid (cs.length = n) := ⟨_, rfl⟩
  obtain ⟨l, HLL⟩ : ∃ n, Hid (zs.length = n) := ⟨_, rfl⟩
  rw [HN.out] at RC IC RD OL hlc hlh hxm ACC ⊢
  rw [HM.out] at IC RD OL ACC ⊢
  rw [HCN.out] at HC RD OL hcc hch hfm ACC ⊢
  rw [HLL.out] at IC RD OL ACC htc ⊢
  obtain ⟨W, HW⟩ : ∃ W, Hid (W = ((w.alloc (.cells #[.slice ta l tc] 33)).alloc (.cells #[.slice ca c cc] 22)).alloc (.cells #[.string ⟨#[]⟩, .string ⟨#[]⟩, .bool false] 26)) := ⟨_, rfl⟩
  have hw : ((w.alloc (.cells #[.slice ta l tc] 33)).alloc (.cells #[.slice ca c cc] 22)).alloc (.cells #[.string ⟨#[]⟩, .string ⟨#[]⟩, .bool false] 26) = W := HW.out.symm
  obtain ⟨bw, x7, x8, x10⟩ := box113 w (.slice ta l tc) (.slice ca c cc) (.string ⟨#[]⟩) (.string ⟨#[]⟩) (.bool false) 33 22 26 W HW.out
  have BW : Hid (Below w.heap.size w W) := bw
  have HX : Hid (W.cell? ⟨w.heap.size, 0, none⟩ = some (.slice ta l tc) ∧ W.cell? ⟨w.heap.size + 1, 0, none⟩ = some (.slice ca c cc)) := ⟨x7, x8⟩
  have HR : Hid (W.heap[w.heap.size + 1 + 1]? = some (.cells #[.string ⟨#[]⟩, .string ⟨#[]⟩, .bool false] 26 (0, 0))) := x10
  have F4 : Hid (∀ w4, Below W.heap.size W w4 → w4.heap[w.heap.size + 1 + 1]? = some (.cells #[.string ⟨#[]⟩, .string ⟨#[]⟩, .bool false] 26 (0, 0))) := fun w4 k => (k.block _ (Array.getElem?_eq_some_iff.1 HR.out).1).trans HR.out
  have SX : Hid (∀ w', Below W.heap.size W w' → Below W.heap.size W w' ∧ w'.cell? ⟨w.heap.size, 0, none⟩ = some (.slice ta l tc) ∧ w'.cell? ⟨w.heap.size + 1, 0, none⟩ = some (.slice ca c cc)) := fun w' b => ⟨b, (b.cell (World.block_lt_of_cell? _ _ HX.out.1)).trans HX.out.1, (b.cell (World.block_lt_of_cell? _ _ HX.out.2)).trans HX.out.2⟩
  have HB0 : Hid (Below W.heap.size W W.drew) := below_dr (Below.refl _ _)
  have HB1 : Hid (∀ w1, Below W.drew.heap.size W.drew w1 → Below W.heap.size W w1) := fun w1 b => over HB0.out b
  have GD : Hid (∀ w', Below W.heap.size W w' → Tab w' ∧ ReadsT w' (.slice la n lc) xs ∧ ReadsT w' (.slice pa m pc) proof ∧ ReadsT w' (.slice ca c cc) cs ∧ ReadsI w' (.slice ta l tc) zs) := fun w' b => ⟨OL.out.2.2.2.1.down (over BW.out b), RD.out.1.later (over BW.out b), RD.out.2.1.later (over BW.out b), RD.out.2.2.1.later (over BW.out b), RD.out.2.2.2.later (over BW.out b)⟩
  clear hT hx hf zp x7 x8 x10 bw hlh hch hth
  by_cases h : E = 0
  · subst h
    rw [if_pos rfl]
    obtain ⟨aa, i1, i2, i3, i4, i5, i6⟩ := ACC.out rfl
    have AA : Hid (∀ w', ReadsT w' (.slice la n lc) xs → ReadsI w' (.slice ta l tc) zs → ReadsT w' (.slice ca c cc) cs → Calls _ _ _ _ _) := aa
    clear aa ACC
    by_cases hs : atP xs zs cs l
    · rw [if_pos hs]
      rw [decide_eq_true hs] at AA
      clear hs i1 i2 i3 i4 i5 i6
      go_enter Tryz.func14, Tryz.ntmps14
      go_wp2_with fail
      try rw [hw]
      go_region_held3 (fun w' => Below W.heap.size W w' ∧ w'.cell? ⟨w.heap.size, 0, none⟩ = some (.slice ta l tc) ∧ w'.cell? ⟨w.heap.size + 1, 0, none⟩ = some (.slice ca c cc)) (first | exact SX.out _ HB0.out | exact SX.out _ B1.out | exact SX.out _ B2.out | exact SX.out _ B3.out) (first | (go_at_call 30; refine (HC.out _ (GD.out _ HB0.out).1 (GD.out _ HB0.out).2.2.2.1).mono ?_; rintro e w1 ⟨⟨u, rfl, hu1⟩, hb1⟩; have B1 : Hid (Below W.heap.size W w1) := HB1.out w1 hb1; have U1 : Hid (ReadsT w1 u (LX wd cs)) := hu1; clear hb1 hu1) | (go_at_call 17; refine (RC.out _ (GD.out _ B1.out).1 (GD.out _ B1.out).2.1).mono ?_; rintro e w2 ⟨rfl, hb2⟩; have B2 : Hid (Below W.heap.size W w2) := over B1.out hb2; have U2 : Hid (ReadsT w2 u (LX wd cs)) := U1.out.later hb2; clear hb2) | (go_at_call 38; refine (IC.out _ _ (GD.out _ B2.out).1 (GD.out _ B2.out).2.2.1 U2.out (GD.out _ B2.out).2.2.2.2).mono ?_; rintro e w3 ⟨rfl, hb3⟩; have B3 : Hid (Below W.heap.size W w3) := over B2.out hb3; clear hb3))
      obtain ⟨b3, c7, c8⟩ := SX.out w3 B3.out
      clear b3
      go_wp2_with fail
      refine (AA.out _ (GD.out _ B3.out).2.1 (GD.out _ B3.out).2.2.2.2 (GD.out _ B3.out).2.2.2.1).mono ?_
      rintro e w4 ⟨rfl, m4, hw4⟩
      have B4 : Hid (Below W.heap.size W w4) := by rw [hw4]; exact below_dN B3.out _
      clear hw4 c7 c8
      have hr2 := F4.out w4 B4.out
      have e0 : w4.cell? ⟨w.heap.size + 1 + 1, 0, none⟩ = _ := cell_of_row _ _ 0 _ _ _ hr2
      have e1 : w4.cell? ⟨w.heap.size + 1 + 1, 1, none⟩ = _ := cell_of_row _ _ 1 _ _ _ hr2
      have e2 : w4.cell? ⟨w.heap.size + 1 + 1, 2, none⟩ = _ := cell_of_row _ _ 2 _ _ _ hr2
      have f0 := frozen_of_row _ _ 0 _ _ hr2
      have f1 := frozen_of_row _ _ 1 _ _ hr2
      have f2 := frozen_of_row _ _ 2 _ _ hr2
      have FIN : Hid (∀ W', W' = _ → _) := put3 w4 (w.heap.size + 1 + 1) _ _ _ (.string ⟨#[]⟩) (.string ⟨#[]⟩) (.bool false) _ hr2
      clear hr2
      go_wp2
      obtain ⟨G, hb⟩ := FIN.out _ rfl
      refine bodyPost_ret (by simp [results, Tryz.results14, go_sem, G.1, G.2.1, G.2.2]; try rfl) rfl ?_
      exact ⟨rfl, (over BW.out B4.out).trans (hb _ (by omega))⟩
    · rw [if_neg hs]
      rw [decide_eq_false hs] at AA
      have AC : Hid (∀ w4 V, Below W.heap.size W w4 → V = (w4.alloc (.cells #[.slice pa m pc] 41)).alloc (.cells #[.int .i64 wd, .func (.func 40) #[] #[.pointer (some ⟨w.heap.size, 0, none⟩)], .bool false, .func (.func 42) #[] #[.pointer (some ⟨w.heap.size, 0, none⟩), .pointer (some ⟨w.heap.size + 1, 0, none⟩)], .func (.func 20) #[.pointer (some ⟨w4.heap.size, 0, none⟩)] #[]] 48) → Calls Tryz.prog 21 #[.agg #[.int .i64 wd, .func (.func 40) #[] #[.pointer (some ⟨w.heap.size, 0, none⟩)], .bool false, .func (.func 42) #[] #[.pointer (some ⟨w.heap.size, 0, none⟩), .pointer (some ⟨w.heap.size + 1, 0, none⟩)], .func (.func 20) #[.pointer (some ⟨w4.heap.size, 0, none⟩)] #[]], .slice la n lc] V fun e w' => e = .returned (clV (fst1 (gw (HH wd) (lkM (natL zs)) (fun p => cs.getD (cnt zs p) ByteArray.empty) nx proof 0 n).1 (ownT wd (lkM (natL zs)) xs))) ∧ Below W.heap.size W w') := by
        intro w4 V hb4 hV
        obtain ⟨V1, hV1⟩ : ∃ V1, V1 = w4.alloc (.cells #[.slice pa m pc] 41) := ⟨_, rfl⟩
        rw [← hV1] at hV
        have b1 : Below w4.heap.size w4 V1 := by rw [hV1]; exact (Below.refl _ _).alloc (Nat.le_refl _) _
        have b2 : Below V1.heap.size V1 V := by rw [hV]; exact (Below.refl _ _).alloc (Nat.le_refl _) _
        have n1 : V1.heap[w4.heap.size]? = some (.cells #[.slice pa m pc] 41 (0, 0)) := by rw [hV1]; exact heap_alloc_new w4 _
        have z1 : V1.heap.size = w4.heap.size + 1 := by rw [hV1]; simp
        have bV : Below W.heap.size W V := over hb4 (over b1 b2)
        have bw := over BW.out bV
        have kk : Kp no w V := Kp.of_below bw
        have hp : KPile w.heap.size w4.heap.size proof V := ⟨(over BW.out hb4).size, _, (b2.block _ (by rw [z1]; omega)).trans n1, OL.out.2.1.keep kk (fun _ e => e.elim)⟩
        have lw : w.heap.size + 1 < w4.heap.size := by have h1 := hb4.size; have h2 : w.heap.size + 1 < W.heap.size := World.block_lt_of_cell? _ _ HX.out.2; omega
        have hS : wa.MS w.heap.size w4.heap.size w.heap.size (w.heap.size + 1) (.slice ta l tc) (.slice ca c cc) zs cs proof V := ⟨hp, (bV.cell (World.block_lt_of_cell? _ _ HX.out.1)).trans HX.out.1, OL.out.2.2.2.2.2.2.keep kk (fun _ e => e.elim), (bV.cell (World.block_lt_of_cell? _ _ HX.out.2)).trans HX.out.2, OL.out.2.2.1.keep kk (fun _ e => e.elim), OL.out.2.2.2.1.down bw⟩
        have z := againstC (multiFl (base := w.heap.size) (pb := w4.heap.size) (tb := w.heap.size) (cb := w.heap.size + 1) (N := xs.length) (n := c) (cap := cc) (ad := ca) (vt := .slice ta l tc) (wd := wd) (zs := zs) (cs := cs) (by rw [HN.out]; omega) OL.out.2.2.2.1.big (by omega) (by omega) i1 (by rw [HCN.out, HLL.out]; exact i2) OL.out.2.2.2.2.2.1) hwd (KS := fun w2 => w2.cell? ⟨w.heap.size, 0, none⟩ = some (.slice ta l tc) ∧ ReadsI w2 (.slice ta l tc) zs) (fun h => ⟨h.a, h.ar.reads⟩) (fun h hb => ⟨(hb.cell (World.block_lt_of_cell? _ _ h.1)).trans h.1, h.2.later hb⟩) w.heap.size (fun k e => by omega) la lc xs (by rw [HN.out]; omega) OL.out.2.2.2.2.1 (fun a b w _ _ hk => multi1 _ a b _ zs i1 w hk.1 hk.2) (fun _ _ h1 h2 => dirM _ h1 h2 _) proof V ⟨by rw [HN.out, HM.out, i5]; exact Nat.le_refl _, i6, Nat.le_refl _⟩ hS (by rw [HN.out]; exact OL.out.1.keep kk (fun _ e => e.elim))
        rw [HN.out] at z
        refine z.mono fun e w' h => ⟨h.1, ?_⟩
        have k2 : Below W.heap.size V w' := h.2.below (fun k e => by have := hb4.size; omega) bV.size
        exact bV.trans k2
      obtain ⟨O, HO⟩ : ∃ O, Hid (fst1 (gw (HH wd) (lkM (natL zs)) (fun p => cs.getD (cnt zs p) ByteArray.empty) nx proof 0 n).1 (ownT wd (lkM (natL zs)) xs) = O) := ⟨_, rfl⟩
      obtain ⟨g0, g1', g2', hgo⟩ := clV_of O
      rw [HO.out, hgo] at AC ⊢
      clear hs i1 i2 i3 i4 i5 i6 hgo HO
      go_enter Tryz.func14, Tryz.ntmps14
      go_wp2_with fail
      try rw [hw]
      go_region_held3 (fun w' => Below W.heap.size W w' ∧ w'.cell? ⟨w.heap.size, 0, none⟩ = some (.slice ta l tc) ∧ w'.cell? ⟨w.heap.size + 1, 0, none⟩ = some (.slice ca c cc)) (first | exact SX.out _ HB0.out | exact SX.out _ B1.out | exact SX.out _ B2.out | exact SX.out _ B3.out) (first | (go_at_call 30; refine (HC.out _ (GD.out _ HB0.out).1 (GD.out _ HB0.out).2.2.2.1).mono ?_; rintro e w1 ⟨⟨u, rfl, hu1⟩, hb1⟩; have B1 : Hid (Below W.heap.size W w1) := HB1.out w1 hb1; have U1 : Hid (ReadsT w1 u (LX wd cs)) := hu1; clear hb1 hu1) | (go_at_call 17; refine (RC.out _ (GD.out _ B1.out).1 (GD.out _ B1.out).2.1).mono ?_; rintro e w2 ⟨rfl, hb2⟩; have B2 : Hid (Below W.heap.size W w2) := over B1.out hb2; have U2 : Hid (ReadsT w2 u (LX wd cs)) := U1.out.later hb2; clear hb2) | (go_at_call 38; refine (IC.out _ _ (GD.out _ B2.out).1 (GD.out _ B2.out).2.2.1 U2.out (GD.out _ B2.out).2.2.2.2).mono ?_; rintro e w3 ⟨rfl, hb3⟩; have B3 : Hid (Below W.heap.size W w3) := over B2.out hb3; clear hb3))
      obtain ⟨b3, c7, c8⟩ := SX.out w3 B3.out
      clear b3
      go_wp2_with fail
      refine (AA.out _ (GD.out _ B3.out).2.1 (GD.out _ B3.out).2.2.2.2 (GD.out _ B3.out).2.2.2.1).mono ?_
      rintro e w4 ⟨rfl, m4, hw4⟩
      have B4 : Hid (Below W.heap.size W w4) := by rw [hw4]; exact below_dN B3.out _
      clear hw4 c7 c8
      obtain ⟨b4, c7, c8⟩ := SX.out (w4.alloc (.cells #[.slice pa m pc] 41)) (below_al B4.out _)
      clear b4
      go_wp2_with fail
      refine (AC.out w4 _ B4.out rfl).mono ?_
      rintro e w5 ⟨rfl, hb5⟩
      have B5 : Hid (Below W.heap.size W w5) := hb5
      clear hb5 c7 c8
      have hr2 := F4.out w5 B5.out
      have e0 : w5.cell? ⟨w.heap.size + 1 + 1, 0, none⟩ = _ := cell_of_row _ _ 0 _ _ _ hr2
      have e1 : w5.cell? ⟨w.heap.size + 1 + 1, 1, none⟩ = _ := cell_of_row _ _ 1 _ _ _ hr2
      have e2 : w5.cell? ⟨w.heap.size + 1 + 1, 2, none⟩ = _ := cell_of_row _ _ 2 _ _ _ hr2
      have f0 := frozen_of_row _ _ 0 _ _ hr2
      have f1 := frozen_of_row _ _ 1 _ _ hr2
      have f2 := frozen_of_row _ _ 2 _ _ hr2
      have FIN : Hid (∀ W', W' = _ → _) := put3 w5 (w.heap.size + 1 + 1) _ _ _ (.string g0) (.string g1') (.bool g2') _ hr2
      clear hr2
      go_wp2
      obtain ⟨G, hb⟩ := FIN.out _ rfl
      refine bodyPost_ret (by simp [results, Tryz.results14, go_sem, G.1, G.2.1, G.2.2]; try rfl) rfl ?_
      exact ⟨rfl, (over BW.out B5.out).trans (hb _ (by omega))⟩
  · rw [if_neg h]
    have q : (E == 0) = false := by rw [beq_eq_false_iff_ne]; exact h
    have q2 : (E != 0) = true := by rw [bne, q]; rfl
    clear h ACC
    go_enter Tryz.func14, Tryz.ntmps14
    go_wp2_with fail
    try rw [hw]
    go_region_held3 (fun w' => Below W.heap.size W w' ∧ w'.cell? ⟨w.heap.size, 0, none⟩ = some (.slice ta l tc) ∧ w'.cell? ⟨w.heap.size + 1, 0, none⟩ = some (.slice ca c cc)) (first | exact SX.out _ HB0.out | exact SX.out _ B1.out | exact SX.out _ B2.out | exact SX.out _ B3.out) (first | (go_at_call 30; refine (HC.out _ (GD.out _ HB0.out).1 (GD.out _ HB0.out).2.2.2.1).mono ?_; rintro e w1 ⟨⟨u, rfl, hu1⟩, hb1⟩; have B1 : Hid (Below W.heap.size W w1) := HB1.out w1 hb1; have U1 : Hid (ReadsT w1 u (LX wd cs)) := hu1; clear hb1 hu1) | (go_at_call 17; refine (RC.out _ (GD.out _ B1.out).1 (GD.out _ B1.out).2.1).mono ?_; rintro e w2 ⟨rfl, hb2⟩; have B2 : Hid (Below W.heap.size W w2) := over B1.out hb2; have U2 : Hid (ReadsT w2 u (LX wd cs)) := U1.out.later hb2; clear hb2) | (go_at_call 38; refine (IC.out _ _ (GD.out _ B2.out).1 (GD.out _ B2.out).2.2.1 U2.out (GD.out _ B2.out).2.2.2.2).mono ?_; rintro e w3 ⟨rfl, hb3⟩; have B3 : Hid (Below W.heap.size W w3) := over B2.out hb3; clear hb3))
    obtain ⟨b3, c7, c8⟩ := SX.out w3 B3.out
    clear b3
    have hr2 := F4.out w3 B3.out
    have e0 : w3.cell? ⟨w.heap.size + 1 + 1, 0, none⟩ = _ := cell_of_row _ _ 0 _ _ _ hr2
    have e1 : w3.cell? ⟨w.heap.size + 1 + 1, 1, none⟩ = _ := cell_of_row _ _ 1 _ _ _ hr2
    have e2 : w3.cell? ⟨w.heap.size + 1 + 1, 2, none⟩ = _ := cell_of_row _ _ 2 _ _ _ hr2
    have f0 := frozen_of_row _ _ 0 _ _ hr2
    have f1 := frozen_of_row _ _ 1 _ _ hr2
    have f2 := frozen_of_row _ _ 2 _ _ hr2
    have FIN : Hid (∀ W', W' = _ → _) := put3 w3 (w.heap.size + 1 + 1) _ _ _ (.string ⟨#[]⟩) (.string ⟨#[]⟩) (.bool false) _ hr2
    clear hr2
    go_wp2
    obtain ⟨G, hb⟩ := FIN.out _ rfl
    refine bodyPost_ret (by simp [results, Tryz.results14, go_sem, G.1, G.2.1, G.2.2]; try rfl) rfl ?_
    exact ⟨rfl, (over BW.out B3.out).trans (hb _ (by omega))⟩
end Go.Proofs.YthppkdjekfginaaGreatDoor.jw
