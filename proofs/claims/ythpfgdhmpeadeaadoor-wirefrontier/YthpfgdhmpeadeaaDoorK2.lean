import Derived.RangeFuncNested
import Derived.RangeFuncBound
import Derived.RangeFuncCalls
import Derived.RangeFuncLeaves
import Derived.RangeFuncBox
import Derived.Shelf.Abstract
import Derived.Shelf.RegionOpen
import Derived.WalkKit
import Derived.OwnWalkIn
import Derived.TacticsInMore
import Derived.LoopNIn
import Derived.LoopIn
import Derived.Sort.QuietIn
import Derived.Maps.AppendAt
import Derived.Test.YthpfgdhmpeadeaaDoorG2
namespace Go.Proofs.YthpfgdhmpeadeaaDoor.xe
open Go.RowKit Go.Shelf Go.PlainAid
open Go.Proofs.YthpfgdhmpeadeaaDoor.ca Go.Proofs.YthpfgdhmpeadeaaDoor.cb Go.Proofs.YthpfgdhmpeadeaaDoor.cp Go.Proofs.YthpfgdhmpeadeaaDoor.cs Go.Proofs.YthpfgdhmpeadeaaDoor.ct Go.Proofs.YthpfgdhmpeadeaaDoor.xa Go.Proofs.YthpfgdhmpeadeaaDoor.xc
set_option linter.unusedVariables false
theorem wide_fn (f : FuncId) : Fence.wide.fn f = True := rfl
theorem asked_wide (o : Oper) (P : Program) (a : Act) (C : World → Prop) : o.askedIn Fence.wide P a C = True := eq_true (fun _ _ _ _ => trivial)
attribute [local go_sem] Oper.semAt_some wide_fn asked_wide

theorem pieces (lo hi : Int) (w : World) : Calls Tryd.prog 53 #[.int .i64 lo, .int .i64 hi] w fun e w' => e = .returned (.func (.func 81) #[] #[.pointer (some ⟨w.heap.size, 0, none⟩), .pointer (some ⟨w.heap.size + 1, 0, none⟩)]) ∧ w' = (w.alloc (.cells #[.int .i64 lo] 3)).alloc (.cells #[.int .i64 hi] 3) := by
  have hmf : ∀ (fn : Fn) (first cap : Array Value) (w : World), (Instr.makeFunc fn first cap).run Tryd.prog w = .ok (.func fn first cap) w := fun _ _ _ _ => rfl
  go_enter Tryd.func53, Tryd.ntmps53
  go_wp2
  go_ret
  exact ⟨rfl, rfl⟩
-- what a round keeps: what lay below n, and the box b
def Kq (n b : Nat) (A B : World) : Prop := Below n A B ∧ B.cell? ⟨b, 0, none⟩ = A.cell? ⟨b, 0, none⟩
theorem Kq.trans {n b : Nat} {A B C : World} (h : Kq n b A B) (k : Kq n b B C) : Kq n b A C := ⟨h.1.trans k.1, k.2.trans h.2⟩
theorem tabB_below {n : Nat} {A B : World} (h : TabB A) (hb : Below n A B) (hd : 0 < n) : TabB B := fun j hj => (hb.cell (p := ⟨0, j, none⟩) hd).trans (h j hj)
set_option maxRecDepth 100000 in
set_option maxHeartbeats 2000000 in
theorem pieces1 (n : Nat) (hn : 1 ≤ n) (l bl bh n₀ lo hi : Nat) (hhi : hi ≤ 4611686018427387904) (hlo : lo ≤ hi) (hd : 0 < n₀) (J Jx : List (Nat × Nat) → World → Prop)
    (hD : ∀ pre W k, J pre W → J pre (W.drewN k))
    (hY : ∀ pre x W, J pre W → pre.length < (cov lo hi).length → YieldAt Fence.wide (n - 1) Tryd.prog l #[ad x] W fun e W' =>
      (e = .returned (.bool true) ∧ J (pre ++ [x]) W' ∧ Kq n₀ bh W W') ∨ (e = .returned (.bool false) ∧ Jx (pre ++ [x]) W'))
    (W : World) (hT : TabB W) (hcl : W.cell? ⟨bl, 0, none⟩ = some (.int .i64 lo)) (hch : W.cell? ⟨bh, 0, none⟩ = some (.int .i64 hi)) (h0 : J [] W) :
    CallsIn Fence.wide n Tryd.prog 81 #[.func (.yield l) #[] #[], .pointer (some ⟨bl, 0, none⟩), .pointer (some ⟨bh, 0, none⟩)] W fun e W' => (∃ v, e = .returned v) ∧
      ((∃ ys, ys = cov lo hi ∧ J ys W') ∨ (∃ pre, pre <+: cov lo hi ∧ Jx pre W')) := by
  have HY : Hid (∀ pre x W, J pre W → pre.length < (cov lo hi).length → YieldAt Fence.wide (n - 1) Tryd.prog l #[ad x] W fun e W' =>
      (e = .returned (.bool true) ∧ J (pre ++ [x]) W' ∧ Kq n₀ bh W W') ∨ (e = .returned (.bool false) ∧ Jx (pre ++ [x]) W')) := hY
  have HD0 : Hid (∀ pre W k, J pre W → J pre (W.drewN k)) := hD
  have HS : Hid (TabB W ∧ W.cell? ⟨bh, 0, none⟩ = some (.int .i64 hi) ∧ J [] W) := ⟨hT, hch, h0⟩
  obtain ⟨cv, HCV⟩ : ∃ cv, Hid (cov lo hi = cv) := ⟨_, rfl⟩
  rw [HCV.out] at HY ⊢
  clear hY hD hT hch h0
  refine callsIn_of_wp Tryd.func81 rfl trivial ?_ rfl
  simp only [Tryd.ntmps81, List.size_toArray, List.length_cons, List.length_nil, Nat.reduceAdd, Nat.reduceSub, Array.replicate_succ, Array.replicate_zero, List.push_toArray, List.append_toArray, List.nil_append, List.cons_append]
  gi_wp2
  gi_loopw [4] (fun p wr => ∃ (q : Nat) (pre : List (Nat × Nat)), q ≤ hi ∧ p = .int .i64 q ∧ Hid (pre ++ cov q hi = cv ∧ TabB wr ∧ wr.cell? ⟨bh, 0, none⟩ = some (.int .i64 hi) ∧ J pre wr)) (fun p _ => (hi - intOf p).toNat)
  case atStart => exact ⟨lo, [], hlo, rfl, HCV.out, HS.out.1, HS.out.2.1, HS.out.2.2⟩
  case round =>
    clear HS hcl
    obtain ⟨q, pre, hq, rfl, HL⟩ := hrel
    have c1 := HL.out.2.2.1
    by_cases hlt : q < hi
    · have hlt' : (q : Int) < hi := by omega
      obtain ⟨d, HD⟩ : ∃ d, Hid (hi - q = d) := ⟨_, rfl⟩
      obtain ⟨LV, b1, b2, z1⟩ := level q (hi - q) (by omega) (by omega) (by omega)
      rw [HD.out] at LV b1 b2
      have C1 : Hid (∀ w, TabB w → Calls _ _ _ _ _) := fun w h => zeros q w (by omega) h
      have C2 : Hid (∀ w, Calls _ _ _ _ _) := fun w => bitsN d w (by have := HD.out; omega)
      obtain ⟨z, HZ⟩ : ∃ z, Hid (zer q = z) := ⟨_, rfl⟩
      obtain ⟨b, HB⟩ : ∃ b, Hid (Lib.bitLen d = b + 1) := ⟨Lib.bitLen d - 1, by show _ = _; omega⟩
      rw [HB.out] at LV b2 C2
      rw [HZ.out] at LV z1 C1
      rw [Nat.add_sub_cancel] at LV
      have hw1 : IntKind.i64.wrap ((hi : Int) - (q : Int)) = (d : Int) := by have := HD.out; rw [IntKind.wrap_i64]; omega
      have hw2 : IntKind.i64.wrap (((b + 1 : Nat) : Int) - 1) = (b : Int) := by rw [IntKind.wrap_i64]; omega
      clear b1
      obtain ⟨k, HK⟩ : ∃ k, Hid (min z b = k) := ⟨_, rfl⟩
      rw [HK.out] at LV
      have hk := LV.1
      obtain ⟨t, HT⟩ : ∃ t : Nat, Hid (2 ^ k = t) := ⟨_, rfl⟩
      have htn : q + t ≤ hi := by have := LV.2.2.1; rw [HT.out] at this; have := HD.out; omega
      have ht0 : 0 < t := by rw [← HT.out]; exact p2 k
      have HC : Hid (cov q hi = (k, q / t) :: cov (q + t) hi) := by
        show _ = _
        rw [cov_at hlt (by rw [HD.out]; exact LV), HT.out]
      obtain ⟨x, HX⟩ : ∃ x, Hid (q / t = x) := ⟨_, rfl⟩
      rw [HX.out] at HC
      have HDS : Hid (pre ++ [(k, x)] ++ cov (q + t) hi = cv) := by
        show _ = _
        rw [← HL.out.1, HC.out, List.append_assoc]
        rfl
      have HLN : Hid (pre.length < cv.length) := by
        show _ < _
        rw [← HDS.out, List.length_append, List.length_append]
        simp
        omega
      have HMIN : Hid ((if b < z then (b : Int) else (z : Int)) = (k : Int)) := by
        show _ = _
        rw [← HK.out]
        split <;> omega
      clear LV
      gi_wp2
      gi_quiet (first | (gi_at_call 82; exact CallsIn.quiet_of_same (callsIn_wide.2 (C1.out _ HL.out.2.1))) | (gi_at_call 83; exact CallsIn.quiet_of_same (callsIn_wide.2 (C2.out _))))
      simp only [HMIN.out]
      have hT : (2 : Int) ^ k = (t : Int) := by rw [cast_pow, HT.out]
      have hdv : ((q : Int) / (t : Int)) = (x : Int) := by rw [← HX.out]; exact (Int.natCast_ediv q t).symm
      clear hw1 hw2 c1 z1 b2
      obtain ⟨fn, tmps, assign, body, hy, hR⟩ := HY.out pre (k, x) (wr.drewN nq) (HD0.out _ _ _ HL.out.2.2.2) HLN.out
      dsimp only [ad] at hy
      gi_wp2
      refine hR.mono ?_
      rintro e W3 (⟨rfl, hJ3, hk3⟩ | ⟨rfl, hJx3⟩)
      · have HJ3 : Hid (J (pre ++ [(k, x)]) W3) := hJ3
        have HK3 : Hid (Kq n₀ bh (wr.drewN nq) W3) := hk3
        clear hJ3 hk3 hy hR
        gi_wp2
        go_roundw
        case rel => exact ⟨q + t, pre ++ [(k, x)], htn, by go_num, HDS.out, tabB_below (A := wr.drewN nq) HL.out.2.1 HK3.out.1 hd, HK3.out.2.trans HL.out.2.2.1, HJ3.out⟩
        case measure => simp [intOf]; omega
      · have HJ3 : Hid (Jx (pre ++ [(k, x)]) W3) := hJx3
        clear hJx3 hy hR
        gi_wp2
        refine bodyPost_ret (results_none rfl _ _ _) rfl ?_
        exact ⟨⟨_, rfl⟩, .inr ⟨pre ++ [(k, x)], ⟨cov (q + t) hi, HDS.out⟩, HJ3.out⟩⟩
    · have hlt' : ¬ (q : Int) < hi := by omega
      have HE : Hid (pre = cv) := by have h := HL.out.1; rw [cov_end hlt, List.append_nil] at h; exact h
      gi_wp2
      go_end0
      have HJ : J cv wr := by rw [← HE.out]; exact HL.out.2.2.2
      first | exact ⟨⟨_, rfl⟩, .inl HJ⟩ | exact ⟨⟨_, rfl⟩, .inl ⟨cv, rfl, HJ⟩⟩
end Go.Proofs.YthpfgdhmpeadeaaDoor.xe
