import Derived.RangeFuncNested
import Derived.RangeFuncBound
import Derived.RangeFuncCalls
import Derived.RangeFuncLeaves
import Derived.RangeFuncBox
import Derived.Shelf.Abstract
import Derived.Shelf.RegionOpen
import Derived.WalkKit
import Derived.OwnWalkIn
import Derived.TacticsInMore
import Derived.LoopNIn
import Derived.LoopIn
import Derived.Sort.QuietIn
import Derived.Maps.AppendAt
import Derived.Test.YtmmbkfagchaocaaDoorB1
namespace Go.Proofs.YtmmbkfagchaocaaDoor.xe
open Go.RowKit Go.Shelf Go.PlainAid
open Go.Proofs.YtmmbkfagchaocaaDoor.ca Go.Proofs.YtmmbkfagchaocaaDoor.cb Go.Proofs.YtmmbkfagchaocaaDoor.cp Go.Proofs.YtmmbkfagchaocaaDoor.cs Go.Proofs.YtmmbkfagchaocaaDoor.ct Go.Proofs.YtmmbkfagchaocaaDoor.xa Go.Proofs.YtmmbkfagchaocaaDoor.xc
set_option linter.unusedVariables false
theorem wide_fn (f : FuncId) : Fence.wide.fn f = True := rfl
theorem asked_wide (o : Oper) (P : Program) (a : Act) (C : World → Prop) : o.askedIn Fence.wide P a C = True := eq_true (fun _ _ _ _ => trivial)
attribute [local go_sem] Oper.semAt_some wide_fn asked_wide

theorem pieces (lo hi : Int) (w : World) : Calls Tryd.prog 63 #[.int .i64 lo, .int .i64 hi] w fun e w' => e = .returned (.func (.func 74) #[] #[.pointer (some ⟨w.heap.size, 0, none⟩), .pointer (some ⟨w.heap.size + 1, 0, none⟩)]) ∧ w' = (w.alloc (.cells #[.int .i64 lo] 3)).alloc (.cells #[.int .i64 hi] 3) := by
  have hmf : ∀ (fn : Fn) (first cap : Array Value) (w : World), (Instr.makeFunc fn first cap).run Tryd.prog w = .ok (.func fn first cap) w := fun _ _ _ _ => rfl
  go_enter Tryd.func63, Tryd.ntmps63
  go_wp2
  go_ret
  exact ⟨rfl, rfl⟩
-- what a round keeps: what lay below n, and the box b
def Kq (n b : Nat) (A B : World) : Prop := Below n A B ∧ B.cell? ⟨b, 0, none⟩ = A.cell? ⟨b, 0, none⟩
theorem Kq.trans {n b : Nat} {A B C : World} (h : Kq n b A B) (k : Kq n b B C) : Kq n b A C := ⟨h.1.trans k.1, k.2.trans h.2⟩
theorem tabB_below {n : Nat} {A B : World} (h : TabB A) (hb : Below n A B) (hd : 1 < n) : TabB B := fun j hj => (hb.cell (p := ⟨1, j, none⟩) hd).trans (h j hj)
set_option maxRecDepth 100000 in
set_option maxHeartbeats 2000000 in
theorem pieces1 (n : Nat) (hn : 1 ≤ n) (l bl bh n₀ lo hi : Nat) (hhi : hi ≤ 4611686018427387904) (hlo : lo ≤ hi) (hd : 1 < n₀) (J Jx : List (Nat × Nat) → World → Prop)
    (hD : ∀ pre W k, J pre W → J pre (W.drewN k))
    (hY : ∀ pre x W, J pre W → pre.length < (cov lo hi).length → YieldAt Fence.wide (n - 1) Tryd.prog l #[ad x] W fun e W' =>
      (e = .returned (.bool true) ∧ J (pre ++ [x]) W' ∧ Kq n₀ bh W W') ∨ (e = .returned (.bool false) ∧ Jx (pre ++ [x]) W'))
    (W : World) (hT : TabB W) (hcl : W.cell? ⟨bl, 0, none⟩ = some (.int .i64 lo)) (hch : W.cell? ⟨bh, 0, none⟩ = some (.int .i64 hi)) (h0 : J [] W) :
    CallsIn Fence.wide n Tryd.prog 74 #[.func (.yield l) #[] #[], .pointer (some ⟨bl, 0, none⟩), .pointer (some ⟨bh, 0, none⟩)] W fun e W' => (∃ v, e = .returned v) ∧
      ((∃ ys, ys = cov lo hi ∧ J ys W') ∨ (∃ pre, pre <+: cov lo hi ∧ Jx pre W')) := by
  have HY : Hid (∀ pre x W, J pre W → pre.length < (cov lo hi).length → YieldAt Fence.wide (n - 1) Tryd.prog l #[ad x] W fun e W' =>
      (e = .returned (.bool true) ∧ J (pre ++ [x]) W' ∧ Kq n₀ bh W W') ∨ (e = .returned (.bool false) ∧ Jx (pre ++ [x]) W')) := hY
  have HD0 : Hid (∀ pre W k, J pre W → J pre (W.drewN k)) := hD
  have HS : Hid (TabB W ∧ W.cell? ⟨bh, 0, none⟩ = some (.int .i64 hi) ∧ J [] W) := ⟨hT, hch, h0⟩
  obtain ⟨cv, HCV⟩ : ∃ cv, Hid (cov lo hi = cv) := ⟨_, rfl⟩
  rw [HCV.out] at HY ⊢
  clear hY hD hT hch h0
  refine callsIn_of_wp Tryd.func74 rfl trivial ?_ rfl
  simp only [Tryd.ntmps74, List.size_toArray, List.length_cons, List.length_nil, Nat.reduceAdd, Nat.reduceSub, Array.replicate_succ, Array.replicate_zero, List.push_toArray, List.append_toArray, List.nil_append, List.cons_append]
  gi_wp2
  gi_loopw [4] (fun p wr => ∃ (q : Nat) (pre : List (Nat × Nat)), q ≤ hi ∧ p = .int .i64 q ∧ Hid (pre ++ cov q hi = cv ∧ TabB wr ∧ wr.cell? ⟨bh, 0, none⟩ = some (.int .i64 hi) ∧ J pre wr)) (fun p _ => (hi - intOf p).toNat)
  case atStart => exact ⟨lo, [], hlo, rfl, HCV.out, HS.out.1, HS.out.2.1, HS.out.2.2⟩
  case round =>
    clear HS hcl
    obtain ⟨q, pre, hq, rfl, HL⟩ := hrel
    have c1 := HL.out.2.2.1
    by_cases hlt : q < hi
    · have hlt' : (q : Int) < hi := by omega
      obtain ⟨d, HD⟩ : ∃ d, Hid (hi - q = d) := ⟨_, rfl⟩
      obtain ⟨LV, b1, b2, z1⟩ := level q (hi - q) (by omega) (by omega) (by omega)
      rw [HD.out] at LV b1 b2
      have C1 : Hid (∀ w, TabB w → Calls _ _ _ _ _) := fun w h => zeros q w (by omega) h
      have C2 : Hid (∀ w, Calls _ _ _ _ _) := fun w => bitsN d w (by have := HD.out; omega)
      obtain ⟨z, HZ⟩ : ∃ z, Hid (zer q = z) := ⟨_, rfl⟩
      obtain ⟨b, HB⟩ : ∃ b, Hid (Lib.bitLen d = b + 1) := ⟨Lib.bitLen d - 1, by show _ = _; omega⟩
      rw [HB.out] at LV b2 C2
      rw [HZ.out] at LV z1 C1
      rw [Nat.add_sub_cancel] at LV
      have hw1 : IntKind.i64.wrap ((hi : Int) - (q : Int)) = (d : Int) := by have := HD.out; rw [IntKind.wrap_i64]; omega
      have hw2 : IntKind.i64.wrap (((b + 1 : Nat) : Int) - 1) = (b : Int) := by rw [IntKind.wrap_i64]; omega
      clear b1
      obtain ⟨k, HK⟩ : ∃ k, Hid (min z b = k) := ⟨_, rfl⟩
      rw [HK.out] at LV
      have hk := LV.1
      obtain ⟨t, HT⟩ : ∃ t : Nat, Hid (2 ^ k = t) := ⟨_, rfl⟩
      have htn : q + t ≤ hi := by have := LV.2.2.1; rw [HT.out] at this; have := HD.out; omega
      have ht0 : 0 < t := by rw [← HT.out]; exact p2 k
      have HC : Hid (cov q hi = (k, q / t) :: cov (q + t) hi) := by
        show _ = _
        rw [cov_at hlt (by rw [HD.out]; exact LV), HT.out]
      obtain ⟨x, HX⟩ : ∃ x, Hid (q / t = x) := ⟨_, rfl⟩
      rw [HX.out] at HC
      have HDS : Hid (pre ++ [(k, x)] ++ cov (q + t) hi = cv) := by
        show _ = _
        rw [← HL.out.1, HC.out, List.append_assoc]
        rfl
      have HLN : Hid (pre.length < cv.length) := by
        show _ < _
        rw [← HDS.out, List.length_append, List.length_append]
        simp
        omega
      have HMIN : Hid ((if b < z then (b : Int) else (z : Int)) = (k : Int)) := by
        show _ = _
        rw [← HK.out]
        split <;> omega
      clear LV
      gi_wp2
      gi_quiet (first | (gi_at_call 75; exact CallsIn.quiet_of_same (callsIn_wide.2 (C1.out _ HL.out.2.1))) | (gi_at_call 76; exact CallsIn.quiet_of_same (callsIn_wide.2 (C2.out _))))
      simp only [HMIN.out]
      have hT : (2 : Int) ^ k = (t : Int) := by rw [cast_pow, HT.out]
      have hdv : ((q : Int) / (t : Int)) = (x : Int) := by rw [← HX.out]; exact (Int.natCast_ediv q t).symm
      clear hw1 hw2 c1 z1 b2
      obtain ⟨fn, tmps, assign, body, hy, hR⟩ := HY.out pre (k, x) (wr.drewN nq) (HD0.out _ _ _ HL.out.2.2.2) HLN.out
      dsimp only [ad] at hy
      gi_wp2
      refine hR.mono ?_
      rintro e W3 (⟨rfl, hJ3, hk3⟩ | ⟨rfl, hJx3⟩)
      · have HJ3 : Hid (J (pre ++ [(k, x)]) W3) := hJ3
        have HK3 : Hid (Kq n₀ bh (wr.drewN nq) W3) := hk3
        clear hJ3 hk3 hy hR
        gi_wp2
        go_roundw
        case rel => exact ⟨q + t, pre ++ [(k, x)], htn, by go_num, HDS.out, tabB_below (A := wr.drewN nq) HL.out.2.1 HK3.out.1 hd, HK3.out.2.trans HL.out.2.2.1, HJ3.out⟩
        case measure => simp [intOf]; omega
      · have HJ3 : Hid (Jx (pre ++ [(k, x)]) W3) := hJx3
        clear hJx3 hy hR
        gi_wp2
        refine bodyPost_ret (results_none rfl _ _ _) rfl ?_
        exact ⟨⟨_, rfl⟩, .inr ⟨pre ++ [(k, x)], ⟨cov (q + t) hi, HDS.out⟩, HJ3.out⟩⟩
    · have hlt' : ¬ (q : Int) < hi := by omega
      have HE : Hid (pre = cv) := by have h := HL.out.1; rw [cov_end hlt, List.append_nil] at h; exact h
      gi_wp2
      go_end0
      have HJ : J cv wr := by rw [← HE.out]; exact HL.out.2.2.2
      first | exact ⟨⟨_, rfl⟩, .inl HJ⟩ | exact ⟨⟨_, rfl⟩, .inl ⟨cv, rfl, HJ⟩⟩
end Go.Proofs.YtmmbkfagchaocaaDoor.xe

namespace Go.Proofs.YtmmbkfagchaocaaDoor.xf
open Go.RowKit Go.Shelf Go.PlainAid
open Go.Proofs.YtmmbkfagchaocaaDoor.ca Go.Proofs.YtmmbkfagchaocaaDoor.cb Go.Proofs.YtmmbkfagchaocaaDoor.cp Go.Proofs.YtmmbkfagchaocaaDoor.cs Go.Proofs.YtmmbkfagchaocaaDoor.ct Go.Proofs.YtmmbkfagchaocaaDoor.xa Go.Proofs.YtmmbkfagchaocaaDoor.xc Go.Proofs.YtmmbkfagchaocaaDoor.xe
set_option linter.unusedVariables false
attribute [local go_sem] Oper.semAt_some

-- the pieces come one by one
theorem stops (n : Nat) (hn : 1 ≤ n) (bl bh n₀ lo hi : Nat) (hhi : hi ≤ 4611686018427387904) (hlo : lo ≤ hi) (hd : 1 < n₀) (w : World) (hT : TabB w) (hcl : w.cell? ⟨bl, 0, none⟩ = some (.int .i64 lo)) (hch : w.cell? ⟨bh, 0, none⟩ = some (.int .i64 hi)) :
    SeqStopsK Fence.wide n Tryd.prog 74 #[.pointer (some ⟨bl, 0, none⟩), .pointer (some ⟨bh, 0, none⟩)] (fun x : Nat × Nat => #[ad x]) (Kq n₀ bh) (fun ys => ys = cov lo hi) (fun pre => pre <+: cov lo hi) (cov lo hi).length w := fun l J Jx W hW hJ _ hY h0 =>
  pieces1 n hn l bl bh n₀ lo hi hhi hlo hd J Jx (fun pre W k h => hJ pre W (W.drewN k) none h ⟨rfl, rfl, rfl, Nat.le_refl _, fun _ _ _ => rfl⟩ (fun _ e => by cases e)) hY W (hT.later hW)
    ((hW.cell (p := ⟨bl, 0, none⟩) (World.block_lt_of_cell? _ _ hcl)).trans hcl) ((hW.cell (p := ⟨bh, 0, none⟩) (World.block_lt_of_cell? _ _ hch)).trans hch) h0
-- the loop's own variable
def Pair (W : World) (b : Nat) (x : Nat × Nat) : Prop := W.heap[b]? = some (.cells #[.int .i64 (x.1 : Nat), .int .i64 (x.2 : Nat)] 36 (0, 0))
theorem Pair.new (W : World) (x : Nat × Nat) : Pair (W.alloc (.cells #[.int .i64 (x.1 : Nat), .int .i64 (x.2 : Nat)] 36)) W.heap.size x := World.alloc_heap_new W _
theorem Pair.kept {X Y : World} {row : Option Nat} {b : Nat} {x : Nat × Nat} (h : Pair X b x) (hg : X.grownBy Y row) (hr : ∀ r, row = some r → ∃ o : Obj, X.heap[r]? = some o ∧ o.isCells = false) : Pair Y b x :=
  (hg.block b (Array.getElem?_eq_some_iff.1 h).1 (fun e => by obtain ⟨o, ho, hc⟩ := hr b e.symm; rw [show X.heap[b]? = _ from h] at ho; cases ho; cases hc)).trans h
set_option maxRecDepth 100000 in
set_option maxHeartbeats 4000000 in
theorem cover_in (n : Nat) (hn : 3 ≤ n) (lo hi : Nat) (hhi : hi ≤ 4611686018427387904) (hlo : lo ≤ hi) (w : World) (hT : TabB w) :
    CallsIn Fence.wide n Tryd.prog 49 #[.int .i64 lo, .int .i64 hi] w fun e W' => (∃ v, e = .returned (.tuple #[v, .int .i64 0]) ∧ W'.ownsRow w.heap.size 36 2 v (cov lo hi).length (cls (cov lo hi))) ∧ Below w.heap.size w W' := by
  have h1 : 1 ≤ n := by omega
  obtain ⟨iA, hi', hz0, hz1, hz2⟩ := info_parts hiA
  have HLN : Hid ((cov lo hi).length ≤ 122) := cov_len _ _ hlo (by rw [p62]; exact hhi)
  have hd : 1 < w.heap.size := World.block_lt_of_cell? _ _ (hT 0 (by omega))
  have t1 : ¬ (lo : Int) < 0 := by omega
  have t2 : ¬ (lo : Int) > hi := by omega
  have t3 : ¬ (hi : Int) > 4611686018427387904 := by omega
  have PC : Hid (∀ w, Calls _ _ _ _ _) := fun w => pieces lo hi w
  refine callsIn_of_wp_marks Tryd.func49 rfl trivial ?_ rfl
  simp only [Tryd.ntmps49, List.size_toArray, List.length_cons, List.length_nil, Nat.reduceAdd, Nat.reduceSub, Array.replicate_succ, Array.replicate_zero, List.push_toArray, List.append_toArray, List.nil_append, List.cons_append]
  gi_wp2_with ((try refine ⟨trivial, ?_⟩); gi_at_call 63; refine (callsIn_wide.2 (PC.out _)).mono ?_; rintro e w' ⟨rfl, rfl⟩)
  have bL := ((Boxed.new w 63 (.slice none 0 0)).alloc (.cells #[.int .i64 (lo : Int)] 3)).alloc (.cells #[.int .i64 (hi : Int)] 3)
  have bA := (Boxed.new (w.alloc (.cells #[.slice none 0 0] 63)) 3 (.int .i64 (lo : Int))).alloc (.cells #[.int .i64 (hi : Int)] 3)
  have bH := Boxed.new ((w.alloc (.cells #[.slice none 0 0] 63)).alloc (.cells #[.int .i64 (lo : Int)] 3)) 3 (.int .i64 (hi : Int))
  simp only [World.size_alloc] at bA bH
  have hB0 : Below w.heap.size w (((w.alloc (.cells #[.slice none 0 0] 63)).alloc (.cells #[.int .i64 (lo : Int)] 3)).alloc (.cells #[.int .i64 (hi : Int)] 3)) := (((Below.refl _ w).alloc (Nat.le_refl _) _).alloc (by simp) _).alloc (by simp; omega) _
  have hsz : (((w.alloc (.cells #[.slice none 0 0] 63)).alloc (.cells #[.int .i64 (lo : Int)] 3)).alloc (.cells #[.int .i64 (hi : Int)] 3)).heap.size = w.heap.size + 3 := by simp
  obtain ⟨W0, hW0⟩ : ∃ W0, ((w.alloc (.cells #[.slice none 0 0] 63)).alloc (.cells #[.int .i64 (lo : Int)] 3)).alloc (.cells #[.int .i64 (hi : Int)] 3) = W0 := ⟨_, rfl⟩
  rw [hW0] at bL bA bH hB0 hsz ⊢
  clear hW0
  refine wpIn_rangeFunc_ownH rfl h1 (gf := 74) (lb := #[.pointer (some ⟨w.heap.size + 1, 0, none⟩), .pointer (some ⟨w.heap.size + 1 + 1, 0, none⟩)]) rfl trivial (enters_of Tryd.func74 (by kernel_rfl) rfl)
    (stops (n - 1) (by omega) (w.heap.size + 1) (w.heap.size + 1 + 1) w.heap.size lo hi hhi hlo hd W0 (hT.later hB0) bA.cell bH.cell) Kq.trans
    (fun W l o o' hl ho hc hw => ⟨belowK_b (w := W0) (by omega) W l o o' hl ho hc hw, World.cell?_of_block (World.putObj_heap_other (show w.heap.size + 1 + 1 ≠ l by omega))⟩) (Below.refl _ _) (fun _ => rfl)
    (fun pre W => ((∃ v, Boxed W w.heap.size 63 v ∧ W.ownsRow w.heap.size 36 2 v pre.length (cls pre) ∧ True) ∧ Boxed W (w.heap.size + 1 + 1) 3 (.int .i64 (hi : Int))) ∧ Below w.heap.size w W)
    (fun _ _ _ => False)
    (OwnFrom.and (OwnFrom.and (Own.from (holdsRow_own w.heap.size w.heap.size 63 36 2 (fun pre => pre.length) (fun pre => cls pre) (fun _ _ => True)) _) (Own.from (boxed_own _ _ _) _)) (ownFrom_below (Nat.le_refl _) (by omega)))
    (fun _ _ _ _ _ hs _ _ => hs)
    ⟨⟨⟨_, bL, World.ownsRow_nil _ _ _ _, trivial⟩, bH⟩, hB0⟩
    (fun x a' W => ∃ Bx, Pair W Bx x ∧ a' = { tmps := #[.int .i64 (lo : Int), .int .i64 (hi : Int), undef, undef, .slice none 0 0, .int .i64 0, .pointer (some ⟨w.heap.size, 0, none⟩), .pointer (some ⟨Bx, 0, none⟩), .int .i64 (lo : Int), .bool false, .bool false, .int .i64 (lo : Int), .int .i64 (hi : Int), .bool false, .bool false, .bool false, .int .i64 (hi : Int), .bool false, .bool false, .int .i64 (lo : Int), .int .i64 (hi : Int), .func (.func 74) #[] #[.pointer (some ⟨w.heap.size + 1, 0, none⟩), .pointer (some ⟨w.heap.size + 1 + 1, 0, none⟩)], ad x, undef, undef, undef, undef, undef], defers := [] })
    (fun x a' _ X Y row hs hg hr => by obtain ⟨Bx, h2, h3⟩ := hs; exact ⟨Bx, h2.kept hg (fun r e => (hr r e).2), h3⟩)
    ?assign ?body ?done ?stop
  case assign =>
    rintro l pre x W K ⟨⟨⟨v, bv, hrow, _⟩, bH1⟩, hB1⟩ hK
    have HK : Hid (∀ (a' : Act) (W' : World), _) := hK
    clear hK
    dsimp only [ad]
    gi_wp2
    exact HK.out _ _ ((KeepsOthers.alloc _ _).from _) ⟨(Below.refl _ W).alloc hB1.size _, World.cell?_of_block (Below.heap_alloc W _ _ bH1.lt)⟩ ⟨⟨⟨v, bv.alloc _, hrow.alloc _, trivial⟩, bH1.alloc _⟩, hB1.alloc hB1.size _⟩ ⟨W.heap.size, Pair.new W x, rfl⟩
  case body =>
    rintro l pre x a' W hl ⟨r, hr⟩ ⟨⟨⟨v, hv, hrow, _⟩, bH1⟩, hB1⟩ ⟨Bx, hP, rfl⟩ hlt
    have hc := hv.cell
    have p1 : W.cell? ⟨Bx, 0, none⟩ = some (.int .i64 (x.1 : Nat)) := by rw [cell_of_row _ _ _ _ _ _ hP]; rfl
    have p2 : W.cell? ⟨Bx, 1, none⟩ = some (.int .i64 (x.2 : Nat)) := by rw [cell_of_row _ _ _ _ _ _ hP]; rfl
    have hpl : pre.length < 122 := Nat.lt_of_lt_of_le hlt HLN.out
    dsimp only [ad]
    gi_wp2_with (gi_at_builtin; refine wpListIn_append_own _ rfl _ _ 63 rfl w.heap.size 36 iA (.agg #[.int .i64 0, .int .i64 0]) 2 16 Tryd.underlying63 hi' hz0 hz1 hz2 rfl (by decide) _ _ _ rfl (hrow.alloc _) ⟨W.heap.size, 0, none⟩ 1 1 [.int .i64 (x.1 : Nat), .int .i64 (x.2 : Nat)] rfl rfl (two_cells _ _ _ _) (fun u hu => by simp at hu; rcases hu with rfl | rfl <;> rfl) (by unfold maxLen; omega) (by omega) (by have := hB1.size; simp; omega) ?_; intro v' w1 hown' hgrow _; obtain ⟨g', cap', rfl⟩ := ownsRow_succ hown'; have hbx1 := (bH1.alloc _).kept hgrow (bH1.not_row (by decide) hrow); obtain ⟨hv1, hv2, hr2, hk2, hb2⟩ := hv.appended (by decide) hrow hB1.size (Nat.le_refl _) hown' hgrow; have hc1 := hv1.cell; have hf1 := hv1.frozen)
    have hb3 := hbx1.other (show w.heap.size + 1 + 1 ≠ w.heap.size by omega) (.slice (some ⟨g', 0, none⟩) (pre.length + 1) cap')
    exact ⟨hk2.from _, ⟨hb2, hb3.cell.trans bH1.cell.symm⟩, ⟨⟨⟨_, hv2, by rw [List.length_append, cls_app]; exact hr2, trivial⟩, hb3⟩, hB1.trans hb2⟩⟩
  case done =>
    rintro D ys W hD rfl ⟨⟨⟨v, hv, hrow, _⟩, bH1⟩, hB1⟩ hK
    have hc := hv.cell
    gi_wp2
    refine ⟨by simp, .inl ⟨_, _, rfl, run_takeDeferred hK, ?_⟩⟩
    exact ⟨_, results_tmp2 rfl _ _ _, ⟨v, rfl, ownsRow_putObj hrow _ hK rfl⟩, hB1.trans (belowK_b (w := w) (Nat.le_refl _) W D _ _ (by omega) hK rfl rfl)⟩
  case stop =>
    rintro D c pre W _ _ h _
    exact h.elim
set_option maxRecDepth 100000 in
set_option maxHeartbeats 1600000 in
theorem cover_no (lo hi : Int) (h : ¬ okR lo hi) (w : World) :
    CallsIn Fence.wide 3 Tryd.prog 49 #[.int .i64 lo, .int .i64 hi] w fun e W' => e = .returned (.tuple #[.slice none 0 0, .int .i64 10]) ∧ W' = w := by
  unfold okR at h
  refine callsIn_of_wp_marks Tryd.func49 rfl trivial ?_ rfl
  simp only [Tryd.ntmps49, List.size_toArray, List.length_cons, List.length_nil, Nat.reduceAdd, Nat.reduceSub, Array.replicate_succ, Array.replicate_zero, List.push_toArray, List.append_toArray, List.nil_append, List.cons_append]
  by_cases a1 : lo < 0
  · clear h
    gi_wp2
    exact ⟨_, results_tmp2 rfl _ _ _, rfl, rfl⟩
  · by_cases a2 : lo > hi
    · clear h
      gi_wp2
      exact ⟨_, results_tmp2 rfl _ _ _, rfl, rfl⟩
    · have a3 : hi > 4611686018427387904 := by omega
      clear h
      gi_wp2
      exact ⟨_, results_tmp2 rfl _ _ _, rfl, rfl⟩
theorem coverC : CoverC TabB where
  later := fun h hb => h.later hb
  covers := fun lo hi h0 h1 w hT => by
    by_cases hok : okR lo hi
    · obtain ⟨p0, rfl⟩ : ∃ p : Nat, lo = p := ⟨lo.toNat, by have := hok.1; omega⟩
      obtain ⟨n, rfl⟩ : ∃ n : Nat, hi = n := ⟨hi.toNat, by have := hok.1; have := hok.2.1; omega⟩
      refine ((callsIn_wide (n := 3)).1 (cover_in 3 (by omega) p0 n (by have := hok.2.2; omega) (by have := hok.2.1; omega) w hT)).mono ?_
      rintro e w' ⟨⟨v, rfl, ho⟩, hb⟩
      have HI : covI p0 n = cov p0 n := by unfold covI; rw [if_pos hok]; rfl
      have HE : covE p0 n = 0 := by unfold covE; rw [if_pos hok]
      exact ⟨⟨v, by rw [HE], by rw [HI]; exact ho⟩, hb⟩
    · refine ((callsIn_wide (n := 3)).1 (cover_no lo hi hok w)).mono ?_
      rintro e w' ⟨rfl, rfl⟩
      have HI : covI lo hi = [] := by unfold covI; rw [if_neg hok]
      have HE : covE lo hi = 10 := by unfold covE; rw [if_neg hok]
      exact ⟨⟨_, by rw [HE], by rw [HI]; exact World.ownsRow_nil _ _ _ _⟩, Below.refl _ _⟩
end Go.Proofs.YtmmbkfagchaocaaDoor.xf
