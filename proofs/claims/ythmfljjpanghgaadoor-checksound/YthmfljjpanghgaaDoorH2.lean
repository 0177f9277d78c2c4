import Derived.Test.YthmfljjpanghgaaDoorH1
import Derived.Test.YthmfljjpanghgaaDoorG4
namespace Go.Proofs.YthmfljjpanghgaaDoor.ze
open Go.RowKit Go.PlainAid
open Go.Proofs.YthmfljjpanghgaaDoor.pl Go.Proofs.YthmfljjpanghgaaDoor.pi Go.Proofs.YthmfljjpanghgaaDoor.pj Go.Proofs.YthmfljjpanghgaaDoor.rf Go.Proofs.YthmfljjpanghgaaDoor.ca Go.Proofs.YthmfljjpanghgaaDoor.cb Go.Proofs.YthmfljjpanghgaaDoor.cp Go.Proofs.YthmfljjpanghgaaDoor.ga Go.Proofs.YthmfljjpanghgaaDoor.aa Go.Proofs.YthmfljjpanghgaaDoor.ka Go.Proofs.YthmfljjpanghgaaDoor.kb Go.Proofs.YthmfljjpanghgaaDoor.kc Go.Proofs.YthmfljjpanghgaaDoor.kp Go.Proofs.YthmfljjpanghgaaDoor.lk Go.Proofs.YthmfljjpanghgaaDoor.mi Go.Proofs.YthmfljjpanghgaaDoor.lm Go.Proofs.YthmfljjpanghgaaDoor.co Go.Proofs.YthmfljjpanghgaaDoor.cn Go.Proofs.YthmfljjpanghgaaDoor.qb Go.Proofs.YthmfljjpanghgaaDoor.qc Go.Proofs.YthmfljjpanghgaaDoor.qg Go.Proofs.YthmfljjpanghgaaDoor.qj Go.Proofs.YthmfljjpanghgaaDoor.qm Go.Proofs.YthmfljjpanghgaaDoor.za Go.Proofs.YthmfljjpanghgaaDoor.zb Go.Proofs.YthmfljjpanghgaaDoor.zc Go.Proofs.YthmfljjpanghgaaDoor.zd
set_option linter.unusedVariables false

theorem mul_key {wd n : Int} {xs : List Int} {hs proof : List ByteArray} {root : ByteArray} (h : mulA wd n xs hs proof root = 0) : ∃ N : Nat, n = N ∧ 1 ≤ N ∧ N ≤ 4611686018427387904 ∧ (∀ p ∈ xs, (0 : Int) ≤ p) ∧ Wide wd hs ∧ Wide wd proof ∧ proof.length = (WL (lkM (natL xs)) 0 N).length ∧ hs.length = (WL (fl (lkM (natL xs))) 0 N).length := by
  unfold mulA at h
  by_cases g0 : (cnt9 4 0 0 n xs).2 = 0
  · rw [if_pos g0] at h
    by_cases g1 : hs.length = xs.length
    · rw [if_pos g1] at h
      unfold qm.seen at h
      by_cases g2 : rH wd (cnt9 4 0 0 n xs).1 proof (root :: hs) = 0
      · unfold rH at g2
        by_cases q : (okH wd (root :: hs) && okH wd proof) = true
        · rw [if_pos q] at g2
          rw [Bool.and_eq_true] at q
          have q1 := okH_wide q.1
          by_cases q2 : (proof.length : Int) = (cnt9 4 0 0 n xs).1
          · obtain ⟨N, rfl, n1, n2, n3, n4⟩ := mul_ok g0
            rw [n4] at q2
            have hr := ris_of n3
            obtain ⟨p1, p2, p3, p4⟩ := places_ok n3
            have hcl2 := claimsM hr N 0 N rfl (by omega)
            rw [cnt_zero hr, cnt_all hr (fun j hj => (p3 j hj).2)] at hcl2
            refine ⟨N, rfl, n1, n2, fun p hp => ?_, fun x hx => q1 x (List.mem_cons_of_mem _ hx), okH_wide q.2, by simp only at q2; omega, by omega⟩
            obtain ⟨j, hj, rfl⟩ := List.getElem_of_mem hp
            have := (p3 j hj).1
            rwa [List.getD_eq_getElem?_getD, List.getElem?_eq_getElem hj] at this
          · rw [if_neg q2] at g2; omega
        · rw [if_neg q] at g2; omega
      · rw [if_neg g2] at h; exact absurd h g2
    · rw [if_neg g1] at h; omega
  · rw [if_neg g0] at h; exact absurd h g0
theorem own_reads {w : World} {B n : Nat} {v : Value} {T : List ByteArray} (h : w.ownsRow B 9 1 v n (T.map Value.string)) (hn : T.length = n) : ReadsT w v T := by
  rcases ts.own_form h with ⟨a, c, rfl⟩
  rcases h.2 with ⟨e, e2⟩ | ⟨g, cap, cur, e, _, _, hc, _⟩
  · injection e with e1 _ e3
    subst e1 e3
    exact ⟨none, 0, by rw [hn], by omega, .inl (by omega)⟩
  · injection e with e1 _ e3
    subst e1 e3
    refine ⟨_, _, by rw [hn], by omega, .inr ⟨g, 0, rfl, fun i hi => ?_⟩⟩
    rw [Nat.zero_add, h.cellAt i (by omega), List.getElem?_map, List.getElem?_eq_getElem hi, List.getD_eq_getElem?_getD, List.getElem?_eq_getElem hi]
    rfl
-- two claims reckoned one behind the other
theorem two_hash (wd : Int) (w : World) (va : Value) (xs : List Int) (hx : ReadsI w va xs) (zx : xs.length ≤ 140737488355328) (hT : Tab w) (v1 v2 v3 v4 : Value) (ah ap bh bp : List ByteArray) (r1 : ReadsT w v1 ah) (r2 : ReadsT w v2 ap) (r3 : ReadsT w v3 bh) (r4 : ReadsT w v4 bp)
    (z1 : ah.length ≤ 140737488355328) (z2 : ap.length ≤ 140737488355328) (z3 : bh.length ≤ 140737488355328) (z4 : bp.length ≤ 140737488355328) (n : Int) (hn : n ≤ 1048576) (root : ByteArray) (e1 : mulA wd n xs ah ap root = 0) (e2 : mulA wd n xs bh bp root = 0) (hu : ¬ (ah = bh ∧ ap = bp)) :
    ∀ W1, Below w.heap.size w W1 → Calls Tryd.prog 10 #[.pointer (some ⟨W1.heap.size, 0, none⟩), .int .i64 wd, .int .i64 0, .int .i64 n, va] ((W1.alloc (.cells #[v1, v2, .int .i64 0, .int .i64 0, .slice none 0 0] 32)).alloc (.cells #[v3, v4, .int .i64 0, .int .i64 0, .slice none 0 0] 32)) fun e W4 => e = .returned (.string root) ∧
      Calls Tryd.prog 10 #[.pointer (some ⟨W1.heap.size + 1, 0, none⟩), .int .i64 wd, .int .i64 0, .int .i64 n, va] W4 fun e W5 => e = .returned (.string root) ∧ Below w.heap.size w W5 ∧
        ∃ x1 l1 x2 x3 l3 x4, W5.cell? ⟨W1.heap.size, 4, none⟩ = some (.slice x1 l1 x2) ∧ W5.cell? ⟨W1.heap.size + 1, 4, none⟩ = some (.slice x3 l3 x4) ∧ ∀ W, Below W5.heap.size W5 W → Calls Tryd.prog 11 #[.int .i64 wd, .slice x1 l1 x2, .slice x3 l3 x4] W fun e w' => e = .returned (.bool true) ∧ Below W.heap.size W w' := by
  intro W1 hb1
  obtain ⟨W3, HW3⟩ : ∃ W, W = ((W1.alloc (.cells #[v1, v2, .int .i64 0, .int .i64 0, .slice none 0 0] 32)).alloc (.cells #[v3, v4, .int .i64 0, .int .i64 0, .slice none 0 0] 32)) := ⟨_, rfl⟩
  rw [← HW3]
  have bA : Below W1.heap.size W1 (W1.alloc (.cells #[v1, v2, .int .i64 0, .int .i64 0, .slice none 0 0] 32)) := (Below.refl _ _).alloc (Nat.le_refl _) _
  have bB : Below (W1.alloc (.cells #[v1, v2, .int .i64 0, .int .i64 0, .slice none 0 0] 32)).heap.size (W1.alloc (.cells #[v1, v2, .int .i64 0, .int .i64 0, .slice none 0 0] 32)) W3 := by rw [HW3]; exact (Below.refl _ _).alloc (Nat.le_refl _) _
  have sA : (W1.alloc (.cells #[v1, v2, .int .i64 0, .int .i64 0, .slice none 0 0] 32)).heap.size = W1.heap.size + 1 := by simp
  have sB : W3.heap.size = W1.heap.size + 2 := by rw [HW3]; simp
  have RA : W3.heap[W1.heap.size]? = some (.cells #[v1, v2, .int .i64 0, .int .i64 0, .slice none 0 0] 32 (0, 0)) := (bB.block _ (by rw [sA]; omega)).trans (heap_alloc_new W1 _)
  have RB : W3.heap[W1.heap.size + 1]? = some (.cells #[v3, v4, .int .i64 0, .int .i64 0, .slice none 0 0] 32 (0, 0)) := by rw [HW3, ← sA]; exact heap_alloc_new _ _
  obtain ⟨N, rfl, n1, n2, h0, wh, wp, lp, lh⟩ := mul_key e1
  obtain ⟨N', hNN, _, _, _, wh', wp', lp', lh'⟩ := mul_key e2
  obtain rfl : N = N' := by omega
  obtain ⟨g1, g2, g3⟩ := sound_mul e1 e2 hu
  rw [Int.toNat_natCast] at g1 g2 g3
  have XA : Wx w W3.heap.size W1.heap.size v1 v2 0 0 [] W3 := ⟨over (over hb1 bA) bB, hb1.size, by omega, Nat.le_refl _, _, RA, World.ownsRow_nil _ _ _ _⟩
  have c1 := hashC wd w W3.heap.size W1.heap.size v1 v2 va ah ap xs r1 r2 hx hT z1 z2 zx wh wp h0 N 0 N 0 0 [] W3 rfl (by omega) n2 XA (by omega) (by omega) (by simp; omega)
  refine c1.mono fun e W4 hh => ?_
  unfold Hsd at hh
  simp only [List.drop_zero, List.nil_append] at hh
  obtain ⟨he, X4, K4⟩ := hh
  rw [g1] at he
  refine ⟨he, ?_⟩
  have RB4 : W4.heap[W1.heap.size + 1]? = some (.cells #[v3, v4, .int .i64 0, .int .i64 0, .slice none 0 0] 32 (0, 0)) := (K4.block _ (by omega) (by unfold FX; omega)).trans RB
  have s4 := K4.size
  have XB : Wx w W4.heap.size (W1.heap.size + 1) v3 v4 0 0 [] W4 := ⟨X4.fr, by have := hb1.size; omega, by omega, Nat.le_refl _, _, RB4, World.ownsRow_nil _ _ _ _⟩
  have c2 := hashC wd w W4.heap.size (W1.heap.size + 1) v3 v4 va bh bp xs r3 r4 hx hT z3 z4 zx wh' wp' h0 N 0 N 0 0 [] W4 rfl (by omega) n2 XB (by omega) (by omega) (by simp; omega)
  refine c2.mono fun e W5 hh => ?_
  unfold Hsd at hh
  simp only [List.drop_zero, List.nil_append] at hh
  obtain ⟨he2, X5, K5⟩ := hh
  rw [g2] at he2
  refine ⟨he2, X5.fr, ?_⟩
  obtain ⟨vt, R4, own4⟩ := X4.box
  obtain ⟨vt', R5, own5⟩ := X5.box
  have t4 := own_reads own4 rfl
  have t5 := own_reads own5 rfl
  have R4' := (K5.block _ (Array.getElem?_eq_some_iff.1 R4).1 (by unfold FX; omega)).trans R4
  have t45 : ReadsT W5 vt (tx wd (lkM (natL xs)) ah ap 0 N) := by
    obtain ⟨a, c, rfl, hc, hh⟩ := t4
    refine ⟨a, c, rfl, hc, hh.imp id fun ⟨b, off, e, hcell⟩ => ⟨b, off, e, fun i hi => K5.cell (hcell i hi) ?_⟩⟩
    have hlt := World.block_lt_of_cell? _ _ (hcell i hi)
    have hge : W3.heap.size ≤ b := by
      rcases own4.2 with ⟨e', e2⟩ | ⟨g, cap, cur, e', hg, _⟩
      · rw [e2] at hi; omega
      · injection e' with e' _ _
        rw [e] at e'
        injection e' with e'
        injection e' with e' _ _
        omega
    unfold FX
    have : b < W4.heap.size := hlt
    omega
  obtain ⟨x1, x2, ev, _⟩ := t45
  obtain ⟨x3, x4, ev', _⟩ := t5
  have T45 : ReadsT W5 vt (tx wd (lkM (natL xs)) ah ap 0 N) := ⟨x1, x2, ev, by assumption⟩
  have T5 := own_reads own5 rfl
  refine ⟨x1, (tx wd (lkM (natL xs)) ah ap 0 N).length, x2, x3, (tx wd (lkM (natL xs)) bh bp 0 N).length, x4, ?_, ?_, fun W hW => ?_⟩
  · rw [← ev]; exact cell_of_row _ _ 4 _ _ _ R4'
  · rw [← ev']; exact cell_of_row _ _ 4 _ _ _ R5
  · rw [← ev, ← ev']
    have tl := tx_len wd (lkM (natL xs)) N 0 N bh bp ah ap rfl
    have tc := tx_count wd (lkM (natL xs)) N 0 N ah ap rfl (by omega)
    exact clashC wd vt vt' _ _ W (T45.later hW) (T5.later hW) tl (by omega) (tx_wide wd (lk := lkM (natL xs)) wideM (two_M _) N 0 N ah ap rfl (by omega) wh wp (by omega) (by omega)) (tx_wide wd (lk := lkM (natL xs)) wideM (two_M _) N 0 N bh bp rfl (by omega) wh' wp' (by omega) (by omega)) (hT.down (over X5.fr hW)) g3
end Go.Proofs.YthmfljjpanghgaaDoor.ze

namespace Go.Proofs.YthmfljjpanghgaaDoor.zf
open Go.RowKit Go.PlainAid
open Go.Proofs.YthmfljjpanghgaaDoor.pl Go.Proofs.YthmfljjpanghgaaDoor.pi Go.Proofs.YthmfljjpanghgaaDoor.pj Go.Proofs.YthmfljjpanghgaaDoor.rf Go.Proofs.YthmfljjpanghgaaDoor.ca Go.Proofs.YthmfljjpanghgaaDoor.cb Go.Proofs.YthmfljjpanghgaaDoor.cp Go.Proofs.YthmfljjpanghgaaDoor.cv Go.Proofs.YthmfljjpanghgaaDoor.ga Go.Proofs.YthmfljjpanghgaaDoor.aa Go.Proofs.YthmfljjpanghgaaDoor.ka Go.Proofs.YthmfljjpanghgaaDoor.kb Go.Proofs.YthmfljjpanghgaaDoor.kc Go.Proofs.YthmfljjpanghgaaDoor.kp Go.Proofs.YthmfljjpanghgaaDoor.lk Go.Proofs.YthmfljjpanghgaaDoor.mi Go.Proofs.YthmfljjpanghgaaDoor.lm Go.Proofs.YthmfljjpanghgaaDoor.co Go.Proofs.YthmfljjpanghgaaDoor.cn Go.Proofs.YthmfljjpanghgaaDoor.qb Go.Proofs.YthmfljjpanghgaaDoor.qc Go.Proofs.YthmfljjpanghgaaDoor.qg Go.Proofs.YthmfljjpanghgaaDoor.qj Go.Proofs.YthmfljjpanghgaaDoor.qm Go.Proofs.YthmfljjpanghgaaDoor.za Go.Proofs.YthmfljjpanghgaaDoor.zb Go.Proofs.YthmfljjpanghgaaDoor.zc Go.Proofs.YthmfljjpanghgaaDoor.zd Go.Proofs.YthmfljjpanghgaaDoor.ze
set_option linter.unusedVariables false

theorem two_box (w : World) (x y x' y' : Value) (t t' : TypeId) : ((w.alloc (.cells #[x, y] t)).alloc (.cells #[x', y'] t')).cell? ⟨w.heap.size, 0, none⟩ = some x ∧ ((w.alloc (.cells #[x, y] t)).alloc (.cells #[x', y'] t')).cell? ⟨w.heap.size, 1, none⟩ = some y ∧ ((w.alloc (.cells #[x, y] t)).alloc (.cells #[x', y'] t')).cell? ⟨w.heap.size + 1, 0, none⟩ = some x' ∧ ((w.alloc (.cells #[x, y] t)).alloc (.cells #[x', y'] t')).cell? ⟨w.heap.size + 1, 1, none⟩ = some y' := by
  have s1 : (w.alloc (.cells #[x, y] t)).heap.size = w.heap.size + 1 := by simp
  have B : Below (w.alloc (.cells #[x, y] t)).heap.size (w.alloc (.cells #[x, y] t)) ((w.alloc (.cells #[x, y] t)).alloc (.cells #[x', y'] t')) := (Below.refl _ _).alloc (Nat.le_refl _) _
  refine ⟨?_, ?_, ?_, ?_⟩
  · refine (B.cell (p := ⟨w.heap.size, 0, none⟩) (by show w.heap.size < _; rw [s1]; omega)).trans ?_
    rw [World.cell?_alloc_at _ _ _ _ rfl]; rfl
  · refine (B.cell (p := ⟨w.heap.size, 1, none⟩) (by show w.heap.size < _; rw [s1]; omega)).trans ?_
    rw [World.cell?_alloc_at _ _ _ _ rfl]; rfl
  · rw [← s1, World.cell?_alloc_at _ _ _ _ rfl]; rfl
  · rw [← s1, World.cell?_alloc_at _ _ _ _ rfl]; rfl
set_option maxRecDepth 100000 in
set_option maxHeartbeats 12800000 in
theorem sound_walk (w : World) (wd : Int) (w0 : (Lit.int .i64 wd).wf = true) (n : Int) (w1 : (Lit.int .i64 n).wf = true) (v : Value) (xs : List Int) (hx : ReadsI w v xs) (zx : xs.length ≤ 140737488351232)
    (v1 : Value) (ah : List ByteArray) (r1 : ReadsT w v1 ah) (z1 : ah.length ≤ 140737488351232) (v2 : Value) (ap : List ByteArray) (r2 : ReadsT w v2 ap) (z2 : ap.length ≤ 140737488351232)
    (v3 : Value) (bh : List ByteArray) (r3 : ReadsT w v3 bh) (z3 : bh.length ≤ 140737488351232) (v4 : Value) (bp : List ByteArray) (r4 : ReadsT w v4 bp) (z4 : bp.length ≤ 140737488351232) (root : ByteArray) (T : Tab w) :
    Calls Tryd.prog 3 #[.int .i64 wd, .int .i64 n, v, .agg #[v1, v2], .agg #[v3, v4], .string root] w fun e w' => e = .returned (.bool true) ∧ Below w.heap.size w w' := by
  have hwd := i64_of w0
  have hn := i64_of w1
  have BC : Hid (∀ w, Calls _ _ _ _ _) := fun w => begunC w
  have M1 : Hid (∀ W, Below w.heap.size w W → Calls _ _ _ _ _) := fun W b => MultiC wd n hwd v xs v1 v2 ah ap root W (hx.later b) (r1.later b) (r2.later b) (by omega) (by omega) (by omega) (T.down b)
  have M2 : Hid (∀ W, Below w.heap.size w W → Calls _ _ _ _ _) := fun W b => MultiC wd n hwd v xs v3 v4 bh bp root W (hx.later b) (r3.later b) (r4.later b) (by omega) (by omega) (by omega) (T.down b)
  have U1 : Hid (∀ W, Below w.heap.size w W → Calls _ _ _ _ _) := fun W b => unlikeC v1 v3 ah bh W (r1.later b) (r3.later b) (by omega)
  have U2 : Hid (∀ W, Below w.heap.size w W → Calls _ _ _ _ _) := fun W b => unlikeC v2 v4 ap bp W (r2.later b) (r4.later b) (by omega)
  have TH : Hid (n ≤ 1048576 → mulA wd n xs ah ap root = 0 → mulA wd n xs bh bp root = 0 → ¬ (ah = bh ∧ ap = bp) → ∀ W1, Below w.heap.size w W1 → Calls _ _ _ _ _) := fun a1 a2 a3 a4 W1 b => two_hash wd w v xs hx (by omega) T v1 v2 v3 v4 ah ap bh bp r1 r2 r3 r4 (by omega) (by omega) (by omega) (by omega) n a1 root a2 a3 a4 W1 b
  obtain ⟨a0, c0, rfl, _⟩ := hx
  obtain ⟨a1, c1, rfl, _⟩ := r1
  obtain ⟨a2, c2, rfl, _⟩ := r2
  obtain ⟨a3, c3, rfl, _⟩ := r3
  obtain ⟨a4, c4, rfl, _⟩ := r4
  obtain ⟨W0, HW0⟩ : ∃ W, W = (w.alloc (.cells #[.slice a1 ah.length c1, .slice a2 ap.length c2] 25)).alloc (.cells #[.slice a3 bh.length c3, .slice a4 bp.length c4] 25) := ⟨_, rfl⟩
  obtain ⟨b1, b2, b3, b4⟩ := two_box w (.slice a1 ah.length c1) (.slice a2 ap.length c2) (.slice a3 bh.length c3) (.slice a4 bp.length c4) 25 25
  rw [← HW0] at b1 b2 b3 b4
  have B0 : Hid (Below w.heap.size w W0) := by show Below _ _ _; rw [HW0]; exact ((Below.refl _ _).alloc (Nat.le_refl _) _).alloc (by simp) _
  have S4 : Hid (∀ W, Below W0.heap.size W0 W → W.cell? ⟨w.heap.size, 0, none⟩ = some (.slice a1 ah.length c1) ∧ W.cell? ⟨w.heap.size, 1, none⟩ = some (.slice a2 ap.length c2) ∧ W.cell? ⟨w.heap.size + 1, 0, none⟩ = some (.slice a3 bh.length c3) ∧ W.cell? ⟨w.heap.size + 1, 1, none⟩ = some (.slice a4 bp.length c4)) := fun W b =>
    ⟨(b.cell (World.block_lt_of_cell? _ _ b1)).trans b1, (b.cell (World.block_lt_of_cell? _ _ b2)).trans b2, (b.cell (World.block_lt_of_cell? _ _ b3)).trans b3, (b.cell (World.block_lt_of_cell? _ _ b4)).trans b4⟩
  obtain ⟨e1, HE1⟩ : ∃ e, Hid (mulA wd n xs ah ap root = e) := ⟨_, rfl⟩
  obtain ⟨e2, HE2⟩ : ∃ e, Hid (mulA wd n xs bh bp root = e) := ⟨_, rfl⟩
  obtain ⟨c5, HC5⟩ : ∃ c, Hid (decide (ah ≠ bh) = c) := ⟨_, rfl⟩
  obtain ⟨c6, HC6⟩ : ∃ c, Hid (decide (ap ≠ bp) = c) := ⟨_, rfl⟩
  rw [HE1.out] at M1 TH
  rw [HE2.out] at M2 TH
  rw [HC5.out] at U1
  rw [HC6.out] at U2
  have NQ : Hid (c5 = true ∨ c6 = true → ¬ (ah = bh ∧ ap = bp)) := by
    rintro (h | h) ⟨q1, q2⟩
    · have := HC5.out; rw [h, decide_eq_true_eq] at this; exact this q1
    · have := HC6.out; rw [h, decide_eq_true_eq] at this; exact this q2
  obtain ⟨l0, HL0⟩ : ∃ l, Hid (xs.length = l) := ⟨_, rfl⟩
  obtain ⟨l1, HL1⟩ : ∃ l, Hid (ah.length = l) := ⟨_, rfl⟩
  obtain ⟨l2, HL2⟩ : ∃ l, Hid (ap.length = l) := ⟨_, rfl⟩
  obtain ⟨l3, HL3⟩ : ∃ l, Hid (bh.length = l) := ⟨_, rfl⟩
  obtain ⟨l4, HL4⟩ : ∃ l, Hid (bp.length = l) := ⟨_, rfl⟩
  rw [HL0.out] at M1 M2 TH zx ⊢
  rw [HL1.out] at HW0 S4 M1 U1 TH ⊢
  rw [HL2.out] at HW0 S4 M1 U2 TH ⊢
  rw [HL3.out] at HW0 S4 M2 U1 TH ⊢
  rw [HL4.out] at HW0 S4 M2 U2 TH ⊢
  clear b1 b2 b3 b4 w0 w1 hwd T z1 z2 z3 z4 HE1 HE2 HC5 HC6 HL0 HL1 HL2 HL3 HL4
  by_cases hs : n < 1
  · have hd : decide (n < 1) = true := decide_eq_true hs
    go_enter Tryd.func3, Tryd.ntmps3
    go_upto_region 1 with fail
    rw [← HW0]
    clear HW0
    go_wp2_with fail
    refine (BC.out _).mono ?_
    rintro e q1 ⟨rfl, h1⟩
    have B1 : Hid (Below W0.heap.size W0 q1) := h1
    obtain ⟨d1, d2, d3, d4⟩ := S4.out _ h1
    have K1 : Hid (Below w.heap.size w q1) := over B0.out h1
    clear h1
    go_wp2
    go_ret
    exact ⟨rfl, K1.out⟩
  have hd1 : decide (n < 1) = false := decide_eq_false hs
  by_cases hb : 1048576 < n
  · have hd : decide (1048576 < n) = true := decide_eq_true hb
    go_enter Tryd.func3, Tryd.ntmps3
    go_upto_region 1 with fail
    rw [← HW0]
    clear HW0
    go_wp2_with fail
    refine (BC.out _).mono ?_
    rintro e q1 ⟨rfl, h1⟩
    have B1 : Hid (Below W0.heap.size W0 q1) := h1
    obtain ⟨d1, d2, d3, d4⟩ := S4.out _ h1
    have K1 : Hid (Below w.heap.size w q1) := over B0.out h1
    clear h1
    go_wp2
    go_ret
    exact ⟨rfl, K1.out⟩
  have hd2 : decide (1048576 < n) = false := decide_eq_false hb
  have hbig : n ≤ 1048576 := by omega
  by_cases hl : 64 < (l0 : Int)
  · have hd : decide (64 < (l0 : Int)) = true := decide_eq_true hl
    go_enter Tryd.func3, Tryd.ntmps3
    go_upto_region 1 with fail
    rw [← HW0]
    clear HW0
    go_wp2_with fail
    refine (BC.out _).mono ?_
    rintro e q1 ⟨rfl, h1⟩
    have B1 : Hid (Below W0.heap.size W0 q1) := h1
    obtain ⟨d1, d2, d3, d4⟩ := S4.out _ h1
    have K1 : Hid (Below w.heap.size w q1) := over B0.out h1
    clear h1
    go_wp2
    go_ret
    exact ⟨rfl, K1.out⟩
  have hd3 : decide (64 < (l0 : Int)) = false := decide_eq_false hl
  by_cases h1 : e1 = 0
  case neg =>
    have q : (e1 != 0) = true := by rw [bne_iff_ne]; exact h1
    have q0 : (e1 == 0) = false := by rw [beq_eq_false_iff_ne]; exact h1
    go_enter Tryd.func3, Tryd.ntmps3
    go_upto_region 1 with fail
    rw [← HW0]
    clear HW0
    go_wp2_with fail
    refine (BC.out _).mono ?_
    rintro e q1 ⟨rfl, h1⟩
    have B1 : Hid (Below W0.heap.size W0 q1) := h1
    obtain ⟨d1, d2, d3, d4⟩ := S4.out _ h1
    have K1 : Hid (Below w.heap.size w q1) := over B0.out h1
    clear h1
    go_wp2_with fail
    refine (M1.out _ K1.out).mono ?_
    rintro e q2 ⟨rfl, h2⟩
    have B2 : Hid (Below W0.heap.size W0 q2) := over B1.out h2
    have K2 : Hid (Below w.heap.size w q2) := over K1.out h2
    clear d1 d2 d3 d4
    obtain ⟨d1, d2, d3, d4⟩ := S4.out _ B2.out
    clear h2
    go_wp2_with fail
    refine (M2.out _ K2.out).mono ?_
    rintro e q3 ⟨rfl, h3⟩
    have B3 : Hid (Below W0.heap.size W0 q3) := over B2.out h3
    have K3 : Hid (Below w.heap.size w q3) := over K2.out h3
    clear d1 d2 d3 d4
    obtain ⟨d1, d2, d3, d4⟩ := S4.out _ B3.out
    clear h3
    go_wp2
    go_ret
    exact ⟨rfl, K3.out⟩
  subst h1
  by_cases h2 : e2 = 0
  case neg =>
    have q : (e2 != 0) = true := by rw [bne_iff_ne]; exact h2
    have q0 : (e2 == 0) = false := by rw [beq_eq_false_iff_ne]; exact h2
    go_enter Tryd.func3, Tryd.ntmps3
    go_upto_region 1 with fail
    rw [← HW0]
    clear HW0
    go_wp2_with fail
    refine (BC.out _).mono ?_
    rintro e q1 ⟨rfl, h1⟩
    have B1 : Hid (Below W0.heap.size W0 q1) := h1
    obtain ⟨d1, d2, d3, d4⟩ := S4.out _ h1
    have K1 : Hid (Below w.heap.size w q1) := over B0.out h1
    clear h1
    go_wp2_with fail
    refine (M1.out _ K1.out).mono ?_
    rintro e q2 ⟨rfl, h2⟩
    have B2 : Hid (Below W0.heap.size W0 q2) := over B1.out h2
    have K2 : Hid (Below w.heap.size w q2) := over K1.out h2
    clear d1 d2 d3 d4
    obtain ⟨d1, d2, d3, d4⟩ := S4.out _ B2.out
    clear h2
    go_wp2_with fail
    refine (M2.out _ K2.out).mono ?_
    rintro e q3 ⟨rfl, h3⟩
    have B3 : Hid (Below W0.heap.size W0 q3) := over B2.out h3
    have K3 : Hid (Below w.heap.size w q3) := over K2.out h3
    clear d1 d2 d3 d4
    obtain ⟨d1, d2, d3, d4⟩ := S4.out _ B3.out
    clear h3
    go_wp2
    go_ret
    exact ⟨rfl, K3.out⟩
  subst h2
  cases c5
  · cases c6
    · go_enter Tryd.func3, Tryd.ntmps3
      go_upto_region 1 with fail
      rw [← HW0]
      clear HW0
      go_wp2_with fail
      refine (BC.out _).mono ?_
      rintro e q1 ⟨rfl, h1⟩
      have B1 : Hid (Below W0.heap.size W0 q1) := h1
      obtain ⟨d1, d2, d3, d4⟩ := S4.out _ h1
      have K1 : Hid (Below w.heap.size w q1) := over B0.out h1
      clear h1
      go_wp2_with fail
      refine (M1.out _ K1.out).mono ?_
      rintro e q2 ⟨rfl, h2⟩
      have B2 : Hid (Below W0.heap.size W0 q2) := over B1.out h2
      have K2 : Hid (Below w.heap.size w q2) := over K1.out h2
      clear d1 d2 d3 d4
      obtain ⟨d1, d2, d3, d4⟩ := S4.out _ B2.out
      clear h2
      go_wp2_with fail
      refine (M2.out _ K2.out).mono ?_
      rintro e q3 ⟨rfl, h3⟩
      have B3 : Hid (Below W0.heap.size W0 q3) := over B2.out h3
      have K3 : Hid (Below w.heap.size w q3) := over K2.out h3
      clear d1 d2 d3 d4
      obtain ⟨d1, d2, d3, d4⟩ := S4.out _ B3.out
      clear h3
      go_wp2_with fail
      refine (U1.out _ K3.out).mono ?_
      rintro e q4 ⟨rfl, h4⟩
      have B4 : Hid (Below W0.heap.size W0 q4) := over B3.out h4
      have K4 : Hid (Below w.heap.size w q4) := over K3.out h4
      clear d1 d2 d3 d4
      obtain ⟨d1, d2, d3, d4⟩ := S4.out _ B4.out
      clear h4
      go_wp2_with fail
      refine (U2.out _ K4.out).mono ?_
      rintro e q5 ⟨rfl, h5⟩
      have B5 : Hid (Below W0.heap.size W0 q5) := over B4.out h5
      have K5 : Hid (Below w.heap.size w q5) := over K4.out h5
      clear d1 d2 d3 d4
      obtain ⟨d1, d2, d3, d4⟩ := S4.out _ B5.out
      clear h5
      go_wp2
      go_ret
      exact ⟨rfl, K5.out⟩
    · go_enter Tryd.func3, Tryd.ntmps3
      go_upto_region 1 with fail
      rw [← HW0]
      clear HW0
      go_wp2_with fail
      refine (BC.out _).mono ?_
      rintro e q1 ⟨rfl, h1⟩
      have B1 : Hid (Below W0.heap.size W0 q1) := h1
      obtain ⟨d1, d2, d3, d4⟩ := S4.out _ h1
      have K1 : Hid (Below w.heap.size w q1) := over B0.out h1
      clear h1
      go_wp2_with fail
      refine (M1.out _ K1.out).mono ?_
      rintro e q2 ⟨rfl, h2⟩
      have B2 : Hid (Below W0.heap.size W0 q2) := over B1.out h2
      have K2 : Hid (Below w.heap.size w q2) := over K1.out h2
      clear d1 d2 d3 d4
      obtain ⟨d1, d2, d3, d4⟩ := S4.out _ B2.out
      clear h2
      go_wp2_with fail
      refine (M2.out _ K2.out).mono ?_
      rintro e q3 ⟨rfl, h3⟩
      have B3 : Hid (Below W0.heap.size W0 q3) := over B2.out h3
      have K3 : Hid (Below w.heap.size w q3) := over K2.out h3
      clear d1 d2 d3 d4
      obtain ⟨d1, d2, d3, d4⟩ := S4.out _ B3.out
      clear h3
      go_wp2_with fail
      refine (U1.out _ K3.out).mono ?_
      rintro e q4 ⟨rfl, h4⟩
      have B4 : Hid (Below W0.heap.size W0 q4) := over B3.out h4
      have K4 : Hid (Below w.heap.size w q4) := over K3.out h4
      clear d1 d2 d3 d4
      obtain ⟨d1, d2, d3, d4⟩ := S4.out _ B4.out
      clear h4
      go_wp2_with fail
      refine (U2.out _ K4.out).mono ?_
      rintro e q5 ⟨rfl, h5⟩
      have B5 : Hid (Below W0.heap.size W0 q5) := over B4.out h5
      have K5 : Hid (Below w.heap.size w q5) := over K4.out h5
      clear d1 d2 d3 d4
      obtain ⟨d1, d2, d3, d4⟩ := S4.out _ B5.out
      clear h5
      have DC : Hid (Calls _ _ _ _ _) := TH.out hbig (by first | rfl | trivial) (by first | rfl | trivial) (NQ.out (.inr (by first | rfl | trivial))) _ K5.out
      have BA : Hid (Below W0.heap.size W0 (q5.alloc (.cells #[.slice a1 l1 c1, .slice a2 l2 c2, .int .i64 0, .int .i64 0, .slice none 0 0] 32))) := over B5.out ((Below.refl _ _).alloc (Nat.le_refl _) _)
      obtain ⟨_, _, g3, g4⟩ := S4.out _ BA.out
      go_wp2_with fail
      refine DC.out.mono ?_
      rintro e q6 ⟨rfl, h6⟩
      have D2 : Hid (Calls _ _ _ _ _) := h6
      clear h6 d1 d2 d3 d4 g3 g4
      go_wp2_with fail
      refine D2.out.mono ?_
      rintro e q7 ⟨rfl, h7, x1, y1, x2, x3, y3, x4, p1, p2, hcl⟩
      have K7 : Hid (Below w.heap.size w q7) := h7
      have CL : Hid (∀ W, Below q7.heap.size q7 W → Calls _ _ _ _ _) := hcl
      have S5 : Hid (∀ W, Below q7.heap.size q7 W → Below q7.heap.size q7 W ∧ W.cell? _ = _ ∧ W.cell? _ = _) := fun W b => ⟨b, (b.cell (World.block_lt_of_cell? _ _ p1)).trans p1, (b.cell (World.block_lt_of_cell? _ _ p2)).trans p2⟩
      have DR : Hid (Below q7.heap.size q7 q7.drew) := (Below.refl _ _).drew
      have er : (root.toList == root.toList) = true := beq_self_eq_true _
      clear h7 hcl
      go_upto_region 12 with fail
      go_region_held3 (fun W => Below q7.heap.size q7 W ∧ W.cell? ⟨q5.heap.size, 4, none⟩ = some (.slice x1 y1 x2) ∧ W.cell? ⟨q5.heap.size + 1, 4, none⟩ = some (.slice x3 y3 x4)) (first | exact S5.out _ HWF.out | exact S5.out _ DR.out) (first | (go_at_call 11; refine (CL.out _ (And.left (by assumption))).mono ?_; rintro _ wf ⟨rfl, bb⟩; have HWF : Hid (Below q7.heap.size q7 wf) := over (And.left (by assumption)) bb; clear bb))
      all_goals (
        go_wp2
        go_ret
        exact ⟨rfl, over K7.out HWF.out⟩)
  · go_enter Tryd.func3, Tryd.ntmps3
    go_upto_region 1 with fail
    rw [← HW0]
    clear HW0
    go_wp2_with fail
    refine (BC.out _).mono ?_
    rintro e q1 ⟨rfl, h1⟩
    have B1 : Hid (Below W0.heap.size W0 q1) := h1
    obtain ⟨d1, d2, d3, d4⟩ := S4.out _ h1
    have K1 : Hid (Below w.heap.size w q1) := over B0.out h1
    clear h1
    go_wp2_with fail
    refine (M1.out _ K1.out).mono ?_
    rintro e q2 ⟨rfl, h2⟩
    have B2 : Hid (Below W0.heap.size W0 q2) := over B1.out h2
    have K2 : Hid (Below w.heap.size w q2) := over K1.out h2
    clear d1 d2 d3 d4
    obtain ⟨d1, d2, d3, d4⟩ := S4.out _ B2.out
    clear h2
    go_wp2_with fail
    refine (M2.out _ K2.out).mono ?_
    rintro e q3 ⟨rfl, h3⟩
    have B3 : Hid (Below W0.heap.size W0 q3) := over B2.out h3
    have K3 : Hid (Below w.heap.size w q3) := over K2.out h3
    clear d1 d2 d3 d4
    obtain ⟨d1, d2, d3, d4⟩ := S4.out _ B3.out
    clear h3
    go_wp2_with fail
    refine (U1.out _ K3.out).mono ?_
    rintro e q4 ⟨rfl, h4⟩
    have B4 : Hid (Below W0.heap.size W0 q4) := over B3.out h4
    have K4 : Hid (Below w.heap.size w q4) := over K3.out h4
    clear d1 d2 d3 d4
    obtain ⟨d1, d2, d3, d4⟩ := S4.out _ B4.out
    clear h4
    have DC : Hid (Calls _ _ _ _ _) := TH.out hbig (by first | rfl | trivial) (by first | rfl | trivial) (NQ.out (.inl (by first | rfl | trivial))) _ K4.out
    have BA : Hid (Below W0.heap.size W0 (q4.alloc (.cells #[.slice a1 l1 c1, .slice a2 l2 c2, .int .i64 0, .int .i64 0, .slice none 0 0] 32))) := over B4.out ((Below.refl _ _).alloc (Nat.le_refl _) _)
    obtain ⟨_, _, g3, g4⟩ := S4.out _ BA.out
    go_wp2_with fail
    refine DC.out.mono ?_
    rintro e q6 ⟨rfl, h6⟩
    have D2 : Hid (Calls _ _ _ _ _) := h6
    clear h6 d1 d2 d3 d4 g3 g4
    go_wp2_with fail
    refine D2.out.mono ?_
    rintro e q7 ⟨rfl, h7, x1, y1, x2, x3, y3, x4, p1, p2, hcl⟩
    have K7 : Hid (Below w.heap.size w q7) := h7
    have CL : Hid (∀ W, Below q7.heap.size q7 W → Calls _ _ _ _ _) := hcl
    have S5 : Hid (∀ W, Below q7.heap.size q7 W → Below q7.heap.size q7 W ∧ W.cell? _ = _ ∧ W.cell? _ = _) := fun W b => ⟨b, (b.cell (World.block_lt_of_cell? _ _ p1)).trans p1, (b.cell (World.block_lt_of_cell? _ _ p2)).trans p2⟩
    have DR : Hid (Below q7.heap.size q7 q7.drew) := (Below.refl _ _).drew
    have er : (root.toList == root.toList) = true := beq_self_eq_true _
    clear h7 hcl
    go_upto_region 12 with fail
    go_region_held3 (fun W => Below q7.heap.size q7 W ∧ W.cell? ⟨q4.heap.size, 4, none⟩ = some (.slice x1 y1 x2) ∧ W.cell? ⟨q4.heap.size + 1, 4, none⟩ = some (.slice x3 y3 x4)) (first | exact S5.out _ HWF.out | exact S5.out _ DR.out) (first | (go_at_call 11; refine (CL.out _ (And.left (by assumption))).mono ?_; rintro _ wf ⟨rfl, bb⟩; have HWF : Hid (Below q7.heap.size q7 wf) := over (And.left (by assumption)) bb; clear bb))
    all_goals (
      go_wp2
      go_ret
      exact ⟨rfl, over K7.out HWF.out⟩)
end Go.Proofs.YthmfljjpanghgaaDoor.zf
