import Derived.Test.YthpfgdhmpeadeaaJ7
import Derived.Test.YthpfgdhmpeadeaaJ5
import Derived.Laws.Strings2
import Derived.BigQuiet
import Derived.Deep.DeepCutAuto
import Derived.Test.YthpfgdhmpeadeaaG1
import Derived.Test.YthpfgdhmpeadeaaJ8
import Derived.Lib.MinMax
import Derived.Deep.AppendLies
import Derived.Deep.RegionHeldLaw
namespace Go.Proofs.Ythpfgdhmpeadeaa.w2
open Go.RowKit Go.PlainAid
open Go.Proofs.Ythpfgdhmpeadeaa.ca Go.Proofs.Ythpfgdhmpeadeaa.cb Go.Proofs.Ythpfgdhmpeadeaa.cp Go.Proofs.Ythpfgdhmpeadeaa.ga Go.Proofs.Ythpfgdhmpeadeaa.kp Go.Proofs.Ythpfgdhmpeadeaa.mi Go.Proofs.Ythpfgdhmpeadeaa.co Go.Proofs.Ythpfgdhmpeadeaa.na Go.Proofs.Ythpfgdhmpeadeaa.nb Go.Proofs.Ythpfgdhmpeadeaa.nc Go.Proofs.Ythpfgdhmpeadeaa.ea Go.Proofs.Ythpfgdhmpeadeaa.eb Go.Proofs.Ythpfgdhmpeadeaa.ec Go.Proofs.Ythpfgdhmpeadeaa.ee Go.Proofs.Ythpfgdhmpeadeaa.ef Go.Proofs.Ythpfgdhmpeadeaa.eg Go.Proofs.Ythpfgdhmpeadeaa.eo Go.Proofs.Ythpfgdhmpeadeaa.eq Go.Proofs.Ythpfgdhmpeadeaa.er Go.Proofs.Ythpfgdhmpeadeaa.es Go.Proofs.Ythpfgdhmpeadeaa.ka Go.Proofs.Ythpfgdhmpeadeaa.bn Go.Proofs.Ythpfgdhmpeadeaa.wp Go.Proofs.Ythpfgdhmpeadeaa.e1 Go.Proofs.Ythpfgdhmpeadeaa.e2 Go.Proofs.Ythpfgdhmpeadeaa.e6
set_option linter.unusedVariables false
theorem getI_at (xs : List Int) (k : Nat) (h : k < xs.length) : xs.getD k 0 = xs[k] := by
  rw [List.getD_eq_getElem?_getD, List.getElem?_eq_getElem h]; rfl
theorem listsI_eq {xs ys : List Int} (hl : xs.length = ys.length) (h : ∀ j, j < xs.length → xs.getD j 0 = ys.getD j 0) : xs = ys := by
  apply List.ext_getElem hl
  intro j h1 h2
  have := h j h1
  rwa [getI_at _ _ h1, getI_at _ _ h2] at this
set_option maxHeartbeats 1600000 in
theorem placesG (va vb : Value) (xs ys : List Int) (w : World) (h1 : ReadsI w va xs) (h2 : ReadsI w vb ys) (hz : xs.length ≤ 140737488355328) :
    Calls Try.prog 11 #[va, vb] w fun e w' => e = .returned (.bool (decide (xs = ys))) ∧ ∃ m, w' = w.drewN m := by
  obtain ⟨a, cap, rfl, _, h1⟩ := h1
  obtain ⟨a', cap', rfl, _, h2⟩ := h2
  by_cases hl : xs.length = ys.length
  · have HC : Hid (xs.length = 0 ∨ ∃ b off, a = some ⟨b, off, none⟩ ∧ ∀ i, i < xs.length → w.cell? ⟨b, off + i, none⟩ = some (.int .i64 (xs.getD i 0))) := h1
    rw [← hl] at h2 ⊢
    have HC' : Hid (xs.length = 0 ∨ ∃ b off, a' = some ⟨b, off, none⟩ ∧ ∀ i, i < xs.length → w.cell? ⟨b, off + i, none⟩ = some (.int .i64 (ys.getD i 0))) := h2
    have HL : Hid (xs.length = ys.length) := hl
    obtain ⟨n, HN⟩ : ∃ n, Hid (xs.length = n) := ⟨_, rfl⟩
    obtain ⟨r, HR⟩ : ∃ r, Hid (decide (xs = ys) = r) := ⟨_, rfl⟩
    rw [HR.out]
    rw [HN.out] at HC HC' hz ⊢
    clear h1 h2 hl
    have hl' : ((n : Int) == (n : Int)) = true := beq_self_eq_true _
    go_enter Try.func11, Try.ntmps11
    go_wp2
    go_loopw [5] (fun i wr => ∃ k m : Nat, k ≤ n ∧ i = .int .i64 k ∧ Hid (∀ j, j < k → xs.getD j 0 = ys.getD j 0) ∧ wr = w.drewN m) (fun i _ => (n - intOf i).toNat)
    case atStart => exact ⟨0, 0, by omega, rfl, fun j h => by omega, rfl⟩
    case round =>
      obtain ⟨k, m, hk, rfl, HS, rfl⟩ := hrel
      by_cases hlt : k < n
      · have hlt' : (k : Int) < n := by omega
        obtain ⟨b, off, rfl, hc⟩ : ∃ b off, a = some ⟨b, off, none⟩ ∧ ∀ i, i < n → w.cell? ⟨b, off + i, none⟩ = some (.int .i64 (xs.getD i 0)) := by
          rcases HC.out with h | h
          · omega
          · exact h
        obtain ⟨b', off', rfl, hc'⟩ : ∃ b off, a' = some ⟨b, off, none⟩ ∧ ∀ i, i < n → w.cell? ⟨b, off + i, none⟩ = some (.int .i64 (ys.getD i 0)) := by
          rcases HC'.out with h | h
          · omega
          · exact h
        obtain ⟨X, HX⟩ : ∃ X, Hid (xs.getD k 0 = X) := ⟨_, rfl⟩
        obtain ⟨Y, HY⟩ : ∃ X, Hid (ys.getD k 0 = X) := ⟨_, rfl⟩
        have c1 := hc k hlt
        have c2 := hc' k hlt
        rw [HX.out] at c1
        rw [HY.out] at c2
        clear hc hc'
        by_cases hxy : X = Y
        · have hb : (X != Y) = false := by simp [hxy]
          have hb2 : (X == Y) = true := by simp [hxy]
          have HS1 : Hid (∀ j, j < k + 1 → xs.getD j 0 = ys.getD j 0) := fun j hj => by
            rcases Nat.lt_or_ge j k with h | h
            · exact HS.out j h
            · obtain rfl : j = k := by omega
              rw [HX.out, HY.out, hxy]
          clear hxy
          go_wp2_with fail
          go_quiet (fail)
          go_wp2
          go_roundw
          case rel => exact ⟨k + 1, _, by omega, by go_num, HS1.out, rfl⟩
          case measure => simp [intOf]; omega
        · have hb : (X != Y) = true := by simp [hxy]
          have hb2 : (X == Y) = false := by simp [hxy]
          have HE : Hid (r = false) := by
            show _ = _
            rw [← HR.out]
            apply decide_eq_false
            intro e
            apply hxy
            rw [← HX.out, ← HY.out, e]
          clear hxy
          go_wp2_with fail
          go_quiet (fail)
          go_wp2
          go_ret
          exact ⟨by rw [HE.out]; rfl, m + nq, by rw [World.drewN_drewN]⟩
      · have hlt' : ¬ (k : Int) < n := by omega
        have HE : Hid (r = true) := by
          show _ = _
          rw [← HR.out]
          apply decide_eq_true
          exact listsI_eq HL.out (fun j hj => HS.out j (by rw [HN.out] at hj; omega))
        go_wp2
        go_ret
        exact ⟨by rw [HE.out]; rfl, _, rfl⟩
  · rw [decide_eq_false (fun e => hl (by rw [e]))]
    have hb : ((xs.length : Int) == (ys.length : Int)) = false := by rw [beq_eq_false_iff_ne]; omega
    clear hl h1 h2
    go_enter Try.func11, Try.ntmps11
    go_wp2
    go_ret
    exact ⟨rfl, 0, rfl⟩
set_option maxHeartbeats 3200000 in
theorem alikeG (k1 wd1 a1 b1 n1 k2 wd2 a2 b2 n2 : Int) (v1 v2 h1 h2 : Option Addr) (l1 c1 l2 c2 m1 d1 m2 d2 : Nat) (xs1 xs2 : List Int) (hs1' hs2' : List ByteArray) (w : World) (r1 : ReadsI w (.slice v1 l1 c1) xs1) (r2 : ReadsI w (.slice v2 l2 c2) xs2) (t1 : ReadsT w (.slice h1 m1 d1) hs1') (t2 : ReadsT w (.slice h2 m2 d2) hs2') (hz : xs1.length ≤ 140737488355328) (hh : hs1'.length ≤ 140737488355328) :
    Calls Try.prog 14 #[.agg #[.int .i64 k1, .int .i64 wd1, .int .i64 a1, .int .i64 b1, .int .i64 n1, .slice v1 l1 c1, .slice h1 m1 d1], .agg #[.int .i64 k2, .int .i64 wd2, .int .i64 a2, .int .i64 b2, .int .i64 n2, .slice v2 l2 c2, .slice h2 m2 d2]] w fun e w' => e = .returned (.bool (decide (k1 = k2 ∧ wd1 = wd2 ∧ a1 = a2 ∧ b1 = b2 ∧ n1 = n2 ∧ xs1 = xs2 ∧ hs1' = hs2'))) ∧ Below w.heap.size w w' := by
  obtain ⟨W1, HX1⟩ : ∃ W, Hid (W = w.alloc (.cells #[.int .i64 k1, .int .i64 wd1, .int .i64 a1, .int .i64 b1, .int .i64 n1, .slice v1 l1 c1, .slice h1 m1 d1] 25)) := ⟨_, rfl⟩
  have hW1 : W1.heap[w.heap.size]? = some (.cells #[.int .i64 k1, .int .i64 wd1, .int .i64 a1, .int .i64 b1, .int .i64 n1, .slice v1 l1 c1, .slice h1 m1 d1] 25 (0, 0)) := by rw [HX1.out]; exact heap_alloc_new w _
  have B1 : Below w.heap.size w W1 := by rw [HX1.out]; exact (Below.refl _ _).alloc (Nat.le_refl _) _
  have hs1 : W1.heap.size = w.heap.size + 1 := by rw [HX1.out]; simp
  obtain ⟨W2, HX2⟩ : ∃ W, Hid (W = W1.alloc (.cells #[.int .i64 k2, .int .i64 wd2, .int .i64 a2, .int .i64 b2, .int .i64 n2, .slice v2 l2 c2, .slice h2 m2 d2] 25)) := ⟨_, rfl⟩
  have hW2 : W2.heap[w.heap.size + 1]? = some (.cells #[.int .i64 k2, .int .i64 wd2, .int .i64 a2, .int .i64 b2, .int .i64 n2, .slice v2 l2 c2, .slice h2 m2 d2] 25 (0, 0)) := by rw [HX2.out, ← hs1]; exact heap_alloc_new W1 _
  have B2 : Below W1.heap.size W1 W2 := by rw [HX2.out]; exact (Below.refl _ _).alloc (Nat.le_refl _) _
  have hV1 := (B2.block w.heap.size (by omega)).trans hW1
  have BB : Hid (Below w.heap.size w W2) := below2 B1 B2 (Nat.le_refl _)
  obtain ⟨p0, p1, p2, p3, p4, p5, p6⟩ := seven hV1
  obtain ⟨q0, q1, q2, q3, q4, q5, q6⟩ := seven hW2
  have PC : Hid (Calls _ _ _ _ _) := placesG (.slice v1 l1 c1) (.slice v2 l2 c2) xs1 xs2 W2 (r1.later BB.out) (r2.later BB.out) hz
  have SC : Hid (∀ W, Below w.heap.size w W → Calls _ _ _ _ _) := fun W hb => same (.slice h1 m1 d1) (.slice h2 m2 d2) hs1' hs2' W (t1.later hb) (t2.later hb) hh
  have P1 : Hid (W2.heap[w.heap.size]? = _) := hV1
  have P2 : Hid (W2.heap[w.heap.size + 1]? = _) := hW2
  clear hW1 hW2 B1 B2 hs1 hV1 r1 r2 t1 t2
  by_cases ek : k1 = k2
  · have fk : (k1 != k2) = false := by simp [ek]
    by_cases ewd : wd1 = wd2
    · have fwd : (wd1 != wd2) = false := by simp [ewd]
      by_cases ea : a1 = a2
      · have fa : (a1 != a2) = false := by simp [ea]
        by_cases eb : b1 = b2
        · have fb : (b1 != b2) = false := by simp [eb]
          by_cases en : n1 = n2
          · have fn : (n1 != n2) = false := by simp [en]
            by_cases ex : xs1 = xs2
            · rw [decide_eq_true ex] at PC
              by_cases et : hs1' = hs2'
              · rw [decide_eq_true et] at SC
                rw [show decide (k1 = k2 ∧ wd1 = wd2 ∧ a1 = a2 ∧ b1 = b2 ∧ n1 = n2 ∧ xs1 = xs2 ∧ hs1' = hs2') = true from decide_eq_true ⟨ek, ewd, ea, eb, en, ex, et⟩]
                clear ek ewd ea eb en ex et
                go_enter Try.func14, Try.ntmps14
                go_upto_region 1 with fail
                rw [← HX1.out, ← HX2.out]
                clear HX1 HX2
                go_wp2_with (first
    | (go_at_call 11; refine PC.out.mono ?_; rintro _ w3 ⟨rfl, m3, hm3⟩; have B3 : Hid (Below w.heap.size w w3) := below2 BB.out (by rw [hm3]; exact below_dN (Below.refl _ _) _) (Nat.le_refl _); have i6 : w3.cell? ⟨w.heap.size, 6, none⟩ = some (.slice h1 m1 d1) := (by rw [hm3]; exact cell_of_row _ _ 6 _ _ _ P1.out); have j6 : w3.cell? ⟨w.heap.size + 1, 6, none⟩ = some (.slice h2 m2 d2) := (by rw [hm3]; exact cell_of_row _ _ 6 _ _ _ P2.out); clear hm3)
    | (go_at_call 20; refine (SC.out _ B3.out).mono ?_; rintro _ w4 ⟨rfl, m4, hm4⟩; have B4 : Hid (Below w.heap.size w w4) := below2 B3.out (by rw [hm4]; exact below_dN (Below.refl _ _) _) (Nat.le_refl _); clear hm4))
                go_ret
                exact ⟨rfl, B4.out⟩
              · rw [decide_eq_false et] at SC
                rw [show decide (k1 = k2 ∧ wd1 = wd2 ∧ a1 = a2 ∧ b1 = b2 ∧ n1 = n2 ∧ xs1 = xs2 ∧ hs1' = hs2') = false from decide_eq_false (fun h => et h.2.2.2.2.2.2)]
                clear ek ewd ea eb en ex et
                go_enter Try.func14, Try.ntmps14
                go_upto_region 1 with fail
                rw [← HX1.out, ← HX2.out]
                clear HX1 HX2
                go_wp2_with (first
    | (go_at_call 11; refine PC.out.mono ?_; rintro _ w3 ⟨rfl, m3, hm3⟩; have B3 : Hid (Below w.heap.size w w3) := below2 BB.out (by rw [hm3]; exact below_dN (Below.refl _ _) _) (Nat.le_refl _); have i6 : w3.cell? ⟨w.heap.size, 6, none⟩ = some (.slice h1 m1 d1) := (by rw [hm3]; exact cell_of_row _ _ 6 _ _ _ P1.out); have j6 : w3.cell? ⟨w.heap.size + 1, 6, none⟩ = some (.slice h2 m2 d2) := (by rw [hm3]; exact cell_of_row _ _ 6 _ _ _ P2.out); clear hm3)
    | (go_at_call 20; refine (SC.out _ B3.out).mono ?_; rintro _ w4 ⟨rfl, m4, hm4⟩; have B4 : Hid (Below w.heap.size w w4) := below2 B3.out (by rw [hm4]; exact below_dN (Below.refl _ _) _) (Nat.le_refl _); clear hm4))
                go_ret
                exact ⟨rfl, B4.out⟩
            · rw [decide_eq_false ex] at PC
              rw [show decide (k1 = k2 ∧ wd1 = wd2 ∧ a1 = a2 ∧ b1 = b2 ∧ n1 = n2 ∧ xs1 = xs2 ∧ hs1' = hs2') = false from decide_eq_false (fun h => ex h.2.2.2.2.2.1)]
              clear ek ewd ea eb en ex
              go_enter Try.func14, Try.ntmps14
              go_upto_region 1 with fail
              rw [← HX1.out, ← HX2.out]
              clear HX1 HX2
              go_wp2_with (first
    | (go_at_call 11; refine PC.out.mono ?_; rintro _ w3 ⟨rfl, m3, hm3⟩; have B3 : Hid (Below w.heap.size w w3) := below2 BB.out (by rw [hm3]; exact below_dN (Below.refl _ _) _) (Nat.le_refl _); have i6 : w3.cell? ⟨w.heap.size, 6, none⟩ = some (.slice h1 m1 d1) := (by rw [hm3]; exact cell_of_row _ _ 6 _ _ _ P1.out); have j6 : w3.cell? ⟨w.heap.size + 1, 6, none⟩ = some (.slice h2 m2 d2) := (by rw [hm3]; exact cell_of_row _ _ 6 _ _ _ P2.out); clear hm3)
    | (go_at_call 20; refine (SC.out _ B3.out).mono ?_; rintro _ w4 ⟨rfl, m4, hm4⟩; have B4 : Hid (Below w.heap.size w w4) := below2 B3.out (by rw [hm4]; exact below_dN (Below.refl _ _) _) (Nat.le_refl _); clear hm4))
              go_ret
              exact ⟨rfl, B3.out⟩
          · have fn : (n1 != n2) = true := by simp [en]
            rw [show decide (k1 = k2 ∧ wd1 = wd2 ∧ a1 = a2 ∧ b1 = b2 ∧ n1 = n2 ∧ xs1 = xs2 ∧ hs1' = hs2') = false from decide_eq_false (fun h => en h.2.2.2.2.1)]
            clear ek ewd ea eb en
            go_enter Try.func14, Try.ntmps14
            go_upto_region 1 with fail
            rw [← HX1.out, ← HX2.out]
            clear HX1 HX2
            go_wp2_with (first
    | (go_at_call 11; refine PC.out.mono ?_; rintro _ w3 ⟨rfl, m3, hm3⟩; have B3 : Hid (Below w.heap.size w w3) := below2 BB.out (by rw [hm3]; exact below_dN (Below.refl _ _) _) (Nat.le_refl _); have i6 : w3.cell? ⟨w.heap.size, 6, none⟩ = some (.slice h1 m1 d1) := (by rw [hm3]; exact cell_of_row _ _ 6 _ _ _ P1.out); have j6 : w3.cell? ⟨w.heap.size + 1, 6, none⟩ = some (.slice h2 m2 d2) := (by rw [hm3]; exact cell_of_row _ _ 6 _ _ _ P2.out); clear hm3)
    | (go_at_call 20; refine (SC.out _ B3.out).mono ?_; rintro _ w4 ⟨rfl, m4, hm4⟩; have B4 : Hid (Below w.heap.size w w4) := below2 B3.out (by rw [hm4]; exact below_dN (Below.refl _ _) _) (Nat.le_refl _); clear hm4))
            go_ret
            exact ⟨rfl, BB.out⟩
        · have fb : (b1 != b2) = true := by simp [eb]
          rw [show decide (k1 = k2 ∧ wd1 = wd2 ∧ a1 = a2 ∧ b1 = b2 ∧ n1 = n2 ∧ xs1 = xs2 ∧ hs1' = hs2') = false from decide_eq_false (fun h => eb h.2.2.2.1)]
          clear ek ewd ea eb
          go_enter Try.func14, Try.ntmps14
          go_upto_region 1 with fail
          rw [← HX1.out, ← HX2.out]
          clear HX1 HX2
          go_wp2_with (first
    | (go_at_call 11; refine PC.out.mono ?_; rintro _ w3 ⟨rfl, m3, hm3⟩; have B3 : Hid (Below w.heap.size w w3) := below2 BB.out (by rw [hm3]; exact below_dN (Below.refl _ _) _) (Nat.le_refl _); have i6 : w3.cell? ⟨w.heap.size, 6, none⟩ = some (.slice h1 m1 d1) := (by rw [hm3]; exact cell_of_row _ _ 6 _ _ _ P1.out); have j6 : w3.cell? ⟨w.heap.size + 1, 6, none⟩ = some (.slice h2 m2 d2) := (by rw [hm3]; exact cell_of_row _ _ 6 _ _ _ P2.out); clear hm3)
    | (go_at_call 20; refine (SC.out _ B3.out).mono ?_; rintro _ w4 ⟨rfl, m4, hm4⟩; have B4 : Hid (Below w.heap.size w w4) := below2 B3.out (by rw [hm4]; exact below_dN (Below.refl _ _) _) (Nat.le_refl _); clear hm4))
          go_ret
          exact ⟨rfl, BB.out⟩
      · have fa : (a1 != a2) = true := by simp [ea]
        rw [show decide (k1 = k2 ∧ wd1 = wd2 ∧ a1 = a2 ∧ b1 = b2 ∧ n1 = n2 ∧ xs1 = xs2 ∧ hs1' = hs2') = false from decide_eq_false (fun h => ea h.2.2.1)]
        clear ek ewd ea
        go_enter Try.func14, Try.ntmps14
        go_upto_region 1 with fail
        rw [← HX1.out, ← HX2.out]
        clear HX1 HX2
        go_wp2_with (first
    | (go_at_call 11; refine PC.out.mono ?_; rintro _ w3 ⟨rfl, m3, hm3⟩; have B3 : Hid (Below w.heap.size w w3) := below2 BB.out (by rw [hm3]; exact below_dN (Below.refl _ _) _) (Nat.le_refl _); have i6 : w3.cell? ⟨w.heap.size, 6, none⟩ = some (.slice h1 m1 d1) := (by rw [hm3]; exact cell_of_row _ _ 6 _ _ _ P1.out); have j6 : w3.cell? ⟨w.heap.size + 1, 6, none⟩ = some (.slice h2 m2 d2) := (by rw [hm3]; exact cell_of_row _ _ 6 _ _ _ P2.out); clear hm3)
    | (go_at_call 20; refine (SC.out _ B3.out).mono ?_; rintro _ w4 ⟨rfl, m4, hm4⟩; have B4 : Hid (Below w.heap.size w w4) := below2 B3.out (by rw [hm4]; exact below_dN (Below.refl _ _) _) (Nat.le_refl _); clear hm4))
        go_ret
        exact ⟨rfl, BB.out⟩
    · have fwd : (wd1 != wd2) = true := by simp [ewd]
      rw [show decide (k1 = k2 ∧ wd1 = wd2 ∧ a1 = a2 ∧ b1 = b2 ∧ n1 = n2 ∧ xs1 = xs2 ∧ hs1' = hs2') = false from decide_eq_false (fun h => ewd h.2.1)]
      clear ek ewd
      go_enter Try.func14, Try.ntmps14
      go_upto_region 1 with fail
      rw [← HX1.out, ← HX2.out]
      clear HX1 HX2
      go_wp2_with (first
    | (go_at_call 11; refine PC.out.mono ?_; rintro _ w3 ⟨rfl, m3, hm3⟩; have B3 : Hid (Below w.heap.size w w3) := below2 BB.out (by rw [hm3]; exact below_dN (Below.refl _ _) _) (Nat.le_refl _); have i6 : w3.cell? ⟨w.heap.size, 6, none⟩ = some (.slice h1 m1 d1) := (by rw [hm3]; exact cell_of_row _ _ 6 _ _ _ P1.out); have j6 : w3.cell? ⟨w.heap.size + 1, 6, none⟩ = some (.slice h2 m2 d2) := (by rw [hm3]; exact cell_of_row _ _ 6 _ _ _ P2.out); clear hm3)
    | (go_at_call 20; refine (SC.out _ B3.out).mono ?_; rintro _ w4 ⟨rfl, m4, hm4⟩; have B4 : Hid (Below w.heap.size w w4) := below2 B3.out (by rw [hm4]; exact below_dN (Below.refl _ _) _) (Nat.le_refl _); clear hm4))
      go_ret
      exact ⟨rfl, BB.out⟩
  · have fk : (k1 != k2) = true := by simp [ek]
    rw [show decide (k1 = k2 ∧ wd1 = wd2 ∧ a1 = a2 ∧ b1 = b2 ∧ n1 = n2 ∧ xs1 = xs2 ∧ hs1' = hs2') = false from decide_eq_false (fun h => ek h.1)]
    clear ek
    go_enter Try.func14, Try.ntmps14
    go_upto_region 1 with fail
    rw [← HX1.out, ← HX2.out]
    clear HX1 HX2
    go_wp2_with (first
    | (go_at_call 11; refine PC.out.mono ?_; rintro _ w3 ⟨rfl, m3, hm3⟩; have B3 : Hid (Below w.heap.size w w3) := below2 BB.out (by rw [hm3]; exact below_dN (Below.refl _ _) _) (Nat.le_refl _); have i6 : w3.cell? ⟨w.heap.size, 6, none⟩ = some (.slice h1 m1 d1) := (by rw [hm3]; exact cell_of_row _ _ 6 _ _ _ P1.out); have j6 : w3.cell? ⟨w.heap.size + 1, 6, none⟩ = some (.slice h2 m2 d2) := (by rw [hm3]; exact cell_of_row _ _ 6 _ _ _ P2.out); clear hm3)
    | (go_at_call 20; refine (SC.out _ B3.out).mono ?_; rintro _ w4 ⟨rfl, m4, hm4⟩; have B4 : Hid (Below w.heap.size w w4) := below2 B3.out (by rw [hm4]; exact below_dN (Below.refl _ _) _) (Nat.le_refl _); clear hm4))
    go_ret
    exact ⟨rfl, BB.out⟩

-- is one text how another begins?
def begB (x y : ByteArray) : Bool := decide (x.size ≤ y.size ∧ y.extract 0 x.size = x)
theorem beg_iff (x y : ByteArray) : begB x y = true ↔ ∃ r, bl y = bl x ++ r := by
  unfold begB
  rw [decide_eq_true_iff]
  constructor
  · rintro ⟨h1, h2⟩
    refine ⟨(bl y).drop x.size, ?_⟩
    have h3 := bl_ext y 0 x.size
    rw [h2, List.drop_zero, Nat.sub_zero] at h3
    rw [h3, List.take_append_drop]
  · rintro ⟨r, h⟩
    have h1 := congrArg List.length h
    rw [List.length_append, bl_len, bl_len] at h1
    refine ⟨by omega, bl_inj ?_⟩
    rw [bl_ext, List.drop_zero, Nat.sub_zero, h, ← bl_len x, List.take_left]
set_option maxHeartbeats 1600000 in
theorem beginsC (x y : ByteArray) (w : World) (hx : x.size ≤ 140737488355328) (hy : y.size ≤ 140737488355328) : Calls Try.prog 15 #[.string x, .string y] w fun e w' => e = .returned (.bool (begB x y)) ∧ w' = w := by
  by_cases h1 : x.size ≤ y.size
  · have h1' : (x.size : Int) ≤ y.size := by omega
    have d1 : decide ((x.size : Int) ≤ (y.size : Int)) = true := decide_eq_true h1'
    by_cases h2 : y.extract 0 x.size = x
    · have HB : Hid (begB x y = true) := decide_eq_true ⟨h1, h2⟩
      rw [HB.out]
      have q1 : ((y.extract 0 x.size).toList == x.toList) = true := by rw [beqL]; exact decide_eq_true h2
      clear h1 h2 HB
      go_enter Try.func15, Try.ntmps15
      go_wp2
      go_ret
      exact ⟨rfl, rfl⟩
    · have HB : Hid (begB x y = false) := decide_eq_false (fun h => h2 h.2)
      rw [HB.out]
      have q1 : ((y.extract 0 x.size).toList == x.toList) = false := by rw [beqL]; exact decide_eq_false h2
      clear h1 h2 HB
      go_enter Try.func15, Try.ntmps15
      go_wp2
      go_ret
      exact ⟨rfl, rfl⟩
  · have h1' : ¬ (x.size : Int) ≤ y.size := by omega
    have d1 : decide ((x.size : Int) ≤ (y.size : Int)) = false := decide_eq_false h1'
    have HB : Hid (begB x y = false) := decide_eq_false (fun h => h1 h.1)
    rw [HB.out]
    clear h1 HB
    go_enter Try.func15, Try.ntmps15
    go_wp2
    go_ret
    exact ⟨rfl, rfl⟩
-- what is written is read
theorem proof_read {k wd a c n : Int} {xs : List Int} {hs : List ByteArray} (v : Valid k wd a c n xs hs) (t : ByteArray) (ht : bl t = proofB k wd a c n xs hs) : pE t = 0 ∧ (pW t).1 = wd ∧ (pK t).1 = k ∧ (pSh t).a = a ∧ (pSh t).b = c ∧ (pSh t).n = n ∧ (pSh t).at' = xs ∧ (pHs t).1 = hs := by
  obtain ⟨h1, h2, h3, h4, h5, h6, h7⟩ := proof_back t k wd a c n xs hs [] v (by rw [List.append_nil]; exact ht)
  refine ⟨?_, h1, h2, h3, h4, h5, h6, by rw [h7]⟩
  unfold pE
  rw [h7]
  show endS t (proofB k wd a c n xs hs).length 0 = 0
  rw [← ht, bl_len]
  exact end_at t
theorem apart {k1 wd1 a1 b1 n1 k2 wd2 a2 b2 n2 : Int} {xs1 xs2 : List Int} {hs1 hs2 : List ByteArray} (v1 : Valid k1 wd1 a1 b1 n1 xs1 hs1) (v2 : Valid k2 wd2 a2 b2 n2 xs2 hs2) :
    begB (proofT k1 wd1 a1 b1 n1 xs1 hs1) (proofT k2 wd2 a2 b2 n2 xs2 hs2) = decide (k1 = k2 ∧ wd1 = wd2 ∧ a1 = a2 ∧ b1 = b2 ∧ n1 = n2 ∧ xs1 = xs2 ∧ hs1 = hs2) := by
  obtain ⟨x0, x1, x2, x3, x4, x5, x6, x7⟩ := proof_read v1 _ (proofT_is k1 wd1 a1 b1 n1 xs1 hs1)
  obtain ⟨y0, y1, y2, y3, y4, y5, y6, y7⟩ := proof_read v2 _ (proofT_is k2 wd2 a2 b2 n2 xs2 hs2)
  by_cases h : k1 = k2 ∧ wd1 = wd2 ∧ a1 = a2 ∧ b1 = b2 ∧ n1 = n2 ∧ xs1 = xs2 ∧ hs1 = hs2
  · rw [decide_eq_true h]
    obtain ⟨rfl, rfl, rfl, rfl, rfl, rfl, rfl⟩ := h
    exact (beg_iff _ _).2 ⟨[], by rw [List.append_nil]⟩
  · rw [decide_eq_false h]
    cases hb : begB (proofT k1 wd1 a1 b1 n1 xs1 hs1) (proofT k2 wd2 a2 b2 n2 xs2 hs2) with
    | false => rfl
    | true =>
      exfalso
      apply h
      obtain ⟨r, hr⟩ := (beg_iff _ _).1 hb
      have e := proof_ext _ _ r x0 hr y0
      rw [e, List.append_nil] at hr
      have e2 := bl_inj hr
      rw [e2] at y1 y2 y3 y4 y5 y6 y7
      exact ⟨x2.symm.trans y2, x1.symm.trans y1, x3.symm.trans y3, x4.symm.trans y4, x5.symm.trans y5, x6.symm.trans y6, x7.symm.trans y7⟩
theorem letters {k wd a b n : Int} {xs : List Int} {hs : List ByteArray} (y : ByteArray) (l : List UInt8) (hy : bl y = 76 :: l) : begB (proofT k wd a b n xs hs) y = false ∧ begB y (proofT k wd a b n xs hs) = false := by
  have hp : ∃ t, bl (proofT k wd a b n xs hs) = 80 :: t := ⟨_, proofT_is k wd a b n xs hs⟩
  obtain ⟨t, ht⟩ := hp
  constructor
  · cases hb : begB (proofT k wd a b n xs hs) y with
    | false => rfl
    | true =>
      obtain ⟨r, hr⟩ := (beg_iff _ _).1 hb
      rw [ht, hy] at hr
      exact absurd (List.cons.inj hr).1 (by decide)
  · cases hb : begB y (proofT k wd a b n xs hs) with
    | false => rfl
    | true =>
      obtain ⟨r, hr⟩ := (beg_iff _ _).1 hb
      rw [ht, hy] at hr
      exact absurd (List.cons.inj hr).1 (by decide)
end Go.Proofs.Ythpfgdhmpeadeaa.w2

namespace Go.Proofs.Ythpfgdhmpeadeaa.cv
open Go.RowKit Go.PlainAid
open Go.Proofs.Ythpfgdhmpeadeaa.cp
theorem fits64 (a : Int) (h : (Lit.int .i64 a).wf = true) : -9223372036854775808 ≤ a ∧ a ≤ 9223372036854775807 := by
  simp only [Lit.wf, Bool.and_eq_true, decide_eq_true_eq] at h
  obtain ⟨h1, h2⟩ := h
  have e1 : IntKind.i64.min = -9223372036854775808 := by decide
  have e2 : IntKind.i64.max = 9223372036854775807 := by decide
  omega
set_option maxRecDepth 100000 in
theorem i64_of {a : Int} (h : (Lit.int .i64 a).wf = true) : i64 a := fits64 a h
end Go.Proofs.Ythpfgdhmpeadeaa.cv

namespace Go.Proofs.Ythpfgdhmpeadeaa.w3
open Go.RowKit Go.PlainAid Go.Shelf
open Go.Proofs.Ythpfgdhmpeadeaa.ca Go.Proofs.Ythpfgdhmpeadeaa.cb Go.Proofs.Ythpfgdhmpeadeaa.cp Go.Proofs.Ythpfgdhmpeadeaa.cv Go.Proofs.Ythpfgdhmpeadeaa.ga Go.Proofs.Ythpfgdhmpeadeaa.kp Go.Proofs.Ythpfgdhmpeadeaa.mi Go.Proofs.Ythpfgdhmpeadeaa.co Go.Proofs.Ythpfgdhmpeadeaa.na Go.Proofs.Ythpfgdhmpeadeaa.nb Go.Proofs.Ythpfgdhmpeadeaa.nc Go.Proofs.Ythpfgdhmpeadeaa.ea Go.Proofs.Ythpfgdhmpeadeaa.eb Go.Proofs.Ythpfgdhmpeadeaa.ec Go.Proofs.Ythpfgdhmpeadeaa.ee Go.Proofs.Ythpfgdhmpeadeaa.ef Go.Proofs.Ythpfgdhmpeadeaa.eg Go.Proofs.Ythpfgdhmpeadeaa.eh Go.Proofs.Ythpfgdhmpeadeaa.eo Go.Proofs.Ythpfgdhmpeadeaa.eq Go.Proofs.Ythpfgdhmpeadeaa.er Go.Proofs.Ythpfgdhmpeadeaa.es Go.Proofs.Ythpfgdhmpeadeaa.ka Go.Proofs.Ythpfgdhmpeadeaa.bn Go.Proofs.Ythpfgdhmpeadeaa.lg Go.Proofs.Ythpfgdhmpeadeaa.wp Go.Proofs.Ythpfgdhmpeadeaa.e1 Go.Proofs.Ythpfgdhmpeadeaa.e2 Go.Proofs.Ythpfgdhmpeadeaa.e6 Go.Proofs.Ythpfgdhmpeadeaa.e7 Go.Proofs.Ythpfgdhmpeadeaa.e8 Go.Proofs.Ythpfgdhmpeadeaa.e9 Go.Proofs.Ythpfgdhmpeadeaa.w2
set_option linter.unusedVariables false

theorem proofV_of {k wd a b n : Int} {xs : List Int} {hs : List ByteArray} (v : Valid k wd a b n xs hs) : proofV k wd a b n xs hs = .tuple #[.string (proofT k wd a b n xs hs), .int .i64 0] := by
  unfold proofV
  rw [(valid_iff k wd a b n xs hs).2 v, if_pos rfl]
theorem proofT_size {k wd a b n : Int} {xs : List Int} {hs : List ByteArray} (v : Valid k wd a b n xs hs) : (proofT k wd a b n xs hs).size ≤ 40000000 := by
  obtain ⟨k1, k2, hn, _, _, _⟩ := ref_bounds v.rf
  obtain ⟨n1, n2, n3⟩ := named_in v.rf
  have hln : hs.length ≤ 70000 := by rw [v.ln]; exact num_le v.rf
  have hcat := cat_le wd hs (all_sz.2 v.sz) v.w1 (by omega)
  have hps := (putB_size k (by omega) (by omega)).2
  have hns := nums_size _ n1 (by omega)
  unfold proofT
  rw [ByteArray.size_append, ByteArray.size_append, ByteArray.size_append, ByteArray.size_append, str_size]
  have e1 : (⟨#[80]⟩ : ByteArray).size = 1 := rfl
  have e2 : (⟨(cat hs).toArray⟩ : ByteArray).size = (cat hs).length := by show (cat hs).toArray.size = _; rw [List.size_toArray]
  simp only [List.length_singleton]
  omega
theorem proofT_ne {k wd a b n : Int} {xs : List Int} {hs : List ByteArray} : ((proofT k wd a b n xs hs).toList == []) = false := by
  rw [beqLit]
  apply decide_eq_false
  intro e
  have h := proofT_is k wd a b n xs hs
  rw [e] at h
  exact absurd (congrArg List.length h) (by unfold proofB; simp [bl])
theorem leavesV_of {l : List ByteArray} (h1 : l.length ≤ 1024) (h2 : ∀ x ∈ l, x.size ≤ 4096) : leavesV l = .tuple #[.string ⟨(leavesB l).toArray⟩, .int .i64 0] := by
  have e : leavesE l = 0 := by
    unfold leavesE
    rw [if_neg (by omega), if_pos]
    rw [List.all_eq_true]
    intro x hx
    exact decide_eq_true (h2 x hx)
  unfold leavesV
  rw [e, if_pos rfl]
theorem valid_len {k wd a b n : Int} {xs : List Int} {hs : List ByteArray} (v : Valid k wd a b n xs hs) : xs.length ≤ 140737488355328 ∧ hs.length ≤ 140737488355328 := by
  have hln : hs.length ≤ 70000 := by rw [v.ln]; exact num_le v.rf
  obtain ⟨k1, k2, hn, _, _, hx⟩ := ref_bounds v.rf
  refine ⟨?_, by omega⟩
  by_cases k4 : k = 4
  · have := (hx k4).1; omega
  · have hb := v.br
    unfold bareP at hb
    rw [if_neg k4] at hb
    split at hb
    · rw [hb]; simp
    · rw [hb.2]; simp
theorem all_snoc4 {hs : List ByteArray} {x : ByteArray} (h : ∀ y ∈ hs, y.size ≤ 4096) (hx : x.size ≤ 4096) : ∀ y ∈ hs ++ [x], y.size ≤ 4096 := by
  intro y hy
  rcases List.mem_append.1 hy with h1 | h1
  · exact h y h1
  · rw [List.mem_singleton] at h1; subst h1; exact hx
theorem leaves_size {l : List ByteArray} (h1 : l.length ≤ 1024) (h2 : ∀ x ∈ l, x.size ≤ 4096) : (leavesB l).length ≤ 10000000 := by
  have h := leavesK_length l h1 l.length (Nat.le_refl _) (fun j hj => h2 _ (by rw [List.getD_eq_getElem?_getD, List.getElem?_eq_getElem hj]; exact List.getElem_mem _))
  rw [leavesK_all] at h
  omega
set_option maxRecDepth 100000 in
set_option maxHeartbeats 12800000 in
theorem apart_walk {w : World} (k1 : Int) (i01 : (Lit.int .i64 k1).wf = true) (wd1 : Int) (i11 : (Lit.int .i64 wd1).wf = true) (a1 : Int) (i21 : (Lit.int .i64 a1).wf = true) (b1 : Int) (i31 : (Lit.int .i64 b1).wf = true) (n1 : Int) (i41 : (Lit.int .i64 n1).wf = true) (va1 ha1 : Option Addr) (L1 vc1 hl1 hc1 : Nat) (xs1 : List Int) (hs1 : List ByteArray) (hR1 : ReadsI w (.slice va1 L1 vc1) xs1) (hnoI1 : ∀ k c, Value.slice va1 L1 vc1 = .slice none k c → c = 0) (hx1 : ∀ x ∈ xs1, -9223372036854775808 ≤ x ∧ x ≤ 9223372036854775807) (hzI1 : xs1.length * 8 ≤ 140737488351232) (hT1 : ReadsT w (.slice ha1 hl1 hc1) hs1) (hnoT1 : ∀ k c, Value.slice ha1 hl1 hc1 = .slice none k c → c = 0) (hsz1 : ∀ x ∈ hs1, x.size ≤ 140737488351232) (hzT1 : hs1.length * 16 ≤ 140737488351232) (k2 : Int) (i02 : (Lit.int .i64 k2).wf = true) (wd2 : Int) (i12 : (Lit.int .i64 wd2).wf = true) (a2 : Int) (i22 : (Lit.int .i64 a2).wf = true) (b2 : Int) (i32 : (Lit.int .i64 b2).wf = true) (n2 : Int) (i42 : (Lit.int .i64 n2).wf = true) (va2 ha2 : Option Addr) (L2 vc2 hl2 hc2 : Nat) (xs2 : List Int) (hs2 : List ByteArray) (hR2 : ReadsI w (.slice va2 L2 vc2) xs2) (hnoI2 : ∀ k c, Value.slice va2 L2 vc2 = .slice none k c → c = 0) (hx2 : ∀ x ∈ xs2, -9223372036854775808 ≤ x ∧ x ≤ 9223372036854775807) (hzI2 : xs2.length * 8 ≤ 140737488351232) (hT2 : ReadsT w (.slice ha2 hl2 hc2) hs2) (hnoT2 : ∀ k c, Value.slice ha2 hl2 hc2 = .slice none k c → c = 0) (hsz2 : ∀ x ∈ hs2, x.size ≤ 140737488351232) (hzT2 : hs2.length * 16 ≤ 140737488351232) (lv : Value) (ls : List ByteArray) (hRL : ReadsT w lv ls) (hnoL : ∀ k c, lv = .slice none k c → c = 0) (hszL : ∀ x ∈ ls, x.size ≤ 140737488351232) (hzL : ls.length * 16 ≤ 140737488351232) :
    Calls Try.prog 4 #[.agg #[.int .i64 k1, .int .i64 wd1, .int .i64 a1, .int .i64 b1, .int .i64 n1, .slice va1 L1 vc1, .slice ha1 hl1 hc1], .agg #[.int .i64 k2, .int .i64 wd2, .int .i64 a2, .int .i64 b2, .int .i64 n2, .slice va2 L2 vc2, .slice ha2 hl2 hc2], lv] w fun e w' => e = .returned (.bool true) ∧ Below w.heap.size w w' := by
  obtain ⟨i9, hi, hz0, hz1, hz2⟩ := info_parts hiE
  have HIN : Hid (_ ∧ _ ∧ _ ∧ _) := ⟨hi, hz0, hz1, hz2⟩
  clear hi hz0 hz1 hz2
  obtain ⟨W2, HW2⟩ : ∃ W2, Hid (W2 = (w.alloc (.cells #[.int .i64 k1, .int .i64 wd1, .int .i64 a1, .int .i64 b1, .int .i64 n1, .slice va1 L1 vc1, .slice ha1 hl1 hc1] 25)).alloc (.cells #[.int .i64 k2, .int .i64 wd2, .int .i64 a2, .int .i64 b2, .int .i64 n2, .slice va2 L2 vc2, .slice ha2 hl2 hc2] 25)) := ⟨_, rfl⟩
  have B2 : Hid (Below w.heap.size w W2) := by rw [HW2.out]; exact ((Below.refl _ _).alloc (Nat.le_refl _) _).alloc (by simp) _
  have hp1 : W2.heap[w.heap.size]? = some (.cells #[.int .i64 k1, .int .i64 wd1, .int .i64 a1, .int .i64 b1, .int .i64 n1, .slice va1 L1 vc1, .slice ha1 hl1 hc1] 25 (0, 0)) := by rw [HW2.out]; exact (Below.heap_alloc _ _ _ (by simp)).trans (heap_alloc_new w _)
  have HP2 : Hid (W2.heap[w.heap.size + 1]? = some (.cells #[.int .i64 k2, .int .i64 wd2, .int .i64 a2, .int .i64 b2, .int .i64 n2, .slice va2 L2 vc2, .slice ha2 hl2 hc2] 25 (0, 0))) := by
    rw [HW2.out]
    have h := heap_alloc_new (w.alloc (.cells #[.int .i64 k1, .int .i64 wd1, .int .i64 a1, .int .i64 b1, .int .i64 n1, .slice va1 L1 vc1, .slice ha1 hl1 hc1] 25)) (.cells #[.int .i64 k2, .int .i64 wd2, .int .i64 a2, .int .i64 b2, .int .i64 n2, .slice va2 L2 vc2, .slice ha2 hl2 hc2] 25)
    rw [show (w.alloc (.cells #[.int .i64 k1, .int .i64 wd1, .int .i64 a1, .int .i64 b1, .int .i64 n1, .slice va1 L1 vc1, .slice ha1 hl1 hc1] 25)).heap.size = w.heap.size + 1 by simp] at h
    exact h
  obtain ⟨d0, d1, d2, d3, d4, d5, d6⟩ := seven hp1
  have F1 : Hid (Calls _ _ _ _ _) := fittedC k1 wd1 a1 b1 n1 va1 ha1 L1 vc1 hl1 hc1 xs1 hs1 W2 (i64_of i01) (i64_of i11) (i64_of i21) (i64_of i31) (i64_of i41) (hR1.later B2.out) hx1 hzI1 (hT1.later B2.out) hsz1 hzT1
  have F2 : Hid (∀ W', Below W2.heap.size W2 W' → Calls _ _ _ (W' : World) _) := fun W' h => fittedC k2 wd2 a2 b2 n2 va2 ha2 L2 vc2 hl2 hc2 xs2 hs2 W' (i64_of i02) (i64_of i12) (i64_of i22) (i64_of i32) (i64_of i42) ((hR2.later B2.out).later h) hx2 hzI2 ((hT2.later B2.out).later h) hsz2 hzT2
  have HRL : Hid (ReadsT w lv ls) := hRL
  have HSL : Hid (∀ j, j < ls.length → (ls.getD j ByteArray.empty).size ≤ 140737488351232) := fun j hj => hszL _ (by rw [List.getD_eq_getElem?_getD, List.getElem?_eq_getElem hj]; exact List.getElem_mem _)
  obtain ⟨la, lcap, hlv, hlcap, _⟩ := hRL
  obtain ⟨N, HN⟩ : ∃ N, Hid (ls.length = N) := ⟨_, rfl⟩
  rw [HN.out] at hlv hlcap hzL
  subst hlv
  have hNb : (N : Int) ≤ 8796093021952 := by omega
  clear hp1 hnoI1 hnoT1 hnoI2 hnoT2 hnoL hszL i01 i11 i21 i31 i41 i02 i12 i22 i32 i42 hR1 hR2 hT1 hT2 hx1 hx2 hzI1 hzI2 hzT1 hzT2 hsz1 hsz2
  go_enter Try.func4, Try.ntmps4
  go_upto_region 1 with fail
  rw [← HW2.out]
  clear HW2
  go_upto_region 2 with (go_at_call 12; refine F1.out.mono ?_; rintro _ w3 ⟨⟨xk, xw, xa, xb, xn, xxs, xhs, xva, xvl, xvc, xha, xhl, xhc, rfl, xV, xO, xT⟩, k3⟩; have VX : Hid (Valid xk xw xa xb xn xxs xhs) := xV; have OX : Hid (OwI w3 W2.heap.size (.slice xva xvl xvc) xxs ∧ OwT w3 W2.heap.size (.slice xha xhl xhc) xhs) := ⟨xO, xT⟩; have B3 : Hid (Below W2.heap.size W2 w3) := k3; clear xV xO xT k3)
  obtain ⟨W4, HW4⟩ : ∃ W4, W4 = w3.alloc (.cells #[.int .i64 xk, .int .i64 xw, .int .i64 xa, .int .i64 xb, .int .i64 xn, .slice xva xvl xvc, .slice xha xhl xhc] 25) := ⟨_, rfl⟩
  have HX4 : Hid (W4.heap[w3.heap.size]? = some (.cells #[.int .i64 xk, .int .i64 xw, .int .i64 xa, .int .i64 xb, .int .i64 xn, .slice xva xvl xvc, .slice xha xhl xhc] 25 (0, 0))) := by rw [HW4]; exact heap_alloc_new w3 _
  have B34 : Hid (Below w3.heap.size w3 W4) := by rw [HW4]; exact (Below.refl _ _).alloc (Nat.le_refl _) _
  have B4 : Hid (Below W2.heap.size W2 W4) := below2 B3.out B34.out (Nat.le_refl _)
  rw [← HW4]
  clear HW4 d0 d1 d2 d3 d4 d5 d6 F1
  obtain ⟨d0, d1, d2, d3, d4, d5, d6⟩ := seven ((B4.out.block _ (Array.getElem?_eq_some_iff.1 HP2.out).1).trans HP2.out)
  go_upto_region 3 with (go_at_call 12; refine (F2.out _ B4.out).mono ?_; rintro _ w5 ⟨⟨yk, yw, ya, yb, yn, yxs, yhs, yva, yvl, yvc, yha, yhl, yhc, rfl, yV, yO, yT⟩, k5⟩; have VY : Hid (Valid yk yw ya yb yn yxs yhs) := yV; have OY : Hid (OwI w5 W4.heap.size (.slice yva yvl yvc) yxs ∧ OwT w5 W4.heap.size (.slice yha yhl yhc) yhs) := ⟨yO, yT⟩; have B45 : Hid (Below W4.heap.size W4 w5) := k5; clear yV yO yT k5)
  obtain ⟨W6, HW6⟩ : ∃ W6, W6 = w5.alloc (.cells #[.int .i64 yk, .int .i64 yw, .int .i64 ya, .int .i64 yb, .int .i64 yn, .slice yva yvl yvc, .slice yha yhl yhc] 25) := ⟨_, rfl⟩
  have HY6 : Hid (W6.heap[w5.heap.size]? = some (.cells #[.int .i64 yk, .int .i64 yw, .int .i64 ya, .int .i64 yb, .int .i64 yn, .slice yva yvl yvc, .slice yha yhl yhc] 25 (0, 0))) := by rw [HW6]; exact heap_alloc_new w5 _
  have B56 : Hid (Below w5.heap.size w5 W6) := by rw [HW6]; exact (Below.refl _ _).alloc (Nat.le_refl _) _
  have B46 : Hid (Below W4.heap.size W4 W6) := below2 B45.out B56.out (Nat.le_refl _)
  have HX6 : Hid (W6.heap[w3.heap.size]? = some (.cells #[.int .i64 xk, .int .i64 xw, .int .i64 xa, .int .i64 xb, .int .i64 xn, .slice xva xvl xvc, .slice xha xhl xhc] 25 (0, 0))) := (B46.out.block _ (Array.getElem?_eq_some_iff.1 HX4.out).1).trans HX4.out
  have RX : Hid (ReadsI W6 (.slice xva xvl xvc) xxs ∧ ReadsT W6 (.slice xha xhl xhc) xhs) := ⟨(OX.out.1.reads.later B34.out).later B46.out, (OX.out.2.reads.later B34.out).later B46.out⟩
  have RY : Hid (ReadsI W6 (.slice yva yvl yvc) yxs ∧ ReadsT W6 (.slice yha yhl yhc) yhs) := ⟨OY.out.1.reads.later B56.out, OY.out.2.reads.later B56.out⟩
  have BW : Hid (Below w.heap.size w W6) := B2.out.trans ((B4.out.trans (B46.out.mono B4.out.size)).mono B2.out.size)
  have RL : Hid (ReadsT W6 (.slice la N lcap) ls) := HRL.out.later BW.out
  rw [← HW6]
  clear HW6 d0 d1 d2 d3 d4 d5 d6 F2 B34 B45 B56 OX OY HX4
  go_upto_if 38 with fail
  go_cut [2] (fun v wx => ∃ (M : Nat) (ls2 : List ByteArray), v = .slice la M lcap ∧ M ≤ 1024 ∧ Hid (wx = W6 ∧ M ≤ lcap ∧ ReadsT W6 (.slice la M lcap) ls2 ∧ ls2.length = M ∧ ∀ j, j < M → (ls2.getD j ByteArray.empty).size ≤ 140737488351232))
  case first =>
    by_cases hbig : 1024 < N
    · have hb1 : (1024 : Int) < N := by omega
      have hb2 : (1024 : Int) ≤ lcap := by omega
      go_wp2
      go_meet
      refine ⟨1024, ls.take 1024, rfl, by omega, rfl, by omega, ?_, by rw [List.length_take, HN.out]; omega, fun j hj => ?_⟩
      · obtain ⟨a', c', e, hc', h⟩ := RL.out
        have e1 := Value.slice.inj e
        refine ⟨la, lcap, by rw [List.length_take, HN.out]; congr 1; omega, by rw [List.length_take, HN.out]; omega, .inr ?_⟩
        rcases h with h | ⟨bb, off, ha, hcc⟩
        · omega
        · refine ⟨bb, off, by rw [e1.1, ha], fun i hi => ?_⟩
          rw [List.length_take, HN.out] at hi
          rw [hcc i (by omega), List.getD_eq_getElem?_getD, List.getD_eq_getElem?_getD, List.getElem?_take, if_pos (by omega)]
      · rw [List.getD_eq_getElem?_getD, List.getElem?_take, if_pos (by omega), ← List.getD_eq_getElem?_getD]
        exact HSL.out j (by rw [HN.out]; omega)
    · have hb1 : ¬ (1024 : Int) < N := by omega
      go_wp2
      go_meet
      exact ⟨N, ls, rfl, by omega, rfl, by omega, RL.out, HN.out, fun j hj => HSL.out j (by rw [HN.out]; exact hj)⟩
  case rest =>
  obtain ⟨M, ls2, rfl, hM, HC⟩ := hcut
  have hwc := HC.out.1
  subst hwc
  have hMc : (M : Int) ≤ lcap := by have := HC.out.2.1; omega
  have HEL : Hid (∀ (W : World), Below wc.heap.size wc W → ∀ j, j < M → ∃ bb off, la = some ⟨bb, off, none⟩ ∧ W.cell? ⟨bb, off + j, none⟩ = some (.string (ls2.getD j ByteArray.empty))) := fun W hW j hj => by
    obtain ⟨a', cap', e, _, h⟩ := HC.out.2.2.1
    have e1 := (Value.slice.inj e).1
    rcases h with h | ⟨bb, off, ha, hc⟩
    · have := HC.out.2.2.2.1; omega
    · have c := hc j (by have := HC.out.2.2.2.1; omega)
      exact ⟨bb, off, by rw [e1, ha], (hW.cell (p := ⟨bb, off + j, none⟩) (World.block_lt_of_cell? _ _ c)).trans c⟩
  have HSZ2 : Hid (∀ j, j < M → (ls2.getD j ByteArray.empty).size ≤ 140737488351232) := HC.out.2.2.2.2
  clear HC hlcap hNb hzL HSL HRL RL HN
  go_wp2
  go_loopw [11, 12] (fun v i wr => ∃ (j : Nat) (ys : List ByteArray), j ≤ M ∧ i = .int .i64 j ∧ Hid (ys.length = j ∧ ∀ x ∈ ys, x.size ≤ 4096) ∧ Hid (OwT wr wc.heap.size v ys ∧ Below wc.heap.size wc wr)) (fun _ i _ => (M - intOf i).toNat)
  case atStart => exact ⟨0, [], by omega, rfl, ⟨rfl, fun x hx => absurd hx (List.not_mem_nil)⟩, OwT.nil _ _, Below.refl _ _⟩
  case round =>
    obtain ⟨j, ys, hj, rfl, HY, HH⟩ := hrel
    obtain ⟨oa, oc, hv⟩ := HH.out.1.form
    rw [HY.out.1] at hv
    subst hv
    have HO : Hid (OwT wr wc.heap.size (.slice oa j oc) ys) := HH.out.1
    have HB : Hid (Below wc.heap.size wc wr) := HH.out.2
    clear HH
    by_cases hlt : j < M
    · have hlt' : (j : Int) < M := by omega
      obtain ⟨bb, off, hla, hc⟩ := HEL.out wr HB.out j hlt
      have hX := HSZ2.out j hlt
      subst hla
      obtain ⟨X, HX⟩ : ∃ X, Hid (ls2.getD j ByteArray.empty = X) := ⟨_, rfl⟩
      rw [HX.out] at hc hX
      obtain ⟨q, HQ⟩ : ∃ q, Hid (min X.size 4096 = q) := ⟨_, rfl⟩
      have hmin : min (X.size : Int) 4096 = (q : Int) := by have := HQ.out; omega
      have hq1 : q ≤ X.size := by have := HQ.out; omega
      have hq2 : q ≤ 4096 := by have := HQ.out; omega
      have hq3 : (q : Int) ≤ X.size := by omega
      have HXS : Hid ((X.extract 0 q).size ≤ 4096) := by show _ ≤ _; rw [ByteArray.size_extract]; omega
      have OD : Hid (OwT wr.drew wc.heap.size (.slice oa j oc) ys) := HO.out
      have OA : Hid (World.ownsRow ((wr.alloc (.cells #[.string (X.extract 0 q)] 9)).drew) wc.heap.size 9 1 (.slice oa j oc) j (ys.map Value.string)) := by
        have h := HO.out.later ((Below.refl _ _).alloc (Nat.le_refl _) (.cells #[.string (X.extract 0 q)] 9))
        unfold OwT at h
        rw [HY.out.1] at h
        exact h
      have NW : Hid (∀ (i : Nat) (u : Value), [Value.string (X.extract 0 q)][i]? = some u → ((wr.alloc (.cells #[.string (X.extract 0 q)] 9)).drew).cell? (Addr.add ⟨wr.heap.size, 0, none⟩ i) = some u) := new_text _ _ _
      have ca : (wr.alloc (.cells #[.string (X.extract 0 q)] 9)).cell? ⟨bb, off + j, none⟩ = some (.string X) := (World.cell?_alloc_lt _ _ _ (World.block_lt_of_cell? _ _ hc)).trans hc
      have BA : Hid (Below wc.heap.size wc ((wr.alloc (.cells #[.string (X.extract 0 q)] 9)).drew)) := below_dr (HB.out.alloc HB.out.size _)
      go_upto_region 11 with fail
      go_region_held_law (fun w' => w'.cell? ⟨bb, off + j, none⟩ = some (.string X)) (first | exact hc | exact ca | exact c5) ((refine step_append_lies _ (by rfl) (.tmp 47) (.tmp 59) 23 (by rfl) wc.heap.size 9 i9 (.string ByteArray.empty) 1 16 Try.underlying23 HIN.out.1 HIN.out.2.1 HIN.out.2.2.1 HIN.out.2.2.2 rfl (by decide) (.slice oa j oc) j _ (by simp [Act.eval]) OA.out ⟨wr.heap.size, 0, none⟩ 1 1 [.string (X.extract 0 q)] (by simp [Act.eval]) rfl NW.out (one_text _) (by omega) (by unfold maxLen; omega) (by omega) BA.out.size _ rfl ?_; intro g5 s5 w5 ho5 hg5 hl5 hlt5; have O5 : Hid (World.ownsRow _ _ _ _ _ _ _) := ho5; have B5 : Hid (Below wc.heap.size wc w5) := Below.grown BA.out hg5 BA.out.size (fun j hj => (OA.out.lt _ hj).1); have c5 : w5.cell? ⟨bb, off + j, none⟩ = some (.string X) := (by obtain ⟨b2, o2, e2, h2⟩ := HEL.out w5 B5.out j hlt; have e3 := Option.some.inj e2; have e4 := congrArg Addr.block e3; have e5 := congrArg Addr.off e3; simp only at e4 e5; rw [HX.out] at h2; rw [e4, e5]; exact h2); clear ho5 hg5 hl5 hlt5))
      go_wp2
      go_roundw
      case rel => exact ⟨j + 1, ys ++ [X.extract 0 q], by omega, by go_num, ⟨by rw [List.length_append, HY.out.1]; rfl, all_snoc4 HY.out.2 HXS.out⟩, by have h := O5.out; unfold OwT; rw [List.length_append, HY.out.1, List.map_append]; exact h, B5.out⟩
      case measure => simp [intOf]; omega
    · have hlt' : ¬ (j : Int) < M := by omega
      have hjm : j = M := by omega
      subst hjm
      have BX : Hid (∀ W', Below wc.heap.size wc W' → W'.heap[w3.heap.size]? = some (.cells #[.int .i64 xk, .int .i64 xw, .int .i64 xa, .int .i64 xb, .int .i64 xn, .slice xva xvl xvc, .slice xha xhl xhc] 25 (0, 0)) ∧ W'.heap[w5.heap.size]? = some (.cells #[.int .i64 yk, .int .i64 yw, .int .i64 ya, .int .i64 yb, .int .i64 yn, .slice yva yvl yvc, .slice yha yhl yhc] 25 (0, 0))) := fun W' h => ⟨(h.block _ (Array.getElem?_eq_some_iff.1 HX6.out).1).trans HX6.out, (h.block _ (Array.getElem?_eq_some_iff.1 HY6.out).1).trans HY6.out⟩
      have hlx : xxs.length ≤ 140737488355328 ∧ xhs.length ≤ 140737488355328 := valid_len VX.out
      have hly : yxs.length ≤ 140737488355328 ∧ yhs.length ≤ 140737488355328 := valid_len VY.out
      have CX : Hid (∀ W', Below wc.heap.size wc W' → Calls _ _ _ (W' : World) _) := fun W' h => proofC xk xw xa xb xn xva xha xvl xvc xhl xhc xxs xhs W' (RX.out.1.later h) (RX.out.2.later h) hlx.1 hlx.2
      have CY : Hid (∀ W', Below wc.heap.size wc W' → Calls _ _ _ (W' : World) _) := fun W' h => proofC yk yw ya yb yn yva yha yvl yvc yhl yhc yxs yhs W' (RY.out.1.later h) (RY.out.2.later h) hly.1 hly.2
      rw [proofV_of VX.out] at CX
      rw [proofV_of VY.out] at CY
      have CL : Hid (∀ W', Below wr.heap.size wr W' → Calls _ _ _ (W' : World) _) := fun W' h => leavesC (.slice oa j oc) ys W' (HO.out.reads.later h) (by have := HY.out.1; omega)
      rw [leavesV_of (by have := HY.out.1; omega) HY.out.2] at CL
      have CA : Hid (∀ W', Below wc.heap.size wc W' → Calls _ _ _ (W' : World) _) := fun W' h => alikeG xk xw xa xb xn yk yw ya yb yn xva yva xha yha xvl xvc yvl yvc xhl xhc yhl yhc xxs yxs xhs yhs W' (RX.out.1.later h) (RY.out.1.later h) (RX.out.2.later h) (RY.out.2.later h) hlx.1 hlx.2
      have PXY := apart VX.out VY.out
      have PYX : begB (proofT yk yw ya yb yn yxs yhs) (proofT xk xw xa xb xn xxs xhs) = decide (xk = yk ∧ xw = yw ∧ xa = ya ∧ xb = yb ∧ xn = yn ∧ xxs = yxs ∧ xhs = yhs) := by
        rw [apart VY.out VX.out]
        exact decide_eq_decide.2 ⟨fun h => ⟨h.1.symm, h.2.1.symm, h.2.2.1.symm, h.2.2.2.1.symm, h.2.2.2.2.1.symm, h.2.2.2.2.2.1.symm, h.2.2.2.2.2.2.symm⟩, fun h => ⟨h.1.symm, h.2.1.symm, h.2.2.1.symm, h.2.2.2.1.symm, h.2.2.2.2.1.symm, h.2.2.2.2.2.1.symm, h.2.2.2.2.2.2.symm⟩⟩
      have LXC := letters (k := xk) (wd := xw) (a := xa) (b := xb) (n := xn) (xs := xxs) (hs := xhs) ⟨(leavesB ys).toArray⟩ _ rfl
      have SX := proofT_size VX.out
      have SY := proofT_size VY.out
      have SL : (⟨(leavesB ys).toArray⟩ : ByteArray).size ≤ 10000000 := by show (leavesB ys).toArray.size ≤ _; rw [List.size_toArray]; exact leaves_size (by have := HY.out.1; omega) HY.out.2
      have nX := proofT_ne (k := xk) (wd := xw) (a := xa) (b := xb) (n := xn) (xs := xxs) (hs := xhs)
      have nY := proofT_ne (k := yk) (wd := yw) (a := ya) (b := yb) (n := yn) (xs := yxs) (hs := yhs)
      have nL : ((⟨(leavesB ys).toArray⟩ : ByteArray).toList == []) = false := by rw [beqLit]; exact decide_eq_false (fun e => absurd (congrArg (fun z : ByteArray => z.data.toList.length) e) (by simp [leavesB]))
      obtain ⟨A, HA⟩ : ∃ A, Hid (proofT xk xw xa xb xn xxs xhs = A) := ⟨_, rfl⟩
      obtain ⟨B, HBB⟩ : ∃ A, Hid (proofT yk yw ya yb yn yxs yhs = A) := ⟨_, rfl⟩
      obtain ⟨C, HCC⟩ : ∃ A : ByteArray, Hid ((⟨(leavesB ys).toArray⟩ : ByteArray) = A) := ⟨_, rfl⟩
      obtain ⟨o, HOO⟩ : ∃ o, Hid (decide (xk = yk ∧ xw = yw ∧ xa = ya ∧ xb = yb ∧ xn = yn ∧ xxs = yxs ∧ xhs = yhs) = o) := ⟨_, rfl⟩
      rw [HOO.out] at CA PXY PYX
      rw [HA.out] at CX PXY PYX LXC SX nX
      rw [HBB.out] at CY PXY PYX SY nY
      rw [HCC.out] at CL LXC SL nL
      have BAB : Hid (∀ w : World, Calls _ _ _ _ _) := fun w => beginsC A B w (by omega) (by omega)
      have BBA : Hid (∀ w : World, Calls _ _ _ _ _) := fun w => beginsC B A w (by omega) (by omega)
      have BAC : Hid (∀ w : World, Calls _ _ _ _ _) := fun w => beginsC A C w (by omega) (by omega)
      have BCA : Hid (∀ w : World, Calls _ _ _ _ _) := fun w => beginsC C A w (by omega) (by omega)
      rw [PXY] at BAB
      rw [PYX] at BBA
      rw [LXC.1] at BAC
      rw [LXC.2] at BCA
      clear PXY PYX LXC HA HBB HCC HOO hlx hly SX SY SL hlt hlt' HEL HSZ2
      have hlt' : ¬ (j : Int) < j := by omega
      obtain ⟨d0, d1, d2, d3, d4, d5, d6⟩ := seven (BX.out wr HB.out).1
      go_upto_region 13 with (go_at_call 7; refine (CX.out _ HB.out).mono ?_; rintro _ w7 ⟨rfl, k7⟩; have B7 : Hid (Below wr.heap.size wr w7) := k7; have BC7 : Hid (Below wc.heap.size wc w7) := below2 HB.out k7 (Nat.le_refl _); clear k7)
      clear d0 d1 d2 d3 d4 d5 d6
      obtain ⟨d0, d1, d2, d3, d4, d5, d6⟩ := seven (BX.out w7 BC7.out).2
      go_upto_region 15 with (first
        | (go_at_call 7; refine (CY.out _ BC7.out).mono ?_; rintro _ w8 ⟨rfl, k8⟩; have B8 : Hid (Below wr.heap.size wr w8) := below2 B7.out k8 (Nat.le_refl _); clear k8)
        | (go_at_call 13; refine (CL.out _ B8.out).mono ?_; rintro _ w9 ⟨rfl, k9⟩; have B9 : Hid (Below wr.heap.size wr w9) := below2 B8.out k9 (Nat.le_refl _); clear k9))
      have BC9 : Hid (Below wc.heap.size wc w9) := below2 HB.out B9.out (Nat.le_refl _)
      clear d0 d1 d2 d3 d4 d5 d6
      obtain ⟨d0, d1, d2, d3, d4, d5, d6⟩ := seven (BX.out w9 BC9.out).1
      obtain ⟨t0, t1, t2, t3, t4, t5, t6⟩ := seven (BX.out w9 BC9.out).2
      go_upto_region 18 with (first
        | (go_at_call 9; refine (num 0 _).mono ?_; rintro _ wz ⟨rfl, hz⟩; rw [hz]; clear hz)
        | (go_at_call 14; refine (CA.out _ BC9.out).mono ?_; rintro _ w10 ⟨rfl, k10⟩; have B10 : Hid (Below wc.heap.size wc w10) := below2 BC9.out k10 (Nat.le_refl _); clear k10))
      have goo : (o == o) = true := by simp
      clear d0 d1 d2 d3 d4 d5 d6 t0 t1 t2 t3 t4 t5 t6
      go_wp2_with (first
          | (go_at_call 15; (with_reducible refine (BAB.out _).mono ?_); rintro _ wz ⟨rfl, hz⟩; rw [hz]; clear hz)
          | (go_at_call 15; (with_reducible refine (BBA.out _).mono ?_); rintro _ wz ⟨rfl, hz⟩; rw [hz]; clear hz)
          | (go_at_call 15; (with_reducible refine (BAC.out _).mono ?_); rintro _ wz ⟨rfl, hz⟩; rw [hz]; clear hz)
          | (go_at_call 15; (with_reducible refine (BCA.out _).mono ?_); rintro _ wz ⟨rfl, hz⟩; rw [hz]; clear hz))
      go_ret
      exact ⟨rfl, below2 BW.out B10.out (Nat.le_refl _)⟩
end Go.Proofs.Ythpfgdhmpeadeaa.w3
