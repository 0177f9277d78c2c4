import Derived.Test.YthpfgdhmpeadeaaDoorG6
import Derived.Test.YthpfgdhmpeadeaaDoorG1
import Derived.Deep.DeepCutAuto
import Derived.BigQuiet
import Derived.Test.YthpfgdhmpeadeaaDoorJ5
import Derived.Laws.Strings2
import Derived.Test.YthpfgdhmpeadeaaDoorK8
import Derived.Test.YthpfgdhmpeadeaaDoorK6
import Derived.Lib.MinMax
import Derived.Deep.AppendLies
import Derived.Deep.RegionHeldLaw
import Derived.Test.YthpfgdhmpeadeaaDoorK4
namespace Go.Proofs.YthpfgdhmpeadeaaDoor.wp
open Go.RowKit Go.PlainAid
open Go.Proofs.YthpfgdhmpeadeaaDoor.ca Go.Proofs.YthpfgdhmpeadeaaDoor.cb Go.Proofs.YthpfgdhmpeadeaaDoor.cp Go.Proofs.YthpfgdhmpeadeaaDoor.ga Go.Proofs.YthpfgdhmpeadeaaDoor.kp Go.Proofs.YthpfgdhmpeadeaaDoor.mi Go.Proofs.YthpfgdhmpeadeaaDoor.ea Go.Proofs.YthpfgdhmpeadeaaDoor.eb Go.Proofs.YthpfgdhmpeadeaaDoor.ec Go.Proofs.YthpfgdhmpeadeaaDoor.ee Go.Proofs.YthpfgdhmpeadeaaDoor.ef Go.Proofs.YthpfgdhmpeadeaaDoor.eg Go.Proofs.YthpfgdhmpeadeaaDoor.eo Go.Proofs.YthpfgdhmpeadeaaDoor.eq Go.Proofs.YthpfgdhmpeadeaaDoor.er Go.Proofs.YthpfgdhmpeadeaaDoor.es Go.Proofs.YthpfgdhmpeadeaaDoor.ka Go.Proofs.YthpfgdhmpeadeaaDoor.bn
set_option linter.unusedVariables false

set_option maxHeartbeats 1600000 in
theorem places_yes (va vb : Value) (xs : List Int) (w : World) (h1 : ReadsI w va xs) (h2 : ReadsI w vb xs) (hz : xs.length ≤ 140737488355328) :
    Calls Tryd.prog 52 #[va, vb] w fun e w' => e = .returned (.bool true) ∧ ∃ m, w' = w.drewN m := by
  obtain ⟨a, cap, rfl, hcap, h1⟩ := h1
  obtain ⟨a', cap', rfl, hcap', h2⟩ := h2
  have HC : Hid (xs.length = 0 ∨ ∃ b off, a = some ⟨b, off, none⟩ ∧ ∀ i, i < xs.length → w.cell? ⟨b, off + i, none⟩ = some (.int .i64 (xs.getD i 0))) := h1
  have HC' : Hid (xs.length = 0 ∨ ∃ b off, a' = some ⟨b, off, none⟩ ∧ ∀ i, i < xs.length → w.cell? ⟨b, off + i, none⟩ = some (.int .i64 (xs.getD i 0))) := h2
  obtain ⟨n, HN⟩ : ∃ n, Hid (xs.length = n) := ⟨_, rfl⟩
  rw [HN.out] at HC HC' hz hcap hcap' ⊢
  clear h1 h2
  have hl' : ((n : Int) != (n : Int)) = false := by simp
  go_enter Tryd.func52, Tryd.ntmps52
  go_wp2
  go_loopw [5] (fun i wr => ∃ k m : Nat, k ≤ n ∧ i = .int .i64 k ∧ wr = w.drewN m) (fun i _ => (n - intOf i).toNat)
  case atStart => exact ⟨0, 0, by omega, rfl, rfl⟩
  case round =>
    obtain ⟨k, m, hk, rfl, rfl⟩ := hrel
    by_cases hlt : k < n
    · have hlt' : (k : Int) < n := by omega
      obtain ⟨b, off, rfl, hc⟩ : ∃ b off, a = some ⟨b, off, none⟩ ∧ ∀ i, i < n → w.cell? ⟨b, off + i, none⟩ = some (.int .i64 (xs.getD i 0)) := by
        rcases HC.out with h | h
        · omega
        · exact h
      obtain ⟨b', off', rfl, hc'⟩ : ∃ b off, a' = some ⟨b, off, none⟩ ∧ ∀ i, i < n → w.cell? ⟨b, off + i, none⟩ = some (.int .i64 (xs.getD i 0)) := by
        rcases HC'.out with h | h
        · omega
        · exact h
      have c1 := hc k hlt
      have c2 := hc' k hlt
      obtain ⟨X, HX⟩ : ∃ X, Hid (xs.getD k 0 = X) := ⟨_, rfl⟩
      rw [HX.out] at c1 c2
      have hb1 : (X != X) = false := by simp
      clear hc hc'
      go_wp2_with fail
      go_quiet (fail)
      go_wp2
      go_roundw
      case rel => exact ⟨k + 1, _, by omega, by go_num, rfl⟩
      case measure => simp [intOf]; omega
    · have hlt' : ¬ (k : Int) < n := by omega
      go_wp2
      go_ret
      exact ⟨rfl, m, rfl⟩
set_option maxHeartbeats 3200000 in
theorem alike_yes (k wd a b n : Int) (v1 v2 h1 h2 : Option Addr) (l1 c1 l2 c2 m1 d1 m2 d2 : Nat) (xs : List Int) (hs : List ByteArray) (w : World) (r1 : ReadsI w (.slice v1 l1 c1) xs) (r2 : ReadsI w (.slice v2 l2 c2) xs) (t1 : ReadsT w (.slice h1 m1 d1) hs) (t2 : ReadsT w (.slice h2 m2 d2) hs) (hz : xs.length ≤ 140737488355328) (hh : hs.length ≤ 140737488355328) :
    Calls Tryd.prog 23 #[.agg #[.int .i64 k, .int .i64 wd, .int .i64 a, .int .i64 b, .int .i64 n, .slice v1 l1 c1, .slice h1 m1 d1], .agg #[.int .i64 k, .int .i64 wd, .int .i64 a, .int .i64 b, .int .i64 n, .slice v2 l2 c2, .slice h2 m2 d2]] w fun e w' => e = .returned (.bool true) ∧ Below w.heap.size w w' := by
  obtain ⟨W1, HX1⟩ : ∃ W, Hid (W = w.alloc (.cells #[.int .i64 k, .int .i64 wd, .int .i64 a, .int .i64 b, .int .i64 n, .slice v1 l1 c1, .slice h1 m1 d1] 49)) := ⟨_, rfl⟩
  have hW1 : W1.heap[w.heap.size]? = some (.cells #[.int .i64 k, .int .i64 wd, .int .i64 a, .int .i64 b, .int .i64 n, .slice v1 l1 c1, .slice h1 m1 d1] 49 (0, 0)) := by rw [HX1.out]; exact heap_alloc_new w _
  have B1 : Below w.heap.size w W1 := by rw [HX1.out]; exact (Below.refl _ _).alloc (Nat.le_refl _) _
  have hs1 : W1.heap.size = w.heap.size + 1 := by rw [HX1.out]; simp
  obtain ⟨W2, HX2⟩ : ∃ W, Hid (W = W1.alloc (.cells #[.int .i64 k, .int .i64 wd, .int .i64 a, .int .i64 b, .int .i64 n, .slice v2 l2 c2, .slice h2 m2 d2] 49)) := ⟨_, rfl⟩
  have hW2 : W2.heap[w.heap.size + 1]? = some (.cells #[.int .i64 k, .int .i64 wd, .int .i64 a, .int .i64 b, .int .i64 n, .slice v2 l2 c2, .slice h2 m2 d2] 49 (0, 0)) := by rw [HX2.out, ← hs1]; exact heap_alloc_new W1 _
  have B2 : Below W1.heap.size W1 W2 := by rw [HX2.out]; exact (Below.refl _ _).alloc (Nat.le_refl _) _
  have hV1 := (B2.block w.heap.size (by omega)).trans hW1
  have BB : Hid (Below w.heap.size w W2) := below2 B1 B2 (Nat.le_refl _)
  obtain ⟨a0, a1, a2, a3, a4, a5, a6⟩ := seven hV1
  obtain ⟨b0, b1, b2, b3, b4, b5, b6⟩ := seven hW2
  have PC : Hid (Calls _ _ _ _ _) := places_yes (.slice v1 l1 c1) (.slice v2 l2 c2) xs W2 (r1.later BB.out) (r2.later BB.out) hz
  have SC : Hid (∀ W, Below w.heap.size w W → Calls _ _ _ _ _) := fun W hb => same_yes (.slice h1 m1 d1) (.slice h2 m2 d2) hs W (t1.later hb) (t2.later hb) hh
  have P1 : Hid (W2.heap[w.heap.size]? = _) := hV1
  have P2 : Hid (W2.heap[w.heap.size + 1]? = _) := hW2
  have e1 : (k != k) = false := by simp
  have e2 : (wd != wd) = false := by simp
  have e3 : (a != a) = false := by simp
  have e4 : (b != b) = false := by simp
  have e5 : (n != n) = false := by simp
  clear hW1 hW2 B1 B2 hs1 hV1 r1 r2 t1 t2
  go_enter Tryd.func23, Tryd.ntmps23
  go_upto_region 1 with fail
  rw [← HX1.out, ← HX2.out]
  clear HX1 HX2
  go_wp2_with (first
    | (go_at_call 52; refine PC.out.mono ?_; rintro _ w3 ⟨rfl, m3, hm3⟩; have B3 : Hid (Below w.heap.size w w3) := below2 BB.out (by rw [hm3]; exact below_dN (Below.refl _ _) _) (Nat.le_refl _); have i6 : w3.cell? ⟨w.heap.size, 6, none⟩ = some (.slice h1 m1 d1) := (by rw [hm3]; exact cell_of_row _ _ 6 _ _ _ P1.out); have j6 : w3.cell? ⟨w.heap.size + 1, 6, none⟩ = some (.slice h2 m2 d2) := (by rw [hm3]; exact cell_of_row _ _ 6 _ _ _ P2.out); clear hm3)
    | (go_at_call 13; refine (SC.out _ B3.out).mono ?_; rintro _ w4 ⟨rfl, m4, hm4⟩; have B4 : Hid (Below w.heap.size w w4) := below2 B3.out (by rw [hm4]; exact below_dN (Below.refl _ _) _) (Nat.le_refl _); clear hm4))
  go_ret
  exact ⟨rfl, B4.out⟩
end Go.Proofs.YthpfgdhmpeadeaaDoor.wp

namespace Go.Proofs.YthpfgdhmpeadeaaDoor.w2
open Go.RowKit Go.PlainAid
open Go.Proofs.YthpfgdhmpeadeaaDoor.ca Go.Proofs.YthpfgdhmpeadeaaDoor.cb Go.Proofs.YthpfgdhmpeadeaaDoor.cp Go.Proofs.YthpfgdhmpeadeaaDoor.ga Go.Proofs.YthpfgdhmpeadeaaDoor.kp Go.Proofs.YthpfgdhmpeadeaaDoor.mi Go.Proofs.YthpfgdhmpeadeaaDoor.co Go.Proofs.YthpfgdhmpeadeaaDoor.na Go.Proofs.YthpfgdhmpeadeaaDoor.nb Go.Proofs.YthpfgdhmpeadeaaDoor.nc Go.Proofs.YthpfgdhmpeadeaaDoor.ea Go.Proofs.YthpfgdhmpeadeaaDoor.eb Go.Proofs.YthpfgdhmpeadeaaDoor.ec Go.Proofs.YthpfgdhmpeadeaaDoor.ee Go.Proofs.YthpfgdhmpeadeaaDoor.ef Go.Proofs.YthpfgdhmpeadeaaDoor.eg Go.Proofs.YthpfgdhmpeadeaaDoor.eo Go.Proofs.YthpfgdhmpeadeaaDoor.eq Go.Proofs.YthpfgdhmpeadeaaDoor.er Go.Proofs.YthpfgdhmpeadeaaDoor.es Go.Proofs.YthpfgdhmpeadeaaDoor.ka Go.Proofs.YthpfgdhmpeadeaaDoor.bn Go.Proofs.YthpfgdhmpeadeaaDoor.wp Go.Proofs.YthpfgdhmpeadeaaDoor.e1 Go.Proofs.YthpfgdhmpeadeaaDoor.e2 Go.Proofs.YthpfgdhmpeadeaaDoor.e6
set_option linter.unusedVariables false
theorem getI_at (xs : List Int) (k : Nat) (h : k < xs.length) : xs.getD k 0 = xs[k] := by
  rw [List.getD_eq_getElem?_getD, List.getElem?_eq_getElem h]; rfl
theorem listsI_eq {xs ys : List Int} (hl : xs.length = ys.length) (h : ∀ j, j < xs.length → xs.getD j 0 = ys.getD j 0) : xs = ys := by
  apply List.ext_getElem hl
  intro j h1 h2
  have := h j h1
  rwa [getI_at _ _ h1, getI_at _ _ h2] at this
set_option maxHeartbeats 1600000 in
theorem placesG (va vb : Value) (xs ys : List Int) (w : World) (h1 : ReadsI w va xs) (h2 : ReadsI w vb ys) (hz : xs.length ≤ 140737488355328) :
    Calls Tryd.prog 52 #[va, vb] w fun e w' => e = .returned (.bool (decide (xs = ys))) ∧ ∃ m, w' = w.drewN m := by
  obtain ⟨a, cap, rfl, _, h1⟩ := h1
  obtain ⟨a', cap', rfl, _, h2⟩ := h2
  by_cases hl : xs.length = ys.length
  · have HC : Hid (xs.length = 0 ∨ ∃ b off, a = some ⟨b, off, none⟩ ∧ ∀ i, i < xs.length → w.cell? ⟨b, off + i, none⟩ = some (.int .i64 (xs.getD i 0))) := h1
    rw [← hl] at h2 ⊢
    have HC' : Hid (xs.length = 0 ∨ ∃ b off, a' = some ⟨b, off, none⟩ ∧ ∀ i, i < xs.length → w.cell? ⟨b, off + i, none⟩ = some (.int .i64 (ys.getD i 0))) := h2
    have HL : Hid (xs.length = ys.length) := hl
    obtain ⟨n, HN⟩ : ∃ n, Hid (xs.length = n) := ⟨_, rfl⟩
    obtain ⟨r, HR⟩ : ∃ r, Hid (decide (xs = ys) = r) := ⟨_, rfl⟩
    rw [HR.out]
    rw [HN.out] at HC HC' hz ⊢
    clear h1 h2 hl
    have hl' : ((n : Int) == (n : Int)) = true := beq_self_eq_true _
    go_enter Tryd.func52, Tryd.ntmps52
    go_wp2
    go_loopw [5] (fun i wr => ∃ k m : Nat, k ≤ n ∧ i = .int .i64 k ∧ Hid (∀ j, j < k → xs.getD j 0 = ys.getD j 0) ∧ wr = w.drewN m) (fun i _ => (n - intOf i).toNat)
    case atStart => exact ⟨0, 0, by omega, rfl, fun j h => by omega, rfl⟩
    case round =>
      obtain ⟨k, m, hk, rfl, HS, rfl⟩ := hrel
      by_cases hlt : k < n
      · have hlt' : (k : Int) < n := by omega
        obtain ⟨b, off, rfl, hc⟩ : ∃ b off, a = some ⟨b, off, none⟩ ∧ ∀ i, i < n → w.cell? ⟨b, off + i, none⟩ = some (.int .i64 (xs.getD i 0)) := by
          rcases HC.out with h | h
          · omega
          · exact h
        obtain ⟨b', off', rfl, hc'⟩ : ∃ b off, a' = some ⟨b, off, none⟩ ∧ ∀ i, i < n → w.cell? ⟨b, off + i, none⟩ = some (.int .i64 (ys.getD i 0)) := by
          rcases HC'.out with h | h
          · omega
          · exact h
        obtain ⟨X, HX⟩ : ∃ X, Hid (xs.getD k 0 = X) := ⟨_, rfl⟩
        obtain ⟨Y, HY⟩ : ∃ X, Hid (ys.getD k 0 = X) := ⟨_, rfl⟩
        have c1 := hc k hlt
        have c2 := hc' k hlt
        rw [HX.out] at c1
        rw [HY.out] at c2
        clear hc hc'
        by_cases hxy : X = Y
        · have hb : (X != Y) = false := by simp [hxy]
          have hb2 : (X == Y) = true := by simp [hxy]
          have HS1 : Hid (∀ j, j < k + 1 → xs.getD j 0 = ys.getD j 0) := fun j hj => by
            rcases Nat.lt_or_ge j k with h | h
            · exact HS.out j h
            · obtain rfl : j = k := by omega
              rw [HX.out, HY.out, hxy]
          clear hxy
          go_wp2_with fail
          go_quiet (fail)
          go_wp2
          go_roundw
          case rel => exact ⟨k + 1, _, by omega, by go_num, HS1.out, rfl⟩
          case measure => simp [intOf]; omega
        · have hb : (X != Y) = true := by simp [hxy]
          have hb2 : (X == Y) = false := by simp [hxy]
          have HE : Hid (r = false) := by
            show _ = _
            rw [← HR.out]
            apply decide_eq_false
            intro e
            apply hxy
            rw [← HX.out, ← HY.out, e]
          clear hxy
          go_wp2_with fail
          go_quiet (fail)
          go_wp2
          go_ret
          exact ⟨by rw [HE.out]; rfl, m + nq, by rw [World.drewN_drewN]⟩
      · have hlt' : ¬ (k : Int) < n := by omega
        have HE : Hid (r = true) := by
          show _ = _
          rw [← HR.out]
          apply decide_eq_true
          exact listsI_eq HL.out (fun j hj => HS.out j (by rw [HN.out] at hj; omega))
        go_wp2
        go_ret
        exact ⟨by rw [HE.out]; rfl, _, rfl⟩
  · rw [decide_eq_false (fun e => hl (by rw [e]))]
    have hb : ((xs.length : Int) == (ys.length : Int)) = false := by rw [beq_eq_false_iff_ne]; omega
    clear hl h1 h2
    go_enter Tryd.func52, Tryd.ntmps52
    go_wp2
    go_ret
    exact ⟨rfl, 0, rfl⟩
set_option maxHeartbeats 3200000 in
theorem alikeG (k1 wd1 a1 b1 n1 k2 wd2 a2 b2 n2 : Int) (v1 v2 h1 h2 : Option Addr) (l1 c1 l2 c2 m1 d1 m2 d2 : Nat) (xs1 xs2 : List Int) (hs1' hs2' : List ByteArray) (w : World) (r1 : ReadsI w (.slice v1 l1 c1) xs1) (r2 : ReadsI w (.slice v2 l2 c2) xs2) (t1 : ReadsT w (.slice h1 m1 d1) hs1') (t2 : ReadsT w (.slice h2 m2 d2) hs2') (hz : xs1.length ≤ 140737488355328) (hh : hs1'.length ≤ 140737488355328) :
    Calls Tryd.prog 23 #[.agg #[.int .i64 k1, .int .i64 wd1, .int .i64 a1, .int .i64 b1, .int .i64 n1, .slice v1 l1 c1, .slice h1 m1 d1], .agg #[.int .i64 k2, .int .i64 wd2, .int .i64 a2, .int .i64 b2, .int .i64 n2, .slice v2 l2 c2, .slice h2 m2 d2]] w fun e w' => e = .returned (.bool (decide (k1 = k2 ∧ wd1 = wd2 ∧ a1 = a2 ∧ b1 = b2 ∧ n1 = n2 ∧ xs1 = xs2 ∧ hs1' = hs2'))) ∧ Below w.heap.size w w' := by
  obtain ⟨W1, HX1⟩ : ∃ W, Hid (W = w.alloc (.cells #[.int .i64 k1, .int .i64 wd1, .int .i64 a1, .int .i64 b1, .int .i64 n1, .slice v1 l1 c1, .slice h1 m1 d1] 49)) := ⟨_, rfl⟩
  have hW1 : W1.heap[w.heap.size]? = some (.cells #[.int .i64 k1, .int .i64 wd1, .int .i64 a1, .int .i64 b1, .int .i64 n1, .slice v1 l1 c1, .slice h1 m1 d1] 49 (0, 0)) := by rw [HX1.out]; exact heap_alloc_new w _
  have B1 : Below w.heap.size w W1 := by rw [HX1.out]; exact (Below.refl _ _).alloc (Nat.le_refl _) _
  have hs1 : W1.heap.size = w.heap.size + 1 := by rw [HX1.out]; simp
  obtain ⟨W2, HX2⟩ : ∃ W, Hid (W = W1.alloc (.cells #[.int .i64 k2, .int .i64 wd2, .int .i64 a2, .int .i64 b2, .int .i64 n2, .slice v2 l2 c2, .slice h2 m2 d2] 49)) := ⟨_, rfl⟩
  have hW2 : W2.heap[w.heap.size + 1]? = some (.cells #[.int .i64 k2, .int .i64 wd2, .int .i64 a2, .int .i64 b2, .int .i64 n2, .slice v2 l2 c2, .slice h2 m2 d2] 49 (0, 0)) := by rw [HX2.out, ← hs1]; exact heap_alloc_new W1 _
  have B2 : Below W1.heap.size W1 W2 := by rw [HX2.out]; exact (Below.refl _ _).alloc (Nat.le_refl _) _
  have hV1 := (B2.block w.heap.size (by omega)).trans hW1
  have BB : Hid (Below w.heap.size w W2) := below2 B1 B2 (Nat.le_refl _)
  obtain ⟨p0, p1, p2, p3, p4, p5, p6⟩ := seven hV1
  obtain ⟨q0, q1, q2, q3, q4, q5, q6⟩ := seven hW2
  have PC : Hid (Calls _ _ _ _ _) := placesG (.slice v1 l1 c1) (.slice v2 l2 c2) xs1 xs2 W2 (r1.later BB.out) (r2.later BB.out) hz
  have SC : Hid (∀ W, Below w.heap.size w W → Calls _ _ _ _ _) := fun W hb => same (.slice h1 m1 d1) (.slice h2 m2 d2) hs1' hs2' W (t1.later hb) (t2.later hb) hh
  have P1 : Hid (W2.heap[w.heap.size]? = _) := hV1
  have P2 : Hid (W2.heap[w.heap.size + 1]? = _) := hW2
  clear hW1 hW2 B1 B2 hs1 hV1 r1 r2 t1 t2
  by_cases ek : k1 = k2
  · have fk : (k1 != k2) = false := by simp [ek]
    by_cases ewd : wd1 = wd2
    · have fwd : (wd1 != wd2) = false := by simp [ewd]
      by_cases ea : a1 = a2
      · have fa : (a1 != a2) = false := by simp [ea]
        by_cases eb : b1 = b2
        · have fb : (b1 != b2) = false := by simp [eb]
          by_cases en : n1 = n2
          · have fn : (n1 != n2) = false := by simp [en]
            by_cases ex : xs1 = xs2
            · rw [decide_eq_true ex] at PC
              by_cases et : hs1' = hs2'
              · rw [decide_eq_true et] at SC
                rw [show decide (k1 = k2 ∧ wd1 = wd2 ∧ a1 = a2 ∧ b1 = b2 ∧ n1 = n2 ∧ xs1 = xs2 ∧ hs1' = hs2') = true from decide_eq_true ⟨ek, ewd, ea, eb, en, ex, et⟩]
                clear ek ewd ea eb en ex et
                go_enter Tryd.func23, Tryd.ntmps23
                go_upto_region 1 with fail
                rw [← HX1.out, ← HX2.out]
                clear HX1 HX2
                go_wp2_with (first
    | (go_at_call 52; refine PC.out.mono ?_; rintro _ w3 ⟨rfl, m3, hm3⟩; have B3 : Hid (Below w.heap.size w w3) := below2 BB.out (by rw [hm3]; exact below_dN (Below.refl _ _) _) (Nat.le_refl _); have i6 : w3.cell? ⟨w.heap.size, 6, none⟩ = some (.slice h1 m1 d1) := (by rw [hm3]; exact cell_of_row _ _ 6 _ _ _ P1.out); have j6 : w3.cell? ⟨w.heap.size + 1, 6, none⟩ = some (.slice h2 m2 d2) := (by rw [hm3]; exact cell_of_row _ _ 6 _ _ _ P2.out); clear hm3)
    | (go_at_call 13; refine (SC.out _ B3.out).mono ?_; rintro _ w4 ⟨rfl, m4, hm4⟩; have B4 : Hid (Below w.heap.size w w4) := below2 B3.out (by rw [hm4]; exact below_dN (Below.refl _ _) _) (Nat.le_refl _); clear hm4))
                go_ret
                exact ⟨rfl, B4.out⟩
              · rw [decide_eq_false et] at SC
                rw [show decide (k1 = k2 ∧ wd1 = wd2 ∧ a1 = a2 ∧ b1 = b2 ∧ n1 = n2 ∧ xs1 = xs2 ∧ hs1' = hs2') = false from decide_eq_false (fun h => et h.2.2.2.2.2.2)]
                clear ek ewd ea eb en ex et
                go_enter Tryd.func23, Tryd.ntmps23
                go_upto_region 1 with fail
                rw [← HX1.out, ← HX2.out]
                clear HX1 HX2
                go_wp2_with (first
    | (go_at_call 52; refine PC.out.mono ?_; rintro _ w3 ⟨rfl, m3, hm3⟩; have B3 : Hid (Below w.heap.size w w3) := below2 BB.out (by rw [hm3]; exact below_dN (Below.refl _ _) _) (Nat.le_refl _); have i6 : w3.cell? ⟨w.heap.size, 6, none⟩ = some (.slice h1 m1 d1) := (by rw [hm3]; exact cell_of_row _ _ 6 _ _ _ P1.out); have j6 : w3.cell? ⟨w.heap.size + 1, 6, none⟩ = some (.slice h2 m2 d2) := (by rw [hm3]; exact cell_of_row _ _ 6 _ _ _ P2.out); clear hm3)
    | (go_at_call 13; refine (SC.out _ B3.out).mono ?_; rintro _ w4 ⟨rfl, m4, hm4⟩; have B4 : Hid (Below w.heap.size w w4) := below2 B3.out (by rw [hm4]; exact below_dN (Below.refl _ _) _) (Nat.le_refl _); clear hm4))
                go_ret
                exact ⟨rfl, B4.out⟩
            · rw [decide_eq_false ex] at PC
              rw [show decide (k1 = k2 ∧ wd1 = wd2 ∧ a1 = a2 ∧ b1 = b2 ∧ n1 = n2 ∧ xs1 = xs2 ∧ hs1' = hs2') = false from decide_eq_false (fun h => ex h.2.2.2.2.2.1)]
              clear ek ewd ea eb en ex
              go_enter Tryd.func23, Tryd.ntmps23
              go_upto_region 1 with fail
              rw [← HX1.out, ← HX2.out]
              clear HX1 HX2
              go_wp2_with (first
    | (go_at_call 52; refine PC.out.mono ?_; rintro _ w3 ⟨rfl, m3, hm3⟩; have B3 : Hid (Below w.heap.size w w3) := below2 BB.out (by rw [hm3]; exact below_dN (Below.refl _ _) _) (Nat.le_refl _); have i6 : w3.cell? ⟨w.heap.size, 6, none⟩ = some (.slice h1 m1 d1) := (by rw [hm3]; exact cell_of_row _ _ 6 _ _ _ P1.out); have j6 : w3.cell? ⟨w.heap.size + 1, 6, none⟩ = some (.slice h2 m2 d2) := (by rw [hm3]; exact cell_of_row _ _ 6 _ _ _ P2.out); clear hm3)
    | (go_at_call 13; refine (SC.out _ B3.out).mono ?_; rintro _ w4 ⟨rfl, m4, hm4⟩; have B4 : Hid (Below w.heap.size w w4) := below2 B3.out (by rw [hm4]; exact below_dN (Below.refl _ _) _) (Nat.le_refl _); clear hm4))
              go_ret
              exact ⟨rfl, B3.out⟩
          · have fn : (n1 != n2) = true := by simp [en]
            rw [show decide (k1 = k2 ∧ wd1 = wd2 ∧ a1 = a2 ∧ b1 = b2 ∧ n1 = n2 ∧ xs1 = xs2 ∧ hs1' = hs2') = false from decide_eq_false (fun h => en h.2.2.2.2.1)]
            clear ek ewd ea eb en
            go_enter Tryd.func23, Tryd.ntmps23
            go_upto_region 1 with fail
            rw [← HX1.out, ← HX2.out]
            clear HX1 HX2
            go_wp2_with (first
    | (go_at_call 52; refine PC.out.mono ?_; rintro _ w3 ⟨rfl, m3, hm3⟩; have B3 : Hid (Below w.heap.size w w3) := below2 BB.out (by rw [hm3]; exact below_dN (Below.refl _ _) _) (Nat.le_refl _); have i6 : w3.cell? ⟨w.heap.size, 6, none⟩ = some (.slice h1 m1 d1) := (by rw [hm3]; exact cell_of_row _ _ 6 _ _ _ P1.out); have j6 : w3.cell? ⟨w.heap.size + 1, 6, none⟩ = some (.slice h2 m2 d2) := (by rw [hm3]; exact cell_of_row _ _ 6 _ _ _ P2.out); clear hm3)
    | (go_at_call 13; refine (SC.out _ B3.out).mono ?_; rintro _ w4 ⟨rfl, m4, hm4⟩; have B4 : Hid (Below w.heap.size w w4) := below2 B3.out (by rw [hm4]; exact below_dN (Below.refl _ _) _) (Nat.le_refl _); clear hm4))
            go_ret
            exact ⟨rfl, BB.out⟩
        · have fb : (b1 != b2) = true := by simp [eb]
          rw [show decide (k1 = k2 ∧ wd1 = wd2 ∧ a1 = a2 ∧ b1 = b2 ∧ n1 = n2 ∧ xs1 = xs2 ∧ hs1' = hs2') = false from decide_eq_false (fun h => eb h.2.2.2.1)]
          clear ek ewd ea eb
          go_enter Tryd.func23, Tryd.ntmps23
          go_upto_region 1 with fail
          rw [← HX1.out, ← HX2.out]
          clear HX1 HX2
          go_wp2_with (first
    | (go_at_call 52; refine PC.out.mono ?_; rintro _ w3 ⟨rfl, m3, hm3⟩; have B3 : Hid (Below w.heap.size w w3) := below2 BB.out (by rw [hm3]; exact below_dN (Below.refl _ _) _) (Nat.le_refl _); have i6 : w3.cell? ⟨w.heap.size, 6, none⟩ = some (.slice h1 m1 d1) := (by rw [hm3]; exact cell_of_row _ _ 6 _ _ _ P1.out); have j6 : w3.cell? ⟨w.heap.size + 1, 6, none⟩ = some (.slice h2 m2 d2) := (by rw [hm3]; exact cell_of_row _ _ 6 _ _ _ P2.out); clear hm3)
    | (go_at_call 13; refine (SC.out _ B3.out).mono ?_; rintro _ w4 ⟨rfl, m4, hm4⟩; have B4 : Hid (Below w.heap.size w w4) := below2 B3.out (by rw [hm4]; exact below_dN (Below.refl _ _) _) (Nat.le_refl _); clear hm4))
          go_ret
          exact ⟨rfl, BB.out⟩
      · have fa : (a1 != a2) = true := by simp [ea]
        rw [show decide (k1 = k2 ∧ wd1 = wd2 ∧ a1 = a2 ∧ b1 = b2 ∧ n1 = n2 ∧ xs1 = xs2 ∧ hs1' = hs2') = false from decide_eq_false (fun h => ea h.2.2.1)]
        clear ek ewd ea
        go_enter Tryd.func23, Tryd.ntmps23
        go_upto_region 1 with fail
        rw [← HX1.out, ← HX2.out]
        clear HX1 HX2
        go_wp2_with (first
    | (go_at_call 52; refine PC.out.mono ?_; rintro _ w3 ⟨rfl, m3, hm3⟩; have B3 : Hid (Below w.heap.size w w3) := below2 BB.out (by rw [hm3]; exact below_dN (Below.refl _ _) _) (Nat.le_refl _); have i6 : w3.cell? ⟨w.heap.size, 6, none⟩ = some (.slice h1 m1 d1) := (by rw [hm3]; exact cell_of_row _ _ 6 _ _ _ P1.out); have j6 : w3.cell? ⟨w.heap.size + 1, 6, none⟩ = some (.slice h2 m2 d2) := (by rw [hm3]; exact cell_of_row _ _ 6 _ _ _ P2.out); clear hm3)
    | (go_at_call 13; refine (SC.out _ B3.out).mono ?_; rintro _ w4 ⟨rfl, m4, hm4⟩; have B4 : Hid (Below w.heap.size w w4) := below2 B3.out (by rw [hm4]; exact below_dN (Below.refl _ _) _) (Nat.le_refl _); clear hm4))
        go_ret
        exact ⟨rfl, BB.out⟩
    · have fwd : (wd1 != wd2) = true := by simp [ewd]
      rw [show decide (k1 = k2 ∧ wd1 = wd2 ∧ a1 = a2 ∧ b1 = b2 ∧ n1 = n2 ∧ xs1 = xs2 ∧ hs1' = hs2') = false from decide_eq_false (fun h => ewd h.2.1)]
      clear ek ewd
      go_enter Tryd.func23, Tryd.ntmps23
      go_upto_region 1 with fail
      rw [← HX1.out, ← HX2.out]
      clear HX1 HX2
      go_wp2_with (first
    | (go_at_call 52; refine PC.out.mono ?_; rintro _ w3 ⟨rfl, m3, hm3⟩; have B3 : Hid (Below w.heap.size w w3) := below2 BB.out (by rw [hm3]; exact below_dN (Below.refl _ _) _) (Nat.le_refl _); have i6 : w3.cell? ⟨w.heap.size, 6, none⟩ = some (.slice h1 m1 d1) := (by rw [hm3]; exact cell_of_row _ _ 6 _ _ _ P1.out); have j6 : w3.cell? ⟨w.heap.size + 1, 6, none⟩ = some (.slice h2 m2 d2) := (by rw [hm3]; exact cell_of_row _ _ 6 _ _ _ P2.out); clear hm3)
    | (go_at_call 13; refine (SC.out _ B3.out).mono ?_; rintro _ w4 ⟨rfl, m4, hm4⟩; have B4 : Hid (Below w.heap.size w w4) := below2 B3.out (by rw [hm4]; exact below_dN (Below.refl _ _) _) (Nat.le_refl _); clear hm4))
      go_ret
      exact ⟨rfl, BB.out⟩
  · have fk : (k1 != k2) = true := by simp [ek]
    rw [show decide (k1 = k2 ∧ wd1 = wd2 ∧ a1 = a2 ∧ b1 = b2 ∧ n1 = n2 ∧ xs1 = xs2 ∧ hs1' = hs2') = false from decide_eq_false (fun h => ek h.1)]
    clear ek
    go_enter Tryd.func23, Tryd.ntmps23
    go_upto_region 1 with fail
    rw [← HX1.out, ← HX2.out]
    clear HX1 HX2
    go_wp2_with (first
    | (go_at_call 52; refine PC.out.mono ?_; rintro _ w3 ⟨rfl, m3, hm3⟩; have B3 : Hid (Below w.heap.size w w3) := below2 BB.out (by rw [hm3]; exact below_dN (Below.refl _ _) _) (Nat.le_refl _); have i6 : w3.cell? ⟨w.heap.size, 6, none⟩ = some (.slice h1 m1 d1) := (by rw [hm3]; exact cell_of_row _ _ 6 _ _ _ P1.out); have j6 : w3.cell? ⟨w.heap.size + 1, 6, none⟩ = some (.slice h2 m2 d2) := (by rw [hm3]; exact cell_of_row _ _ 6 _ _ _ P2.out); clear hm3)
    | (go_at_call 13; refine (SC.out _ B3.out).mono ?_; rintro _ w4 ⟨rfl, m4, hm4⟩; have B4 : Hid (Below w.heap.size w w4) := below2 B3.out (by rw [hm4]; exact below_dN (Below.refl _ _) _) (Nat.le_refl _); clear hm4))
    go_ret
    exact ⟨rfl, BB.out⟩

-- is one text how another begins?
def begB (x y : ByteArray) : Bool := decide (x.size ≤ y.size ∧ y.extract 0 x.size = x)
theorem beg_iff (x y : ByteArray) : begB x y = true ↔ ∃ r, bl y = bl x ++ r := by
  unfold begB
  rw [decide_eq_true_iff]
  constructor
  · rintro ⟨h1, h2⟩
    refine ⟨(bl y).drop x.size, ?_⟩
    have h3 := bl_ext y 0 x.size
    rw [h2, List.drop_zero, Nat.sub_zero] at h3
    rw [h3, List.take_append_drop]
  · rintro ⟨r, h⟩
    have h1 := congrArg List.length h
    rw [List.length_append, bl_len, bl_len] at h1
    refine ⟨by omega, bl_inj ?_⟩
    rw [bl_ext, List.drop_zero, Nat.sub_zero, h, ← bl_len x, List.take_left]
-- what is written is read
theorem proof_read {k wd a c n : Int} {xs : List Int} {hs : List ByteArray} (v : Valid k wd a c n xs hs) (t : ByteArray) (ht : bl t = proofB k wd a c n xs hs) : pE t = 0 ∧ (pW t).1 = wd ∧ (pK t).1 = k ∧ (pSh t).a = a ∧ (pSh t).b = c ∧ (pSh t).n = n ∧ (pSh t).at' = xs ∧ (pHs t).1 = hs := by
  obtain ⟨h1, h2, h3, h4, h5, h6, h7⟩ := proof_back t k wd a c n xs hs [] v (by rw [List.append_nil]; exact ht)
  refine ⟨?_, h1, h2, h3, h4, h5, h6, by rw [h7]⟩
  unfold pE
  rw [h7]
  show endS t (proofB k wd a c n xs hs).length 0 = 0
  rw [← ht, bl_len]
  exact end_at t
theorem apart {k1 wd1 a1 b1 n1 k2 wd2 a2 b2 n2 : Int} {xs1 xs2 : List Int} {hs1 hs2 : List ByteArray} (v1 : Valid k1 wd1 a1 b1 n1 xs1 hs1) (v2 : Valid k2 wd2 a2 b2 n2 xs2 hs2) :
    begB (proofT k1 wd1 a1 b1 n1 xs1 hs1) (proofT k2 wd2 a2 b2 n2 xs2 hs2) = decide (k1 = k2 ∧ wd1 = wd2 ∧ a1 = a2 ∧ b1 = b2 ∧ n1 = n2 ∧ xs1 = xs2 ∧ hs1 = hs2) := by
  obtain ⟨x0, x1, x2, x3, x4, x5, x6, x7⟩ := proof_read v1 _ (proofT_is k1 wd1 a1 b1 n1 xs1 hs1)
  obtain ⟨y0, y1, y2, y3, y4, y5, y6, y7⟩ := proof_read v2 _ (proofT_is k2 wd2 a2 b2 n2 xs2 hs2)
  by_cases h : k1 = k2 ∧ wd1 = wd2 ∧ a1 = a2 ∧ b1 = b2 ∧ n1 = n2 ∧ xs1 = xs2 ∧ hs1 = hs2
  · rw [decide_eq_true h]
    obtain ⟨rfl, rfl, rfl, rfl, rfl, rfl, rfl⟩ := h
    exact (beg_iff _ _).2 ⟨[], by rw [List.append_nil]⟩
  · rw [decide_eq_false h]
    cases hb : begB (proofT k1 wd1 a1 b1 n1 xs1 hs1) (proofT k2 wd2 a2 b2 n2 xs2 hs2) with
    | false => rfl
    | true =>
      exfalso
      apply h
      obtain ⟨r, hr⟩ := (beg_iff _ _).1 hb
      have e := proof_ext _ _ r x0 hr y0
      rw [e, List.append_nil] at hr
      have e2 := bl_inj hr
      rw [e2] at y1 y2 y3 y4 y5 y6 y7
      exact ⟨x2.symm.trans y2, x1.symm.trans y1, x3.symm.trans y3, x4.symm.trans y4, x5.symm.trans y5, x6.symm.trans y6, x7.symm.trans y7⟩
theorem letters {k wd a b n : Int} {xs : List Int} {hs : List ByteArray} (y : ByteArray) (l : List UInt8) (hy : bl y = 76 :: l) : begB (proofT k wd a b n xs hs) y = false ∧ begB y (proofT k wd a b n xs hs) = false := by
  have hp : ∃ t, bl (proofT k wd a b n xs hs) = 80 :: t := ⟨_, proofT_is k wd a b n xs hs⟩
  obtain ⟨t, ht⟩ := hp
  constructor
  · cases hb : begB (proofT k wd a b n xs hs) y with
    | false => rfl
    | true =>
      obtain ⟨r, hr⟩ := (beg_iff _ _).1 hb
      rw [ht, hy] at hr
      exact absurd (List.cons.inj hr).1 (by decide)
  · cases hb : begB y (proofT k wd a b n xs hs) with
    | false => rfl
    | true =>
      obtain ⟨r, hr⟩ := (beg_iff _ _).1 hb
      rw [ht, hy] at hr
      exact absurd (List.cons.inj hr).1 (by decide)
end Go.Proofs.YthpfgdhmpeadeaaDoor.w2

namespace Go.Proofs.YthpfgdhmpeadeaaDoor.w3
open Go.RowKit Go.PlainAid Go.Shelf
open Go.Proofs.YthpfgdhmpeadeaaDoor.ca Go.Proofs.YthpfgdhmpeadeaaDoor.cb Go.Proofs.YthpfgdhmpeadeaaDoor.cp Go.Proofs.YthpfgdhmpeadeaaDoor.cv Go.Proofs.YthpfgdhmpeadeaaDoor.ga Go.Proofs.YthpfgdhmpeadeaaDoor.kp Go.Proofs.YthpfgdhmpeadeaaDoor.mi Go.Proofs.YthpfgdhmpeadeaaDoor.co Go.Proofs.YthpfgdhmpeadeaaDoor.na Go.Proofs.YthpfgdhmpeadeaaDoor.nb Go.Proofs.YthpfgdhmpeadeaaDoor.nc Go.Proofs.YthpfgdhmpeadeaaDoor.ea Go.Proofs.YthpfgdhmpeadeaaDoor.eb Go.Proofs.YthpfgdhmpeadeaaDoor.ec Go.Proofs.YthpfgdhmpeadeaaDoor.ee Go.Proofs.YthpfgdhmpeadeaaDoor.ef Go.Proofs.YthpfgdhmpeadeaaDoor.eg Go.Proofs.YthpfgdhmpeadeaaDoor.eh Go.Proofs.YthpfgdhmpeadeaaDoor.eo Go.Proofs.YthpfgdhmpeadeaaDoor.eq Go.Proofs.YthpfgdhmpeadeaaDoor.er Go.Proofs.YthpfgdhmpeadeaaDoor.es Go.Proofs.YthpfgdhmpeadeaaDoor.ka Go.Proofs.YthpfgdhmpeadeaaDoor.bn Go.Proofs.YthpfgdhmpeadeaaDoor.lg Go.Proofs.YthpfgdhmpeadeaaDoor.wp Go.Proofs.YthpfgdhmpeadeaaDoor.e1 Go.Proofs.YthpfgdhmpeadeaaDoor.e2 Go.Proofs.YthpfgdhmpeadeaaDoor.e6 Go.Proofs.YthpfgdhmpeadeaaDoor.e7 Go.Proofs.YthpfgdhmpeadeaaDoor.e8 Go.Proofs.YthpfgdhmpeadeaaDoor.e9 Go.Proofs.YthpfgdhmpeadeaaDoor.w2
set_option linter.unusedVariables false

theorem proofV_of {k wd a b n : Int} {xs : List Int} {hs : List ByteArray} (v : Valid k wd a b n xs hs) : proofV k wd a b n xs hs = .tuple #[.string (proofT k wd a b n xs hs), .int .i64 0] := by
  unfold proofV
  rw [(valid_iff k wd a b n xs hs).2 v, if_pos rfl]
theorem proofT_size {k wd a b n : Int} {xs : List Int} {hs : List ByteArray} (v : Valid k wd a b n xs hs) : (proofT k wd a b n xs hs).size ≤ 40000000 := by
  obtain ⟨k1, k2, hn, _, _, _⟩ := ref_bounds v.rf
  obtain ⟨n1, n2, n3⟩ := named_in v.rf
  have hln : hs.length ≤ 70000 := by rw [v.ln]; exact num_le v.rf
  have hcat := cat_le wd hs (all_sz.2 v.sz) v.w1 (by omega)
  have hps := (putB_size k (by omega) (by omega)).2
  have hns := nums_size _ n1 (by omega)
  unfold proofT
  rw [ByteArray.size_append, ByteArray.size_append, ByteArray.size_append, ByteArray.size_append, str_size]
  have e1 : (⟨#[80]⟩ : ByteArray).size = 1 := rfl
  have e2 : (⟨(cat hs).toArray⟩ : ByteArray).size = (cat hs).length := by show (cat hs).toArray.size = _; rw [List.size_toArray]
  simp only [List.length_singleton]
  omega
theorem proofT_ne {k wd a b n : Int} {xs : List Int} {hs : List ByteArray} : ((proofT k wd a b n xs hs).toList == []) = false := by
  rw [beqLit]
  apply decide_eq_false
  intro e
  have h := proofT_is k wd a b n xs hs
  rw [e] at h
  exact absurd (congrArg List.length h) (by unfold proofB; simp [bl])
theorem leavesV_of {l : List ByteArray} (h1 : l.length ≤ 1024) (h2 : ∀ x ∈ l, x.size ≤ 4096) : leavesV l = .tuple #[.string ⟨(leavesB l).toArray⟩, .int .i64 0] := by
  have e : leavesE l = 0 := by
    unfold leavesE
    rw [if_neg (by omega), if_pos]
    rw [List.all_eq_true]
    intro x hx
    exact decide_eq_true (h2 x hx)
  unfold leavesV
  rw [e, if_pos rfl]
theorem valid_len {k wd a b n : Int} {xs : List Int} {hs : List ByteArray} (v : Valid k wd a b n xs hs) : xs.length ≤ 140737488355328 ∧ hs.length ≤ 140737488355328 := by
  have hln : hs.length ≤ 70000 := by rw [v.ln]; exact num_le v.rf
  obtain ⟨k1, k2, hn, _, _, hx⟩ := ref_bounds v.rf
  refine ⟨?_, by omega⟩
  by_cases k4 : k = 4
  · have := (hx k4).1; omega
  · have hb := v.br
    unfold bareP at hb
    rw [if_neg k4] at hb
    split at hb
    · rw [hb]; simp
    · rw [hb.2]; simp
theorem all_snoc4 {hs : List ByteArray} {x : ByteArray} (h : ∀ y ∈ hs, y.size ≤ 4096) (hx : x.size ≤ 4096) : ∀ y ∈ hs ++ [x], y.size ≤ 4096 := by
  intro y hy
  rcases List.mem_append.1 hy with h1 | h1
  · exact h y h1
  · rw [List.mem_singleton] at h1; subst h1; exact hx
theorem leaves_size {l : List ByteArray} (h1 : l.length ≤ 1024) (h2 : ∀ x ∈ l, x.size ≤ 4096) : (leavesB l).length ≤ 10000000 := by
  have h := leavesK_length l h1 l.length (Nat.le_refl _) (fun j hj => h2 _ (by rw [List.getD_eq_getElem?_getD, List.getElem?_eq_getElem hj]; exact List.getElem_mem _))
  rw [leavesK_all] at h
  omega
end Go.Proofs.YthpfgdhmpeadeaaDoor.w3

namespace Go.Proofs.YthpfgdhmpeadeaaDoor.w5
open Go.RowKit Go.PlainAid Go.Shelf
open Go.Proofs.YthpfgdhmpeadeaaDoor.ca Go.Proofs.YthpfgdhmpeadeaaDoor.cb Go.Proofs.YthpfgdhmpeadeaaDoor.cp Go.Proofs.YthpfgdhmpeadeaaDoor.cs Go.Proofs.YthpfgdhmpeadeaaDoor.ct Go.Proofs.YthpfgdhmpeadeaaDoor.xc Go.Proofs.YthpfgdhmpeadeaaDoor.xf Go.Proofs.YthpfgdhmpeadeaaDoor.cv Go.Proofs.YthpfgdhmpeadeaaDoor.ga Go.Proofs.YthpfgdhmpeadeaaDoor.kp Go.Proofs.YthpfgdhmpeadeaaDoor.mi Go.Proofs.YthpfgdhmpeadeaaDoor.co Go.Proofs.YthpfgdhmpeadeaaDoor.na Go.Proofs.YthpfgdhmpeadeaaDoor.nb Go.Proofs.YthpfgdhmpeadeaaDoor.nc Go.Proofs.YthpfgdhmpeadeaaDoor.ea Go.Proofs.YthpfgdhmpeadeaaDoor.eb Go.Proofs.YthpfgdhmpeadeaaDoor.ec Go.Proofs.YthpfgdhmpeadeaaDoor.ed Go.Proofs.YthpfgdhmpeadeaaDoor.ee Go.Proofs.YthpfgdhmpeadeaaDoor.ef Go.Proofs.YthpfgdhmpeadeaaDoor.eg Go.Proofs.YthpfgdhmpeadeaaDoor.eh Go.Proofs.YthpfgdhmpeadeaaDoor.ei Go.Proofs.YthpfgdhmpeadeaaDoor.ej Go.Proofs.YthpfgdhmpeadeaaDoor.ek Go.Proofs.YthpfgdhmpeadeaaDoor.eo Go.Proofs.YthpfgdhmpeadeaaDoor.eq Go.Proofs.YthpfgdhmpeadeaaDoor.er Go.Proofs.YthpfgdhmpeadeaaDoor.es Go.Proofs.YthpfgdhmpeadeaaDoor.ka Go.Proofs.YthpfgdhmpeadeaaDoor.bn Go.Proofs.YthpfgdhmpeadeaaDoor.lg Go.Proofs.YthpfgdhmpeadeaaDoor.wp Go.Proofs.YthpfgdhmpeadeaaDoor.e1 Go.Proofs.YthpfgdhmpeadeaaDoor.e2 Go.Proofs.YthpfgdhmpeadeaaDoor.e3 Go.Proofs.YthpfgdhmpeadeaaDoor.e4 Go.Proofs.YthpfgdhmpeadeaaDoor.e6 Go.Proofs.YthpfgdhmpeadeaaDoor.e7 Go.Proofs.YthpfgdhmpeadeaaDoor.e8 Go.Proofs.YthpfgdhmpeadeaaDoor.e9 Go.Proofs.YthpfgdhmpeadeaaDoor.e10 Go.Proofs.YthpfgdhmpeadeaaDoor.e11 Go.Proofs.YthpfgdhmpeadeaaDoor.w2 Go.Proofs.YthpfgdhmpeadeaaDoor.w3
set_option linter.unusedVariables false

theorem first_of {A : ByteArray} {c : UInt8} {t : List UInt8} (h : bl A = c :: t) : ∃ h0 : 0 < A.size, (A[0]'h0) = c := by
  obtain ⟨⟨l⟩⟩ := A
  have h' : l = c :: t := h
  subst h'
  exact ⟨Nat.succ_pos _, rfl⟩
theorem not_none {A : ByteArray} {c : UInt8} {t : List UInt8} (h : bl A = c :: t) : (A.toList == []) = false := by
  rw [beqLit]
  apply decide_eq_false
  intro e
  rw [e] at h
  exact absurd (congrArg List.length h) (by simp [bl])
theorem wid_id {w : Int} (h0 : 1 ≤ w) (h1 : w ≤ 32) : widI w = w := if_pos ⟨h0, h1⟩
theorem frontV_of {wd lo hi : Int} {hs : List ByteArray} (h0 : 1 ≤ wd) (h1 : wd ≤ 32) (hk : okR lo hi) (hl : hs.length = (covI lo hi).length) (hz : ∀ x ∈ hs, (x.size : Int) = wd) : frontV wd lo hi hs = .tuple #[.string (frontT wd lo hi hs), .int .i64 0] := by
  have e : frontE wd lo hi hs = 0 := by
    unfold frontE
    rw [if_pos (covE_zero.2 hk), if_pos hl, wid_id h0 h1, if_pos (all_sz.2 hz)]
  unfold frontV
  rw [e, if_pos rfl]
theorem front_read {wd lo hi : Int} {hs : List ByteArray} (h0 : 1 ≤ wd) (h1 : wd ≤ 32) (hk : okR lo hi) (hl : hs.length = (covI lo hi).length) (hz : ∀ x ∈ hs, (x.size : Int) = wd) (t : ByteArray) (ht : bl t = frontB wd lo hi hs) : fE t = 0 ∧ ufR t = ⟨lo, hi, wd, hs⟩ := by
  obtain ⟨h2, h3, h4, h5⟩ := front_back t wd lo hi hs [] h0 h1 hk hl hz (by rw [List.append_nil]; exact ht)
  have hE : fE t = 0 := by
    unfold fE
    rw [h5]
    show endS t (frontB wd lo hi hs).length 0 = 0
    rw [← ht, bl_len]
    exact end_at t
  exact ⟨hE, by unfold ufR; rw [if_pos hE, h2, h3, h4, h5]⟩
theorem frontT_size {wd lo hi : Int} {hs : List ByteArray} (h1 : wd ≤ 32) (hk : okR lo hi) (hl : hs.length = (covI lo hi).length) (hz : ∀ x ∈ hs, (x.size : Int) = wd) : (frontT wd lo hi hs).size ≤ 40000000 := by
  have hcl := covI_len lo hi
  have hcat := cat_le wd hs (all_sz.2 hz) h1 (by omega)
  obtain ⟨o1, o2, o3⟩ := hk
  have hns := nums_size [lo, hi] (fun x hx => by
    rcases List.mem_cons.1 hx with rfl | hx
    · omega
    · rw [List.mem_singleton] at hx; subst hx; omega) (by simp)
  unfold frontT
  rw [ByteArray.size_append, ByteArray.size_append, ByteArray.size_append, str_size]
  have e1 : (⟨#[70]⟩ : ByteArray).size = 1 := rfl
  have e2 : (⟨(cat hs).toArray⟩ : ByteArray).size = (cat hs).length := by show (cat hs).toArray.size = _; rw [List.size_toArray]
  simp only [List.length_singleton]
  omega
theorem hashV_of {wd : Int} {hs : List ByteArray} (h0 : 1 ≤ wd) (h1 : wd ≤ 32) (hl : hs.length ≤ 256) (hz : ∀ x ∈ hs, (x.size : Int) = wd) : hashV wd hs = .tuple #[.string (hashT wd hs), .int .i64 0] := by
  have e : hashE wd hs = 0 := by
    unfold hashE
    rw [if_neg (by omega), wid_id h0 h1, if_pos (all_sz.2 hz)]
  unfold hashV
  rw [e, if_pos rfl]
theorem row_read {wd : Int} {hs : List ByteArray} (h0 : 1 ≤ wd) (h1 : wd ≤ 32) (hl : hs.length ≤ 256) (hz : ∀ x ∈ hs, (x.size : Int) = wd) (t : ByteArray) (ht : bl t = rowB wd hs) : hE t = 0 ∧ hWd t = wd ∧ hL t = hs := by
  obtain ⟨h2, h5⟩ := row_back t wd hs [] h0 h1 hl hz (by rw [List.append_nil]; exact ht)
  have e : hE t = 0 := by
    unfold hE
    rw [h5]
    show endS t (rowB wd hs).length 0 = 0
    rw [← ht, bl_len]
    exact end_at t
  exact ⟨e, by unfold hWd; rw [if_pos e, h2], by unfold hL; rw [if_pos e, h5]⟩
theorem hashT_size {wd : Int} {hs : List ByteArray} (h1 : wd ≤ 32) (hl : hs.length ≤ 256) (hz : ∀ x ∈ hs, (x.size : Int) = wd) : (hashT wd hs).size ≤ 40000000 := by
  have hcat := cat_le wd hs (all_sz.2 hz) h1 (by omega)
  have hps := (putB_size (hs.length : Int) (by omega) (by omega)).2
  unfold hashT
  rw [ByteArray.size_append, ByteArray.size_append, ByteArray.size_append, str_size]
  have e1 : (⟨#[72]⟩ : ByteArray).size = 1 := rfl
  have e2 : (⟨(cat hs).toArray⟩ : ByteArray).size = (cat hs).length := by show (cat hs).toArray.size = _; rw [List.size_toArray]
  simp only [List.length_singleton]
  omega
theorem leaves_read {l : List ByteArray} (h1 : l.length ≤ 1024) (h2 : ∀ x ∈ l, x.size ≤ 4096) (t : ByteArray) (ht : bl t = leavesB l) : unLeavesE t = 0 ∧ unLeavesL t = l := by
  have h := unLeaves_back t l [] (by rw [List.append_nil]; exact ht) h1 h2
  have e : unLeavesE t = 0 := by
    unfold unLeavesE
    rw [h]
    show endS t (leavesB l).length 0 = 0
    rw [← ht, bl_len]
    exact end_at t
  exact ⟨e, by unfold unLeavesL; rw [if_pos e, h]⟩
theorem up_read {k wd a b n : Int} {xs : List Int} {hs : List ByteArray} (v : Valid k wd a b n xs hs) (t : ByteArray) (ht : bl t = proofB k wd a b n xs hs) : pE t = 0 ∧ upR t = ⟨k, wd, a, b, n, xs, hs⟩ := by
  obtain ⟨e, h1, h2, h3, h4, h5, h6, h7⟩ := proof_read v t ht
  exact ⟨e, by unfold upR; rw [if_pos e, h1, h2, h3, h4, h5, h6, h7]⟩
set_option maxRecDepth 100000 in
set_option maxHeartbeats 12800000 in
theorem back_walk {w : World} (k1 : Int) (i01 : (Lit.int .i64 k1).wf = true) (wd1 : Int) (i11 : (Lit.int .i64 wd1).wf = true) (a1 : Int) (i21 : (Lit.int .i64 a1).wf = true) (b1 : Int) (i31 : (Lit.int .i64 b1).wf = true) (n1 : Int) (i41 : (Lit.int .i64 n1).wf = true) (va1 ha1 : Option Addr) (L1 vc1 hl1 hc1 : Nat) (xs1 : List Int) (hs1 : List ByteArray) (hR1 : ReadsI w (.slice va1 L1 vc1) xs1) (hnoI1 : ∀ k c, Value.slice va1 L1 vc1 = .slice none k c → c = 0) (hx1 : ∀ x ∈ xs1, -9223372036854775808 ≤ x ∧ x ≤ 9223372036854775807) (hzI1 : xs1.length * 8 ≤ 140737488351232) (hT1 : ReadsT w (.slice ha1 hl1 hc1) hs1) (hnoT1 : ∀ k c, Value.slice ha1 hl1 hc1 = .slice none k c → c = 0) (hsz1 : ∀ x ∈ hs1, x.size ≤ 140737488351232) (hzT1 : hs1.length * 16 ≤ 140737488351232) (lo : Int) (jl : (Lit.int .i64 lo).wf = true) (hh : Int) (jh : (Lit.int .i64 hh).wf = true) (lv : Value) (ls : List ByteArray) (hRL : ReadsT w lv ls) (hnoL : ∀ k c, lv = .slice none k c → c = 0) (hszL : ∀ x ∈ ls, x.size ≤ 140737488351232) (hzL : ls.length * 16 ≤ 140737488351232) (hTB : TabB w) :
    Calls Tryd.prog 5 #[.agg #[.int .i64 k1, .int .i64 wd1, .int .i64 a1, .int .i64 b1, .int .i64 n1, .slice va1 L1 vc1, .slice ha1 hl1 hc1], .int .i64 lo, .int .i64 hh, lv] w fun e w' => e = .returned (.bool true) ∧ Below w.heap.size w w' := by
  obtain ⟨i9, hi9, hz0, hz1, hz2⟩ := lg.info_parts lg.hiE
  have HIN : Hid (_ ∧ _ ∧ _ ∧ _) := ⟨hi9, hz0, hz1, hz2⟩
  clear hi9 hz0 hz1 hz2
  obtain ⟨W1, HW1⟩ : ∃ W1, Hid (W1 = w.alloc (.cells #[.int .i64 k1, .int .i64 wd1, .int .i64 a1, .int .i64 b1, .int .i64 n1, .slice va1 L1 vc1, .slice ha1 hl1 hc1] 49)) := ⟨_, rfl⟩
  have B1 : Hid (Below w.heap.size w W1) := by rw [HW1.out]; exact (Below.refl _ _).alloc (Nat.le_refl _) _
  have HP1 : Hid (W1.heap[w.heap.size]? = some (.cells #[.int .i64 k1, .int .i64 wd1, .int .i64 a1, .int .i64 b1, .int .i64 n1, .slice va1 L1 vc1, .slice ha1 hl1 hc1] 49 (0, 0))) := by rw [HW1.out]; exact heap_alloc_new w _
  obtain ⟨d0, d1, d2, d3, d4, d5, d6⟩ := seven HP1.out
  have F1 : Hid (Calls _ _ _ _ _) := fittedC k1 wd1 a1 b1 n1 va1 ha1 L1 vc1 hl1 hc1 xs1 hs1 W1 (i64_of i01) (i64_of i11) (i64_of i21) (i64_of i31) (i64_of i41) (hR1.later B1.out) hx1 hzI1 (hT1.later B1.out) hsz1 hzT1
  have HTB : Hid (∀ W, Below w.heap.size w W → TabB W) := fun W h => TabB.later hTB h
  have HTH : Hid (ReadsT w (.slice ha1 hl1 hc1) hs1 ∧ (∀ x ∈ hs1, x.size ≤ 140737488351232) ∧ hs1.length ≤ 140737488351232) := ⟨hT1, hsz1, by omega⟩
  have HSA : Hid (∀ x ∈ ls, x.size ≤ 140737488351232) := hszL
  have HRL : Hid (ReadsT w lv ls) := hRL
  have HSL : Hid (∀ j, j < ls.length → (ls.getD j ByteArray.empty).size ≤ 140737488351232) := fun j hj => hszL _ (by rw [List.getD_eq_getElem?_getD, List.getElem?_eq_getElem hj]; exact List.getElem_mem _)
  obtain ⟨la, lcap, hlv, hlcap, _⟩ := hRL
  obtain ⟨N, HN⟩ : ∃ N, Hid (ls.length = N) := ⟨_, rfl⟩
  rw [HN.out] at hlv hlcap hzL
  subst hlv
  have hNb : (N : Int) ≤ 8796093021952 := by omega
  -- the two picks
  have jl' := i64_of jl
  have jh' := i64_of jh
  have PK1 : Hid (∀ W : World, Calls _ _ _ W _) := fun W => pickC lo 4611686018427387904 W jl'.1 jl'.2 (by decide) (by decide)
  have f0 := Int.emod_nonneg lo (show (4611686018427387904 : Int) ≠ 0 by decide)
  have f1 := Int.emod_lt_of_pos lo (show 0 < (4611686018427387904 : Int) by decide)
  obtain ⟨f, HF⟩ : ∃ f, Hid (lo % 4611686018427387904 = f) := ⟨_, rfl⟩
  rw [HF.out] at PK1 f0 f1
  have PK2 : Hid (∀ W : World, Calls _ _ _ W _) := fun W => pickC hh (4611686018427387904 - f) W jh'.1 jh'.2 (by omega) (by omega)
  have g0 := Int.emod_nonneg hh (show (4611686018427387904 - f : Int) ≠ 0 by omega)
  have g1 := Int.emod_lt_of_pos hh (show 0 < (4611686018427387904 - f : Int) by omega)
  obtain ⟨g, HG⟩ : ∃ g, Hid (hh % (4611686018427387904 - f) = g) := ⟨_, rfl⟩
  rw [HG.out] at PK2 g0 g1
  have HOK : Hid (okR f (f + g)) := ⟨by omega, by omega, by omega⟩
  obtain ⟨m, HM⟩ : ∃ m, Hid ((covI f (f + g)).length = m) := ⟨_, rfl⟩
  have hm : m ≤ 122 := by have := covI_len f (f + g); have := HM.out; omega
  have CV : Hid (∀ W, TabB W → Calls Tryd.prog 24 #[.int .i64 f, .int .i64 (f + g)] W fun e w' => (∃ a c, e = .returned (.tuple #[.slice a m c, .int .i64 0])) ∧ Below W.heap.size W w') := fun W h => (coverC.covers f (f + g) ⟨by omega, by omega⟩ ⟨by omega, by omega⟩ W h).mono (fun e w' h => by
    obtain ⟨⟨v, he, o⟩, k⟩ := h
    obtain ⟨a, c, hv⟩ := formA (own_readsA o)
    refine ⟨⟨a, c, ?_⟩, k⟩
    rw [he, covE_zero.2 HOK.out, hv, HM.out])
  have qr : (N : Int).tmod 257 = ((N % 257 : Nat) : Int) := by rw [Int.tmod_eq_emod_of_nonneg (by omega)]; rfl
  have hr1 : N % 257 ≤ 256 := by omega
  obtain ⟨r, HRR⟩ : ∃ r, Hid (N % 257 = r) := ⟨_, rfl⟩
  rw [HRR.out] at qr hr1
  clear hnoI1 hnoT1 hnoL hszL i01 i11 i21 i31 i41 hR1 hT1 hx1 hzI1 hzT1 hsz1 jl jh jl' jh' HF HG HRR hTB
  go_enter Tryd.func5, Tryd.ntmps5
  go_upto_region 1 with fail
  rw [← HW1.out]
  clear HW1
  go_upto_region 2 with (go_at_call 20; refine F1.out.mono ?_; rintro _ w3 ⟨⟨xk, xw, xa, xb, xn, xxs, xhs, xva, xvl, xvc, xha, xhl, xhc, rfl, xV, xO, xT⟩, k3⟩; have VX0 : Hid (Valid xk xw xa xb xn xxs xhs) := xV; have OX : Hid (OwI w3 W1.heap.size (.slice xva xvl xvc) xxs ∧ OwT w3 W1.heap.size (.slice xha xhl xhc) xhs) := ⟨xO, xT⟩; have B3 : Hid (Below W1.heap.size W1 w3) := k3; clear xV xO xT k3)
  obtain ⟨wn, hwn, hw1, hw2⟩ : ∃ wn : Nat, xw = (wn : Int) ∧ 1 ≤ wn ∧ wn ≤ 32 := ⟨xw.toNat, by have := VX0.out.w0; omega, by have := VX0.out.w0; omega, by have := VX0.out.w1; omega⟩
  subst hwn
  have VX : Hid (Valid xk (wn : Int) xa xb xn xxs xhs) := VX0.out
  clear VX0
  obtain ⟨C, HC⟩ : ∃ W4, W4 = w3.alloc (.cells #[.int .i64 xk, .int .i64 (wn : Int), .int .i64 xa, .int .i64 xb, .int .i64 xn, .slice xva xvl xvc, .slice xha xhl xhc] 49) := ⟨_, rfl⟩
  have HX4 : Hid (C.heap[w3.heap.size]? = some (.cells #[.int .i64 xk, .int .i64 (wn : Int), .int .i64 xa, .int .i64 xb, .int .i64 xn, .slice xva xvl xvc, .slice xha xhl xhc] 49 (0, 0))) := by rw [HC]; exact heap_alloc_new w3 _
  have B34 : Hid (Below w3.heap.size w3 C) := by rw [HC]; exact (Below.refl _ _).alloc (Nat.le_refl _) _
  have B4 : Hid (Below W1.heap.size W1 C) := below2 B3.out B34.out (Nat.le_refl _)
  have BC : Hid (Below w.heap.size w C) := below2 B1.out B4.out (Nat.le_refl _)
  have HP4 : Hid (C.heap[w.heap.size]? = some (.cells #[.int .i64 k1, .int .i64 wd1, .int .i64 a1, .int .i64 b1, .int .i64 n1, .slice va1 L1 vc1, .slice ha1 hl1 hc1] 49 (0, 0))) := (B4.out.block _ (Array.getElem?_eq_some_iff.1 HP1.out).1).trans HP1.out
  have BX : Hid (∀ W', Below C.heap.size C W' → W'.heap[w.heap.size]? = some (.cells #[.int .i64 k1, .int .i64 wd1, .int .i64 a1, .int .i64 b1, .int .i64 n1, .slice va1 L1 vc1, .slice ha1 hl1 hc1] 49 (0, 0)) ∧ W'.heap[w3.heap.size]? = some (.cells #[.int .i64 xk, .int .i64 (wn : Int), .int .i64 xa, .int .i64 xb, .int .i64 xn, .slice xva xvl xvc, .slice xha xhl xhc] 49 (0, 0))) := fun W' h => ⟨(h.block _ (Array.getElem?_eq_some_iff.1 HP4.out).1).trans HP4.out, (h.block _ (Array.getElem?_eq_some_iff.1 HX4.out).1).trans HX4.out⟩
  have RX : Hid (ReadsI C (.slice xva xvl xvc) xxs ∧ ReadsT C (.slice xha xhl xhc) xhs) := ⟨OX.out.1.reads.later B34.out, OX.out.2.reads.later B34.out⟩
  have TC : Hid (∀ W', Below C.heap.size C W' → TabB W') := fun W' h => HTB.out _ (below2 BC.out h (Nat.le_refl _))
  have LC : Hid (∀ W', Below C.heap.size C W' → ReadsT W' (.slice la N lcap) ls) := fun W' h => (HRL.out.later BC.out).later h
  have HC1 : Hid (∀ W', Below C.heap.size C W' → ReadsT W' (.slice ha1 hl1 hc1) hs1) := fun W' h => (HTH.out.1.later BC.out).later h
  rw [← HC]
  clear HC d0 d1 d2 d3 d4 d5 d6 F1 OX B34 HP1 HP4 HTB HRL
  -- the proof
  obtain ⟨t0, t1, t2, t3, t4, t5, t6⟩ := seven (BX.out C (Below.refl _ _)).2
  have hlx : xxs.length ≤ 140737488355328 ∧ xhs.length ≤ 140737488355328 := valid_len VX.out
  have CP : Hid (Calls _ _ _ C _) := proofC xk wn xa xb xn xva xha xvl xvc xhl xhc xxs xhs C RX.out.1 RX.out.2 hlx.1 hlx.2
  rw [proofV_of VX.out] at CP
  have SA := proofT_size VX.out
  have eA := proofT_is xk wn xa xb xn xxs xhs
  have uA := up_read VX.out (proofT xk wn xa xb xn xxs xhs) eA
  have fA := first_of (A := proofT xk wn xa xb xn xxs xhs) (c := 80) eA
  have nA := not_none (A := proofT xk wn xa xb xn xxs xhs) (c := 80) eA
  obtain ⟨A, HA⟩ : ∃ A, Hid (proofT xk wn xa xb xn xxs xhs = A) := ⟨_, rfl⟩
  rw [HA.out] at CP SA uA nA
  obtain ⟨z0A, q0A⟩ : ∃ h0 : 0 < A.size, (A[0]'h0) = 80 := by have h := fA; rw [HA.out] at h; exact h
  have q1A : (((A[0]'z0A).toNat : Int) != 80) = false := by rw [q0A]; rfl
  clear fA eA
  have UA : Hid (∀ W : World, Calls _ _ _ W _) := fun W => unProofC A W (by omega)
  rw [uA.1, uA.2] at UA
  clear uA HA q0A
  go_upto_region 5 with (go_at_call 21; refine CP.out.mono ?_; rintro _ w5 ⟨rfl, k5⟩; have B5 : Hid (Below C.heap.size C w5) := k5; clear k5)
  go_upto_region 6 with (go_at_call 22; refine (UA.out _).mono ?_; rintro _ w6 ⟨⟨rva, rvl, rvc, rha, rhl, rhc, rfl, o6, p6⟩, k6⟩; have R6 : Hid (ReadsI w6 (.slice rva rvl rvc) xxs ∧ ReadsT w6 (.slice rha rhl rhc) xhs) := ⟨own_readsI o6, own_readsT p6⟩; have B6 : Hid (Below C.heap.size C w6) := below2 B5.out k6 (Nat.le_refl _); clear o6 p6 k6)
  obtain ⟨W7, HW7⟩ : ∃ W, W = w6.alloc (.cells #[.int .i64 xk, .int .i64 (wn : Int), .int .i64 xa, .int .i64 xb, .int .i64 xn, .slice rva rvl rvc, .slice rha rhl rhc] 49) := ⟨_, rfl⟩
  have hc7 : W7.heap[w6.heap.size]? = some (.cells #[.int .i64 xk, .int .i64 (wn : Int), .int .i64 xa, .int .i64 xb, .int .i64 xn, .slice rva rvl rvc, .slice rha rhl rhc] 49 (0, 0)) := by rw [HW7]; exact heap_alloc_new w6 _
  have B67 : Hid (Below w6.heap.size w6 W7) := by rw [HW7]; exact (Below.refl _ _).alloc (Nat.le_refl _) _
  have B7 : Hid (Below C.heap.size C W7) := below2 B6.out B67.out (Nat.le_refl _)
  rw [← HW7]
  clear HW7 t0 t1 t2 t3 t4 t5 t6 CP UA
  obtain ⟨s0, s1, s2, s3, s4, s5, s6⟩ := seven hc7
  obtain ⟨t0, t1, t2, t3, t4, t5, t6⟩ := seven (BX.out W7 B7.out).2
  clear hc7
  have CA : Hid (Calls _ _ _ W7 _) := alikeG xk wn xa xb xn xk wn xa xb xn xva rva xha rha xvl xvc rvl rvc xhl xhc rhl rhc xxs xxs xhs xhs W7 (RX.out.1.later B7.out) (R6.out.1.later B67.out) (RX.out.2.later B7.out) (R6.out.2.later B67.out) hlx.1 hlx.2
  rw [show decide (xk = xk ∧ (wn : Int) = wn ∧ xa = xa ∧ xb = xb ∧ xn = xn ∧ xxs = xxs ∧ xhs = xhs) = true by simp] at CA
  go_upto_region 8 with (first
    | (go_at_call 9; refine (num 0 _).mono ?_; rintro _ wz ⟨rfl, hz⟩; rw [hz]; clear hz)
    | (go_at_call 23; refine CA.out.mono ?_; rintro _ w8 ⟨rfl, k8⟩; have B8 : Hid (Below C.heap.size C w8) := below2 B7.out k8 (Nat.le_refl _); clear k8))
  clear s0 s1 s2 s3 s4 s5 s6 t0 t1 t2 t3 t4 t5 t6 CA R6 B67 B7 B6 nA q1A hlx RX SA
  -- the range
  go_upto_region 9 with (go_at_call 19; refine (PK1.out _).mono ?_; rintro _ wz ⟨rfl, hz⟩; rw [hz]; clear hz)
  go_upto_region 10 with (go_at_call 19; refine (PK2.out _).mono ?_; rintro _ wz ⟨rfl, hz⟩; rw [hz]; clear hz)
  clear PK1 PK2
  go_upto_region 11 with (go_at_call 24; refine (CV.out _ (TC.out _ B8.out)).mono ?_; rintro _ w9 ⟨⟨ca, cc, rfl⟩, k9⟩; have B9 : Hid (Below C.heap.size C w9) := below2 B8.out k9 (Nat.le_refl _); clear k9)
  clear CV
  obtain ⟨d0, d1, d2, d3, d4, d5, d6⟩ := seven (BX.out w9 B9.out).1
  obtain ⟨t0, t1, t2, t3, t4, t5, t6⟩ := seven (BX.out w9 B9.out).2
  have FL : Hid (Calls _ _ _ w9 _) := filledC m wn (.slice ha1 hl1 hc1) hs1 w9 (HC1.out _ B9.out) (by omega) hw1 hw2 HTH.out.2.1 HTH.out.2.2
  go_upto_region 12 with (go_at_call 25; refine FL.out.mono ?_; rintro _ w10 ⟨⟨fa, fc, fs, rfl, o10, l10, z10⟩, k10⟩; have RF : Hid (ReadsT w10 (.slice fa m fc) fs) := o10.reads; have LF : Hid (fs.length = m ∧ ∀ x ∈ fs, (x.size : Int) = wn) := ⟨l10, fun x hx => by have := z10 x hx; omega⟩; have B10 : Hid (Below C.heap.size C w10) := below2 B9.out k10 (Nat.le_refl _); clear o10 l10 z10 k10)
  obtain ⟨W11, HW11⟩ : ∃ W, W = w10.alloc (.cells #[.int .i64 f, .int .i64 (f + g), .slice fa m fc] 24) := ⟨_, rfl⟩
  have hc11 : W11.heap[w10.heap.size]? = some (.cells #[.int .i64 f, .int .i64 (f + g), .slice fa m fc] 24 (0, 0)) := by rw [HW11]; exact heap_alloc_new w10 _
  have BA11 : Hid (Below w10.heap.size w10 W11) := by rw [HW11]; exact (Below.refl _ _).alloc (Nat.le_refl _) _
  have B11 : Hid (Below C.heap.size C W11) := below2 B10.out BA11.out (Nat.le_refl _)
  have R11 : Hid (ReadsT W11 (.slice fa m fc) fs) := RF.out.later BA11.out
  have H11 : Hid (W11.heap[w10.heap.size]? = some (.cells #[.int .i64 f, .int .i64 (f + g), .slice fa m fc] 24 (0, 0))) := hc11
  rw [← HW11]
  clear HW11 d0 d1 d2 d3 d4 d5 d6 t0 t1 t2 t3 t4 t5 t6 FL RF
  obtain ⟨s0, s1, s2⟩ := three hc11
  obtain ⟨t0, t1, t2, t3, t4, t5, t6⟩ := seven (BX.out W11 B11.out).2
  clear hc11
  have hwi1 : (1 : Int) ≤ wn := by omega
  have hwi2 : (wn : Int) ≤ 32 := by omega
  have CF : Hid (Calls _ _ _ W11 _) := frontierC wn f (f + g) fa m fc fs W11 ⟨by omega, by omega⟩ ⟨by omega, by omega⟩ R11.out (by have := LF.out.1; omega) (TC.out _ B11.out)
  have hlf : fs.length = (covI f (f + g)).length := by have := LF.out.1; have := HM.out; omega
  rw [frontV_of hwi1 hwi2 HOK.out hlf LF.out.2] at CF
  have SF := frontT_size hwi2 HOK.out hlf LF.out.2
  have eF := frontT_is wn f (f + g) fs
  rw [wid_id hwi1 hwi2] at eF
  have uF := front_read hwi1 hwi2 HOK.out hlf LF.out.2 _ eF
  have fF := first_of (A := frontT wn f (f + g) fs) (c := 70) eF
  have nF := not_none (A := frontT wn f (f + g) fs) (c := 70) eF
  obtain ⟨D, HD⟩ : ∃ A, Hid (frontT wn f (f + g) fs = A) := ⟨_, rfl⟩
  rw [HD.out] at CF SF uF nF
  obtain ⟨z0D, q0D⟩ : ∃ h0 : 0 < D.size, (D[0]'h0) = 70 := by have h := fF; rw [HD.out] at h; exact h
  have q1D : (((D[0]'z0D).toNat : Int) != 70) = false := by rw [q0D]; rfl
  have UF : Hid (∀ W : World, TabB W → Calls _ _ _ W _) := fun W h => unFrontierC D W (by omega) h
  rw [uF.1, uF.2] at UF
  clear fF eF uF HD q0D hlf
  go_upto_region 13 with (go_at_call 7; refine CF.out.mono ?_; rintro _ w12 ⟨rfl, k12⟩; have BB12 : Hid (Below W11.heap.size W11 w12) := k12; have B12 : Hid (Below C.heap.size C w12) := below2 B11.out k12 (Nat.le_refl _); clear k12)
  go_upto_region 14 with (go_at_call 11; refine (UF.out _ (TC.out _ B12.out)).mono ?_; rintro _ w13 ⟨⟨ya, yl, yc, rfl, o13⟩, k13⟩; have R13 : Hid (ReadsT w13 (.slice ya yl yc) fs) := own_readsT o13; have BB13 : Hid (Below W11.heap.size W11 w13) := below2 BB12.out k13 (Nat.le_refl _); clear o13 k13)
  obtain ⟨W14, HW14⟩ : ∃ W, W = w13.alloc (.cells #[.int .i64 f, .int .i64 (f + g), .slice ya yl yc] 24) := ⟨_, rfl⟩
  have hc14 : W14.heap[w13.heap.size]? = some (.cells #[.int .i64 f, .int .i64 (f + g), .slice ya yl yc] 24 (0, 0)) := by rw [HW14]; exact heap_alloc_new w13 _
  have BA14 : Hid (Below w13.heap.size w13 W14) := by rw [HW14]; exact (Below.refl _ _).alloc (Nat.le_refl _) _
  have BB14 : Hid (Below W11.heap.size W11 W14) := below2 BB13.out BA14.out (Nat.le_refl _)
  have B14 : Hid (Below C.heap.size C W14) := below2 B11.out BB14.out (Nat.le_refl _)
  rw [← HW14]
  clear HW14 s0 s1 s2 t0 t1 t2 t3 t4 t5 t6 CF UF
  obtain ⟨s0, s1, s2⟩ := three ((BB14.out.block _ (Array.getElem?_eq_some_iff.1 H11.out).1).trans H11.out)
  obtain ⟨u0, u1, u2⟩ := three hc14
  have HC14 : Hid _ := hc14
  obtain ⟨t0, t1, t2, t3, t4, t5, t6⟩ := seven (BX.out W14 B14.out).2
  clear hc14
  have SM : Hid (Calls _ _ _ W14 _) := same_yes (.slice fa m fc) (.slice ya yl yc) fs W14 (R11.out.later BB14.out) (R13.out.later BA14.out) (by have := LF.out.1; omega)
  have g2 : (f != f) = false := by simp
  have g3 : (f + g != f + g) = false := by simp
  have g4 : ((wn : Int) != wn) = false := by simp
  go_upto_region 16 with (first
    | (go_at_call 9; refine (num 0 _).mono ?_; rintro _ wz ⟨rfl, hz⟩; rw [hz]; clear hz)
    | (go_at_call 13; refine SM.out.mono ?_; rintro _ w15 ⟨rfl, m15, k15⟩; have hb15 : Below W14.heap.size W14 w15 := (by rw [k15]; exact below_dN (Below.refl _ _) _); have t1' : w15.cell? ⟨w3.heap.size, 1, none⟩ = some (.int .i64 (wn : Int)) := (seven (BX.out w15 (below2 B14.out hb15 (Nat.le_refl _))).2).2.1; have B15 : Hid (Below C.heap.size C w15) := below2 B14.out hb15 (Nat.le_refl _); clear k15 hb15))
  clear s0 s1 s2 u0 u1 u2 t0 t1 t2 t3 t4 t5 t6 t1' SM R13 BA14 BB14 BB13 BB12 HC14 H11 R11 nF q1D SF g2 g3
  -- the row
  obtain ⟨t0, t1, t2, t3, t4, t5, t6⟩ := seven (BX.out w15 B15.out).2
  have FL : Hid (Calls _ _ _ w15 _) := filledC r wn (.slice la N lcap) ls w15 (LC.out _ B15.out) (by omega) hw1 hw2 HSA.out (by have := HN.out; omega)
  go_upto_region 17 with (go_at_call 25; refine FL.out.mono ?_; rintro _ w16 ⟨⟨ra, rc, rs, rfl, o16, l16, z16⟩, k16⟩; have R16 : Hid (ReadsT w16 (.slice ra r rc) rs) := o16.reads; have LR : Hid (rs.length = r ∧ ∀ x ∈ rs, (x.size : Int) = wn) := ⟨l16, fun x hx => by have := z16 x hx; omega⟩; have B16 : Hid (Below C.heap.size C w16) := below2 B15.out k16 (Nat.le_refl _); clear o16 l16 z16 k16)
  clear t0 t1 t2 t3 t4 t5 t6 FL qr
  obtain ⟨t0, t1, t2, t3, t4, t5, t6⟩ := seven (BX.out w16 B16.out).2
  have CH : Hid (Calls _ _ _ w16 _) := hashesWC wn (.slice ra r rc) rs w16 R16.out (by have := LR.out.1; omega)
  have hlr : rs.length ≤ 256 := by have := LR.out.1; omega
  rw [hashV_of hwi1 hwi2 hlr LR.out.2] at CH
  have SH := hashT_size hwi2 hlr LR.out.2
  have eH := hashT_is wn rs
  rw [wid_id hwi1 hwi2] at eH
  have uH := row_read hwi1 hwi2 hlr LR.out.2 _ eH
  have fH := first_of (A := hashT wn rs) (c := 72) eH
  have nH := not_none (A := hashT wn rs) (c := 72) eH
  obtain ⟨E, HE⟩ : ∃ A, Hid (hashT wn rs = A) := ⟨_, rfl⟩
  rw [HE.out] at CH SH uH nH
  obtain ⟨z0E, q0E⟩ : ∃ h0 : 0 < E.size, (E[0]'h0) = 72 := by have h := fH; rw [HE.out] at h; exact h
  have q1E : (((E[0]'z0E).toNat : Int) != 72) = false := by rw [q0E]; rfl
  have UH : Hid (∀ W : World, Calls _ _ _ W _) := fun W => unHashesC E W (by omega)
  rw [uH.1, uH.2.1, uH.2.2] at UH
  clear fH eH uH HE q0E hlr
  go_upto_region 18 with (go_at_call 26; refine CH.out.mono ?_; rintro _ w17 ⟨rfl, k17⟩; have BB17 : Hid (Below w16.heap.size w16 w17) := k17; clear k17)
  go_upto_region 19 with (go_at_call 27; refine (UH.out _).mono ?_; rintro _ w18 ⟨⟨za, zl, zc, rfl, o18⟩, k18⟩; have R18 : Hid (ReadsT w18 (.slice za zl zc) rs) := own_readsT o18; have BB18 : Hid (Below w16.heap.size w16 w18) := below2 BB17.out k18 (Nat.le_refl _); clear o18 k18)
  have B18 : Hid (Below C.heap.size C w18) := below2 B16.out BB18.out (Nat.le_refl _)
  clear t0 t1 t2 t3 t4 t5 t6 CH UH
  have SM : Hid (Calls _ _ _ w18 _) := same_yes (.slice ra r rc) (.slice za zl zc) rs w18 (R16.out.later BB18.out) R18.out (by have := LR.out.1; omega)
  go_upto_region 21 with (first
    | (go_at_call 9; refine (num 0 _).mono ?_; rintro _ wz ⟨rfl, hz⟩; rw [hz]; clear hz)
    | (go_at_call 13; refine SM.out.mono ?_; rintro _ w19 ⟨rfl, m19, k19⟩; have hb19 : Below w18.heap.size w18 w19 := (by rw [k19]; exact below_dN (Below.refl _ _) _); have t1 : w19.cell? ⟨w3.heap.size, 1, none⟩ = some (.int .i64 (wn : Int)) := (seven (BX.out w19 (below2 B18.out hb19 (Nat.le_refl _))).2).2.1; have B19 : Hid (Below C.heap.size C w19) := below2 B18.out hb19 (Nat.le_refl _); clear k19 hb19))
  clear t1 SM R18 R16 nH q1E SH g4 BB18 BB17
  -- the leaves
  have HEL : Hid (∀ (W : World), Below w19.heap.size w19 W → ∀ j, j < N → ∃ bb off, la = some ⟨bb, off, none⟩ ∧ W.cell? ⟨bb, off + j, none⟩ = some (.string (ls.getD j ByteArray.empty))) := fun W hW j hj => by
    obtain ⟨a', cap', e, _, h⟩ := LC.out w19 B19.out
    have e1 := (Value.slice.inj e).1
    rcases h with h | ⟨bb, off, ha, hc⟩
    · have := HN.out; omega
    · have c := hc j (by have := HN.out; omega)
      exact ⟨bb, off, by rw [e1, ha], (hW.cell (p := ⟨bb, off + j, none⟩) (World.block_lt_of_cell? _ _ c)).trans c⟩
  have HSZ2 : Hid (∀ j, j < N → (ls.getD j ByteArray.empty).size ≤ 140737488351232) := fun j hj => HSL.out j (by rw [HN.out]; exact hj)
  have BW : Hid (Below w.heap.size w w19) := below2 BC.out B19.out (Nat.le_refl _)
  have hMc : (N : Int) ≤ lcap := by omega
  clear HSL LC HC1 HSA HTH TC
  go_wp2
  go_loopw [26, 27] (fun v i wr => ∃ (j : Nat) (ys : List ByteArray), j ≤ N ∧ j ≤ 1024 ∧ i = .int .i64 j ∧ Hid (ys.length = j ∧ ∀ x ∈ ys, x.size ≤ 4096) ∧ Hid (OwT wr w19.heap.size v ys ∧ Below w19.heap.size w19 wr)) (fun _ i _ => (N - intOf i).toNat)
  case atStart => exact ⟨0, [], by omega, by omega, rfl, ⟨rfl, fun x hx => absurd hx (List.not_mem_nil)⟩, OwT.nil _ _, Below.refl _ _⟩
  case round =>
    obtain ⟨j, ys, hj, hj2, rfl, HY, HH⟩ := hrel
    obtain ⟨oa, oc, hv⟩ := HH.out.1.form
    rw [HY.out.1] at hv
    subst hv
    have HO : Hid (OwT wr w19.heap.size (.slice oa j oc) ys) := HH.out.1
    have HB : Hid (Below w19.heap.size w19 wr) := HH.out.2
    clear HH
    by_cases hlt : j < N ∧ j < 1024
    · have hlt' : (j : Int) < N := by omega
      have hlt2 : (j : Int) < 1024 := by omega
      obtain ⟨bb, off, hla, hc⟩ := HEL.out wr HB.out j hlt.1
      have hX := HSZ2.out j hlt.1
      subst hla
      obtain ⟨X, HX⟩ : ∃ X, Hid (ls.getD j ByteArray.empty = X) := ⟨_, rfl⟩
      rw [HX.out] at hc hX
      obtain ⟨q, HQ⟩ : ∃ q, Hid (min X.size 4096 = q) := ⟨_, rfl⟩
      have hmin : min (X.size : Int) 4096 = (q : Int) := by have := HQ.out; omega
      have hq1 : q ≤ X.size := by have := HQ.out; omega
      have hq2 : q ≤ 4096 := by have := HQ.out; omega
      have hq3 : (q : Int) ≤ X.size := by omega
      have HXS : Hid ((X.extract 0 q).size ≤ 4096) := by show _ ≤ _; rw [ByteArray.size_extract]; omega
      have OA : Hid (World.ownsRow ((wr.alloc (.cells #[.string (X.extract 0 q)] 9)).drew) w19.heap.size 9 1 (.slice oa j oc) j (ys.map Value.string)) := by
        have h := HO.out.later ((Below.refl _ _).alloc (Nat.le_refl _) (.cells #[.string (X.extract 0 q)] 9))
        unfold OwT at h
        rw [HY.out.1] at h
        exact h
      have NW : Hid (∀ (i : Nat) (u : Value), [Value.string (X.extract 0 q)][i]? = some u → ((wr.alloc (.cells #[.string (X.extract 0 q)] 9)).drew).cell? (Addr.add ⟨wr.heap.size, 0, none⟩ i) = some u) := new_text _ _ _
      have ca : (wr.alloc (.cells #[.string (X.extract 0 q)] 9)).cell? ⟨bb, off + j, none⟩ = some (.string X) := (World.cell?_alloc_lt _ _ _ (World.block_lt_of_cell? _ _ hc)).trans hc
      have BA : Hid (Below w19.heap.size w19 ((wr.alloc (.cells #[.string (X.extract 0 q)] 9)).drew)) := below_dr (HB.out.alloc HB.out.size _)
      go_upto_region 25 with fail
      go_region_held_law (fun w' => w'.cell? ⟨bb, off + j, none⟩ = some (.string X)) (first | exact hc | exact ca | exact c5) ((refine step_append_lies _ (by rfl) (.tmp 214) (.tmp 226) 22 (by rfl) w19.heap.size 9 i9 (.string ByteArray.empty) 1 16 Tryd.underlying22 HIN.out.1 HIN.out.2.1 HIN.out.2.2.1 HIN.out.2.2.2 rfl (by decide) (.slice oa j oc) j _ (by simp [Act.eval]) OA.out ⟨wr.heap.size, 0, none⟩ 1 1 [.string (X.extract 0 q)] (by simp [Act.eval]) rfl NW.out (one_text _) (by omega) (by unfold maxLen; omega) (by omega) BA.out.size _ rfl ?_; intro g5 s5 w5x ho5 hg5 hl5 hlt5; have O5 : Hid (World.ownsRow _ _ _ _ _ _ _) := ho5; have BX5 : Hid (Below w19.heap.size w19 w5x) := Below.grown BA.out hg5 BA.out.size (fun j hj => (OA.out.lt _ hj).1); have c5 : w5x.cell? ⟨bb, off + j, none⟩ = some (.string X) := (by obtain ⟨b2, o2, e2, h2⟩ := HEL.out w5x BX5.out j hlt.1; have e3 := Option.some.inj e2; have e4 := congrArg Addr.block e3; have e5 := congrArg Addr.off e3; simp only at e4 e5; rw [HX.out] at h2; rw [e4, e5]; exact h2); clear ho5 hg5 hl5 hlt5))
      go_wp2
      go_roundw
      case rel => exact ⟨j + 1, ys ++ [X.extract 0 q], by omega, by omega, by go_num, ⟨by rw [List.length_append, HY.out.1]; rfl, all_snoc4 HY.out.2 HXS.out⟩, by have h := O5.out; unfold OwT; rw [List.length_append, HY.out.1, List.map_append]; exact h, BX5.out⟩
      case measure => simp [intOf]; omega
    · have hx1 : ¬ (j : Int) < N ∨ ((j : Int) < N ∧ ¬ (j : Int) < 1024) := by omega
      clear hlt
      have CL : Hid (Calls _ _ _ wr _) := leavesC (.slice oa j oc) ys wr HO.out.reads (by have := HY.out.1; omega)
      have hy1 : ys.length ≤ 1024 := by have := HY.out.1; omega
      rw [leavesV_of hy1 HY.out.2] at CL
      have SL : (⟨(leavesB ys).toArray⟩ : ByteArray).size ≤ 10000000 := by show (leavesB ys).toArray.size ≤ _; rw [List.size_toArray]; exact leaves_size hy1 HY.out.2
      have eL : bl (⟨(leavesB ys).toArray⟩ : ByteArray) = leavesB ys := rfl
      have uL := leaves_read hy1 HY.out.2 _ eL
      have fL := first_of (A := ⟨(leavesB ys).toArray⟩) (c := 76) eL
      have nL := not_none (A := ⟨(leavesB ys).toArray⟩) (c := 76) eL
      obtain ⟨S, HS⟩ : ∃ A : ByteArray, Hid ((⟨(leavesB ys).toArray⟩ : ByteArray) = A) := ⟨_, rfl⟩
      rw [HS.out] at CL SL uL nL
      obtain ⟨z0S, q0S⟩ : ∃ h0 : 0 < S.size, (S[0]'h0) = 76 := by have h := fL; rw [HS.out] at h; exact h
      have q1S : (((S[0]'z0S).toNat : Int) == 76) = true := by rw [q0S]; rfl
      have nL2 : (S.toList != []) = true := by rw [bne, nL]; rfl
      have UL : Hid (∀ W : World, Calls _ _ _ W _) := fun W => unLeavesC S W (by omega)
      rw [uL.1, uL.2] at UL
      have SM : Hid (∀ W1 W2 v, Below wr.heap.size wr W1 → Below W1.heap.size W1 W2 → World.ownsRow W2 W1.heap.size 9 1 v ys.length (ys.map Value.string) → Calls _ _ _ W2 _) := fun W1 W2 v h1 h2 h3 => same_yes (.slice oa j oc) v ys W2 ((HO.out.reads.later h1).later h2) (own_readsT h3) (by have := HY.out.1; omega)
      clear fL eL uL HS q0S SL HEL HSZ2 HM LF LR HOK
      rcases hx1 with hx1 | ⟨hx1, hx2⟩
      all_goals
        go_upto_region 27 with (go_at_call 28; refine CL.out.mono ?_; rintro _ w20 ⟨rfl, k20⟩; have B20 : Hid (Below wr.heap.size wr w20) := k20; clear k20)
        go_upto_region 28 with (go_at_call 18; refine (UL.out _).mono ?_; rintro _ w21 ⟨⟨v21, rfl, o21⟩, k21⟩; have S21 : Hid (Calls _ _ _ w21 _) := SM.out _ _ _ B20.out k21 o21; have B21 : Hid (Below w.heap.size w w21) := below2 (below2 BW.out HB.out (Nat.le_refl _)) (below2 B20.out k21 (Nat.le_refl _)) (Nat.le_refl _); obtain ⟨xa9, xc9, hv21⟩ := own_formS o21; subst hv21; clear o21 k21)
        go_wp2_with (first
          | (go_at_call 9; refine (num 0 _).mono ?_; rintro _ wz ⟨rfl, hz⟩; rw [hz]; clear hz)
          | (go_at_call 13; refine S21.out.mono ?_; rintro _ w22 ⟨rfl, m22, k22⟩; have B22 : Hid (Below w.heap.size w w22) := below2 B21.out (by rw [k22]; exact below_dN (Below.refl _ _) _) (Nat.le_refl _); clear k22))
        go_ret
        exact ⟨rfl, B22.out⟩
end Go.Proofs.YthpfgdhmpeadeaaDoor.w5
