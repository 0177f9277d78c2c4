import Derived.Test.YtmmbkfagchaocaaDoorB1
import Derived.Deep.RegionHeld3
import Derived.Handy
import Derived.Laws.BitsAllLaws
import Derived.Shelf.Abstract
import Derived.Test.YtmmbkfagchaocaaDoorA2
import Derived.RangeFuncBox
import Derived.BigQuiet
import Derived.Deep.AppendLies
import Derived.Deep.RegionLaw
import Derived.OrdersHeld
import Derived.StillTail
import Derived.Test.YtmmbkfagchaocaaDoorProg
import Derived.Deep.DeepCutAuto
namespace Go.Proofs.YtmmbkfagchaocaaDoor.va
open Go.RowKit Go.PlainAid
open Go.Proofs.YtmmbkfagchaocaaDoor.ca Go.Proofs.YtmmbkfagchaocaaDoor.cp Go.Proofs.YtmmbkfagchaocaaDoor.cu Go.Proofs.YtmmbkfagchaocaaDoor.cq
set_option linter.unusedVariables false

set_option maxHeartbeats 800000 in
theorem valid (L I : Int) (w : World) :
    Calls Tryd.prog 77 #[.agg #[.int .i64 L, .int .i64 I]] w fun e w' => e = .returned (.bool (decide (okA L I))) ∧ Below w.heap.size w w' := by
  obtain ⟨r, HR⟩ : ∃ r, Hid (decide (okA L I) = r) := ⟨_, rfl⟩
  rw [HR.out]
  have B0 : Hid (Below w.heap.size w (w.alloc (.cells #[.int .i64 L, .int .i64 I] 36))) := (Below.refl _ _).alloc (Nat.le_refl _) _
  have HF : ¬ okA L I → Hid (r = false) := fun h => by show _ = _; rw [← HR.out]; exact decide_eq_false h
  by_cases a1 : L < 0
  · have HV : Hid (r = false) := HF (fun h => by have := h.1; omega)
    clear HF
    go_enter Tryd.func77, Tryd.ntmps77
    go_wp2
    go_ret
    exact ⟨by rw [HV.out]; rfl, B0.out⟩
  · by_cases a2 : L > 62
    · have HV : Hid (r = false) := HF (fun h => by have := h.2.1; omega)
      clear HF
      go_enter Tryd.func77, Tryd.ntmps77
      go_wp2
      go_ret
      exact ⟨by rw [HV.out]; rfl, B0.out⟩
    · by_cases a3 : 0 ≤ I
      · obtain ⟨k, rfl⟩ : ∃ k : Nat, L = k := ⟨L.toNat, by omega⟩
        have hk : k ≤ 62 := by omega
        obtain ⟨t, HT⟩ : ∃ t : Nat, Hid (2 ^ k = t) := ⟨_, rfl⟩
        have hT : (2 : Int) ^ k = (t : Int) := by rw [cast_pow, HT.out]
        have HV : Hid (r = decide (I < 4611686018427387904 / (t : Int))) := by
          show _ = _
          rw [← HR.out]
          refine decide_eq_decide.2 ?_
          unfold okA
          rw [Int.toNat_natCast, hT]
          omega
        have hw3 : min (k : Int).toNat 64 = k := by omega
        have hw4 : min k 64 = k := by omega
        clear HF
        go_enter Tryd.func77, Tryd.ntmps77
        go_wp2_with fail
        go_quiet (fail)
        go_wp2
        go_ret
        exact ⟨by rw [HV.out]; rfl, below_dN B0.out _⟩
      · have HV : Hid (r = false) := HF (fun h => by have := h.2.2.1; omega)
        have a4 : decide (0 ≤ I) = false := decide_eq_false a3
        clear HF
        go_enter Tryd.func77, Tryd.ntmps77
        go_wp2_with fail
        go_quiet (fail)
        go_wp2
        go_ret
        exact ⟨by rw [HV.out]; rfl, below_dN B0.out _⟩
theorem validC : ValidC := fun L I _ _ w => valid L I w
set_option maxHeartbeats 800000 in
theorem span (L I : Int) (w : World) :
    Calls Tryd.prog 64 #[.agg #[.int .i64 L, .int .i64 I]] w fun e w' => e = .returned (spV L I) ∧ Below w.heap.size w w' := by
  have V1 : Hid (∀ w, Calls _ _ _ _ _) := fun w => valid L I w
  by_cases hok : okA L I
  · obtain ⟨k, i, rfl, rfl, hk, hf⟩ := okA_form hok
    rw [decide_eq_true hok] at V1
    rw [spV_nat hok]
    have HX : Hid (Bx (w.alloc (.cells #[.int .i64 (k : Int), .int .i64 (i : Int)] 36)) w.heap.size k i) := bx_new _ _ _
    obtain ⟨f, HF⟩ : ∃ f, Hid (i * 2 ^ k = f) := ⟨_, rfl⟩
    obtain ⟨g, HG⟩ : ∃ g, Hid ((i + 1) * 2 ^ k = g) := ⟨_, rfl⟩
    rw [HF.out, HG.out]
    rw [HG.out] at hf
    clear hok
    go_enter Tryd.func64, Tryd.ntmps64
    go_wp2_with fail
    refine (V1.out _).mono ?_
    rintro e w1 ⟨rfl, hb⟩
    have B1 : Hid (Below w.heap.size w w1) := over ((Below.refl _ _).alloc (Nat.le_refl _) _) hb
    obtain ⟨c1, c2⟩ := HX.out.later hb
    have him : i ≤ 4611686018427387904 := by
      have := Nat.le_mul_of_pos_right (i + 1) (p2 k)
      rw [HG.out] at this
      omega
    have hfg : f ≤ g := by rw [← HF.out, ← HG.out]; exact Nat.mul_le_mul_right _ (by omega)
    have hw2 : IntKind.u64.wrap (k : Int) = k := u64_is k (by omega)
    have hw3 : min (k : Int).toNat 64 = k := by omega
    have hw4 : min k 64 = k := by omega
    have hw5 : IntKind.i64.wrap ((i : Int) * 2 ^ k) = f := by rw [cast_pow, ← Int.natCast_mul, HF.out]; exact wrap_is f (by omega)
    have hw6 : IntKind.i64.wrap ((i : Int) + 1) = (i : Int) + 1 := by rw [IntKind.wrap_i64]; omega
    have hw7 : IntKind.i64.wrap (((i : Int) + 1) * 2 ^ k) = g := by rw [cast_pow, show (i : Int) + 1 = ((i + 1 : Nat) : Int) by omega, ← Int.natCast_mul, HG.out]; exact wrap_is g (by omega)
    clear hb
    go_wp2_with fail
    go_quiet (fail)
    go_wp2
    go_returns
    exact ⟨rfl, below_dN B1.out _⟩
  · rw [decide_eq_false hok] at V1
    rw [show spV L I = .tuple #[.int .i64 0, .int .i64 0, .int .i64 50] by unfold spV; rw [if_neg hok]]
    clear hok
    go_enter Tryd.func64, Tryd.ntmps64
    go_wp2_with fail
    refine (V1.out _).mono ?_
    rintro e w1 ⟨rfl, hb⟩
    have B1 : Hid (Below w.heap.size w w1) := over ((Below.refl _ _).alloc (Nat.le_refl _) _) hb
    clear hb
    go_wp2
    go_returns
    exact ⟨rfl, B1.out⟩
theorem spanC : SpanC := fun L I _ _ w => span L I w
end Go.Proofs.YtmmbkfagchaocaaDoor.va

namespace Go.Proofs.YtmmbkfagchaocaaDoor.vb
open Go.RowKit Go.PlainAid
open Go.Proofs.YtmmbkfagchaocaaDoor.ca Go.Proofs.YtmmbkfagchaocaaDoor.cp Go.Proofs.YtmmbkfagchaocaaDoor.cu Go.Proofs.YtmmbkfagchaocaaDoor.cq Go.Proofs.YtmmbkfagchaocaaDoor.cr Go.Proofs.YtmmbkfagchaocaaDoor.va
set_option linter.unusedVariables false

-- a struct that is the result, behind one block
theorem two_res (w : World) (o : Obj) (x y : Value) (t : TypeId) : ((w.alloc o).alloc (.cells #[x, y] t)).cell? ⟨w.heap.size + 1, 0, none⟩ = some x ∧ ((w.alloc o).alloc (.cells #[x, y] t)).cell? ⟨w.heap.size + 1, 1, none⟩ = some y := by
  have s1 : (w.alloc o).heap.size = w.heap.size + 1 := by simp
  rw [← s1]
  exact ⟨by rw [World.cell?_alloc_at _ _ _ _ rfl]; rfl, by rw [World.cell?_alloc_at _ _ _ _ rfl]; rfl⟩
theorem kin_form (L I L' I' : Int) : ∃ a b c, kinV L I L' I' = .tuple #[.agg #[.int .i64 a, .int .i64 b], .int .i64 c] := by
  unfold kinV
  split
  · exact ⟨_, _, _, rfl⟩
  · exact ⟨_, _, _, rfl⟩
-- kin, by way of whatever step
set_option maxHeartbeats 1600000 in
theorem kin (g : Nat) (eg : ∀ args w, (callFunc g args).run Tryd.prog w = .ok (.enter g args) w) (L I L' I' : Int)
    (hstep : okA L I → ∀ w, Calls Tryd.prog g #[.agg #[.int .i64 L, .int .i64 I]] w fun e w' => e = .returned (.agg #[.int .i64 L', .int .i64 I']) ∧ Below w.heap.size w w') (w : World) :
    Calls Tryd.prog 89 #[.agg #[.int .i64 L, .int .i64 I], .func (.func g) #[] #[]] w fun e w' => e = .returned (kinV L I L' I') ∧ Below w.heap.size w w' := by
  have V1 : Hid (∀ w, Calls _ _ _ _ _) := fun w => valid L I w
  have V2 : Hid (∀ w, Calls _ _ _ _ _) := fun w => valid L' I' w
  have s1 : (w.alloc (.cells #[.int .i64 L, .int .i64 I] 36)).heap.size = w.heap.size + 1 := by simp
  have HX : Hid (Bx ((w.alloc (.cells #[.int .i64 L, .int .i64 I] 36)).alloc (.cells #[.int .i64 0, .int .i64 0] 36)) w.heap.size L I) :=
    (bx_new w L I).later ((Below.refl _ _).alloc (Nat.le_refl _) (.cells #[.int .i64 0, .int .i64 0] 36))
  have HZ : Hid (((w.alloc (.cells #[.int .i64 L, .int .i64 I] 36)).alloc (.cells #[.int .i64 0, .int .i64 0] 36)).heap[w.heap.size + 1]? = some (.cells #[.int .i64 0, .int .i64 0] 36 (0, 0))) := by
    show _ = _
    rw [← s1]
    exact heap_alloc_new _ _
  have B0 : Hid (Below w.heap.size w ((w.alloc (.cells #[.int .i64 L, .int .i64 I] 36)).alloc (.cells #[.int .i64 0, .int .i64 0] 36))) := ((Below.refl _ _).alloc (Nat.le_refl _) _).alloc (by simp) _
  clear s1
  by_cases hok : okA L I
  · have ST : Hid (∀ w, Calls _ _ _ _ _) := fun w => hstep hok w
    rw [decide_eq_true hok] at V1
    obtain ⟨b2, HB2⟩ : ∃ b, Hid (decide (okA L' I') = b) := ⟨_, rfl⟩
    rw [HB2.out] at V2
    have HK : Hid (kinV L I L' I' = if b2 then .tuple #[.agg #[.int .i64 L', .int .i64 I'], .int .i64 0] else .tuple #[.agg #[.int .i64 0, .int .i64 0], .int .i64 50]) := by
      show _ = _
      rw [← HB2.out]
      unfold kinV
      by_cases h2 : okA L' I' <;> simp [hok, h2]
    rw [HK.out]
    clear HK hstep hok
    go_enter Tryd.func89, Tryd.ntmps89
    go_wp2_with fail
    refine (V1.out _).mono ?_
    rintro e w1 ⟨rfl, hb⟩
    have B1 : Hid (Below w.heap.size w w1) := over B0.out hb
    have HX1 : Hid (Bx w1 w.heap.size L I) := HX.out.later hb
    have HZ1 : Hid (w1.heap[w.heap.size + 1]? = some (.cells #[.int .i64 0, .int .i64 0] 36 (0, 0))) := (hb.block _ (Array.getElem?_eq_some_iff.1 HZ.out).1).trans HZ.out
    obtain ⟨c1, c2⟩ := HX1.out
    clear hb HX HZ B0
    go_wp2_with fail
    refine (ST.out _).mono ?_
    rintro e w2 ⟨rfl, hb⟩
    have B2 : Hid (Below w.heap.size w w2) := over B1.out hb
    have HZ2 : Hid (w2.heap[w.heap.size + 1]? = some (.cells #[.int .i64 0, .int .i64 0] 36 (0, 0))) := (hb.block _ (Array.getElem?_eq_some_iff.1 HZ1.out).1).trans HZ1.out
    clear hb c1 c2 HX1 HZ1 B1
    go_wp2_with fail
    refine (V2.out _).mono ?_
    rintro e w3 ⟨rfl, hb⟩
    have B3 : Hid (Below w.heap.size w w3) := over (B2.out.alloc B2.out.size _) hb
    obtain ⟨c1, c2⟩ := (bx_new w2 L' I').later hb
    have HZ3 : Hid (w3.heap[w.heap.size + 1]? = some (.cells #[.int .i64 0, .int .i64 0] 36 (0, 0))) := by
      have hlt := (Array.getElem?_eq_some_iff.1 HZ2.out).1
      exact (hb.block _ (by simp; omega)).trans ((heap_alloc_old _ _ hlt).trans HZ2.out)
    clear hb HZ2 B2
    have d1 : w3.cell? ⟨w.heap.size + 1, 0, none⟩ = some (.int .i64 0) := by rw [cell_of_row _ _ _ _ _ _ HZ3.out]; rfl
    have d2 : w3.cell? ⟨w.heap.size + 1, 1, none⟩ = some (.int .i64 0) := by rw [cell_of_row _ _ _ _ _ _ HZ3.out]; rfl
    have f1 := frozen_of_row w3 (w.heap.size + 1) 0 _ _ HZ3.out
    have f2 := frozen_of_row w3 (w.heap.size + 1) 1 _ _ HZ3.out
    have HBS : Hid (∀ x y : Value, Below w.heap.size w ((w3.setCell ⟨w.heap.size + 1, 0, none⟩ x).setCell ⟨w.heap.size + 1, 1, none⟩ y)) := fun x y => (B3.out.setCell (p := ⟨w.heap.size + 1, 0, none⟩) (by show _ ≤ w.heap.size + 1; omega) _).setCell (p := ⟨w.heap.size + 1, 1, none⟩) (by show _ ≤ w.heap.size + 1; omega) _
    have g2 : ∀ x y : Value, ((w3.setCell ⟨w.heap.size + 1, 0, none⟩ x).setCell ⟨w.heap.size + 1, 1, none⟩ y).cell? ⟨w.heap.size + 1, 1, none⟩ = some y := fun x y => by
      rw [cell_of_row _ _ _ _ _ _ (heap_setCell_same _ _ 1 _ _ y (heap_setCell_same w3 _ 0 _ _ x HZ3.out))]; rfl
    have g3 : ∀ x y : Value, ((w3.setCell ⟨w.heap.size + 1, 0, none⟩ x).setCell ⟨w.heap.size + 1, 1, none⟩ y).cell? ⟨w.heap.size + 1, 0, none⟩ = some x := fun x y => by
      rw [cell_of_row _ _ _ _ _ _ (heap_setCell_same _ _ 1 _ _ y (heap_setCell_same w3 _ 0 _ _ x HZ3.out))]; rfl
    cases b2
    all_goals (
      go_wp2
      (try simp only [Exit.inBlock, Exit.then])
      refine bodyPost_ret (by simp [results, Tryd.results89, go_sem, g2, g3]; try rfl) rfl ?_
      exact ⟨rfl, HBS.out _ _⟩)
  · rw [decide_eq_false hok] at V1
    rw [kin_no (fun h => hok h.1)]
    clear hstep hok V2
    go_enter Tryd.func89, Tryd.ntmps89
    go_wp2_with fail
    refine (V1.out _).mono ?_
    rintro e w1 ⟨rfl, hb⟩
    have B1 : Hid (Below w.heap.size w w1) := over B0.out hb
    have HZ1 : Hid (w1.heap[w.heap.size + 1]? = some (.cells #[.int .i64 0, .int .i64 0] 36 (0, 0))) := (hb.block _ (Array.getElem?_eq_some_iff.1 HZ.out).1).trans HZ.out
    clear hb HX HZ B0
    have d1 : w1.cell? ⟨w.heap.size + 1, 0, none⟩ = some (.int .i64 0) := by rw [cell_of_row _ _ _ _ _ _ HZ1.out]; rfl
    have d2 : w1.cell? ⟨w.heap.size + 1, 1, none⟩ = some (.int .i64 0) := by rw [cell_of_row _ _ _ _ _ _ HZ1.out]; rfl
    have f1 := frozen_of_row w1 (w.heap.size + 1) 0 _ _ HZ1.out
    have f2 := frozen_of_row w1 (w.heap.size + 1) 1 _ _ HZ1.out
    have HBS : Hid (∀ x y : Value, Below w.heap.size w ((w1.setCell ⟨w.heap.size + 1, 0, none⟩ x).setCell ⟨w.heap.size + 1, 1, none⟩ y)) := fun x y => (B1.out.setCell (p := ⟨w.heap.size + 1, 0, none⟩) (by show _ ≤ w.heap.size + 1; omega) _).setCell (p := ⟨w.heap.size + 1, 1, none⟩) (by show _ ≤ w.heap.size + 1; omega) _
    have g2 : ∀ x y : Value, ((w1.setCell ⟨w.heap.size + 1, 0, none⟩ x).setCell ⟨w.heap.size + 1, 1, none⟩ y).cell? ⟨w.heap.size + 1, 1, none⟩ = some y := fun x y => by
      rw [cell_of_row _ _ _ _ _ _ (heap_setCell_same _ _ 1 _ _ y (heap_setCell_same w1 _ 0 _ _ x HZ1.out))]; rfl
    have g3 : ∀ x y : Value, ((w1.setCell ⟨w.heap.size + 1, 0, none⟩ x).setCell ⟨w.heap.size + 1, 1, none⟩ y).cell? ⟨w.heap.size + 1, 0, none⟩ = some x := fun x y => by
      rw [cell_of_row _ _ _ _ _ _ (heap_setCell_same _ _ 1 _ _ y (heap_setCell_same w1 _ 0 _ _ x HZ1.out))]; rfl
    go_wp2
    (try simp only [Exit.inBlock, Exit.then])
    refine bodyPost_ret (by simp [results, Tryd.results89, go_sem, g2, g3]; try rfl) rfl ?_
    exact ⟨rfl, HBS.out _ _⟩
end Go.Proofs.YtmmbkfagchaocaaDoor.vb

namespace Go.Proofs.YtmmbkfagchaocaaDoor.vp
open Go.RowKit Go.PlainAid
open Go.Proofs.YtmmbkfagchaocaaDoor.ca Go.Proofs.YtmmbkfagchaocaaDoor.cp Go.Proofs.YtmmbkfagchaocaaDoor.cu Go.Proofs.YtmmbkfagchaocaaDoor.cq Go.Proofs.YtmmbkfagchaocaaDoor.cr Go.Proofs.YtmmbkfagchaocaaDoor.va Go.Proofs.YtmmbkfagchaocaaDoor.vb
set_option linter.unusedVariables false

set_option maxHeartbeats 800000 in
theorem stepParent (k i : Nat) (hk : k ≤ 62) (hi : i < 4611686018427387904) (w : World) :
    Calls Tryd.prog 90 #[.agg #[.int .i64 (k : Int), .int .i64 (i : Int)]] w fun e w' => e = .returned (.agg #[.int .i64 ((k : Int) + 1), .int .i64 ((i : Int) / 2)]) ∧ Below w.heap.size w w' := by
  have hg := two_res w (.cells #[.int .i64 (k : Int), .int .i64 (i : Int)] 36)
  have g2 := fun x y => (hg x y 36).1
  have g3 := fun x y => (hg x y 36).2
  have B1 : Hid (∀ x y : Value, Below w.heap.size w ((w.alloc (.cells #[.int .i64 (k : Int), .int .i64 (i : Int)] 36)).alloc (.cells #[x, y] 36))) := fun x y => ((Below.refl _ _).alloc (Nat.le_refl _) _).alloc (by simp) _
  clear hg
  go_enter Tryd.func90, Tryd.ntmps90
  go_wp2
  (try simp only [Exit.inBlock, Exit.then])
  refine bodyPost_ret (by simp [results, Tryd.results90, go_sem, g2, g3]; try rfl) rfl ?_
  exact ⟨rfl, B1.out _ _⟩
set_option maxHeartbeats 1600000 in
theorem pParent (L I : Int) (w : World) :
    Calls Tryd.prog 79 #[.agg #[.int .i64 L, .int .i64 I]] w fun e w' => e = .returned (kinV L I ((L + 1)) ((I / 2))) ∧ Below w.heap.size w w' := by
  have KN : Hid (∀ w, Calls _ _ _ _ _) := fun w => kin 90 (enters_of Tryd.func90 (by kernel_rfl) rfl) L I ((L + 1)) ((I / 2)) (fun hok w => by
    obtain ⟨k, i, rfl, rfl, hk, hf⟩ := okA_form hok
    have him : i < 4611686018427387904 := by
      have := Nat.le_mul_of_pos_right (i + 1) (p2 k)
      omega
    exact stepParent k i hk him w) w
  obtain ⟨ra, rb, rc, HK⟩ := kin_form L I ((L + 1)) ((I / 2))
  rw [HK] at KN ⊢
  clear HK
  have s1 : (w.alloc (.cells #[.int .i64 L, .int .i64 I] 36)).heap.size = w.heap.size + 1 := by simp
  have HZ : Hid (((w.alloc (.cells #[.int .i64 L, .int .i64 I] 36)).alloc (.cells #[.int .i64 0, .int .i64 0] 36)).heap[w.heap.size + 1]? = some (.cells #[.int .i64 0, .int .i64 0] 36 (0, 0))) := by
    show _ = _
    rw [← s1]
    exact heap_alloc_new _ _
  have B0 : Hid (Below w.heap.size w ((w.alloc (.cells #[.int .i64 L, .int .i64 I] 36)).alloc (.cells #[.int .i64 0, .int .i64 0] 36))) := ((Below.refl _ _).alloc (Nat.le_refl _) _).alloc (by simp) _
  clear s1
  go_enter Tryd.func79, Tryd.ntmps79
  go_wp2_with fail
  refine (KN.out _).mono ?_
  rintro e w1 ⟨rfl, hb⟩
  have B1 : Hid (Below w.heap.size w w1) := over B0.out hb
  have HZ1 : Hid (w1.heap[w.heap.size + 1]? = some (.cells #[.int .i64 0, .int .i64 0] 36 (0, 0))) := (hb.block _ (Array.getElem?_eq_some_iff.1 HZ.out).1).trans HZ.out
  clear hb HZ B0
  have d1 : w1.cell? ⟨w.heap.size + 1, 0, none⟩ = some (.int .i64 0) := by rw [cell_of_row _ _ _ _ _ _ HZ1.out]; rfl
  have d2 : w1.cell? ⟨w.heap.size + 1, 1, none⟩ = some (.int .i64 0) := by rw [cell_of_row _ _ _ _ _ _ HZ1.out]; rfl
  have f1 := frozen_of_row w1 (w.heap.size + 1) 0 _ _ HZ1.out
  have f2 := frozen_of_row w1 (w.heap.size + 1) 1 _ _ HZ1.out
  have HBS : Hid (∀ x y : Value, Below w.heap.size w ((w1.setCell ⟨w.heap.size + 1, 0, none⟩ x).setCell ⟨w.heap.size + 1, 1, none⟩ y)) := fun x y => (B1.out.setCell (p := ⟨w.heap.size + 1, 0, none⟩) (by show _ ≤ w.heap.size + 1; omega) _).setCell (p := ⟨w.heap.size + 1, 1, none⟩) (by show _ ≤ w.heap.size + 1; omega) _
  have g2 : ∀ x y : Value, ((w1.setCell ⟨w.heap.size + 1, 0, none⟩ x).setCell ⟨w.heap.size + 1, 1, none⟩ y).cell? ⟨w.heap.size + 1, 1, none⟩ = some y := fun x y => by
    rw [cell_of_row _ _ _ _ _ _ (heap_setCell_same _ _ 1 _ _ y (heap_setCell_same w1 _ 0 _ _ x HZ1.out))]; rfl
  have g3 : ∀ x y : Value, ((w1.setCell ⟨w.heap.size + 1, 0, none⟩ x).setCell ⟨w.heap.size + 1, 1, none⟩ y).cell? ⟨w.heap.size + 1, 0, none⟩ = some x := fun x y => by
    rw [cell_of_row _ _ _ _ _ _ (heap_setCell_same _ _ 1 _ _ y (heap_setCell_same w1 _ 0 _ _ x HZ1.out))]; rfl
  go_wp2
  (try simp only [Exit.inBlock, Exit.then])
  refine bodyPost_ret (by simp [results, Tryd.results79, go_sem, g2, g3]; try rfl) rfl ?_
  exact ⟨rfl, HBS.out _ _⟩
theorem parentC : ParentC := fun L I _ _ w => pParent L I w
end Go.Proofs.YtmmbkfagchaocaaDoor.vp

namespace Go.Proofs.YtmmbkfagchaocaaDoor.vs
open Go.RowKit Go.PlainAid
open Go.Proofs.YtmmbkfagchaocaaDoor.ca Go.Proofs.YtmmbkfagchaocaaDoor.cp Go.Proofs.YtmmbkfagchaocaaDoor.cu Go.Proofs.YtmmbkfagchaocaaDoor.cq Go.Proofs.YtmmbkfagchaocaaDoor.cr Go.Proofs.YtmmbkfagchaocaaDoor.va Go.Proofs.YtmmbkfagchaocaaDoor.vb
set_option linter.unusedVariables false

set_option maxHeartbeats 800000 in
theorem stepLeft (k i : Nat) (hk : k ≤ 62) (hi : i < 4611686018427387904) (w : World) :
    Calls Tryd.prog 97 #[.agg #[.int .i64 (k : Int), .int .i64 (i : Int)]] w fun e w' => e = .returned (.agg #[.int .i64 ((k : Int) - 1), .int .i64 (2 * (i : Int))]) ∧ Below w.heap.size w w' := by
  have hg := two_res w (.cells #[.int .i64 (k : Int), .int .i64 (i : Int)] 36)
  have g2 := fun x y => (hg x y 36).1
  have g3 := fun x y => (hg x y 36).2
  have B1 : Hid (∀ x y : Value, Below w.heap.size w ((w.alloc (.cells #[.int .i64 (k : Int), .int .i64 (i : Int)] 36)).alloc (.cells #[x, y] 36))) := fun x y => ((Below.refl _ _).alloc (Nat.le_refl _) _).alloc (by simp) _
  clear hg
  go_enter Tryd.func97, Tryd.ntmps97
  go_wp2
  (try simp only [Exit.inBlock, Exit.then])
  refine bodyPost_ret (by simp [results, Tryd.results97, go_sem, g2, g3]; try rfl) rfl ?_
  exact ⟨rfl, B1.out _ _⟩
set_option maxHeartbeats 1600000 in
theorem pLeft (L I : Int) (w : World) :
    Calls Tryd.prog 87 #[.agg #[.int .i64 L, .int .i64 I]] w fun e w' => e = .returned (kinV L I ((L - 1)) ((2 * I))) ∧ Below w.heap.size w w' := by
  have KN : Hid (∀ w, Calls _ _ _ _ _) := fun w => kin 97 (enters_of Tryd.func97 (by kernel_rfl) rfl) L I ((L - 1)) ((2 * I)) (fun hok w => by
    obtain ⟨k, i, rfl, rfl, hk, hf⟩ := okA_form hok
    have him : i < 4611686018427387904 := by
      have := Nat.le_mul_of_pos_right (i + 1) (p2 k)
      omega
    exact stepLeft k i hk him w) w
  obtain ⟨ra, rb, rc, HK⟩ := kin_form L I ((L - 1)) ((2 * I))
  rw [HK] at KN ⊢
  clear HK
  have s1 : (w.alloc (.cells #[.int .i64 L, .int .i64 I] 36)).heap.size = w.heap.size + 1 := by simp
  have HZ : Hid (((w.alloc (.cells #[.int .i64 L, .int .i64 I] 36)).alloc (.cells #[.int .i64 0, .int .i64 0] 36)).heap[w.heap.size + 1]? = some (.cells #[.int .i64 0, .int .i64 0] 36 (0, 0))) := by
    show _ = _
    rw [← s1]
    exact heap_alloc_new _ _
  have B0 : Hid (Below w.heap.size w ((w.alloc (.cells #[.int .i64 L, .int .i64 I] 36)).alloc (.cells #[.int .i64 0, .int .i64 0] 36))) := ((Below.refl _ _).alloc (Nat.le_refl _) _).alloc (by simp) _
  clear s1
  go_enter Tryd.func87, Tryd.ntmps87
  go_wp2_with fail
  refine (KN.out _).mono ?_
  rintro e w1 ⟨rfl, hb⟩
  have B1 : Hid (Below w.heap.size w w1) := over B0.out hb
  have HZ1 : Hid (w1.heap[w.heap.size + 1]? = some (.cells #[.int .i64 0, .int .i64 0] 36 (0, 0))) := (hb.block _ (Array.getElem?_eq_some_iff.1 HZ.out).1).trans HZ.out
  clear hb HZ B0
  have d1 : w1.cell? ⟨w.heap.size + 1, 0, none⟩ = some (.int .i64 0) := by rw [cell_of_row _ _ _ _ _ _ HZ1.out]; rfl
  have d2 : w1.cell? ⟨w.heap.size + 1, 1, none⟩ = some (.int .i64 0) := by rw [cell_of_row _ _ _ _ _ _ HZ1.out]; rfl
  have f1 := frozen_of_row w1 (w.heap.size + 1) 0 _ _ HZ1.out
  have f2 := frozen_of_row w1 (w.heap.size + 1) 1 _ _ HZ1.out
  have HBS : Hid (∀ x y : Value, Below w.heap.size w ((w1.setCell ⟨w.heap.size + 1, 0, none⟩ x).setCell ⟨w.heap.size + 1, 1, none⟩ y)) := fun x y => (B1.out.setCell (p := ⟨w.heap.size + 1, 0, none⟩) (by show _ ≤ w.heap.size + 1; omega) _).setCell (p := ⟨w.heap.size + 1, 1, none⟩) (by show _ ≤ w.heap.size + 1; omega) _
  have g2 : ∀ x y : Value, ((w1.setCell ⟨w.heap.size + 1, 0, none⟩ x).setCell ⟨w.heap.size + 1, 1, none⟩ y).cell? ⟨w.heap.size + 1, 1, none⟩ = some y := fun x y => by
    rw [cell_of_row _ _ _ _ _ _ (heap_setCell_same _ _ 1 _ _ y (heap_setCell_same w1 _ 0 _ _ x HZ1.out))]; rfl
  have g3 : ∀ x y : Value, ((w1.setCell ⟨w.heap.size + 1, 0, none⟩ x).setCell ⟨w.heap.size + 1, 1, none⟩ y).cell? ⟨w.heap.size + 1, 0, none⟩ = some x := fun x y => by
    rw [cell_of_row _ _ _ _ _ _ (heap_setCell_same _ _ 1 _ _ y (heap_setCell_same w1 _ 0 _ _ x HZ1.out))]; rfl
  go_wp2
  (try simp only [Exit.inBlock, Exit.then])
  refine bodyPost_ret (by simp [results, Tryd.results87, go_sem, g2, g3]; try rfl) rfl ?_
  exact ⟨rfl, HBS.out _ _⟩
theorem leftC : LeftC := fun L I _ _ w => pLeft L I w
set_option maxHeartbeats 800000 in
theorem stepRight (k i : Nat) (hk : k ≤ 62) (hi : i < 4611686018427387904) (w : World) :
    Calls Tryd.prog 98 #[.agg #[.int .i64 (k : Int), .int .i64 (i : Int)]] w fun e w' => e = .returned (.agg #[.int .i64 ((k : Int) - 1), .int .i64 (2 * (i : Int) + 1)]) ∧ Below w.heap.size w w' := by
  have hg := two_res w (.cells #[.int .i64 (k : Int), .int .i64 (i : Int)] 36)
  have g2 := fun x y => (hg x y 36).1
  have g3 := fun x y => (hg x y 36).2
  have B1 : Hid (∀ x y : Value, Below w.heap.size w ((w.alloc (.cells #[.int .i64 (k : Int), .int .i64 (i : Int)] 36)).alloc (.cells #[x, y] 36))) := fun x y => ((Below.refl _ _).alloc (Nat.le_refl _) _).alloc (by simp) _
  clear hg
  go_enter Tryd.func98, Tryd.ntmps98
  go_wp2
  (try simp only [Exit.inBlock, Exit.then])
  refine bodyPost_ret (by simp [results, Tryd.results98, go_sem, g2, g3]; try rfl) rfl ?_
  exact ⟨rfl, B1.out _ _⟩
set_option maxHeartbeats 1600000 in
theorem pRight (L I : Int) (w : World) :
    Calls Tryd.prog 88 #[.agg #[.int .i64 L, .int .i64 I]] w fun e w' => e = .returned (kinV L I ((L - 1)) ((2 * I + 1))) ∧ Below w.heap.size w w' := by
  have KN : Hid (∀ w, Calls _ _ _ _ _) := fun w => kin 98 (enters_of Tryd.func98 (by kernel_rfl) rfl) L I ((L - 1)) ((2 * I + 1)) (fun hok w => by
    obtain ⟨k, i, rfl, rfl, hk, hf⟩ := okA_form hok
    have him : i < 4611686018427387904 := by
      have := Nat.le_mul_of_pos_right (i + 1) (p2 k)
      omega
    exact stepRight k i hk him w) w
  obtain ⟨ra, rb, rc, HK⟩ := kin_form L I ((L - 1)) ((2 * I + 1))
  rw [HK] at KN ⊢
  clear HK
  have s1 : (w.alloc (.cells #[.int .i64 L, .int .i64 I] 36)).heap.size = w.heap.size + 1 := by simp
  have HZ : Hid (((w.alloc (.cells #[.int .i64 L, .int .i64 I] 36)).alloc (.cells #[.int .i64 0, .int .i64 0] 36)).heap[w.heap.size + 1]? = some (.cells #[.int .i64 0, .int .i64 0] 36 (0, 0))) := by
    show _ = _
    rw [← s1]
    exact heap_alloc_new _ _
  have B0 : Hid (Below w.heap.size w ((w.alloc (.cells #[.int .i64 L, .int .i64 I] 36)).alloc (.cells #[.int .i64 0, .int .i64 0] 36))) := ((Below.refl _ _).alloc (Nat.le_refl _) _).alloc (by simp) _
  clear s1
  go_enter Tryd.func88, Tryd.ntmps88
  go_wp2_with fail
  refine (KN.out _).mono ?_
  rintro e w1 ⟨rfl, hb⟩
  have B1 : Hid (Below w.heap.size w w1) := over B0.out hb
  have HZ1 : Hid (w1.heap[w.heap.size + 1]? = some (.cells #[.int .i64 0, .int .i64 0] 36 (0, 0))) := (hb.block _ (Array.getElem?_eq_some_iff.1 HZ.out).1).trans HZ.out
  clear hb HZ B0
  have d1 : w1.cell? ⟨w.heap.size + 1, 0, none⟩ = some (.int .i64 0) := by rw [cell_of_row _ _ _ _ _ _ HZ1.out]; rfl
  have d2 : w1.cell? ⟨w.heap.size + 1, 1, none⟩ = some (.int .i64 0) := by rw [cell_of_row _ _ _ _ _ _ HZ1.out]; rfl
  have f1 := frozen_of_row w1 (w.heap.size + 1) 0 _ _ HZ1.out
  have f2 := frozen_of_row w1 (w.heap.size + 1) 1 _ _ HZ1.out
  have HBS : Hid (∀ x y : Value, Below w.heap.size w ((w1.setCell ⟨w.heap.size + 1, 0, none⟩ x).setCell ⟨w.heap.size + 1, 1, none⟩ y)) := fun x y => (B1.out.setCell (p := ⟨w.heap.size + 1, 0, none⟩) (by show _ ≤ w.heap.size + 1; omega) _).setCell (p := ⟨w.heap.size + 1, 1, none⟩) (by show _ ≤ w.heap.size + 1; omega) _
  have g2 : ∀ x y : Value, ((w1.setCell ⟨w.heap.size + 1, 0, none⟩ x).setCell ⟨w.heap.size + 1, 1, none⟩ y).cell? ⟨w.heap.size + 1, 1, none⟩ = some y := fun x y => by
    rw [cell_of_row _ _ _ _ _ _ (heap_setCell_same _ _ 1 _ _ y (heap_setCell_same w1 _ 0 _ _ x HZ1.out))]; rfl
  have g3 : ∀ x y : Value, ((w1.setCell ⟨w.heap.size + 1, 0, none⟩ x).setCell ⟨w.heap.size + 1, 1, none⟩ y).cell? ⟨w.heap.size + 1, 0, none⟩ = some x := fun x y => by
    rw [cell_of_row _ _ _ _ _ _ (heap_setCell_same _ _ 1 _ _ y (heap_setCell_same w1 _ 0 _ _ x HZ1.out))]; rfl
  go_wp2
  (try simp only [Exit.inBlock, Exit.then])
  refine bodyPost_ret (by simp [results, Tryd.results88, go_sem, g2, g3]; try rfl) rfl ?_
  exact ⟨rfl, HBS.out _ _⟩
theorem rightC : RightC := fun L I _ _ w => pRight L I w
end Go.Proofs.YtmmbkfagchaocaaDoor.vs

namespace Go.Proofs.YtmmbkfagchaocaaDoor.ya
open Go.RowKit Go.PlainAid
open Go.Proofs.YtmmbkfagchaocaaDoor.pl Go.Proofs.YtmmbkfagchaocaaDoor.pi Go.Proofs.YtmmbkfagchaocaaDoor.pj Go.Proofs.YtmmbkfagchaocaaDoor.rf Go.Proofs.YtmmbkfagchaocaaDoor.ca Go.Proofs.YtmmbkfagchaocaaDoor.cb Go.Proofs.YtmmbkfagchaocaaDoor.cp Go.Proofs.YtmmbkfagchaocaaDoor.cs Go.Proofs.YtmmbkfagchaocaaDoor.ka Go.Proofs.YtmmbkfagchaocaaDoor.kb Go.Proofs.YtmmbkfagchaocaaDoor.ga Go.Proofs.YtmmbkfagchaocaaDoor.gb Go.Proofs.YtmmbkfagchaocaaDoor.na Go.Proofs.YtmmbkfagchaocaaDoor.nb Go.Proofs.YtmmbkfagchaocaaDoor.nc Go.Proofs.YtmmbkfagchaocaaDoor.oa Go.Proofs.YtmmbkfagchaocaaDoor.ob
set_option linter.unusedVariables false

-- the program's run under way: its ends, its hashes, the width, its nodes
def Px (w : World) (p : Nat) (lo hi : Int) (vh : Value) (wd : Int) (vn : Value) : Prop := w.heap[p]? = some (.cells #[.int .i64 lo, .int .i64 hi, vh, .int .i64 wd, vn] 98 (0, 0))
def Nodes (w : World) (B : Nat) (v : Value) (L : List (Nat × Nat)) : Prop := w.ownsRow B 36 2 v L.length (cls L)
section
variable {w w' : World} {p : Nat} {lo hi wd : Int} {vh vn : Value}
theorem Px.lt (h : Px w p lo hi vh wd vn) : p < w.heap.size := (Array.getElem?_eq_some_iff.1 h).1
theorem Px.c0 (h : Px w p lo hi vh wd vn) : w.cell? ⟨p, 0, none⟩ = some (.int .i64 lo) := by rw [cell_of_row _ _ _ _ _ _ h]; rfl
theorem Px.c1 (h : Px w p lo hi vh wd vn) : w.cell? ⟨p, 1, none⟩ = some (.int .i64 hi) := by rw [cell_of_row _ _ _ _ _ _ h]; rfl
theorem Px.c2 (h : Px w p lo hi vh wd vn) : w.cell? ⟨p, 2, none⟩ = some vh := by rw [cell_of_row _ _ _ _ _ _ h]; rfl
theorem Px.c3 (h : Px w p lo hi vh wd vn) : w.cell? ⟨p, 3, none⟩ = some (.int .i64 wd) := by rw [cell_of_row _ _ _ _ _ _ h]; rfl
theorem Px.c4 (h : Px w p lo hi vh wd vn) : w.cell? ⟨p, 4, none⟩ = some vn := by rw [cell_of_row _ _ _ _ _ _ h]; rfl
theorem Px.set1 (h : Px w p lo hi vh wd vn) (x : Int) : Px (w.setCell ⟨p, 1, none⟩ (.int .i64 x)) p lo x vh wd vn := heap_setCell_same _ _ 1 _ _ _ h
theorem Px.set2 (h : Px w p lo hi vh wd vn) (v : Value) : Px (w.setCell ⟨p, 2, none⟩ v) p lo hi v wd vn := heap_setCell_same _ _ 2 _ _ v h
theorem Px.set4 (h : Px w p lo hi vh wd vn) (v : Value) : Px (w.setCell ⟨p, 4, none⟩ v) p lo hi vh wd v := heap_setCell_same _ _ 4 _ _ v h
theorem Px.kept {row : Option Nat} (h : Px w p lo hi vh wd vn) (hg : w.grownBy w' row) (hne : some p ≠ row) : Px w' p lo hi vh wd vn := (hg.block p h.lt hne).trans h
end
-- a block of another kind is no row
theorem far {w : World} {k B e t s n : Nat} {c : Array Value} {v : Value} {xs : List Value} (hk : w.heap[k]? = some (.cells c t (0, 0))) (ho : w.ownsRow B e s v n xs) (hne : t ≠ e) : some k ≠ v.ownBlock := by
  rcases ho.2 with ⟨rfl, _⟩ | ⟨g, cap, cur, rfl, _, hg, _⟩
  · simp [Value.ownBlock]
  · intro e'
    obtain rfl : k = g := by simpa [Value.ownBlock] using e'
    rw [hg] at hk
    simp only [Option.some.injEq, Obj.cells.injEq] at hk
    exact hne hk.2.1.symm
theorem apart {w : World} {B B' e t s s' n n' : Nat} {v v' : Value} {xs xs' : List Value} (h : w.ownsRow B t s v n xs) (h' : w.ownsRow B' e s' v' n' xs') (hne : t ≠ e) : v.ownBlock = none ∨ v.ownBlock ≠ v'.ownBlock := by
  rcases h.2 with ⟨rfl, _⟩ | ⟨g, cap, cur, rfl, _, hg, _⟩
  · exact .inl rfl
  · exact .inr (far hg h' hne)
theorem setGrown (w : World) (b o : Nat) (v : Value) : w.grownBy (w.setCell ⟨b, o, none⟩ v) (some b) :=
  ⟨rfl, rfl, rfl, (KeepsWalks.setCell w _ v).size, fun k _ hk => Below.heap_setCell _ _ _ k (fun e => hk (by rw [e]))⟩
-- blocks that are there are as they were, but for some
structure Keep (S : Nat → Prop) (w w' : World) : Prop where
  os : w'.os = w.os
  tape : w'.tape = w.tape
  output : w'.output = w.output
  size : w.heap.size ≤ w'.heap.size
  block : ∀ k, k < w.heap.size → ¬ S k → w'.heap[k]? = w.heap[k]?
theorem Keep.refl (S : Nat → Prop) (w : World) : Keep S w w := ⟨rfl, rfl, rfl, Nat.le_refl _, fun _ _ _ => rfl⟩
theorem Keep.step {S : Nat → Prop} {w w1 w2 : World} {row : Option Nat} (h : Keep S w w1) (hg : w1.grownBy w2 row) (hr : ∀ g, row = some g → S g ∨ w.heap.size ≤ g) : Keep S w w2 :=
  ⟨hg.os.trans h.os, hg.tape.trans h.tape, hg.output.trans h.output, Nat.le_trans h.size hg.size, fun k h1 h2 => (hg.block k (Nat.lt_of_lt_of_le h1 h.size) (fun e => by rcases hr k e.symm with h3 | h3; exact h2 h3; omega)).trans (h.block k h1 h2)⟩
theorem below_grown {w w' : World} (h : Below w.heap.size w w') : w.grownBy w' none := ⟨h.os, h.tape, h.output, h.size, fun k hk _ => h.block k hk⟩
-- the run with its three rows
structure Jn (we w0 w : World) (S : Nat → Prop) (p mb : Nat) (lo hi wd : Int) (fh fn vh vn vm : Value) (Hs : List ByteArray) (Ns : List (Nat × Nat)) (ms : List Md) : Prop where
  k : Keep S w0 w
  e : Below we.heap.size we w
  x : Px w p lo hi fh wd fn
  b : Boxed w mb 25 vm
  h : Texts w we.heap.size vh Hs
  n : Nodes w we.heap.size vn Ns
  m : Mades w we.heap.size vm ms
  sp : S p
  sb : S mb
  sh : ∀ g, vh.ownBlock = some g → S g ∨ w0.heap.size ≤ g
  sn : ∀ g, vn.ownBlock = some g → S g ∨ w0.heap.size ≤ g
  sm : ∀ g, vm.ownBlock = some g → S g ∨ w0.heap.size ≤ g
  ss : ∀ g, S g → we.heap.size ≤ g
section
variable {we w0 w w' : World} {S : Nat → Prop} {p mb : Nat} {lo hi wd : Int} {fh fn vh vn vm : Value} {Hs : List ByteArray} {Ns : List (Nat × Nat)} {ms : List Md}
theorem Jn.ge (J : Jn we w0 w S p mb lo hi wd fh fn vh vn vm Hs Ns ms) {row : Option Nat} (hg : w.grownBy w' row) (hr : ∀ g, row = some g → we.heap.size ≤ g) : Below we.heap.size we w' := Below.grown J.e hg J.e.size hr
theorem Jn.on (J : Jn we w0 w S p mb lo hi wd fh fn vh vn vm Hs Ns ms) (hb : Below w.heap.size w w') : Jn we w0 w' S p mb lo hi wd fh fn vh vn vm Hs Ns ms := by
  have hg := below_grown hb
  exact ⟨J.k.step hg (fun _ e => by cases e), J.ge hg (fun _ e => by cases e), J.x.kept hg (by simp), J.b.kept hg (by simp), J.h.later hb, own_later J.n hb, J.m.later hb, J.sp, J.sb, J.sh, J.sn, J.sm, J.ss⟩
theorem lands {v v' : Value} (h0 : ∀ g, v.ownBlock = some g → S g ∨ w0.heap.size ≤ g) (hk : w0.heap.size ≤ w.heap.size) (hl : v'.ownBlock = v.ownBlock ∨ ∃ g, v'.ownBlock = some g ∧ w.heap.size ≤ g) : ∀ g, v'.ownBlock = some g → S g ∨ w0.heap.size ≤ g := by
  intro g e
  rcases hl with h | ⟨g', h, h2⟩
  · exact h0 g (by rw [← h]; exact e)
  · rw [h] at e; obtain rfl := Option.some.inj e; right; omega
theorem Jn.growN {v0 v' : Value} {L : List (Nat × Nat)} (J : Jn we w0 w S p mb lo hi wd fh fn vh vn vm Hs Ns ms) (h0 : v0.ownBlock = vn.ownBlock) (hg : w.grownBy w' v0.ownBlock) (ho : Nodes w' we.heap.size v' L) (hl : v'.ownBlock = v0.ownBlock ∨ ∃ g, v'.ownBlock = some g ∧ w.heap.size ≤ g) : Jn we w0 w' S p mb lo hi wd fh fn vh v' vm Hs L ms := by
  rw [h0] at hg hl
  exact ⟨J.k.step hg J.sn, J.ge hg (fun g e => (World.ownsRow.lt J.n g e).1), J.x.kept hg (far J.x J.n (by decide)), J.b.kept hg (far J.b J.n (by decide)), World.ownsRow.kept J.h hg (apart J.h J.n (by decide)), ho, World.ownsRow.kept J.m hg (apart J.m J.n (by decide)), J.sp, J.sb, J.sh, lands J.sn J.k.size hl, J.sm, J.ss⟩
theorem Jn.growH {v0 v' : Value} {L : List ByteArray} (J : Jn we w0 w S p mb lo hi wd fh fn vh vn vm Hs Ns ms) (h0 : v0.ownBlock = vh.ownBlock) (hg : w.grownBy w' v0.ownBlock) (ho : Texts w' we.heap.size v' L) (hl : v'.ownBlock = v0.ownBlock ∨ ∃ g, v'.ownBlock = some g ∧ w.heap.size ≤ g) : Jn we w0 w' S p mb lo hi wd fh fn v' vn vm L Ns ms := by
  rw [h0] at hg hl
  exact ⟨J.k.step hg J.sh, J.ge hg (fun g e => (World.ownsRow.lt J.h g e).1), J.x.kept hg (far J.x J.h (by decide)), J.b.kept hg (far J.b J.h (by decide)), ho, World.ownsRow.kept J.n hg (apart J.n J.h (by decide)), World.ownsRow.kept J.m hg (apart J.m J.h (by decide)), J.sp, J.sb, lands J.sh J.k.size hl, J.sn, J.sm, J.ss⟩
theorem Jn.set1 (J : Jn we w0 w S p mb lo hi wd fh fn vh vn vm Hs Ns ms) (x : Int) : Jn we w0 (w.setCell ⟨p, 1, none⟩ (.int .i64 x)) S p mb lo x wd fh fn vh vn vm Hs Ns ms := by
  have hg := setGrown w p 1 (.int .i64 x)
  have own : ∀ g, some p = some g → S g ∨ w0.heap.size ≤ g := fun g e => by cases e; exact .inl J.sp
  exact ⟨J.k.step hg own, J.ge hg (fun g e => by cases e; exact J.ss p J.sp), J.x.set1 x, J.b.kept hg (fun e => by cases e; have := J.x.symm.trans J.b; simp at this), World.ownsRow.kept J.h hg (.inr (far J.x J.h (by decide)).symm), World.ownsRow.kept J.n hg (.inr (far J.x J.n (by decide)).symm), World.ownsRow.kept J.m hg (.inr (far J.x J.m (by decide)).symm), J.sp, J.sb, J.sh, J.sn, J.sm, J.ss⟩
theorem Jn.set2 (J : Jn we w0 w S p mb lo hi wd fh fn vh vn vm Hs Ns ms) (v : Value) : Jn we w0 (w.setCell ⟨p, 2, none⟩ v) S p mb lo hi wd v fn vh vn vm Hs Ns ms := by
  have hg := setGrown w p 2 v
  have own : ∀ g, some p = some g → S g ∨ w0.heap.size ≤ g := fun g e => by cases e; exact .inl J.sp
  exact ⟨J.k.step hg own, J.ge hg (fun g e => by cases e; exact J.ss p J.sp), J.x.set2 v, J.b.kept hg (fun e => by cases e; have := J.x.symm.trans J.b; simp at this), World.ownsRow.kept J.h hg (.inr (far J.x J.h (by decide)).symm), World.ownsRow.kept J.n hg (.inr (far J.x J.n (by decide)).symm), World.ownsRow.kept J.m hg (.inr (far J.x J.m (by decide)).symm), J.sp, J.sb, J.sh, J.sn, J.sm, J.ss⟩
theorem Jn.set4 (J : Jn we w0 w S p mb lo hi wd fh fn vh vn vm Hs Ns ms) (v : Value) : Jn we w0 (w.setCell ⟨p, 4, none⟩ v) S p mb lo hi wd fh v vh vn vm Hs Ns ms := by
  have hg := setGrown w p 4 v
  have own : ∀ g, some p = some g → S g ∨ w0.heap.size ≤ g := fun g e => by cases e; exact .inl J.sp
  exact ⟨J.k.step hg own, J.ge hg (fun g e => by cases e; exact J.ss p J.sp), J.x.set4 v, J.b.kept hg (fun e => by cases e; have := J.x.symm.trans J.b; simp at this), World.ownsRow.kept J.h hg (.inr (far J.x J.h (by decide)).symm), World.ownsRow.kept J.n hg (.inr (far J.x J.n (by decide)).symm), World.ownsRow.kept J.m hg (.inr (far J.x J.m (by decide)).symm), J.sp, J.sb, J.sh, J.sn, J.sm, J.ss⟩
-- the row of what became whole grows, and is put into its box
theorem Jn.whole {v' : Value} {L : List Md} (J : Jn we w0 w S p mb lo hi wd fh fn vh vn vm Hs Ns ms) (hg : w.grownBy w' vm.ownBlock) (ho : Mades w' we.heap.size v' L) (hl : v'.ownBlock = vm.ownBlock ∨ ∃ g, v'.ownBlock = some g ∧ w.heap.size ≤ g) : Boxed w' mb 25 vm ∧ Jn we w0 (w'.setCell ⟨mb, 0, none⟩ v') S p mb lo hi wd fh fn vh vn v' Hs Ns L := by
  have K1 : Keep S w0 w' := J.k.step hg J.sm
  have E1 : Below we.heap.size we w' := J.ge hg (fun g e => (World.ownsRow.lt J.m g e).1)
  have X1 := J.x.kept hg (far J.x J.m (by decide))
  have B1 := J.b.kept hg (far J.b J.m (by decide))
  have H1 : Texts w' we.heap.size vh Hs := World.ownsRow.kept J.h hg (apart J.h J.m (by decide))
  have N1 : Nodes w' we.heap.size vn Ns := World.ownsRow.kept J.n hg (apart J.n J.m (by decide))
  have hg2 := setGrown w' mb 0 v'
  have own : ∀ g, some mb = some g → S g ∨ w0.heap.size ≤ g := fun g e => by cases e; exact .inl J.sb
  exact ⟨B1, K1.step hg2 own, Below.grown E1 hg2 E1.size (fun g e => by cases e; exact J.ss mb J.sb), X1.kept hg2 (fun e => by cases e; have := X1.symm.trans B1; simp at this), B1.set v', World.ownsRow.kept H1 hg2 (.inr (far B1 H1 (by decide)).symm), World.ownsRow.kept N1 hg2 (.inr (far B1 N1 (by decide)).symm), World.ownsRow.kept ho hg2 (.inr (far B1 ho (by decide)).symm), J.sp, J.sb, J.sh, J.sn, lands J.sm J.k.size hl, J.ss⟩
end
-- rows, cut short
theorem cls_take (L : List (Nat × Nat)) (k : Nat) : cls (L.take k) = (cls L).take (k * 2) := by
  induction L generalizing k with
  | nil => simp [cls]
  | cons b L ih =>
    cases k with
    | zero => simp [cls]
    | succ k =>
      show cl b ++ cls (L.take k) = (cl b ++ cls L).take ((k + 1) * 2)
      have hl : (cl b).length = 2 := rfl
      rw [List.take_append, hl, ih, show (k + 1) * 2 - 2 = k * 2 by omega, List.take_of_length_le (l := cl b) (by rw [hl]; omega)]
theorem nodes_cut {w : World} {B g n cap : Nat} {L : List (Nat × Nat)} (h : Nodes w B (.slice (some ⟨g, 0, none⟩) n cap) L) (k : Nat) (hk : k ≤ L.length) : Nodes w B (.slice (some ⟨g, 0, none⟩) k cap) (L.take k) := by
  rcases h.2 with ⟨e, _⟩ | ⟨g', cap', cur, e, hb, hgg, hnc, hcm, hcs, htake⟩
  · cases e
  · injection e with e1 e2 e3
    injection e1 with e1
    injection e1 with e1
    subst e1 e3
    have hl : (L.take k).length = k := by rw [List.length_take]; omega
    refine ⟨by rw [cls_len], .inr ⟨g, cap, cur, by rw [hl], hb, hgg, by rw [hl]; omega, hcm, hcs, ?_⟩⟩
    rw [hl, cls_take, ← htake, List.take_take, Nat.min_eq_left (by omega)]
theorem texts_cut {w : World} {B g n cap : Nat} {L : List ByteArray} (h : Texts w B (.slice (some ⟨g, 0, none⟩) n cap) L) (k : Nat) (hk : k ≤ L.length) : Texts w B (.slice (some ⟨g, 0, none⟩) k cap) (L.take k) := by
  rcases h.2 with ⟨e, _⟩ | ⟨g', cap', cur, e, hb, hgg, hnc, hcm, hcs, htake⟩
  · cases e
  · injection e with e1 e2 e3
    injection e1 with e1
    injection e1 with e1
    subst e1 e3
    have hl : (L.take k).length = k := by rw [List.length_take]; omega
    refine ⟨by simp, .inr ⟨g, cap, cur, by rw [hl], hb, hgg, by rw [hl]; omega, hcm, hcs, ?_⟩⟩
    rw [hl, List.map_take, ← htake, List.take_take, Nat.min_eq_left (by omega), Nat.mul_one]
end Go.Proofs.YtmmbkfagchaocaaDoor.ya

namespace Go.Proofs.YtmmbkfagchaocaaDoor.yb
open Go.RowKit Go.PlainAid
open Go.Proofs.YtmmbkfagchaocaaDoor.pl Go.Proofs.YtmmbkfagchaocaaDoor.pi Go.Proofs.YtmmbkfagchaocaaDoor.pj Go.Proofs.YtmmbkfagchaocaaDoor.rf Go.Proofs.YtmmbkfagchaocaaDoor.ca Go.Proofs.YtmmbkfagchaocaaDoor.cb Go.Proofs.YtmmbkfagchaocaaDoor.cp Go.Proofs.YtmmbkfagchaocaaDoor.cs Go.Proofs.YtmmbkfagchaocaaDoor.cr Go.Proofs.YtmmbkfagchaocaaDoor.vp Go.Proofs.YtmmbkfagchaocaaDoor.vs Go.Proofs.YtmmbkfagchaocaaDoor.ka Go.Proofs.YtmmbkfagchaocaaDoor.kb Go.Proofs.YtmmbkfagchaocaaDoor.ga Go.Proofs.YtmmbkfagchaocaaDoor.gb Go.Proofs.YtmmbkfagchaocaaDoor.na Go.Proofs.YtmmbkfagchaocaaDoor.nb Go.Proofs.YtmmbkfagchaocaaDoor.nc Go.Proofs.YtmmbkfagchaocaaDoor.oa Go.Proofs.YtmmbkfagchaocaaDoor.ob Go.Proofs.YtmmbkfagchaocaaDoor.ya
set_option linter.unusedVariables false

-- a node that there may be
def okN (a : Nat × Nat) : Prop := a.1 ≤ 62 ∧ (a.2 + 1) * 2 ^ a.1 ≤ 4611686018427387904
theorem okN_lt {a : Nat × Nat} (h : okN a) : a.2 < 4611686018427387904 := by
  have := Nat.le_mul_of_pos_right (a.2 + 1) (p2 a.1)
  have := h.2
  omega
theorem okN_up {a : Nat × Nat} (h : okN a) (h1 : a.1 < 62) : okN (a.1 + 1, a.2 / 2) := ⟨by show a.1 + 1 ≤ 62; omega, up_fits h1 h.2⟩
theorem parent_at {k i : Nat} (h : okN (k, i)) (w : World) : Calls Tryd.prog 79 #[.agg #[.int .i64 k, .int .i64 i]] w fun e w' => e = .returned (if k < 62 then .tuple #[.agg #[.int .i64 ((k + 1 : Nat) : Int), .int .i64 ((i / 2 : Nat) : Int)], .int .i64 0] else .tuple #[.agg #[.int .i64 0, .int .i64 0], .int .i64 50]) ∧ Below w.heap.size w w' := by
  have hl := okN_lt h
  have hk := h.1
  simp only at hl hk
  have C := parentC k i (i64_nat (by omega)) (i64_nat (by omega)) w
  have e1 : ((k : Int) + 1) = ((k + 1 : Nat) : Int) := by omega
  have e2 : ((i : Int) / 2) = ((i / 2 : Nat) : Int) := by omega
  rw [e1, e2] at C
  by_cases hb : k < 62
  · rw [kin_yes ((okA_nat k i).2 h) ((okA_nat _ _).2 (okN_up h hb))] at C
    rw [if_pos hb]
    exact C
  · rw [kin_no (fun h2 => by have := ((okA_nat _ _).1 h2.2).1; omega)] at C
    rw [if_neg hb]
    exact C
theorem kids_ok {k i : Nat} (h : okN (k, i)) (hk : k < 62) : okN (k, 2 * (i / 2)) ∧ okN (k, 2 * (i / 2) + 1) := by
  have h1 := (okN_up h hk).2
  simp only at h1
  have e : (2 * (i / 2) + 1 + 1) * 2 ^ k ≤ 4611686018427387904 := by
    rw [p2s] at h1
    have : (i / 2 + 1) * (2 * 2 ^ k) = (2 * (i / 2) + 1 + 1) * 2 ^ k := by rw [← Nat.mul_assoc]; congr 1; omega
    rw [← this]; exact h1
  exact ⟨⟨h.1, Nat.le_trans (Nat.mul_le_mul_right _ (by omega)) e⟩, ⟨h.1, e⟩⟩
theorem left_at {k i : Nat} (h : okN (k, i)) (hk : k < 62) (w : World) : Calls Tryd.prog 87 #[.agg #[.int .i64 ((k + 1 : Nat) : Int), .int .i64 ((i / 2 : Nat) : Int)]] w fun e w' => e = .returned (.tuple #[.agg #[.int .i64 k, .int .i64 ((2 * (i / 2) : Nat) : Int)], .int .i64 0]) ∧ Below w.heap.size w w' := by
  have hl := okN_lt h
  simp only at hl
  have C := leftC ((k + 1 : Nat) : Int) ((i / 2 : Nat) : Int) (i64_nat (by omega)) (i64_nat (by omega)) w
  have e1 : (((k + 1 : Nat) : Int) - 1) = (k : Int) := by omega
  have e2 : (2 * ((i / 2 : Nat) : Int)) = ((2 * (i / 2) : Nat) : Int) := by omega
  rw [e1, e2, kin_yes ((okA_nat _ _).2 (okN_up h hk)) ((okA_nat _ _).2 (kids_ok h hk).1)] at C
  exact C
theorem right_at {k i : Nat} (h : okN (k, i)) (hk : k < 62) (w : World) : Calls Tryd.prog 88 #[.agg #[.int .i64 ((k + 1 : Nat) : Int), .int .i64 ((i / 2 : Nat) : Int)]] w fun e w' => e = .returned (.tuple #[.agg #[.int .i64 k, .int .i64 ((2 * (i / 2) + 1 : Nat) : Int)], .int .i64 0]) ∧ Below w.heap.size w w' := by
  have hl := okN_lt h
  simp only at hl
  have C := rightC ((k + 1 : Nat) : Int) ((i / 2 : Nat) : Int) (i64_nat (by omega)) (i64_nat (by omega)) w
  have e1 : (((k + 1 : Nat) : Int) - 1) = (k : Int) := by omega
  have e2 : (2 * ((i / 2 : Nat) : Int) + 1) = ((2 * (i / 2) + 1 : Nat) : Int) := by omega
  rw [e1, e2, kin_yes ((okA_nat _ _).2 (okN_up h hk)) ((okA_nat _ _).2 (kids_ok h hk).2)] at C
  exact C
-- are they the halves of one node?
set_option maxHeartbeats 1600000 in
theorem areHalves (a b : Nat × Nat) (hb : okN b) (w : World) :
    Calls Tryd.prog 78 #[ad a, ad b] w fun e w' => e = .returned (.bool (decide (halves a b))) ∧ Below w.heap.size w w' := by
  obtain ⟨ak, ai⟩ := a
  obtain ⟨k, i⟩ := b
  have PC : Hid (∀ w, Calls _ _ _ _ _) := fun w => parent_at hb w
  have LC : Hid (∀ h w, Calls _ _ _ _ _) := fun h w => left_at hb h w
  have RC : Hid (∀ h w, Calls _ _ _ _ _) := fun h w => right_at hb h w
  have X0 : Hid (Bx (w.alloc (.cells #[.int .i64 ak, .int .i64 ai] 36)) w.heap.size ak ai) := bx_new _ _ _
  have A1 := bx_new (w.alloc (.cells #[.int .i64 ak, .int .i64 ai] 36)) k i
  rw [show (w.alloc (.cells #[.int .i64 ak, .int .i64 ai] 36)).heap.size = w.heap.size + 1 by simp] at A1
  have Y0 : Hid (Bx ((w.alloc (.cells #[.int .i64 ak, .int .i64 ai] 36)).alloc (.cells #[.int .i64 k, .int .i64 i] 36)) (w.heap.size + 1) k i) := A1
  have X1 : Hid (Bx ((w.alloc (.cells #[.int .i64 ak, .int .i64 ai] 36)).alloc (.cells #[.int .i64 k, .int .i64 i] 36)) w.heap.size ak ai) := X0.out.later ((Below.refl _ _).alloc (Nat.le_refl _) _)
  have B0 : Hid (Below w.heap.size w ((w.alloc (.cells #[.int .i64 ak, .int .i64 ai] 36)).alloc (.cells #[.int .i64 k, .int .i64 i] 36))) := ((Below.refl _ _).alloc (Nat.le_refl _) _).alloc (by simp) _
  obtain ⟨y1, y2⟩ := A1
  clear X0
  unfold ad
  by_cases hk : k < 62
  · have PC : Hid (∀ w, Calls _ _ _ _ _) := fun w => by have := PC.out w; rw [if_pos hk] at this; exact this
    have LC : Hid (∀ w, Calls _ _ _ _ _) := fun w => LC.out hk w
    have RC : Hid (∀ w, Calls _ _ _ _ _) := fun w => RC.out hk w
    obtain ⟨K1, HK1⟩ : ∃ K1, Hid (k + 1 = K1) := ⟨_, rfl⟩
    obtain ⟨J1, HJ1⟩ : ∃ J1, Hid (2 * (i / 2) + 1 = J1) := ⟨_, rfl⟩
    obtain ⟨J, HJ⟩ : ∃ J, Hid (2 * (i / 2) = J) := ⟨_, rfl⟩
    obtain ⟨I2, HI2⟩ : ∃ I2, Hid (i / 2 = I2) := ⟨_, rfl⟩
    rw [HK1.out, HI2.out] at PC
    rw [HK1.out, HJ.out, HI2.out] at LC
    rw [HK1.out, HJ1.out, HI2.out] at RC
    obtain ⟨r, HR⟩ : ∃ r, Hid (decide (halves (ak, ai) (k, i)) = r) := ⟨_, rfl⟩
    rw [HR.out]
    go_enter Tryd.func78, Tryd.ntmps78
    go_wp2_with fail
    refine (PC.out _).mono ?_
    rintro e w1 ⟨rfl, hb1⟩
    have B1 : Hid (Below w.heap.size w w1) := over B0.out hb1
    have A1 : Below w1.heap.size w1 (w1.alloc (.cells #[.int .i64 (K1 : Int), .int .i64 (I2 : Int)] 36)) := (Below.refl _ _).alloc (Nat.le_refl _) _
    have X2 : Hid (Bx _ _ _ _) := (X1.out.later hb1).later A1
    have Y2 : Hid (Bx _ _ _ _) := (Y0.out.later hb1).later A1
    have P2 : Hid (Bx _ _ _ _) := bx_new w1 (K1 : Int) (I2 : Int)
    have B2 : Hid (Below w.heap.size w _) := over B1.out A1
    clear hb1 y1 y2 A1 X1 Y0 B0 B1
    obtain ⟨p1, p2⟩ := P2.out
    go_wp2_with fail
    refine (LC.out _).mono ?_
    rintro e w2 ⟨rfl, hb2⟩
    have A2 : Below w2.heap.size w2 (w2.alloc (.cells #[.int .i64 (k : Int), .int .i64 (J : Int)] 36)) := (Below.refl _ _).alloc (Nat.le_refl _) _
    have X3 : Hid (Bx _ _ _ _) := (X2.out.later hb2).later A2
    have Y3 : Hid (Bx _ _ _ _) := (Y2.out.later hb2).later A2
    have P3 : Hid (Bx _ _ _ _) := (P2.out.later hb2).later A2
    have L3 : Hid (Bx _ _ _ _) := bx_new w2 (k : Int) (J : Int)
    have B3 : Hid (Below w.heap.size w _) := over (over B2.out hb2) A2
    clear hb2 p1 p2 A2 X2 Y2 P2 B2
    obtain ⟨p1, p2⟩ := P3.out
    go_wp2_with fail
    refine (RC.out _).mono ?_
    rintro e w3 ⟨rfl, hb3⟩
    have A3 : Below w3.heap.size w3 (w3.alloc (.cells #[.int .i64 (k : Int), .int .i64 (J1 : Int)] 36)) := (Below.refl _ _).alloc (Nat.le_refl _) _
    obtain ⟨x1, x2⟩ := (X3.out.later hb3).later A3
    obtain ⟨y1, y2⟩ := (Y3.out.later hb3).later A3
    obtain ⟨l1, l2⟩ := (L3.out.later hb3).later A3
    obtain ⟨r1, r2⟩ := bx_new w3 (k : Int) (J1 : Int)
    have B4 : Hid (Below w.heap.size w _) := over (over B3.out hb3) A3
    clear hb3 p1 p2 A3 X3 Y3 P3 L3 B3 PC LC RC
    by_cases c1 : ak = k
    · by_cases c2 : ai = J
      · have q1 : ((ak : Int) == (k : Int)) = true := by rw [beq_iff_eq]; omega
        have q2 : ((ai : Int) == (J : Int)) = true := by rw [beq_iff_eq]; omega
        by_cases c3 : i = J1
        · have q3 : ((i : Int) == (J1 : Int)) = true := by rw [beq_iff_eq]; omega
          have HD : Hid (decide (halves (ak, ai) (k, i)) = true) := by
            show _ = _
            have h1 := HJ.out; have h2 := HJ1.out
            rw [decide_eq_true_iff]
            exact ⟨c1, by show ai % 2 = 0; omega, by show i = ai + 1; omega, by show ak < 62; omega⟩
          clear c1 c2 c3
          go_wp2
          go_ret
          exact ⟨by rw [← HR.out, HD.out]; rfl, B4.out⟩
        · have q3 : ((i : Int) == (J1 : Int)) = false := by rw [beq_eq_false_iff_ne]; omega
          have HD : Hid (decide (halves (ak, ai) (k, i)) = false) := by
            show _ = _
            have h1 := HJ.out; have h2 := HJ1.out
            rw [decide_eq_false_iff_not]
            rintro ⟨_, h4, h5, _⟩
            simp only at h4 h5
            omega
          clear c1 c2 c3
          go_wp2
          go_ret
          exact ⟨by rw [← HR.out, HD.out]; rfl, B4.out⟩
      · have q1 : ((ak : Int) == (k : Int)) = true := by rw [beq_iff_eq]; omega
        have q2 : ((ai : Int) == (J : Int)) = false := by rw [beq_eq_false_iff_ne]; omega
        have HD : Hid (decide (halves (ak, ai) (k, i)) = false) := by
          show _ = _
          have h1 := HJ.out; have h2 := HJ1.out
          rw [decide_eq_false_iff_not]
          rintro ⟨_, h4, h5, _⟩
          simp only at h4 h5
          omega
        clear c1 c2
        go_wp2
        go_ret
        exact ⟨by rw [← HR.out, HD.out]; rfl, B4.out⟩
    · have q1 : ((ak : Int) == (k : Int)) = false := by rw [beq_eq_false_iff_ne]; omega
      have HD : Hid (decide (halves (ak, ai) (k, i)) = false) := by
        show _ = _
        rw [decide_eq_false_iff_not]
        exact fun h => c1 h.1
      clear c1
      go_wp2
      go_ret
      exact ⟨by rw [← HR.out, HD.out]; rfl, B4.out⟩
  · have HD : Hid (decide (halves (ak, ai) (k, i)) = false) := by
      show _ = _
      rw [decide_eq_false_iff_not]
      rintro ⟨h1, _, _, h4⟩
      simp only at h1 h4
      omega
    rw [HD.out]
    go_enter Tryd.func78, Tryd.ntmps78
    go_wp2_with fail
    refine (PC.out _).mono ?_
    rintro e w1 ⟨rfl, hb1⟩
    rw [if_neg hk]
    have B1 : Hid (Below w.heap.size w w1) := over B0.out hb1
    clear hb1 y1 y2
    have B2 : Hid (Below w.heap.size w (w1.alloc (.cells #[.int .i64 0, .int .i64 0] 36))) := B1.out.alloc B1.out.size _
    go_wp2
    go_ret
    exact ⟨rfl, B2.out⟩
end Go.Proofs.YtmmbkfagchaocaaDoor.yb

namespace Go.Proofs.YtmmbkfagchaocaaDoor.yc
open Go.RowKit Go.PlainAid
open Go.Proofs.YtmmbkfagchaocaaDoor.pl Go.Proofs.YtmmbkfagchaocaaDoor.pi Go.Proofs.YtmmbkfagchaocaaDoor.pj Go.Proofs.YtmmbkfagchaocaaDoor.rf Go.Proofs.YtmmbkfagchaocaaDoor.ca Go.Proofs.YtmmbkfagchaocaaDoor.cb Go.Proofs.YtmmbkfagchaocaaDoor.cp Go.Proofs.YtmmbkfagchaocaaDoor.cs Go.Proofs.YtmmbkfagchaocaaDoor.ka Go.Proofs.YtmmbkfagchaocaaDoor.kb Go.Proofs.YtmmbkfagchaocaaDoor.ga Go.Proofs.YtmmbkfagchaocaaDoor.gb Go.Proofs.YtmmbkfagchaocaaDoor.na Go.Proofs.YtmmbkfagchaocaaDoor.nb Go.Proofs.YtmmbkfagchaocaaDoor.nc Go.Proofs.YtmmbkfagchaocaaDoor.oa Go.Proofs.YtmmbkfagchaocaaDoor.ob Go.Proofs.YtmmbkfagchaocaaDoor.ya Go.Proofs.YtmmbkfagchaocaaDoor.yb
set_option linter.unusedVariables false

theorem lies_to {w : World} {v : Value} {g n cap H : Nat} (h : v.ownBlock = some g ∨ g = H) (hH : w.heap.size ≤ H) : (Value.slice (some ⟨g, 0, none⟩) n cap).ownBlock = v.ownBlock ∨ ∃ g', (Value.slice (some ⟨g, 0, none⟩) n cap).ownBlock = some g' ∧ w.heap.size ≤ g' := by
  rcases h with h | h
  · left; rw [h]; rfl
  · right; exact ⟨g, rfl, by omega⟩
-- what became whole is told
set_option maxHeartbeats 1600000 in
theorem tell {we w0 w : World} {S : Nat → Prop} {p mb : Nat} {lo hi wd : Int} {fh fn vh vn vm : Value} {Hs : List ByteArray} {Ns : List (Nat × Nat)} {ms : List Md} (x : Md) (J : Jn we w0 w S p mb lo hi wd fh fn vh vn vm Hs Ns ms) (hms : ms.length ≤ 1000000) :
    Calls Tryd.prog 51 #[ad x.1, .string x.2, .pointer (some ⟨mb, 0, none⟩)] w fun e w' => e = .returned (.tuple #[]) ∧ ∃ vm', Jn we w0 w' S p mb lo hi wd fh fn vh vn vm' Hs Ns (ms ++ [x]) := by
  obtain ⟨i9, hi9', hz0, hz1, hz2⟩ := info_parts hiM
  have HIN : Hid (_ ∧ _ ∧ _ ∧ _) := ⟨hi9', hz0, hz1, hz2⟩
  obtain ⟨⟨L, I⟩, h⟩ := x
  have A1 : Below w.heap.size w (w.alloc (.cells #[.int .i64 L, .int .i64 I] 36)) := (Below.refl _ _).alloc (Nat.le_refl _) _
  have J1 := J.on A1
  obtain ⟨b1, b2⟩ := bx_new w (L : Int) (I : Int)
  have c1 := J1.b.cell
  have J2 : Hid _ := J1.on ((Below.refl _ _).alloc (Nat.le_refl _) (.cells #[.int .i64 L, .int .i64 I, .string h] 38))
  have NX : Hid _ := three_cells (w.alloc (.cells #[.int .i64 L, .int .i64 I] 36)) (.int .i64 L) (.int .i64 I) (.string h) 38
  rw [show (w.alloc (.cells #[.int .i64 L, .int .i64 I] 36)).heap.size = w.heap.size + 1 by simp] at NX
  obtain ⟨ua, uc, rfl⟩ := own_formS J.m
  obtain ⟨n, HN⟩ : ∃ n, Hid (ms.length = n) := ⟨_, rfl⟩
  rw [HN.out] at hms c1 J2
  have OX0 := J2.out.m
  unfold Mades at OX0
  rw [HN.out] at OX0
  have OX : Hid _ := OX0
  have SZ : Hid (we.heap.size ≤ _) := J2.out.e.size
  unfold ad
  clear J J1 A1 hi9' hz0 hz1 hz2 OX0
  go_enter Tryd.func51, Tryd.ntmps51
  go_wp2_with (at_builtin; refine wpList_append_lies _ rfl _ _ 25 rfl we.heap.size 38 i9 (.agg #[.int .i64 0, .int .i64 0, .string ByteArray.empty]) 3 32 Tryd.underlying25 HIN.out.1 HIN.out.2.1 HIN.out.2.2.1 HIN.out.2.2.2 rfl (by decide) _ n _ rfl OX.out ⟨w.heap.size + 1, 0, none⟩ 1 1 (ml ((L, I), h)) rfl rfl NX.out (one_made _) (by omega) (by unfold maxLen; omega) (by omega) SZ.out _ rfl ?_; intro g7 cap7 w7 hown7 hgrow7 hlies7 hglt7; have HM7 : Mades w7 we.heap.size (.slice (some ⟨g7, 0, none⟩) (n + 1) cap7) (ms ++ [((L, I), h)]) := (by unfold Mades; rw [List.length_append, HN.out, mls_app, mls_one]; exact hown7); have HS7 : Hid (_ ∧ _) := J2.out.whole hgrow7 HM7 (lies_to hlies7 (Nat.le_refl _)); have q1 := HS7.out.1.cell; have q2 := HS7.out.1.frozen; clear hown7 hgrow7 hlies7 hglt7 HM7)
  go_wp2
  go_returns
  exact ⟨rfl, _, HS7.out.2⟩
theorem below_dr {B : Nat} {w w' : World} (h : Below B w w') : Below B w w'.drew := below_dN h 1
-- are the last two the halves of one node?
def endH : List (Nat × Nat) → Nat × Nat → Bool
  | [], _ => false
  | c :: _, y => decide (halves c y)
theorem nodes_atA {Ns : List (Nat × Nat)} {w : World} {B g n cap : Nat} {v : Nat × Nat} {j : Nat} (h : Nodes w B (.slice (some ⟨g, 0, none⟩) n cap) Ns) (hv : Ns[j]? = some v) : w.cell? ⟨g, j * 2, none⟩ = some (.int .i64 (v.1 : Nat)) ∧ w.cell? ⟨g, j * 2 + 1, none⟩ = some (.int .i64 (v.2 : Nat)) := by
  obtain ⟨v1, v2⟩ := v
  obtain ⟨b, e, c⟩ := row_at (own_readsA h) hv
  injection e with e
  injection e with e1 _
  rw [e1]
  exact c
theorem lastA {α : Type} (rs : List α) (a y : α) : ((y :: a :: rs).reverse)[rs.length]? = some a ∧ ((y :: a :: rs).reverse)[rs.length + 1]? = some y ∧ ((y :: a :: rs).reverse).take rs.length = rs.reverse := by
  rw [List.reverse_cons, List.reverse_cons, List.append_assoc]
  refine ⟨?_, ?_, ?_⟩
  · rw [List.getElem?_append_right (by simp)]; simp
  · rw [List.getElem?_append_right (by simp)]; simp
  · rw [List.take_append_of_le_length (by simp), List.take_of_length_le (by simp)]
theorem some_block {w : World} {B e s n m cap : Nat} {a : Option Addr} {xs : List Value} (h : w.ownsRow B e s (.slice a n cap) m xs) (hm : 0 < m) : ∃ g, a = some ⟨g, 0, none⟩ := by
  rcases h.2 with ⟨_, h0⟩ | ⟨g, _, _, e, _⟩
  · omega
  · injection e with e1 _ _; exact ⟨g, e1⟩
set_option maxHeartbeats 3200000 in
theorem ends {we w0 w : World} {S : Nat → Prop} {p mb : Nat} {lo hi wd : Int} {fh vh vn vm : Value} {Hs : List ByteArray} {ms : List Md} (rs : List (Nat × Nat)) (y : Nat × Nat) (J : Jn we w0 w S p mb lo hi wd fh vn vh vn vm Hs (y :: rs).reverse ms) (hy : okN y) (hl : rs.length ≤ 1000) :
    Calls Tryd.prog 65 #[.pointer (some ⟨p, 0, none⟩)] w fun e w' => e = .returned (.bool (endH rs y)) ∧ Below w.heap.size w w' := by
  have r4 := J.x.c4
  obtain ⟨va, vc, rfl⟩ := own_formS J.n
  rw [List.length_reverse, List.length_cons] at r4 J
  cases rs with
  | nil =>
    unfold endH
    simp only [List.length_nil, Nat.zero_add] at r4
    have q1 : decide ((1 : Int) > 1) = false := by decide
    have B1 : Hid (∀ n, Below w.heap.size w (w.drewN n)) := fun n => below_dN (Below.refl _ _) n
    clear J
    go_enter Tryd.func65, Tryd.ntmps65
    go_wp2_with fail
    go_quiet (fail)
    go_wp2
    go_ret
    exact ⟨rfl, B1.out _⟩
  | cons c rs =>
    obtain ⟨m, HM⟩ : ∃ m, Hid (rs.length = m) := ⟨_, rfl⟩
    rw [List.length_cons, HM.out] at r4 J hl
    obtain ⟨g, rfl⟩ := some_block J.n (by simp)
    obtain ⟨e1, e2, _⟩ := lastA rs c y
    rw [HM.out] at e1 e2
    obtain ⟨p1, p2⟩ := nodes_atA J.n e1
    obtain ⟨q1, q2⟩ := nodes_atA J.n e2
    have C : Hid (∀ w, Calls _ _ _ _ _) := fun w => areHalves c y hy w
    rw [show endH (c :: rs) y = decide (halves c y) from rfl]
    obtain ⟨r, HR⟩ : ∃ r, Hid (decide (halves c y) = r) := ⟨_, rfl⟩
    rw [HR.out] at C ⊢
    obtain ⟨cL, cI⟩ := c
    obtain ⟨yL, yI⟩ := y
    simp only at p1 p2 q1 q2
    unfold ad at C
    obtain ⟨n, HNN⟩ : ∃ n, Hid (m + 1 + 1 = n) := ⟨_, rfl⟩
    obtain ⟨m1, HM1⟩ : ∃ m1, Hid (m + 1 = m1) := ⟨_, rfl⟩
    have wn := HNN.out
    have wm := HM1.out
    rw [HNN.out] at r4
    rw [HM1.out] at q1 q2
    have S5 : Hid (∀ w', Below w.heap.size w w' → w'.cell? ⟨p, 4, none⟩ = some (.slice (some ⟨g, 0, none⟩) n vc) ∧ w'.cell? ⟨g, m * 2, none⟩ = some (.int .i64 (cL : Nat)) ∧ w'.cell? ⟨g, m * 2 + 1, none⟩ = some (.int .i64 (cI : Nat)) ∧ w'.cell? ⟨g, m1 * 2, none⟩ = some (.int .i64 (yL : Nat)) ∧ w'.cell? ⟨g, m1 * 2 + 1, none⟩ = some (.int .i64 (yI : Nat))) := fun w' h => ⟨(h.cell (World.block_lt_of_cell? _ _ r4)).trans r4, (h.cell (World.block_lt_of_cell? _ _ p1)).trans p1, (h.cell (World.block_lt_of_cell? _ _ p2)).trans p2, (h.cell (World.block_lt_of_cell? _ _ q1)).trans q1, (h.cell (World.block_lt_of_cell? _ _ q2)).trans q2⟩
    have g1 : (1 : Int) < (n : Int) := by omega
    have g2 : IntKind.i64.wrap ((n : Int) - 2) = (m : Int) := by rw [IntKind.wrap_i64]; omega
    have g3 : IntKind.i64.wrap ((n : Int) - 1) = (m1 : Int) := by rw [IntKind.wrap_i64]; omega
    have g4 : (m : Int) < (n : Int) := by omega
    have g5 : (m1 : Int) < (n : Int) := by omega
    have g6 : (0 : Int) ≤ (m : Int) := by omega
    have g7 : (0 : Int) ≤ (m1 : Int) := by omega
    clear J hy HR p1 p2 q1 q2 e1 e2 wn wm hl
    go_enter Tryd.func65, Tryd.ntmps65
    go_wp2_with fail
    go_region_held3 (fun w' => w'.cell? ⟨p, 4, none⟩ = some (.slice (some ⟨g, 0, none⟩) n vc) ∧ w'.cell? ⟨g, m * 2, none⟩ = some (.int .i64 (cL : Nat)) ∧ w'.cell? ⟨g, m * 2 + 1, none⟩ = some (.int .i64 (cI : Nat)) ∧ w'.cell? ⟨g, m1 * 2, none⟩ = some (.int .i64 (yL : Nat)) ∧ w'.cell? ⟨g, m1 * 2 + 1, none⟩ = some (.int .i64 (yI : Nat))) (first | exact S5.out _ (below_dN (Below.refl _ _) 1) | exact S5.out _ HB1.out) ((go_at_call 78; refine (C.out _).mono ?_; rintro e w1 ⟨rfl, hb1⟩; have HB1 : Hid (Below w.heap.size w w1) := over (below_dr (Below.refl w.heap.size w)) hb1; clear hb1))
    all_goals
      go_wp2
      go_ret
      exact ⟨rfl, HB1.out⟩
end Go.Proofs.YtmmbkfagchaocaaDoor.yc

namespace Go.Proofs.YtmmbkfagchaocaaDoor.za
set_option linter.unusedVariables false

section
variable {P : Program} {ops : Array Oper} {Q : Exit → Act → World → Prop} {md : Region.Mode} {k : Nat} {S : World → Prop}

-- whatever order is picked: S holds till operation k (a store that waits for the loads) comes up
def Till (P : Program) (md : Region.Mode) (ops : Array Oper) (Q : Exit → Act → World → Prop) (k : Nat) (S : World → Prop) : Nat → Array Bool → Act → World → Prop
  | 0, listed, a, w => Region.ready md ops listed = [] ∧ Q .normal a w
  | fuel + 1, listed, a, w =>
    (Region.ready md ops listed = [] → Q .normal a w) ∧
    ∀ i ∈ Region.ready md ops listed, wpOp P ops Q i (fun a' w' => ((listed.setIfInBounds i true).getD k true = false → S w') ∧ Till P md ops Q k S fuel (listed.setIfInBounds i true) a' w') a w
theorem till_any : ∀ (fuel : Nat) (listed : Array Bool) (a : Act) (w : World), Till P md ops Q k S fuel listed a w → wpAny P md ops Q fuel listed a w
  | 0, _, _, _, h => h
  | fuel + 1, _, _, _, h => ⟨h.1, fun i hi => wpOp_mono (fun a' w' h' => till_any fuel _ a' w' h'.2) (h.2 i hi)⟩
-- what may come up now and yields in every world that meets S may be taken first, where k waits for it; what yields in whatever world too
theorem till_first {i : Nat} {oi : Oper} {v : Value} (c : Bool) (hi : ops[i]? = some oi) (hsel : ∀ (j : Nat) (o : Oper) cs b, ops[j]? = some o → o.op ≠ .select cs b)
    (hQ : ∀ c a w, Q (.panic c) (a.put oi.dst v) w → Q (.panic c) a w) (hik : i ≠ k) (hw : c = true → Region.waitsFor md ops k i = true) :
    ∀ (fuel : Nat) (listed : Array Bool) (a : Act) (w : World),
      (∀ j oj, ops[j]? = some oj → j ≠ i → listed.getD j true = false → (∀ e ∈ oj.after, Region.binds md e = true → e.on ≠ i) → oi.apart ops oj = true) →
      i ∈ Region.ready md ops listed → YieldsIf P ops (fun w => c = true → S w) oi v a → (c = true → listed.getD k true = false) → (listed.getD k true = false → S w) →
      Till P md ops Q k S fuel (listed.setIfInBounds i true) (a.put oi.dst v) w → Till P md ops Q k S (fuel + 1) listed a w := by
  have same : ∀ listed : Array Bool, (listed.setIfInBounds i true).getD k true = listed.getD k true := fun l => getD_set_ne true hik
  intro fuel
  induction fuel with
  | zero =>
    intro listed a w hfree hr hy hk hS H
    refine ⟨fun h => (by rw [h] at hr; cases hr), fun j hj => ?_⟩
    by_cases hji : j = i
    · subst hji
      exact hy.wpOp hi (fun hc => hS (hk hc)) ⟨fun h => hS ((same listed).symm.trans h), H⟩
    · have := ready_mono hj hji
      rw [H.1] at this
      cases this
  | succ fuel ih =>
    intro listed a w hfree hr hy hk hS H
    refine ⟨fun h => (by rw [h] at hr; cases hr), fun j hj => ?_⟩
    by_cases hji : j = i
    · subst hji
      exact hy.wpOp hi (fun hc => hS (hk hc)) ⟨fun h => hS ((same listed).symm.trans h), H⟩
    · have h1 := H.2 j (ready_mono hj hji)
      obtain ⟨hjun, oj, hoj, hall⟩ := mem_ready.1 hj
      have hlate : ∀ e ∈ oj.after, Region.binds md e = true → e.on ≠ i := by
        intro e he hb heq
        have g1 := hall e he hb
        have g0 := (mem_ready.1 hr).1
        rw [heq] at g1
        rw [getD_both g0] at g1
        cases g1
      have hjk : c = true → j ≠ k := by
        rintro hc rfl
        obtain ⟨o', ho', e, he, hb, hon⟩ := Region.waitsFor_spec (hw hc)
        rw [hoj] at ho'
        obtain rfl := Option.some.inj ho'
        exact hlate e he hb hon
      have hfree' : ∀ n on, ops[n]? = some on → n ≠ i → (listed.setIfInBounds j true).getD n true = false → (∀ e ∈ on.after, Region.binds md e = true → e.on ≠ i) → oi.apart ops on = true := by
        intro n on hn hni hun hno
        refine hfree n on hn hni ?_ hno
        by_cases hjn : j = n
        · subst hjn; exact hjun
        · rw [getD_set_ne true hjn] at hun; exact hun
      have h2 := wpOp_putIf hoj (hfree j oj hoj hji hjun hlate) (fun cs b => hsel i oi cs b hi) (fun cs b => hsel j oj cs b hoj) hQ hy h1
      refine wpOp_mono (fun a' w' h3 => ?_) h2
      have hc : (listed.setIfInBounds i true).setIfInBounds j true = (listed.setIfInBounds j true).setIfInBounds i true := by rw [Array.setIfInBounds_comm _ _ hji]
      have hS' : (listed.setIfInBounds j true).getD k true = false → S w' := by
        intro h
        refine h3.2.1 ?_
        rw [hc, same]
        exact h
      refine ⟨hS', ih _ a' w' hfree' (ready_mono hr (Ne.symm hji)) h3.1 (fun h => by rw [getD_set_ne true (hjk h)]; exact hk h) hS' ?_⟩
      rw [← hc]
      exact h3.2.2
-- the moves of a walk
theorem till_load {i : Nat} {v : Value} {fuel : Nat} {listed : Array Bool} {a : Act} {w : World} (oi : Oper) (hi : ops[i]? = some oi) (hs : Region.noSelect ops = true) (hf : Region.free md ops listed i = true) (hr : (Region.ready md ops listed).contains i = true)
    (hQ : ∀ c a w, Q (.panic c) (a.put oi.dst v) w → Q (.panic c) a w) (hik : i ≠ k) (hw : Region.waitsFor md ops k i = true) (hk : listed.getD k true = false) (hg : oi.guard = none) (hS : S w)
    (hy : ∀ w, S w → (execOp a.eval oi).run P w = .ok (.value v) w) (h : Till P md ops Q k S fuel (listed.setIfInBounds i true) (a.put oi.dst v) w) : Till P md ops Q k S (fuel + 1) listed a w :=
  till_first true hi (Region.noSelect_spec hs) hQ hik (fun _ => hw) fuel listed a w (Region.free_spec hi hf) (by simpa using hr) (Or.inl ⟨by simp [Region.wanted, hg], fun w hw => hy w (hw rfl)⟩) (fun _ => hk) (fun _ => hS) h
theorem till_any_world {i : Nat} {v : Value} {fuel : Nat} {listed : Array Bool} {a : Act} {w : World} (oi : Oper) (hi : ops[i]? = some oi) (hs : Region.noSelect ops = true) (hf : Region.free md ops listed i = true) (hr : (Region.ready md ops listed).contains i = true)
    (hQ : ∀ c a w, Q (.panic c) (a.put oi.dst v) w → Q (.panic c) a w) (hik : i ≠ k) (hg : oi.guard = none) (hS : listed.getD k true = false → S w)
    (hy : ∀ w, (execOp a.eval oi).run P w = .ok (.value v) w) (h : Till P md ops Q k S fuel (listed.setIfInBounds i true) (a.put oi.dst v) w) : Till P md ops Q k S (fuel + 1) listed a w :=
  till_first false hi (Region.noSelect_spec hs) hQ hik (fun h => by cases h) fuel listed a w (Region.free_spec hi hf) (by simpa using hr) (Or.inl ⟨by simp [Region.wanted, hg], fun w _ => hy w⟩) (fun h => by cases h) hS h
def Each (P : Program) (md : Region.Mode) (ops : Array Oper) (Q : Exit → Act → World → Prop) (k : Nat) (S : World → Prop) (fuel : Nat) (listed : Array Bool) (a : Act) (w : World) (rs : List Nat) : Prop :=
  ∀ i ∈ rs, wpOp P ops Q i (fun a' w' => ((listed.setIfInBounds i true).getD k true = false → S w') ∧ Till P md ops Q k S fuel (listed.setIfInBounds i true) a' w') a w
theorem till_each {rs : List Nat} {fuel : Nat} {listed : Array Bool} {a : Act} {w : World} (hr : Region.ready md ops listed = rs) (hne : rs ≠ []) (h : Each P md ops Q k S fuel listed a w rs) : Till P md ops Q k S (fuel + 1) listed a w :=
  ⟨fun h0 => absurd (hr ▸ h0) hne, hr ▸ h⟩
theorem each_nil {fuel : Nat} {listed : Array Bool} {a : Act} {w : World} : Each P md ops Q k S fuel listed a w [] := fun _ h => by cases h
theorem each_cons {fuel : Nat} {listed : Array Bool} {a : Act} {w : World} {i : Nat} {rs : List Nat} (o : Oper) (ho : ops[i]? = some o)
    (h : ∀ K' : Act → World → Prop, Shut (∀ a w, ((listed.setIfInBounds i true).getD k true = false → S w) → Till P md ops Q k S fuel (listed.setIfInBounds i true) a w → K' a w) → if Region.wanted o (yielded ops a.tmps) = true then Oper.wp P o a w K' Q else K' (a.put o.dst undef) w)
    (hs : Each P md ops Q k S fuel listed a w rs) : Each P md ops Q k S fuel listed a w (i :: rs) := fun j hj => by
  rcases List.mem_cons.1 hj with rfl | hj
  · exact wpOp_step ho (fun K' hK => h K' (fun a w h1 h2 => hK a w ⟨h1, h2⟩))
  · exact hs j hj
theorem till_done {fuel : Nat} {listed : Array Bool} {a : Act} {w : World} (hr : Region.ready md ops listed = []) (h : Q .normal a w) : Till P md ops Q k S fuel listed a w := by
  cases fuel with
  | zero => exact ⟨hr, h⟩
  | succ n => exact ⟨fun _ => h, by rw [hr]; simp⟩
theorem till_start {id : Nat} {a : Act} {w : World} (k : Nat) (S : World → Prop) (hm : P.follows .mixedOrders = true) (h : Till P .any ops Q k S ops.size (Array.replicate ops.size false) a w.drew) : (Code.region id ops true).wp P Q a w :=
  wp_region_any hm (till_any _ _ _ _ h)
end
end Go.Proofs.YtmmbkfagchaocaaDoor.za

namespace Go.Proofs.YtmmbkfagchaocaaDoor.yd
open Go.RowKit Go.PlainAid
open Go.Proofs.YtmmbkfagchaocaaDoor.pl Go.Proofs.YtmmbkfagchaocaaDoor.pi Go.Proofs.YtmmbkfagchaocaaDoor.pj Go.Proofs.YtmmbkfagchaocaaDoor.rf Go.Proofs.YtmmbkfagchaocaaDoor.ca Go.Proofs.YtmmbkfagchaocaaDoor.cb Go.Proofs.YtmmbkfagchaocaaDoor.cp Go.Proofs.YtmmbkfagchaocaaDoor.cs Go.Proofs.YtmmbkfagchaocaaDoor.cu Go.Proofs.YtmmbkfagchaocaaDoor.va Go.Proofs.YtmmbkfagchaocaaDoor.ka Go.Proofs.YtmmbkfagchaocaaDoor.kb Go.Proofs.YtmmbkfagchaocaaDoor.kc Go.Proofs.YtmmbkfagchaocaaDoor.ga Go.Proofs.YtmmbkfagchaocaaDoor.gb Go.Proofs.YtmmbkfagchaocaaDoor.na Go.Proofs.YtmmbkfagchaocaaDoor.nb Go.Proofs.YtmmbkfagchaocaaDoor.nc Go.Proofs.YtmmbkfagchaocaaDoor.oa Go.Proofs.YtmmbkfagchaocaaDoor.ob Go.Proofs.YtmmbkfagchaocaaDoor.ya Go.Proofs.YtmmbkfagchaocaaDoor.yb Go.Proofs.YtmmbkfagchaocaaDoor.yc
set_option linter.unusedVariables false

abbrev TellV (mb : Nat) : Value := .func (.func 51) #[] #[.pointer (some ⟨mb, 0, none⟩)]
-- the run, and a node's box beside it
structure Jb (we w0 w : World) (S : Nat → Prop) (p mb : Nat) (lo hi wd : Int) (fh fn vh vn vm : Value) (Hs : List ByteArray) (Ns : List (Nat × Nat)) (ms : List Md) (b L I r L' I' : Nat) : Prop where
  j : Jn we w0 w S p mb lo hi wd fh fn vh vn vm Hs Ns ms
  b : w.heap[b]? = some (.cells #[.int .i64 L, .int .i64 I] 36 (0, 0))
  r : w.heap[r]? = some (.cells #[.int .i64 L', .int .i64 I'] 36 (0, 0))
section
variable {we w0 w w' : World} {S : Nat → Prop} {p mb b L I r L' I' : Nat} {lo hi wd : Int} {fh fn vh vn vm : Value} {Hs : List ByteArray} {Ns : List (Nat × Nat)} {ms : List Md}
theorem Jb.lt (J : Jb we w0 w S p mb lo hi wd fh fn vh vn vm Hs Ns ms b L I r L' I') : b < w.heap.size := (Array.getElem?_eq_some_iff.1 J.b).1
theorem Jb.ltr (J : Jb we w0 w S p mb lo hi wd fh fn vh vn vm Hs Ns ms b L I r L' I') : r < w.heap.size := (Array.getElem?_eq_some_iff.1 J.r).1
theorem Jb.on (J : Jb we w0 w S p mb lo hi wd fh fn vh vn vm Hs Ns ms b L I r L' I') (hb : Below w.heap.size w w') : Jb we w0 w' S p mb lo hi wd fh fn vh vn vm Hs Ns ms b L I r L' I' := ⟨J.j.on hb, (hb.block _ J.lt).trans J.b, (hb.block _ J.ltr).trans J.r⟩
theorem Jb.growN {v0 v' : Value} {M : List (Nat × Nat)} (J : Jb we w0 w S p mb lo hi wd fh fn vh vn vm Hs Ns ms b L I r L' I') (h0 : v0.ownBlock = vn.ownBlock) (hne : some b ≠ v0.ownBlock ∧ some r ≠ v0.ownBlock) (hg : w.grownBy w' v0.ownBlock) (ho : Nodes w' we.heap.size v' M) (hl : v'.ownBlock = v0.ownBlock ∨ ∃ g, v'.ownBlock = some g ∧ w.heap.size ≤ g) : Jb we w0 w' S p mb lo hi wd fh fn vh v' vm Hs M ms b L I r L' I' :=
  ⟨J.j.growN h0 hg ho hl, (hg.block b J.lt hne.1).trans J.b, (hg.block r J.ltr hne.2).trans J.r⟩
theorem Jb.growH {v0 v' : Value} {M : List ByteArray} (J : Jb we w0 w S p mb lo hi wd fh fn vh vn vm Hs Ns ms b L I r L' I') (h0 : v0.ownBlock = vh.ownBlock) (hne : some b ≠ v0.ownBlock ∧ some r ≠ v0.ownBlock) (hg : w.grownBy w' v0.ownBlock) (ho : Texts w' we.heap.size v' M) (hl : v'.ownBlock = v0.ownBlock ∨ ∃ g, v'.ownBlock = some g ∧ w.heap.size ≤ g) : Jb we w0 w' S p mb lo hi wd fh fn v' vn vm M Ns ms b L I r L' I' :=
  ⟨J.j.growH h0 hg ho hl, (hg.block b J.lt hne.1).trans J.b, (hg.block r J.ltr hne.2).trans J.r⟩
theorem Jb.two (J : Jb we w0 w S p mb lo hi wd fh fn vh vn vm Hs Ns ms b L I r L' I') : w.cell? ⟨b, 0, none⟩ = some (.int .i64 L) ∧ w.cell? ⟨b, 1, none⟩ = some (.int .i64 I) := ⟨by rw [cell_of_row _ _ _ _ _ _ J.b]; rfl, by rw [cell_of_row _ _ _ _ _ _ J.b]; rfl⟩
theorem Jb.apart (J : Jb we w0 w S p mb lo hi wd fh fn vh vn vm Hs Ns ms b L I r L' I') : b ≠ p := fun e => by have h := J.b; rw [e] at h; have := h.symm.trans J.j.x; simp at this
theorem Jb.apartr (J : Jb we w0 w S p mb lo hi wd fh fn vh vn vm Hs Ns ms b L I r L' I') : r ≠ p := fun e => by have h := J.r; rw [e] at h; have := h.symm.trans J.j.x; simp at this
end
theorem one_cl (a : Nat × Nat) : ∀ u ∈ cl a, u.oneCell' = true := by
  intro u hu
  simp only [cl, List.mem_cons, List.not_mem_nil, or_false] at hu
  rcases hu with rfl | rfl <;> rfl
theorem cls_one (a : Nat × Nat) : cls [a] = cl a := by show cl a ++ [] = _; rw [List.append_nil]
theorem Jb.set24 {we w0 w : World} {S : Nat → Prop} {p mb b L I r L' I' : Nat} {lo hi wd : Int} {fh fn vh vn vm : Value} {Hs : List ByteArray} {Ns : List (Nat × Nat)} {ms : List Md} (J : Jb we w0 w S p mb lo hi wd fh fn vh vn vm Hs Ns ms b L I r L' I') (x y : Value) : Jb we w0 ((w.setCell ⟨p, 4, none⟩ x).setCell ⟨p, 2, none⟩ y) S p mb lo hi wd y x vh vn vm Hs Ns ms b L I r L' I' :=
  ⟨(J.j.set4 x).set2 y, ((Below.heap_setCell _ _ _ _ J.apart).trans (Below.heap_setCell _ _ _ _ J.apart)).trans J.b, ((Below.heap_setCell _ _ _ _ J.apartr).trans (Below.heap_setCell _ _ _ _ J.apartr)).trans J.r⟩
theorem hiS : (Tryd.prog.info? 9).map (fun i => (i.zero, i.size, i.bytes)) = some (some (.string ByteArray.empty), 1, 16) := by kernel_rfl
theorem one_str (h : ByteArray) : ∀ u ∈ [Value.string h], u.oneCell' = true := by intro u hu; simp at hu; subst hu; rfl
-- what lies in a block that was made
theorem news2 {W : World} {k : Nat} {x y : Value} {t : TypeId} (h : W.heap[k]? = some (.cells #[x, y] t (0, 0))) : ∀ (j : Nat) (u : Value), [x, y][j]? = some u → W.cell? (Addr.add ⟨k, 0, none⟩ j) = some u := by
  intro j u hu
  rw [show (Addr.add ⟨k, 0, none⟩ j) = ⟨k, j, none⟩ by cases j <;> simp [Addr.add], cell_of_row _ _ _ _ _ _ h]
  simpa using hu
theorem news1 {W : World} {k : Nat} {x : Value} {t : TypeId} (h : W.heap[k]? = some (.cells #[x] t (0, 0))) : ∀ (j : Nat) (u : Value), [x][j]? = some u → W.cell? (Addr.add ⟨k, 0, none⟩ j) = some u := by
  intro j u hu
  rw [show (Addr.add ⟨k, 0, none⟩ j) = ⟨k, j, none⟩ by cases j <;> simp [Addr.add], cell_of_row _ _ _ _ _ _ h]
  simpa using hu
theorem made0 (W : World) (o : Obj) : (W.alloc o).drew.heap[W.heap.size]? = some o := heap_alloc_new W o
theorem made0' (W : World) (o o' : Obj) : ((W.alloc o).alloc o').drew.heap[W.heap.size]? = some o := (Below.heap_alloc _ _ _ (by simp)).trans (heap_alloc_new W o)
theorem made1 (W : World) (o o' : Obj) : ((W.alloc o).alloc o').drew.heap[W.heap.size + 1]? = some o' := by
  have := heap_alloc_new (W.alloc o) o'
  rw [show (W.alloc o).heap.size = W.heap.size + 1 by simp] at this
  exact this
theorem lies_ne {v : Value} {g n cap r H : Nat} (h : v.ownBlock = some g ∨ g = H) (h0 : some r ≠ v.ownBlock) (hr : r < H) : some r ≠ (Value.slice (some ⟨g, 0, none⟩) n cap).ownBlock := by
  intro e
  have e : r = g := Option.some.inj e
  rcases h with h | h
  · rw [h, e] at h0; exact h0 rfl
  · omega
theorem Jn.side {we w0 w : World} {S : Nat → Prop} {p mb k o : Nat} {lo hi wd : Int} {fh fn vh vn vm : Value} {Hs : List ByteArray} {Ns : List (Nat × Nat)} {ms : List Md} {c : Array Value} (J : Jn we w0 w S p mb lo hi wd fh fn vh vn vm Hs Ns ms) (h : w.heap[k]? = some (.cells c 36 (0, 0))) (hv : some k ≠ vn.ownBlock) (hk : w0.heap.size ≤ k) (he : we.heap.size ≤ k) (x : Value) : Jn we w0 (w.setCell ⟨k, o, none⟩ x) S p mb lo hi wd fh fn vh vn vm Hs Ns ms := by
  have hg := setGrown w k o x
  exact ⟨J.k.step hg (fun g e => by cases e; exact .inr hk), J.ge hg (fun g e => by cases e; exact he), J.x.kept hg (fun e => by cases e; have := J.x.symm.trans h; simp at this), J.b.kept hg (fun e => by cases e; have := (show w.heap[mb]? = _ from J.b).symm.trans h; simp at this), World.ownsRow.kept J.h hg (.inr (far h J.h (by decide)).symm), World.ownsRow.kept J.n hg (.inr hv.symm), World.ownsRow.kept J.m hg (.inr (far h J.m (by decide)).symm), J.sp, J.sb, J.sh, J.sn, J.sm, J.ss⟩
theorem late {X : Bool} {A : Prop} (h : X = true) (h' : X = false) : A := by rw [h] at h'; cases h'
theorem texts_atA {Hs : List ByteArray} {w : World} {B g n cap : Nat} {v : ByteArray} {j : Nat} (h : Texts w B (.slice (some ⟨g, 0, none⟩) n cap) Hs) (hv : Hs[j]? = some v) : w.cell? ⟨g, j, none⟩ = some (.string v) := by
  have hj := (List.getElem?_eq_some_iff.1 hv).1
  have hlen : Hs.length = n := by
    rcases h.2 with ⟨e, _⟩ | ⟨g', cap', cur, e, _⟩
    · cases e
    · injection e with _ e2 _; exact e2.symm
  unfold Texts at h
  rw [hlen] at h
  refine (h.cellAt j (by omega)).trans ?_
  rw [List.getElem?_map, hv]
  rfl
set_option maxHeartbeats 6400000 in
set_option maxRecDepth 100000 in
theorem joinH {we w0 w : World} {S : Nat → Prop} {p mb : Nat} {lo hi wd : Int} {vh vn vm : Value} {ms : List Md} (rs : List Md) (c y : Md) (hT : Tab we) (J : Jn we w0 w S p mb lo hi wd vh vn vh vn vm ((y :: c :: rs).reverse.map Prod.snd) ((y :: c :: rs).reverse.map Prod.fst) ms) (hy : okN y.1) (hh : halves c.1 y.1) (hs : c.2.size ≤ 32 ∧ y.2.size ≤ 32) (hl : rs.length ≤ 1000) :
    Calls Tryd.prog 66 #[.pointer (some ⟨p, 0, none⟩)] w fun e w' => e = .returned (.tuple #[ad (upN (NF wd) c y).1, .string (upN (NF wd) c y).2]) ∧ ∃ vh' vn', Jn we w0 w' S p mb lo hi wd vh' vn' vh' vn' vm ((upN (NF wd) c y :: rs).reverse.map Prod.snd) ((upN (NF wd) c y :: rs).reverse.map Prod.fst) ms := by
  obtain ⟨iA, hiA', hz0, hz1, hz2⟩ := info_parts hiA
  have HIA : Hid (_ ∧ _ ∧ _ ∧ _) := ⟨hiA', hz0, hz1, hz2⟩
  obtain ⟨iS, hiS', hy0, hy1, hy2⟩ := info_parts hiS
  have HIS : Hid (_ ∧ _ ∧ _ ∧ _) := ⟨hiS', hy0, hy1, hy2⟩
  obtain ⟨⟨cL, cI⟩, ch⟩ := c
  obtain ⟨⟨yL, yI⟩, yh⟩ := y
  obtain ⟨h1, h2, h3, h4⟩ := hh
  simp only at h1 h2 h3 h4 hs hy
  have hyl := okN_lt hy
  simp only at hyl
  -- the node above
  have PC : Hid (∀ w, Calls _ _ _ _ _) := fun w => by have := parent_at hy w; rw [if_pos (by omega)] at this; exact this
  obtain ⟨L, HL⟩ : ∃ L, Hid (yL + 1 = L) := ⟨_, rfl⟩
  obtain ⟨I, HI⟩ : ∃ I, Hid (yI / 2 = I) := ⟨_, rfl⟩
  rw [HL.out, HI.out] at PC
  obtain ⟨h, HH⟩ : ∃ h, Hid (NF wd ch yh = h) := ⟨_, rfl⟩
  have NC : Hid (∀ w, Tab w → Calls _ _ _ _ _) := fun w T => pNode wd ch yh (by omega) w T
  rw [HH.out] at NC
  have EU : Hid (upN (NF wd) ((cL, cI), ch) ((yL, yI), yh) = ((L, I), h)) := by
    show ((cL + 1, cI / 2), NF wd ch yh) = _
    rw [HH.out, ← HL.out, ← HI.out, show cL + 1 = yL + 1 by omega, show cI / 2 = yI / 2 by omega]
  rw [EU.out]
  -- the rows
  obtain ⟨Ns, HNs⟩ : ∃ Ns, Hid ((rs.reverse.map Prod.fst) = Ns) := ⟨_, rfl⟩
  obtain ⟨Hs, HHs⟩ : ∃ Hs, Hid ((rs.reverse.map Prod.snd) = Hs) := ⟨_, rfl⟩
  obtain ⟨n, HN⟩ : ∃ n, Hid (rs.length = n) := ⟨_, rfl⟩
  have EN : (List.map Prod.fst (((yL, yI), yh) :: ((cL, cI), ch) :: rs).reverse) = Ns ++ [(cL, cI), (yL, yI)] := by rw [← HNs.out]; simp
  have EH : (List.map Prod.snd (((yL, yI), yh) :: ((cL, cI), ch) :: rs).reverse) = Hs ++ [ch, yh] := by rw [← HHs.out]; simp
  have EN' : (List.map Prod.fst (((L, I), h) :: rs).reverse) = Ns ++ [(L, I)] := by rw [← HNs.out]; simp
  have EH' : (List.map Prod.snd (((L, I), h) :: rs).reverse) = Hs ++ [h] := by rw [← HHs.out]; simp
  have lN : Ns.length = n := by rw [← HNs.out, ← HN.out]; simp
  have lH : Hs.length = n := by rw [← HHs.out, ← HN.out]; simp
  rw [EN, EH] at J
  rw [EN', EH']
  rw [HN.out] at hl
  obtain ⟨va, vc, rfl⟩ := own_formS J.n
  obtain ⟨ha, hc, rfl⟩ := own_formS J.h
  obtain ⟨gn, rfl⟩ := some_block J.n (by simp)
  obtain ⟨gh, rfl⟩ := some_block J.h (by simp)
  obtain ⟨N, HNN⟩ : ∃ N, Hid (n + 2 = N) := ⟨_, rfl⟩
  obtain ⟨m1, HM1⟩ : ∃ m1, Hid (n + 1 = m1) := ⟨_, rfl⟩
  rw [show (Ns ++ [(cL, cI), (yL, yI)]).length = N by rw [← HNN.out, ← lN]; simp, show (Hs ++ [ch, yh]).length = N by rw [← HNN.out, ← lH]; simp] at J
  obtain ⟨yc1, yc2⟩ := nodes_atA (v := (yL, yI)) (j := m1) J.n (by rw [← HM1.out, ← lN]; simp)
  have hc1 := texts_atA (v := ch) (j := n) J.h (by rw [← lH]; simp)
  have hc2 := texts_atA (v := yh) (j := m1) J.h (by rw [← HM1.out, ← lH]; simp)
  have hcapN : N ≤ vc := by rcases J.n.2 with ⟨e, _⟩ | ⟨g', cap', cur, e, _, _, h5, _⟩; cases e; injection e with _ e2 e3; rw [← e2, ← e3] at h5; exact h5
  have hcapH : N ≤ hc := by rcases J.h.2 with ⟨e, _⟩ | ⟨g', cap', cur, e, _, _, h5, _⟩; cases e; injection e with _ e2 e3; rw [← e2, ← e3] at h5; exact h5
  have r4 := J.x.c4
  have wn := HNN.out
  have wm := HM1.out
  have a1 : IntKind.i64.wrap ((N : Int) - 1) = (m1 : Int) := by rw [IntKind.wrap_i64]; omega
  have a2 : IntKind.i64.wrap ((m1 : Int) - 1) = (n : Int) := by rw [IntKind.wrap_i64]; omega
  have a3 : (m1 : Int) < (N : Int) := by omega
  have a4 : (n : Int) < (N : Int) := by omega
  have a5 : (0 : Int) ≤ (m1 : Int) := by omega
  have a6 : (0 : Int) ≤ (n : Int) := by omega
  have a7 : (n : Int) ≤ (vc : Int) := by omega
  have a8 : (n : Int) ≤ (hc : Int) := by omega
  have a9 : n ≤ vc := by omega
  have a10 : n ≤ hc := by omega
  have A1 : Below w.heap.size w (w.alloc (.cells #[.int .i64 0, .int .i64 0] 36)) := (Below.refl _ _).alloc (Nat.le_refl _) _
  have J1 : Hid _ := J.on A1
  have R1 : Hid ((w.alloc (.cells #[.int .i64 0, .int .i64 0] 36)).heap[w.heap.size]? = some (.cells #[.int .i64 0, .int .i64 0] 36 (0, 0))) := heap_alloc_new _ _
  have NBN1 : some w.heap.size ≠ (Value.slice (some ⟨gn, 0, none⟩) N vc).ownBlock := fun e => by have := (World.ownsRow.lt J.n _ e.symm).2; omega
  have NBH1 : some w.heap.size ≠ (Value.slice (some ⟨gh, 0, none⟩) N hc).ownBlock := fun e => by have := (World.ownsRow.lt J.h _ e.symm).2; omega
  have r4' := J1.out.x.c4
  have HT : Hid (Tab we) := hT
  have b1 := (A1.cell (World.block_lt_of_cell? _ _ yc1)).trans yc1
  have b2 := (A1.cell (World.block_lt_of_cell? _ _ yc2)).trans yc2
  have CH : Hid (∀ W, Below w.heap.size w W → W.cell? ⟨p, 3, none⟩ = some (.int .i64 wd) ∧ W.cell? ⟨p, 2, none⟩ = some (.slice (some ⟨gh, 0, none⟩) N hc) ∧ W.cell? ⟨gh, n, none⟩ = some (.string ch) ∧ W.cell? ⟨gh, m1, none⟩ = some (.string yh)) := fun W hW => ⟨(J.on hW).x.c3, (J.on hW).x.c2, (hW.cell (World.block_lt_of_cell? _ _ hc1)).trans hc1, (hW.cell (World.block_lt_of_cell? _ _ hc2)).trans hc2⟩
  have HA1 : Hid (Below w.heap.size w _) := A1
  have HJ0 : Hid (Jn _ _ _ _ _ _ _ _ _ _ _ _ _ _ _ _ _) := J
  obtain ⟨rr, hrr⟩ : ∃ rr, w.heap.size = rr := ⟨_, rfl⟩
  clear wn wm EN EH EN' EH' J hT hy h1 h2 h3 h4 hs hyl yc1 yc2 hc1 hc2 hiA' hz0 hz1 hz2 hiS' hy0 hy1 hy2 hcapN hcapH A1 r4
  go_enter Tryd.func66, Tryd.ntmps66
  go_wp2_with fail
  refine (PC.out _).mono ?_
  rintro e w2 ⟨rfl, hb2⟩
  have A3 : Below w2.heap.size w2 (w2.alloc (.cells #[.int .i64 (L : Int), .int .i64 (I : Int)] 36)) := (Below.refl _ _).alloc (Nat.le_refl _) _
  have J3 : Hid _ := (J1.out.on hb2).on A3
  have R3 : Hid ((w2.alloc (.cells #[.int .i64 (L : Int), .int .i64 (I : Int)] 36)).heap[w.heap.size]? = some (.cells #[.int .i64 0, .int .i64 0] 36 (0, 0))) := (A3.block _ (Nat.lt_of_lt_of_le (Array.getElem?_eq_some_iff.1 R1.out).1 hb2.size)).trans ((hb2.block _ (Array.getElem?_eq_some_iff.1 R1.out).1).trans R1.out)
  have B3 : Hid (Below w.heap.size w (w2.alloc (.cells #[.int .i64 (L : Int), .int .i64 (I : Int)] 36))) := over (over HA1.out hb2) A3
  have P3 : Hid ((w2.alloc (.cells #[.int .i64 (L : Int), .int .i64 (I : Int)] 36)).heap[w2.heap.size]? = some (.cells #[.int .i64 (L : Int), .int .i64 (I : Int)] 36 (0, 0))) := heap_alloc_new _ _
  have hbw : w.heap.size < w2.heap.size := by have h1 := hb2.size; simp at h1; omega
  have NBN2 : some w2.heap.size ≠ (Value.slice (some ⟨gn, 0, none⟩) N vc).ownBlock := fun e => by have := (World.ownsRow.lt HJ0.out.n _ e.symm).2; omega
  have NBH2 : some w2.heap.size ≠ (Value.slice (some ⟨gh, 0, none⟩) N hc).ownBlock := fun e => by have := (World.ownsRow.lt HJ0.out.h _ e.symm).2; omega
  obtain ⟨b, hbb⟩ : ∃ b, w2.heap.size = b := ⟨_, rfl⟩
  rw [hbb] at P3 NBN2 NBH2
  rw [hrr] at R3 NBN1 NBH1
  clear hb2 A3 b1 b2 r4' R1 J1 hbw
  go_wp2_with fail
  go_region_held3 (fun W => W.cell? ⟨p, 3, none⟩ = some (.int .i64 wd) ∧ W.cell? ⟨p, 2, none⟩ = some (.slice (some ⟨gh, 0, none⟩) N hc) ∧ W.cell? ⟨gh, n, none⟩ = some (.string ch) ∧ W.cell? ⟨gh, m1, none⟩ = some (.string yh)) (first | exact CH.out _ (below_dr B3.out) | exact CH.out _ B4.out) ((go_at_call 80; refine (NC.out _ (Tab.down (HT.out.down HJ0.out.e) (below_dr B3.out))).mono ?_; rintro e w4 ⟨rfl, hb4⟩; have HB4 : Hid (Below _ (w2.alloc (.cells #[.int .i64 (L : Int), .int .i64 (I : Int)] 36)) w4) := over (below_dr (Below.refl _ _)) hb4; have B4 : Hid (Below w.heap.size w w4) := over B3.out HB4.out; clear hb4))
  have J4 : Hid (Jb we w0 w4 S p mb lo hi wd (.slice (some ⟨gh, 0, none⟩) N hc) (.slice (some ⟨gn, 0, none⟩) N vc) (.slice (some ⟨gh, 0, none⟩) N hc) (.slice (some ⟨gn, 0, none⟩) N vc) vm (Hs ++ [ch, yh]) (Ns ++ [(cL, cI), (yL, yI)]) ms b L I rr 0 0) := ⟨J3.out.on HB4.out, (HB4.out.block _ (Array.getElem?_eq_some_iff.1 P3.out).1).trans P3.out, (HB4.out.block _ (Array.getElem?_eq_some_iff.1 R3.out).1).trans R3.out⟩
  have hw0 : Hid (w0.heap.size ≤ rr) := by show _ ≤ _; rw [← hrr]; exact HJ0.out.k.size
  have hwe : Hid (we.heap.size ≤ rr) := by show _ ≤ _; rw [← hrr]; exact HJ0.out.e.size
  clear J3 R3 P3 HB4 B4 B3 CH HJ0 HA1 NC PC HT hrr hbb
  have J3 := J4
  clear J4
  go_wp2_with fail
  generalize w4 = v1 at J3 ⊢
  have NBN : Hid (some b ≠ (Value.slice (some ⟨gn, 0, none⟩) n vc).ownBlock ∧ some rr ≠ (Value.slice (some ⟨gn, 0, none⟩) n vc).ownBlock) := ⟨NBN2, NBN1⟩
  have NBH : Hid (some b ≠ (Value.slice (some ⟨gh, 0, none⟩) n hc).ownBlock ∧ some rr ≠ (Value.slice (some ⟨gh, 0, none⟩) n hc).ownBlock) := ⟨NBH2, NBH1⟩
  have SJ : Hid (∀ {W : World} {vh' vn' : Value} {Hs' : List ByteArray} {Ns' : List (Nat × Nat)}, Jb we w0 W S p mb lo hi wd (.slice (some ⟨gh, 0, none⟩) N hc) (.slice (some ⟨gn, 0, none⟩) N vc) vh' vn' vm Hs' Ns' ms b L I rr 0 0 → W.cell? ⟨p, 4, none⟩ = some (.slice (some ⟨gn, 0, none⟩) N vc) ∧ W.cell? ⟨p, 2, none⟩ = some (.slice (some ⟨gh, 0, none⟩) N hc) ∧ W.cell? ⟨b, 0, none⟩ = some (.int .i64 L) ∧ W.cell? ⟨b, 1, none⟩ = some (.int .i64 I)) := fun h => ⟨h.j.x.c4, h.j.x.c2, h.two.1, h.two.2⟩
  have E1 : Hid (∀ o, Below v1.heap.size v1 (v1.alloc o).drew) := fun o => below_dr ((Below.refl _ _).alloc (Nat.le_refl _) _)
  have E2 : Hid (∀ o o', Below v1.heap.size v1 ((v1.alloc o).alloc o').drew) := fun o o' => below_dr (((Below.refl _ _).alloc (Nat.le_refl _) _).alloc (by simp) _)
  have FR : Hid (∀ k, v1.heap.size ≤ k → some k ≠ (Value.slice (some ⟨gn, 0, none⟩) n vc).ownBlock) := fun k hk e => by have := (World.ownsRow.lt J3.out.j.n k e.symm).2; omega
  have OW : Hid (∀ W, Below v1.heap.size v1 W → World.ownsRow W we.heap.size 36 2 (.slice (some ⟨gn, 0, none⟩) n vc) n (cls Ns)) := fun W hW => by
    have := nodes_cut (J3.out.on hW).j.n n (by rw [← lN]; simp)
    rw [← lN, List.take_left, lN] at this
    unfold Nodes at this
    rw [lN] at this
    exact this
  have OH : Hid (∀ {W : World}, Texts W we.heap.size (.slice (some ⟨gh, 0, none⟩) N hc) (Hs ++ [ch, yh]) → World.ownsRow W we.heap.size 9 1 (.slice (some ⟨gh, 0, none⟩) n hc) n (Hs.map Value.string)) := fun {W} hx => by
    have := texts_cut hx n (by rw [← lH]; simp)
    rw [← lH, List.take_left, lH] at this
    unfold Texts at this
    rw [lH] at this
    exact this
  have SZ : Hid (∀ W, Below v1.heap.size v1 W → we.heap.size ≤ W.heap.size) := fun W hW => (J3.out.on hW).j.e.size
  have LN : Hid (∀ {W : World} {v : Value}, World.ownsRow W we.heap.size 36 2 v (n + 1) (cls Ns ++ cl (L, I)) → Nodes W we.heap.size v (Ns ++ [(L, I)])) := fun hx => by unfold Nodes; rw [List.length_append, lN, cls_app, cls_one]; exact hx
  have LH : Hid (∀ {W : World} {v : Value}, World.ownsRow W we.heap.size 9 1 v (n + 1) (Hs.map Value.string ++ [.string h]) → Texts W we.heap.size v (Hs ++ [h])) := fun hx => by unfold Texts; rw [List.length_append, lH, List.map_append]; exact hx
  have HLN : Hid (Ns.length = n) := lN
  have HLH : Hid (Hs.length = n) := lH
  clear lN lH NBN1 NBN2 NBH1 NBH2
  go_cut [69] (fun _ wx => ∃ vn' vh', Hid (Jb we w0 wx S p mb lo hi wd vh' vn' vh' vn' vm (Hs ++ [h]) (Ns ++ [(L, I)]) ms b L I rr 0 0) ∧ Hid (some rr ≠ vn'.ownBlock))
  case first =>
    refine wp_region_noPanic ?_
    refine Go.Proofs.YtmmbkfagchaocaaDoor.za.till_start 25 (fun W => W.cell? ⟨p, 4, none⟩ = some (.slice (some ⟨gn, 0, none⟩) N vc) ∧ W.cell? ⟨p, 2, none⟩ = some (.slice (some ⟨gh, 0, none⟩) N hc) ∧ W.cell? ⟨b, 0, none⟩ = some (.int .i64 L) ∧ W.cell? ⟨b, 1, none⟩ = some (.int .i64 I)) (by kernel_rfl) ?_
    refine Go.Proofs.YtmmbkfagchaocaaDoor.za.till_any_world (i := 0) (v := ?v1) ({ dst := some 47, op := Go.Op.move (Go.Operand.tmp 0), type := 67, pos := "comp.go:44", after := #[], guard := none }) rfl (by kernel_rfl) (by kernel_rfl) (by kernel_rfl) (fun _ _ _ h => h) (by decide) rfl (fun _ => SJ.out (J3.out.on (below_dr (Below.refl _ _)))) ?y1 ?r1
    case y1 => (intro w; go_simp; try with_reducible rfl)
    case r1 =>
    try simp only [Act.put, List.setIfInBounds_toArray, List.set_cons_zero, List.set_cons_succ]
    refine Go.Proofs.YtmmbkfagchaocaaDoor.za.till_any_world (i := 1) (v := ?v2) ({ dst := some 48, op := Go.Op.move (Go.Operand.tmp 0), type := 67, pos := "comp.go:44", after := #[{ on := 25, ground := Go.Ground.gcOnly Go.Departure.lateStores }], guard := none }) rfl (by kernel_rfl) (by kernel_rfl) (by kernel_rfl) (fun _ _ _ h => h) (by decide) rfl (fun _ => SJ.out (J3.out.on (below_dr (Below.refl _ _)))) ?y2 ?r2
    case y2 => (intro w; go_simp; try with_reducible rfl)
    case r2 =>
    try simp only [Act.put, List.setIfInBounds_toArray, List.set_cons_zero, List.set_cons_succ]
    refine Go.Proofs.YtmmbkfagchaocaaDoor.za.till_any_world (i := 2) (v := ?v3) ({ dst := some 49, op := Go.Op.move (Go.Operand.tmp 0), type := 67, pos := "comp.go:44", after := #[], guard := none }) rfl (by kernel_rfl) (by kernel_rfl) (by kernel_rfl) (fun _ _ _ h => h) (by decide) rfl (fun _ => SJ.out (J3.out.on (below_dr (Below.refl _ _)))) ?y3 ?r3
    case y3 => (intro w; go_simp; try with_reducible rfl)
    case r3 =>
    try simp only [Act.put, List.setIfInBounds_toArray, List.set_cons_zero, List.set_cons_succ]
    refine Go.Proofs.YtmmbkfagchaocaaDoor.za.till_any_world (i := 3) (v := ?v4) ({ dst := some 50, op := Go.Op.nilCheck (Go.Operand.tmp 49), type := 0, pos := "comp.go:44", after := #[{ on := 2, ground := Go.Ground.data }], guard := none }) rfl (by kernel_rfl) (by kernel_rfl) (by kernel_rfl) (fun _ _ _ h => h) (by decide) rfl (fun _ => SJ.out (J3.out.on (below_dr (Below.refl _ _)))) ?y4 ?r4
    case y4 => (intro w; go_simp; try with_reducible rfl)
    case r4 =>
    try simp only [Act.put, List.setIfInBounds_toArray, List.set_cons_zero, List.set_cons_succ]
    refine Go.Proofs.YtmmbkfagchaocaaDoor.za.till_any_world (i := 4) (v := ?v5) ({ dst := some 51, op := Go.Op.fieldAddr 98 (Go.Operand.tmp 50) 2, type := 0, pos := "comp.go:44", after := #[{ on := 3, ground := Go.Ground.data }], guard := none }) rfl (by kernel_rfl) (by kernel_rfl) (by kernel_rfl) (fun _ _ _ h => h) (by decide) rfl (fun _ => SJ.out (J3.out.on (below_dr (Below.refl _ _)))) ?y5 ?r5
    case y5 => (intro w; go_simp; try with_reducible rfl)
    case r5 =>
    try simp only [Act.put, List.setIfInBounds_toArray, List.set_cons_zero, List.set_cons_succ]
    refine Go.Proofs.YtmmbkfagchaocaaDoor.za.till_load (i := 5) (v := ?v6) ({ dst := some 52, op := Go.Op.load 63 (Go.Operand.tmp 51), type := 63, pos := "comp.go:44", after := #[{ on := 4, ground := Go.Ground.data }], guard := none }) rfl (by kernel_rfl) (by kernel_rfl) (by kernel_rfl) (fun _ _ _ h => h) (by decide) (by kernel_rfl) (by kernel_rfl) rfl (SJ.out (J3.out.on (below_dr (Below.refl _ _)))) ?y6 ?r6
    case y6 => (intro w hSw; (try dsimp only at hSw); go_simp; try with_reducible rfl)
    case r6 =>
    try simp only [Act.put, List.setIfInBounds_toArray, List.set_cons_zero, List.set_cons_succ]
    refine Go.Proofs.YtmmbkfagchaocaaDoor.za.till_any_world (i := 6) (v := ?v7) ({ dst := some 53, op := Go.Op.move (Go.Operand.tmp 4), type := 3, pos := "comp.go:44", after := #[], guard := none }) rfl (by kernel_rfl) (by kernel_rfl) (by kernel_rfl) (fun _ _ _ h => h) (by decide) rfl (fun _ => SJ.out (J3.out.on (below_dr (Below.refl _ _)))) ?y7 ?r7
    case y7 => (intro w; go_simp; try with_reducible rfl)
    case r7 =>
    try simp only [Act.put, List.setIfInBounds_toArray, List.set_cons_zero, List.set_cons_succ]
    refine Go.Proofs.YtmmbkfagchaocaaDoor.za.till_any_world (i := 7) (v := ?v8) ({ dst := some 54, op := Go.Op.binOp Go.BinOp.sub 3 (Go.Operand.tmp 53) (Go.Operand.const (Go.Value.int Go.IntKind.i64 1)) 3, type := 3, pos := "comp.go:44", after := #[{ on := 6, ground := Go.Ground.data }], guard := none }) rfl (by kernel_rfl) (by kernel_rfl) (by kernel_rfl) (fun _ _ _ h => h) (by decide) rfl (fun _ => SJ.out (J3.out.on (below_dr (Below.refl _ _)))) ?y8 ?r8
    case y8 => (intro w; go_simp; try with_reducible rfl)
    case r8 =>
    try simp only [Act.put, List.setIfInBounds_toArray, List.set_cons_zero, List.set_cons_succ]
    refine Go.Proofs.YtmmbkfagchaocaaDoor.za.till_any_world (i := 8) (v := ?v9) ({ dst := some 55, op := Go.Op.slice 63 (Go.Operand.tmp 52) none (some (Go.Operand.tmp 54)) none, type := 63, pos := "comp.go:44", after := #[{ on := 5, ground := Go.Ground.data }, { on := 7, ground := Go.Ground.data }], guard := none }) rfl (by kernel_rfl) (by kernel_rfl) (by kernel_rfl) (fun _ _ _ h => h) (by decide) rfl (fun _ => SJ.out (J3.out.on (below_dr (Below.refl _ _)))) ?y9 ?r9
    case y9 => (intro w; go_simp; try with_reducible rfl)
    case r9 =>
    try simp only [Act.put, List.setIfInBounds_toArray, List.set_cons_zero, List.set_cons_succ]
    refine Go.Proofs.YtmmbkfagchaocaaDoor.za.till_load (i := 9) (v := ?v10) ({ dst := some 56, op := Go.Op.load 36 (Go.Operand.tmp 5), type := 36, pos := "comp.go:44", after := #[], guard := none }) rfl (by kernel_rfl) (by kernel_rfl) (by kernel_rfl) (fun _ _ _ h => h) (by decide) (by kernel_rfl) (by kernel_rfl) rfl (SJ.out (J3.out.on (below_dr (Below.refl _ _)))) ?y10 ?r10
    case y10 => (intro w hSw; (try dsimp only at hSw); go_simp; try with_reducible rfl)
    case r10 =>
    try simp only [Act.put, List.setIfInBounds_toArray, List.set_cons_zero, List.set_cons_succ]
    refine Go.Proofs.YtmmbkfagchaocaaDoor.za.till_any_world (i := 12) (v := ?v11) ({ dst := some 59, op := Go.Op.move (Go.Operand.tmp 0), type := 67, pos := "comp.go:44", after := #[], guard := none }) rfl (by kernel_rfl) (by kernel_rfl) (by kernel_rfl) (fun _ _ _ h => h) (by decide) rfl (fun _ => SJ.out (J3.out.on (below_dr (Below.refl _ _)))) ?y11 ?r11
    case y11 => (intro w; go_simp; try with_reducible rfl)
    case r11 =>
    try simp only [Act.put, List.setIfInBounds_toArray, List.set_cons_zero, List.set_cons_succ]
    refine Go.Proofs.YtmmbkfagchaocaaDoor.za.till_any_world (i := 13) (v := ?v12) ({ dst := some 60, op := Go.Op.nilCheck (Go.Operand.tmp 59), type := 0, pos := "comp.go:44", after := #[{ on := 12, ground := Go.Ground.data }], guard := none }) rfl (by kernel_rfl) (by kernel_rfl) (by kernel_rfl) (fun _ _ _ h => h) (by decide) rfl (fun _ => SJ.out (J3.out.on (below_dr (Below.refl _ _)))) ?y12 ?r12
    case y12 => (intro w; go_simp; try with_reducible rfl)
    case r12 =>
    try simp only [Act.put, List.setIfInBounds_toArray, List.set_cons_zero, List.set_cons_succ]
    refine Go.Proofs.YtmmbkfagchaocaaDoor.za.till_any_world (i := 14) (v := ?v13) ({ dst := some 61, op := Go.Op.fieldAddr 98 (Go.Operand.tmp 60) 0, type := 0, pos := "comp.go:44", after := #[{ on := 13, ground := Go.Ground.data }], guard := none }) rfl (by kernel_rfl) (by kernel_rfl) (by kernel_rfl) (fun _ _ _ h => h) (by decide) rfl (fun _ => SJ.out (J3.out.on (below_dr (Below.refl _ _)))) ?y13 ?r13
    case y13 => (intro w; go_simp; try with_reducible rfl)
    case r13 =>
    try simp only [Act.put, List.setIfInBounds_toArray, List.set_cons_zero, List.set_cons_succ]
    refine Go.Proofs.YtmmbkfagchaocaaDoor.za.till_any_world (i := 15) (v := ?v14) ({ dst := some 62, op := Go.Op.fieldAddr 24 (Go.Operand.tmp 61) 2, type := 0, pos := "comp.go:44", after := #[{ on := 14, ground := Go.Ground.data }], guard := none }) rfl (by kernel_rfl) (by kernel_rfl) (by kernel_rfl) (fun _ _ _ h => h) (by decide) rfl (fun _ => SJ.out (J3.out.on (below_dr (Below.refl _ _)))) ?y14 ?r14
    case y14 => (intro w; go_simp; try with_reducible rfl)
    case r14 =>
    try simp only [Act.put, List.setIfInBounds_toArray, List.set_cons_zero, List.set_cons_succ]
    refine Go.Proofs.YtmmbkfagchaocaaDoor.za.till_load (i := 16) (v := ?v15) ({ dst := some 63, op := Go.Op.load 22 (Go.Operand.tmp 62), type := 22, pos := "comp.go:44", after := #[{ on := 15, ground := Go.Ground.data }], guard := none }) rfl (by kernel_rfl) (by kernel_rfl) (by kernel_rfl) (fun _ _ _ h => h) (by decide) (by kernel_rfl) (by kernel_rfl) rfl (SJ.out (J3.out.on (below_dr (Below.refl _ _)))) ?y15 ?r15
    case y15 => (intro w hSw; (try dsimp only at hSw); go_simp; try with_reducible rfl)
    case r15 =>
    try simp only [Act.put, List.setIfInBounds_toArray, List.set_cons_zero, List.set_cons_succ]
    refine Go.Proofs.YtmmbkfagchaocaaDoor.za.till_any_world (i := 17) (v := ?v16) ({ dst := some 64, op := Go.Op.move (Go.Operand.tmp 4), type := 3, pos := "comp.go:44", after := #[], guard := none }) rfl (by kernel_rfl) (by kernel_rfl) (by kernel_rfl) (fun _ _ _ h => h) (by decide) rfl (fun _ => SJ.out (J3.out.on (below_dr (Below.refl _ _)))) ?y16 ?r16
    case y16 => (intro w; go_simp; try with_reducible rfl)
    case r16 =>
    try simp only [Act.put, List.setIfInBounds_toArray, List.set_cons_zero, List.set_cons_succ]
    refine Go.Proofs.YtmmbkfagchaocaaDoor.za.till_any_world (i := 18) (v := ?v17) ({ dst := some 65, op := Go.Op.binOp Go.BinOp.sub 3 (Go.Operand.tmp 64) (Go.Operand.const (Go.Value.int Go.IntKind.i64 1)) 3, type := 3, pos := "comp.go:44", after := #[{ on := 17, ground := Go.Ground.data }], guard := none }) rfl (by kernel_rfl) (by kernel_rfl) (by kernel_rfl) (fun _ _ _ h => h) (by decide) rfl (fun _ => SJ.out (J3.out.on (below_dr (Below.refl _ _)))) ?y17 ?r17
    case y17 => (intro w; go_simp; try with_reducible rfl)
    case r17 =>
    try simp only [Act.put, List.setIfInBounds_toArray, List.set_cons_zero, List.set_cons_succ]
    refine Go.Proofs.YtmmbkfagchaocaaDoor.za.till_any_world (i := 19) (v := ?v18) ({ dst := some 66, op := Go.Op.slice 22 (Go.Operand.tmp 63) none (some (Go.Operand.tmp 65)) none, type := 22, pos := "comp.go:44", after := #[{ on := 16, ground := Go.Ground.data }, { on := 18, ground := Go.Ground.data }], guard := none }) rfl (by kernel_rfl) (by kernel_rfl) (by kernel_rfl) (fun _ _ _ h => h) (by decide) rfl (fun _ => SJ.out (J3.out.on (below_dr (Below.refl _ _)))) ?y18 ?r18
    case y18 => (intro w; go_simp; try with_reducible rfl)
    case r18 =>
    try simp only [Act.put, List.setIfInBounds_toArray, List.set_cons_zero, List.set_cons_succ]
    refine Go.Proofs.YtmmbkfagchaocaaDoor.za.till_any_world (i := 20) (v := ?v19) ({ dst := some 67, op := Go.Op.move (Go.Operand.tmp 7), type := 9, pos := "comp.go:44", after := #[], guard := none }) rfl (by kernel_rfl) (by kernel_rfl) (by kernel_rfl) (fun _ _ _ h => h) (by decide) rfl (fun _ => SJ.out (J3.out.on (below_dr (Below.refl _ _)))) ?y19 ?r19
    case y19 => (intro w; go_simp; try with_reducible rfl)
    case r19 =>
    try simp only [Act.put, List.setIfInBounds_toArray, List.set_cons_zero, List.set_cons_succ]
    refine Go.Proofs.YtmmbkfagchaocaaDoor.za.till_each (rs := [10, 21]) (by kernel_rfl) (by simp) ?_
    refine Go.Proofs.YtmmbkfagchaocaaDoor.za.each_cons ({ dst := some 57, op := Go.Op.buildSlice 63 1 #[(0, Go.Operand.tmp 56)], type := 63, pos := "comp.go:44", after := #[{ on := 9, ground := Go.Ground.data }], guard := none }) rfl (fun K hK => ?s20) ?m20
    case s20 =>
     go_simp
     refine hK.out _ _ (fun _ => SJ.out (J3.out.on (E1.out _))) ?_
     clear hK K
     try simp only [Act.put, List.setIfInBounds_toArray, List.set_cons_zero, List.set_cons_succ]
     refine Go.Proofs.YtmmbkfagchaocaaDoor.za.till_each (rs := [11, 21]) (by kernel_rfl) (by simp) ?_
     refine Go.Proofs.YtmmbkfagchaocaaDoor.za.each_cons ({ dst := some 58, op := Go.Op.call { callee := Go.Callee.builtin Go.Builtin.append, args := #[Go.Operand.tmp 55, Go.Operand.tmp 57], argTypes := #[63, 63] }, type := 63, pos := "comp.go:44", after := #[{ on := 8, ground := Go.Ground.data }, { on := 10, ground := Go.Ground.data }], guard := none }) rfl (fun K hK => ?s21) ?m21
     case s21 =>
      refine step_append_lies _ (by rfl) _ _ 63 (by rfl) we.heap.size 36 iA (.agg #[.int .i64 0, .int .i64 0]) 2 16 Tryd.underlying63 HIA.out.1 HIA.out.2.1 HIA.out.2.2.1 HIA.out.2.2.2 rfl (by decide) (.slice (some ⟨gn, 0, none⟩) n vc) n (cls Ns) (by rfl) (OW.out _ (E1.out _)) _ 1 1 (cl (L, I)) (by rfl) rfl (news2 (made0 _ _)) (one_cl _) (by omega) (by unfold maxLen; omega) (by omega) (SZ.out _ (E1.out _)) _ rfl ?_
      intro g7 cap7 w7 hown7 hgrow7 hlies7 hglt7
      have J7 : Hid (Jb we w0 w7 S p mb lo hi wd (.slice (some ⟨gh, 0, none⟩) N hc) (.slice (some ⟨gn, 0, none⟩) N vc) (.slice (some ⟨gh, 0, none⟩) N hc) (.slice (some ⟨g7, 0, none⟩) (n + 1) cap7) vm (Hs ++ [ch, yh]) (Ns ++ [(L, I)]) ms b L I rr 0 0) := Jb.growN (J3.out.on (E1.out _)) rfl NBN.out hgrow7 (LN.out hown7) (lies_to hlies7 (Nat.le_refl _))
      have RN : Hid (some rr ≠ (Value.slice (some ⟨g7, 0, none⟩) (n + 1) cap7).ownBlock) := lies_ne hlies7 NBN.out.2 (J3.out.on (E1.out _)).ltr
      clear hown7 hgrow7 hlies7 hglt7
      refine hK.out _ _ (fun _ => SJ.out J7.out) ?_
      clear hK K
      try simp only [Act.put, List.setIfInBounds_toArray, List.set_cons_zero, List.set_cons_succ]
      refine Go.Proofs.YtmmbkfagchaocaaDoor.za.till_each (rs := [21]) (by kernel_rfl) (by simp) ?_
      refine Go.Proofs.YtmmbkfagchaocaaDoor.za.each_cons ({ dst := some 68, op := Go.Op.buildSlice 22 1 #[(0, Go.Operand.tmp 67)], type := 22, pos := "comp.go:44", after := #[{ on := 20, ground := Go.Ground.data }], guard := none }) rfl (fun K hK => ?_) Go.Proofs.YtmmbkfagchaocaaDoor.za.each_nil
      go_simp
      refine hK.out _ _ (fun _ => SJ.out (J7.out.on ((Below.refl _ _).alloc (Nat.le_refl _) _))) ?_
      clear hK K
      try simp only [Act.put, List.setIfInBounds_toArray, List.set_cons_zero, List.set_cons_succ]
      refine Go.Proofs.YtmmbkfagchaocaaDoor.za.till_each (rs := [22]) (by kernel_rfl) (by simp) ?_
      refine Go.Proofs.YtmmbkfagchaocaaDoor.za.each_cons ({ dst := some 69, op := Go.Op.call { callee := Go.Callee.builtin Go.Builtin.append, args := #[Go.Operand.tmp 66, Go.Operand.tmp 68], argTypes := #[22, 22] }, type := 22, pos := "comp.go:44", after := #[{ on := 19, ground := Go.Ground.data }, { on := 21, ground := Go.Ground.data }, { on := 11, ground := Go.Ground.chain }], guard := none }) rfl (fun K hK => ?_) Go.Proofs.YtmmbkfagchaocaaDoor.za.each_nil
      refine step_append_lies _ (by rfl) _ _ 22 (by rfl) we.heap.size 9 iS (.string ByteArray.empty) 1 16 Tryd.underlying22 HIS.out.1 HIS.out.2.1 HIS.out.2.2.1 HIS.out.2.2.2 rfl (by decide) (.slice (some ⟨gh, 0, none⟩) n hc) n (Hs.map Value.string) (by rfl) (OH.out (J7.out.on ((Below.refl _ _).alloc (Nat.le_refl _) _)).j.h) _ 1 1 [.string h] (by rfl) rfl (news1 (heap_alloc_new _ _)) (one_str _) (by omega) (by unfold maxLen; omega) (by omega) (J7.out.on ((Below.refl _ _).alloc (Nat.le_refl _) _)).j.e.size _ rfl ?_
      intro g8 cap8 w8 hown8 hgrow8 hlies8 hglt8
      have J8 : Hid (Jb we w0 w8 S p mb lo hi wd (.slice (some ⟨gh, 0, none⟩) N hc) (.slice (some ⟨gn, 0, none⟩) N vc) (.slice (some ⟨g8, 0, none⟩) (n + 1) cap8) (.slice (some ⟨g7, 0, none⟩) (n + 1) cap7) vm (Hs ++ [h]) (Ns ++ [(L, I)]) ms b L I rr 0 0) := Jb.growH (J7.out.on ((Below.refl _ _).alloc (Nat.le_refl _) _)) rfl NBH.out hgrow8 (LH.out hown8) (lies_to hlies8 (Nat.le_refl _))
      have t1 := J8.out.j.x.c4
      have t2 := frozen_of_row w8 p 4 _ _ J8.out.j.x
      have t3 := J8.out.j.x.c2
      have t4 := frozen_of_row w8 p 2 _ _ J8.out.j.x
      clear hown8 hgrow8 hlies8 hglt8
      refine hK.out _ _ (fun _ => SJ.out J8.out) ?_
      clear hK K
      try simp only [Act.put, List.setIfInBounds_toArray, List.set_cons_zero, List.set_cons_succ]
      refine Go.Proofs.YtmmbkfagchaocaaDoor.za.till_any_world (i := 23) (v := ?v22) ({ dst := some 70, op := Go.Op.nilCheck (Go.Operand.tmp 47), type := 0, pos := "comp.go:44", after := #[{ on := 0, ground := Go.Ground.data }, { on := 0, ground := Go.Ground.phase }, { on := 1, ground := Go.Ground.textOnly Go.Departure.lateStores }, { on := 2, ground := Go.Ground.phase }, { on := 3, ground := Go.Ground.phase }, { on := 4, ground := Go.Ground.phase }, { on := 5, ground := Go.Ground.phase }, { on := 6, ground := Go.Ground.phase }, { on := 7, ground := Go.Ground.phase }, { on := 8, ground := Go.Ground.phase }, { on := 9, ground := Go.Ground.phase }, { on := 10, ground := Go.Ground.phase }, { on := 11, ground := Go.Ground.phase }, { on := 12, ground := Go.Ground.textOnly Go.Departure.lateStores }, { on := 13, ground := Go.Ground.textOnly Go.Departure.lateStoresUnsure }, { on := 14, ground := Go.Ground.textOnly Go.Departure.lateStoresUnsure }, { on := 15, ground := Go.Ground.textOnly Go.Departure.lateStoresUnsure }, { on := 16, ground := Go.Ground.phase }, { on := 17, ground := Go.Ground.textOnly Go.Departure.lateStores }, { on := 18, ground := Go.Ground.textOnly Go.Departure.lateStores }, { on := 19, ground := Go.Ground.textOnly Go.Departure.lateStoresUnsure }, { on := 20, ground := Go.Ground.textOnly Go.Departure.lateStores }, { on := 21, ground := Go.Ground.textOnly Go.Departure.lateStoresUnsure }, { on := 22, ground := Go.Ground.phase }], guard := none }) rfl (by kernel_rfl) (by kernel_rfl) (by kernel_rfl) (fun _ _ _ h => h) (by decide) rfl (fun _ => SJ.out J8.out) ?y22 ?r22
      case y22 => (intro w; go_simp; try with_reducible rfl)
      case r22 =>
      try simp only [Act.put, List.setIfInBounds_toArray, List.set_cons_zero, List.set_cons_succ]
      refine Go.Proofs.YtmmbkfagchaocaaDoor.za.till_any_world (i := 24) (v := ?v23) ({ dst := some 71, op := Go.Op.fieldAddr 98 (Go.Operand.tmp 70) 2, type := 0, pos := "comp.go:44", after := #[{ on := 23, ground := Go.Ground.data }, { on := 0, ground := Go.Ground.phase }, { on := 1, ground := Go.Ground.textOnly Go.Departure.lateStores }, { on := 2, ground := Go.Ground.phase }, { on := 3, ground := Go.Ground.phase }, { on := 4, ground := Go.Ground.phase }, { on := 5, ground := Go.Ground.phase }, { on := 6, ground := Go.Ground.phase }, { on := 7, ground := Go.Ground.phase }, { on := 8, ground := Go.Ground.phase }, { on := 9, ground := Go.Ground.phase }, { on := 10, ground := Go.Ground.phase }, { on := 11, ground := Go.Ground.phase }, { on := 12, ground := Go.Ground.textOnly Go.Departure.lateStores }, { on := 13, ground := Go.Ground.textOnly Go.Departure.lateStoresUnsure }, { on := 14, ground := Go.Ground.textOnly Go.Departure.lateStoresUnsure }, { on := 15, ground := Go.Ground.textOnly Go.Departure.lateStoresUnsure }, { on := 16, ground := Go.Ground.phase }, { on := 17, ground := Go.Ground.textOnly Go.Departure.lateStores }, { on := 18, ground := Go.Ground.textOnly Go.Departure.lateStores }, { on := 19, ground := Go.Ground.textOnly Go.Departure.lateStoresUnsure }, { on := 20, ground := Go.Ground.textOnly Go.Departure.lateStores }, { on := 21, ground := Go.Ground.textOnly Go.Departure.lateStoresUnsure }, { on := 22, ground := Go.Ground.phase }], guard := none }) rfl (by kernel_rfl) (by kernel_rfl) (by kernel_rfl) (fun _ _ _ h => h) (by decide) rfl (fun _ => SJ.out J8.out) ?y23 ?r23
      case y23 => (intro w; go_simp; try with_reducible rfl)
      case r23 =>
      try simp only [Act.put, List.setIfInBounds_toArray, List.set_cons_zero, List.set_cons_succ]
      refine Go.Proofs.YtmmbkfagchaocaaDoor.za.till_each (rs := [25]) (by kernel_rfl) (by simp) ?_
      refine Go.Proofs.YtmmbkfagchaocaaDoor.za.each_cons ({ dst := none, op := Go.Op.store 63 (Go.Operand.tmp 71) (Go.Operand.tmp 58), type := 0, pos := "comp.go:44", after := #[{ on := 24, ground := Go.Ground.data }, { on := 11, ground := Go.Ground.data }, { on := 22, ground := Go.Ground.chain }, { on := 0, ground := Go.Ground.phase }, { on := 1, ground := Go.Ground.textOnly Go.Departure.lateStores }, { on := 2, ground := Go.Ground.phase }, { on := 3, ground := Go.Ground.phase }, { on := 4, ground := Go.Ground.phase }, { on := 5, ground := Go.Ground.phase }, { on := 6, ground := Go.Ground.phase }, { on := 7, ground := Go.Ground.phase }, { on := 8, ground := Go.Ground.phase }, { on := 9, ground := Go.Ground.phase }, { on := 10, ground := Go.Ground.phase }, { on := 11, ground := Go.Ground.phase }, { on := 12, ground := Go.Ground.textOnly Go.Departure.lateStores }, { on := 13, ground := Go.Ground.textOnly Go.Departure.lateStoresUnsure }, { on := 14, ground := Go.Ground.textOnly Go.Departure.lateStoresUnsure }, { on := 15, ground := Go.Ground.textOnly Go.Departure.lateStoresUnsure }, { on := 16, ground := Go.Ground.phase }, { on := 17, ground := Go.Ground.textOnly Go.Departure.lateStores }, { on := 18, ground := Go.Ground.textOnly Go.Departure.lateStores }, { on := 19, ground := Go.Ground.textOnly Go.Departure.lateStoresUnsure }, { on := 20, ground := Go.Ground.textOnly Go.Departure.lateStores }, { on := 21, ground := Go.Ground.textOnly Go.Departure.lateStoresUnsure }, { on := 22, ground := Go.Ground.phase }], guard := none }) rfl (fun K hK => ?_) Go.Proofs.YtmmbkfagchaocaaDoor.za.each_nil
      go_simp
      refine hK.out _ _ (late (by kernel_rfl)) ?_
      clear hK K
      try simp only [Act.put, List.setIfInBounds_toArray, List.set_cons_zero, List.set_cons_succ]
      refine Go.Proofs.YtmmbkfagchaocaaDoor.za.till_any_world (i := 26) (v := ?v24) ({ dst := some 72, op := Go.Op.nilCheck (Go.Operand.tmp 48), type := 0, pos := "comp.go:44", after := #[{ on := 1, ground := Go.Ground.data }, { on := 0, ground := Go.Ground.phase }, { on := 1, ground := Go.Ground.phase }, { on := 2, ground := Go.Ground.phase }, { on := 3, ground := Go.Ground.phase }, { on := 4, ground := Go.Ground.phase }, { on := 5, ground := Go.Ground.phase }, { on := 6, ground := Go.Ground.phase }, { on := 7, ground := Go.Ground.phase }, { on := 8, ground := Go.Ground.phase }, { on := 9, ground := Go.Ground.phase }, { on := 10, ground := Go.Ground.phase }, { on := 11, ground := Go.Ground.phase }, { on := 12, ground := Go.Ground.phase }, { on := 13, ground := Go.Ground.phase }, { on := 14, ground := Go.Ground.phase }, { on := 15, ground := Go.Ground.phase }, { on := 16, ground := Go.Ground.phase }, { on := 17, ground := Go.Ground.phase }, { on := 18, ground := Go.Ground.phase }, { on := 19, ground := Go.Ground.phase }, { on := 20, ground := Go.Ground.phase }, { on := 21, ground := Go.Ground.phase }, { on := 22, ground := Go.Ground.phase }, { on := 23, ground := Go.Ground.phase }, { on := 24, ground := Go.Ground.phase }, { on := 25, ground := Go.Ground.phase }], guard := none }) rfl (by kernel_rfl) (by kernel_rfl) (by kernel_rfl) (fun _ _ _ h => h) (by decide) rfl (late (by kernel_rfl)) ?y24 ?r24
      case y24 => (intro w; go_simp; try with_reducible rfl)
      case r24 =>
      try simp only [Act.put, List.setIfInBounds_toArray, List.set_cons_zero, List.set_cons_succ]
      refine Go.Proofs.YtmmbkfagchaocaaDoor.za.till_any_world (i := 27) (v := ?v25) ({ dst := some 73, op := Go.Op.fieldAddr 98 (Go.Operand.tmp 72) 0, type := 0, pos := "comp.go:44", after := #[{ on := 26, ground := Go.Ground.data }, { on := 0, ground := Go.Ground.phase }, { on := 1, ground := Go.Ground.phase }, { on := 2, ground := Go.Ground.phase }, { on := 3, ground := Go.Ground.phase }, { on := 4, ground := Go.Ground.phase }, { on := 5, ground := Go.Ground.phase }, { on := 6, ground := Go.Ground.phase }, { on := 7, ground := Go.Ground.phase }, { on := 8, ground := Go.Ground.phase }, { on := 9, ground := Go.Ground.phase }, { on := 10, ground := Go.Ground.phase }, { on := 11, ground := Go.Ground.phase }, { on := 12, ground := Go.Ground.phase }, { on := 13, ground := Go.Ground.phase }, { on := 14, ground := Go.Ground.phase }, { on := 15, ground := Go.Ground.phase }, { on := 16, ground := Go.Ground.phase }, { on := 17, ground := Go.Ground.phase }, { on := 18, ground := Go.Ground.phase }, { on := 19, ground := Go.Ground.phase }, { on := 20, ground := Go.Ground.phase }, { on := 21, ground := Go.Ground.phase }, { on := 22, ground := Go.Ground.phase }, { on := 23, ground := Go.Ground.phase }, { on := 24, ground := Go.Ground.phase }, { on := 25, ground := Go.Ground.phase }], guard := none }) rfl (by kernel_rfl) (by kernel_rfl) (by kernel_rfl) (fun _ _ _ h => h) (by decide) rfl (late (by kernel_rfl)) ?y25 ?r25
      case y25 => (intro w; go_simp; try with_reducible rfl)
      case r25 =>
      try simp only [Act.put, List.setIfInBounds_toArray, List.set_cons_zero, List.set_cons_succ]
      refine Go.Proofs.YtmmbkfagchaocaaDoor.za.till_any_world (i := 28) (v := ?v26) ({ dst := some 74, op := Go.Op.fieldAddr 24 (Go.Operand.tmp 73) 2, type := 0, pos := "comp.go:44", after := #[{ on := 27, ground := Go.Ground.data }, { on := 0, ground := Go.Ground.phase }, { on := 1, ground := Go.Ground.phase }, { on := 2, ground := Go.Ground.phase }, { on := 3, ground := Go.Ground.phase }, { on := 4, ground := Go.Ground.phase }, { on := 5, ground := Go.Ground.phase }, { on := 6, ground := Go.Ground.phase }, { on := 7, ground := Go.Ground.phase }, { on := 8, ground := Go.Ground.phase }, { on := 9, ground := Go.Ground.phase }, { on := 10, ground := Go.Ground.phase }, { on := 11, ground := Go.Ground.phase }, { on := 12, ground := Go.Ground.phase }, { on := 13, ground := Go.Ground.phase }, { on := 14, ground := Go.Ground.phase }, { on := 15, ground := Go.Ground.phase }, { on := 16, ground := Go.Ground.phase }, { on := 17, ground := Go.Ground.phase }, { on := 18, ground := Go.Ground.phase }, { on := 19, ground := Go.Ground.phase }, { on := 20, ground := Go.Ground.phase }, { on := 21, ground := Go.Ground.phase }, { on := 22, ground := Go.Ground.phase }, { on := 23, ground := Go.Ground.phase }, { on := 24, ground := Go.Ground.phase }, { on := 25, ground := Go.Ground.phase }], guard := none }) rfl (by kernel_rfl) (by kernel_rfl) (by kernel_rfl) (fun _ _ _ h => h) (by decide) rfl (late (by kernel_rfl)) ?y26 ?r26
      case y26 => (intro w; go_simp; try with_reducible rfl)
      case r26 =>
      try simp only [Act.put, List.setIfInBounds_toArray, List.set_cons_zero, List.set_cons_succ]
      refine Go.Proofs.YtmmbkfagchaocaaDoor.za.till_each (rs := [29]) (by kernel_rfl) (by simp) ?_
      refine Go.Proofs.YtmmbkfagchaocaaDoor.za.each_cons ({ dst := none, op := Go.Op.store 22 (Go.Operand.tmp 74) (Go.Operand.tmp 69), type := 0, pos := "comp.go:44", after := #[{ on := 28, ground := Go.Ground.data }, { on := 22, ground := Go.Ground.data }, { on := 25, ground := Go.Ground.chain }, { on := 0, ground := Go.Ground.phase }, { on := 1, ground := Go.Ground.phase }, { on := 2, ground := Go.Ground.phase }, { on := 3, ground := Go.Ground.phase }, { on := 4, ground := Go.Ground.phase }, { on := 5, ground := Go.Ground.phase }, { on := 6, ground := Go.Ground.phase }, { on := 7, ground := Go.Ground.phase }, { on := 8, ground := Go.Ground.phase }, { on := 9, ground := Go.Ground.phase }, { on := 10, ground := Go.Ground.phase }, { on := 11, ground := Go.Ground.phase }, { on := 12, ground := Go.Ground.phase }, { on := 13, ground := Go.Ground.phase }, { on := 14, ground := Go.Ground.phase }, { on := 15, ground := Go.Ground.phase }, { on := 16, ground := Go.Ground.phase }, { on := 17, ground := Go.Ground.phase }, { on := 18, ground := Go.Ground.phase }, { on := 19, ground := Go.Ground.phase }, { on := 20, ground := Go.Ground.phase }, { on := 21, ground := Go.Ground.phase }, { on := 22, ground := Go.Ground.phase }, { on := 23, ground := Go.Ground.phase }, { on := 24, ground := Go.Ground.phase }, { on := 25, ground := Go.Ground.phase }], guard := none }) rfl (fun K hK => ?_) Go.Proofs.YtmmbkfagchaocaaDoor.za.each_nil
      go_simp
      refine hK.out _ _ (late (by kernel_rfl)) ?_
      clear hK K
      try simp only [Act.put, List.setIfInBounds_toArray, List.set_cons_zero, List.set_cons_succ]
      refine Go.Proofs.YtmmbkfagchaocaaDoor.za.till_done (by kernel_rfl) ?_
      refine NoPanic.normal ?_
      go_wp2_with fail
      go_meet
      exact ⟨_, _, J8.out.set24 _ _, RN.out⟩
     case m21 =>
     refine Go.Proofs.YtmmbkfagchaocaaDoor.za.each_cons ({ dst := some 68, op := Go.Op.buildSlice 22 1 #[(0, Go.Operand.tmp 67)], type := 22, pos := "comp.go:44", after := #[{ on := 20, ground := Go.Ground.data }], guard := none }) rfl (fun K hK => ?s27) ?m27
     case s27 =>
      go_simp
      refine hK.out _ _ (fun _ => SJ.out (J3.out.on (E2.out _ _))) ?_
      clear hK K
      try simp only [Act.put, List.setIfInBounds_toArray, List.set_cons_zero, List.set_cons_succ]
      refine Go.Proofs.YtmmbkfagchaocaaDoor.za.till_each (rs := [11]) (by kernel_rfl) (by simp) ?_
      refine Go.Proofs.YtmmbkfagchaocaaDoor.za.each_cons ({ dst := some 58, op := Go.Op.call { callee := Go.Callee.builtin Go.Builtin.append, args := #[Go.Operand.tmp 55, Go.Operand.tmp 57], argTypes := #[63, 63] }, type := 63, pos := "comp.go:44", after := #[{ on := 8, ground := Go.Ground.data }, { on := 10, ground := Go.Ground.data }], guard := none }) rfl (fun K hK => ?_) Go.Proofs.YtmmbkfagchaocaaDoor.za.each_nil
      refine step_append_lies _ (by rfl) _ _ 63 (by rfl) we.heap.size 36 iA (.agg #[.int .i64 0, .int .i64 0]) 2 16 Tryd.underlying63 HIA.out.1 HIA.out.2.1 HIA.out.2.2.1 HIA.out.2.2.2 rfl (by decide) (.slice (some ⟨gn, 0, none⟩) n vc) n (cls Ns) (by rfl) (OW.out _ (E2.out _ _)) _ 1 1 (cl (L, I)) (by rfl) rfl (news2 (made0' _ _ _)) (one_cl _) (by omega) (by unfold maxLen; omega) (by omega) (SZ.out _ (E2.out _ _)) _ rfl ?_
      intro g7 cap7 w7 hown7 hgrow7 hlies7 hglt7
      have J7 : Hid (Jb we w0 w7 S p mb lo hi wd (.slice (some ⟨gh, 0, none⟩) N hc) (.slice (some ⟨gn, 0, none⟩) N vc) (.slice (some ⟨gh, 0, none⟩) N hc) (.slice (some ⟨g7, 0, none⟩) (n + 1) cap7) vm (Hs ++ [ch, yh]) (Ns ++ [(L, I)]) ms b L I rr 0 0) := Jb.growN (J3.out.on (E2.out _ _)) rfl NBN.out hgrow7 (LN.out hown7) (lies_to hlies7 (Nat.le_refl _))
      have RN : Hid (some rr ≠ (Value.slice (some ⟨g7, 0, none⟩) (n + 1) cap7).ownBlock) := lies_ne hlies7 NBN.out.2 (J3.out.on (E2.out _ _)).ltr
      have NB : Hid (w7.heap[v1.heap.size + 1]? = some (.cells #[.string h] 9 (0, 0))) := (hgrow7.block _ (by simp <;> omega) (FR.out _ (by omega))).trans (made1 _ _ _)
      clear hown7 hgrow7 hlies7 hglt7
      refine hK.out _ _ (fun _ => SJ.out J7.out) ?_
      clear hK K
      try simp only [Act.put, List.setIfInBounds_toArray, List.set_cons_zero, List.set_cons_succ]
      refine Go.Proofs.YtmmbkfagchaocaaDoor.za.till_each (rs := [22]) (by kernel_rfl) (by simp) ?_
      refine Go.Proofs.YtmmbkfagchaocaaDoor.za.each_cons ({ dst := some 69, op := Go.Op.call { callee := Go.Callee.builtin Go.Builtin.append, args := #[Go.Operand.tmp 66, Go.Operand.tmp 68], argTypes := #[22, 22] }, type := 22, pos := "comp.go:44", after := #[{ on := 19, ground := Go.Ground.data }, { on := 21, ground := Go.Ground.data }, { on := 11, ground := Go.Ground.chain }], guard := none }) rfl (fun K hK => ?_) Go.Proofs.YtmmbkfagchaocaaDoor.za.each_nil
      refine step_append_lies _ (by rfl) _ _ 22 (by rfl) we.heap.size 9 iS (.string ByteArray.empty) 1 16 Tryd.underlying22 HIS.out.1 HIS.out.2.1 HIS.out.2.2.1 HIS.out.2.2.2 rfl (by decide) (.slice (some ⟨gh, 0, none⟩) n hc) n (Hs.map Value.string) (by rfl) (OH.out J7.out.j.h) _ 1 1 [.string h] (by rfl) rfl (news1 (NB.out)) (one_str _) (by omega) (by unfold maxLen; omega) (by omega) J7.out.j.e.size _ rfl ?_
      intro g8 cap8 w8 hown8 hgrow8 hlies8 hglt8
      have J8 : Hid (Jb we w0 w8 S p mb lo hi wd (.slice (some ⟨gh, 0, none⟩) N hc) (.slice (some ⟨gn, 0, none⟩) N vc) (.slice (some ⟨g8, 0, none⟩) (n + 1) cap8) (.slice (some ⟨g7, 0, none⟩) (n + 1) cap7) vm (Hs ++ [h]) (Ns ++ [(L, I)]) ms b L I rr 0 0) := Jb.growH J7.out rfl NBH.out hgrow8 (LH.out hown8) (lies_to hlies8 (Nat.le_refl _))
      have t1 := J8.out.j.x.c4
      have t2 := frozen_of_row w8 p 4 _ _ J8.out.j.x
      have t3 := J8.out.j.x.c2
      have t4 := frozen_of_row w8 p 2 _ _ J8.out.j.x
      clear hown8 hgrow8 hlies8 hglt8
      refine hK.out _ _ (fun _ => SJ.out J8.out) ?_
      clear hK K
      try simp only [Act.put, List.setIfInBounds_toArray, List.set_cons_zero, List.set_cons_succ]
      refine Go.Proofs.YtmmbkfagchaocaaDoor.za.till_any_world (i := 23) (v := ?v28) ({ dst := some 70, op := Go.Op.nilCheck (Go.Operand.tmp 47), type := 0, pos := "comp.go:44", after := #[{ on := 0, ground := Go.Ground.data }, { on := 0, ground := Go.Ground.phase }, { on := 1, ground := Go.Ground.textOnly Go.Departure.lateStores }, { on := 2, ground := Go.Ground.phase }, { on := 3, ground := Go.Ground.phase }, { on := 4, ground := Go.Ground.phase }, { on := 5, ground := Go.Ground.phase }, { on := 6, ground := Go.Ground.phase }, { on := 7, ground := Go.Ground.phase }, { on := 8, ground := Go.Ground.phase }, { on := 9, ground := Go.Ground.phase }, { on := 10, ground := Go.Ground.phase }, { on := 11, ground := Go.Ground.phase }, { on := 12, ground := Go.Ground.textOnly Go.Departure.lateStores }, { on := 13, ground := Go.Ground.textOnly Go.Departure.lateStoresUnsure }, { on := 14, ground := Go.Ground.textOnly Go.Departure.lateStoresUnsure }, { on := 15, ground := Go.Ground.textOnly Go.Departure.lateStoresUnsure }, { on := 16, ground := Go.Ground.phase }, { on := 17, ground := Go.Ground.textOnly Go.Departure.lateStores }, { on := 18, ground := Go.Ground.textOnly Go.Departure.lateStores }, { on := 19, ground := Go.Ground.textOnly Go.Departure.lateStoresUnsure }, { on := 20, ground := Go.Ground.textOnly Go.Departure.lateStores }, { on := 21, ground := Go.Ground.textOnly Go.Departure.lateStoresUnsure }, { on := 22, ground := Go.Ground.phase }], guard := none }) rfl (by kernel_rfl) (by kernel_rfl) (by kernel_rfl) (fun _ _ _ h => h) (by decide) rfl (fun _ => SJ.out J8.out) ?y28 ?r28
      case y28 => (intro w; go_simp; try with_reducible rfl)
      case r28 =>
      try simp only [Act.put, List.setIfInBounds_toArray, List.set_cons_zero, List.set_cons_succ]
      refine Go.Proofs.YtmmbkfagchaocaaDoor.za.till_any_world (i := 24) (v := ?v29) ({ dst := some 71, op := Go.Op.fieldAddr 98 (Go.Operand.tmp 70) 2, type := 0, pos := "comp.go:44", after := #[{ on := 23, ground := Go.Ground.data }, { on := 0, ground := Go.Ground.phase }, { on := 1, ground := Go.Ground.textOnly Go.Departure.lateStores }, { on := 2, ground := Go.Ground.phase }, { on := 3, ground := Go.Ground.phase }, { on := 4, ground := Go.Ground.phase }, { on := 5, ground := Go.Ground.phase }, { on := 6, ground := Go.Ground.phase }, { on := 7, ground := Go.Ground.phase }, { on := 8, ground := Go.Ground.phase }, { on := 9, ground := Go.Ground.phase }, { on := 10, ground := Go.Ground.phase }, { on := 11, ground := Go.Ground.phase }, { on := 12, ground := Go.Ground.textOnly Go.Departure.lateStores }, { on := 13, ground := Go.Ground.textOnly Go.Departure.lateStoresUnsure }, { on := 14, ground := Go.Ground.textOnly Go.Departure.lateStoresUnsure }, { on := 15, ground := Go.Ground.textOnly Go.Departure.lateStoresUnsure }, { on := 16, ground := Go.Ground.phase }, { on := 17, ground := Go.Ground.textOnly Go.Departure.lateStores }, { on := 18, ground := Go.Ground.textOnly Go.Departure.lateStores }, { on := 19, ground := Go.Ground.textOnly Go.Departure.lateStoresUnsure }, { on := 20, ground := Go.Ground.textOnly Go.Departure.lateStores }, { on := 21, ground := Go.Ground.textOnly Go.Departure.lateStoresUnsure }, { on := 22, ground := Go.Ground.phase }], guard := none }) rfl (by kernel_rfl) (by kernel_rfl) (by kernel_rfl) (fun _ _ _ h => h) (by decide) rfl (fun _ => SJ.out J8.out) ?y29 ?r29
      case y29 => (intro w; go_simp; try with_reducible rfl)
      case r29 =>
      try simp only [Act.put, List.setIfInBounds_toArray, List.set_cons_zero, List.set_cons_succ]
      refine Go.Proofs.YtmmbkfagchaocaaDoor.za.till_each (rs := [25]) (by kernel_rfl) (by simp) ?_
      refine Go.Proofs.YtmmbkfagchaocaaDoor.za.each_cons ({ dst := none, op := Go.Op.store 63 (Go.Operand.tmp 71) (Go.Operand.tmp 58), type := 0, pos := "comp.go:44", after := #[{ on := 24, ground := Go.Ground.data }, { on := 11, ground := Go.Ground.data }, { on := 22, ground := Go.Ground.chain }, { on := 0, ground := Go.Ground.phase }, { on := 1, ground := Go.Ground.textOnly Go.Departure.lateStores }, { on := 2, ground := Go.Ground.phase }, { on := 3, ground := Go.Ground.phase }, { on := 4, ground := Go.Ground.phase }, { on := 5, ground := Go.Ground.phase }, { on := 6, ground := Go.Ground.phase }, { on := 7, ground := Go.Ground.phase }, { on := 8, ground := Go.Ground.phase }, { on := 9, ground := Go.Ground.phase }, { on := 10, ground := Go.Ground.phase }, { on := 11, ground := Go.Ground.phase }, { on := 12, ground := Go.Ground.textOnly Go.Departure.lateStores }, { on := 13, ground := Go.Ground.textOnly Go.Departure.lateStoresUnsure }, { on := 14, ground := Go.Ground.textOnly Go.Departure.lateStoresUnsure }, { on := 15, ground := Go.Ground.textOnly Go.Departure.lateStoresUnsure }, { on := 16, ground := Go.Ground.phase }, { on := 17, ground := Go.Ground.textOnly Go.Departure.lateStores }, { on := 18, ground := Go.Ground.textOnly Go.Departure.lateStores }, { on := 19, ground := Go.Ground.textOnly Go.Departure.lateStoresUnsure }, { on := 20, ground := Go.Ground.textOnly Go.Departure.lateStores }, { on := 21, ground := Go.Ground.textOnly Go.Departure.lateStoresUnsure }, { on := 22, ground := Go.Ground.phase }], guard := none }) rfl (fun K hK => ?_) Go.Proofs.YtmmbkfagchaocaaDoor.za.each_nil
      go_simp
      refine hK.out _ _ (late (by kernel_rfl)) ?_
      clear hK K
      try simp only [Act.put, List.setIfInBounds_toArray, List.set_cons_zero, List.set_cons_succ]
      refine Go.Proofs.YtmmbkfagchaocaaDoor.za.till_any_world (i := 26) (v := ?v30) ({ dst := some 72, op := Go.Op.nilCheck (Go.Operand.tmp 48), type := 0, pos := "comp.go:44", after := #[{ on := 1, ground := Go.Ground.data }, { on := 0, ground := Go.Ground.phase }, { on := 1, ground := Go.Ground.phase }, { on := 2, ground := Go.Ground.phase }, { on := 3, ground := Go.Ground.phase }, { on := 4, ground := Go.Ground.phase }, { on := 5, ground := Go.Ground.phase }, { on := 6, ground := Go.Ground.phase }, { on := 7, ground := Go.Ground.phase }, { on := 8, ground := Go.Ground.phase }, { on := 9, ground := Go.Ground.phase }, { on := 10, ground := Go.Ground.phase }, { on := 11, ground := Go.Ground.phase }, { on := 12, ground := Go.Ground.phase }, { on := 13, ground := Go.Ground.phase }, { on := 14, ground := Go.Ground.phase }, { on := 15, ground := Go.Ground.phase }, { on := 16, ground := Go.Ground.phase }, { on := 17, ground := Go.Ground.phase }, { on := 18, ground := Go.Ground.phase }, { on := 19, ground := Go.Ground.phase }, { on := 20, ground := Go.Ground.phase }, { on := 21, ground := Go.Ground.phase }, { on := 22, ground := Go.Ground.phase }, { on := 23, ground := Go.Ground.phase }, { on := 24, ground := Go.Ground.phase }, { on := 25, ground := Go.Ground.phase }], guard := none }) rfl (by kernel_rfl) (by kernel_rfl) (by kernel_rfl) (fun _ _ _ h => h) (by decide) rfl (late (by kernel_rfl)) ?y30 ?r30
      case y30 => (intro w; go_simp; try with_reducible rfl)
      case r30 =>
      try simp only [Act.put, List.setIfInBounds_toArray, List.set_cons_zero, List.set_cons_succ]
      refine Go.Proofs.YtmmbkfagchaocaaDoor.za.till_any_world (i := 27) (v := ?v31) ({ dst := some 73, op := Go.Op.fieldAddr 98 (Go.Operand.tmp 72) 0, type := 0, pos := "comp.go:44", after := #[{ on := 26, ground := Go.Ground.data }, { on := 0, ground := Go.Ground.phase }, { on := 1, ground := Go.Ground.phase }, { on := 2, ground := Go.Ground.phase }, { on := 3, ground := Go.Ground.phase }, { on := 4, ground := Go.Ground.phase }, { on := 5, ground := Go.Ground.phase }, { on := 6, ground := Go.Ground.phase }, { on := 7, ground := Go.Ground.phase }, { on := 8, ground := Go.Ground.phase }, { on := 9, ground := Go.Ground.phase }, { on := 10, ground := Go.Ground.phase }, { on := 11, ground := Go.Ground.phase }, { on := 12, ground := Go.Ground.phase }, { on := 13, ground := Go.Ground.phase }, { on := 14, ground := Go.Ground.phase }, { on := 15, ground := Go.Ground.phase }, { on := 16, ground := Go.Ground.phase }, { on := 17, ground := Go.Ground.phase }, { on := 18, ground := Go.Ground.phase }, { on := 19, ground := Go.Ground.phase }, { on := 20, ground := Go.Ground.phase }, { on := 21, ground := Go.Ground.phase }, { on := 22, ground := Go.Ground.phase }, { on := 23, ground := Go.Ground.phase }, { on := 24, ground := Go.Ground.phase }, { on := 25, ground := Go.Ground.phase }], guard := none }) rfl (by kernel_rfl) (by kernel_rfl) (by kernel_rfl) (fun _ _ _ h => h) (by decide) rfl (late (by kernel_rfl)) ?y31 ?r31
      case y31 => (intro w; go_simp; try with_reducible rfl)
      case r31 =>
      try simp only [Act.put, List.setIfInBounds_toArray, List.set_cons_zero, List.set_cons_succ]
      refine Go.Proofs.YtmmbkfagchaocaaDoor.za.till_any_world (i := 28) (v := ?v32) ({ dst := some 74, op := Go.Op.fieldAddr 24 (Go.Operand.tmp 73) 2, type := 0, pos := "comp.go:44", after := #[{ on := 27, ground := Go.Ground.data }, { on := 0, ground := Go.Ground.phase }, { on := 1, ground := Go.Ground.phase }, { on := 2, ground := Go.Ground.phase }, { on := 3, ground := Go.Ground.phase }, { on := 4, ground := Go.Ground.phase }, { on := 5, ground := Go.Ground.phase }, { on := 6, ground := Go.Ground.phase }, { on := 7, ground := Go.Ground.phase }, { on := 8, ground := Go.Ground.phase }, { on := 9, ground := Go.Ground.phase }, { on := 10, ground := Go.Ground.phase }, { on := 11, ground := Go.Ground.phase }, { on := 12, ground := Go.Ground.phase }, { on := 13, ground := Go.Ground.phase }, { on := 14, ground := Go.Ground.phase }, { on := 15, ground := Go.Ground.phase }, { on := 16, ground := Go.Ground.phase }, { on := 17, ground := Go.Ground.phase }, { on := 18, ground := Go.Ground.phase }, { on := 19, ground := Go.Ground.phase }, { on := 20, ground := Go.Ground.phase }, { on := 21, ground := Go.Ground.phase }, { on := 22, ground := Go.Ground.phase }, { on := 23, ground := Go.Ground.phase }, { on := 24, ground := Go.Ground.phase }, { on := 25, ground := Go.Ground.phase }], guard := none }) rfl (by kernel_rfl) (by kernel_rfl) (by kernel_rfl) (fun _ _ _ h => h) (by decide) rfl (late (by kernel_rfl)) ?y32 ?r32
      case y32 => (intro w; go_simp; try with_reducible rfl)
      case r32 =>
      try simp only [Act.put, List.setIfInBounds_toArray, List.set_cons_zero, List.set_cons_succ]
      refine Go.Proofs.YtmmbkfagchaocaaDoor.za.till_each (rs := [29]) (by kernel_rfl) (by simp) ?_
      refine Go.Proofs.YtmmbkfagchaocaaDoor.za.each_cons ({ dst := none, op := Go.Op.store 22 (Go.Operand.tmp 74) (Go.Operand.tmp 69), type := 0, pos := "comp.go:44", after := #[{ on := 28, ground := Go.Ground.data }, { on := 22, ground := Go.Ground.data }, { on := 25, ground := Go.Ground.chain }, { on := 0, ground := Go.Ground.phase }, { on := 1, ground := Go.Ground.phase }, { on := 2, ground := Go.Ground.phase }, { on := 3, ground := Go.Ground.phase }, { on := 4, ground := Go.Ground.phase }, { on := 5, ground := Go.Ground.phase }, { on := 6, ground := Go.Ground.phase }, { on := 7, ground := Go.Ground.phase }, { on := 8, ground := Go.Ground.phase }, { on := 9, ground := Go.Ground.phase }, { on := 10, ground := Go.Ground.phase }, { on := 11, ground := Go.Ground.phase }, { on := 12, ground := Go.Ground.phase }, { on := 13, ground := Go.Ground.phase }, { on := 14, ground := Go.Ground.phase }, { on := 15, ground := Go.Ground.phase }, { on := 16, ground := Go.Ground.phase }, { on := 17, ground := Go.Ground.phase }, { on := 18, ground := Go.Ground.phase }, { on := 19, ground := Go.Ground.phase }, { on := 20, ground := Go.Ground.phase }, { on := 21, ground := Go.Ground.phase }, { on := 22, ground := Go.Ground.phase }, { on := 23, ground := Go.Ground.phase }, { on := 24, ground := Go.Ground.phase }, { on := 25, ground := Go.Ground.phase }], guard := none }) rfl (fun K hK => ?_) Go.Proofs.YtmmbkfagchaocaaDoor.za.each_nil
      go_simp
      refine hK.out _ _ (late (by kernel_rfl)) ?_
      clear hK K
      try simp only [Act.put, List.setIfInBounds_toArray, List.set_cons_zero, List.set_cons_succ]
      refine Go.Proofs.YtmmbkfagchaocaaDoor.za.till_done (by kernel_rfl) ?_
      refine NoPanic.normal ?_
      go_wp2_with fail
      go_meet
      exact ⟨_, _, J8.out.set24 _ _, RN.out⟩
     case m27 => exact Go.Proofs.YtmmbkfagchaocaaDoor.za.each_nil
    case m20 =>
    refine Go.Proofs.YtmmbkfagchaocaaDoor.za.each_cons ({ dst := some 68, op := Go.Op.buildSlice 22 1 #[(0, Go.Operand.tmp 67)], type := 22, pos := "comp.go:44", after := #[{ on := 20, ground := Go.Ground.data }], guard := none }) rfl (fun K hK => ?s33) ?m33
    case s33 =>
     go_simp
     refine hK.out _ _ (fun _ => SJ.out (J3.out.on (E1.out _))) ?_
     clear hK K
     try simp only [Act.put, List.setIfInBounds_toArray, List.set_cons_zero, List.set_cons_succ]
     refine Go.Proofs.YtmmbkfagchaocaaDoor.za.till_each (rs := [10]) (by kernel_rfl) (by simp) ?_
     refine Go.Proofs.YtmmbkfagchaocaaDoor.za.each_cons ({ dst := some 57, op := Go.Op.buildSlice 63 1 #[(0, Go.Operand.tmp 56)], type := 63, pos := "comp.go:44", after := #[{ on := 9, ground := Go.Ground.data }], guard := none }) rfl (fun K hK => ?_) Go.Proofs.YtmmbkfagchaocaaDoor.za.each_nil
     go_simp
     refine hK.out _ _ (fun _ => SJ.out (J3.out.on (E2.out _ _))) ?_
     clear hK K
     try simp only [Act.put, List.setIfInBounds_toArray, List.set_cons_zero, List.set_cons_succ]
     refine Go.Proofs.YtmmbkfagchaocaaDoor.za.till_each (rs := [11]) (by kernel_rfl) (by simp) ?_
     refine Go.Proofs.YtmmbkfagchaocaaDoor.za.each_cons ({ dst := some 58, op := Go.Op.call { callee := Go.Callee.builtin Go.Builtin.append, args := #[Go.Operand.tmp 55, Go.Operand.tmp 57], argTypes := #[63, 63] }, type := 63, pos := "comp.go:44", after := #[{ on := 8, ground := Go.Ground.data }, { on := 10, ground := Go.Ground.data }], guard := none }) rfl (fun K hK => ?_) Go.Proofs.YtmmbkfagchaocaaDoor.za.each_nil
     refine step_append_lies _ (by rfl) _ _ 63 (by rfl) we.heap.size 36 iA (.agg #[.int .i64 0, .int .i64 0]) 2 16 Tryd.underlying63 HIA.out.1 HIA.out.2.1 HIA.out.2.2.1 HIA.out.2.2.2 rfl (by decide) (.slice (some ⟨gn, 0, none⟩) n vc) n (cls Ns) (by rfl) (OW.out _ (E2.out _ _)) _ 1 1 (cl (L, I)) (by rfl) rfl (news2 (made1 _ _ _)) (one_cl _) (by omega) (by unfold maxLen; omega) (by omega) (SZ.out _ (E2.out _ _)) _ rfl ?_
     intro g7 cap7 w7 hown7 hgrow7 hlies7 hglt7
     have J7 : Hid (Jb we w0 w7 S p mb lo hi wd (.slice (some ⟨gh, 0, none⟩) N hc) (.slice (some ⟨gn, 0, none⟩) N vc) (.slice (some ⟨gh, 0, none⟩) N hc) (.slice (some ⟨g7, 0, none⟩) (n + 1) cap7) vm (Hs ++ [ch, yh]) (Ns ++ [(L, I)]) ms b L I rr 0 0) := Jb.growN (J3.out.on (E2.out _ _)) rfl NBN.out hgrow7 (LN.out hown7) (lies_to hlies7 (Nat.le_refl _))
     have RN : Hid (some rr ≠ (Value.slice (some ⟨g7, 0, none⟩) (n + 1) cap7).ownBlock) := lies_ne hlies7 NBN.out.2 (J3.out.on (E2.out _ _)).ltr
     have NB : Hid (w7.heap[v1.heap.size]? = some (.cells #[.string h] 9 (0, 0))) := (hgrow7.block _ (by simp <;> omega) (FR.out _ (Nat.le_refl _))).trans (made0' _ _ _)
     clear hown7 hgrow7 hlies7 hglt7
     refine hK.out _ _ (fun _ => SJ.out J7.out) ?_
     clear hK K
     try simp only [Act.put, List.setIfInBounds_toArray, List.set_cons_zero, List.set_cons_succ]
     refine Go.Proofs.YtmmbkfagchaocaaDoor.za.till_each (rs := [22]) (by kernel_rfl) (by simp) ?_
     refine Go.Proofs.YtmmbkfagchaocaaDoor.za.each_cons ({ dst := some 69, op := Go.Op.call { callee := Go.Callee.builtin Go.Builtin.append, args := #[Go.Operand.tmp 66, Go.Operand.tmp 68], argTypes := #[22, 22] }, type := 22, pos := "comp.go:44", after := #[{ on := 19, ground := Go.Ground.data }, { on := 21, ground := Go.Ground.data }, { on := 11, ground := Go.Ground.chain }], guard := none }) rfl (fun K hK => ?_) Go.Proofs.YtmmbkfagchaocaaDoor.za.each_nil
     refine step_append_lies _ (by rfl) _ _ 22 (by rfl) we.heap.size 9 iS (.string ByteArray.empty) 1 16 Tryd.underlying22 HIS.out.1 HIS.out.2.1 HIS.out.2.2.1 HIS.out.2.2.2 rfl (by decide) (.slice (some ⟨gh, 0, none⟩) n hc) n (Hs.map Value.string) (by rfl) (OH.out J7.out.j.h) _ 1 1 [.string h] (by rfl) rfl (news1 (NB.out)) (one_str _) (by omega) (by unfold maxLen; omega) (by omega) J7.out.j.e.size _ rfl ?_
     intro g8 cap8 w8 hown8 hgrow8 hlies8 hglt8
     have J8 : Hid (Jb we w0 w8 S p mb lo hi wd (.slice (some ⟨gh, 0, none⟩) N hc) (.slice (some ⟨gn, 0, none⟩) N vc) (.slice (some ⟨g8, 0, none⟩) (n + 1) cap8) (.slice (some ⟨g7, 0, none⟩) (n + 1) cap7) vm (Hs ++ [h]) (Ns ++ [(L, I)]) ms b L I rr 0 0) := Jb.growH J7.out rfl NBH.out hgrow8 (LH.out hown8) (lies_to hlies8 (Nat.le_refl _))
     have t1 := J8.out.j.x.c4
     have t2 := frozen_of_row w8 p 4 _ _ J8.out.j.x
     have t3 := J8.out.j.x.c2
     have t4 := frozen_of_row w8 p 2 _ _ J8.out.j.x
     clear hown8 hgrow8 hlies8 hglt8
     refine hK.out _ _ (fun _ => SJ.out J8.out) ?_
     clear hK K
     try simp only [Act.put, List.setIfInBounds_toArray, List.set_cons_zero, List.set_cons_succ]
     refine Go.Proofs.YtmmbkfagchaocaaDoor.za.till_any_world (i := 23) (v := ?v34) ({ dst := some 70, op := Go.Op.nilCheck (Go.Operand.tmp 47), type := 0, pos := "comp.go:44", after := #[{ on := 0, ground := Go.Ground.data }, { on := 0, ground := Go.Ground.phase }, { on := 1, ground := Go.Ground.textOnly Go.Departure.lateStores }, { on := 2, ground := Go.Ground.phase }, { on := 3, ground := Go.Ground.phase }, { on := 4, ground := Go.Ground.phase }, { on := 5, ground := Go.Ground.phase }, { on := 6, ground := Go.Ground.phase }, { on := 7, ground := Go.Ground.phase }, { on := 8, ground := Go.Ground.phase }, { on := 9, ground := Go.Ground.phase }, { on := 10, ground := Go.Ground.phase }, { on := 11, ground := Go.Ground.phase }, { on := 12, ground := Go.Ground.textOnly Go.Departure.lateStores }, { on := 13, ground := Go.Ground.textOnly Go.Departure.lateStoresUnsure }, { on := 14, ground := Go.Ground.textOnly Go.Departure.lateStoresUnsure }, { on := 15, ground := Go.Ground.textOnly Go.Departure.lateStoresUnsure }, { on := 16, ground := Go.Ground.phase }, { on := 17, ground := Go.Ground.textOnly Go.Departure.lateStores }, { on := 18, ground := Go.Ground.textOnly Go.Departure.lateStores }, { on := 19, ground := Go.Ground.textOnly Go.Departure.lateStoresUnsure }, { on := 20, ground := Go.Ground.textOnly Go.Departure.lateStores }, { on := 21, ground := Go.Ground.textOnly Go.Departure.lateStoresUnsure }, { on := 22, ground := Go.Ground.phase }], guard := none }) rfl (by kernel_rfl) (by kernel_rfl) (by kernel_rfl) (fun _ _ _ h => h) (by decide) rfl (fun _ => SJ.out J8.out) ?y34 ?r34
     case y34 => (intro w; go_simp; try with_reducible rfl)
     case r34 =>
     try simp only [Act.put, List.setIfInBounds_toArray, List.set_cons_zero, List.set_cons_succ]
     refine Go.Proofs.YtmmbkfagchaocaaDoor.za.till_any_world (i := 24) (v := ?v35) ({ dst := some 71, op := Go.Op.fieldAddr 98 (Go.Operand.tmp 70) 2, type := 0, pos := "comp.go:44", after := #[{ on := 23, ground := Go.Ground.data }, { on := 0, ground := Go.Ground.phase }, { on := 1, ground := Go.Ground.textOnly Go.Departure.lateStores }, { on := 2, ground := Go.Ground.phase }, { on := 3, ground := Go.Ground.phase }, { on := 4, ground := Go.Ground.phase }, { on := 5, ground := Go.Ground.phase }, { on := 6, ground := Go.Ground.phase }, { on := 7, ground := Go.Ground.phase }, { on := 8, ground := Go.Ground.phase }, { on := 9, ground := Go.Ground.phase }, { on := 10, ground := Go.Ground.phase }, { on := 11, ground := Go.Ground.phase }, { on := 12, ground := Go.Ground.textOnly Go.Departure.lateStores }, { on := 13, ground := Go.Ground.textOnly Go.Departure.lateStoresUnsure }, { on := 14, ground := Go.Ground.textOnly Go.Departure.lateStoresUnsure }, { on := 15, ground := Go.Ground.textOnly Go.Departure.lateStoresUnsure }, { on := 16, ground := Go.Ground.phase }, { on := 17, ground := Go.Ground.textOnly Go.Departure.lateStores }, { on := 18, ground := Go.Ground.textOnly Go.Departure.lateStores }, { on := 19, ground := Go.Ground.textOnly Go.Departure.lateStoresUnsure }, { on := 20, ground := Go.Ground.textOnly Go.Departure.lateStores }, { on := 21, ground := Go.Ground.textOnly Go.Departure.lateStoresUnsure }, { on := 22, ground := Go.Ground.phase }], guard := none }) rfl (by kernel_rfl) (by kernel_rfl) (by kernel_rfl) (fun _ _ _ h => h) (by decide) rfl (fun _ => SJ.out J8.out) ?y35 ?r35
     case y35 => (intro w; go_simp; try with_reducible rfl)
     case r35 =>
     try simp only [Act.put, List.setIfInBounds_toArray, List.set_cons_zero, List.set_cons_succ]
     refine Go.Proofs.YtmmbkfagchaocaaDoor.za.till_each (rs := [25]) (by kernel_rfl) (by simp) ?_
     refine Go.Proofs.YtmmbkfagchaocaaDoor.za.each_cons ({ dst := none, op := Go.Op.store 63 (Go.Operand.tmp 71) (Go.Operand.tmp 58), type := 0, pos := "comp.go:44", after := #[{ on := 24, ground := Go.Ground.data }, { on := 11, ground := Go.Ground.data }, { on := 22, ground := Go.Ground.chain }, { on := 0, ground := Go.Ground.phase }, { on := 1, ground := Go.Ground.textOnly Go.Departure.lateStores }, { on := 2, ground := Go.Ground.phase }, { on := 3, ground := Go.Ground.phase }, { on := 4, ground := Go.Ground.phase }, { on := 5, ground := Go.Ground.phase }, { on := 6, ground := Go.Ground.phase }, { on := 7, ground := Go.Ground.phase }, { on := 8, ground := Go.Ground.phase }, { on := 9, ground := Go.Ground.phase }, { on := 10, ground := Go.Ground.phase }, { on := 11, ground := Go.Ground.phase }, { on := 12, ground := Go.Ground.textOnly Go.Departure.lateStores }, { on := 13, ground := Go.Ground.textOnly Go.Departure.lateStoresUnsure }, { on := 14, ground := Go.Ground.textOnly Go.Departure.lateStoresUnsure }, { on := 15, ground := Go.Ground.textOnly Go.Departure.lateStoresUnsure }, { on := 16, ground := Go.Ground.phase }, { on := 17, ground := Go.Ground.textOnly Go.Departure.lateStores }, { on := 18, ground := Go.Ground.textOnly Go.Departure.lateStores }, { on := 19, ground := Go.Ground.textOnly Go.Departure.lateStoresUnsure }, { on := 20, ground := Go.Ground.textOnly Go.Departure.lateStores }, { on := 21, ground := Go.Ground.textOnly Go.Departure.lateStoresUnsure }, { on := 22, ground := Go.Ground.phase }], guard := none }) rfl (fun K hK => ?_) Go.Proofs.YtmmbkfagchaocaaDoor.za.each_nil
     go_simp
     refine hK.out _ _ (late (by kernel_rfl)) ?_
     clear hK K
     try simp only [Act.put, List.setIfInBounds_toArray, List.set_cons_zero, List.set_cons_succ]
     refine Go.Proofs.YtmmbkfagchaocaaDoor.za.till_any_world (i := 26) (v := ?v36) ({ dst := some 72, op := Go.Op.nilCheck (Go.Operand.tmp 48), type := 0, pos := "comp.go:44", after := #[{ on := 1, ground := Go.Ground.data }, { on := 0, ground := Go.Ground.phase }, { on := 1, ground := Go.Ground.phase }, { on := 2, ground := Go.Ground.phase }, { on := 3, ground := Go.Ground.phase }, { on := 4, ground := Go.Ground.phase }, { on := 5, ground := Go.Ground.phase }, { on := 6, ground := Go.Ground.phase }, { on := 7, ground := Go.Ground.phase }, { on := 8, ground := Go.Ground.phase }, { on := 9, ground := Go.Ground.phase }, { on := 10, ground := Go.Ground.phase }, { on := 11, ground := Go.Ground.phase }, { on := 12, ground := Go.Ground.phase }, { on := 13, ground := Go.Ground.phase }, { on := 14, ground := Go.Ground.phase }, { on := 15, ground := Go.Ground.phase }, { on := 16, ground := Go.Ground.phase }, { on := 17, ground := Go.Ground.phase }, { on := 18, ground := Go.Ground.phase }, { on := 19, ground := Go.Ground.phase }, { on := 20, ground := Go.Ground.phase }, { on := 21, ground := Go.Ground.phase }, { on := 22, ground := Go.Ground.phase }, { on := 23, ground := Go.Ground.phase }, { on := 24, ground := Go.Ground.phase }, { on := 25, ground := Go.Ground.phase }], guard := none }) rfl (by kernel_rfl) (by kernel_rfl) (by kernel_rfl) (fun _ _ _ h => h) (by decide) rfl (late (by kernel_rfl)) ?y36 ?r36
     case y36 => (intro w; go_simp; try with_reducible rfl)
     case r36 =>
     try simp only [Act.put, List.setIfInBounds_toArray, List.set_cons_zero, List.set_cons_succ]
     refine Go.Proofs.YtmmbkfagchaocaaDoor.za.till_any_world (i := 27) (v := ?v37) ({ dst := some 73, op := Go.Op.fieldAddr 98 (Go.Operand.tmp 72) 0, type := 0, pos := "comp.go:44", after := #[{ on := 26, ground := Go.Ground.data }, { on := 0, ground := Go.Ground.phase }, { on := 1, ground := Go.Ground.phase }, { on := 2, ground := Go.Ground.phase }, { on := 3, ground := Go.Ground.phase }, { on := 4, ground := Go.Ground.phase }, { on := 5, ground := Go.Ground.phase }, { on := 6, ground := Go.Ground.phase }, { on := 7, ground := Go.Ground.phase }, { on := 8, ground := Go.Ground.phase }, { on := 9, ground := Go.Ground.phase }, { on := 10, ground := Go.Ground.phase }, { on := 11, ground := Go.Ground.phase }, { on := 12, ground := Go.Ground.phase }, { on := 13, ground := Go.Ground.phase }, { on := 14, ground := Go.Ground.phase }, { on := 15, ground := Go.Ground.phase }, { on := 16, ground := Go.Ground.phase }, { on := 17, ground := Go.Ground.phase }, { on := 18, ground := Go.Ground.phase }, { on := 19, ground := Go.Ground.phase }, { on := 20, ground := Go.Ground.phase }, { on := 21, ground := Go.Ground.phase }, { on := 22, ground := Go.Ground.phase }, { on := 23, ground := Go.Ground.phase }, { on := 24, ground := Go.Ground.phase }, { on := 25, ground := Go.Ground.phase }], guard := none }) rfl (by kernel_rfl) (by kernel_rfl) (by kernel_rfl) (fun _ _ _ h => h) (by decide) rfl (late (by kernel_rfl)) ?y37 ?r37
     case y37 => (intro w; go_simp; try with_reducible rfl)
     case r37 =>
     try simp only [Act.put, List.setIfInBounds_toArray, List.set_cons_zero, List.set_cons_succ]
     refine Go.Proofs.YtmmbkfagchaocaaDoor.za.till_any_world (i := 28) (v := ?v38) ({ dst := some 74, op := Go.Op.fieldAddr 24 (Go.Operand.tmp 73) 2, type := 0, pos := "comp.go:44", after := #[{ on := 27, ground := Go.Ground.data }, { on := 0, ground := Go.Ground.phase }, { on := 1, ground := Go.Ground.phase }, { on := 2, ground := Go.Ground.phase }, { on := 3, ground := Go.Ground.phase }, { on := 4, ground := Go.Ground.phase }, { on := 5, ground := Go.Ground.phase }, { on := 6, ground := Go.Ground.phase }, { on := 7, ground := Go.Ground.phase }, { on := 8, ground := Go.Ground.phase }, { on := 9, ground := Go.Ground.phase }, { on := 10, ground := Go.Ground.phase }, { on := 11, ground := Go.Ground.phase }, { on := 12, ground := Go.Ground.phase }, { on := 13, ground := Go.Ground.phase }, { on := 14, ground := Go.Ground.phase }, { on := 15, ground := Go.Ground.phase }, { on := 16, ground := Go.Ground.phase }, { on := 17, ground := Go.Ground.phase }, { on := 18, ground := Go.Ground.phase }, { on := 19, ground := Go.Ground.phase }, { on := 20, ground := Go.Ground.phase }, { on := 21, ground := Go.Ground.phase }, { on := 22, ground := Go.Ground.phase }, { on := 23, ground := Go.Ground.phase }, { on := 24, ground := Go.Ground.phase }, { on := 25, ground := Go.Ground.phase }], guard := none }) rfl (by kernel_rfl) (by kernel_rfl) (by kernel_rfl) (fun _ _ _ h => h) (by decide) rfl (late (by kernel_rfl)) ?y38 ?r38
     case y38 => (intro w; go_simp; try with_reducible rfl)
     case r38 =>
     try simp only [Act.put, List.setIfInBounds_toArray, List.set_cons_zero, List.set_cons_succ]
     refine Go.Proofs.YtmmbkfagchaocaaDoor.za.till_each (rs := [29]) (by kernel_rfl) (by simp) ?_
     refine Go.Proofs.YtmmbkfagchaocaaDoor.za.each_cons ({ dst := none, op := Go.Op.store 22 (Go.Operand.tmp 74) (Go.Operand.tmp 69), type := 0, pos := "comp.go:44", after := #[{ on := 28, ground := Go.Ground.data }, { on := 22, ground := Go.Ground.data }, { on := 25, ground := Go.Ground.chain }, { on := 0, ground := Go.Ground.phase }, { on := 1, ground := Go.Ground.phase }, { on := 2, ground := Go.Ground.phase }, { on := 3, ground := Go.Ground.phase }, { on := 4, ground := Go.Ground.phase }, { on := 5, ground := Go.Ground.phase }, { on := 6, ground := Go.Ground.phase }, { on := 7, ground := Go.Ground.phase }, { on := 8, ground := Go.Ground.phase }, { on := 9, ground := Go.Ground.phase }, { on := 10, ground := Go.Ground.phase }, { on := 11, ground := Go.Ground.phase }, { on := 12, ground := Go.Ground.phase }, { on := 13, ground := Go.Ground.phase }, { on := 14, ground := Go.Ground.phase }, { on := 15, ground := Go.Ground.phase }, { on := 16, ground := Go.Ground.phase }, { on := 17, ground := Go.Ground.phase }, { on := 18, ground := Go.Ground.phase }, { on := 19, ground := Go.Ground.phase }, { on := 20, ground := Go.Ground.phase }, { on := 21, ground := Go.Ground.phase }, { on := 22, ground := Go.Ground.phase }, { on := 23, ground := Go.Ground.phase }, { on := 24, ground := Go.Ground.phase }, { on := 25, ground := Go.Ground.phase }], guard := none }) rfl (fun K hK => ?_) Go.Proofs.YtmmbkfagchaocaaDoor.za.each_nil
     go_simp
     refine hK.out _ _ (late (by kernel_rfl)) ?_
     clear hK K
     try simp only [Act.put, List.setIfInBounds_toArray, List.set_cons_zero, List.set_cons_succ]
     refine Go.Proofs.YtmmbkfagchaocaaDoor.za.till_done (by kernel_rfl) ?_
     refine NoPanic.normal ?_
     go_wp2_with fail
     go_meet
     exact ⟨_, _, J8.out.set24 _ _, RN.out⟩
    case m33 => exact Go.Proofs.YtmmbkfagchaocaaDoor.za.each_nil
  case rest =>
  as_aux_lemma =>
  obtain ⟨vn', vh', HQ, RN⟩ := hcut
  have k1 := HQ.out.two.1
  have k2 := HQ.out.two.2
  have HZ := HQ.out.r
  have d1 : wc.cell? ⟨rr, 0, none⟩ = some (.int .i64 0) := by rw [cell_of_row _ _ _ _ _ _ HZ]; rfl
  have d2 : wc.cell? ⟨rr, 1, none⟩ = some (.int .i64 0) := by rw [cell_of_row _ _ _ _ _ _ HZ]; rfl
  have f1 := frozen_of_row wc rr 0 _ _ HZ
  have f2 := frozen_of_row wc rr 1 _ _ HZ
  have g2 : ∀ x y : Value, ((wc.setCell ⟨rr, 0, none⟩ x).setCell ⟨rr, 1, none⟩ y).cell? ⟨rr, 1, none⟩ = some y := fun x y => by
    rw [cell_of_row _ _ _ _ _ _ (heap_setCell_same _ _ 1 _ _ y (heap_setCell_same wc _ 0 _ _ x HZ))]; rfl
  have g3 : ∀ x y : Value, ((wc.setCell ⟨rr, 0, none⟩ x).setCell ⟨rr, 1, none⟩ y).cell? ⟨rr, 0, none⟩ = some x := fun x y => by
    rw [cell_of_row _ _ _ _ _ _ (heap_setCell_same _ _ 1 _ _ y (heap_setCell_same wc _ 0 _ _ x HZ))]; rfl
  have FIN : Hid (∀ x y : Value, Jn we w0 ((wc.setCell ⟨rr, 0, none⟩ x).setCell ⟨rr, 1, none⟩ y) S p mb lo hi wd vh' vn' vh' vn' vm (Hs ++ [h]) (Ns ++ [(L, I)]) ms) := fun x y => Jn.side (Jn.side HQ.out.j HZ RN.out hw0.out hwe.out x) (heap_setCell_same wc _ 0 _ _ x HZ) RN.out hw0.out hwe.out y
  clear HZ
  go_wp2
  (try simp only [Exit.inBlock, Exit.then])
  refine bodyPost_ret (by simp [results, Tryd.results66, go_sem, g2, g3]; try rfl) rfl ?_
  exact ⟨rfl, _, _, FIN.out _ _⟩
end Go.Proofs.YtmmbkfagchaocaaDoor.yd

namespace Go.Proofs.YtmmbkfagchaocaaDoor.ye
open Go.RowKit Go.PlainAid
open Go.Proofs.YtmmbkfagchaocaaDoor.pl Go.Proofs.YtmmbkfagchaocaaDoor.pi Go.Proofs.YtmmbkfagchaocaaDoor.pj Go.Proofs.YtmmbkfagchaocaaDoor.rf Go.Proofs.YtmmbkfagchaocaaDoor.ca Go.Proofs.YtmmbkfagchaocaaDoor.cb Go.Proofs.YtmmbkfagchaocaaDoor.cp Go.Proofs.YtmmbkfagchaocaaDoor.cs Go.Proofs.YtmmbkfagchaocaaDoor.cu Go.Proofs.YtmmbkfagchaocaaDoor.va Go.Proofs.YtmmbkfagchaocaaDoor.ka Go.Proofs.YtmmbkfagchaocaaDoor.kb Go.Proofs.YtmmbkfagchaocaaDoor.kc Go.Proofs.YtmmbkfagchaocaaDoor.ga Go.Proofs.YtmmbkfagchaocaaDoor.gb Go.Proofs.YtmmbkfagchaocaaDoor.na Go.Proofs.YtmmbkfagchaocaaDoor.nb Go.Proofs.YtmmbkfagchaocaaDoor.nc Go.Proofs.YtmmbkfagchaocaaDoor.oa Go.Proofs.YtmmbkfagchaocaaDoor.ob Go.Proofs.YtmmbkfagchaocaaDoor.ya Go.Proofs.YtmmbkfagchaocaaDoor.yb Go.Proofs.YtmmbkfagchaocaaDoor.yc Go.Proofs.YtmmbkfagchaocaaDoor.yd
set_option linter.unusedVariables false

-- how many nodes the run has, off the world
def runLen (w : World) (p : Nat) : Nat := match w.cell? ⟨p, 4, none⟩ with | some (.slice _ n _) => n | _ => 0
theorem runLen_of {we w0 w : World} {S : Nat → Prop} {p mb : Nat} {lo hi wd : Int} {fh vh vn vm : Value} {Hs : List ByteArray} {Ns : List (Nat × Nat)} {ms : List Md} (J : Jn we w0 w S p mb lo hi wd fh vn vh vn vm Hs Ns ms) : runLen w p = Ns.length := by
  obtain ⟨a, c, rfl⟩ := own_formS J.n
  unfold runLen
  rw [J.x.c4]
structure Lp (we w0 w : World) (S : Nat → Prop) (p mb : Nat) (lo hi wd : Int) (vh vn vm : Value) (rs : List Md) (y : Md) (ms ms0 : List Md) (JJ : List Md × List Md) : Prop where
  j : Jn we w0 w S p mb lo hi wd vh vn vh vn vm ((y :: rs).reverse.map Prod.snd) ((y :: rs).reverse.map Prod.fst) ms
  j1 : (joinR (NF wd) rs y).1 = JJ.1
  j2 : ms ++ (joinR (NF wd) rs y).2 = ms0 ++ JJ.2
  ok : ∀ n ∈ y :: rs, okN n.1 ∧ n.2.size ≤ 32
  ln : rs.length ≤ 1000
  lm : ms.length + rs.length ≤ 100000
section
variable {we w0 w w' : World} {S : Nat → Prop} {p mb : Nat} {lo hi wd : Int} {vh vn vm vh' vn' vm' : Value} {rs : List Md} {c y : Md} {ms ms0 : List Md} {JJ : List Md × List Md}
theorem Lp.stop (h : Lp we w0 w S p mb lo hi wd vh vn vm rs y ms ms0 JJ) (hn : joinR (NF wd) rs y = (y :: rs, [])) : Jn we w0 w S p mb lo hi wd vh vn vh vn vm (JJ.1.reverse.map Prod.snd) (JJ.1.reverse.map Prod.fst) (ms0 ++ JJ.2) := by
  have e1 := h.j1
  have e2 := h.j2
  rw [hn] at e1 e2
  rw [← e1, ← e2, List.append_nil]
  exact h.j
theorem Lp.up (h : Lp we w0 w S p mb lo hi wd vh vn vm (c :: rs) y ms ms0 JJ) (hh : halves c.1 y.1) (hj : Jn we w0 w' S p mb lo hi wd vh' vn' vh' vn' vm' ((upN (NF wd) c y :: rs).reverse.map Prod.snd) ((upN (NF wd) c y :: rs).reverse.map Prod.fst) (ms ++ [upN (NF wd) c y])) : Lp we w0 w' S p mb lo hi wd vh' vn' vm' rs (upN (NF wd) c y) (ms ++ [upN (NF wd) c y]) ms0 JJ := by
  have e1 := h.j1
  have e2 := h.j2
  rw [joinR_yes _ rs hh] at e1 e2
  have hc := h.ok c (by simp)
  refine ⟨hj, e1, by rw [List.append_assoc]; exact e2, fun n hn => ?_, by have := h.ln; simp at this; omega, by have := h.lm; rw [List.length_append]; simp at this ⊢; omega⟩
  rcases List.mem_cons.1 hn with rfl | hn
  · refine ⟨okN_up hc.1 hh.2.2.2, ?_⟩
    show (NF wd c.2 y.2).size ≤ 32
    rw [show (NF wd c.2 y.2).size = wid wd from cutS_size _ _]
    have := wid_in wd
    omega
  · exact h.ok n (by simp [hn])
theorem Lp.len (h : Lp we w0 w S p mb lo hi wd vh vn vm rs y ms ms0 JJ) : runLen w p = rs.length + 1 := by rw [runLen_of h.j]; simp
end
set_option maxHeartbeats 6400000 in
set_option maxRecDepth 100000 in
theorem put {we w0 w : World} {S : Nat → Prop} {p mb : Nat} {lo hi wd : Int} {vh vn vm : Value} {ms : List Md} (rs : List Md) (L I : Nat) (h : ByteArray) (hT : Tab we) (J : Jn we w0 w S p mb lo hi wd vh vn vh vn vm (rs.reverse.map Prod.snd) (rs.reverse.map Prod.fst) ms) (hk : ∀ n ∈ ((L, I), h) :: rs, okN n.1 ∧ n.2.size ≤ 32) (hl : rs.length ≤ 1000) (hm : ms.length + rs.length ≤ 100000) :
    Calls Tryd.prog 52 #[.pointer (some ⟨p, 0, none⟩), .agg #[.int .i64 L, .int .i64 I], .string h, TellV mb] w fun e w' => e = .returned (.tuple #[]) ∧ ∃ vh' vn' vm', Jn we w0 w' S p mb lo ((I + 1) * 2 ^ L : Nat) wd vh' vn' vh' vn' vm' ((joinR (NF wd) rs ((L, I), h)).1.reverse.map Prod.snd) ((joinR (NF wd) rs ((L, I), h)).1.reverse.map Prod.fst) (ms ++ (joinR (NF wd) rs ((L, I), h)).2) := by
  have hok : okN (L, I) := (hk ((L, I), h) (by simp)).1
  have HK : Hid (∀ n ∈ ((L, I), h) :: rs, okN n.1 ∧ n.2.size ≤ 32) := hk
  have HT : Hid (Tab we) := hT
  have HLR : Hid (rs.length ≤ 1000) := hl
  have HLM : Hid (ms.length + rs.length ≤ 100000) := hm
  obtain ⟨JJ, HJJ⟩ : ∃ JJ, Hid (joinR (NF wd) rs ((L, I), h) = JJ) := ⟨_, rfl⟩
  rw [HJJ.out]
  obtain ⟨Hs, HHs⟩ : ∃ Hs, Hid (rs.reverse.map Prod.snd = Hs) := ⟨_, rfl⟩
  obtain ⟨Ns, HNs⟩ : ∃ Ns, Hid (rs.reverse.map Prod.fst = Ns) := ⟨_, rfl⟩
  have hlH : Hs.length ≤ 1000 := by rw [← HHs.out]; simpa using hl
  have hlN : Ns.length ≤ 1000 := by rw [← HNs.out]; simpa using hl
  rw [HHs.out, HNs.out] at J
  clear hk hT hl hm
  obtain ⟨iA, hiA', hz0, hz1, hz2⟩ := info_parts hiA
  have HIA : Hid (_ ∧ _ ∧ _ ∧ _) := ⟨hiA', hz0, hz1, hz2⟩
  obtain ⟨iS, hiS', hy0, hy1, hy2⟩ := info_parts hiS
  have HIS : Hid (_ ∧ _ ∧ _ ∧ _) := ⟨hiS', hy0, hy1, hy2⟩
  have hlI := okN_lt hok
  have hlL := hok.1
  simp only at hlI hlL
  obtain ⟨x, HX⟩ : ∃ x : Nat, Hid ((I + 1) * 2 ^ L = x) := ⟨_, rfl⟩
  rw [HX.out]
  obtain ⟨x0, HX0⟩ : ∃ x : Nat, Hid (I * 2 ^ L = x) := ⟨_, rfl⟩
  have SC : Hid (∀ w, Calls _ _ _ _ _) := fun w => spanC L I (i64_nat (by omega)) (i64_nat (by omega)) w
  rw [spV_nat ((okA_nat L I).2 hok), HX.out, HX0.out] at SC
  have A1 : Below w.heap.size w (w.alloc (.cells #[.int .i64 L, .int .i64 I] 36)) := (Below.refl _ _).alloc (Nat.le_refl _) _
  have J1 : Hid (Jb we w0 (w.alloc (.cells #[.int .i64 L, .int .i64 I] 36)) S p mb lo hi wd vh vn vh vn vm Hs Ns ms w.heap.size L I w.heap.size L I) := ⟨J.on A1, heap_alloc_new _ _, heap_alloc_new _ _⟩
  have NBN0 : some w.heap.size ≠ vn.ownBlock := fun e => by have := (World.ownsRow.lt J.n _ e.symm).2; omega
  have NBN : Hid (some w.heap.size ≠ vn.ownBlock ∧ some w.heap.size ≠ vn.ownBlock) := ⟨NBN0, NBN0⟩
  have NBH0 : some w.heap.size ≠ vh.ownBlock := fun e => by have := (World.ownsRow.lt J.h _ e.symm).2; omega
  have NBH : Hid (some w.heap.size ≠ vh.ownBlock ∧ some w.heap.size ≠ vh.ownBlock) := ⟨NBH0, NBH0⟩
  obtain ⟨b, hb⟩ : ∃ b, w.heap.size = b := ⟨_, rfl⟩
  obtain ⟨k1, k2⟩ := J1.out.two
  clear NBN0 NBH0 J A1 hiA' hz0 hz1 hz2 hiS' hy0 hy1 hy2 hok
  go_enter Tryd.func52, Tryd.ntmps52
  go_wp2_with fail
  refine (SC.out _).mono ?_
  rintro e w2 ⟨rfl, hb2⟩
  have J2 : Hid (Jb _ _ _ _ _ _ _ _ _ _ _ _ _ _ _ _ _ _ _ _ _ _ _) := J1.out.on hb2
  have c1 := J2.out.j.x.c1
  have f1 := frozen_of_row w2 p 1 _ _ J2.out.j.x
  have J3 : Hid (Jb we w0 (w2.setCell ⟨p, 1, none⟩ (.int .i64 x)) S p mb lo x wd vh vn vh vn vm Hs Ns ms w.heap.size L I w.heap.size L I) := ⟨J2.out.j.set1 x, (Below.heap_setCell _ _ _ _ J2.out.apart).trans J2.out.b, (Below.heap_setCell _ _ _ _ J2.out.apart).trans J2.out.b⟩
  clear hb2 J1 J2 k1 k2
  rw [hb] at J3 NBN NBH
  clear hb
  go_wp2_with fail
  generalize w2.setCell _ _ = v1 at J3 ⊢
  obtain ⟨va, vc, rfl⟩ := own_formS J3.out.j.n
  obtain ⟨ha, hc, rfl⟩ := own_formS J3.out.j.h
  obtain ⟨n, HN⟩ : ∃ n, Hid (Ns.length = n) := ⟨_, rfl⟩
  obtain ⟨m, HM⟩ : ∃ m, Hid (Hs.length = m) := ⟨_, rfl⟩
  rw [HN.out] at J3 NBN hlN
  rw [HM.out] at J3 NBH hlH
  have SJ : Hid (∀ {W : World} {vh' vn' : Value} {Hs' : List ByteArray} {Ns' : List (Nat × Nat)}, Jb we w0 W S p mb lo x wd (.slice ha m hc) (.slice va n vc) vh' vn' vm Hs' Ns' ms b L I b L I → W.cell? ⟨p, 4, none⟩ = some (.slice va n vc) ∧ W.cell? ⟨p, 2, none⟩ = some (.slice ha m hc) ∧ W.cell? ⟨b, 0, none⟩ = some (.int .i64 L) ∧ W.cell? ⟨b, 1, none⟩ = some (.int .i64 I)) := fun h => ⟨h.j.x.c4, h.j.x.c2, h.two.1, h.two.2⟩
  have E1 : Hid (∀ o, Below v1.heap.size v1 (v1.alloc o).drew) := fun o => below_dr ((Below.refl _ _).alloc (Nat.le_refl _) _)
  have E2 : Hid (∀ o o', Below v1.heap.size v1 ((v1.alloc o).alloc o').drew) := fun o o' => below_dr (((Below.refl _ _).alloc (Nat.le_refl _) _).alloc (by simp) _)
  have FR : Hid (∀ k, v1.heap.size ≤ k → some k ≠ (Value.slice va n vc).ownBlock) := fun k hk e => by have := (World.ownsRow.lt J3.out.j.n _ e.symm).2; omega
  have OW : Hid (∀ W, Below v1.heap.size v1 W → World.ownsRow W we.heap.size 36 2 (.slice va n vc) n (cls Ns)) := fun W hW => by have := (J3.out.on hW).j.n; unfold Nodes at this; rw [HN.out] at this; exact this
  have OH : Hid (∀ {W : World}, Texts W we.heap.size (.slice ha m hc) Hs → World.ownsRow W we.heap.size 9 1 (.slice ha m hc) m (Hs.map Value.string)) := fun h => by unfold Texts at h; rw [HM.out] at h; exact h
  have SZ : Hid (∀ W, Below v1.heap.size v1 W → we.heap.size ≤ W.heap.size) := fun W hW => (J3.out.on hW).j.e.size
  have LN : Hid (∀ {W : World} {v : Value}, World.ownsRow W we.heap.size 36 2 v (n + 1) (cls Ns ++ cl (L, I)) → Nodes W we.heap.size v (Ns ++ [(L, I)])) := fun h => by unfold Nodes; rw [List.length_append, HN.out, cls_app, cls_one]; exact h
  have LH : Hid (∀ {W : World} {v : Value}, World.ownsRow W we.heap.size 9 1 v (m + 1) (Hs.map Value.string ++ [.string h]) → Texts W we.heap.size v (Hs ++ [h])) := fun h => by unfold Texts; rw [List.length_append, HM.out, List.map_append]; exact h
  go_cut [34] (fun _ wx => ∃ vn' vh', Hid (Jb we w0 wx S p mb lo x wd vh' vn' vh' vn' vm (Hs ++ [h]) (Ns ++ [(L, I)]) ms b L I b L I) ∧ Hid (some b ≠ vn'.ownBlock))
  case first =>
    refine wp_region_noPanic ?_
    refine Go.Proofs.YtmmbkfagchaocaaDoor.za.till_start 19 (fun W => W.cell? ⟨p, 4, none⟩ = some (.slice va n vc) ∧ W.cell? ⟨p, 2, none⟩ = some (.slice ha m hc) ∧ W.cell? ⟨b, 0, none⟩ = some (.int .i64 L) ∧ W.cell? ⟨b, 1, none⟩ = some (.int .i64 I)) (by kernel_rfl) ?_
    refine Go.Proofs.YtmmbkfagchaocaaDoor.za.till_any_world (i := 0) (v := ?v1) ({ dst := some 18, op := Go.Op.move (Go.Operand.tmp 0), type := 67, pos := "comp.go:27", after := #[], guard := none }) rfl (by kernel_rfl) (by kernel_rfl) (by kernel_rfl) (fun _ _ _ h => h) (by decide) rfl (fun _ => SJ.out (J3.out.on (below_dr (Below.refl _ _)))) ?y1 ?r1
    case y1 => (intro w; go_simp; try with_reducible rfl)
    case r1 =>
    try simp only [Act.put, List.setIfInBounds_toArray, List.set_cons_zero, List.set_cons_succ]
    refine Go.Proofs.YtmmbkfagchaocaaDoor.za.till_any_world (i := 1) (v := ?v2) ({ dst := some 19, op := Go.Op.move (Go.Operand.tmp 0), type := 67, pos := "comp.go:27", after := #[{ on := 19, ground := Go.Ground.gcOnly Go.Departure.lateStores }], guard := none }) rfl (by kernel_rfl) (by kernel_rfl) (by kernel_rfl) (fun _ _ _ h => h) (by decide) rfl (fun _ => SJ.out (J3.out.on (below_dr (Below.refl _ _)))) ?y2 ?r2
    case y2 => (intro w; go_simp; try with_reducible rfl)
    case r2 =>
    try simp only [Act.put, List.setIfInBounds_toArray, List.set_cons_zero, List.set_cons_succ]
    refine Go.Proofs.YtmmbkfagchaocaaDoor.za.till_any_world (i := 2) (v := ?v3) ({ dst := some 20, op := Go.Op.move (Go.Operand.tmp 0), type := 67, pos := "comp.go:27", after := #[], guard := none }) rfl (by kernel_rfl) (by kernel_rfl) (by kernel_rfl) (fun _ _ _ h => h) (by decide) rfl (fun _ => SJ.out (J3.out.on (below_dr (Below.refl _ _)))) ?y3 ?r3
    case y3 => (intro w; go_simp; try with_reducible rfl)
    case r3 =>
    try simp only [Act.put, List.setIfInBounds_toArray, List.set_cons_zero, List.set_cons_succ]
    refine Go.Proofs.YtmmbkfagchaocaaDoor.za.till_any_world (i := 3) (v := ?v4) ({ dst := some 21, op := Go.Op.nilCheck (Go.Operand.tmp 20), type := 0, pos := "comp.go:27", after := #[{ on := 2, ground := Go.Ground.data }], guard := none }) rfl (by kernel_rfl) (by kernel_rfl) (by kernel_rfl) (fun _ _ _ h => h) (by decide) rfl (fun _ => SJ.out (J3.out.on (below_dr (Below.refl _ _)))) ?y4 ?r4
    case y4 => (intro w; go_simp; try with_reducible rfl)
    case r4 =>
    try simp only [Act.put, List.setIfInBounds_toArray, List.set_cons_zero, List.set_cons_succ]
    refine Go.Proofs.YtmmbkfagchaocaaDoor.za.till_any_world (i := 4) (v := ?v5) ({ dst := some 22, op := Go.Op.fieldAddr 98 (Go.Operand.tmp 21) 2, type := 0, pos := "comp.go:27", after := #[{ on := 3, ground := Go.Ground.data }], guard := none }) rfl (by kernel_rfl) (by kernel_rfl) (by kernel_rfl) (fun _ _ _ h => h) (by decide) rfl (fun _ => SJ.out (J3.out.on (below_dr (Below.refl _ _)))) ?y5 ?r5
    case y5 => (intro w; go_simp; try with_reducible rfl)
    case r5 =>
    try simp only [Act.put, List.setIfInBounds_toArray, List.set_cons_zero, List.set_cons_succ]
    refine Go.Proofs.YtmmbkfagchaocaaDoor.za.till_load (i := 5) (v := ?v6) ({ dst := some 23, op := Go.Op.load 63 (Go.Operand.tmp 22), type := 63, pos := "comp.go:27", after := #[{ on := 4, ground := Go.Ground.data }], guard := none }) rfl (by kernel_rfl) (by kernel_rfl) (by kernel_rfl) (fun _ _ _ h => h) (by decide) (by kernel_rfl) (by kernel_rfl) rfl (SJ.out (J3.out.on (below_dr (Below.refl _ _)))) ?y6 ?r6
    case y6 => (intro w hSw; (try dsimp only at hSw); go_simp; try with_reducible rfl)
    case r6 =>
    try simp only [Act.put, List.setIfInBounds_toArray, List.set_cons_zero, List.set_cons_succ]
    refine Go.Proofs.YtmmbkfagchaocaaDoor.za.till_load (i := 6) (v := ?v7) ({ dst := some 24, op := Go.Op.load 36 (Go.Operand.tmp 5), type := 36, pos := "comp.go:27", after := #[], guard := none }) rfl (by kernel_rfl) (by kernel_rfl) (by kernel_rfl) (fun _ _ _ h => h) (by decide) (by kernel_rfl) (by kernel_rfl) rfl (SJ.out (J3.out.on (below_dr (Below.refl _ _)))) ?y7 ?r7
    case y7 => (intro w hSw; (try dsimp only at hSw); go_simp; try with_reducible rfl)
    case r7 =>
    try simp only [Act.put, List.setIfInBounds_toArray, List.set_cons_zero, List.set_cons_succ]
    refine Go.Proofs.YtmmbkfagchaocaaDoor.za.till_any_world (i := 9) (v := ?v8) ({ dst := some 27, op := Go.Op.move (Go.Operand.tmp 0), type := 67, pos := "comp.go:27", after := #[], guard := none }) rfl (by kernel_rfl) (by kernel_rfl) (by kernel_rfl) (fun _ _ _ h => h) (by decide) rfl (fun _ => SJ.out (J3.out.on (below_dr (Below.refl _ _)))) ?y8 ?r8
    case y8 => (intro w; go_simp; try with_reducible rfl)
    case r8 =>
    try simp only [Act.put, List.setIfInBounds_toArray, List.set_cons_zero, List.set_cons_succ]
    refine Go.Proofs.YtmmbkfagchaocaaDoor.za.till_any_world (i := 10) (v := ?v9) ({ dst := some 28, op := Go.Op.nilCheck (Go.Operand.tmp 27), type := 0, pos := "comp.go:27", after := #[{ on := 9, ground := Go.Ground.data }], guard := none }) rfl (by kernel_rfl) (by kernel_rfl) (by kernel_rfl) (fun _ _ _ h => h) (by decide) rfl (fun _ => SJ.out (J3.out.on (below_dr (Below.refl _ _)))) ?y9 ?r9
    case y9 => (intro w; go_simp; try with_reducible rfl)
    case r9 =>
    try simp only [Act.put, List.setIfInBounds_toArray, List.set_cons_zero, List.set_cons_succ]
    refine Go.Proofs.YtmmbkfagchaocaaDoor.za.till_any_world (i := 11) (v := ?v10) ({ dst := some 29, op := Go.Op.fieldAddr 98 (Go.Operand.tmp 28) 0, type := 0, pos := "comp.go:27", after := #[{ on := 10, ground := Go.Ground.data }], guard := none }) rfl (by kernel_rfl) (by kernel_rfl) (by kernel_rfl) (fun _ _ _ h => h) (by decide) rfl (fun _ => SJ.out (J3.out.on (below_dr (Below.refl _ _)))) ?y10 ?r10
    case y10 => (intro w; go_simp; try with_reducible rfl)
    case r10 =>
    try simp only [Act.put, List.setIfInBounds_toArray, List.set_cons_zero, List.set_cons_succ]
    refine Go.Proofs.YtmmbkfagchaocaaDoor.za.till_any_world (i := 12) (v := ?v11) ({ dst := some 30, op := Go.Op.fieldAddr 24 (Go.Operand.tmp 29) 2, type := 0, pos := "comp.go:27", after := #[{ on := 11, ground := Go.Ground.data }], guard := none }) rfl (by kernel_rfl) (by kernel_rfl) (by kernel_rfl) (fun _ _ _ h => h) (by decide) rfl (fun _ => SJ.out (J3.out.on (below_dr (Below.refl _ _)))) ?y11 ?r11
    case y11 => (intro w; go_simp; try with_reducible rfl)
    case r11 =>
    try simp only [Act.put, List.setIfInBounds_toArray, List.set_cons_zero, List.set_cons_succ]
    refine Go.Proofs.YtmmbkfagchaocaaDoor.za.till_load (i := 13) (v := ?v12) ({ dst := some 31, op := Go.Op.load 22 (Go.Operand.tmp 30), type := 22, pos := "comp.go:27", after := #[{ on := 12, ground := Go.Ground.data }], guard := none }) rfl (by kernel_rfl) (by kernel_rfl) (by kernel_rfl) (fun _ _ _ h => h) (by decide) (by kernel_rfl) (by kernel_rfl) rfl (SJ.out (J3.out.on (below_dr (Below.refl _ _)))) ?y12 ?r12
    case y12 => (intro w hSw; (try dsimp only at hSw); go_simp; try with_reducible rfl)
    case r12 =>
    try simp only [Act.put, List.setIfInBounds_toArray, List.set_cons_zero, List.set_cons_succ]
    refine Go.Proofs.YtmmbkfagchaocaaDoor.za.till_any_world (i := 14) (v := ?v13) ({ dst := some 32, op := Go.Op.move (Go.Operand.tmp 2), type := 9, pos := "comp.go:27", after := #[], guard := none }) rfl (by kernel_rfl) (by kernel_rfl) (by kernel_rfl) (fun _ _ _ h => h) (by decide) rfl (fun _ => SJ.out (J3.out.on (below_dr (Below.refl _ _)))) ?y13 ?r13
    case y13 => (intro w; go_simp; try with_reducible rfl)
    case r13 =>
    try simp only [Act.put, List.setIfInBounds_toArray, List.set_cons_zero, List.set_cons_succ]
    refine Go.Proofs.YtmmbkfagchaocaaDoor.za.till_each (rs := [7, 15]) (by kernel_rfl) (by simp) ?_
    refine Go.Proofs.YtmmbkfagchaocaaDoor.za.each_cons ({ dst := some 25, op := Go.Op.buildSlice 63 1 #[(0, Go.Operand.tmp 24)], type := 63, pos := "comp.go:27", after := #[{ on := 6, ground := Go.Ground.data }], guard := none }) rfl (fun K hK => ?s14) ?m14
    case s14 =>
     go_simp
     refine hK.out _ _ (fun _ => SJ.out (J3.out.on (E1.out _))) ?_
     clear hK K
     try simp only [Act.put, List.setIfInBounds_toArray, List.set_cons_zero, List.set_cons_succ]
     refine Go.Proofs.YtmmbkfagchaocaaDoor.za.till_each (rs := [8, 15]) (by kernel_rfl) (by simp) ?_
     refine Go.Proofs.YtmmbkfagchaocaaDoor.za.each_cons ({ dst := some 26, op := Go.Op.call { callee := Go.Callee.builtin Go.Builtin.append, args := #[Go.Operand.tmp 23, Go.Operand.tmp 25], argTypes := #[63, 63] }, type := 63, pos := "comp.go:27", after := #[{ on := 5, ground := Go.Ground.data }, { on := 7, ground := Go.Ground.data }], guard := none }) rfl (fun K hK => ?s15) ?m15
     case s15 =>
      refine step_append_lies _ (by rfl) _ _ 63 (by rfl) we.heap.size 36 iA (.agg #[.int .i64 0, .int .i64 0]) 2 16 Tryd.underlying63 HIA.out.1 HIA.out.2.1 HIA.out.2.2.1 HIA.out.2.2.2 rfl (by decide) (.slice va n vc) n (cls Ns) (by rfl) (OW.out _ (E1.out _)) _ 1 1 (cl (L, I)) (by rfl) rfl (news2 (made0 _ _)) (one_cl _) (by omega) (by unfold maxLen; omega) (by omega) (SZ.out _ (E1.out _)) _ rfl ?_
      intro g7 cap7 w7 hown7 hgrow7 hlies7 hglt7
      have J7 : Hid (Jb we w0 w7 S p mb lo x wd (.slice ha m hc) (.slice va n vc) (.slice ha m hc) (.slice (some ⟨g7, 0, none⟩) (n + 1) cap7) vm Hs (Ns ++ [(L, I)]) ms b L I b L I) := Jb.growN (J3.out.on (E1.out _)) rfl NBN.out hgrow7 (LN.out hown7) (lies_to hlies7 (Nat.le_refl _))
      have RN : Hid (some b ≠ (Value.slice (some ⟨g7, 0, none⟩) (n + 1) cap7).ownBlock) := lies_ne hlies7 NBN.out.2 (J3.out.on (E1.out _)).ltr
      clear hown7 hgrow7 hlies7 hglt7
      refine hK.out _ _ (fun _ => SJ.out J7.out) ?_
      clear hK K
      try simp only [Act.put, List.setIfInBounds_toArray, List.set_cons_zero, List.set_cons_succ]
      refine Go.Proofs.YtmmbkfagchaocaaDoor.za.till_each (rs := [15]) (by kernel_rfl) (by simp) ?_
      refine Go.Proofs.YtmmbkfagchaocaaDoor.za.each_cons ({ dst := some 33, op := Go.Op.buildSlice 22 1 #[(0, Go.Operand.tmp 32)], type := 22, pos := "comp.go:27", after := #[{ on := 14, ground := Go.Ground.data }], guard := none }) rfl (fun K hK => ?_) Go.Proofs.YtmmbkfagchaocaaDoor.za.each_nil
      go_simp
      refine hK.out _ _ (fun _ => SJ.out (J7.out.on ((Below.refl _ _).alloc (Nat.le_refl _) _))) ?_
      clear hK K
      try simp only [Act.put, List.setIfInBounds_toArray, List.set_cons_zero, List.set_cons_succ]
      refine Go.Proofs.YtmmbkfagchaocaaDoor.za.till_each (rs := [16]) (by kernel_rfl) (by simp) ?_
      refine Go.Proofs.YtmmbkfagchaocaaDoor.za.each_cons ({ dst := some 34, op := Go.Op.call { callee := Go.Callee.builtin Go.Builtin.append, args := #[Go.Operand.tmp 31, Go.Operand.tmp 33], argTypes := #[22, 22] }, type := 22, pos := "comp.go:27", after := #[{ on := 13, ground := Go.Ground.data }, { on := 15, ground := Go.Ground.data }, { on := 8, ground := Go.Ground.chain }], guard := none }) rfl (fun K hK => ?_) Go.Proofs.YtmmbkfagchaocaaDoor.za.each_nil
      refine step_append_lies _ (by rfl) _ _ 22 (by rfl) we.heap.size 9 iS (.string ByteArray.empty) 1 16 Tryd.underlying22 HIS.out.1 HIS.out.2.1 HIS.out.2.2.1 HIS.out.2.2.2 rfl (by decide) (.slice ha m hc) m (Hs.map Value.string) (by rfl) (OH.out (J7.out.on ((Below.refl _ _).alloc (Nat.le_refl _) _)).j.h) _ 1 1 [.string h] (by rfl) rfl (news1 (heap_alloc_new _ _)) (one_str _) (by omega) (by unfold maxLen; omega) (by omega) (J7.out.on ((Below.refl _ _).alloc (Nat.le_refl _) _)).j.e.size _ rfl ?_
      intro g8 cap8 w8 hown8 hgrow8 hlies8 hglt8
      have J8 : Hid (Jb we w0 w8 S p mb lo x wd (.slice ha m hc) (.slice va n vc) (.slice (some ⟨g8, 0, none⟩) (m + 1) cap8) (.slice (some ⟨g7, 0, none⟩) (n + 1) cap7) vm (Hs ++ [h]) (Ns ++ [(L, I)]) ms b L I b L I) := Jb.growH (J7.out.on ((Below.refl _ _).alloc (Nat.le_refl _) _)) rfl NBH.out hgrow8 (LH.out hown8) (lies_to hlies8 (Nat.le_refl _))
      have t1 := J8.out.j.x.c4
      have t2 := frozen_of_row w8 p 4 _ _ J8.out.j.x
      have t3 := J8.out.j.x.c2
      have t4 := frozen_of_row w8 p 2 _ _ J8.out.j.x
      clear hown8 hgrow8 hlies8 hglt8
      refine hK.out _ _ (fun _ => SJ.out J8.out) ?_
      clear hK K
      try simp only [Act.put, List.setIfInBounds_toArray, List.set_cons_zero, List.set_cons_succ]
      refine Go.Proofs.YtmmbkfagchaocaaDoor.za.till_any_world (i := 17) (v := ?v16) ({ dst := some 35, op := Go.Op.nilCheck (Go.Operand.tmp 18), type := 0, pos := "comp.go:27", after := #[{ on := 0, ground := Go.Ground.data }, { on := 0, ground := Go.Ground.phase }, { on := 1, ground := Go.Ground.textOnly Go.Departure.lateStores }, { on := 2, ground := Go.Ground.phase }, { on := 3, ground := Go.Ground.phase }, { on := 4, ground := Go.Ground.phase }, { on := 5, ground := Go.Ground.phase }, { on := 6, ground := Go.Ground.phase }, { on := 7, ground := Go.Ground.phase }, { on := 8, ground := Go.Ground.phase }, { on := 9, ground := Go.Ground.textOnly Go.Departure.lateStores }, { on := 10, ground := Go.Ground.textOnly Go.Departure.lateStoresUnsure }, { on := 11, ground := Go.Ground.textOnly Go.Departure.lateStoresUnsure }, { on := 12, ground := Go.Ground.textOnly Go.Departure.lateStoresUnsure }, { on := 13, ground := Go.Ground.phase }, { on := 14, ground := Go.Ground.textOnly Go.Departure.lateStores }, { on := 15, ground := Go.Ground.textOnly Go.Departure.lateStoresUnsure }, { on := 16, ground := Go.Ground.phase }], guard := none }) rfl (by kernel_rfl) (by kernel_rfl) (by kernel_rfl) (fun _ _ _ h => h) (by decide) rfl (fun _ => SJ.out J8.out) ?y16 ?r16
      case y16 => (intro w; go_simp; try with_reducible rfl)
      case r16 =>
      try simp only [Act.put, List.setIfInBounds_toArray, List.set_cons_zero, List.set_cons_succ]
      refine Go.Proofs.YtmmbkfagchaocaaDoor.za.till_any_world (i := 18) (v := ?v17) ({ dst := some 36, op := Go.Op.fieldAddr 98 (Go.Operand.tmp 35) 2, type := 0, pos := "comp.go:27", after := #[{ on := 17, ground := Go.Ground.data }, { on := 0, ground := Go.Ground.phase }, { on := 1, ground := Go.Ground.textOnly Go.Departure.lateStores }, { on := 2, ground := Go.Ground.phase }, { on := 3, ground := Go.Ground.phase }, { on := 4, ground := Go.Ground.phase }, { on := 5, ground := Go.Ground.phase }, { on := 6, ground := Go.Ground.phase }, { on := 7, ground := Go.Ground.phase }, { on := 8, ground := Go.Ground.phase }, { on := 9, ground := Go.Ground.textOnly Go.Departure.lateStores }, { on := 10, ground := Go.Ground.textOnly Go.Departure.lateStoresUnsure }, { on := 11, ground := Go.Ground.textOnly Go.Departure.lateStoresUnsure }, { on := 12, ground := Go.Ground.textOnly Go.Departure.lateStoresUnsure }, { on := 13, ground := Go.Ground.phase }, { on := 14, ground := Go.Ground.textOnly Go.Departure.lateStores }, { on := 15, ground := Go.Ground.textOnly Go.Departure.lateStoresUnsure }, { on := 16, ground := Go.Ground.phase }], guard := none }) rfl (by kernel_rfl) (by kernel_rfl) (by kernel_rfl) (fun _ _ _ h => h) (by decide) rfl (fun _ => SJ.out J8.out) ?y17 ?r17
      case y17 => (intro w; go_simp; try with_reducible rfl)
      case r17 =>
      try simp only [Act.put, List.setIfInBounds_toArray, List.set_cons_zero, List.set_cons_succ]
      refine Go.Proofs.YtmmbkfagchaocaaDoor.za.till_each (rs := [19]) (by kernel_rfl) (by simp) ?_
      refine Go.Proofs.YtmmbkfagchaocaaDoor.za.each_cons ({ dst := none, op := Go.Op.store 63 (Go.Operand.tmp 36) (Go.Operand.tmp 26), type := 0, pos := "comp.go:27", after := #[{ on := 18, ground := Go.Ground.data }, { on := 8, ground := Go.Ground.data }, { on := 16, ground := Go.Ground.chain }, { on := 0, ground := Go.Ground.phase }, { on := 1, ground := Go.Ground.textOnly Go.Departure.lateStores }, { on := 2, ground := Go.Ground.phase }, { on := 3, ground := Go.Ground.phase }, { on := 4, ground := Go.Ground.phase }, { on := 5, ground := Go.Ground.phase }, { on := 6, ground := Go.Ground.phase }, { on := 7, ground := Go.Ground.phase }, { on := 8, ground := Go.Ground.phase }, { on := 9, ground := Go.Ground.textOnly Go.Departure.lateStores }, { on := 10, ground := Go.Ground.textOnly Go.Departure.lateStoresUnsure }, { on := 11, ground := Go.Ground.textOnly Go.Departure.lateStoresUnsure }, { on := 12, ground := Go.Ground.textOnly Go.Departure.lateStoresUnsure }, { on := 13, ground := Go.Ground.phase }, { on := 14, ground := Go.Ground.textOnly Go.Departure.lateStores }, { on := 15, ground := Go.Ground.textOnly Go.Departure.lateStoresUnsure }, { on := 16, ground := Go.Ground.phase }], guard := none }) rfl (fun K hK => ?_) Go.Proofs.YtmmbkfagchaocaaDoor.za.each_nil
      go_simp
      refine hK.out _ _ (late (by kernel_rfl)) ?_
      clear hK K
      try simp only [Act.put, List.setIfInBounds_toArray, List.set_cons_zero, List.set_cons_succ]
      refine Go.Proofs.YtmmbkfagchaocaaDoor.za.till_any_world (i := 20) (v := ?v18) ({ dst := some 37, op := Go.Op.nilCheck (Go.Operand.tmp 19), type := 0, pos := "comp.go:27", after := #[{ on := 1, ground := Go.Ground.data }, { on := 0, ground := Go.Ground.phase }, { on := 1, ground := Go.Ground.phase }, { on := 2, ground := Go.Ground.phase }, { on := 3, ground := Go.Ground.phase }, { on := 4, ground := Go.Ground.phase }, { on := 5, ground := Go.Ground.phase }, { on := 6, ground := Go.Ground.phase }, { on := 7, ground := Go.Ground.phase }, { on := 8, ground := Go.Ground.phase }, { on := 9, ground := Go.Ground.phase }, { on := 10, ground := Go.Ground.phase }, { on := 11, ground := Go.Ground.phase }, { on := 12, ground := Go.Ground.phase }, { on := 13, ground := Go.Ground.phase }, { on := 14, ground := Go.Ground.phase }, { on := 15, ground := Go.Ground.phase }, { on := 16, ground := Go.Ground.phase }, { on := 17, ground := Go.Ground.phase }, { on := 18, ground := Go.Ground.phase }, { on := 19, ground := Go.Ground.phase }], guard := none }) rfl (by kernel_rfl) (by kernel_rfl) (by kernel_rfl) (fun _ _ _ h => h) (by decide) rfl (late (by kernel_rfl)) ?y18 ?r18
      case y18 => (intro w; go_simp; try with_reducible rfl)
      case r18 =>
      try simp only [Act.put, List.setIfInBounds_toArray, List.set_cons_zero, List.set_cons_succ]
      refine Go.Proofs.YtmmbkfagchaocaaDoor.za.till_any_world (i := 21) (v := ?v19) ({ dst := some 38, op := Go.Op.fieldAddr 98 (Go.Operand.tmp 37) 0, type := 0, pos := "comp.go:27", after := #[{ on := 20, ground := Go.Ground.data }, { on := 0, ground := Go.Ground.phase }, { on := 1, ground := Go.Ground.phase }, { on := 2, ground := Go.Ground.phase }, { on := 3, ground := Go.Ground.phase }, { on := 4, ground := Go.Ground.phase }, { on := 5, ground := Go.Ground.phase }, { on := 6, ground := Go.Ground.phase }, { on := 7, ground := Go.Ground.phase }, { on := 8, ground := Go.Ground.phase }, { on := 9, ground := Go.Ground.phase }, { on := 10, ground := Go.Ground.phase }, { on := 11, ground := Go.Ground.phase }, { on := 12, ground := Go.Ground.phase }, { on := 13, ground := Go.Ground.phase }, { on := 14, ground := Go.Ground.phase }, { on := 15, ground := Go.Ground.phase }, { on := 16, ground := Go.Ground.phase }, { on := 17, ground := Go.Ground.phase }, { on := 18, ground := Go.Ground.phase }, { on := 19, ground := Go.Ground.phase }], guard := none }) rfl (by kernel_rfl) (by kernel_rfl) (by kernel_rfl) (fun _ _ _ h => h) (by decide) rfl (late (by kernel_rfl)) ?y19 ?r19
      case y19 => (intro w; go_simp; try with_reducible rfl)
      case r19 =>
      try simp only [Act.put, List.setIfInBounds_toArray, List.set_cons_zero, List.set_cons_succ]
      refine Go.Proofs.YtmmbkfagchaocaaDoor.za.till_any_world (i := 22) (v := ?v20) ({ dst := some 39, op := Go.Op.fieldAddr 24 (Go.Operand.tmp 38) 2, type := 0, pos := "comp.go:27", after := #[{ on := 21, ground := Go.Ground.data }, { on := 0, ground := Go.Ground.phase }, { on := 1, ground := Go.Ground.phase }, { on := 2, ground := Go.Ground.phase }, { on := 3, ground := Go.Ground.phase }, { on := 4, ground := Go.Ground.phase }, { on := 5, ground := Go.Ground.phase }, { on := 6, ground := Go.Ground.phase }, { on := 7, ground := Go.Ground.phase }, { on := 8, ground := Go.Ground.phase }, { on := 9, ground := Go.Ground.phase }, { on := 10, ground := Go.Ground.phase }, { on := 11, ground := Go.Ground.phase }, { on := 12, ground := Go.Ground.phase }, { on := 13, ground := Go.Ground.phase }, { on := 14, ground := Go.Ground.phase }, { on := 15, ground := Go.Ground.phase }, { on := 16, ground := Go.Ground.phase }, { on := 17, ground := Go.Ground.phase }, { on := 18, ground := Go.Ground.phase }, { on := 19, ground := Go.Ground.phase }], guard := none }) rfl (by kernel_rfl) (by kernel_rfl) (by kernel_rfl) (fun _ _ _ h => h) (by decide) rfl (late (by kernel_rfl)) ?y20 ?r20
      case y20 => (intro w; go_simp; try with_reducible rfl)
      case r20 =>
      try simp only [Act.put, List.setIfInBounds_toArray, List.set_cons_zero, List.set_cons_succ]
      refine Go.Proofs.YtmmbkfagchaocaaDoor.za.till_each (rs := [23]) (by kernel_rfl) (by simp) ?_
      refine Go.Proofs.YtmmbkfagchaocaaDoor.za.each_cons ({ dst := none, op := Go.Op.store 22 (Go.Operand.tmp 39) (Go.Operand.tmp 34), type := 0, pos := "comp.go:27", after := #[{ on := 22, ground := Go.Ground.data }, { on := 16, ground := Go.Ground.data }, { on := 19, ground := Go.Ground.chain }, { on := 0, ground := Go.Ground.phase }, { on := 1, ground := Go.Ground.phase }, { on := 2, ground := Go.Ground.phase }, { on := 3, ground := Go.Ground.phase }, { on := 4, ground := Go.Ground.phase }, { on := 5, ground := Go.Ground.phase }, { on := 6, ground := Go.Ground.phase }, { on := 7, ground := Go.Ground.phase }, { on := 8, ground := Go.Ground.phase }, { on := 9, ground := Go.Ground.phase }, { on := 10, ground := Go.Ground.phase }, { on := 11, ground := Go.Ground.phase }, { on := 12, ground := Go.Ground.phase }, { on := 13, ground := Go.Ground.phase }, { on := 14, ground := Go.Ground.phase }, { on := 15, ground := Go.Ground.phase }, { on := 16, ground := Go.Ground.phase }, { on := 17, ground := Go.Ground.phase }, { on := 18, ground := Go.Ground.phase }, { on := 19, ground := Go.Ground.phase }], guard := none }) rfl (fun K hK => ?_) Go.Proofs.YtmmbkfagchaocaaDoor.za.each_nil
      go_simp
      refine hK.out _ _ (late (by kernel_rfl)) ?_
      clear hK K
      try simp only [Act.put, List.setIfInBounds_toArray, List.set_cons_zero, List.set_cons_succ]
      refine Go.Proofs.YtmmbkfagchaocaaDoor.za.till_done (by kernel_rfl) ?_
      refine NoPanic.normal ?_
      go_wp2_with fail
      go_meet
      exact ⟨_, _, J8.out.set24 _ _, RN.out⟩
     case m15 =>
     refine Go.Proofs.YtmmbkfagchaocaaDoor.za.each_cons ({ dst := some 33, op := Go.Op.buildSlice 22 1 #[(0, Go.Operand.tmp 32)], type := 22, pos := "comp.go:27", after := #[{ on := 14, ground := Go.Ground.data }], guard := none }) rfl (fun K hK => ?s21) ?m21
     case s21 =>
      go_simp
      refine hK.out _ _ (fun _ => SJ.out (J3.out.on (E2.out _ _))) ?_
      clear hK K
      try simp only [Act.put, List.setIfInBounds_toArray, List.set_cons_zero, List.set_cons_succ]
      refine Go.Proofs.YtmmbkfagchaocaaDoor.za.till_each (rs := [8]) (by kernel_rfl) (by simp) ?_
      refine Go.Proofs.YtmmbkfagchaocaaDoor.za.each_cons ({ dst := some 26, op := Go.Op.call { callee := Go.Callee.builtin Go.Builtin.append, args := #[Go.Operand.tmp 23, Go.Operand.tmp 25], argTypes := #[63, 63] }, type := 63, pos := "comp.go:27", after := #[{ on := 5, ground := Go.Ground.data }, { on := 7, ground := Go.Ground.data }], guard := none }) rfl (fun K hK => ?_) Go.Proofs.YtmmbkfagchaocaaDoor.za.each_nil
      refine step_append_lies _ (by rfl) _ _ 63 (by rfl) we.heap.size 36 iA (.agg #[.int .i64 0, .int .i64 0]) 2 16 Tryd.underlying63 HIA.out.1 HIA.out.2.1 HIA.out.2.2.1 HIA.out.2.2.2 rfl (by decide) (.slice va n vc) n (cls Ns) (by rfl) (OW.out _ (E2.out _ _)) _ 1 1 (cl (L, I)) (by rfl) rfl (news2 (made0' _ _ _)) (one_cl _) (by omega) (by unfold maxLen; omega) (by omega) (SZ.out _ (E2.out _ _)) _ rfl ?_
      intro g7 cap7 w7 hown7 hgrow7 hlies7 hglt7
      have J7 : Hid (Jb we w0 w7 S p mb lo x wd (.slice ha m hc) (.slice va n vc) (.slice ha m hc) (.slice (some ⟨g7, 0, none⟩) (n + 1) cap7) vm Hs (Ns ++ [(L, I)]) ms b L I b L I) := Jb.growN (J3.out.on (E2.out _ _)) rfl NBN.out hgrow7 (LN.out hown7) (lies_to hlies7 (Nat.le_refl _))
      have RN : Hid (some b ≠ (Value.slice (some ⟨g7, 0, none⟩) (n + 1) cap7).ownBlock) := lies_ne hlies7 NBN.out.2 (J3.out.on (E2.out _ _)).ltr
      have NB : Hid (w7.heap[v1.heap.size + 1]? = some (.cells #[.string h] 9 (0, 0))) := (hgrow7.block _ (by simp <;> omega) (FR.out _ (by omega))).trans (made1 _ _ _)
      clear hown7 hgrow7 hlies7 hglt7
      refine hK.out _ _ (fun _ => SJ.out J7.out) ?_
      clear hK K
      try simp only [Act.put, List.setIfInBounds_toArray, List.set_cons_zero, List.set_cons_succ]
      refine Go.Proofs.YtmmbkfagchaocaaDoor.za.till_each (rs := [16]) (by kernel_rfl) (by simp) ?_
      refine Go.Proofs.YtmmbkfagchaocaaDoor.za.each_cons ({ dst := some 34, op := Go.Op.call { callee := Go.Callee.builtin Go.Builtin.append, args := #[Go.Operand.tmp 31, Go.Operand.tmp 33], argTypes := #[22, 22] }, type := 22, pos := "comp.go:27", after := #[{ on := 13, ground := Go.Ground.data }, { on := 15, ground := Go.Ground.data }, { on := 8, ground := Go.Ground.chain }], guard := none }) rfl (fun K hK => ?_) Go.Proofs.YtmmbkfagchaocaaDoor.za.each_nil
      refine step_append_lies _ (by rfl) _ _ 22 (by rfl) we.heap.size 9 iS (.string ByteArray.empty) 1 16 Tryd.underlying22 HIS.out.1 HIS.out.2.1 HIS.out.2.2.1 HIS.out.2.2.2 rfl (by decide) (.slice ha m hc) m (Hs.map Value.string) (by rfl) (OH.out J7.out.j.h) _ 1 1 [.string h] (by rfl) rfl (news1 (NB.out)) (one_str _) (by omega) (by unfold maxLen; omega) (by omega) J7.out.j.e.size _ rfl ?_
      intro g8 cap8 w8 hown8 hgrow8 hlies8 hglt8
      have J8 : Hid (Jb we w0 w8 S p mb lo x wd (.slice ha m hc) (.slice va n vc) (.slice (some ⟨g8, 0, none⟩) (m + 1) cap8) (.slice (some ⟨g7, 0, none⟩) (n + 1) cap7) vm (Hs ++ [h]) (Ns ++ [(L, I)]) ms b L I b L I) := Jb.growH J7.out rfl NBH.out hgrow8 (LH.out hown8) (lies_to hlies8 (Nat.le_refl _))
      have t1 := J8.out.j.x.c4
      have t2 := frozen_of_row w8 p 4 _ _ J8.out.j.x
      have t3 := J8.out.j.x.c2
      have t4 := frozen_of_row w8 p 2 _ _ J8.out.j.x
      clear hown8 hgrow8 hlies8 hglt8
      refine hK.out _ _ (fun _ => SJ.out J8.out) ?_
      clear hK K
      try simp only [Act.put, List.setIfInBounds_toArray, List.set_cons_zero, List.set_cons_succ]
      refine Go.Proofs.YtmmbkfagchaocaaDoor.za.till_any_world (i := 17) (v := ?v22) ({ dst := some 35, op := Go.Op.nilCheck (Go.Operand.tmp 18), type := 0, pos := "comp.go:27", after := #[{ on := 0, ground := Go.Ground.data }, { on := 0, ground := Go.Ground.phase }, { on := 1, ground := Go.Ground.textOnly Go.Departure.lateStores }, { on := 2, ground := Go.Ground.phase }, { on := 3, ground := Go.Ground.phase }, { on := 4, ground := Go.Ground.phase }, { on := 5, ground := Go.Ground.phase }, { on := 6, ground := Go.Ground.phase }, { on := 7, ground := Go.Ground.phase }, { on := 8, ground := Go.Ground.phase }, { on := 9, ground := Go.Ground.textOnly Go.Departure.lateStores }, { on := 10, ground := Go.Ground.textOnly Go.Departure.lateStoresUnsure }, { on := 11, ground := Go.Ground.textOnly Go.Departure.lateStoresUnsure }, { on := 12, ground := Go.Ground.textOnly Go.Departure.lateStoresUnsure }, { on := 13, ground := Go.Ground.phase }, { on := 14, ground := Go.Ground.textOnly Go.Departure.lateStores }, { on := 15, ground := Go.Ground.textOnly Go.Departure.lateStoresUnsure }, { on := 16, ground := Go.Ground.phase }], guard := none }) rfl (by kernel_rfl) (by kernel_rfl) (by kernel_rfl) (fun _ _ _ h => h) (by decide) rfl (fun _ => SJ.out J8.out) ?y22 ?r22
      case y22 => (intro w; go_simp; try with_reducible rfl)
      case r22 =>
      try simp only [Act.put, List.setIfInBounds_toArray, List.set_cons_zero, List.set_cons_succ]
      refine Go.Proofs.YtmmbkfagchaocaaDoor.za.till_any_world (i := 18) (v := ?v23) ({ dst := some 36, op := Go.Op.fieldAddr 98 (Go.Operand.tmp 35) 2, type := 0, pos := "comp.go:27", after := #[{ on := 17, ground := Go.Ground.data }, { on := 0, ground := Go.Ground.phase }, { on := 1, ground := Go.Ground.textOnly Go.Departure.lateStores }, { on := 2, ground := Go.Ground.phase }, { on := 3, ground := Go.Ground.phase }, { on := 4, ground := Go.Ground.phase }, { on := 5, ground := Go.Ground.phase }, { on := 6, ground := Go.Ground.phase }, { on := 7, ground := Go.Ground.phase }, { on := 8, ground := Go.Ground.phase }, { on := 9, ground := Go.Ground.textOnly Go.Departure.lateStores }, { on := 10, ground := Go.Ground.textOnly Go.Departure.lateStoresUnsure }, { on := 11, ground := Go.Ground.textOnly Go.Departure.lateStoresUnsure }, { on := 12, ground := Go.Ground.textOnly Go.Departure.lateStoresUnsure }, { on := 13, ground := Go.Ground.phase }, { on := 14, ground := Go.Ground.textOnly Go.Departure.lateStores }, { on := 15, ground := Go.Ground.textOnly Go.Departure.lateStoresUnsure }, { on := 16, ground := Go.Ground.phase }], guard := none }) rfl (by kernel_rfl) (by kernel_rfl) (by kernel_rfl) (fun _ _ _ h => h) (by decide) rfl (fun _ => SJ.out J8.out) ?y23 ?r23
      case y23 => (intro w; go_simp; try with_reducible rfl)
      case r23 =>
      try simp only [Act.put, List.setIfInBounds_toArray, List.set_cons_zero, List.set_cons_succ]
      refine Go.Proofs.YtmmbkfagchaocaaDoor.za.till_each (rs := [19]) (by kernel_rfl) (by simp) ?_
      refine Go.Proofs.YtmmbkfagchaocaaDoor.za.each_cons ({ dst := none, op := Go.Op.store 63 (Go.Operand.tmp 36) (Go.Operand.tmp 26), type := 0, pos := "comp.go:27", after := #[{ on := 18, ground := Go.Ground.data }, { on := 8, ground := Go.Ground.data }, { on := 16, ground := Go.Ground.chain }, { on := 0, ground := Go.Ground.phase }, { on := 1, ground := Go.Ground.textOnly Go.Departure.lateStores }, { on := 2, ground := Go.Ground.phase }, { on := 3, ground := Go.Ground.phase }, { on := 4, ground := Go.Ground.phase }, { on := 5, ground := Go.Ground.phase }, { on := 6, ground := Go.Ground.phase }, { on := 7, ground := Go.Ground.phase }, { on := 8, ground := Go.Ground.phase }, { on := 9, ground := Go.Ground.textOnly Go.Departure.lateStores }, { on := 10, ground := Go.Ground.textOnly Go.Departure.lateStoresUnsure }, { on := 11, ground := Go.Ground.textOnly Go.Departure.lateStoresUnsure }, { on := 12, ground := Go.Ground.textOnly Go.Departure.lateStoresUnsure }, { on := 13, ground := Go.Ground.phase }, { on := 14, ground := Go.Ground.textOnly Go.Departure.lateStores }, { on := 15, ground := Go.Ground.textOnly Go.Departure.lateStoresUnsure }, { on := 16, ground := Go.Ground.phase }], guard := none }) rfl (fun K hK => ?_) Go.Proofs.YtmmbkfagchaocaaDoor.za.each_nil
      go_simp
      refine hK.out _ _ (late (by kernel_rfl)) ?_
      clear hK K
      try simp only [Act.put, List.setIfInBounds_toArray, List.set_cons_zero, List.set_cons_succ]
      refine Go.Proofs.YtmmbkfagchaocaaDoor.za.till_any_world (i := 20) (v := ?v24) ({ dst := some 37, op := Go.Op.nilCheck (Go.Operand.tmp 19), type := 0, pos := "comp.go:27", after := #[{ on := 1, ground := Go.Ground.data }, { on := 0, ground := Go.Ground.phase }, { on := 1, ground := Go.Ground.phase }, { on := 2, ground := Go.Ground.phase }, { on := 3, ground := Go.Ground.phase }, { on := 4, ground := Go.Ground.phase }, { on := 5, ground := Go.Ground.phase }, { on := 6, ground := Go.Ground.phase }, { on := 7, ground := Go.Ground.phase }, { on := 8, ground := Go.Ground.phase }, { on := 9, ground := Go.Ground.phase }, { on := 10, ground := Go.Ground.phase }, { on := 11, ground := Go.Ground.phase }, { on := 12, ground := Go.Ground.phase }, { on := 13, ground := Go.Ground.phase }, { on := 14, ground := Go.Ground.phase }, { on := 15, ground := Go.Ground.phase }, { on := 16, ground := Go.Ground.phase }, { on := 17, ground := Go.Ground.phase }, { on := 18, ground := Go.Ground.phase }, { on := 19, ground := Go.Ground.phase }], guard := none }) rfl (by kernel_rfl) (by kernel_rfl) (by kernel_rfl) (fun _ _ _ h => h) (by decide) rfl (late (by kernel_rfl)) ?y24 ?r24
      case y24 => (intro w; go_simp; try with_reducible rfl)
      case r24 =>
      try simp only [Act.put, List.setIfInBounds_toArray, List.set_cons_zero, List.set_cons_succ]
      refine Go.Proofs.YtmmbkfagchaocaaDoor.za.till_any_world (i := 21) (v := ?v25) ({ dst := some 38, op := Go.Op.fieldAddr 98 (Go.Operand.tmp 37) 0, type := 0, pos := "comp.go:27", after := #[{ on := 20, ground := Go.Ground.data }, { on := 0, ground := Go.Ground.phase }, { on := 1, ground := Go.Ground.phase }, { on := 2, ground := Go.Ground.phase }, { on := 3, ground := Go.Ground.phase }, { on := 4, ground := Go.Ground.phase }, { on := 5, ground := Go.Ground.phase }, { on := 6, ground := Go.Ground.phase }, { on := 7, ground := Go.Ground.phase }, { on := 8, ground := Go.Ground.phase }, { on := 9, ground := Go.Ground.phase }, { on := 10, ground := Go.Ground.phase }, { on := 11, ground := Go.Ground.phase }, { on := 12, ground := Go.Ground.phase }, { on := 13, ground := Go.Ground.phase }, { on := 14, ground := Go.Ground.phase }, { on := 15, ground := Go.Ground.phase }, { on := 16, ground := Go.Ground.phase }, { on := 17, ground := Go.Ground.phase }, { on := 18, ground := Go.Ground.phase }, { on := 19, ground := Go.Ground.phase }], guard := none }) rfl (by kernel_rfl) (by kernel_rfl) (by kernel_rfl) (fun _ _ _ h => h) (by decide) rfl (late (by kernel_rfl)) ?y25 ?r25
      case y25 => (intro w; go_simp; try with_reducible rfl)
      case r25 =>
      try simp only [Act.put, List.setIfInBounds_toArray, List.set_cons_zero, List.set_cons_succ]
      refine Go.Proofs.YtmmbkfagchaocaaDoor.za.till_any_world (i := 22) (v := ?v26) ({ dst := some 39, op := Go.Op.fieldAddr 24 (Go.Operand.tmp 38) 2, type := 0, pos := "comp.go:27", after := #[{ on := 21, ground := Go.Ground.data }, { on := 0, ground := Go.Ground.phase }, { on := 1, ground := Go.Ground.phase }, { on := 2, ground := Go.Ground.phase }, { on := 3, ground := Go.Ground.phase }, { on := 4, ground := Go.Ground.phase }, { on := 5, ground := Go.Ground.phase }, { on := 6, ground := Go.Ground.phase }, { on := 7, ground := Go.Ground.phase }, { on := 8, ground := Go.Ground.phase }, { on := 9, ground := Go.Ground.phase }, { on := 10, ground := Go.Ground.phase }, { on := 11, ground := Go.Ground.phase }, { on := 12, ground := Go.Ground.phase }, { on := 13, ground := Go.Ground.phase }, { on := 14, ground := Go.Ground.phase }, { on := 15, ground := Go.Ground.phase }, { on := 16, ground := Go.Ground.phase }, { on := 17, ground := Go.Ground.phase }, { on := 18, ground := Go.Ground.phase }, { on := 19, ground := Go.Ground.phase }], guard := none }) rfl (by kernel_rfl) (by kernel_rfl) (by kernel_rfl) (fun _ _ _ h => h) (by decide) rfl (late (by kernel_rfl)) ?y26 ?r26
      case y26 => (intro w; go_simp; try with_reducible rfl)
      case r26 =>
      try simp only [Act.put, List.setIfInBounds_toArray, List.set_cons_zero, List.set_cons_succ]
      refine Go.Proofs.YtmmbkfagchaocaaDoor.za.till_each (rs := [23]) (by kernel_rfl) (by simp) ?_
      refine Go.Proofs.YtmmbkfagchaocaaDoor.za.each_cons ({ dst := none, op := Go.Op.store 22 (Go.Operand.tmp 39) (Go.Operand.tmp 34), type := 0, pos := "comp.go:27", after := #[{ on := 22, ground := Go.Ground.data }, { on := 16, ground := Go.Ground.data }, { on := 19, ground := Go.Ground.chain }, { on := 0, ground := Go.Ground.phase }, { on := 1, ground := Go.Ground.phase }, { on := 2, ground := Go.Ground.phase }, { on := 3, ground := Go.Ground.phase }, { on := 4, ground := Go.Ground.phase }, { on := 5, ground := Go.Ground.phase }, { on := 6, ground := Go.Ground.phase }, { on := 7, ground := Go.Ground.phase }, { on := 8, ground := Go.Ground.phase }, { on := 9, ground := Go.Ground.phase }, { on := 10, ground := Go.Ground.phase }, { on := 11, ground := Go.Ground.phase }, { on := 12, ground := Go.Ground.phase }, { on := 13, ground := Go.Ground.phase }, { on := 14, ground := Go.Ground.phase }, { on := 15, ground := Go.Ground.phase }, { on := 16, ground := Go.Ground.phase }, { on := 17, ground := Go.Ground.phase }, { on := 18, ground := Go.Ground.phase }, { on := 19, ground := Go.Ground.phase }], guard := none }) rfl (fun K hK => ?_) Go.Proofs.YtmmbkfagchaocaaDoor.za.each_nil
      go_simp
      refine hK.out _ _ (late (by kernel_rfl)) ?_
      clear hK K
      try simp only [Act.put, List.setIfInBounds_toArray, List.set_cons_zero, List.set_cons_succ]
      refine Go.Proofs.YtmmbkfagchaocaaDoor.za.till_done (by kernel_rfl) ?_
      refine NoPanic.normal ?_
      go_wp2_with fail
      go_meet
      exact ⟨_, _, J8.out.set24 _ _, RN.out⟩
     case m21 => exact Go.Proofs.YtmmbkfagchaocaaDoor.za.each_nil
    case m14 =>
    refine Go.Proofs.YtmmbkfagchaocaaDoor.za.each_cons ({ dst := some 33, op := Go.Op.buildSlice 22 1 #[(0, Go.Operand.tmp 32)], type := 22, pos := "comp.go:27", after := #[{ on := 14, ground := Go.Ground.data }], guard := none }) rfl (fun K hK => ?s27) ?m27
    case s27 =>
     go_simp
     refine hK.out _ _ (fun _ => SJ.out (J3.out.on (E1.out _))) ?_
     clear hK K
     try simp only [Act.put, List.setIfInBounds_toArray, List.set_cons_zero, List.set_cons_succ]
     refine Go.Proofs.YtmmbkfagchaocaaDoor.za.till_each (rs := [7]) (by kernel_rfl) (by simp) ?_
     refine Go.Proofs.YtmmbkfagchaocaaDoor.za.each_cons ({ dst := some 25, op := Go.Op.buildSlice 63 1 #[(0, Go.Operand.tmp 24)], type := 63, pos := "comp.go:27", after := #[{ on := 6, ground := Go.Ground.data }], guard := none }) rfl (fun K hK => ?_) Go.Proofs.YtmmbkfagchaocaaDoor.za.each_nil
     go_simp
     refine hK.out _ _ (fun _ => SJ.out (J3.out.on (E2.out _ _))) ?_
     clear hK K
     try simp only [Act.put, List.setIfInBounds_toArray, List.set_cons_zero, List.set_cons_succ]
     refine Go.Proofs.YtmmbkfagchaocaaDoor.za.till_each (rs := [8]) (by kernel_rfl) (by simp) ?_
     refine Go.Proofs.YtmmbkfagchaocaaDoor.za.each_cons ({ dst := some 26, op := Go.Op.call { callee := Go.Callee.builtin Go.Builtin.append, args := #[Go.Operand.tmp 23, Go.Operand.tmp 25], argTypes := #[63, 63] }, type := 63, pos := "comp.go:27", after := #[{ on := 5, ground := Go.Ground.data }, { on := 7, ground := Go.Ground.data }], guard := none }) rfl (fun K hK => ?_) Go.Proofs.YtmmbkfagchaocaaDoor.za.each_nil
     refine step_append_lies _ (by rfl) _ _ 63 (by rfl) we.heap.size 36 iA (.agg #[.int .i64 0, .int .i64 0]) 2 16 Tryd.underlying63 HIA.out.1 HIA.out.2.1 HIA.out.2.2.1 HIA.out.2.2.2 rfl (by decide) (.slice va n vc) n (cls Ns) (by rfl) (OW.out _ (E2.out _ _)) _ 1 1 (cl (L, I)) (by rfl) rfl (news2 (made1 _ _ _)) (one_cl _) (by omega) (by unfold maxLen; omega) (by omega) (SZ.out _ (E2.out _ _)) _ rfl ?_
     intro g7 cap7 w7 hown7 hgrow7 hlies7 hglt7
     have J7 : Hid (Jb we w0 w7 S p mb lo x wd (.slice ha m hc) (.slice va n vc) (.slice ha m hc) (.slice (some ⟨g7, 0, none⟩) (n + 1) cap7) vm Hs (Ns ++ [(L, I)]) ms b L I b L I) := Jb.growN (J3.out.on (E2.out _ _)) rfl NBN.out hgrow7 (LN.out hown7) (lies_to hlies7 (Nat.le_refl _))
     have RN : Hid (some b ≠ (Value.slice (some ⟨g7, 0, none⟩) (n + 1) cap7).ownBlock) := lies_ne hlies7 NBN.out.2 (J3.out.on (E2.out _ _)).ltr
     have NB : Hid (w7.heap[v1.heap.size]? = some (.cells #[.string h] 9 (0, 0))) := (hgrow7.block _ (by simp <;> omega) (FR.out _ (Nat.le_refl _))).trans (made0' _ _ _)
     clear hown7 hgrow7 hlies7 hglt7
     refine hK.out _ _ (fun _ => SJ.out J7.out) ?_
     clear hK K
     try simp only [Act.put, List.setIfInBounds_toArray, List.set_cons_zero, List.set_cons_succ]
     refine Go.Proofs.YtmmbkfagchaocaaDoor.za.till_each (rs := [16]) (by kernel_rfl) (by simp) ?_
     refine Go.Proofs.YtmmbkfagchaocaaDoor.za.each_cons ({ dst := some 34, op := Go.Op.call { callee := Go.Callee.builtin Go.Builtin.append, args := #[Go.Operand.tmp 31, Go.Operand.tmp 33], argTypes := #[22, 22] }, type := 22, pos := "comp.go:27", after := #[{ on := 13, ground := Go.Ground.data }, { on := 15, ground := Go.Ground.data }, { on := 8, ground := Go.Ground.chain }], guard := none }) rfl (fun K hK => ?_) Go.Proofs.YtmmbkfagchaocaaDoor.za.each_nil
     refine step_append_lies _ (by rfl) _ _ 22 (by rfl) we.heap.size 9 iS (.string ByteArray.empty) 1 16 Tryd.underlying22 HIS.out.1 HIS.out.2.1 HIS.out.2.2.1 HIS.out.2.2.2 rfl (by decide) (.slice ha m hc) m (Hs.map Value.string) (by rfl) (OH.out J7.out.j.h) _ 1 1 [.string h] (by rfl) rfl (news1 (NB.out)) (one_str _) (by omega) (by unfold maxLen; omega) (by omega) J7.out.j.e.size _ rfl ?_
     intro g8 cap8 w8 hown8 hgrow8 hlies8 hglt8
     have J8 : Hid (Jb we w0 w8 S p mb lo x wd (.slice ha m hc) (.slice va n vc) (.slice (some ⟨g8, 0, none⟩) (m + 1) cap8) (.slice (some ⟨g7, 0, none⟩) (n + 1) cap7) vm (Hs ++ [h]) (Ns ++ [(L, I)]) ms b L I b L I) := Jb.growH J7.out rfl NBH.out hgrow8 (LH.out hown8) (lies_to hlies8 (Nat.le_refl _))
     have t1 := J8.out.j.x.c4
     have t2 := frozen_of_row w8 p 4 _ _ J8.out.j.x
     have t3 := J8.out.j.x.c2
     have t4 := frozen_of_row w8 p 2 _ _ J8.out.j.x
     clear hown8 hgrow8 hlies8 hglt8
     refine hK.out _ _ (fun _ => SJ.out J8.out) ?_
     clear hK K
     try simp only [Act.put, List.setIfInBounds_toArray, List.set_cons_zero, List.set_cons_succ]
     refine Go.Proofs.YtmmbkfagchaocaaDoor.za.till_any_world (i := 17) (v := ?v28) ({ dst := some 35, op := Go.Op.nilCheck (Go.Operand.tmp 18), type := 0, pos := "comp.go:27", after := #[{ on := 0, ground := Go.Ground.data }, { on := 0, ground := Go.Ground.phase }, { on := 1, ground := Go.Ground.textOnly Go.Departure.lateStores }, { on := 2, ground := Go.Ground.phase }, { on := 3, ground := Go.Ground.phase }, { on := 4, ground := Go.Ground.phase }, { on := 5, ground := Go.Ground.phase }, { on := 6, ground := Go.Ground.phase }, { on := 7, ground := Go.Ground.phase }, { on := 8, ground := Go.Ground.phase }, { on := 9, ground := Go.Ground.textOnly Go.Departure.lateStores }, { on := 10, ground := Go.Ground.textOnly Go.Departure.lateStoresUnsure }, { on := 11, ground := Go.Ground.textOnly Go.Departure.lateStoresUnsure }, { on := 12, ground := Go.Ground.textOnly Go.Departure.lateStoresUnsure }, { on := 13, ground := Go.Ground.phase }, { on := 14, ground := Go.Ground.textOnly Go.Departure.lateStores }, { on := 15, ground := Go.Ground.textOnly Go.Departure.lateStoresUnsure }, { on := 16, ground := Go.Ground.phase }], guard := none }) rfl (by kernel_rfl) (by kernel_rfl) (by kernel_rfl) (fun _ _ _ h => h) (by decide) rfl (fun _ => SJ.out J8.out) ?y28 ?r28
     case y28 => (intro w; go_simp; try with_reducible rfl)
     case r28 =>
     try simp only [Act.put, List.setIfInBounds_toArray, List.set_cons_zero, List.set_cons_succ]
     refine Go.Proofs.YtmmbkfagchaocaaDoor.za.till_any_world (i := 18) (v := ?v29) ({ dst := some 36, op := Go.Op.fieldAddr 98 (Go.Operand.tmp 35) 2, type := 0, pos := "comp.go:27", after := #[{ on := 17, ground := Go.Ground.data }, { on := 0, ground := Go.Ground.phase }, { on := 1, ground := Go.Ground.textOnly Go.Departure.lateStores }, { on := 2, ground := Go.Ground.phase }, { on := 3, ground := Go.Ground.phase }, { on := 4, ground := Go.Ground.phase }, { on := 5, ground := Go.Ground.phase }, { on := 6, ground := Go.Ground.phase }, { on := 7, ground := Go.Ground.phase }, { on := 8, ground := Go.Ground.phase }, { on := 9, ground := Go.Ground.textOnly Go.Departure.lateStores }, { on := 10, ground := Go.Ground.textOnly Go.Departure.lateStoresUnsure }, { on := 11, ground := Go.Ground.textOnly Go.Departure.lateStoresUnsure }, { on := 12, ground := Go.Ground.textOnly Go.Departure.lateStoresUnsure }, { on := 13, ground := Go.Ground.phase }, { on := 14, ground := Go.Ground.textOnly Go.Departure.lateStores }, { on := 15, ground := Go.Ground.textOnly Go.Departure.lateStoresUnsure }, { on := 16, ground := Go.Ground.phase }], guard := none }) rfl (by kernel_rfl) (by kernel_rfl) (by kernel_rfl) (fun _ _ _ h => h) (by decide) rfl (fun _ => SJ.out J8.out) ?y29 ?r29
     case y29 => (intro w; go_simp; try with_reducible rfl)
     case r29 =>
     try simp only [Act.put, List.setIfInBounds_toArray, List.set_cons_zero, List.set_cons_succ]
     refine Go.Proofs.YtmmbkfagchaocaaDoor.za.till_each (rs := [19]) (by kernel_rfl) (by simp) ?_
     refine Go.Proofs.YtmmbkfagchaocaaDoor.za.each_cons ({ dst := none, op := Go.Op.store 63 (Go.Operand.tmp 36) (Go.Operand.tmp 26), type := 0, pos := "comp.go:27", after := #[{ on := 18, ground := Go.Ground.data }, { on := 8, ground := Go.Ground.data }, { on := 16, ground := Go.Ground.chain }, { on := 0, ground := Go.Ground.phase }, { on := 1, ground := Go.Ground.textOnly Go.Departure.lateStores }, { on := 2, ground := Go.Ground.phase }, { on := 3, ground := Go.Ground.phase }, { on := 4, ground := Go.Ground.phase }, { on := 5, ground := Go.Ground.phase }, { on := 6, ground := Go.Ground.phase }, { on := 7, ground := Go.Ground.phase }, { on := 8, ground := Go.Ground.phase }, { on := 9, ground := Go.Ground.textOnly Go.Departure.lateStores }, { on := 10, ground := Go.Ground.textOnly Go.Departure.lateStoresUnsure }, { on := 11, ground := Go.Ground.textOnly Go.Departure.lateStoresUnsure }, { on := 12, ground := Go.Ground.textOnly Go.Departure.lateStoresUnsure }, { on := 13, ground := Go.Ground.phase }, { on := 14, ground := Go.Ground.textOnly Go.Departure.lateStores }, { on := 15, ground := Go.Ground.textOnly Go.Departure.lateStoresUnsure }, { on := 16, ground := Go.Ground.phase }], guard := none }) rfl (fun K hK => ?_) Go.Proofs.YtmmbkfagchaocaaDoor.za.each_nil
     go_simp
     refine hK.out _ _ (late (by kernel_rfl)) ?_
     clear hK K
     try simp only [Act.put, List.setIfInBounds_toArray, List.set_cons_zero, List.set_cons_succ]
     refine Go.Proofs.YtmmbkfagchaocaaDoor.za.till_any_world (i := 20) (v := ?v30) ({ dst := some 37, op := Go.Op.nilCheck (Go.Operand.tmp 19), type := 0, pos := "comp.go:27", after := #[{ on := 1, ground := Go.Ground.data }, { on := 0, ground := Go.Ground.phase }, { on := 1, ground := Go.Ground.phase }, { on := 2, ground := Go.Ground.phase }, { on := 3, ground := Go.Ground.phase }, { on := 4, ground := Go.Ground.phase }, { on := 5, ground := Go.Ground.phase }, { on := 6, ground := Go.Ground.phase }, { on := 7, ground := Go.Ground.phase }, { on := 8, ground := Go.Ground.phase }, { on := 9, ground := Go.Ground.phase }, { on := 10, ground := Go.Ground.phase }, { on := 11, ground := Go.Ground.phase }, { on := 12, ground := Go.Ground.phase }, { on := 13, ground := Go.Ground.phase }, { on := 14, ground := Go.Ground.phase }, { on := 15, ground := Go.Ground.phase }, { on := 16, ground := Go.Ground.phase }, { on := 17, ground := Go.Ground.phase }, { on := 18, ground := Go.Ground.phase }, { on := 19, ground := Go.Ground.phase }], guard := none }) rfl (by kernel_rfl) (by kernel_rfl) (by kernel_rfl) (fun _ _ _ h => h) (by decide) rfl (late (by kernel_rfl)) ?y30 ?r30
     case y30 => (intro w; go_simp; try with_reducible rfl)
     case r30 =>
     try simp only [Act.put, List.setIfInBounds_toArray, List.set_cons_zero, List.set_cons_succ]
     refine Go.Proofs.YtmmbkfagchaocaaDoor.za.till_any_world (i := 21) (v := ?v31) ({ dst := some 38, op := Go.Op.fieldAddr 98 (Go.Operand.tmp 37) 0, type := 0, pos := "comp.go:27", after := #[{ on := 20, ground := Go.Ground.data }, { on := 0, ground := Go.Ground.phase }, { on := 1, ground := Go.Ground.phase }, { on := 2, ground := Go.Ground.phase }, { on := 3, ground := Go.Ground.phase }, { on := 4, ground := Go.Ground.phase }, { on := 5, ground := Go.Ground.phase }, { on := 6, ground := Go.Ground.phase }, { on := 7, ground := Go.Ground.phase }, { on := 8, ground := Go.Ground.phase }, { on := 9, ground := Go.Ground.phase }, { on := 10, ground := Go.Ground.phase }, { on := 11, ground := Go.Ground.phase }, { on := 12, ground := Go.Ground.phase }, { on := 13, ground := Go.Ground.phase }, { on := 14, ground := Go.Ground.phase }, { on := 15, ground := Go.Ground.phase }, { on := 16, ground := Go.Ground.phase }, { on := 17, ground := Go.Ground.phase }, { on := 18, ground := Go.Ground.phase }, { on := 19, ground := Go.Ground.phase }], guard := none }) rfl (by kernel_rfl) (by kernel_rfl) (by kernel_rfl) (fun _ _ _ h => h) (by decide) rfl (late (by kernel_rfl)) ?y31 ?r31
     case y31 => (intro w; go_simp; try with_reducible rfl)
     case r31 =>
     try simp only [Act.put, List.setIfInBounds_toArray, List.set_cons_zero, List.set_cons_succ]
     refine Go.Proofs.YtmmbkfagchaocaaDoor.za.till_any_world (i := 22) (v := ?v32) ({ dst := some 39, op := Go.Op.fieldAddr 24 (Go.Operand.tmp 38) 2, type := 0, pos := "comp.go:27", after := #[{ on := 21, ground := Go.Ground.data }, { on := 0, ground := Go.Ground.phase }, { on := 1, ground := Go.Ground.phase }, { on := 2, ground := Go.Ground.phase }, { on := 3, ground := Go.Ground.phase }, { on := 4, ground := Go.Ground.phase }, { on := 5, ground := Go.Ground.phase }, { on := 6, ground := Go.Ground.phase }, { on := 7, ground := Go.Ground.phase }, { on := 8, ground := Go.Ground.phase }, { on := 9, ground := Go.Ground.phase }, { on := 10, ground := Go.Ground.phase }, { on := 11, ground := Go.Ground.phase }, { on := 12, ground := Go.Ground.phase }, { on := 13, ground := Go.Ground.phase }, { on := 14, ground := Go.Ground.phase }, { on := 15, ground := Go.Ground.phase }, { on := 16, ground := Go.Ground.phase }, { on := 17, ground := Go.Ground.phase }, { on := 18, ground := Go.Ground.phase }, { on := 19, ground := Go.Ground.phase }], guard := none }) rfl (by kernel_rfl) (by kernel_rfl) (by kernel_rfl) (fun _ _ _ h => h) (by decide) rfl (late (by kernel_rfl)) ?y32 ?r32
     case y32 => (intro w; go_simp; try with_reducible rfl)
     case r32 =>
     try simp only [Act.put, List.setIfInBounds_toArray, List.set_cons_zero, List.set_cons_succ]
     refine Go.Proofs.YtmmbkfagchaocaaDoor.za.till_each (rs := [23]) (by kernel_rfl) (by simp) ?_
     refine Go.Proofs.YtmmbkfagchaocaaDoor.za.each_cons ({ dst := none, op := Go.Op.store 22 (Go.Operand.tmp 39) (Go.Operand.tmp 34), type := 0, pos := "comp.go:27", after := #[{ on := 22, ground := Go.Ground.data }, { on := 16, ground := Go.Ground.data }, { on := 19, ground := Go.Ground.chain }, { on := 0, ground := Go.Ground.phase }, { on := 1, ground := Go.Ground.phase }, { on := 2, ground := Go.Ground.phase }, { on := 3, ground := Go.Ground.phase }, { on := 4, ground := Go.Ground.phase }, { on := 5, ground := Go.Ground.phase }, { on := 6, ground := Go.Ground.phase }, { on := 7, ground := Go.Ground.phase }, { on := 8, ground := Go.Ground.phase }, { on := 9, ground := Go.Ground.phase }, { on := 10, ground := Go.Ground.phase }, { on := 11, ground := Go.Ground.phase }, { on := 12, ground := Go.Ground.phase }, { on := 13, ground := Go.Ground.phase }, { on := 14, ground := Go.Ground.phase }, { on := 15, ground := Go.Ground.phase }, { on := 16, ground := Go.Ground.phase }, { on := 17, ground := Go.Ground.phase }, { on := 18, ground := Go.Ground.phase }, { on := 19, ground := Go.Ground.phase }], guard := none }) rfl (fun K hK => ?_) Go.Proofs.YtmmbkfagchaocaaDoor.za.each_nil
     go_simp
     refine hK.out _ _ (late (by kernel_rfl)) ?_
     clear hK K
     try simp only [Act.put, List.setIfInBounds_toArray, List.set_cons_zero, List.set_cons_succ]
     refine Go.Proofs.YtmmbkfagchaocaaDoor.za.till_done (by kernel_rfl) ?_
     refine NoPanic.normal ?_
     go_wp2_with fail
     go_meet
     exact ⟨_, _, J8.out.set24 _ _, RN.out⟩
    case m27 => exact Go.Proofs.YtmmbkfagchaocaaDoor.za.each_nil
  case rest =>
  as_aux_lemma =>
  obtain ⟨vn1, vh1, HQ, _⟩ := hcut
  have HL1 : Hid (Lp we w0 wc S p mb lo x wd vh1 vn1 vm rs ((L, I), h) ms ms JJ) := by
    refine ⟨?_, by rw [HJJ.out], by rw [HJJ.out], HK.out, HLR.out, HLM.out⟩
    have := HQ.out.j
    rw [← HHs.out, ← HNs.out] at this
    simpa using this
  clear HQ J3 SJ E1 E2 FR OW OH SZ LN LH NBN NBH
  go_wp2_with fail
  go_loopw [41] (fun _ wr => ∃ (vh' vn' vm' : Value) (rs' : List Md) (y : Md) (ms' : List Md), Hid (Lp we w0 wr S p mb lo x wd vh' vn' vm' rs' y ms' ms JJ)) (fun _ wr => runLen wr p)
  case atStart => exact ⟨_, _, _, _, _, _, HL1.out⟩
  case round =>
    obtain ⟨vh2, vn2, vm2, rs2, y, ms2, HQ⟩ := hrel
    clear HL1
    have EJ := HQ.out.j
    rw [show (y :: rs2).reverse.map Prod.fst = (y.1 :: rs2.map Prod.fst).reverse by simp] at EJ
    have C1 : Hid (Calls _ _ _ _ _) := ends _ _ EJ (HQ.out.ok y (by simp)).1 (by simpa using HQ.out.ln)
    clear EJ
    obtain ⟨r, HR⟩ : ∃ r, Hid (endH (rs2.map Prod.fst) y.1 = r) := ⟨_, rfl⟩
    rw [HR.out] at C1
    have HLEN : Hid (runLen wr p = rs2.length + 1) := HQ.out.len
    cases r with
    | false =>
      have HS : Hid (joinR (NF wd) rs2 y = (y :: rs2, [])) := by
        cases rs2 with
        | nil => rfl
        | cons c rs3 => exact joinR_no _ rs3 (of_decide_eq_false HR.out)
      go_wp2_with fail
      refine C1.out.mono ?_
      rintro e w3 ⟨rfl, hb⟩
      have S9 : Hid (Jn _ _ _ _ _ _ _ _ _ _ _ _ _ _ _ _ _) := (HQ.out.stop HS.out).on hb
      clear hb
      go_wp2
      go_returns
      exact ⟨rfl, _, _, _, S9.out⟩
    | true =>
      cases rs2 with
      | nil => exact Bool.noConfusion HR.out
      | cons c rs3 =>
        have HH : Hid (halves c.1 y.1) := of_decide_eq_true (p := halves c.1 y.1) HR.out
        have hc := HQ.out.ok c (by simp)
        have hy := HQ.out.ok y (by simp)
        have C2 : Hid (∀ W, Below wr.heap.size wr W → Calls _ _ _ _ _) := fun W hW => joinH rs3 c y HT.out (HQ.out.j.on hW) hy.1 HH.out ⟨hc.2, hy.2⟩ (by have := HQ.out.ln; simp at this; omega)
        have UP : Hid (∀ {w' : World} {vh' vn' vm' : Value}, Jn we w0 w' S p mb lo x wd vh' vn' vh' vn' vm' ((upN (NF wd) c y :: rs3).reverse.map Prod.snd) ((upN (NF wd) c y :: rs3).reverse.map Prod.fst) (ms2 ++ [upN (NF wd) c y]) → Lp we w0 w' S p mb lo x wd vh' vn' vm' rs3 (upN (NF wd) c y) (ms2 ++ [upN (NF wd) c y]) ms JJ) := fun hj => HQ.out.up HH.out hj
        have HLM2 : Hid (ms2.length ≤ 1000000) := by have := HQ.out.lm; show _ ≤ _; omega
        obtain ⟨u, HU⟩ : ∃ u, Hid (upN (NF wd) c y = u) := ⟨_, rfl⟩
        rw [HU.out] at C2 UP
        obtain ⟨⟨uL, uI⟩, uh⟩ := u
        clear hc hy
        go_wp2_with fail
        refine C1.out.mono ?_
        rintro e w3 ⟨rfl, hb⟩
        have B3 : Hid (Below wr.heap.size wr w3) := hb
        clear hb
        go_wp2_with fail
        refine (C2.out _ B3.out).mono ?_
        rintro e w4 ⟨rfl, vh3, vn3, hJ4⟩
        have C3 : Hid (Calls _ _ _ _ _) := tell ((uL, uI), uh) hJ4 HLM2.out
        clear hJ4
        unfold ad at C3 ⊢
        go_wp2_with fail
        refine C3.out.mono ?_
        rintro e w5 ⟨rfl, vm3, hJ5⟩
        have HL2 : Hid (Lp we w0 w5 S p mb lo x wd vh3 vn3 vm3 rs3 ((uL, uI), uh) (ms2 ++ [((uL, uI), uh)]) ms JJ) := UP.out hJ5
        clear hJ5 C1 C2 C3
        go_wp2
        go_roundw
        case rel => exact ⟨_, _, _, _, _, _, HL2.out⟩
        case measure =>
          have h1 := HLEN.out
          have h2 := HL2.out.len
          simp at h1
          omega
end Go.Proofs.YtmmbkfagchaocaaDoor.ye
