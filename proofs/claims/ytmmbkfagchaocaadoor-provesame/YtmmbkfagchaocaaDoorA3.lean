import Derived.Test.YtmmbkfagchaocaaDoorB1
import Derived.Test.YtmmbkfagchaocaaDoorA2
import Derived.Laws.BitsAllLaws
import Derived.BigQuiet
import Derived.Handy
import Derived.Deep.AppendLies
import Derived.Laws.AppendOwnNone
import Derived.Lib.SliceRun
import Derived.Test.YtmmbkfagchaocaaDoorB2
import Derived.Maps.AppendAt
import Derived.Laws.MakeOwn
namespace Go.Proofs.YtmmbkfagchaocaaDoor.ba
open Go.RowKit Go.PlainAid
open Go.Proofs.YtmmbkfagchaocaaDoor.pl Go.Proofs.YtmmbkfagchaocaaDoor.pi Go.Proofs.YtmmbkfagchaocaaDoor.pj Go.Proofs.YtmmbkfagchaocaaDoor.rf Go.Proofs.YtmmbkfagchaocaaDoor.ca Go.Proofs.YtmmbkfagchaocaaDoor.cb Go.Proofs.YtmmbkfagchaocaaDoor.cp Go.Proofs.YtmmbkfagchaocaaDoor.ga Go.Proofs.YtmmbkfagchaocaaDoor.aa Go.Proofs.YtmmbkfagchaocaaDoor.xc Go.Proofs.YtmmbkfagchaocaaDoor.kb Go.Proofs.YtmmbkfagchaocaaDoor.mh
set_option linter.unusedVariables false

def pv (a b : Nat) : Value := .agg #[.int .i64 a, .int .i64 b]
theorem has (a b i : Nat) (w : World) : Calls Tryd.prog 41 #[.agg #[.int .i64 a, .int .i64 b], .int .i64 i] w fun e w' => e = .returned (.bool (decide (a ≤ i ∧ i < b))) ∧ Below w.heap.size w w' := by
  have B0 : Hid (Below w.heap.size w (w.alloc (.cells #[.int .i64 a, .int .i64 b] 85))) := (Below.refl _ _).alloc (Nat.le_refl _) _
  by_cases h1 : a ≤ i
  · go_enter Tryd.func41, Tryd.ntmps41
    go_wp2
    go_ret
    exact ⟨by first | rfl | simp [h1], B0.out⟩
  · go_enter Tryd.func41, Tryd.ntmps41
    go_wp2
    go_ret
    exact ⟨by first | rfl | simp [h1], B0.out⟩
theorem isLeaf (a b : Nat) (hab : a ≤ b) (hb : b ≤ 4611686018427387904) (w : World) : Calls Tryd.prog 42 #[.agg #[.int .i64 a, .int .i64 b]] w fun e w' => e = .returned (.bool (decide (b - a = 1))) ∧ Below w.heap.size w w' := by
  have B0 : Hid (Below w.heap.size w (w.alloc (.cells #[.int .i64 a, .int .i64 b] 85))) := (Below.refl _ _).alloc (Nat.le_refl _) _
  have HE : Hid (decide (b - a = 1) = ((b : Int) - a == 1)) := by
    show _ = _
    by_cases h : b - a = 1
    · rw [decide_eq_true h]; symm; rw [beq_iff_eq]; omega
    · rw [decide_eq_false h]; symm; rw [beq_eq_false_iff_ne]; omega
  rw [HE.out]
  go_enter Tryd.func42, Tryd.ntmps42
  go_wp2
  go_ret
  exact ⟨rfl, B0.out⟩
theorem isHash (wd : Int) (h : ByteArray) (w : World) (hwd : i64 wd) : Calls Tryd.prog 70 #[.int .i64 wd, .string h] w fun e w' => e = .returned (.bool (decide (h.size = wid wd))) ∧ w' = w := by
  by_cases h1 : wd < 1
  · have d1 : decide (wd < 1) = true := decide_eq_true h1
    have HE : Hid (decide (h.size = wid wd) = ((h.size : Int) == 32)) := by
      show _ = _
      rw [show wid wd = 32 by unfold wid; rw [if_pos (.inl h1)]]
      by_cases g : h.size = 32
      · rw [decide_eq_true g]; symm; rw [beq_iff_eq]; omega
      · rw [decide_eq_false g]; symm; rw [beq_eq_false_iff_ne]; omega
    rw [HE.out]
    clear h1
    go_enter Tryd.func70, Tryd.ntmps70
    go_wp2
    go_ret
    exact ⟨rfl, rfl⟩
  · have d1 : decide (wd < 1) = false := decide_eq_false h1
    by_cases h2 : 32 < wd
    · have d2 : decide (32 < wd) = true := decide_eq_true h2
      have HE : Hid (decide (h.size = wid wd) = ((h.size : Int) == 32)) := by
        show _ = _
        rw [show wid wd = 32 by unfold wid; rw [if_pos (.inr h2)]]
        by_cases g : h.size = 32
        · rw [decide_eq_true g]; symm; rw [beq_iff_eq]; omega
        · rw [decide_eq_false g]; symm; rw [beq_eq_false_iff_ne]; omega
      rw [HE.out]
      clear h1 h2
      go_enter Tryd.func70, Tryd.ntmps70
      go_wp2
      go_ret
      exact ⟨rfl, rfl⟩
    · have d2 : decide (32 < wd) = false := decide_eq_false h2
      have HE : Hid (decide (h.size = wid wd) = ((h.size : Int) == wd)) := by
        show _ = _
        have e : (wid wd : Int) = wd := by unfold wid; rw [if_neg (fun h => h.elim h1 h2)]; omega
        by_cases g : h.size = wid wd
        · rw [decide_eq_true g]; symm; rw [beq_iff_eq]; omega
        · rw [decide_eq_false g]; symm; rw [beq_eq_false_iff_ne]; omega
      rw [HE.out]
      clear h1 h2
      go_enter Tryd.func70, Tryd.ntmps70
      go_wp2
      go_ret
      exact ⟨rfl, rfl⟩
theorem belowC (n : Nat) (h : 2 ≤ n) (hn : n ≤ 4611686018427387904) (w : World) :
    Calls Tryd.prog 72 #[.int .i64 n] w fun e w' => e = .returned (.tuple #[.int .i64 (half n : Nat), .int .i64 0]) ∧ w' = w := by
  obtain ⟨l, hl, he, h62⟩ := half_len h hn
  have hlt := (half_lt h).2.1
  have C : Hid (∀ w, Calls _ _ _ _ _) := fun w => bits_any ((n : Int) - 1) w (by omega) (by omega)
  rw [show ((n : Int) - 1).toNat = n - 1 by omega, hl] at C
  obtain ⟨t, HT⟩ : ∃ t : Nat, Hid (2 ^ l = t) := ⟨_, rfl⟩
  have hT : (2 : Int) ^ l = (t : Int) := by rw [cast_pow, HT.out]
  rw [he, HT.out] at hlt ⊢
  have hw1 : ((l + 1 : Nat) : Int) = (l : Int) + 1 := by omega
  have hw3 : min (l : Int).toNat 64 = l := by omega
  have hw4 : min l 64 = l := by omega
  have hw5 : IntKind.i64.wrap (t : Int) = t := wrap_is t (by omega)
  have d1 : decide ((n : Int) < 2) = false := decide_eq_false (by omega)
  have hl0 : (0 : Int) ≤ l := by omega
  rw [hw1] at C
  clear hl he
  go_enter Tryd.func72, Tryd.ntmps72
  go_wp2_with fail
  refine (C.out _).mono ?_
  rintro e w1 ⟨rfl, hw⟩
  subst hw
  go_wp2
  go_ret2
  exact ⟨rfl, rfl⟩
end Go.Proofs.YtmmbkfagchaocaaDoor.ba

namespace Go.Proofs.YtmmbkfagchaocaaDoor.bb
open Go.RowKit Go.PlainAid
open Go.Proofs.YtmmbkfagchaocaaDoor.ca Go.Proofs.YtmmbkfagchaocaaDoor.cb Go.Proofs.YtmmbkfagchaocaaDoor.cp Go.Proofs.YtmmbkfagchaocaaDoor.ga Go.Proofs.YtmmbkfagchaocaaDoor.aa Go.Proofs.YtmmbkfagchaocaaDoor.ba
set_option linter.unusedVariables false

theorem three_cells (w : World) (o : Obj) (x y x' y' : Value) (t t' : TypeId) :
    (((w.alloc o).alloc (.cells #[x, y] t)).alloc (.cells #[x', y'] t')).drew.cell? ⟨w.heap.size + 1, 0, none⟩ = some x ∧ (((w.alloc o).alloc (.cells #[x, y] t)).alloc (.cells #[x', y'] t')).drew.cell? ⟨w.heap.size + 1, 1, none⟩ = some y ∧
    (((w.alloc o).alloc (.cells #[x, y] t)).alloc (.cells #[x', y'] t')).drew.cell? ⟨w.heap.size + 1 + 1, 0, none⟩ = some x' ∧ (((w.alloc o).alloc (.cells #[x, y] t)).alloc (.cells #[x', y'] t')).drew.cell? ⟨w.heap.size + 1 + 1, 1, none⟩ = some y' := by
  have s1 : (w.alloc o).heap.size = w.heap.size + 1 := by simp
  have s2 : ((w.alloc o).alloc (.cells #[x, y] t)).heap.size = w.heap.size + 1 + 1 := by simp
  have B : Below ((w.alloc o).alloc (.cells #[x, y] t)).heap.size ((w.alloc o).alloc (.cells #[x, y] t)) ((((w.alloc o).alloc (.cells #[x, y] t)).alloc (.cells #[x', y'] t')).drew) := below_dN ((Below.refl _ _).alloc (Nat.le_refl _) _) 1
  refine ⟨?_, ?_, ?_, ?_⟩
  · refine (B.cell (p := ⟨w.heap.size + 1, 0, none⟩) (by show w.heap.size + 1 < _; rw [s2]; omega)).trans ?_
    rw [← s1, World.cell?_alloc_at _ _ _ _ rfl]; rfl
  · refine (B.cell (p := ⟨w.heap.size + 1, 1, none⟩) (by show w.heap.size + 1 < _; rw [s2]; omega)).trans ?_
    rw [← s1, World.cell?_alloc_at _ _ _ _ rfl]; rfl
  · show (((w.alloc o).alloc (.cells #[x, y] t)).alloc (.cells #[x', y'] t')).cell? _ = _
    rw [← s2, World.cell?_alloc_at _ _ _ _ rfl]; rfl
  · show (((w.alloc o).alloc (.cells #[x, y] t)).alloc (.cells #[x', y'] t')).cell? _ = _
    rw [← s2, World.cell?_alloc_at _ _ _ _ rfl]; rfl
theorem halves (a b : Nat) (h : 2 ≤ b - a) (hb : b ≤ 4611686018427387904) (w : World) :
    Calls Tryd.prog 60 #[.agg #[.int .i64 a, .int .i64 b]] w fun e w' => e = .returned (.tuple #[pv a (a + half (b - a)), pv (a + half (b - a)) b]) ∧ Below w.heap.size w w' := by
  have C : Hid (∀ w, Calls _ _ _ _ _) := fun w => belowC (b - a) h (by omega) w
  have hh := half_lt h
  obtain ⟨k, HK⟩ : ∃ k, Hid (half (b - a) = k) := ⟨_, rfl⟩
  rw [HK.out] at C hh ⊢
  have hk : (a : Int) + k ≤ b := by omega
  have e1 : ((b - a : Nat) : Int) = (b : Int) - a := by omega
  rw [e1] at C
  have e2 : (((a + k : Nat)) : Int) = (a : Int) + k := by omega
  have hw : IntKind.i64.wrap ((a : Int) + k) = (a : Int) + k := by rw [IntKind.wrap_i64]; omega
  have G : Hid (_ ∧ _ ∧ _ ∧ _) := three_cells w (.cells #[.int .i64 a, .int .i64 b] 85) (.int .i64 a) (.int .i64 ((a : Int) + k)) (.int .i64 ((a : Int) + k)) (.int .i64 b) 85 85
  have B3 : Hid (Below w.heap.size w (((w.alloc (.cells #[.int .i64 a, .int .i64 b] 85)).alloc (.cells #[.int .i64 a, .int .i64 ((a : Int) + k)] 85)).alloc (.cells #[.int .i64 ((a : Int) + k), .int .i64 b] 85)).drew) := below_dN ((((Below.refl _ _).alloc (Nat.le_refl _) _).alloc (by simp) _).alloc (by simp; omega) _) 1
  clear hh h e1
  go_enter Tryd.func60, Tryd.ntmps60
  go_wp2_with fail
  refine (C.out _).mono ?_
  rintro e w1 ⟨rfl, hw⟩
  subst hw
  go_wp2
  go_region
  all_goals (
    go_wp2
    (try simp only [Exit.inBlock, Exit.then])
    refine bodyPost_ret (by simp [results, Tryd.results60, go_sem, G.out.1, G.out.2.1, G.out.2.2.1, G.out.2.2.2]; try rfl) rfl ?_
    exact ⟨by rw [pv, pv, e2], B3.out⟩)
-- the step towards a place
theorem toward (a b i : Nat) (h : 2 ≤ b - a) (hb : b ≤ 4611686018427387904) (w : World) :
    Calls Tryd.prog 43 #[.agg #[.int .i64 a, .int .i64 b], .int .i64 i] w fun e w' => e = .returned (.int .i64 (if a ≤ i ∧ i < a + half (b - a) then 2 else 3)) ∧ Below w.heap.size w w' := by
  have C : Hid (∀ w, Calls _ _ _ _ _) := fun w => halves a b h hb w
  obtain ⟨k, HK⟩ : ∃ k, Hid (a + half (b - a) = k) := ⟨_, rfl⟩
  have hc : ∀ w, Calls Tryd.prog 41 #[.agg #[.int .i64 a, .int .i64 (k : Nat)], .int .i64 i] w fun e w' => e = .returned (.bool (decide (a ≤ i ∧ i < k))) ∧ Below w.heap.size w w' := fun w => has a k i w
  rw [HK.out] at C ⊢
  obtain ⟨t, HT⟩ : ∃ t, Hid (decide (a ≤ i ∧ i < k) = t) := ⟨_, rfl⟩
  rw [HT.out] at hc
  have H : Hid (∀ w, Calls _ _ _ _ _) := hc
  have HR : Hid ((if a ≤ i ∧ i < k then (2 : Int) else 3) = if t then 2 else 3) := by
    show _ = _
    rw [← HT.out]
    by_cases g : a ≤ i ∧ i < k <;> simp [g]
  rw [HR.out]
  unfold pv at C
  have B0 : Hid (Below w.heap.size w (w.alloc (.cells #[.int .i64 a, .int .i64 b] 85))) := (Below.refl _ _).alloc (Nat.le_refl _) _
  clear hc h hb HR
  go_enter Tryd.func43, Tryd.ntmps43
  go_wp2_with fail
  refine (C.out _).mono ?_
  rintro e w1 ⟨rfl, hb⟩
  have B1 : Hid (Below w.heap.size w w1) := over B0.out hb
  clear hb
  go_wp2_with fail
  refine (H.out _).mono ?_
  rintro e w2 ⟨rfl, hb⟩
  have B2 : Hid (Below w.heap.size w w2) := over ((B1.out.alloc B1.out.size _).alloc (by have := B1.out.size; simp; omega) _) hb
  clear hb
  cases t
  · go_wp2
    go_ret
    exact ⟨rfl, B2.out⟩
  · go_wp2
    go_ret
    exact ⟨rfl, B2.out⟩
end Go.Proofs.YtmmbkfagchaocaaDoor.bb

namespace Go.Proofs.YtmmbkfagchaocaaDoor.bf
open Go.RowKit Go.PlainAid
open Go.Proofs.YtmmbkfagchaocaaDoor.pl Go.Proofs.YtmmbkfagchaocaaDoor.pi Go.Proofs.YtmmbkfagchaocaaDoor.pj Go.Proofs.YtmmbkfagchaocaaDoor.rf Go.Proofs.YtmmbkfagchaocaaDoor.ca Go.Proofs.YtmmbkfagchaocaaDoor.cb Go.Proofs.YtmmbkfagchaocaaDoor.cp Go.Proofs.YtmmbkfagchaocaaDoor.ka Go.Proofs.YtmmbkfagchaocaaDoor.kb Go.Proofs.YtmmbkfagchaocaaDoor.kc
set_option linter.unusedVariables false

theorem foldP_on {α : Type} (E : α) (N : α → α → α) (xs : List α) (k : Nat) (hk : k + 1 < xs.length) : foldP E N (xs.drop k) = N (xs[k]'(by omega)) (foldP E N (xs.drop (k + 1))) := by
  rw [List.drop_eq_getElem_cons (show k < xs.length by omega), List.drop_eq_getElem_cons hk]
  rfl
theorem foldP_end {α : Type} (E : α) (N : α → α → α) (xs : List α) (k : Nat) (hk : k + 1 = xs.length) : foldP E N (xs.drop k) = xs[k]'(by omega) := by
  rw [List.drop_eq_getElem_cons (show k < xs.length by omega), List.drop_of_length_le (by omega)]
  rfl
set_option maxHeartbeats 1600000 in
theorem pFold (m : Int) (v : Value) (xs : List ByteArray) (w : World) (hT : Tab w) (hR : ReadsT w v xs) (hx : ∀ x ∈ xs, x.size ≤ 1048576) (hn : xs.length ≤ 1048577) :
    Calls Tryd.prog 71 #[.int .i64 m, v] w fun e w' => e = .returned (.string (foldP (EF m) (NF m) xs)) ∧ Below w.heap.size w w' := by
  have HX : Hid (∀ x ∈ xs, x.size ≤ 1048576) := hx
  have HT : Hid (Tab w) := hT
  have HRD : Hid (ReadsT w v xs) := hR
  obtain ⟨a, cap, rfl, hcap, hh⟩ := hR
  obtain ⟨n, HN⟩ : ∃ n, Hid (xs.length = n) := ⟨_, rfl⟩
  rw [HN.out] at hcap hh hn HRD ⊢
  have HH : Hid (n = 0 ∨ ∃ b off, a = some ⟨b, off, none⟩ ∧ ∀ i, i < n → w.cell? ⟨b, off + i, none⟩ = some (.string (xs.getD i ByteArray.empty))) := hh
  obtain ⟨R, HRR⟩ : ∃ R, Hid (foldP (EF m) (NF m) xs = R) := ⟨_, rfl⟩
  rw [HRR.out]
  clear hT hx hh
  by_cases h0 : n = 0
  · have EC : Hid (Calls _ _ _ _ _) := pEmpty m w HT.out
    have q0 : ((n : Int) == 0) = true := by rw [beq_iff_eq]; omega
    have HE : Hid (R = EF m) := by
      show _ = _
      have : xs = [] := List.length_eq_zero_iff.1 (HN.out.trans h0)
      rw [← HRR.out, this]
      rfl
    obtain ⟨X, HX0⟩ : ∃ X, Hid (EF m = X) := ⟨_, rfl⟩
    rw [HX0.out] at EC HE
    clear h0
    go_enter Tryd.func71, Tryd.ntmps71
    go_wp2_with fail
    refine EC.out.mono ?_
    rintro e w1 ⟨rfl, hb⟩
    have B1 : Hid (Below w.heap.size w w1) := hb
    clear hb
    go_wp2
    go_ret
    exact ⟨by rw [HE.out]; rfl, B1.out⟩
  · obtain ⟨b, off, rfl, hh⟩ : ∃ b off, a = some ⟨b, off, none⟩ ∧ ∀ i, i < n → w.cell? ⟨b, off + i, none⟩ = some (.string (xs.getD i ByteArray.empty)) := by
      rcases HH.out with h | h
      · exact absurd h h0
      · exact h
    have HCC : Hid (∀ i, i < n → w.cell? ⟨b, off + i, none⟩ = some (.string (xs.getD i ByteArray.empty))) := hh
    have q0 : ((n : Int) == 0) = false := by rw [beq_eq_false_iff_ne]; omega
    have c0 := hh (n - 1) (by omega)
    obtain ⟨L0, HL0⟩ : ∃ x, Hid (xs.getD (n - 1) ByteArray.empty = x) := ⟨_, rfl⟩
    rw [HL0.out] at c0
    have HS0 : Hid (foldP (EF m) (NF m) (xs.drop (n - 1)) = L0 ∧ L0.size ≤ 1048576) := by
      have hlt : n - 1 < xs.length := by rw [HN.out]; omega
      rw [foldP_end _ _ xs (n - 1) (by rw [HN.out]; omega), ← HL0.out, List.getD_eq_getElem?_getD, List.getElem?_eq_getElem hlt]
      exact ⟨rfl, HX.out _ (List.getElem_mem hlt)⟩
    obtain ⟨d, HD⟩ : ∃ d, Hid (n = d + 1) := ⟨n - 1, by show _ = _; omega⟩
    have hd1 : ((n : Int) - 1) = (d : Int) := by have := HD.out; omega
    have hdn : (d : Int) < n := by omega
    have hd0 : (0 : Int) ≤ (d : Int) := by omega
    rw [show n - 1 = d by have := HD.out; omega] at c0 HS0
    clear hh HH h0
    go_enter Tryd.func71, Tryd.ntmps71
    go_wp2
    go_loopw [6, 21] (fun h i wr => ∃ (k : Nat) (H : ByteArray), k ≤ d ∧ i = .int .i64 k ∧ h = .string H ∧ Hid (foldP (EF m) (NF m) (xs.drop (d - k)) = H ∧ H.size ≤ 1048576 ∧ Below w.heap.size w wr)) (fun _ i _ => (d - intOf i).toNat)
    case atStart => exact ⟨0, L0, by omega, rfl, rfl, HS0.out.1, HS0.out.2, Below.refl _ _⟩
    case round =>
      clear c0
      obtain ⟨k, H, hk, rfl, rfl, HL⟩ := hrel
      by_cases hlt : k < d
      · have hlt' : (k : Int) < d := by omega
        obtain ⟨j, HJ⟩ : ∃ j, Hid (d - 1 - k = j) := ⟨_, rfl⟩
        have hj : ((d : Int) - 1 - (k : Int)) = (j : Int) := by have := HJ.out; omega
        have hj0 : (0 : Int) ≤ (j : Int) := by omega
        have hjn : (j : Int) < n := by have := HJ.out; omega
        have hjx : j < xs.length := by rw [HN.out]; omega
        obtain ⟨x, HXK⟩ : ∃ x, Hid (xs.getD j ByteArray.empty = x) := ⟨_, rfl⟩
        have c1' := HCC.out j (by omega)
        rw [HXK.out] at c1'
        have c1 : wr.cell? ⟨b, off + j, none⟩ = some (.string x) := (HL.out.2.2.cell (p := ⟨b, off + j, none⟩) (World.block_lt_of_cell? _ _ c1')).trans c1'
        have HXE : Hid (x = xs[j]'hjx) := by show _ = _; rw [← HXK.out, List.getD_eq_getElem?_getD, List.getElem?_eq_getElem hjx]; rfl
        have hxs : x.size ≤ 1048576 := by rw [HXE.out]; exact HX.out _ (List.getElem_mem hjx)
        have hHs := HL.out.2.1
        have NC : Hid (∀ w', Tab w' → Calls _ _ _ _ _) := fun w' h => pNode m x H (by omega) w' h
        have HF : Hid (foldP (EF m) (NF m) (xs.drop j) = NF m x H) := by
          show _ = _
          have hd' : foldP (EF m) (NF m) (xs.drop (j + 1)) = H := by rw [show j + 1 = d - k by have := HJ.out; omega]; exact HL.out.1
          rw [foldP_on _ _ xs j (by rw [HN.out]; omega), hd', HXE.out]
        have HFS : Hid ((NF m x H).size ≤ 1048576) := by show _ ≤ _; rw [show (NF m x H).size = wid m from cutS_size _ _]; have := wid_le m; omega
        have TW : Hid (Tab wr) := HT.out.down HL.out.2.2
        obtain ⟨Q, HQ⟩ : ∃ Q, Hid (NF m x H = Q) := ⟨_, rfl⟩
        rw [HQ.out] at NC HF HFS
        clear c1' hxs hHs
        go_wp2_with fail
        refine (NC.out _ TW.out).mono ?_
        rintro e w1 ⟨rfl, hb⟩
        have B1 : Hid (Below w.heap.size w w1) := over HL.out.2.2 hb
        clear hb
        go_wp2
        go_roundw
        case rel => exact ⟨k + 1, Q, by omega, by go_num, rfl, by rw [show d - (k + 1) = j by have := HJ.out; omega]; exact HF.out, HFS.out, B1.out⟩
        case measure => simp [intOf]; omega
      · have hlt' : ¬ (k : Int) < d := by omega
        have HE : Hid (R = H) := by
          have h := HL.out.1
          rw [show d - k = 0 by omega, List.drop_zero, HRR.out] at h
          exact h
        go_wp2
        go_ret
        exact ⟨by rw [HE.out]; rfl, HL.out.2.2⟩
end Go.Proofs.YtmmbkfagchaocaaDoor.bf

namespace Go.Proofs.YtmmbkfagchaocaaDoor.bc
open Go.RowKit Go.PlainAid
open Go.Proofs.YtmmbkfagchaocaaDoor.pl Go.Proofs.YtmmbkfagchaocaaDoor.pi Go.Proofs.YtmmbkfagchaocaaDoor.rf Go.Proofs.YtmmbkfagchaocaaDoor.pj Go.Proofs.YtmmbkfagchaocaaDoor.ca Go.Proofs.YtmmbkfagchaocaaDoor.cb Go.Proofs.YtmmbkfagchaocaaDoor.cp Go.Proofs.YtmmbkfagchaocaaDoor.cs Go.Proofs.YtmmbkfagchaocaaDoor.ct Go.Proofs.YtmmbkfagchaocaaDoor.xc Go.Proofs.YtmmbkfagchaocaaDoor.xf Go.Proofs.YtmmbkfagchaocaaDoor.ka Go.Proofs.YtmmbkfagchaocaaDoor.kb Go.Proofs.YtmmbkfagchaocaaDoor.kc Go.Proofs.YtmmbkfagchaocaaDoor.ga Go.Proofs.YtmmbkfagchaocaaDoor.aa Go.Proofs.YtmmbkfagchaocaaDoor.ab Go.Proofs.YtmmbkfagchaocaaDoor.tb Go.Proofs.YtmmbkfagchaocaaDoor.ac Go.Proofs.YtmmbkfagchaocaaDoor.ba Go.Proofs.YtmmbkfagchaocaaDoor.bf
set_option linter.unusedVariables false

def okw (wd : Int) (h : ByteArray) : Bool := decide (h.size = wid wd)
def fow (wd : Int) (xs : List ByteArray) : ByteArray := foldP (EF wd) (NF wd) xs
def rv (wd sz : Int) (g : Nat) (fb lb : Array Value) : Value := .agg #[.int .i64 wd, .int .i64 sz, .func (.func g) fb lb]
-- behind an append to a row beside F
theorem grow_beside {g : Nat} {fb lb : Array Value} {ask : Nat → Nat × Nat → ByteArray × Int} {J : (Nat → Prop) → List (Nat × Nat) → World → Prop} {N : Nat} {D : Nat → Prop} (R : Rd g fb lb ask J N D)
    {F0 F : Nat → Prop} {w0 wr w5 : World} {l : List (Nat × Nat)} {base : Nat} {e : TypeId} {size : Nat} {u p' : Value} {n : Nat} {xs : List Value} (hJ : J F l wr) (hG : Goes F0 w0 F wr) (hB : w0.heap.size ≤ base) (hX : ∀ b, D b → b < w0.heap.size)
    (hown : wr.ownsRow base e size u n xs) (hbes : Beside F u) (hg : wr.grownBy w5 u.ownBlock) (hat : p'.ownBlock = u.ownBlock ∨ p'.ownBlock = some wr.heap.size) : J F l w5 ∧ Goes F0 w0 F w5 ∧ Beside F p' := by
  have hk : Kp (fun b => u.ownBlock = some b) wr w5 := ⟨hg.os, hg.tape, hg.output, hg.size, fun k hk hn => hg.block k hk (fun e => hn e.symm)⟩
  refine ⟨R.keep hJ hk (fun b he => ⟨hbes b he, fun hD => by have := (owns_lt hown he).2; have := hX b hD; omega⟩), ⟨⟨hg.os.trans hG.1.os, hg.tape.trans hG.1.tape, hg.output.trans hG.1.output, Nat.le_trans hG.1.size hg.size, fun k hk hn => ?_⟩, hG.2⟩, fun b hb hF => ?_⟩
  · refine (hg.block k (Nat.lt_of_lt_of_le hk hG.1.size) fun e => ?_).trans (hG.1.block k hk hn)
    have := (owns_lt hown e.symm).2
    omega
  · rcases hat with h | h
    · rw [h] at hb; exact hbes b hb hF
    · rw [h] at hb
      have := R.within hJ b hF
      obtain rfl := Option.some.inj hb
      omega
-- asking for a part's nodes: what holds ahead of each
structure Hl {g : Nat} {fb lb : Array Value} {ask : Nat → Nat × Nat → ByteArray × Int} {J : (Nat → Prop) → List (Nat × Nat) → World → Prop} {N : Nat} {D : Nat → Prop} (R : Rd g fb lb ask J N D) (wd : Int) (rvv nv : Value) (F0 : Nat → Prop) (w0 : World) (l0 L : List (Nat × Nat)) (rb base : Nat) (k : Nat) (u : Value) (wr : World) (F : Nat → Prop) (l : List (Nat × Nat)) (acc : List ByteArray) : Prop where
  j : J F l wr
  go : Goes F0 w0 F wr
  box0 : wr.cell? ⟨rb, 0, none⟩ = some (.int .i64 wd)
  box2 : wr.cell? ⟨rb, 2, none⟩ = some rvv
  out : ¬ F rb
  lt : rb < base
  nodes : ReadsA wr nv L
  nout : ∀ b off n cap, nv = .slice (some ⟨b, off, none⟩) n cap → ¬ F b ∧ b < base
  own : wr.ownsRow base 9 1 u k (acc.map Value.string)
  bes : Beside F u
  base_le : w0.heap.size ≤ base ∧ base ≤ wr.heap.size
  bx : ∀ b, D b → b < w0.heap.size
  kk : k ≤ L.length ∧ acc.length = k ∧ l.length = l0.length + k
  eq : tell (okw wd) ask l0 L = (acc ++ (tell (okw wd) ask l (L.drop k)).1, (tell (okw wd) ask l (L.drop k)).2)
  fit : ∀ x ∈ acc, x.size ≤ 1048576
theorem readsA_keep {w w' : World} {v : Value} {L : List (Nat × Nat)} (h : ReadsA w v L) (hb : ∀ b off n cap, v = .slice (some ⟨b, off, none⟩) n cap → b < w.heap.size → w'.heap[b]? = w.heap[b]?) : ReadsA w' v L := by
  obtain ⟨a, cap, rfl, h0 | ⟨b, rfl, hc⟩⟩ := h
  · exact ⟨a, cap, rfl, .inl h0⟩
  · refine ⟨_, cap, rfl, .inr ⟨b, rfl, fun i y hy => ?_⟩⟩
    obtain ⟨c1, c2⟩ := hc i y hy
    have e := hb b 0 _ _ rfl (World.block_lt_of_cell? _ _ c1)
    exact ⟨(World.cell?_of_block (a := ⟨b, i * 2, none⟩) e).trans c1, (World.cell?_of_block (a := ⟨b, i * 2 + 1, none⟩) e).trans c2⟩
end Go.Proofs.YtmmbkfagchaocaaDoor.bc

namespace Go.Proofs.YtmmbkfagchaocaaDoor.bd
open Go.RowKit Go.PlainAid
open Go.Proofs.YtmmbkfagchaocaaDoor.pl Go.Proofs.YtmmbkfagchaocaaDoor.pi Go.Proofs.YtmmbkfagchaocaaDoor.rf Go.Proofs.YtmmbkfagchaocaaDoor.pj Go.Proofs.YtmmbkfagchaocaaDoor.ca Go.Proofs.YtmmbkfagchaocaaDoor.cb Go.Proofs.YtmmbkfagchaocaaDoor.cp Go.Proofs.YtmmbkfagchaocaaDoor.cs Go.Proofs.YtmmbkfagchaocaaDoor.ct Go.Proofs.YtmmbkfagchaocaaDoor.xc Go.Proofs.YtmmbkfagchaocaaDoor.xf Go.Proofs.YtmmbkfagchaocaaDoor.ka Go.Proofs.YtmmbkfagchaocaaDoor.kb Go.Proofs.YtmmbkfagchaocaaDoor.kc Go.Proofs.YtmmbkfagchaocaaDoor.ga Go.Proofs.YtmmbkfagchaocaaDoor.aa Go.Proofs.YtmmbkfagchaocaaDoor.ab Go.Proofs.YtmmbkfagchaocaaDoor.tb Go.Proofs.YtmmbkfagchaocaaDoor.ac Go.Proofs.YtmmbkfagchaocaaDoor.ba Go.Proofs.YtmmbkfagchaocaaDoor.bf Go.Proofs.YtmmbkfagchaocaaDoor.bc
set_option linter.unusedVariables false

theorem three_box (w : World) (x y z : Value) (t : TypeId) : (w.alloc (.cells #[x, y, z] t)).cell? ⟨w.heap.size, 0, none⟩ = some x ∧ (w.alloc (.cells #[x, y, z] t)).cell? ⟨w.heap.size, 1, none⟩ = some y ∧ (w.alloc (.cells #[x, y, z] t)).cell? ⟨w.heap.size, 2, none⟩ = some z := by
  refine ⟨?_, ?_, ?_⟩ <;> (rw [World.cell?_alloc_at _ _ _ _ rfl]; rfl)
theorem cov_in (p hi : Nat) : ∀ a ∈ cov p hi, p ≤ a.2 * 2 ^ a.1 ∧ (a.2 + 1) * 2 ^ a.1 ≤ hi ∧ a.1 ≤ 62 := by
  refine cov_fold (p := p) (hi := hi) (fun p hi => ∀ a ∈ cov p hi, p ≤ a.2 * 2 ^ a.1 ∧ (a.2 + 1) * 2 ^ a.1 ≤ hi ∧ a.1 ≤ 62) ?_ ?_
  · intro p h a ha
    rw [cov_end h] at ha
    cases ha
  · intro p k hlt hl ih a ha
    rw [cov_at hlt hl] at ha
    rcases List.mem_cons.1 ha with rfl | ha
    · have e : p / 2 ^ k * 2 ^ k = p := Nat.div_mul_cancel hl.2.1
      refine ⟨by show p ≤ p / 2 ^ k * 2 ^ k; omega, ?_, hl.1⟩
      show (p / 2 ^ k + 1) * 2 ^ k ≤ hi
      rw [Nat.add_mul, e, Nat.one_mul]
      have := hl.2.2.1
      omega
    · have := ih a ha
      exact ⟨by have := p2 k; omega, this.2⟩
theorem cov_ok {a b : Nat} (hb : b ≤ 4611686018427387904) {x : Nat × Nat} (h : x ∈ cov a b) : okA x.1 x.2 := by
  have := cov_in a b x h
  exact (okA_nat _ _).2 ⟨this.2.2, by omega⟩
section
variable {g : Nat} {fb lb : Array Value} {ask : Nat → Nat × Nat → ByteArray × Int} {J : (Nat → Prop) → List (Nat × Nat) → World → Prop} {N : Nat} {D : Nat → Prop}
def HashC (wd sz : Int) : Prop := ∀ (F : Nat → Prop) (l : List (Nat × Nat)) (a b : Nat) (w : World), a ≤ b → b ≤ 4611686018427387904 → l.length + 122 ≤ N → J F l w →
  Calls Tryd.prog 58 #[rv wd sz g fb lb, .agg #[.int .i64 a, .int .i64 b]] w fun e w' => e = .returned (.tuple #[.string (hashP (okw wd) (fow wd) ask l (a, b)).1, .int .i64 (hashP (okw wd) (fow wd) ask l (a, b)).2.1]) ∧ ∃ F', J F' (hashP (okw wd) (fow wd) ask l (a, b)).2.2 w' ∧ Goes F w F' w'
set_option maxHeartbeats 3200000 in
theorem hashC (R : Rd g fb lb ask J N D) (wd sz : Int) (hwd : i64 wd) : HashC (g := g) (fb := fb) (lb := lb) (ask := ask) (J := J) (N := N) wd sz := by
  intro F l a b w hab hb hN hJ
  unfold rv
  have RR : Hid (Rd g fb lb ask J N D) := R
  have eg := R.enter
  have HJ : Hid (J F l w) := hJ
  obtain ⟨L, HL⟩ : ∃ L, Hid (cov a b = L) := ⟨_, rfl⟩
  have HOK : Hid (∀ x ∈ L, okA x.1 x.2) := by show ∀ x ∈ L, _; rw [← HL.out]; intro x hx; exact cov_ok hb hx
  have hlen : L.length ≤ 122 := by rw [← HL.out]; exact cov_len a b hab (by rw [p62]; exact hb)
  have hcI : covI (a : Int) (b : Int) = L := by unfold covI; rw [if_pos ⟨by omega, by omega, by omega⟩, Int.toNat_natCast, Int.toNat_natCast, HL.out]
  have hcE : covE (a : Int) (b : Int) = 0 := by unfold covE; rw [if_pos ⟨by omega, by omega, by omega⟩]
  have COV : Hid (∀ w, TabB w → Calls Tryd.prog 49 #[.int .i64 a, .int .i64 b] w fun e w' => (∃ v, e = .returned (.tuple #[v, .int .i64 0]) ∧ w'.ownsRow w.heap.size 36 2 v L.length (cls L)) ∧ Below w.heap.size w w') := by
    intro w hw
    have := coverC.covers (a : Int) (b : Int) (i64_nat (by omega)) (i64_nat hb) w hw
    unfold Rowed at this
    rw [hcI, hcE] at this
    exact this
  obtain ⟨n, HLN⟩ : ∃ n, Hid (L.length = n) := ⟨_, rfl⟩
  rw [HLN.out] at hlen
  have B0 : Hid (Below w.heap.size w ((w.alloc (.cells #[.int .i64 wd, .int .i64 sz, .func (.func g) fb lb] 48)).alloc (.cells #[.int .i64 a, .int .i64 b] 85))) := ((Below.refl _ _).alloc (Nat.le_refl _) _).alloc (by simp) _
  have BX : Hid (((w.alloc (.cells #[.int .i64 wd, .int .i64 sz, .func (.func g) fb lb] 48)).alloc (.cells #[.int .i64 a, .int .i64 b] 85)).cell? ⟨w.heap.size, 0, none⟩ = some (.int .i64 wd) ∧ ((w.alloc (.cells #[.int .i64 wd, .int .i64 sz, .func (.func g) fb lb] 48)).alloc (.cells #[.int .i64 a, .int .i64 b] 85)).cell? ⟨w.heap.size, 2, none⟩ = some (.func (.func g) fb lb)) := by
    have h3 := three_box w (.int .i64 wd) (.int .i64 sz) (.func (.func g) fb lb) 48
    have hb1 : Below (w.alloc (.cells #[.int .i64 wd, .int .i64 sz, .func (.func g) fb lb] 48)).heap.size (w.alloc (.cells #[.int .i64 wd, .int .i64 sz, .func (.func g) fb lb] 48)) ((w.alloc (.cells #[.int .i64 wd, .int .i64 sz, .func (.func g) fb lb] 48)).alloc (.cells #[.int .i64 a, .int .i64 b] 85)) := (Below.refl _ _).alloc (Nat.le_refl _) _
    exact ⟨(hb1.cell (World.block_lt_of_cell? _ _ h3.1)).trans h3.1, (hb1.cell (World.block_lt_of_cell? _ _ h3.2.2)).trans h3.2.2⟩
  have T0 : Hid (TB w) := R.tab hJ
  have HP : Hid (∀ x y : Int × List (Nat × Nat), x = y → True) := fun _ _ _ => trivial
  obtain ⟨hsh, HSH⟩ : ∃ q, Hid (hashP (okw wd) (fow wd) ask l (a, b) = q) := ⟨_, rfl⟩
  have HTE : Hid (∀ r : List ByteArray × Int × List (Nat × Nat), tell (okw wd) ask l L = r → hsh = (if r.2.1 = 0 then fow wd r.1 else ByteArray.empty, r.2)) := by
    rintro r rfl
    rw [← HSH.out, ← HL.out]
    rfl
  rw [HSH.out]
  obtain ⟨i9, hi9', hz0, hz1, hz2⟩ := ka.info_parts ka.hi9
  have HIN : Hid (_ ∧ _ ∧ _ ∧ _) := ⟨hi9', hz0, hz1, hz2⟩
  clear hJ hcI hcE hi9' hz0 hz1 hz2 R HP
  go_enter Tryd.func58, Tryd.ntmps58
  go_wp2_with fail
  refine (COV.out _ (T0.out.d.later B0.out)).mono ?_
  rintro e w1 ⟨⟨v, rfl, hrow⟩, hb1⟩
  rw [HLN.out] at hrow
  obtain ⟨av, cap, rfl⟩ := own_formS hrow
  have B1 : Hid (Below w.heap.size w w1) := over B0.out hb1
  have BX1 : Hid (w1.cell? ⟨w.heap.size, 0, none⟩ = some (.int .i64 wd) ∧ w1.cell? ⟨w.heap.size, 2, none⟩ = some (.func (.func g) fb lb)) := ⟨(hb1.cell (World.block_lt_of_cell? _ _ BX.out.1)).trans BX.out.1, (hb1.cell (World.block_lt_of_cell? _ _ BX.out.2)).trans BX.out.2⟩
  have HROW : Hid (w1.ownsRow (w.heap.size + 2) 36 2 (.slice av n cap) n (cls L)) := by
    have := hrow
    simp only [World.size_alloc] at this
    exact this
  have J1 : Hid (J F l w1) := RR.out.later HJ.out B1.out
  obtain ⟨w2, hmk, how, hgr⟩ := run_makeSlice_owned (P := Tryd.prog) (w := w1) w1.heap.size 22 9 i9 (.string ByteArray.empty) 1 Tryd.underlying22 HIN.out.1 HIN.out.2.1 HIN.out.2.2.1 .i64 .i64 n (by omega) (by rw [HIN.out.2.2.2]; omega) (by unfold maxLen; omega) (Nat.le_refl _)
  have HH0 : Hid (Hl RR.out wd (.func (.func g) fb lb) (.slice av n cap) F w l L w.heap.size w1.heap.size 0 (.slice (some ⟨w1.heap.size, 0, none⟩) 0 n) w2 F l []) := by
    have hb2 : Below w1.heap.size w1 w2 := ⟨hgr.os, hgr.tape, hgr.output, hgr.size, fun k hk => hgr.block k hk (by simp)⟩
    have hlt1 := World.block_lt_of_cell? _ _ BX1.out.1
    refine ⟨RR.out.later J1.out hb2, (Goes.of_below (over B1.out hb2)), (hb2.cell hlt1).trans BX1.out.1, (hb2.cell (World.block_lt_of_cell? _ _ BX1.out.2)).trans BX1.out.2, fun h => Nat.lt_irrefl _ (RR.out.within HJ.out _ h), hlt1, (own_readsA HROW.out).later hb2, ?_, how, ?_, ⟨B1.out.size, hgr.size⟩, RR.out.big HJ.out, ⟨Nat.zero_le _, rfl, rfl⟩, ?_, fun x hx => by cases hx⟩
    · intro b' off n' cap' he
      obtain ⟨hlo, hhi⟩ := owns_lt HROW.out (g := b') (by rw [he]; rfl)
      exact ⟨fun h => by have := RR.out.within HJ.out _ h; omega, hlo⟩
    · intro g' hg' hF
      have := RR.out.within HJ.out _ hF
      have e := Option.some.inj hg'
      have := B1.out.size
      have : w1.heap.size = g' := e
      omega
    · rw [List.drop_zero, List.nil_append]
  clear hrow hb1 B0 BX BX1 HROW J1 B1 how hgr
  go_wp2
  go_loopw [8, 26] (fun u i wr => ∃ k : Nat, i = .int .i64 k ∧ k ≤ n ∧ ∃ F' l' acc, Hid (Hl RR.out wd (.func (.func g) fb lb) (.slice av n cap) F w l L w.heap.size w1.heap.size k u wr F' l' acc)) (fun _ i _ => (n - intOf i).toNat)
  case atStart => exact ⟨0, rfl, Nat.zero_le _, F, l, [], HH0.out⟩
  case round =>
    clear hmk HH0
    obtain ⟨k, rfl, hkn, F', l', acc, HLP⟩ := hrel
    by_cases hk : k < n
    · have hk' : (k : Int) < n := by omega
      have hkl : k < L.length := by rw [HLN.out]; exact hk
      obtain ⟨x, hx⟩ : ∃ x, L[k]? = some x := ⟨_, List.getElem?_eq_getElem hkl⟩
      obtain ⟨b1, rfl, c1, c2⟩ := row_at HLP.out.nodes (k := x.1) (i := x.2) hx
      have HXX : Hid (L.drop k = x :: L.drop (k + 1) ∧ x ∈ L) := by
        have e := List.getElem?_eq_some_iff.1 hx
        exact ⟨by rw [List.drop_eq_getElem_cons hkl, e.2], List.mem_of_getElem? hx⟩
      have hok := HOK.out x HXX.out.2
      have BA : Hid (Below wr.heap.size wr (wr.alloc (.cells #[.int .i64 x.1, .int .i64 x.2] 36))) := (Below.refl _ _).alloc (Nat.le_refl _) _
      have d2 : (wr.alloc (.cells #[.int .i64 x.1, .int .i64 x.2] 36)).cell? ⟨w.heap.size, 2, none⟩ = some (.func (.func g) fb lb) := (BA.out.cell (World.block_lt_of_cell? _ _ HLP.out.box2)).trans HLP.out.box2
      have C1 : Hid (Calls _ _ _ _ _) := RR.out.call F' l' x (wr.alloc (.cells #[.int .i64 x.1, .int .i64 x.2] 36)) (by have := HLP.out.kk; rw [HLN.out] at this; omega) hok (RR.out.later HLP.out.j BA.out)
      obtain ⟨h, HH⟩ : ∃ h, Hid ((ask (l'.length + 1) x).1 = h) := ⟨_, rfl⟩
      obtain ⟨c, HC⟩ : ∃ c, Hid ((ask (l'.length + 1) x).2 = c) := ⟨_, rfl⟩
      rw [HH.out, HC.out] at C1
      have hw1 : IntKind.i64.wrap (x.1 : Int) = x.1 := wrap_is _ (by have := (okA_nat _ _).1 hok; omega)
      clear hx hok
      go_wp2_with fail
      refine C1.out.mono ?_
      rintro e w3 ⟨rfl, F3, hJ3, hG3⟩
      have J3 : Hid (J F3 (l' ++ [x]) w3) := hJ3
      have G3 : Hid (Goes F w F3 w3) := (HLP.out.go.trans (Goes.of_below BA.out)).trans hG3
      have c3 : w3.cell? ⟨w.heap.size, 0, none⟩ = some (.int .i64 wd) := hG3.cell ((BA.out.cell (World.block_lt_of_cell? _ _ HLP.out.box0)).trans HLP.out.box0) HLP.out.out
      have HG3 : Hid (Goes F' (wr.alloc (.cells #[.int .i64 x.1, .int .i64 x.2] 36)) F3 w3) := hG3
      clear hJ3 hG3 d2
      by_cases hc : c = 0
      · subst hc
        have IC : Hid (Calls _ _ _ _ _) := isHash wd h w3 hwd
        obtain ⟨t, HT⟩ : ∃ t, Hid (decide (h.size = wid wd) = t) := ⟨_, rfl⟩
        rw [HT.out] at IC
        go_wp2_with fail
        refine IC.out.mono ?_
        rintro e w4 ⟨rfl, hw4⟩
        subst hw4
        cases t
        · have HE : Hid (hsh = (ByteArray.empty, 72, l' ++ [x])) := by
            have h1 := HLP.out.eq
            rw [HXX.out.1, tell_len (okw wd) ask HC.out (by rw [HH.out]; exact HT.out)] at h1
            exact HTE.out _ h1
          go_wp2
          go_ret2
          exact ⟨by rw [HE.out]; rfl, F3, by rw [HE.out]; exact J3.out, G3.out⟩
        · have hsz : h.size = wid wd := of_decide_eq_true HT.out
          have HEQ : Hid (tell (okw wd) ask l L = ((acc ++ [h]) ++ (tell (okw wd) ask (l' ++ [x]) (L.drop (k + 1))).1, (tell (okw wd) ask (l' ++ [x]) (L.drop (k + 1))).2)) := by
            have h1 := HLP.out.eq
            rw [HXX.out.1, tell_yes (okw wd) ask HC.out (by rw [HH.out]; exact HT.out), HH.out] at h1
            show _ = _
            rw [h1, List.append_assoc]
            rfl
          have OWB : Hid (_ ∧ Beside F3 u8) := HG3.out.owns (own_later HLP.out.own BA.out) HLP.out.bes
          have BB : Hid (Below w4.heap.size w4 (w4.alloc (.cells #[.string h] 9))) := (Below.refl _ _).alloc (Nat.le_refl _) _
          have OX : Hid ((w4.alloc (.cells #[.string h] 9)).ownsRow w1.heap.size 9 1 u8 k (acc.map Value.string)) := own_later OWB.out.1 BB.out
          have SX : Hid (w1.heap.size ≤ (w4.alloc (.cells #[.string h] 9)).heap.size) := by
            have h1 := HLP.out.base_le.2
            have h2 := BA.out.size
            have h3 := HG3.out.1.size
            have h4 := BB.out.size
            show _ ≤ _
            omega
          have hwl := wid_le wd
          clear hsz
          go_wp2_with (at_builtin; refine wpList_append_own_at _ rfl _ _ 22 rfl w1.heap.size 9 i9 (.string ByteArray.empty) 1 16 Tryd.underlying22 HIN.out.1 HIN.out.2.1 HIN.out.2.2.1 HIN.out.2.2.2 rfl (by decide) _ k _ rfl OX.out ⟨w4.heap.size, 0, none⟩ 1 1 [.string h] rfl rfl (new_text _ _ _) (one_text _) (by unfold maxLen; omega) (by omega) SX.out ?_; intro p' w5 ho hg hnn hat; have HO5 : Hid (w5.ownsRow w1.heap.size 9 1 p' (k + 1) (acc.map Value.string ++ [.string h])) := ho; have HG5 : Hid ((w4.alloc (.cells #[.string h] 9)).grownBy w5 u8.ownBlock ∧ (p'.ownBlock = u8.ownBlock ∨ p'.ownBlock = some (w4.alloc (.cells #[.string h] 9)).heap.size)) := ⟨hg, hat⟩; clear ho hg hnn hat)
          go_roundw
          case rel =>
            obtain ⟨j5, g5, b5⟩ := grow_beside RR.out (RR.out.later J3.out BB.out) (G3.out.trans (Goes.of_below BB.out)) HLP.out.base_le.1 HLP.out.bx OX.out OWB.out.2 HG5.out.1 HG5.out.2
            have hbs : ∀ b, b < w1.heap.size → b < (w4.alloc (.cells #[.string h] 9)).heap.size → w5.heap[b]? = (w4.alloc (.cells #[.string h] 9)).heap[b]? := fun b hb hlt => HG5.out.1.block b hlt (fun e => by have := (owns_lt OX.out e.symm).2; omega)
            have cB : ∀ {o : Nat} {v : Value}, wr.cell? ⟨w.heap.size, o, none⟩ = some v → w5.cell? ⟨w.heap.size, o, none⟩ = some v := by
              intro o v hv
              have v1 := (BA.out.cell (World.block_lt_of_cell? _ _ hv)).trans hv
              have v2 := HG3.out.cell v1 HLP.out.out
              have v3 := (BB.out.cell (World.block_lt_of_cell? _ _ v2)).trans v2
              exact (World.cell?_of_block (a := ⟨w.heap.size, o, none⟩) (hbs _ HLP.out.lt (World.block_lt_of_cell? _ _ v3))).trans v3
            have hro : ReadsA w5 (.slice (some ⟨b1, 0, none⟩) n cap) L := by
              have r1 := HG3.out.readsA (HLP.out.nodes.later BA.out) (fun b off n cap he => (HLP.out.nout b off n cap he).1)
              exact readsA_keep (r1.later BB.out) (fun b off n cap he hlt => hbs b (HLP.out.nout b off n cap he).2 hlt)
            refine ⟨k + 1, by go_num, by omega, F3, l' ++ [x], acc ++ [h], ⟨j5, g5, cB HLP.out.box0, cB HLP.out.box2, ?_, HLP.out.lt, hro, ?_, ?_, b5, ⟨HLP.out.base_le.1, ?_⟩, HLP.out.bx, ⟨by rw [HLN.out]; omega, ?_, ?_⟩, HEQ.out, ?_⟩⟩
            · exact HG3.out.out (World.block_lt_of_cell? _ _ ((BA.out.cell (World.block_lt_of_cell? _ _ HLP.out.box0)).trans HLP.out.box0)) HLP.out.out
            · intro b off n' cap' he
              have q := HLP.out.nout b off n' cap' he
              exact ⟨HG3.out.out (by have := HLP.out.base_le.2; have := BA.out.size; omega) q.1, q.2⟩
            · rw [List.map_append]; exact HO5.out
            · exact Nat.le_trans SX.out HG5.out.1.size
            · rw [List.length_append, HLP.out.kk.2.1]; rfl
            · rw [List.length_append, HLP.out.kk.2.2]; rfl
            · intro y hy
              rcases List.mem_append.1 hy with hy | hy
              · exact HLP.out.fit y hy
              · rcases List.mem_cons.1 hy with rfl | hy
                · have : y.size = wid wd := of_decide_eq_true HT.out
                  omega
                · cases hy
          case measure => simp [intOf]; omega
      · have q0 : (c == 0) = false := by rw [beq_eq_false_iff_ne]; exact hc
        have HE : Hid (hsh = (ByteArray.empty, c, l' ++ [x])) := by
          have h1 := HLP.out.eq
          rw [HXX.out.1, tell_no (okw wd) ask (by rw [HC.out]; exact hc), HC.out] at h1
          have h2 := HTE.out _ h1
          rw [if_neg hc] at h2
          exact h2
        clear hc
        go_wp2
        go_ret2
        exact ⟨by rw [HE.out]; rfl, F3, by rw [HE.out]; exact J3.out, G3.out⟩
    · obtain rfl : n = k := by omega
      have hRT := own_readsT HLP.out.own
      have FC : Hid (Calls _ _ _ _ _) := pFold wd u8 acc wr (RR.out.tab HLP.out.j).t hRT HLP.out.fit (by rw [HLP.out.kk.2.1]; omega)
      have HE : Hid (hsh = (foldP (EF wd) (NF wd) acc, 0, l')) := by
        have h1 := HLP.out.eq
        rw [List.drop_of_length_le (by rw [HLN.out]; exact Nat.le_refl _)] at h1
        have h2 := HTE.out _ h1
        simp only [tell, List.append_nil] at h2
        rw [if_pos trivial] at h2
        exact h2
      obtain ⟨r, HR⟩ : ∃ r, Hid (foldP (EF wd) (NF wd) acc = r) := ⟨_, rfl⟩
      rw [HR.out] at FC HE
      have c3 := HLP.out.box0
      clear hRT hk
      go_wp2_with fail
      refine FC.out.mono ?_
      rintro e w3 ⟨rfl, hb3⟩
      have B3 : Hid (Below wr.heap.size wr w3) := hb3
      clear hb3
      go_wp2
      go_ret2
      exact ⟨by rw [HE.out]; rfl, F', by rw [HE.out]; exact RR.out.later HLP.out.j B3.out, HLP.out.go.trans (Goes.of_below B3.out)⟩
end
end Go.Proofs.YtmmbkfagchaocaaDoor.bd

namespace Go.Proofs.YtmmbkfagchaocaaDoor.be
open Go.RowKit Go.PlainAid
open Go.Proofs.YtmmbkfagchaocaaDoor.pl Go.Proofs.YtmmbkfagchaocaaDoor.pi Go.Proofs.YtmmbkfagchaocaaDoor.rf Go.Proofs.YtmmbkfagchaocaaDoor.pj Go.Proofs.YtmmbkfagchaocaaDoor.ca Go.Proofs.YtmmbkfagchaocaaDoor.cb Go.Proofs.YtmmbkfagchaocaaDoor.cp Go.Proofs.YtmmbkfagchaocaaDoor.cs Go.Proofs.YtmmbkfagchaocaaDoor.ct Go.Proofs.YtmmbkfagchaocaaDoor.ka Go.Proofs.YtmmbkfagchaocaaDoor.kb Go.Proofs.YtmmbkfagchaocaaDoor.ga Go.Proofs.YtmmbkfagchaocaaDoor.aa Go.Proofs.YtmmbkfagchaocaaDoor.ab Go.Proofs.YtmmbkfagchaocaaDoor.tb Go.Proofs.YtmmbkfagchaocaaDoor.ac Go.Proofs.YtmmbkfagchaocaaDoor.ba Go.Proofs.YtmmbkfagchaocaaDoor.bb Go.Proofs.YtmmbkfagchaocaaDoor.bc Go.Proofs.YtmmbkfagchaocaaDoor.bd
set_option linter.unusedVariables false

section
variable {g : Nat} {fb lb : Array Value} {ask : Nat → Nat × Nat → ByteArray × Int} {J : (Nat → Prop) → List (Nat × Nat) → World → Prop} {N : Nat} {D : Nat → Prop}
-- a proof under way: the reader's box rb, the proof's box pb, its row u
structure Gs (R : Rd g fb lb ask J N D) (wd sz : Int) (F0 : Nat → Prop) (w0 : World) (rb pb base : Nat) (acc : List ByteArray) (l : List (Nat × Nat)) (F : Nat → Prop) (u : Value) (wr : World) : Prop where
  j : J F l wr
  go : Goes F0 w0 F wr
  box0 : wr.cell? ⟨rb, 0, none⟩ = some (.int .i64 wd)
  box1 : wr.cell? ⟨rb, 1, none⟩ = some (.int .i64 sz)
  box2 : wr.cell? ⟨rb, 2, none⟩ = some (.func (.func g) fb lb)
  outR : ¬ F rb
  pbox : wr.heap[pb]? = some (.cells #[u] 22 (0, 0))
  outP : ¬ F pb
  own : wr.ownsRow base 9 1 u acc.length (acc.map Value.string)
  bes : Beside F u
  lts : w0.heap.size ≤ rb ∧ w0.heap.size ≤ pb ∧ rb < base ∧ pb < base ∧ rb ≠ pb ∧ base ≤ wr.heap.size
  bx : ∀ b, D b → b < w0.heap.size
theorem Gs.later {R : Rd g fb lb ask J N D} {wd sz : Int} {F0 : Nat → Prop} {w0 : World} {rb pb base : Nat} {acc : List ByteArray} {l : List (Nat × Nat)} {F : Nat → Prop} {u : Value} {wr w' : World} (h : Gs R wd sz F0 w0 rb pb base acc l F u wr) (hb : Below wr.heap.size wr w') : Gs R wd sz F0 w0 rb pb base acc l F u w' :=
  ⟨R.later h.j hb, h.go.trans (Goes.of_below hb), (hb.cell (World.block_lt_of_cell? _ _ h.box0)).trans h.box0, (hb.cell (World.block_lt_of_cell? _ _ h.box1)).trans h.box1, (hb.cell (World.block_lt_of_cell? _ _ h.box2)).trans h.box2, h.outR,
   (hb.block _ (Array.getElem?_eq_some_iff.1 h.pbox).1).trans h.pbox, h.outP, own_later h.own hb, h.bes, ⟨h.lts.1, h.lts.2.1, h.lts.2.2.1, h.lts.2.2.2.1, h.lts.2.2.2.2.1, Nat.le_trans h.lts.2.2.2.2.2 hb.size⟩, h.bx⟩
-- behind what the reader did
theorem Gs.asked {R : Rd g fb lb ask J N D} {wd sz : Int} {F0 : Nat → Prop} {w0 : World} {rb pb base : Nat} {acc : List ByteArray} {l l' : List (Nat × Nat)} {F F' : Nat → Prop} {u : Value} {wr w' : World} (h : Gs R wd sz F0 w0 rb pb base acc l F u wr) (hj : J F' l' w') (hg : Goes F wr F' w') : Gs R wd sz F0 w0 rb pb base acc l' F' u w' := by
  have hlr := World.block_lt_of_cell? _ _ h.box0
  have hlp := (Array.getElem?_eq_some_iff.1 h.pbox).1
  obtain ⟨o1, o2⟩ := hg.owns h.own h.bes
  exact ⟨hj, h.go.trans hg, hg.cell h.box0 h.outR, hg.cell h.box1 h.outR, hg.cell h.box2 h.outR, hg.out hlr h.outR, (hg.1.block _ hlp h.outP).trans h.pbox, hg.out hlp h.outP, o1, o2, ⟨h.lts.1, h.lts.2.1, h.lts.2.2.1, h.lts.2.2.2.1, h.lts.2.2.2.2.1, Nat.le_trans h.lts.2.2.2.2.2 hg.1.size⟩, h.bx⟩
-- behind an append to the row, which is then laid into its box
theorem Gs.grown {R : Rd g fb lb ask J N D} {wd sz : Int} {F0 : Nat → Prop} {w0 : World} {rb pb base : Nat} {acc : List ByteArray} {l : List (Nat × Nat)} {F : Nat → Prop} {u p' : Value} {wr w5 : World} {x : ByteArray} (h : Gs R wd sz F0 w0 rb pb base acc l F u wr)
    (ho : w5.ownsRow base 9 1 p' (acc.length + 1) (acc.map Value.string ++ [.string x])) (hg : wr.grownBy w5 u.ownBlock) (hat : p'.ownBlock = u.ownBlock ∨ p'.ownBlock = some wr.heap.size) : Gs R wd sz F0 w0 rb pb base (acc ++ [x]) l F p' (w5.setCell ⟨pb, 0, none⟩ p') := by
  obtain ⟨j5, g5, b5⟩ := grow_beside R h.j h.go (by have := h.lts; omega) h.bx h.own h.bes hg hat
  obtain ⟨l1, l2, l3, l4, l5, l6⟩ := h.lts
  have old : ∀ b, b < base → w5.heap[b]? = wr.heap[b]? := fun b hb => hg.block b (by omega) (fun e => by have := (owns_lt h.own e.symm).2; omega)
  have hP5 : w5.heap[pb]? = some (.cells #[u] 22 (0, 0)) := (old pb l4).trans h.pbox
  have K : Kp (fun b => b = pb) w5 (w5.setCell ⟨pb, 0, none⟩ p') := Kp.setCell _ _ _ _ rfl
  have cR : ∀ {o : Nat} {v : Value}, wr.cell? ⟨rb, o, none⟩ = some v → (w5.setCell ⟨pb, 0, none⟩ p').cell? ⟨rb, o, none⟩ = some v := fun {o v} hv => K.cell ((World.cell?_of_block (a := ⟨rb, o, none⟩) (old rb l3)).trans hv) l5
  have hpne : ∀ gg, p'.ownBlock = some gg → gg ≠ pb := by
    intro gg hgg e
    have := (owns_lt ho hgg).2
    omega
  refine ⟨R.keep j5 K (fun b e => ⟨e ▸ h.outP, fun hD => by have := h.bx b hD; omega⟩), ⟨⟨g5.1.os, g5.1.tape, g5.1.output, Nat.le_trans g5.1.size K.size, fun k hk hn => (K.block k (Nat.lt_of_lt_of_le hk g5.1.size) (fun e => by omega)).trans (g5.1.block k hk hn)⟩, g5.2⟩, cR h.box0, cR h.box1, cR h.box2, h.outR, ?_, h.outP, ?_, b5, ⟨l1, l2, l3, l4, l5, ?_⟩, h.bx⟩
  · rw [heap_setCell_same _ _ 0 _ _ p' hP5]; rfl
  · rw [List.length_append, List.map_append]
    exact owns_keep ho (fun gg hgg => K.block gg (owns_lt ho hgg).1 (hpne gg hgg))
  · exact Nat.le_trans l6 (Nat.le_trans hg.size K.size)
-- the blocks that a walk writes
def At (pb : Nat) (F : Nat → Prop) (u : Value) : Nat → Prop := fun b => F b ∨ b = pb ∨ u.ownBlock = some b
theorem at_lift {pb : Nat} {F F' : Nat → Prop} {u : Value} {w w' : World} (h : Goes F w F' w') : Goes (At pb F u) w (At pb F' u) w' := by
  refine ⟨h.1.mono (fun k hk => .inl hk), fun b hb => ?_⟩
  rcases hb with hb | hb
  · exact (h.2 b hb).imp .inl id
  · exact .inl (.inr hb)
theorem Gs.lt {R : Rd g fb lb ask J N D} {wd sz : Int} {F0 : Nat → Prop} {w0 : World} {rb pb base : Nat} {acc : List ByteArray} {l : List (Nat × Nat)} {F : Nat → Prop} {u : Value} {wr : World} (h : Gs R wd sz F0 w0 rb pb base acc l F u wr) : ∀ b, At pb F u b → b < wr.heap.size := by
  rintro b (hb | rfl | hb)
  · exact R.within h.j b hb
  · have := h.lts; omega
  · exact (owns_lt h.own hb).1
theorem at_grown {pb : Nat} {F : Nat → Prop} {u p' : Value} {w w5 : World} (hg : w.grownBy w5 u.ownBlock) (hat : p'.ownBlock = u.ownBlock ∨ p'.ownBlock = some w.heap.size) : Goes (At pb F u) w (At pb F p') (w5.setCell ⟨pb, 0, none⟩ p') := by
  have K : Kp (At pb F u) w5 (w5.setCell ⟨pb, 0, none⟩ p') := Kp.setCell _ _ _ _ (.inr (.inl rfl))
  have K0 : Kp (At pb F u) w w5 := ⟨hg.os, hg.tape, hg.output, hg.size, fun k hk hn => hg.block k hk (fun e => hn (.inr (.inr e.symm)))⟩
  refine ⟨K0.trans K, fun b hb => ?_⟩
  rcases hb with hb | hb | hb
  · exact .inl (.inl hb)
  · exact .inl (.inr (.inl hb))
  · rcases hat with h | h
    · exact .inl (.inr (.inr (h ▸ hb)))
    · rw [h] at hb
      obtain rfl := Option.some.inj hb
      exact .inr (Nat.le_refl _)
set_option maxHeartbeats 1600000 in
theorem put (R : Rd g fb lb ask J N D) (wd sz : Int) (hwd : i64 wd) (F0 : Nat → Prop) (w0 : World) (rb pb base : Nat) (acc : List ByteArray) (l : List (Nat × Nat)) (F : Nat → Prop) (u : Value) (a b : Nat) (hab : a ≤ b) (hb : b ≤ 4611686018427387904) (hN : l.length + 122 ≤ N) (hm : acc.length ≤ 1000000) (w : World) (hG : Gs R wd sz F0 w0 rb pb base acc l F u w) :
    Calls Tryd.prog 57 #[.agg #[.int .i64 a, .int .i64 b], .pointer (some ⟨rb, 0, none⟩), .pointer (some ⟨pb, 0, none⟩)] w fun e w' =>
      e = .returned (.int .i64 (hashP (okw wd) (fow wd) ask l (a, b)).2.1) ∧ ∃ F' u', Gs R wd sz F0 w0 rb pb base (acc ++ [(hashP (okw wd) (fow wd) ask l (a, b)).1]) (hashP (okw wd) (fow wd) ask l (a, b)).2.2 F' u' w' ∧ Goes (At pb F u) w (At pb F' u') w' := by
  have HG : Hid (Gs R wd sz F0 w0 rb pb base acc l F u w) := hG
  have BA : Hid (Below w.heap.size w (w.alloc (.cells #[.int .i64 a, .int .i64 b] 85))) := (Below.refl _ _).alloc (Nat.le_refl _) _
  have HA : Hid (Gs R wd sz F0 w0 rb pb base acc l F u (w.alloc (.cells #[.int .i64 a, .int .i64 b] 85))) := hG.later BA.out
  have C1 : Hid (Calls _ _ _ _ _) := hashC R wd sz hwd F l a b (w.alloc (.cells #[.int .i64 a, .int .i64 b] 85)) hab hb hN HA.out.j
  obtain ⟨hsh, HSH⟩ : ∃ q, Hid (hashP (okw wd) (fow wd) ask l (a, b) = q) := ⟨_, rfl⟩
  rw [HSH.out] at C1 ⊢
  obtain ⟨h, c, l'⟩ := hsh
  unfold rv at C1
  have c0 := HA.out.box0
  have c1 := HA.out.box1
  have c2 := HA.out.box2
  obtain ⟨i9, hi9', hz0, hz1, hz2⟩ := ka.info_parts ka.hi9
  have HIN : Hid (_ ∧ _ ∧ _ ∧ _) := ⟨hi9', hz0, hz1, hz2⟩
  clear hG hi9' hz0 hz1 hz2
  go_enter Tryd.func57, Tryd.ntmps57
  go_wp2_with fail
  refine C1.out.mono ?_
  rintro e w1 ⟨rfl, F1, hj1, hg1⟩
  have H1 : Hid (Gs R wd sz F0 w0 rb pb base acc l' F1 u w1) := HA.out.asked hj1 hg1
  have L1 : Hid (Goes (At pb F u) w (At pb F1 u) w1) := (Goes.of_below BA.out).trans (at_lift hg1)
  have BB : Hid (Below w1.heap.size w1 (w1.alloc (.cells #[.string h] 9))) := (Below.refl _ _).alloc (Nat.le_refl _) _
  have H2 : Hid (Gs R wd sz F0 w0 rb pb base acc l' F1 u (w1.alloc (.cells #[.string h] 9))) := H1.out.later BB.out
  have p1 : w1.cell? ⟨pb, 0, none⟩ = some u := (cell_of_row _ _ _ _ _ _ H1.out.pbox).trans rfl
  have f1 : w1.frozen? ⟨pb, 0, none⟩ = false := frozen_of_row _ _ _ _ _ H1.out.pbox
  clear hj1 hg1 c0 c1 c2
  go_wp2_with (at_builtin; refine wpList_append_own_at _ rfl _ _ 22 rfl base 9 i9 (.string ByteArray.empty) 1 16 Tryd.underlying22 HIN.out.1 HIN.out.2.1 HIN.out.2.2.1 HIN.out.2.2.2 rfl (by decide) _ acc.length _ rfl H2.out.own ⟨w1.heap.size, 0, none⟩ 1 1 [.string h] rfl rfl (new_text _ _ _) (one_text _) (by unfold maxLen; omega) (by omega) H2.out.lts.2.2.2.2.2 ?_; intro p' w5 ho hg hnn hat; obtain ⟨pa, pc, rfl⟩ := own_formS ho; have HX : Hid (Gs R wd sz F0 w0 rb pb base (acc ++ [h]) l' F1 (.slice pa (acc.length + 1) pc) (w5.setCell ⟨pb, 0, none⟩ (.slice pa (acc.length + 1) pc))) := H2.out.grown ho hg hat; have HL5 : Hid (Goes (At pb F u) w (At pb F1 (.slice pa (acc.length + 1) pc)) (w5.setCell ⟨pb, 0, none⟩ (.slice pa (acc.length + 1) pc))) := (L1.out.trans (Goes.of_below BB.out)).trans (at_grown hg hat); have HP5 : Hid (w5.heap[pb]? = some (.cells #[u] 22 (0, 0))) := (hg.block pb (Array.getElem?_eq_some_iff.1 H2.out.pbox).1 (fun e => by have := (owns_lt H2.out.own e.symm).2; have := H2.out.lts; omega)).trans H2.out.pbox; have f5 : w5.frozen? ⟨pb, 0, none⟩ = false := frozen_of_row _ _ _ _ _ HP5.out; have p5 : w5.cell? ⟨pb, 0, none⟩ = some u := (cell_of_row _ _ _ _ _ _ HP5.out).trans rfl; clear ho hg hnn hat)
  go_ret
  exact ⟨rfl, F1, _, HX.out, HL5.out⟩
end
end Go.Proofs.YtmmbkfagchaocaaDoor.be

namespace Go.Proofs.YtmmbkfagchaocaaDoor.bg
open Go.RowKit Go.PlainAid
open Go.Proofs.YtmmbkfagchaocaaDoor.pl Go.Proofs.YtmmbkfagchaocaaDoor.pi Go.Proofs.YtmmbkfagchaocaaDoor.rf Go.Proofs.YtmmbkfagchaocaaDoor.pj Go.Proofs.YtmmbkfagchaocaaDoor.ca Go.Proofs.YtmmbkfagchaocaaDoor.cb Go.Proofs.YtmmbkfagchaocaaDoor.cp Go.Proofs.YtmmbkfagchaocaaDoor.cs Go.Proofs.YtmmbkfagchaocaaDoor.ct Go.Proofs.YtmmbkfagchaocaaDoor.ka Go.Proofs.YtmmbkfagchaocaaDoor.kb Go.Proofs.YtmmbkfagchaocaaDoor.ga Go.Proofs.YtmmbkfagchaocaaDoor.aa Go.Proofs.YtmmbkfagchaocaaDoor.ab Go.Proofs.YtmmbkfagchaocaaDoor.tb Go.Proofs.YtmmbkfagchaocaaDoor.ac Go.Proofs.YtmmbkfagchaocaaDoor.ba Go.Proofs.YtmmbkfagchaocaaDoor.bb Go.Proofs.YtmmbkfagchaocaaDoor.bc Go.Proofs.YtmmbkfagchaocaaDoor.bd Go.Proofs.YtmmbkfagchaocaaDoor.be
set_option linter.unusedVariables false

-- what a walk does at a part
structure Lk (lg : Nat) (lv : Array Value) (lk : Nat → Nat → Nat) (P : World → Prop) : Prop where
  enter : ∀ args w, (callFunc lg args).run Tryd.prog w = .ok (.enter lg args) w
  call : ∀ (a b : Nat) (w : World), a < b → b ≤ 4611686018427387904 → P w → Calls Tryd.prog lg (#[.agg #[.int .i64 a, .int .i64 b]] ++ lv) w fun e w' => e = .returned (.int .i64 (lk a b : Nat)) ∧ Below w.heap.size w w'
  wide : ∀ a b, a < b → 2 ≤ lk a b → 2 ≤ b - a
  four : ∀ a b, lk a b ≤ 3
section
variable {g : Nat} {fb lb : Array Value} {ask : Nat → Nat × Nat → ByteArray × Int} {J : (Nat → Prop) → List (Nat × Nat) → World → Prop} {N : Nat} {D : Nat → Prop} {lg : Nat} {lv : Array Value} {lk : Nat → Nat → Nat} {P : World → Prop}
def Walked (R : Rd g fb lb ask J N D) (wd sz : Int) (F0 : Nat → Prop) (w0 : World) (rb pb base : Nat) (acc : List ByteArray) (F : Nat → Prop) (u : Value) (w : World) (t : List ByteArray × Int × List (Nat × Nat)) (e : Ending) (w' : World) : Prop :=
  e = .returned (.int .i64 t.2.1) ∧ ∃ F' u' acc', Gs R wd sz F0 w0 rb pb base acc' t.2.2 F' u' w' ∧ (t.2.1 = 0 → acc' = acc ++ t.1) ∧ Goes (At pb F u) w (At pb F' u') w'
theorem two_box (w : World) (x y x' y' : Value) (t t' : TypeId) : ((w.alloc (.cells #[x, y] t)).alloc (.cells #[x', y'] t')).cell? ⟨w.heap.size, 0, none⟩ = some x ∧ ((w.alloc (.cells #[x, y] t)).alloc (.cells #[x', y'] t')).cell? ⟨w.heap.size, 1, none⟩ = some y ∧ ((w.alloc (.cells #[x, y] t)).alloc (.cells #[x', y'] t')).cell? ⟨w.heap.size + 1, 0, none⟩ = some x' ∧ ((w.alloc (.cells #[x, y] t)).alloc (.cells #[x', y'] t')).cell? ⟨w.heap.size + 1, 1, none⟩ = some y' := by
  have s1 : (w.alloc (.cells #[x, y] t)).heap.size = w.heap.size + 1 := by simp
  have B : Below (w.alloc (.cells #[x, y] t)).heap.size (w.alloc (.cells #[x, y] t)) ((w.alloc (.cells #[x, y] t)).alloc (.cells #[x', y'] t')) := (Below.refl _ _).alloc (Nat.le_refl _) _
  refine ⟨?_, ?_, ?_, ?_⟩
  · refine (B.cell (p := ⟨w.heap.size, 0, none⟩) (by show w.heap.size < _; rw [s1]; omega)).trans ?_
    rw [World.cell?_alloc_at _ _ _ _ rfl]; rfl
  · refine (B.cell (p := ⟨w.heap.size, 1, none⟩) (by show w.heap.size < _; rw [s1]; omega)).trans ?_
    rw [World.cell?_alloc_at _ _ _ _ rfl]; rfl
  · rw [← s1, World.cell?_alloc_at _ _ _ _ rfl]; rfl
  · rw [← s1, World.cell?_alloc_at _ _ _ _ rfl]; rfl
set_option maxHeartbeats 6400000 in
theorem walkC (R : Rd g fb lb ask J N D) (LK : Lk lg lv lk P) (wd sz : Int) (hwd : i64 wd) (F0 : Nat → Prop) (w0 : World) (rb pb base : Nat) (HP : ∀ F wr, Goes F0 w0 F wr → P wr) (n : Nat) : ∀ (a b : Nat) (acc : List ByteArray) (l : List (Nat × Nat)) (F : Nat → Prop) (u : Value) (w : World), b - a = n → a < b → b ≤ 4611686018427387904 →
    l.length + 122 * (WL lk a b).length ≤ N → acc.length + (WL lk a b).length ≤ 1000000 → Gs R wd sz F0 w0 rb pb base acc l F u w →
    Calls Tryd.prog 59 #[.agg #[.int .i64 a, .int .i64 b], .func (.func lg) #[] lv, .func (.func 57) #[] #[.pointer (some ⟨rb, 0, none⟩), .pointer (some ⟨pb, 0, none⟩)]] w (Walked R wd sz F0 w0 rb pb base acc F u w (told (okw wd) (fow wd) ask l (WL lk a b))) := by
  induction n using Nat.strongRecOn with
  | ind n ih =>
    intro a b acc l F u w hn hab hb hN hm hG
    have IH : Hid (∀ (a' b' : Nat), b' - a' < n → a' < b' → b' ≤ 4611686018427387904 → ∀ (acc : List ByteArray) (l : List (Nat × Nat)) (F : Nat → Prop) (u : Value) (w : World), l.length + 122 * (WL lk a' b').length ≤ N → acc.length + (WL lk a' b').length ≤ 1000000 → Gs R wd sz F0 w0 rb pb base acc l F u w →
      Calls Tryd.prog 59 #[.agg #[.int .i64 a', .int .i64 b'], .func (.func lg) #[] lv, .func (.func 57) #[] #[.pointer (some ⟨rb, 0, none⟩), .pointer (some ⟨pb, 0, none⟩)]] w (Walked R wd sz F0 w0 rb pb base acc F u w (told (okw wd) (fow wd) ask l (WL lk a' b')))) := fun a' b' h1 h2 h3 acc l F u w => ih (b' - a') h1 a' b' acc l F u w rfl h2 h3
    have RR : Hid (Rd g fb lb ask J N D) := R
    have eg := LK.enter
    have BA : Hid (Below w.heap.size w (w.alloc (.cells #[.int .i64 a, .int .i64 b] 85))) := (Below.refl _ _).alloc (Nat.le_refl _) _
    have HA : Hid (Gs R wd sz F0 w0 rb pb base acc l F u (w.alloc (.cells #[.int .i64 a, .int .i64 b] 85))) := hG.later BA.out
    have LC : Hid (Calls _ _ _ _ _) := LK.call a b (w.alloc (.cells #[.int .i64 a, .int .i64 b] 85)) hab hb (HP _ _ HA.out.go)
    have hwide := LK.wide a b hab
    have hfour := LK.four a b
    have HBX : Hid (Bx (w.alloc (.cells #[.int .i64 a, .int .i64 b] 85)) w.heap.size a b) := ⟨by rw [World.cell?_alloc_at _ _ _ _ rfl]; rfl, by rw [World.cell?_alloc_at _ _ _ _ rfl]; rfl⟩
    obtain ⟨s, HS⟩ : ∃ s, Hid (lk a b = s) := ⟨_, rfl⟩
    obtain ⟨T, HTT⟩ : ∃ T, Hid (told (okw wd) (fow wd) ask l (WL lk a b) = T) := ⟨_, rfl⟩
    rw [HTT.out]
    rw [HS.out] at LC hwide hfour
    clear ih hG LK
    rcases (show s = 0 ∨ s = 1 ∨ s = 2 ∨ s = 3 by omega) with rfl | rfl | rfl | rfl
    · have HT : Hid (T = ([], 0, l)) := by show _ = _; rw [← HTT.out, WL_pass HS.out]; rfl
      clear hwide hfour hN hm
      go_enter Tryd.func59, Tryd.ntmps59
      go_wp2_with fail
      refine LC.out.mono ?_
      rintro e w1 ⟨rfl, hb1⟩
      have B1 : Hid (Below (w.alloc (.cells #[.int .i64 a, .int .i64 b] 85)).heap.size (w.alloc (.cells #[.int .i64 a, .int .i64 b] 85)) w1) := hb1
      clear hb1
      go_wp2
      go_ret
      rw [HT.out]
      exact ⟨rfl, F, u, acc, HA.out.later B1.out, fun _ => (List.append_nil _).symm, Goes.of_below (over BA.out B1.out)⟩
    · have hl1 : (WL lk a b).length = 1 := by rw [WL_take HS.out]; rfl
      rw [hl1] at hN hm
      have PC : Hid (∀ w', Gs R wd sz F0 w0 rb pb base acc l F u w' → Calls _ _ _ _ _) := fun w' h => put R wd sz hwd F0 w0 rb pb base acc l F u a b (by omega) hb (by omega) (by omega) w' h
      obtain ⟨q, HQ⟩ : ∃ q, Hid (hashP (okw wd) (fow wd) ask l (a, b) = q) := ⟨_, rfl⟩
      have HT : Hid (T = if q.2.1 = 0 then ([q.1], 0, q.2.2) else ([], q.2)) := by
        show _ = _
        rw [← HTT.out, WL_take HS.out, ← HQ.out]
        by_cases h : (hashP (okw wd) (fow wd) ask l (a, b)).2.1 = 0
        · rw [told_yes _ _ _ h, if_pos h]; rfl
        · rw [told_no _ _ _ h, if_neg h]
      rw [HQ.out] at PC
      clear hwide hfour hN hm hl1
      go_enter Tryd.func59, Tryd.ntmps59
      go_wp2_with fail
      refine LC.out.mono ?_
      rintro e w1 ⟨rfl, hb1⟩
      have G1 : Hid (Gs R wd sz F0 w0 rb pb base acc l F u w1) := HA.out.later hb1
      have L1 : Hid (Below w.heap.size w w1) := over BA.out hb1
      obtain ⟨c1, c2⟩ := HBX.out.later hb1
      clear hb1
      go_wp2_with fail
      refine (PC.out _ G1.out).mono ?_
      rintro e w2 ⟨rfl, F2, u2, hg2, ha2⟩
      have G2 : Hid (Gs R wd sz F0 w0 rb pb base (acc ++ [q.1]) q.2.2 F2 u2 w2 ∧ Goes (At pb F u) w (At pb F2 u2) w2) := ⟨hg2, (Goes.of_below L1.out).trans ha2⟩
      clear hg2 ha2 c1 c2
      go_wp2
      go_ret
      rw [HT.out]
      by_cases h : q.2.1 = 0
      · rw [if_pos h]; exact ⟨by rw [← h]; rfl, F2, u2, _, G2.out.1, fun _ => rfl, G2.out.2⟩
      · rw [if_neg h]; exact ⟨rfl, F2, u2, _, G2.out.1, fun z => absurd z h, G2.out.2⟩
    · have h2 := hwide (by omega)
      have hh := half_lt h2
      have HC : Hid (∀ w, Calls _ _ _ _ _) := fun w => halves a b h2 hb w
      have HWL : Hid (WL lk a b = WL lk a (a + half (b - a)) ++ WL lk (a + half (b - a)) b) := WL_left HS.out h2
      obtain ⟨k, HK⟩ : ∃ k, Hid (a + half (b - a) = k) := ⟨_, rfl⟩
      have hk : a < k ∧ k < b := by rw [← HK.out]; omega
      rw [HK.out] at HC HWL
      unfold pv at HC
      have hlen : (WL lk a b).length = (WL lk a k).length + (WL lk k b).length := by rw [HWL.out, List.length_append]
      rw [hlen] at hN hm
      obtain ⟨TA, HTA⟩ : ∃ TA, Hid (told (okw wd) (fow wd) ask l (WL lk a k) = TA) := ⟨_, rfl⟩
      have hsz := told_size (okw wd) (fow wd) ask (WL lk a k) l (fun p hp => by have := WL_in lk (k - a) a k rfl (by omega) p hp; omega)
      rw [HTA.out] at hsz
      have I1 : Hid (∀ w', Gs R wd sz F0 w0 rb pb base acc l F u w' → Calls _ _ _ _ _) := fun w' h => IH.out a k (by omega) hk.1 (by omega) acc l F u w' (by omega) (by omega) h
      rw [HTA.out] at I1
      have HTno : Hid (TA.2.1 ≠ 0 → T = TA) := fun h => by
        rw [← HTT.out, HWL.out, told_app_no _ _ _ _ _ _ (by rw [HTA.out]; exact h), HTA.out]
      have HTyes : Hid (TA.2.1 = 0 → T = (TA.1 ++ (told (okw wd) (fow wd) ask TA.2.2 (WL lk k b)).1, (told (okw wd) (fow wd) ask TA.2.2 (WL lk k b)).2)) := fun h => by
        rw [← HTT.out, HWL.out, told_app_yes _ _ _ _ _ _ (by rw [HTA.out]; exact h), HTA.out]
      have I2 : Hid (∀ acc' F' u' w', acc'.length ≤ acc.length + (WL lk a k).length → Gs R wd sz F0 w0 rb pb base acc' TA.2.2 F' u' w' → Calls _ _ _ _ _) := fun acc' F' u' w' hl h => IH.out k b (by omega) hk.2 hb acc' TA.2.2 F' u' w' (by omega) (by omega) h
      obtain ⟨TB', HTB⟩ : ∃ TB', Hid (told (okw wd) (fow wd) ask TA.2.2 (WL lk k b) = TB') := ⟨_, rfl⟩
      rw [HTB.out] at I2 HTyes
      obtain ⟨ta, tc, tl⟩ := TA
      have HSZ : Hid (ta.length ≤ (WL lk a k).length) := hsz.2
      clear hwide hfour hN hm hlen hsz h2 hh HK HS
      go_enter Tryd.func59, Tryd.ntmps59
      go_wp2_with fail
      refine LC.out.mono ?_
      rintro e w1 ⟨rfl, hb1⟩
      have G1 : Hid (Gs R wd sz F0 w0 rb pb base acc l F u w1) := HA.out.later hb1
      have L1 : Hid (Below w.heap.size w w1) := over BA.out hb1
      obtain ⟨c1, c2⟩ := HBX.out.later hb1
      clear hb1
      go_wp2_with fail
      refine (HC.out _).mono ?_
      rintro e w2 ⟨rfl, hb2⟩
      have B3 : Hid (Below w2.heap.size w2 ((w2.alloc (.cells #[.int .i64 a, .int .i64 k] 85)).alloc (.cells #[.int .i64 k, .int .i64 b] 85))) := ((Below.refl _ _).alloc (Nat.le_refl _) _).alloc (by simp) _
      have G3 : Hid (Gs R wd sz F0 w0 rb pb base acc l F u ((w2.alloc (.cells #[.int .i64 a, .int .i64 k] 85)).alloc (.cells #[.int .i64 k, .int .i64 b] 85))) := (G1.out.later hb2).later B3.out
      have L3 : Hid (Below w.heap.size w ((w2.alloc (.cells #[.int .i64 a, .int .i64 k] 85)).alloc (.cells #[.int .i64 k, .int .i64 b] 85))) := over (over L1.out hb2) B3.out
      have HN : Hid (¬ At pb F u (w2.heap.size + 1)) := fun h => by
        have := (G1.out.later hb2).lt _ h
        omega
      have HBB : Hid (_ ∧ _ ∧ _ ∧ _) := two_box w2 (.int .i64 a) (.int .i64 k) (.int .i64 k) (.int .i64 b) 85 85
      clear hb2 c1 c2
      go_wp2_with fail
      refine (I1.out _ G3.out).mono ?_
      rintro e w4 ⟨rfl, F4, u4, acc4, hg4, ha4, hG4⟩
      have G4 : Hid (Gs R wd sz F0 w0 rb pb base acc4 tl F4 u4 w4) := hg4
      have L4 : Hid (Goes (At pb F u) w (At pb F4 u4) w4) := (Goes.of_below L3.out).trans hG4
      have c3 := hG4.cell HBB.out.2.2.1 HN.out
      have c4 := hG4.cell HBB.out.2.2.2 HN.out
      have HA4 : Hid (tc = 0 → acc4 = acc ++ ta) := ha4
      clear hg4 ha4 hG4 HBB HN
      by_cases hc : tc = 0
      · have HAC := HA4.out hc
        have HY := HTyes.out hc
        subst hc
        have HY' : Hid (T = (ta ++ TB'.1, TB'.2)) := HY
        have HAC' : Hid (acc4 = acc ++ ta) := HAC
        clear HAC HY HTyes HTno
        go_wp2_with fail
        refine (I2.out acc4 F4 u4 _ (by rw [HAC'.out, List.length_append]; have := HSZ.out; omega) G4.out).mono ?_
        rintro e w5 ⟨rfl, F5, u5, acc5, hg5, ha5, hG5⟩
        have G5 : Hid (Gs R wd sz F0 w0 rb pb base acc5 TB'.2.2 F5 u5 w5 ∧ (TB'.2.1 = 0 → acc5 = acc4 ++ TB'.1) ∧ Goes (At pb F u) w (At pb F5 u5) w5) := ⟨hg5, ha5, L4.out.trans hG5⟩
        clear hg5 ha5 hG5 c3 c4
        go_wp2
        go_ret
        rw [HY'.out]
        exact ⟨rfl, F5, u5, acc5, G5.out.1, fun h => by rw [G5.out.2.1 h, HAC'.out, List.append_assoc], G5.out.2.2⟩
      · have q0 : (tc == 0) = false := by rw [beq_eq_false_iff_ne]; exact hc
        have HY : Hid (T = (ta, tc, tl)) := HTno.out hc
        have HC0 : Hid (tc ≠ 0) := hc
        clear hc HTyes HTno
        go_wp2
        go_ret
        rw [HY.out]
        exact ⟨rfl, F4, u4, acc4, G4.out, fun h => absurd h HC0.out, L4.out⟩
    · have h2 := hwide (by omega)
      have hh := half_lt h2
      have HC : Hid (∀ w, Calls _ _ _ _ _) := fun w => halves a b h2 hb w
      have HWL : Hid (WL lk a b = WL lk (a + half (b - a)) b ++ WL lk a (a + half (b - a))) := WL_right (by rw [HS.out]; exact Nat.le_refl _) h2
      obtain ⟨k, HK⟩ : ∃ k, Hid (a + half (b - a) = k) := ⟨_, rfl⟩
      have hk : a < k ∧ k < b := by rw [← HK.out]; omega
      rw [HK.out] at HC HWL
      unfold pv at HC
      have hlen : (WL lk a b).length = (WL lk k b).length + (WL lk a k).length := by rw [HWL.out, List.length_append]
      rw [hlen] at hN hm
      obtain ⟨TA, HTA⟩ : ∃ TA, Hid (told (okw wd) (fow wd) ask l (WL lk k b) = TA) := ⟨_, rfl⟩
      have hsz := told_size (okw wd) (fow wd) ask (WL lk k b) l (fun p hp => by have := WL_in lk (b - k) k b rfl (by omega) p hp; omega)
      rw [HTA.out] at hsz
      have I1 : Hid (∀ w', Gs R wd sz F0 w0 rb pb base acc l F u w' → Calls _ _ _ _ _) := fun w' h => IH.out k b (by omega) hk.2 (by omega) acc l F u w' (by omega) (by omega) h
      rw [HTA.out] at I1
      have HTno : Hid (TA.2.1 ≠ 0 → T = TA) := fun h => by
        rw [← HTT.out, HWL.out, told_app_no _ _ _ _ _ _ (by rw [HTA.out]; exact h), HTA.out]
      have HTyes : Hid (TA.2.1 = 0 → T = (TA.1 ++ (told (okw wd) (fow wd) ask TA.2.2 (WL lk a k)).1, (told (okw wd) (fow wd) ask TA.2.2 (WL lk a k)).2)) := fun h => by
        rw [← HTT.out, HWL.out, told_app_yes _ _ _ _ _ _ (by rw [HTA.out]; exact h), HTA.out]
      have I2 : Hid (∀ acc' F' u' w', acc'.length ≤ acc.length + (WL lk k b).length → Gs R wd sz F0 w0 rb pb base acc' TA.2.2 F' u' w' → Calls _ _ _ _ _) := fun acc' F' u' w' hl h => IH.out a k (by omega) hk.1 (by omega) acc' TA.2.2 F' u' w' (by omega) (by omega) h
      obtain ⟨TB', HTB⟩ : ∃ TB', Hid (told (okw wd) (fow wd) ask TA.2.2 (WL lk a k) = TB') := ⟨_, rfl⟩
      rw [HTB.out] at I2 HTyes
      obtain ⟨ta, tc, tl⟩ := TA
      have HSZ : Hid (ta.length ≤ (WL lk k b).length) := hsz.2
      clear hwide hfour hN hm hlen hsz h2 hh HK HS
      go_enter Tryd.func59, Tryd.ntmps59
      go_wp2_with fail
      refine LC.out.mono ?_
      rintro e w1 ⟨rfl, hb1⟩
      have G1 : Hid (Gs R wd sz F0 w0 rb pb base acc l F u w1) := HA.out.later hb1
      have L1 : Hid (Below w.heap.size w w1) := over BA.out hb1
      obtain ⟨c1, c2⟩ := HBX.out.later hb1
      clear hb1
      go_wp2_with fail
      refine (HC.out _).mono ?_
      rintro e w2 ⟨rfl, hb2⟩
      have B3 : Hid (Below w2.heap.size w2 ((w2.alloc (.cells #[.int .i64 k, .int .i64 b] 85)).alloc (.cells #[.int .i64 a, .int .i64 k] 85))) := ((Below.refl _ _).alloc (Nat.le_refl _) _).alloc (by simp) _
      have G3 : Hid (Gs R wd sz F0 w0 rb pb base acc l F u ((w2.alloc (.cells #[.int .i64 k, .int .i64 b] 85)).alloc (.cells #[.int .i64 a, .int .i64 k] 85))) := (G1.out.later hb2).later B3.out
      have L3 : Hid (Below w.heap.size w ((w2.alloc (.cells #[.int .i64 k, .int .i64 b] 85)).alloc (.cells #[.int .i64 a, .int .i64 k] 85))) := over (over L1.out hb2) B3.out
      have HN : Hid (¬ At pb F u (w2.heap.size + 1)) := fun h => by
        have := (G1.out.later hb2).lt _ h
        omega
      have HBB : Hid (_ ∧ _ ∧ _ ∧ _) := two_box w2 (.int .i64 k) (.int .i64 b) (.int .i64 a) (.int .i64 k) 85 85
      clear hb2 c1 c2
      go_wp2_with fail
      refine (I1.out _ G3.out).mono ?_
      rintro e w4 ⟨rfl, F4, u4, acc4, hg4, ha4, hG4⟩
      have G4 : Hid (Gs R wd sz F0 w0 rb pb base acc4 tl F4 u4 w4) := hg4
      have L4 : Hid (Goes (At pb F u) w (At pb F4 u4) w4) := (Goes.of_below L3.out).trans hG4
      have c3 := hG4.cell HBB.out.2.2.1 HN.out
      have c4 := hG4.cell HBB.out.2.2.2 HN.out
      have HA4 : Hid (tc = 0 → acc4 = acc ++ ta) := ha4
      clear hg4 ha4 hG4 HBB HN
      by_cases hc : tc = 0
      · have HAC := HA4.out hc
        have HY := HTyes.out hc
        subst hc
        have HY' : Hid (T = (ta ++ TB'.1, TB'.2)) := HY
        have HAC' : Hid (acc4 = acc ++ ta) := HAC
        clear HAC HY HTyes HTno
        go_wp2_with fail
        refine (I2.out acc4 F4 u4 _ (by rw [HAC'.out, List.length_append]; have := HSZ.out; omega) G4.out).mono ?_
        rintro e w5 ⟨rfl, F5, u5, acc5, hg5, ha5, hG5⟩
        have G5 : Hid (Gs R wd sz F0 w0 rb pb base acc5 TB'.2.2 F5 u5 w5 ∧ (TB'.2.1 = 0 → acc5 = acc4 ++ TB'.1) ∧ Goes (At pb F u) w (At pb F5 u5) w5) := ⟨hg5, ha5, L4.out.trans hG5⟩
        clear hg5 ha5 hG5 c3 c4
        go_wp2
        go_ret
        rw [HY'.out]
        exact ⟨rfl, F5, u5, acc5, G5.out.1, fun h => by rw [G5.out.2.1 h, HAC'.out, List.append_assoc], G5.out.2.2⟩
      · have q0 : (tc == 0) = false := by rw [beq_eq_false_iff_ne]; exact hc
        have HY : Hid (T = (ta, tc, tl)) := HTno.out hc
        have HC0 : Hid (tc ≠ 0) := hc
        clear hc HTyes HTno
        go_wp2
        go_ret
        rw [HY.out]
        exact ⟨rfl, F4, u4, acc4, G4.out, fun h => absurd h HC0.out, L4.out⟩
end
end Go.Proofs.YtmmbkfagchaocaaDoor.bg

namespace Go.Proofs.YtmmbkfagchaocaaDoor.bh
open Go.RowKit Go.PlainAid
open Go.Proofs.YtmmbkfagchaocaaDoor.pl Go.Proofs.YtmmbkfagchaocaaDoor.pi Go.Proofs.YtmmbkfagchaocaaDoor.rf Go.Proofs.YtmmbkfagchaocaaDoor.pj Go.Proofs.YtmmbkfagchaocaaDoor.ca Go.Proofs.YtmmbkfagchaocaaDoor.cb Go.Proofs.YtmmbkfagchaocaaDoor.cp Go.Proofs.YtmmbkfagchaocaaDoor.cs Go.Proofs.YtmmbkfagchaocaaDoor.ct Go.Proofs.YtmmbkfagchaocaaDoor.ka Go.Proofs.YtmmbkfagchaocaaDoor.kb Go.Proofs.YtmmbkfagchaocaaDoor.ga Go.Proofs.YtmmbkfagchaocaaDoor.aa Go.Proofs.YtmmbkfagchaocaaDoor.ab Go.Proofs.YtmmbkfagchaocaaDoor.tb Go.Proofs.YtmmbkfagchaocaaDoor.ac Go.Proofs.YtmmbkfagchaocaaDoor.ba Go.Proofs.YtmmbkfagchaocaaDoor.bb Go.Proofs.YtmmbkfagchaocaaDoor.bc Go.Proofs.YtmmbkfagchaocaaDoor.bd Go.Proofs.YtmmbkfagchaocaaDoor.be Go.Proofs.YtmmbkfagchaocaaDoor.bg
set_option linter.unusedVariables false

-- what is refused ahead of all
def chk (sz n : Int) : Int := if sz < 0 ∨ 4611686018427387904 < sz then 10 else if n < 0 ∨ sz < n then 80 else 0
theorem chk_ok {sz n : Int} (h : chk sz n = 0) : 0 ≤ sz ∧ sz ≤ 4611686018427387904 ∧ 0 ≤ n ∧ n ≤ sz := by
  unfold chk at h
  by_cases h1 : sz < 0 ∨ 4611686018427387904 < sz
  · rw [if_pos h1] at h; omega
  · rw [if_neg h1] at h
    by_cases h2 : n < 0 ∨ sz < n
    · rw [if_pos h2] at h; omega
    · omega
theorem eqF0 (d g : Nat) (fb lb : Array Value) (w : World) : (Op.equalIn (d + 1) 46 (.func (.func g) fb lb) .nilFunc).run Tryd.prog w = .ok false w := by
  simp [Op.equalIn, run_underlying Tryd.underlying46]
theorem eqF (g : Nat) (fb lb : Array Value) (w : World) : (binOp .eql 46 (.func (.func g) fb lb) .nilFunc).run Tryd.prog w = .ok (.bool false) w := by
  simp only [binOp]
  simp [Op.equal, Op.maxDepth, eqF0 9999 g fb lb w]
theorem eqF1 (d : Nat) (w : World) : (Op.equalIn (d + 1) 46 .nilFunc .nilFunc).run Tryd.prog w = .ok true w := by
  simp [Op.equalIn, run_underlying Tryd.underlying46]
theorem eqFn (w : World) : (binOp .eql 46 .nilFunc .nilFunc).run Tryd.prog w = .ok (.bool true) w := by
  simp only [binOp]
  simp [Op.equal, Op.maxDepth, eqF1 9999 w]
theorem check (wd sz n : Int) (g : Nat) (fb lb : Array Value) (w : World) :
    Calls Tryd.prog 37 #[.agg #[.int .i64 wd, .int .i64 sz, .func (.func g) fb lb], .int .i64 n] w fun e w' => e = .returned (.int .i64 (chk sz n)) ∧ Below w.heap.size w w' := by
  have B0 : Hid (Below w.heap.size w (w.alloc (.cells #[.int .i64 wd, .int .i64 sz, .func (.func g) fb lb] 48))) := (Below.refl _ _).alloc (Nat.le_refl _) _
  have qf := fun w => eqF g fb lb w
  by_cases h1 : sz < 0
  · have HE : Hid (chk sz n = 10) := by show _ = _; unfold chk; rw [if_pos (.inl h1)]
    rw [HE.out]
    go_enter Tryd.func37, Tryd.ntmps37
    go_wp2
    go_ret
    exact ⟨rfl, B0.out⟩
  · by_cases h2 : 4611686018427387904 < sz
    · have HE : Hid (chk sz n = 10) := by show _ = _; unfold chk; rw [if_pos (.inr h2)]
      rw [HE.out]
      go_enter Tryd.func37, Tryd.ntmps37
      go_wp2
      go_ret
      exact ⟨rfl, B0.out⟩
    · by_cases h3 : n < 0
      · have HE : Hid (chk sz n = 80) := by show _ = _; unfold chk; rw [if_neg (by omega), if_pos (.inl h3)]
        rw [HE.out]
        go_enter Tryd.func37, Tryd.ntmps37
        go_wp2
        go_ret
        exact ⟨rfl, B0.out⟩
      · by_cases h4 : sz < n
        · have HE : Hid (chk sz n = 80) := by show _ = _; unfold chk; rw [if_neg (by omega), if_pos (.inr h4)]
          rw [HE.out]
          go_enter Tryd.func37, Tryd.ntmps37
          go_wp2
          go_ret
          exact ⟨rfl, B0.out⟩
        · have HE : Hid (chk sz n = 0) := by show _ = _; unfold chk; rw [if_neg (by omega), if_neg (by omega)]
          rw [HE.out]
          go_enter Tryd.func37, Tryd.ntmps37
          go_wp2
          go_ret
          exact ⟨rfl, B0.out⟩
section
variable {g : Nat} {fb lb : Array Value} {ask : Nat → Nat × Nat → ByteArray × Int} {J : (Nat → Prop) → List (Nat × Nat) → World → Prop} {N : Nat} {D : Nat → Prop} {lg : Nat} {lv : Array Value} {lk : Nat → Nat → Nat} {P : World → Prop}
def ans (t : List ByteArray × Int × List (Nat × Nat)) : List ByteArray := if t.2.1 = 0 then t.1 else []
-- a proof and an error; the reader goes on
def Proved (J : (Nat → Prop) → List (Nat × Nat) → World → Prop) (F : Nat → Prop) (w : World) (t : List ByteArray × Int × List (Nat × Nat)) (e : Ending) (w' : World) : Prop :=
  ∃ u F', e = .returned (.tuple #[u, .int .i64 t.2.1]) ∧ w'.ownsRow w.heap.size 9 1 u (ans t).length ((ans t).map Value.string) ∧ J F' t.2.2 w' ∧ Goes F w F' w' ∧ Beside F' u
set_option maxHeartbeats 1600000 in
theorem gatherC (R : Rd g fb lb ask J N D) (LK : Lk lg lv lk P) (wd sz : Int) (hwd : i64 wd) (n : Nat) (h1 : 1 ≤ n) (hn : n ≤ 4611686018427387904) (F : Nat → Prop) (l : List (Nat × Nat)) (w : World) (HP : ∀ F' wr, Goes F w F' wr → P wr)
    (hN : l.length + 122 * (WL lk 0 n).length ≤ N) (hm : (WL lk 0 n).length ≤ 1000000) (hJ : J F l w) :
    Calls Tryd.prog 38 #[.agg #[.int .i64 wd, .int .i64 sz, .func (.func g) fb lb], .int .i64 n, .func (.func lg) #[] lv] w (Proved J F w (told (okw wd) (fow wd) ask l (WL lk 0 n))) := by
  have B0 : Hid (Below w.heap.size w ((w.alloc (.cells #[.int .i64 wd, .int .i64 sz, .func (.func g) fb lb] 48)).alloc (.cells #[.slice none 0 0] 22))) := ((Below.refl _ _).alloc (Nat.le_refl _) _).alloc (by simp) _
  have G0 : Hid (Gs R wd sz F w w.heap.size (w.heap.size + 1) (w.heap.size + 2) [] l F (.slice none 0 0) ((w.alloc (.cells #[.int .i64 wd, .int .i64 sz, .func (.func g) fb lb] 48)).alloc (.cells #[.slice none 0 0] 22))) := by
    have h3 := three_box w (.int .i64 wd) (.int .i64 sz) (.func (.func g) fb lb) 48
    have hb1 : Below (w.alloc (.cells #[.int .i64 wd, .int .i64 sz, .func (.func g) fb lb] 48)).heap.size (w.alloc (.cells #[.int .i64 wd, .int .i64 sz, .func (.func g) fb lb] 48)) ((w.alloc (.cells #[.int .i64 wd, .int .i64 sz, .func (.func g) fb lb] 48)).alloc (.cells #[.slice none 0 0] 22)) := (Below.refl _ _).alloc (Nat.le_refl _) _
    have s1 : (w.alloc (.cells #[.int .i64 wd, .int .i64 sz, .func (.func g) fb lb] 48)).heap.size = w.heap.size + 1 := by simp
    refine ⟨R.later hJ B0.out, Goes.of_below B0.out, (hb1.cell (World.block_lt_of_cell? _ _ h3.1)).trans h3.1, (hb1.cell (World.block_lt_of_cell? _ _ h3.2.1)).trans h3.2.1, (hb1.cell (World.block_lt_of_cell? _ _ h3.2.2)).trans h3.2.2, (fun h => Nat.lt_irrefl _ (R.within hJ _ h)), ?_, (fun h => by have := R.within hJ _ h; omega), World.ownsRow_nil _ _ _ _, (fun g h => by cases h), ⟨Nat.le_refl _, by omega, by omega, by omega, by omega, by simp⟩, R.big hJ⟩
    rw [← s1]
    exact heap_alloc_new _ _
  have WC : Hid (Calls _ _ _ _ _) := walkC R LK wd sz hwd F w w.heap.size (w.heap.size + 1) (w.heap.size + 2) HP n 0 n [] l F (.slice none 0 0) _ (by omega) (by omega) hn hN (by rw [List.length_nil]; omega) G0.out
  obtain ⟨T, HT⟩ : ∃ T, Hid (told (okw wd) (fow wd) ask l (WL lk 0 n) = T) := ⟨_, rfl⟩
  rw [HT.out] at WC ⊢
  obtain ⟨ts, c, l'⟩ := T
  have e0 : ((0 : Nat) : Int) = 0 := rfl
  rw [e0] at WC
  clear hN hm HP hJ e0
  go_enter Tryd.func38, Tryd.ntmps38
  go_wp2_with fail
  refine WC.out.mono ?_
  rintro e w1 ⟨rfl, F1, u1, acc1, hg1, ha1, hG1⟩
  have G1 : Hid (Gs R wd sz F w w.heap.size (w.heap.size + 1) (w.heap.size + 2) acc1 l' F1 u1 w1) := hg1
  have p1 : w1.cell? ⟨w.heap.size + 1, 0, none⟩ = some u1 := (cell_of_row _ _ _ _ _ _ hg1.pbox).trans rfl
  have HA1 : Hid (c = 0 → acc1 = [] ++ ts) := ha1
  clear hg1 ha1 hG1
  by_cases hc : c = 0
  · have HA : Hid (acc1 = ts) := (HA1.out hc).trans (List.nil_append _)
    subst hc
    go_wp2
    go_ret2
    refine ⟨u1, F1, rfl, ?_, G1.out.j, G1.out.go, G1.out.bes⟩
    show w1.ownsRow w.heap.size 9 1 u1 (ans (ts, 0, l')).length _
    unfold ans
    rw [if_pos rfl, ← HA.out]
    exact own_down G1.out.own (by omega)
  · have q0 : (c == 0) = false := by rw [beq_eq_false_iff_ne]; exact hc
    have HC : Hid (c ≠ 0) := hc
    clear hc
    go_wp2
    go_ret2
    refine ⟨.slice none 0 0, F1, rfl, ?_, G1.out.j, G1.out.go, fun g h => by cases h⟩
    unfold ans
    rw [if_neg HC.out]
    exact World.ownsRow_nil _ _ _ _
end
end Go.Proofs.YtmmbkfagchaocaaDoor.bh

namespace Go.Proofs.YtmmbkfagchaocaaDoor.bi
open Go.RowKit Go.PlainAid
open Go.Proofs.YtmmbkfagchaocaaDoor.pl Go.Proofs.YtmmbkfagchaocaaDoor.pi Go.Proofs.YtmmbkfagchaocaaDoor.rf Go.Proofs.YtmmbkfagchaocaaDoor.pj Go.Proofs.YtmmbkfagchaocaaDoor.ca Go.Proofs.YtmmbkfagchaocaaDoor.cb Go.Proofs.YtmmbkfagchaocaaDoor.cp Go.Proofs.YtmmbkfagchaocaaDoor.cs Go.Proofs.YtmmbkfagchaocaaDoor.ct Go.Proofs.YtmmbkfagchaocaaDoor.ka Go.Proofs.YtmmbkfagchaocaaDoor.kb Go.Proofs.YtmmbkfagchaocaaDoor.ga Go.Proofs.YtmmbkfagchaocaaDoor.aa Go.Proofs.YtmmbkfagchaocaaDoor.ab Go.Proofs.YtmmbkfagchaocaaDoor.tb Go.Proofs.YtmmbkfagchaocaaDoor.ac Go.Proofs.YtmmbkfagchaocaaDoor.ba Go.Proofs.YtmmbkfagchaocaaDoor.bb Go.Proofs.YtmmbkfagchaocaaDoor.bc Go.Proofs.YtmmbkfagchaocaaDoor.bd Go.Proofs.YtmmbkfagchaocaaDoor.be Go.Proofs.YtmmbkfagchaocaaDoor.bg Go.Proofs.YtmmbkfagchaocaaDoor.bh
set_option linter.unusedVariables false

theorem part_box (w : World) (a b : Nat) : Bx (w.alloc (.cells #[.int .i64 a, .int .i64 b] 85)) w.heap.size a b := ⟨by rw [World.cell?_alloc_at _ _ _ _ rfl]; rfl, by rw [World.cell?_alloc_at _ _ _ _ rfl]; rfl⟩
-- what an inclusion does at a part
theorem lookI (ib i a b : Nat) (w : World) (hab : a < b) (hb : b ≤ 4611686018427387904) (hP : w.cell? ⟨ib, 0, none⟩ = some (.int .i64 i)) :
    Calls Tryd.prog 40 #[.agg #[.int .i64 a, .int .i64 b], .pointer (some ⟨ib, 0, none⟩)] w fun e w' => e = .returned (.int .i64 (lkI i a b : Nat)) ∧ Below w.heap.size w w' := by
  have BA : Hid (Below w.heap.size w (w.alloc (.cells #[.int .i64 a, .int .i64 b] 85))) := (Below.refl _ _).alloc (Nat.le_refl _) _
  have HB : Hid (Bx (w.alloc (.cells #[.int .i64 a, .int .i64 b] 85)) w.heap.size a b) := part_box w a b
  have ci : (w.alloc (.cells #[.int .i64 a, .int .i64 b] 85)).cell? ⟨ib, 0, none⟩ = some (.int .i64 i) := (BA.out.cell (World.block_lt_of_cell? _ _ hP)).trans hP
  have HC : Hid (∀ w, Calls _ _ _ _ _) := fun w => has a b i w
  have LC : Hid (∀ w, Calls _ _ _ _ _) := fun w => isLeaf a b (by omega) hb w
  have TC : Hid (2 ≤ b - a → ∀ w, Calls _ _ _ _ _) := fun h w => toward a b i h hb w
  obtain ⟨r, HR⟩ : ∃ r, Hid (lkI i a b = r) := ⟨_, rfl⟩
  rw [HR.out]
  have HCI : Hid ((w.alloc (.cells #[.int .i64 a, .int .i64 b] 85)).cell? ⟨ib, 0, none⟩ = some (.int .i64 i)) := ci
  by_cases h : a ≤ i ∧ i < b
  · rw [decide_eq_true h] at HC
    by_cases h1 : b - a = 1
    · rw [decide_eq_true h1] at LC
      obtain rfl : 0 = r := by rw [← HR.out]; unfold lkI; rw [if_pos h, if_pos h1]
      clear TC HR h h1 hP
      go_enter Tryd.func40, Tryd.ntmps40
      go_wp2_with fail
      refine (HC.out _).mono ?_
      rintro e w1 ⟨rfl, hb1⟩
      have B1 : Hid (Below w.heap.size w w1) := over BA.out hb1
      obtain ⟨c1, c2⟩ := HB.out.later hb1
      clear hb1 ci
      go_wp2_with fail
      refine (LC.out _).mono ?_
      rintro e w2 ⟨rfl, hb2⟩
      have B2 : Hid (Below w.heap.size w w2) := over B1.out hb2
      clear hb2 c1 c2
      go_wp2
      go_ret
      exact ⟨rfl, B2.out⟩
    · rw [decide_eq_false h1] at LC
      have TC2 : Hid (∀ w, Calls Tryd.prog 43 #[.agg #[.int .i64 a, .int .i64 b], .int .i64 i] w fun e w' => e = .returned (.int .i64 (r : Nat)) ∧ Below w.heap.size w w') := by
        have e : ((r : Nat) : Int) = if a ≤ i ∧ i < a + half (b - a) then 2 else 3 := by
          rw [← HR.out]
          unfold lkI
          rw [if_pos h, if_neg h1]
          by_cases g : i < a + half (b - a)
          · rw [if_pos g, if_pos ⟨h.1, g⟩]; rfl
          · rw [if_neg g, if_neg (fun z => g z.2)]; rfl
        show ∀ w, _
        rw [e]
        exact TC.out (by omega)
      clear TC HR h h1 hP
      go_enter Tryd.func40, Tryd.ntmps40
      go_wp2_with fail
      refine (HC.out _).mono ?_
      rintro e w1 ⟨rfl, hb1⟩
      have B1 : Hid (Below w.heap.size w w1) := over BA.out hb1
      have HX1 : Hid (Bx w1 w.heap.size a b) := HB.out.later hb1
      obtain ⟨c1, c2⟩ := HX1.out
      have HCI1 : Hid (w1.cell? ⟨ib, 0, none⟩ = some (.int .i64 i)) := (hb1.cell (World.block_lt_of_cell? _ _ HCI.out)).trans HCI.out
      clear hb1 ci
      go_wp2_with fail
      refine (LC.out _).mono ?_
      rintro e w2 ⟨rfl, hb2⟩
      have B2 : Hid (Below w.heap.size w w2) := over B1.out hb2
      obtain ⟨d1, d2⟩ := HX1.out.later hb2
      have d3 := (hb2.cell (World.block_lt_of_cell? _ _ HCI1.out)).trans HCI1.out
      clear hb2 c1 c2
      go_wp2_with fail
      refine (TC2.out _).mono ?_
      rintro e w3 ⟨rfl, hb3⟩
      have B3 : Hid (Below w.heap.size w w3) := over B2.out hb3
      clear hb3 d1 d2 d3
      go_wp2
      go_ret
      exact ⟨rfl, B3.out⟩
  · rw [decide_eq_false h] at HC
    obtain rfl : 1 = r := by rw [← HR.out]; unfold lkI; rw [if_neg h]
    clear TC HR h hP
    go_enter Tryd.func40, Tryd.ntmps40
    go_wp2_with fail
    refine (HC.out _).mono ?_
    rintro e w1 ⟨rfl, hb1⟩
    have B1 : Hid (Below w.heap.size w w1) := over BA.out hb1
    clear hb1 ci
    go_wp2
    go_ret
    exact ⟨rfl, B1.out⟩
theorem LkI (ib i : Nat) : Lk 40 #[.pointer (some ⟨ib, 0, none⟩)] (lkI i) (fun w => w.cell? ⟨ib, 0, none⟩ = some (.int .i64 i)) where
  enter := fun args w => by simp [go_sem]
  call := fun a b w hab hb hP => lookI ib i a b w hab hb hP
  wide := fun a b hab h => by
    unfold lkI at h
    split at h
    · split at h <;> omega
    · omega
  four := fun a b => by
    unfold lkI
    split
    · split
      · omega
      · split <;> omega
    · omega
section
variable {g : Nat} {fb lb : Array Value} {ask : Nat → Nat × Nat → ByteArray × Int} {J : (Nat → Prop) → List (Nat × Nat) → World → Prop} {N : Nat} {D : Nat → Prop}
def incA (wd : Int) (ask : Nat → Nat × Nat → ByteArray × Int) (sz i n : Int) (l : List (Nat × Nat)) : List ByteArray × Int × List (Nat × Nat) :=
  if chk sz n = 0 then (if i < 0 ∨ n ≤ i then ([], 81, l) else told (okw wd) (fow wd) ask l (WL (lkI i.toNat) 0 n.toNat)) else ([], chk sz n, l)
theorem refused {J : (Nat → Prop) → List (Nat × Nat) → World → Prop} {F : Nat → Prop} {w w' : World} {c : Int} {l : List (Nat × Nat)} {t : List ByteArray × Int × List (Nat × Nat)} (ht : t = ([], c, l)) (hJ : J F l w') (hb : Below w.heap.size w w') : Proved J F w t (.returned (.tuple #[.slice none 0 0, .int .i64 c])) w' := by
  subst ht
  refine ⟨_, F, rfl, ?_, hJ, Goes.of_below hb, fun g h => by cases h⟩
  have : ans (([], c, l) : List ByteArray × Int × List (Nat × Nat)) = [] := by unfold ans; split <;> rfl
  rw [this]
  exact World.ownsRow_nil _ _ _ _
set_option maxHeartbeats 1600000 in
theorem inclC (R : Rd g fb lb ask J N D) (wd sz i n : Int) (hwd : i64 wd) (F : Nat → Prop) (l : List (Nat × Nat)) (w : World) (hN : l.length + 122 * 62 ≤ N) (hJ : J F l w) :
    Calls Tryd.prog 17 #[.agg #[.int .i64 wd, .int .i64 sz, .func (.func g) fb lb], .int .i64 i, .int .i64 n] w (Proved J F w (incA wd ask sz i n l)) := by
  have CC : Hid (∀ w, Calls _ _ _ _ _) := fun w => check wd sz n g fb lb w
  have RR : Hid (Rd g fb lb ask J N D) := R
  have HJ : Hid (J F l w) := hJ
  have B0 : Hid (Below w.heap.size w ((w.alloc (.cells #[.int .i64 wd, .int .i64 sz, .func (.func g) fb lb] 48)).alloc (.cells #[.int .i64 i] 3))) := ((Below.refl _ _).alloc (Nat.le_refl _) _).alloc (by simp) _
  have BX : Hid (∃ c0 : ((w.alloc (.cells #[.int .i64 wd, .int .i64 sz, .func (.func g) fb lb] 48)).alloc (.cells #[.int .i64 i] 3)).cell? ⟨w.heap.size, 0, none⟩ = some (.int .i64 wd), ((w.alloc (.cells #[.int .i64 wd, .int .i64 sz, .func (.func g) fb lb] 48)).alloc (.cells #[.int .i64 i] 3)).cell? ⟨w.heap.size, 1, none⟩ = some (.int .i64 sz) ∧ ((w.alloc (.cells #[.int .i64 wd, .int .i64 sz, .func (.func g) fb lb] 48)).alloc (.cells #[.int .i64 i] 3)).cell? ⟨w.heap.size, 2, none⟩ = some (.func (.func g) fb lb) ∧ ((w.alloc (.cells #[.int .i64 wd, .int .i64 sz, .func (.func g) fb lb] 48)).alloc (.cells #[.int .i64 i] 3)).cell? ⟨w.heap.size + 1, 0, none⟩ = some (.int .i64 i)) := by
    have h3 := three_box w (.int .i64 wd) (.int .i64 sz) (.func (.func g) fb lb) 48
    have hb1 : Below (w.alloc (.cells #[.int .i64 wd, .int .i64 sz, .func (.func g) fb lb] 48)).heap.size (w.alloc (.cells #[.int .i64 wd, .int .i64 sz, .func (.func g) fb lb] 48)) ((w.alloc (.cells #[.int .i64 wd, .int .i64 sz, .func (.func g) fb lb] 48)).alloc (.cells #[.int .i64 i] 3)) := (Below.refl _ _).alloc (Nat.le_refl _) _
    have s1 : (w.alloc (.cells #[.int .i64 wd, .int .i64 sz, .func (.func g) fb lb] 48)).heap.size = w.heap.size + 1 := by simp
    exact ⟨(hb1.cell (World.block_lt_of_cell? _ _ h3.1)).trans h3.1, (hb1.cell (World.block_lt_of_cell? _ _ h3.2.1)).trans h3.2.1, (hb1.cell (World.block_lt_of_cell? _ _ h3.2.2)).trans h3.2.2, by rw [← s1, World.cell?_alloc_at _ _ _ _ rfl]; rfl⟩
  obtain ⟨A, HA⟩ : ∃ A, Hid (incA wd ask sz i n l = A) := ⟨_, rfl⟩
  rw [HA.out]
  by_cases h0 : chk sz n = 0
  · obtain ⟨k1, k2, k3, k4⟩ := chk_ok h0
    rw [h0] at CC
    by_cases h1 : i < 0
    · have HE : Hid (A = ([], 81, l)) := by show _ = _; rw [← HA.out]; unfold incA; rw [if_pos h0, if_pos (.inl h1)]
      clear h0 hJ hN
      go_enter Tryd.func17, Tryd.ntmps17
      go_wp2_with fail
      refine (CC.out _).mono ?_
      rintro e w1 ⟨rfl, hb1⟩
      have B1 : Hid (Below w.heap.size w w1) := over B0.out hb1
      have c3 := (hb1.cell (World.block_lt_of_cell? _ _ BX.out.2.2.2)).trans BX.out.2.2.2
      clear hb1 BX
      go_wp2
      go_ret2
      exact refused HE.out (RR.out.later HJ.out B1.out) B1.out
    · by_cases h2 : n ≤ i
      · have HE : Hid (A = ([], 81, l)) := by show _ = _; rw [← HA.out]; unfold incA; rw [if_pos h0, if_pos (.inr h2)]
        clear h0 hJ hN
        go_enter Tryd.func17, Tryd.ntmps17
        go_wp2_with fail
        refine (CC.out _).mono ?_
        rintro e w1 ⟨rfl, hb1⟩
        have B1 : Hid (Below w.heap.size w w1) := over B0.out hb1
        have c3 := (hb1.cell (World.block_lt_of_cell? _ _ BX.out.2.2.2)).trans BX.out.2.2.2
        clear hb1 BX
        go_wp2
        go_ret2
        exact refused HE.out (RR.out.later HJ.out B1.out) B1.out
      · obtain ⟨m, rfl⟩ := Int.eq_ofNat_of_zero_le k3
        obtain ⟨j, rfl⟩ := Int.eq_ofNat_of_zero_le (show 0 ≤ i by omega)
        have hlen : (WL (lkI j) 0 m).length ≤ 62 := incl_len j 62 0 m (by rw [p62]; omega) (by omega) (by omega)
        have GC : Hid (∀ w1, Below w.heap.size w w1 → J F l w1 → w1.cell? ⟨w.heap.size + 1, 0, none⟩ = some (.int .i64 j) → Calls Tryd.prog 38 #[.agg #[.int .i64 wd, .int .i64 sz, .func (.func g) fb lb], .int .i64 m, .func (.func 40) #[] #[.pointer (some ⟨w.heap.size + 1, 0, none⟩)]] w1 (Proved J F w1 A)) := by
          intro w1 hb1 h1 hc
          have e1 : told (okw wd) (fow wd) ask l (WL (lkI j) 0 m) = A := by
            have := HA.out
            unfold incA at this
            rw [if_pos h0, if_neg (by omega), Int.toNat_natCast, Int.toNat_natCast] at this
            exact this
          have := gatherC R (LkI (w.heap.size + 1) j) wd sz hwd m (by omega) (by omega) F l w1 (fun F' wr hg => hg.cell hc (fun hF => by have := RR.out.within HJ.out _ hF; omega)) (by omega) (by omega) h1
          rw [e1] at this
          exact this
        clear h0 hJ hN hlen
        go_enter Tryd.func17, Tryd.ntmps17
        go_wp2_with fail
        refine (CC.out _).mono ?_
        rintro e w1 ⟨rfl, hb1⟩
        have B1 : Hid (Below w.heap.size w w1) := over B0.out hb1
        have c0 := (hb1.cell (World.block_lt_of_cell? _ _ BX.out.1)).trans BX.out.1
        have c1 := (hb1.cell (World.block_lt_of_cell? _ _ BX.out.2.1)).trans BX.out.2.1
        have c2 := (hb1.cell (World.block_lt_of_cell? _ _ BX.out.2.2.1)).trans BX.out.2.2.1
        have c3 := (hb1.cell (World.block_lt_of_cell? _ _ BX.out.2.2.2)).trans BX.out.2.2.2
        have GC1 : Hid (Calls _ _ _ _ _) := GC.out w1 B1.out (RR.out.later HJ.out B1.out) c3
        clear hb1 BX
        go_wp2_with fail
        refine GC1.out.mono ?_
        rintro e w2 ⟨u, F2, rfl, ho2, hj2, hg2, hbe⟩
        have H2 : Hid (w2.ownsRow w.heap.size 9 1 u (ans A).length ((ans A).map Value.string) ∧ J F2 A.2.2 w2 ∧ Goes F w F2 w2 ∧ Beside F2 u) := ⟨own_down ho2 B1.out.size, hj2, (Goes.of_below B1.out).trans hg2, hbe⟩
        clear ho2 hj2 hg2 hbe c0 c1 c2 c3
        go_wp2
        go_ret2
        exact ⟨u, F2, rfl, H2.out.1, H2.out.2.1, H2.out.2.2.1, H2.out.2.2.2⟩
  · have HE : Hid (A = ([], chk sz n, l)) := by
      show _ = _
      rw [← HA.out]
      unfold incA
      rw [if_neg h0]
    obtain ⟨c, HCc⟩ : ∃ c, Hid (chk sz n = c) := ⟨_, rfl⟩
    rw [HCc.out] at CC HE h0
    have q0 : (c == 0) = false := by rw [beq_eq_false_iff_ne]; exact h0
    clear h0 hJ hN
    go_enter Tryd.func17, Tryd.ntmps17
    go_wp2_with fail
    refine (CC.out _).mono ?_
    rintro e w1 ⟨rfl, hb1⟩
    have B1 : Hid (Below w.heap.size w w1) := over B0.out hb1
    clear hb1
    go_wp2
    go_ret2
    exact refused HE.out (RR.out.later HJ.out B1.out) B1.out
end
end Go.Proofs.YtmmbkfagchaocaaDoor.bi

namespace Go.Proofs.YtmmbkfagchaocaaDoor.bj
open Go.RowKit Go.PlainAid
open Go.Proofs.YtmmbkfagchaocaaDoor.bi Go.Proofs.YtmmbkfagchaocaaDoor.pl Go.Proofs.YtmmbkfagchaocaaDoor.pi Go.Proofs.YtmmbkfagchaocaaDoor.rf Go.Proofs.YtmmbkfagchaocaaDoor.pj Go.Proofs.YtmmbkfagchaocaaDoor.ca Go.Proofs.YtmmbkfagchaocaaDoor.cb Go.Proofs.YtmmbkfagchaocaaDoor.cp Go.Proofs.YtmmbkfagchaocaaDoor.cs Go.Proofs.YtmmbkfagchaocaaDoor.ct Go.Proofs.YtmmbkfagchaocaaDoor.ka Go.Proofs.YtmmbkfagchaocaaDoor.kb Go.Proofs.YtmmbkfagchaocaaDoor.ga Go.Proofs.YtmmbkfagchaocaaDoor.aa Go.Proofs.YtmmbkfagchaocaaDoor.ab Go.Proofs.YtmmbkfagchaocaaDoor.tb Go.Proofs.YtmmbkfagchaocaaDoor.ac Go.Proofs.YtmmbkfagchaocaaDoor.ba Go.Proofs.YtmmbkfagchaocaaDoor.bb Go.Proofs.YtmmbkfagchaocaaDoor.bc Go.Proofs.YtmmbkfagchaocaaDoor.bd Go.Proofs.YtmmbkfagchaocaaDoor.be Go.Proofs.YtmmbkfagchaocaaDoor.bg Go.Proofs.YtmmbkfagchaocaaDoor.bh
set_option linter.unusedVariables false

theorem eqP (a b x y : Int) (w : World) (c : Bool) (h : (a == x && b == y) = c) : (binOp .eql 85 (.agg #[.int .i64 a, .int .i64 b]) (.agg #[.int .i64 x, .int .i64 y])).run Tryd.prog w = .ok (.bool c) w := by
  subst h
  by_cases h1 : a = x <;> by_cases h2 : b = y <;> simp [go_sem, h1, h2]
-- what a consistency proof does at a part
theorem lookC (ob mb m a b : Nat) (w : World) (hm : 1 ≤ m) (hm2 : m ≤ 4611686018427387904) (hab : a < b) (hb : b ≤ 4611686018427387904) (hO : Bx w ob 0 m) (hP : w.cell? ⟨mb, 0, none⟩ = some (.int .i64 m)) :
    Calls Tryd.prog 44 #[.agg #[.int .i64 a, .int .i64 b], .pointer (some ⟨ob, 0, none⟩), .pointer (some ⟨mb, 0, none⟩)] w fun e w' => e = .returned (.int .i64 (lkC m a b : Nat)) ∧ Below w.heap.size w w' := by
  have BA : Hid (Below w.heap.size w (w.alloc (.cells #[.int .i64 a, .int .i64 b] 85))) := (Below.refl _ _).alloc (Nat.le_refl _) _
  have ci : (w.alloc (.cells #[.int .i64 a, .int .i64 b] 85)).cell? ⟨mb, 0, none⟩ = some (.int .i64 m) := (BA.out.cell (World.block_lt_of_cell? _ _ hP)).trans hP
  obtain ⟨co1, co2⟩ := hO.later BA.out
  have TC : Hid (2 ≤ b - a → ∀ w, Calls _ _ _ _ _) := fun h w => toward a b (m - 1) h hb w
  rw [show ((m - 1 : Nat) : Int) = (m : Int) - 1 by omega] at TC
  obtain ⟨r, HR⟩ : ∃ r, Hid (lkC m a b = r) := ⟨_, rfl⟩
  rw [HR.out]
  by_cases h : a = 0 ∧ b = m
  · have qe := fun w => eqP (a : Int) (b : Int) 0 (m : Int) w true (by obtain ⟨h1, h2⟩ := h; subst h1; subst h2; simp)
    obtain rfl : 0 = r := by rw [← HR.out]; unfold lkC; rw [if_pos h]
    clear TC HR h hP hO
    go_enter Tryd.func44, Tryd.ntmps44
    go_wp2
    go_ret
    exact ⟨rfl, BA.out⟩
  · have qe := fun w => eqP (a : Int) (b : Int) 0 (m : Int) w false (by
      rw [Bool.and_eq_false_iff, beq_eq_false_iff_ne, beq_eq_false_iff_ne]
      rcases Decidable.not_and_iff_or_not.1 h with g | g
      · exact .inl (by omega)
      · exact .inr (by omega))
    by_cases h1 : b ≤ m
    · obtain rfl : 1 = r := by rw [← HR.out]; unfold lkC; rw [if_neg h, if_pos (.inl h1)]
      clear TC HR h hP hO
      go_enter Tryd.func44, Tryd.ntmps44
      go_wp2
      go_ret
      exact ⟨rfl, BA.out⟩
    · by_cases h2 : m ≤ a
      · obtain rfl : 1 = r := by rw [← HR.out]; unfold lkC; rw [if_neg h, if_pos (.inr h2)]
        clear TC HR h hP hO
        go_enter Tryd.func44, Tryd.ntmps44
        go_wp2
        go_ret
        exact ⟨rfl, BA.out⟩
      · have TC2 : Hid (∀ w, Calls Tryd.prog 43 #[.agg #[.int .i64 a, .int .i64 b], .int .i64 ((m : Int) - 1)] w fun e w' => e = .returned (.int .i64 (r : Nat)) ∧ Below w.heap.size w w') := by
          have e : ((r : Nat) : Int) = if a ≤ m - 1 ∧ m - 1 < a + half (b - a) then 2 else 3 := by
            rw [← HR.out]
            unfold lkC
            rw [if_neg h, if_neg (by omega)]
            split <;> rfl
          show ∀ w, _
          rw [e]
          exact TC.out (by omega)
        clear TC HR h hP hO
        go_enter Tryd.func44, Tryd.ntmps44
        go_wp2_with fail
        refine (TC2.out _).mono ?_
        rintro e w3 ⟨rfl, hb3⟩
        have B3 : Hid (Below w.heap.size w w3) := over BA.out hb3
        clear hb3
        go_wp2
        go_ret
        exact ⟨rfl, B3.out⟩
theorem LkC (ob mb m : Nat) (hm : 1 ≤ m) (hm2 : m ≤ 4611686018427387904) : Lk 44 #[.pointer (some ⟨ob, 0, none⟩), .pointer (some ⟨mb, 0, none⟩)] (lkC m) (fun w => Bx w ob 0 m ∧ w.cell? ⟨mb, 0, none⟩ = some (.int .i64 m)) where
  enter := fun args w => by simp [go_sem]
  call := fun a b w hab hb hP => lookC ob mb m a b w hm hm2 hab hb hP.1 hP.2
  wide := fun a b hab h => by
    unfold lkC at h
    split at h
    · omega
    · split at h
      · omega
      · omega
  four := fun a b => by
    unfold lkC
    split
    · omega
    · split
      · omega
      · split <;> omega
section
variable {g : Nat} {fb lb : Array Value} {ask : Nat → Nat × Nat → ByteArray × Int} {J : (Nat → Prop) → List (Nat × Nat) → World → Prop} {N : Nat} {D : Nat → Prop}
def conA (wd : Int) (ask : Nat → Nat × Nat → ByteArray × Int) (sz m n : Int) (l : List (Nat × Nat)) : List ByteArray × Int × List (Nat × Nat) :=
  if chk sz n = 0 then (if m < 0 ∨ n < m then ([], 80, l) else if m = 0 then ([], 0, l) else told (okw wd) (fow wd) ask l (WL (lkC m.toNat) 0 n.toNat)) else ([], chk sz n, l)
set_option maxHeartbeats 1600000 in
theorem consC (R : Rd g fb lb ask J N D) (wd sz m n : Int) (hwd : i64 wd) (F : Nat → Prop) (l : List (Nat × Nat)) (w : World) (hN : l.length + 122 * 63 ≤ N) (hJ : J F l w) :
    Calls Tryd.prog 18 #[.agg #[.int .i64 wd, .int .i64 sz, .func (.func g) fb lb], .int .i64 m, .int .i64 n] w (Proved J F w (conA wd ask sz m n l)) := by
  have CC : Hid (∀ w, Calls _ _ _ _ _) := fun w => check wd sz n g fb lb w
  have RR : Hid (Rd g fb lb ask J N D) := R
  have HJ : Hid (J F l w) := hJ
  have B0 : Hid (Below w.heap.size w ((w.alloc (.cells #[.int .i64 wd, .int .i64 sz, .func (.func g) fb lb] 48)).alloc (.cells #[.int .i64 m] 3))) := ((Below.refl _ _).alloc (Nat.le_refl _) _).alloc (by simp) _
  have BX : Hid (∃ c0 : ((w.alloc (.cells #[.int .i64 wd, .int .i64 sz, .func (.func g) fb lb] 48)).alloc (.cells #[.int .i64 m] 3)).cell? ⟨w.heap.size, 0, none⟩ = some (.int .i64 wd), ((w.alloc (.cells #[.int .i64 wd, .int .i64 sz, .func (.func g) fb lb] 48)).alloc (.cells #[.int .i64 m] 3)).cell? ⟨w.heap.size, 1, none⟩ = some (.int .i64 sz) ∧ ((w.alloc (.cells #[.int .i64 wd, .int .i64 sz, .func (.func g) fb lb] 48)).alloc (.cells #[.int .i64 m] 3)).cell? ⟨w.heap.size, 2, none⟩ = some (.func (.func g) fb lb) ∧ ((w.alloc (.cells #[.int .i64 wd, .int .i64 sz, .func (.func g) fb lb] 48)).alloc (.cells #[.int .i64 m] 3)).cell? ⟨w.heap.size + 1, 0, none⟩ = some (.int .i64 m)) := by
    have h3 := three_box w (.int .i64 wd) (.int .i64 sz) (.func (.func g) fb lb) 48
    have hb1 : Below (w.alloc (.cells #[.int .i64 wd, .int .i64 sz, .func (.func g) fb lb] 48)).heap.size (w.alloc (.cells #[.int .i64 wd, .int .i64 sz, .func (.func g) fb lb] 48)) ((w.alloc (.cells #[.int .i64 wd, .int .i64 sz, .func (.func g) fb lb] 48)).alloc (.cells #[.int .i64 m] 3)) := (Below.refl _ _).alloc (Nat.le_refl _) _
    have s1 : (w.alloc (.cells #[.int .i64 wd, .int .i64 sz, .func (.func g) fb lb] 48)).heap.size = w.heap.size + 1 := by simp
    exact ⟨(hb1.cell (World.block_lt_of_cell? _ _ h3.1)).trans h3.1, (hb1.cell (World.block_lt_of_cell? _ _ h3.2.1)).trans h3.2.1, (hb1.cell (World.block_lt_of_cell? _ _ h3.2.2)).trans h3.2.2, by rw [← s1, World.cell?_alloc_at _ _ _ _ rfl]; rfl⟩
  obtain ⟨A, HA⟩ : ∃ A, Hid (conA wd ask sz m n l = A) := ⟨_, rfl⟩
  rw [HA.out]
  by_cases h0 : chk sz n = 0
  · obtain ⟨k1, k2, k3, k4⟩ := chk_ok h0
    rw [h0] at CC
    by_cases h1 : m < 0
    · have HE : Hid (A = ([], 80, l)) := by show _ = _; rw [← HA.out]; unfold conA; rw [if_pos h0, if_pos (.inl h1)]
      clear h0 hJ hN
      go_enter Tryd.func18, Tryd.ntmps18
      go_wp2_with fail
      refine (CC.out _).mono ?_
      rintro e w1 ⟨rfl, hb1⟩
      have B1 : Hid (Below w.heap.size w w1) := over B0.out hb1
      have c3 := (hb1.cell (World.block_lt_of_cell? _ _ BX.out.2.2.2)).trans BX.out.2.2.2
      clear hb1 BX
      go_wp2
      go_ret2
      exact refused HE.out (RR.out.later HJ.out B1.out) B1.out
    · by_cases h2 : n < m
      · have HE : Hid (A = ([], 80, l)) := by show _ = _; rw [← HA.out]; unfold conA; rw [if_pos h0, if_pos (.inr h2)]
        clear h0 hJ hN
        go_enter Tryd.func18, Tryd.ntmps18
        go_wp2_with fail
        refine (CC.out _).mono ?_
        rintro e w1 ⟨rfl, hb1⟩
        have B1 : Hid (Below w.heap.size w w1) := over B0.out hb1
        have c3 := (hb1.cell (World.block_lt_of_cell? _ _ BX.out.2.2.2)).trans BX.out.2.2.2
        clear hb1 BX
        go_wp2
        go_ret2
        exact refused HE.out (RR.out.later HJ.out B1.out) B1.out
      · by_cases h3 : m = 0
        · have HE : Hid (A = ([], 0, l)) := by show _ = _; rw [← HA.out]; unfold conA; rw [if_pos h0, if_neg (by omega), if_pos h3]
          have q3 : (m == 0) = true := by rw [beq_iff_eq]; exact h3
          clear h0 hJ hN h3
          go_enter Tryd.func18, Tryd.ntmps18
          go_wp2_with fail
          refine (CC.out _).mono ?_
          rintro e w1 ⟨rfl, hb1⟩
          have B1 : Hid (Below w.heap.size w w1) := over B0.out hb1
          have c3 := (hb1.cell (World.block_lt_of_cell? _ _ BX.out.2.2.2)).trans BX.out.2.2.2
          clear hb1 BX
          go_wp2
          go_ret2
          exact refused HE.out (RR.out.later HJ.out B1.out) B1.out
        · have q3 : (m == 0) = false := by rw [beq_eq_false_iff_ne]; exact h3
          obtain ⟨m', rfl⟩ := Int.eq_ofNat_of_zero_le k3
          obtain ⟨j, rfl⟩ := Int.eq_ofNat_of_zero_le (show 0 ≤ m by omega)
          have hlen : (WL (lkC j) 0 m').length ≤ 63 := cons_len j 62 0 m' (by rw [p62]; omega) (by omega) (by omega)
          have GC : Hid (∀ (ob : Nat) w1, w.heap.size ≤ ob → Below w.heap.size w w1 → J F l w1 → Bx w1 ob 0 j → w1.cell? ⟨w.heap.size + 1, 0, none⟩ = some (.int .i64 j) → Calls Tryd.prog 38 #[.agg #[.int .i64 wd, .int .i64 sz, .func (.func g) fb lb], .int .i64 m', .func (.func 44) #[] #[.pointer (some ⟨ob, 0, none⟩), .pointer (some ⟨w.heap.size + 1, 0, none⟩)]] w1 (Proved J F w1 A)) := by
            intro ob w1 hob hb1 h1 hx hc
            have e1 : told (okw wd) (fow wd) ask l (WL (lkC j) 0 m') = A := by
              have := HA.out
              unfold conA at this
              rw [if_pos h0, if_neg (by omega), if_neg h3, Int.toNat_natCast, Int.toNat_natCast] at this
              exact this
            have := gatherC R (LkC ob (w.heap.size + 1) j (by omega) (by omega)) wd sz hwd m' (by omega) (by omega) F l w1 (fun F' wr hg => ⟨⟨hg.cell hx.one (fun hF => by have := RR.out.within HJ.out _ hF; omega), hg.cell hx.two (fun hF => by have := RR.out.within HJ.out _ hF; omega)⟩, hg.cell hc (fun hF => by have := RR.out.within HJ.out _ hF; omega)⟩) (by omega) (by omega) h1
            rw [e1] at this
            exact this
          clear h0 hJ hN hlen h3
          go_enter Tryd.func18, Tryd.ntmps18
          go_wp2_with fail
          refine (CC.out _).mono ?_
          rintro e w1 ⟨rfl, hb1⟩
          have B1 : Hid (Below w.heap.size w w1) := over B0.out hb1
          have b0 := (hb1.cell (World.block_lt_of_cell? _ _ BX.out.1)).trans BX.out.1
          have b1 := (hb1.cell (World.block_lt_of_cell? _ _ BX.out.2.1)).trans BX.out.2.1
          have b2 := (hb1.cell (World.block_lt_of_cell? _ _ BX.out.2.2.1)).trans BX.out.2.2.1
          have b3 := (hb1.cell (World.block_lt_of_cell? _ _ BX.out.2.2.2)).trans BX.out.2.2.2
          have BO : Hid (Below w1.heap.size w1 (w1.alloc (.cells #[.int .i64 0, .int .i64 j] 85))) := (Below.refl _ _).alloc (Nat.le_refl _) _
          have c0 := (BO.out.cell (World.block_lt_of_cell? _ _ b0)).trans b0
          have c1 := (BO.out.cell (World.block_lt_of_cell? _ _ b1)).trans b1
          have c2 := (BO.out.cell (World.block_lt_of_cell? _ _ b2)).trans b2
          have c3 := (BO.out.cell (World.block_lt_of_cell? _ _ b3)).trans b3
          have B2 : Hid (Below w.heap.size w (w1.alloc (.cells #[.int .i64 0, .int .i64 j] 85))) := over B1.out BO.out
          have GC1 : Hid (Calls _ _ _ _ _) := GC.out w1.heap.size (w1.alloc (.cells #[.int .i64 0, .int .i64 j] 85)) B1.out.size B2.out (RR.out.later HJ.out B2.out) ⟨by rw [World.cell?_alloc_at _ _ _ _ rfl]; rfl, by rw [World.cell?_alloc_at _ _ _ _ rfl]; rfl⟩ c3
          clear hb1 BX
          go_wp2_with fail
          refine GC1.out.mono ?_
          rintro e w2 ⟨u, F2, rfl, ho2, hj2, hg2, hbe⟩
          have H2 : Hid (w2.ownsRow w.heap.size 9 1 u (ans A).length ((ans A).map Value.string) ∧ J F2 A.2.2 w2 ∧ Goes F w F2 w2 ∧ Beside F2 u) := ⟨own_down ho2 B2.out.size, hj2, (Goes.of_below B2.out).trans hg2, hbe⟩
          clear ho2 hj2 hg2 hbe c0 c1 c2 c3 b0 b1 b2 b3
          go_wp2
          go_ret2
          exact ⟨u, F2, rfl, H2.out.1, H2.out.2.1, H2.out.2.2.1, H2.out.2.2.2⟩
  · have HE : Hid (A = ([], chk sz n, l)) := by
      show _ = _
      rw [← HA.out]
      unfold conA
      rw [if_neg h0]
    obtain ⟨c, HCc⟩ : ∃ c, Hid (chk sz n = c) := ⟨_, rfl⟩
    rw [HCc.out] at CC HE h0
    have q0 : (c == 0) = false := by rw [beq_eq_false_iff_ne]; exact h0
    clear h0 hJ hN
    go_enter Tryd.func18, Tryd.ntmps18
    go_wp2_with fail
    refine (CC.out _).mono ?_
    rintro e w1 ⟨rfl, hb1⟩
    have B1 : Hid (Below w.heap.size w w1) := over B0.out hb1
    clear hb1
    go_wp2
    go_ret2
    exact refused HE.out (RR.out.later HJ.out B1.out) B1.out
end
end Go.Proofs.YtmmbkfagchaocaaDoor.bj

namespace Go.Proofs.YtmmbkfagchaocaaDoor.bt
open Go.RowKit Go.PlainAid
open Go.Proofs.YtmmbkfagchaocaaDoor.bi Go.Proofs.YtmmbkfagchaocaaDoor.pl Go.Proofs.YtmmbkfagchaocaaDoor.pi Go.Proofs.YtmmbkfagchaocaaDoor.rf Go.Proofs.YtmmbkfagchaocaaDoor.pj Go.Proofs.YtmmbkfagchaocaaDoor.ca Go.Proofs.YtmmbkfagchaocaaDoor.cb Go.Proofs.YtmmbkfagchaocaaDoor.cp Go.Proofs.YtmmbkfagchaocaaDoor.cs Go.Proofs.YtmmbkfagchaocaaDoor.ct Go.Proofs.YtmmbkfagchaocaaDoor.ka Go.Proofs.YtmmbkfagchaocaaDoor.kb Go.Proofs.YtmmbkfagchaocaaDoor.ga Go.Proofs.YtmmbkfagchaocaaDoor.aa Go.Proofs.YtmmbkfagchaocaaDoor.ab Go.Proofs.YtmmbkfagchaocaaDoor.tb Go.Proofs.YtmmbkfagchaocaaDoor.ac Go.Proofs.YtmmbkfagchaocaaDoor.ba Go.Proofs.YtmmbkfagchaocaaDoor.bb Go.Proofs.YtmmbkfagchaocaaDoor.bc Go.Proofs.YtmmbkfagchaocaaDoor.bd Go.Proofs.YtmmbkfagchaocaaDoor.be Go.Proofs.YtmmbkfagchaocaaDoor.bg Go.Proofs.YtmmbkfagchaocaaDoor.bh
set_option linter.unusedVariables false

-- what a range does at a part
theorem lookR (lb' hb' lo hi a b : Nat) (w : World) (hab : a < b) (hb : b ≤ 4611686018427387904) (hP : w.cell? ⟨lb', 0, none⟩ = some (.int .i64 lo)) (hQ : w.cell? ⟨hb', 0, none⟩ = some (.int .i64 hi)) :
    Calls Tryd.prog 39 #[.agg #[.int .i64 a, .int .i64 b], .pointer (some ⟨lb', 0, none⟩), .pointer (some ⟨hb', 0, none⟩)] w fun e w' => e = .returned (.int .i64 (lkR lo hi a b : Nat)) ∧ Below w.heap.size w w' := by
  have BA : Hid (Below w.heap.size w (w.alloc (.cells #[.int .i64 a, .int .i64 b] 85))) := (Below.refl _ _).alloc (Nat.le_refl _) _
  have c1 := (BA.out.cell (World.block_lt_of_cell? _ _ hP)).trans hP
  have c2 := (BA.out.cell (World.block_lt_of_cell? _ _ hQ)).trans hQ
  obtain ⟨r, HR⟩ : ∃ r, Hid (lkR lo hi a b = r) := ⟨_, rfl⟩
  rw [HR.out]
  clear hP hQ
  by_cases h1 : b ≤ lo
  · obtain rfl : 1 = r := by rw [← HR.out]; unfold lkR; rw [if_pos (.inl h1)]
    clear HR
    go_enter Tryd.func39, Tryd.ntmps39
    go_wp2
    go_ret
    exact ⟨rfl, BA.out⟩
  · by_cases h2 : hi ≤ a
    · obtain rfl : 1 = r := by rw [← HR.out]; unfold lkR; rw [if_pos (.inr h2)]
      clear HR
      go_enter Tryd.func39, Tryd.ntmps39
      go_wp2
      go_ret
      exact ⟨rfl, BA.out⟩
    · by_cases h3 : lo ≤ a
      · by_cases h4 : b ≤ hi
        · obtain rfl : 0 = r := by rw [← HR.out]; unfold lkR; rw [if_neg (by omega), if_pos ⟨h3, h4⟩]
          clear HR
          go_enter Tryd.func39, Tryd.ntmps39
          go_wp2
          go_ret
          exact ⟨rfl, BA.out⟩
        · obtain rfl : 2 = r := by rw [← HR.out]; unfold lkR; rw [if_neg (by omega), if_neg (by omega)]
          clear HR
          go_enter Tryd.func39, Tryd.ntmps39
          go_wp2
          go_ret
          exact ⟨rfl, BA.out⟩
      · obtain rfl : 2 = r := by rw [← HR.out]; unfold lkR; rw [if_neg (by omega), if_neg (by omega)]
        clear HR
        go_enter Tryd.func39, Tryd.ntmps39
        go_wp2
        go_ret
        exact ⟨rfl, BA.out⟩
theorem LkR (lb' hb' lo hi : Nat) : Lk 39 #[.pointer (some ⟨lb', 0, none⟩), .pointer (some ⟨hb', 0, none⟩)] (lkR lo hi) (fun w => w.cell? ⟨lb', 0, none⟩ = some (.int .i64 lo) ∧ w.cell? ⟨hb', 0, none⟩ = some (.int .i64 hi)) where
  enter := fun args w => by simp [go_sem]
  call := fun a b w hab hb hP => lookR lb' hb' lo hi a b w hab hb hP.1 hP.2
  wide := fun a b hab h => by
    unfold lkR at h
    split at h
    · omega
    · split at h
      · omega
      · omega
  four := fun a b => by
    unfold lkR
    split
    · omega
    · split <;> omega
section
variable {g : Nat} {fb lb : Array Value} {ask : Nat → Nat × Nat → ByteArray × Int} {J : (Nat → Prop) → List (Nat × Nat) → World → Prop} {N : Nat} {D : Nat → Prop}
def rngA (wd : Int) (ask : Nat → Nat × Nat → ByteArray × Int) (sz lo hi n : Int) (l : List (Nat × Nat)) : List ByteArray × Int × List (Nat × Nat) :=
  if chk sz n = 0 then (if lo < 0 ∨ hi ≤ lo ∨ n < hi then ([], 81, l) else told (okw wd) (fow wd) ask l (WL (lkR lo.toNat hi.toNat) 0 n.toNat)) else ([], chk sz n, l)
theorem boxes4 (w : World) (x y z p q : Value) (t t1 t2 : TypeId) : let W := ((w.alloc (.cells #[x, y, z] t)).alloc (.cells #[p] t1)).alloc (.cells #[q] t2); Below w.heap.size w W ∧ W.cell? ⟨w.heap.size, 0, none⟩ = some x ∧ W.cell? ⟨w.heap.size, 1, none⟩ = some y ∧ W.cell? ⟨w.heap.size, 2, none⟩ = some z ∧ W.cell? ⟨w.heap.size + 1, 0, none⟩ = some p ∧ W.cell? ⟨w.heap.size + 1 + 1, 0, none⟩ = some q := by
  intro W
  have h3 := three_box w x y z t
  have s1 : (w.alloc (.cells #[x, y, z] t)).heap.size = w.heap.size + 1 := by simp
  have s2 : ((w.alloc (.cells #[x, y, z] t)).alloc (.cells #[p] t1)).heap.size = w.heap.size + 1 + 1 := by simp
  have b0 : Below w.heap.size w (w.alloc (.cells #[x, y, z] t)) := (Below.refl _ _).alloc (Nat.le_refl _) _
  have b1 : Below (w.alloc (.cells #[x, y, z] t)).heap.size (w.alloc (.cells #[x, y, z] t)) ((w.alloc (.cells #[x, y, z] t)).alloc (.cells #[p] t1)) := (Below.refl _ _).alloc (Nat.le_refl _) _
  have b2 : Below ((w.alloc (.cells #[x, y, z] t)).alloc (.cells #[p] t1)).heap.size ((w.alloc (.cells #[x, y, z] t)).alloc (.cells #[p] t1)) W := (Below.refl _ _).alloc (Nat.le_refl _) _
  have cp : ((w.alloc (.cells #[x, y, z] t)).alloc (.cells #[p] t1)).cell? ⟨w.heap.size + 1, 0, none⟩ = some p := by rw [← s1, World.cell?_alloc_at _ _ _ _ rfl]; rfl
  have cq : W.cell? ⟨w.heap.size + 1 + 1, 0, none⟩ = some q := by show (((w.alloc (.cells #[x, y, z] t)).alloc (.cells #[p] t1)).alloc (.cells #[q] t2)).cell? _ = _; rw [← s2, World.cell?_alloc_at _ _ _ _ rfl]; rfl
  have b12 := over b1 b2
  exact ⟨over b0 b12, (b12.cell (World.block_lt_of_cell? _ _ h3.1)).trans h3.1, (b12.cell (World.block_lt_of_cell? _ _ h3.2.1)).trans h3.2.1, (b12.cell (World.block_lt_of_cell? _ _ h3.2.2)).trans h3.2.2, (b2.cell (World.block_lt_of_cell? _ _ cp)).trans cp, cq⟩
set_option maxHeartbeats 1600000 in
theorem rangeC (R : Rd g fb lb ask J N D) (wd sz lo hi n : Int) (hwd : i64 wd) (F : Nat → Prop) (l : List (Nat × Nat)) (w : World) (hN : l.length + 122 * 124 ≤ N) (hJ : J F l w) :
    Calls Tryd.prog 16 #[.agg #[.int .i64 wd, .int .i64 sz, .func (.func g) fb lb], .int .i64 lo, .int .i64 hi, .int .i64 n] w (Proved J F w (rngA wd ask sz lo hi n l)) := by
  have CC : Hid (∀ w, Calls _ _ _ _ _) := fun w => check wd sz n g fb lb w
  have RR : Hid (Rd g fb lb ask J N D) := R
  have HJ : Hid (J F l w) := hJ
  have BX : Hid (_ ∧ _ ∧ _ ∧ _ ∧ _ ∧ _) := boxes4 w (.int .i64 wd) (.int .i64 sz) (.func (.func g) fb lb) (.int .i64 lo) (.int .i64 hi) 48 3 3
  obtain ⟨A, HA⟩ : ∃ A, Hid (rngA wd ask sz lo hi n l = A) := ⟨_, rfl⟩
  rw [HA.out]
  by_cases h0 : chk sz n = 0
  · obtain ⟨k1, k2, k3, k4⟩ := chk_ok h0
    rw [h0] at CC
    by_cases h1 : lo < 0
    · have HE : Hid (A = ([], 81, l)) := by show _ = _; rw [← HA.out]; unfold rngA; rw [if_pos h0, if_pos (.inl h1)]
      clear h0 hJ hN
      go_enter Tryd.func16, Tryd.ntmps16
      go_wp2_with fail
      refine (CC.out _).mono ?_
      rintro e w1 ⟨rfl, hb1⟩
      have B1 : Hid (Below w.heap.size w w1) := over BX.out.1 hb1
      have c3 := (hb1.cell (World.block_lt_of_cell? _ _ BX.out.2.2.2.2.1)).trans BX.out.2.2.2.2.1
      have c4 := (hb1.cell (World.block_lt_of_cell? _ _ BX.out.2.2.2.2.2)).trans BX.out.2.2.2.2.2
      clear hb1 BX
      go_wp2
      go_ret2
      exact refused HE.out (RR.out.later HJ.out B1.out) B1.out
    · by_cases h2 : hi ≤ lo
      · have HE : Hid (A = ([], 81, l)) := by show _ = _; rw [← HA.out]; unfold rngA; rw [if_pos h0, if_pos (.inr (.inl h2))]
        clear h0 hJ hN
        go_enter Tryd.func16, Tryd.ntmps16
        go_wp2_with fail
        refine (CC.out _).mono ?_
        rintro e w1 ⟨rfl, hb1⟩
        have B1 : Hid (Below w.heap.size w w1) := over BX.out.1 hb1
        have c3 := (hb1.cell (World.block_lt_of_cell? _ _ BX.out.2.2.2.2.1)).trans BX.out.2.2.2.2.1
        have c4 := (hb1.cell (World.block_lt_of_cell? _ _ BX.out.2.2.2.2.2)).trans BX.out.2.2.2.2.2
        clear hb1 BX
        go_wp2
        go_ret2
        exact refused HE.out (RR.out.later HJ.out B1.out) B1.out
      · by_cases h3 : n < hi
        · have HE : Hid (A = ([], 81, l)) := by show _ = _; rw [← HA.out]; unfold rngA; rw [if_pos h0, if_pos (.inr (.inr h3))]
          clear h0 hJ hN
          go_enter Tryd.func16, Tryd.ntmps16
          go_wp2_with fail
          refine (CC.out _).mono ?_
          rintro e w1 ⟨rfl, hb1⟩
          have B1 : Hid (Below w.heap.size w w1) := over BX.out.1 hb1
          have c3 := (hb1.cell (World.block_lt_of_cell? _ _ BX.out.2.2.2.2.1)).trans BX.out.2.2.2.2.1
          have c4 := (hb1.cell (World.block_lt_of_cell? _ _ BX.out.2.2.2.2.2)).trans BX.out.2.2.2.2.2
          clear hb1 BX
          go_wp2
          go_ret2
          exact refused HE.out (RR.out.later HJ.out B1.out) B1.out
        · obtain ⟨m, rfl⟩ := Int.eq_ofNat_of_zero_le k3
          obtain ⟨p, rfl⟩ := Int.eq_ofNat_of_zero_le (show 0 ≤ lo by omega)
          obtain ⟨q, rfl⟩ := Int.eq_ofNat_of_zero_le (show 0 ≤ hi by omega)
          have hlen : (WL (lkR p q) 0 m).length ≤ 124 := by
            have := out_len p q 62 0 m (by rw [p62]; omega) (by omega) (by omega) (by omega)
            omega
          have GC : Hid (∀ w1, Below w.heap.size w w1 → J F l w1 → w1.cell? ⟨w.heap.size + 1, 0, none⟩ = some (.int .i64 p) → w1.cell? ⟨w.heap.size + 1 + 1, 0, none⟩ = some (.int .i64 q) → Calls Tryd.prog 38 #[.agg #[.int .i64 wd, .int .i64 sz, .func (.func g) fb lb], .int .i64 m, .func (.func 39) #[] #[.pointer (some ⟨w.heap.size + 1, 0, none⟩), .pointer (some ⟨w.heap.size + 1 + 1, 0, none⟩)]] w1 (Proved J F w1 A)) := by
            intro w1 hb1 h1 hc hc2
            have e1 : told (okw wd) (fow wd) ask l (WL (lkR p q) 0 m) = A := by
              have := HA.out
              unfold rngA at this
              rw [if_pos h0, if_neg (by omega), Int.toNat_natCast, Int.toNat_natCast, Int.toNat_natCast] at this
              exact this
            have := gatherC R (LkR (w.heap.size + 1) (w.heap.size + 1 + 1) p q) wd sz hwd m (by omega) (by omega) F l w1 (fun F' wr hg => ⟨hg.cell hc (fun hF => by have := RR.out.within HJ.out _ hF; omega), hg.cell hc2 (fun hF => by have := RR.out.within HJ.out _ hF; omega)⟩) (by omega) (by omega) h1
            rw [e1] at this
            exact this
          clear h0 hJ hN hlen
          go_enter Tryd.func16, Tryd.ntmps16
          go_wp2_with fail
          refine (CC.out _).mono ?_
          rintro e w1 ⟨rfl, hb1⟩
          have B1 : Hid (Below w.heap.size w w1) := over BX.out.1 hb1
          have c0 := (hb1.cell (World.block_lt_of_cell? _ _ BX.out.2.1)).trans BX.out.2.1
          have c1 := (hb1.cell (World.block_lt_of_cell? _ _ BX.out.2.2.1)).trans BX.out.2.2.1
          have c2 := (hb1.cell (World.block_lt_of_cell? _ _ BX.out.2.2.2.1)).trans BX.out.2.2.2.1
          have c3 := (hb1.cell (World.block_lt_of_cell? _ _ BX.out.2.2.2.2.1)).trans BX.out.2.2.2.2.1
          have c4 := (hb1.cell (World.block_lt_of_cell? _ _ BX.out.2.2.2.2.2)).trans BX.out.2.2.2.2.2
          have GC1 : Hid (Calls _ _ _ _ _) := GC.out w1 B1.out (RR.out.later HJ.out B1.out) c3 c4
          clear hb1 BX
          go_wp2_with fail
          refine GC1.out.mono ?_
          rintro e w2 ⟨u, F2, rfl, ho2, hj2, hg2, hbe⟩
          have H2 : Hid (w2.ownsRow w.heap.size 9 1 u (ans A).length ((ans A).map Value.string) ∧ J F2 A.2.2 w2 ∧ Goes F w F2 w2 ∧ Beside F2 u) := ⟨own_down ho2 B1.out.size, hj2, (Goes.of_below B1.out).trans hg2, hbe⟩
          clear ho2 hj2 hg2 hbe c0 c1 c2 c3 c4
          go_wp2
          go_ret2
          exact ⟨u, F2, rfl, H2.out.1, H2.out.2.1, H2.out.2.2.1, H2.out.2.2.2⟩
  · have HE : Hid (A = ([], chk sz n, l)) := by
      show _ = _
      rw [← HA.out]
      unfold rngA
      rw [if_neg h0]
    obtain ⟨c, HCc⟩ : ∃ c, Hid (chk sz n = c) := ⟨_, rfl⟩
    rw [HCc.out] at CC HE h0
    have q0 : (c == 0) = false := by rw [beq_eq_false_iff_ne]; exact h0
    clear h0 hJ hN
    go_enter Tryd.func16, Tryd.ntmps16
    go_wp2_with fail
    refine (CC.out _).mono ?_
    rintro e w1 ⟨rfl, hb1⟩
    have B1 : Hid (Below w.heap.size w w1) := over BX.out.1 hb1
    clear hb1
    go_wp2
    go_ret2
    exact refused HE.out (RR.out.later HJ.out B1.out) B1.out
end
end Go.Proofs.YtmmbkfagchaocaaDoor.bt
