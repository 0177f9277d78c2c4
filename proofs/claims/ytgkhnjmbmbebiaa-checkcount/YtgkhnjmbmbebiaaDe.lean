import Derived.Test.YtgkhnjmbmbebiaaDc
import Derived.RowKit3
namespace Go.Proofs.Ytgkhnjmbmbebiaa.de
open Go.RowKit Go.PlainAid
open Go.Proofs.Ytgkhnjmbmbebiaa.ca Go.Proofs.Ytgkhnjmbmbebiaa.cb Go.Proofs.Ytgkhnjmbmbebiaa.cp Go.Proofs.Ytgkhnjmbmbebiaa.ga Go.Proofs.Ytgkhnjmbmbebiaa.aa Go.Proofs.Ytgkhnjmbmbebiaa.ab Go.Proofs.Ytgkhnjmbmbebiaa.kp Go.Proofs.Ytgkhnjmbmbebiaa.lk Go.Proofs.Ytgkhnjmbmbebiaa.mi Go.Proofs.Ytgkhnjmbmbebiaa.mk Go.Proofs.Ytgkhnjmbmbebiaa.lm Go.Proofs.Ytgkhnjmbmbebiaa.tl Go.Proofs.Ytgkhnjmbmbebiaa.co Go.Proofs.Ytgkhnjmbmbebiaa.ti Go.Proofs.Ytgkhnjmbmbebiaa.dc
set_option linter.unusedVariables false

theorem lenR (lo hi a b : Nat) (hab : a < b) (hb : b ≤ 4611686018427387904) : (WL (lkR lo hi) a b).length ≤ b - a :=
  (go_tally (lk := lkR lo hi) (cur := fun _ => 0) (ShR 0 0 lo hi).wide (ShR 0 0 lo hi).four (ShR 0 0 lo hi).turn (b - a) a b rfl hab hb).2
theorem lenM (ps : List Nat) (a b : Nat) (hab : a < b) (hb : b ≤ 4611686018427387904) : (WL (lkM ps) a b).length ≤ b - a :=
  (go_tally (lk := lkM ps) (cur := fun _ => 0) (fun hab h => by
    unfold lkM at h
    split at h
    · split at h <;> omega
    · omega) (fun a b => by
    unfold lkM
    split
    · split <;> omega
    · omega) (fun _ _ => rfl) (b - a) a b rfl hab hb).2
set_option maxHeartbeats 1600000 in
theorem rRange (lo hi : Nat) (hlo : lo ≤ 4611686018427387904) (hhi : hi ≤ 4611686018427387904) (n : Nat) : ∀ (a b : Nat) (w : World), b - a = n → a < b → b ≤ 4611686018427387904 →
    Calls Try.prog 18 #[.int .i64 a, .int .i64 b, .int .i64 lo, .int .i64 hi] w fun e w' => e = .returned (.int .i64 ((WL (lkR lo hi) a b).length : Nat)) ∧ w' = w := by
  induction n using Nat.strongRecOn with
  | ind n ih =>
    intro a b w hn hab hb
    have hlen := lenR lo hi a b hab hb
    obtain ⟨t, HT⟩ : ∃ t, Hid ((WL (lkR lo hi) a b).length = t) := ⟨_, rfl⟩
    rw [HT.out] at hlen ⊢
    by_cases h1 : b ≤ lo
    · obtain rfl : 1 = t := by rw [← HT.out, WL_take (by unfold lkR; rw [if_pos (.inl h1)])]; rfl
      clear ih
      go_enter Try.func18, Try.ntmps18
      go_wp2
      go_ret
      exact ⟨rfl, rfl⟩
    by_cases h2 : hi ≤ a
    · obtain rfl : 1 = t := by rw [← HT.out, WL_take (by unfold lkR; rw [if_pos (.inr h2)])]; rfl
      clear ih
      go_enter Try.func18, Try.ntmps18
      go_wp2
      go_ret
      exact ⟨rfl, rfl⟩
    by_cases h3 : lo ≤ a ∧ b ≤ hi
    · obtain rfl : 0 = t := by rw [← HT.out, WL_pass (by unfold lkR; rw [if_neg (by omega), if_pos h3])]; rfl
      obtain ⟨h4, h5⟩ := h3
      clear ih
      go_enter Try.func18, Try.ntmps18
      go_wp2
      go_ret
      exact ⟨rfl, rfl⟩
    have h2n : 2 ≤ b - a := by omega
    have hh := half_lt h2n
    have HWL : Hid (t = (WL (lkR lo hi) a (a + half (b - a))).length + (WL (lkR lo hi) (a + half (b - a)) b).length) := by
      show _ = _
      rw [← HT.out, WL_left (by unfold lkR; rw [if_neg (by omega), if_neg h3]) h2n, List.length_append]
    have SP : Hid (∀ w, Calls _ _ _ _ _) := fun w => rSplit (b - a) h2n (by omega) w
    have I1 : Hid (∀ w, Calls _ _ _ _ _) := fun w => ih (half (b - a)) (by omega) a (a + half (b - a)) w (by omega) (by omega) (by omega)
    have I2 : Hid (∀ w, Calls _ _ _ _ _) := fun w => ih (b - a - half (b - a)) (by omega) (a + half (b - a)) b w (by omega) (by omega) hb
    have l1 := lenR lo hi a (a + half (b - a)) (by omega) (by omega)
    have l2 := lenR lo hi (a + half (b - a)) b (by omega) hb
    obtain ⟨k, HK⟩ : ∃ k, Hid (half (b - a) = k) := ⟨_, rfl⟩
    rw [HK.out] at SP I1 I2 HWL hh l1 l2
    obtain ⟨x, HX⟩ : ∃ x, Hid ((WL (lkR lo hi) a (a + k)).length = x) := ⟨_, rfl⟩
    obtain ⟨y, HY⟩ : ∃ y, Hid ((WL (lkR lo hi) (a + k) b).length = y) := ⟨_, rfl⟩
    rw [HX.out] at I1 HWL l1
    rw [HY.out] at I2 HWL l2
    have z1 : ((b - a : Nat) : Int) = (b : Int) - a := by omega
    have z2 : ((a + k : Nat) : Int) = (a : Int) + k := by omega
    have z3 : ((x + y : Nat) : Int) = (x : Int) + y := by omega
    rw [z1] at SP
    rw [z2] at I1 I2
    have HE := HWL.out
    subst HE
    rw [z3]
    have hw1 : IntKind.i64.wrap ((a : Int) + k) = (a : Int) + k := by rw [IntKind.wrap_i64]; omega
    have hw2 : IntKind.i64.wrap ((b : Int) - a) = (b : Int) - a := by rw [IntKind.wrap_i64]; omega
    have hw3 : IntKind.i64.wrap ((x : Int) + y) = (x : Int) + y := by rw [IntKind.wrap_i64]; omega
    clear ih HT HWL HX HY HK
    by_cases h3a : lo ≤ a
    · have h3b : ¬ b ≤ hi := by omega
      clear h3 h2n hh hn l1 l2 hlen hlo hhi
      go_enter Try.func18, Try.ntmps18
      go_wp2_with fail
      refine (SP.out _).mono ?_
      rintro e w1 ⟨rfl, hw⟩
      subst hw
      go_wp2_with fail
      refine (I1.out _).mono ?_
      rintro e w2 ⟨rfl, hw⟩
      subst hw
      go_wp2_with fail
      refine (I2.out _).mono ?_
      rintro e w3 ⟨rfl, hw⟩
      subst hw
      go_wp2
      go_ret
      exact ⟨rfl, rfl⟩
    · clear h3 h2n hh hn l1 l2 hlen hlo hhi
      go_enter Try.func18, Try.ntmps18
      go_wp2_with fail
      refine (SP.out _).mono ?_
      rintro e w1 ⟨rfl, hw⟩
      subst hw
      go_wp2_with fail
      refine (I1.out _).mono ?_
      rintro e w2 ⟨rfl, hw⟩
      subst hw
      go_wp2_with fail
      refine (I2.out _).mono ?_
      rintro e w3 ⟨rfl, hw⟩
      subst hw
      go_wp2
      go_ret
      exact ⟨rfl, rfl⟩
-- the places from a up to b
def inX (xs : List Int) (a b : Nat) : List Int := xs.filter fun p => decide ((a : Int) ≤ p) && decide (p < (b : Int))
theorem own_readsI {w : World} {B : Nat} {v : Value} {zs : List Int} (h : w.ownsRow B 3 1 v zs.length (zs.map (Value.int .i64))) : ReadsI w v zs := by
  rcases h.2 with ⟨h1, h2⟩ | ⟨g, cap, cur, rfl, _, _, hc, _⟩
  · rw [h1]; exact ⟨none, 0, by rw [h2], by omega, .inl h2⟩
  · refine ⟨_, cap, rfl, by omega, .inr ⟨g, 0, rfl, fun i hi => ?_⟩⟩
    rw [Nat.zero_add, h.cellAt i (by omega), List.getElem?_map, List.getElem?_eq_getElem hi, List.getD_eq_getElem?_getD, List.getElem?_eq_getElem hi]
    rfl
set_option maxHeartbeats 6400000 in
set_option maxRecDepth 100000 in
theorem withinC (v : Value) (xs : List Int) (a b : Nat) (w : World) (hR : ReadsI w v xs) (hz : xs.length ≤ 1024) :
    Calls Try.prog 31 #[v, .int .i64 a, .int .i64 b] w fun e w' => (∃ p l c, e = .returned (.slice p l c) ∧ ReadsI w' (.slice p l c) (inX xs a b)) ∧ Below w.heap.size w w' := by
  obtain ⟨i9, hi9', hz0, hz1, hz2⟩ := info_parts hiE
  have HIN : Hid (_ ∧ _ ∧ _ ∧ _) := ⟨hi9', hz0, hz1, hz2⟩
  obtain ⟨va, cap, rfl, hcap, hh⟩ := hR
  have HC : Hid (xs.length = 0 ∨ ∃ g off, va = some ⟨g, off, none⟩ ∧ ∀ i, i < xs.length → w.cell? ⟨g, off + i, none⟩ = some (.int .i64 (xs.getD i 0))) := hh
  obtain ⟨l, HN⟩ : ∃ n, Hid (xs.length = n) := ⟨_, rfl⟩
  rw [HN.out] at HC hcap hz ⊢
  clear hi9' hz0 hz1 hz2 hh
  go_enter Try.func31, Try.ntmps31
  go_wp2
  go_loopw [7, 8] (fun o i wr => ∃ (k : Nat) (zs : List Int), k ≤ l ∧ zs.length ≤ k ∧ i = .int .i64 k ∧ Hid (zs = inX (xs.take k) a b) ∧ Hid (wr.ownsRow w.heap.size 3 1 o zs.length (zs.map (Value.int .i64))) ∧ Hid (Below w.heap.size w wr)) (fun _ i _ => (l - intOf i).toNat)
  case atStart => exact ⟨0, [], by omega, by simp, rfl, by show _ = _; rw [List.take_zero]; rfl, World.ownsRow_nil _ _ _ _, Below.refl _ _⟩
  case round =>
    obtain ⟨k, zs, hk, hzk, rfl, HU, HO, HB⟩ := hrel
    obtain ⟨oa, oc, ho⟩ := own_form HO.out
    subst ho
    obtain ⟨m, HM⟩ : ∃ m, Hid (zs.length = m) := ⟨_, rfl⟩
    rw [HM.out] at HO hzk ⊢
    by_cases h1 : k < l
    · have h1' : (k : Int) < l := by omega
      obtain ⟨g, off, rfl, hc⟩ : ∃ g off, va = some ⟨g, off, none⟩ ∧ ∀ i, i < l → w.cell? ⟨g, off + i, none⟩ = some (.int .i64 (xs.getD i 0)) := by
        rcases HC.out with h | h
        · omega
        · exact h
      have c0 := hc k h1
      have c1 := (HB.out.cell (World.block_lt_of_cell? _ _ c0)).trans c0
      have hkx : k < xs.length := by rw [HN.out]; exact h1
      have htk : xs.take (k + 1) = xs.take k ++ [xs.getD k 0] := by
        rw [List.take_add_one, List.getElem?_eq_getElem hkx, List.getD_eq_getElem?_getD, List.getElem?_eq_getElem hkx]; rfl
      obtain ⟨X, HXX⟩ : ∃ X, Hid (xs.getD k 0 = X) := ⟨_, rfl⟩
      rw [HXX.out] at c1 htk
      have HTK : Hid (xs.take (k + 1) = xs.take k ++ [X]) := htk
      have HNO : Hid (¬ ((a : Int) ≤ X ∧ X < b) → zs = inX (xs.take (k + 1)) a b) := fun hx => by
        rw [HTK.out, HU.out]
        unfold inX
        have : (decide ((a : Int) ≤ X) && decide (X < (b : Int))) = false := by
          rw [Bool.and_eq_false_iff, decide_eq_false_iff_not, decide_eq_false_iff_not]; omega
        rw [List.filter_append, List.filter_cons, List.filter_nil, if_neg (by rw [this]; decide), List.append_nil]
      have HYES : Hid ((a : Int) ≤ X → X < b → zs ++ [X] = inX (xs.take (k + 1)) a b) := fun g1 g2 => by
        rw [HTK.out, HU.out]
        unfold inX
        rw [List.filter_append, List.filter_cons, List.filter_nil, if_pos (by rw [decide_eq_true g1, decide_eq_true g2]; rfl)]
      clear hc c0 htk hkx
      by_cases x1 : (a : Int) ≤ X
      · have d1 : decide ((a : Int) ≤ X) = true := decide_eq_true x1
        by_cases x2 : X < (b : Int)
        · have d2 : decide (X < (b : Int)) = true := decide_eq_true x2
          have HU1 : Hid (zs ++ [X] = inX (xs.take (k + 1)) a b) := HYES.out x1 x2
          have O1a : Hid ((wr.alloc (.cells #[.int .i64 X] 3)).ownsRow w.heap.size 3 1 (.slice oa m oc) m (zs.map (Value.int .i64))) := HO.out.alloc (.cells #[.int .i64 X] 3)
          have B3a : Hid (Below w.heap.size w (wr.alloc (.cells #[.int .i64 X] 3))) := HB.out.alloc HB.out.size _
          have NW : Hid (∀ (j : Nat) (x : Value), [Value.int .i64 X][j]? = some x → (wr.alloc (.cells #[.int .i64 X] 3)).cell? (Addr.add ⟨wr.heap.size, 0, none⟩ j) = some x) := new_one wr _ _
          have MO : Hid (∀ u ∈ [Value.int .i64 X], u.oneCell' = true) := fun u hu => by simp only [List.mem_cons, List.not_mem_nil, or_false] at hu; subst hu; rfl
          clear x1 x2 HNO HYES
          go_wp2_with (at_builtin; refine wpList_append_own _ rfl _ _ 22 rfl w.heap.size 3 i9 (.int .i64 0) 1 8 Try.underlying22 HIN.out.1 HIN.out.2.1 HIN.out.2.2.1 HIN.out.2.2.2 rfl (by decide) _ m _ rfl O1a.out ⟨wr.heap.size, 0, none⟩ 1 1 [.int .i64 X] rfl rfl NW.out MO.out (by unfold maxLen; omega) (by omega) B3a.out.size ?_; intro f' w4 ho hg hnn; have O2r : Hid (w4.ownsRow w.heap.size 3 1 f' (m + 1) (zs.map (Value.int .i64) ++ [.int .i64 X])) := ho; have B4 : Hid (Below w.heap.size w w4) := Below.grown B3a.out hg B3a.out.size (fun j hj => (O1a.out.lt _ hj).1); clear ho hg hnn)
          go_roundw
          case rel => exact ⟨k + 1, zs ++ [X], by omega, by rw [List.length_append, HM.out, List.length_singleton]; omega, by go_num, HU1, by show World.ownsRow _ _ _ _ _ _ _; rw [List.length_append, HM.out, List.map_append]; exact O2r.out, B4⟩
          case measure => simp [intOf]; omega
        · have d2 : decide (X < (b : Int)) = false := decide_eq_false x2
          have HU1 : Hid (zs = inX (xs.take (k + 1)) a b) := HNO.out (fun h => x2 h.2)
          clear x1 x2 HNO HYES
          go_wp2
          go_roundw
          case rel => exact ⟨k + 1, zs, by omega, by rw [HM.out]; omega, by go_num, HU1, by show World.ownsRow _ _ _ _ _ _ _; rw [HM.out]; exact HO.out, HB⟩
          case measure => simp [intOf]; omega
      · have d1 : decide ((a : Int) ≤ X) = false := decide_eq_false x1
        have HU1 : Hid (zs = inX (xs.take (k + 1)) a b) := HNO.out (fun h => x1 h.1)
        clear x1 HNO HYES
        go_wp2
        go_roundw
        case rel => exact ⟨k + 1, zs, by omega, by rw [HM.out]; omega, by go_num, HU1, by show World.ownsRow _ _ _ _ _ _ _; rw [HM.out]; exact HO.out, HB⟩
        case measure => simp [intOf]; omega
    · have h1' : ¬ (k : Int) < l := by omega
      have HE : Hid (zs = inX xs a b) := by
        show _ = _
        rw [HU.out, List.take_of_length_le (by rw [HN.out]; omega)]
      have hR := HO.out
      go_wp2
      go_ret
      refine ⟨⟨_, _, _, rfl, ?_⟩, HB.out⟩
      rw [← HE.out]
      exact own_readsI (by rw [HM.out]; exact HO.out)
end Go.Proofs.Ytgkhnjmbmbebiaa.de
