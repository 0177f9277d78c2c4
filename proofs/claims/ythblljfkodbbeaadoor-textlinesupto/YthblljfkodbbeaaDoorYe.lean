import Derived.Test.YthblljfkodbbeaaDoorYd
import Derived.Deep.DeepCutAuto
namespace Go.Proofs.YthblljfkodbbeaaDoor.ye
open Go.RowKit Go.PlainAid
open Go.Proofs.YthblljfkodbbeaaDoor.ta Go.Proofs.YthblljfkodbbeaaDoor.tb Go.Proofs.YthblljfkodbbeaaDoor.tc Go.Proofs.YthblljfkodbbeaaDoor.tj Go.Proofs.YthblljfkodbbeaaDoor.va Go.Proofs.YthblljfkodbbeaaDoor.vb Go.Proofs.YthblljfkodbbeaaDoor.vc Go.Proofs.YthblljfkodbbeaaDoor.vd Go.Proofs.YthblljfkodbbeaaDoor.ya Go.Proofs.YthblljfkodbbeaaDoor.yb Go.Proofs.YthblljfkodbbeaaDoor.yc Go.Proofs.YthblljfkodbbeaaDoor.yd
set_option linter.unusedVariables false

def has10 (x : ByteArray) (j : Nat) : Bool := decide (∃ i, i < j ∧ bt x i = 10)
theorem has10_all (x : ByteArray) : has10 x x.size = nl x := by
  unfold has10
  cases h : nl x with
  | true =>
    apply decide_eq_true
    have hm := (nl_iff x).1 h
    obtain ⟨i, hi, e⟩ := List.getElem_of_mem hm
    rw [bs_length] at hi
    exact ⟨i, hi, by rw [← bs_get x i hi]; exact e⟩
  | false =>
    apply decide_eq_false
    rintro ⟨i, hi, e⟩
    have := (nl_no x).1 h (bt x i) (by rw [← bs_get x i hi]; exact List.getElem_mem _)
    exact this e
theorem has10_zero (x : ByteArray) : has10 x 0 = false := decide_eq_false (by rintro ⟨i, hi, _⟩; omega)
theorem has10_succ (x : ByteArray) (j : Nat) : has10 x (j + 1) = (has10 x j || (bt x j == 10)) := by
  unfold has10
  rw [Bool.eq_iff_iff]
  simp only [decide_eq_true_eq, Bool.or_eq_true, beq_iff_eq]
  constructor
  · rintro ⟨i, hi, e⟩
    rcases Nat.lt_or_ge i j with g | g
    · exact .inl ⟨i, g, e⟩
    · obtain rfl : i = j := by omega
      exact .inr e
  · rintro (⟨i, hi, e⟩ | e)
    · exact ⟨i, by omega, e⟩
    · exact ⟨j, by omega, e⟩
def allNo (xs : List ByteArray) (k : Nat) : Bool := (xs.take k).all fun x => !nl x
theorem allNo_succ (xs : List ByteArray) (k : Nat) (h : k < xs.length) : allNo xs (k + 1) = (allNo xs k && !nl (xs.getD k ByteArray.empty)) := by
  unfold allNo
  have e : xs.take (k + 1) = xs.take k ++ [xs.getD k ByteArray.empty] := by
    rw [List.take_add_one, List.getElem?_eq_getElem h, List.getD_eq_getElem?_getD, List.getElem?_eq_getElem h]
    rfl
  rw [e, List.all_append]
  simp

set_option maxHeartbeats 3200000 in
set_option maxRecDepth 100000 in
theorem text_lines_back (v : Value) (xs : List ByteArray) (s : ByteArray) (w : World) (hr : Reads w v xs) (hz : (tk xs xs.length + xs.length) + s.size ≤ 1048576) :
    Calls Tryd.prog 3 #[v, .string s] w fun e w' => e = .returned (.bool true) ∧ Below w.heap.size w w' := by
  have HRD : Hid (Reads w v xs) := hr
  have J1 : Hid (Calls _ _ _ _ _) := join v xs w hr (by omega)
  have hjl : (joinL xs).length ≤ 1048576 := by
    have := joinL_length xs xs.length (Nat.le_refl _)
    rw [List.take_length] at this
    omega
  have L2 : Hid (∀ w, Calls _ _ _ _ _) := fun w => lines (s ++ (⟨#[10]⟩ : ByteArray)) (by rw [ByteArray.size_append]; show s.size + 1 < _; omega) w
  rw [bs_two, bs_10, lines_nl] at L2
  unfold linesR at L2
  have J2 : Hid (∀ w v, Reads w v ((parts 10 (bs s)).map str) → Calls Tryd.prog 8 #[v] w fun e w' => e = .returned (.tuple #[.string (s ++ (⟨#[10]⟩ : ByteArray)), .int .i64 0]) ∧ Below w.heap.size w w') := fun w v h => by
    have := join v _ w h (by rw [join_room]; omega)
    rw [join_lines] at this
    exact this
  have hsz : s.size ≤ 1048576 := by omega
  have hzn : xs.length ≤ 1048576 := by omega
  have HXZ : Hid (∀ k, k < xs.length → (xs.getD k ByteArray.empty).size ≤ 1048576) := fun k hk => by
    have := tk_at xs k xs.length hk
    omega
  obtain ⟨S, HS⟩ : ∃ S, Hid (s ++ (⟨#[10]⟩ : ByteArray) = S) := ⟨_, rfl⟩
  have HSW := HS.out
  rw [HS.out] at L2 J2
  have q1 : (S.toList == S.toList) = true := beq_self_eq_true _
  obtain ⟨a, cap, rfl, hcl⟩ := hr
  have HCL : Hid (xs.length = 0 ∨ ∃ b off, a = some ⟨b, off, none⟩ ∧ ∀ i, i < xs.length → w.cell? ⟨b, off + i, none⟩ = some (.string (xs.getD i ByteArray.empty))) := hcl
  obtain ⟨n, HN⟩ : ∃ n, Hid (xs.length = n) := ⟨_, rfl⟩
  clear hcl hz
  -- what the two loops say
  obtain ⟨T, ee, g, HJ⟩ : ∃ (T : ByteArray) (ee : Int) (g : Bool), Hid (joinV xs = .tuple #[.string T, .int .i64 ee] ∧ (ee == 0) = g ∧ g = allNo xs xs.length ∧ T.size ≤ 1048576 ∧ (g = true → linesP (bs T) = some (xs.map bs)) ∧ (g = false → linesP (bs T) = some [])) := by
    by_cases h : xs.all (fun x => !nl x) = true
    · refine ⟨⟨(joinL xs).toArray⟩, 0, true, ?_⟩
      refine ⟨by unfold joinV; rw [if_pos h], rfl, ?_, hjl, fun _ => lines_join xs h, fun h => by cases h⟩
      unfold allNo
      rw [List.take_length, h]
    · refine ⟨ByteArray.empty, 43, false, ?_⟩
      refine ⟨by unfold joinV; rw [if_neg h], rfl, ?_, by decide, (fun h => by cases h), fun _ => rfl⟩
      unfold allNo
      rw [List.take_length]
      simpa using h
  obtain ⟨j1, hg, j3, j4, j5, j6⟩ := HJ.out
  rw [j1] at J1
  have HG : Hid (g = allNo xs xs.length) := j3
  have L1 : Hid (∀ w, Calls _ _ _ _ _) := fun w => lines T (by omega) w
  have HL1 : Hid (∃ ys, linesP (bs T) = some ys ∧ (g = true → ys.map str = xs) ∧ ys.length ≤ 1048576) := by
    cases hgb : g with
    | true =>
      refine ⟨xs.map bs, j5 hgb, fun _ => ?_, by rw [List.length_map]; exact hzn⟩
      rw [List.map_map]
      conv => rhs; rw [← List.map_id xs]
      apply List.map_congr_left
      intro x _
      simp [str_bs]
    | false => exact ⟨[], j6 hgb, (fun h => by cases h), Nat.zero_le _⟩
  clear j1 j3 j4 j5 j6 HJ hjl
  obtain ⟨ys, y1, y2, y3⟩ := HL1.out
  rw [y1] at L1
  unfold linesR at L1
  have HY2 : Hid (g = true → ys.map str = xs) := y2
  have hyl : (ys.map str).length ≤ 140737488355328 := by rw [List.length_map]; omega
  clear y1 y2 y3 HL1
  obtain ⟨Y, HYY⟩ : ∃ Y, Hid (ys.map str = Y) := ⟨_, rfl⟩
  have L1' : Hid (∀ w, Calls Tryd.prog 9 #[.string T] w fun e w' => (∃ v, e = .returned (.tuple #[v, .int .i64 0]) ∧ Texts w' w.heap.size v Y) ∧ Below w.heap.size w w') := by rw [← HYY.out]; exact L1.out
  rw [HYY.out] at HY2 hyl
  clear L1
  rw [HN.out] at J1 HCL HRD ⊢
  go_enter Tryd.func3, Tryd.ntmps3
  go_wp2_with fail
  refine J1.out.mono ?_
  rintro e w1 ⟨rfl, hb⟩
  have B1 : Hid (Below w.heap.size w w1) := hb
  clear hb J1
  go_wp2_with fail
  refine (L1'.out _).mono ?_
  rintro e w2 ⟨⟨v1, rfl, ht⟩, hb⟩
  have B2 : Hid (Below w.heap.size w w2) := over B1.out hb
  have S1 := sameTexts v1 (.slice a n cap) Y xs w2 (Texts.reads ht) (HRD.out.later B2.out) hyl (by omega)
  obtain ⟨bk, HBK⟩ : ∃ bk, Hid (decide (Y = xs) = bk) := ⟨_, rfl⟩
  rw [HBK.out] at S1
  have HBT : Hid (g = true → bk = true) := fun h => by rw [← HBK.out]; exact decide_eq_true (HY2.out h)
  have HS1 : Hid (Calls _ _ _ _ _) := S1
  have hv1 : v1.oneCell' = true := by
    rcases ht with ⟨rfl, _⟩ | ⟨g, rfl, _⟩
    · rfl
    · rfl
  clear hb ht S1 L1'
  go_wp2_with fail
  refine HS1.out.mono ?_
  rintro e w3 ⟨rfl, hb⟩
  have B3 : Hid (Below w.heap.size w w3) := over B2.out hb
  clear hb HS1
  have hgg : (g != g) = false := by cases g <;> rfl
  have hnn : n ≤ 1048576 := by rw [← HN.out]; exact hzn
  go_upto_region 4 with fail
  go_cut [39] (fun c wx => c = .bool false ∧ wx = w3)
  case first =>
    cases hgv : g with
    | true =>
      have hb1 : bk = true := HBT.out hgv
      rw [hgv] at hg
      clear hgg
      go_wp2_with fail
      go_meet
      exact ⟨rfl, rfl⟩
    | false =>
      rw [hgv] at hg
      clear hgg
      go_wp2_with fail
      go_meet
      exact ⟨rfl, rfl⟩
  case rest =>
    obtain ⟨rfl, rfl⟩ := hcut
    clear HBT HBK HY2 HYY
    go_wp2_with fail
    go_loopw [10, 11] (fun wh i wr => ∃ (k : Nat) (W : Bool), k ≤ n ∧ i = .int .i64 k ∧ wh = .bool W ∧ Hid (W = allNo xs k) ∧ wr = wc) (fun _ i _ => (n - intOf i).toNat)
    case atStart => exact ⟨0, true, by omega, rfl, rfl, rfl, rfl⟩
    case round =>
      obtain ⟨k, W, hk, rfl, rfl, HWK, rfl⟩ := hrel
      by_cases hlt : k < n
      · have hlt' : (k : Int) < n := by omega
        have hkx : k < xs.length := by rw [HN.out]; exact hlt
        obtain ⟨b, off, rfl, hc⟩ : ∃ b off, a = some ⟨b, off, none⟩ ∧ ∀ i, i < n → w.cell? ⟨b, off + i, none⟩ = some (.string (xs.getD i ByteArray.empty)) := by
          rcases HCL.out with h | h
          · omega
          · exact h
        have c1 : wr.cell? ⟨b, off + k, none⟩ = some (.string (xs.getD k ByteArray.empty)) := (B3.out.cell (p := ⟨b, off + k, none⟩) (World.block_lt_of_cell? _ _ (hc k hlt))).trans (hc k hlt)
        have hXZ := HXZ.out k hkx
        have HSU : Hid (allNo xs (k + 1) = (allNo xs k && !nl (xs.getD k ByteArray.empty))) := allNo_succ xs k hkx
        clear hc
        obtain ⟨X, HX⟩ : ∃ X, Hid (xs.getD k ByteArray.empty = X) := ⟨_, rfl⟩
        rw [HX.out] at c1 hXZ HSU
        have hgb := get_bt X
        go_wp2
        go_loopw [10, 12] (fun wh j wr' => ∃ (m : Nat) (V : Bool), m ≤ X.size ∧ j = .int .i64 m ∧ wh = .bool V ∧ Hid (V = (W && !has10 X m)) ∧ wr' = wr) (fun _ j _ => (X.size - intOf j).toNat)
        case atStart => exact ⟨0, W, by omega, rfl, rfl, by show _ = _; rw [has10_zero]; simp, rfl⟩
        case round =>
          obtain ⟨m, V, hm, rfl, rfl, HV, rfl⟩ := hrel
          by_cases hmt : m < X.size
          · have hmt' : (m : Int) < X.size := by omega
            obtain ⟨c, HC⟩ : ∃ c, Hid (bt X m = c) := ⟨_, rfl⟩
            have hga : ∀ (h : m < X.size), ((X[m]'h).toNat : Int) = c := fun h => (hgb m h).trans HC.out
            have HSC : Hid (has10 X (m + 1) = (has10 X m || (c == 10))) := by rw [← HC.out]; exact has10_succ X m
            clear hgb
            cases V with
            | true =>
              by_cases hc10 : c = 10
              · have HV2 : Hid (false = (W && !has10 X (m + 1))) := by show _ = _; rw [HSC.out, hc10]; simp
                subst hc10
                go_wp2
                go_roundw
                case rel => exact ⟨m + 1, false, by omega, by go_num, rfl, HV2.out, by first | rfl | trivial⟩
                case measure => simp [intOf]; omega
              · have q1 : (c == 10) = false := beq_eq_false_iff_ne.2 hc10
                have q2 : (c != 10) = true := bne_iff_ne.2 hc10
                have HV2 : Hid (true = (W && !has10 X (m + 1))) := by show _ = _; rw [HSC.out, q1, Bool.or_false]; exact HV.out
                go_wp2
                go_roundw
                case rel => exact ⟨m + 1, true, by omega, by go_num, rfl, HV2.out, by first | rfl | trivial⟩
                case measure => simp [intOf]; omega
            | false =>
              have HV2 : Hid (false = (W && !has10 X (m + 1))) := by
                show _ = _
                have h := HV.out
                rw [HSC.out]
                revert h
                generalize has10 X m = p
                generalize (c == 10) = q
                cases W <;> cases p <;> cases q <;> decide
              go_wp2
              go_roundw
              case rel => exact ⟨m + 1, false, by omega, by go_num, rfl, HV2.out, by first | rfl | trivial⟩
              case measure => simp [intOf]; omega
          · have hmt' : ¬ (m : Int) < X.size := by omega
            have HV2 : Hid (V = allNo xs (k + 1)) := by
              show _ = _
              rw [HV.out, HSU.out, ← HWK.out, show m = X.size by omega, has10_all]
            clear hgb
            go_wp2
            go_roundw
            case rel => exact ⟨k + 1, V, by omega, by go_num, rfl, HV2.out, by first | rfl | trivial⟩
            case measure => simp [intOf]; omega
      · have hlt' : ¬ (k : Int) < n := by omega
        obtain rfl : k = n := by omega
        obtain rfl : W = g := by rw [HWK.out, HG.out, HN.out]
        clear HWK HG
        have h10 : (⟨#[10]⟩ : ByteArray).size = 1 := rfl
        go_wp2_with fail
        refine (L2.out _).mono ?_
        rintro e w4 ⟨⟨v2, rfl, ht⟩, hb⟩
        have B4 : Hid (Below w.heap.size w w4) := over B3.out hb
        have J3 : Hid (Calls _ _ _ _ _) := J2.out w4 v2 (Texts.reads ht)
        have hv2 : v2.oneCell' = true := by
          rcases ht with ⟨rfl, _⟩ | ⟨g, rfl, _⟩
          · rfl
          · rfl
        clear hb ht L2 J2
        go_wp2_with fail
        refine J3.out.mono ?_
        rintro e w5 ⟨rfl, hb⟩
        have B5 : Hid (Below w.heap.size w w5) := over B4.out hb
        clear hb J3
        go_wp2
        go_ret
        exact ⟨rfl, B5.out⟩
end Go.Proofs.YthblljfkodbbeaaDoor.ye
