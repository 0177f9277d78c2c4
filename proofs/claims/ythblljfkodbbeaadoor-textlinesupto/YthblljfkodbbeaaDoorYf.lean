import Derived.Test.YthblljfkodbbeaaDoorYe
namespace Go.Proofs.YthblljfkodbbeaaDoor.yf
open Go.RowKit Go.PlainAid
open Go.Proofs.YthblljfkodbbeaaDoor.ta Go.Proofs.YthblljfkodbbeaaDoor.tb Go.Proofs.YthblljfkodbbeaaDoor.tc Go.Proofs.YthblljfkodbbeaaDoor.tj Go.Proofs.YthblljfkodbbeaaDoor.va Go.Proofs.YthblljfkodbbeaaDoor.vb Go.Proofs.YthblljfkodbbeaaDoor.vc Go.Proofs.YthblljfkodbbeaaDoor.vd Go.Proofs.YthblljfkodbbeaaDoor.ya Go.Proofs.YthblljfkodbbeaaDoor.yb Go.Proofs.YthblljfkodbbeaaDoor.yc Go.Proofs.YthblljfkodbbeaaDoor.yd Go.Proofs.YthblljfkodbbeaaDoor.ye
set_option linter.unusedVariables false

theorem join_step (xs : List ByteArray) (k : Nat) (h : k < xs.length) : (⟨(joinL (xs.take (k + 1))).toArray⟩ : ByteArray) = ⟨(joinL (xs.take k)).toArray⟩ ++ xs.getD k ByteArray.empty ++ (⟨#[10]⟩ : ByteArray) := by
  have e : xs.take (k + 1) = xs.take k ++ [xs.getD k ByteArray.empty] := by
    rw [List.take_add_one, List.getElem?_eq_getElem h, List.getD_eq_getElem?_getD, List.getElem?_eq_getElem h]
    rfl
  apply bs_inj
  rw [bs_two, bs_two, bs_join, bs_join, bs_10, e, List.map_append, List.flatMap_append, List.append_assoc]
  simp
theorem join_size (xs : List ByteArray) (k : Nat) (h : k ≤ xs.length) : (⟨(joinL (xs.take k)).toArray⟩ : ByteArray).size = tk xs k + k := joinL_length xs k h

set_option maxHeartbeats 1600000 in
theorem rJoin (v : Value) (xs : List ByteArray) (w : World) (hr : Reads w v xs) (hz : tk xs xs.length + xs.length ≤ 1073741824) :
    Calls Tryd.prog 16 #[v] w fun e w' => e = .returned (joinV xs) ∧ w' = w := by
  obtain ⟨a, cap, rfl, hcl⟩ := hr
  have HCL : Hid (xs.length = 0 ∨ ∃ b off, a = some ⟨b, off, none⟩ ∧ ∀ i, i < xs.length → w.cell? ⟨b, off + i, none⟩ = some (.string (xs.getD i ByteArray.empty))) := hcl
  obtain ⟨R, HR⟩ : ∃ R, Hid (joinV xs = R) := ⟨_, rfl⟩
  rw [HR.out]
  have HSZ : Hid (∀ k, k ≤ xs.length → (⟨(joinL (xs.take k)).toArray⟩ : ByteArray).size ≤ 1073741824) := by
    intro k hk
    rw [join_size xs k hk]
    have := tk_mono xs hk
    omega
  have HXZ : Hid (∀ k, k < xs.length → (xs.getD k ByteArray.empty).size ≤ 1073741824) := fun k hk => by
    have := tk_at xs k xs.length hk
    omega
  obtain ⟨n, HN⟩ : ∃ n, Hid (xs.length = n) := ⟨_, rfl⟩
  have hzn : n ≤ 1073741824 := by rw [← HN.out]; omega
  rw [HN.out] at HCL HSZ HXZ ⊢
  have h10 : (⟨#[10]⟩ : ByteArray).size = 1 := rfl
  clear hcl hz
  go_enter Tryd.func16, Tryd.ntmps16
  go_wp2
  go_loopw [4, 5] (fun o i wr => ∃ (k : Nat) (O : ByteArray), k ≤ n ∧ i = .int .i64 k ∧ o = .string O ∧ Hid (O = ⟨(joinL (xs.take k)).toArray⟩ ∧ ∀ j, j < k → nl (xs.getD j ByteArray.empty) = false) ∧ wr = w) (fun _ i _ => (n - intOf i).toNat)
  case atStart => exact ⟨0, ByteArray.empty, by omega, rfl, rfl, ⟨rfl, fun j h => by omega⟩, rfl⟩
  case round =>
    obtain ⟨k, O, hk, rfl, rfl, HL, rfl⟩ := hrel
    have hO : O.size ≤ 1073741824 := by rw [HL.out.1]; exact HSZ.out k hk
    by_cases hlt : k < n
    · have hlt' : (k : Int) < n := by omega
      have hkx : k < xs.length := by rw [HN.out]; exact hlt
      obtain ⟨b, off, rfl, hc⟩ : ∃ b off, a = some ⟨b, off, none⟩ ∧ ∀ i, i < n → wr.cell? ⟨b, off + i, none⟩ = some (.string (xs.getD i ByteArray.empty)) := by
        rcases HCL.out with h | h
        · omega
        · exact h
      have c1 := hc k hlt
      have hXZ := HXZ.out k hlt
      have HST : Hid (_ = _) := join_step xs k hkx
      clear hc
      obtain ⟨X, HX⟩ : ∃ X, Hid (xs.getD k ByteArray.empty = X) := ⟨_, rfl⟩
      rw [HX.out] at c1 hXZ HST
      have hgb := get_bt X
      go_wp2
      go_loopw [6] (fun j wr' => ∃ (m : Nat), m ≤ X.size ∧ j = .int .i64 m ∧ Hid (has10 X m = false) ∧ wr' = wr) (fun j _ => (X.size - intOf j).toNat)
      case atStart => exact ⟨0, by omega, rfl, has10_zero X, rfl⟩
      case round =>
        obtain ⟨m, hm, rfl, HM, rfl⟩ := hrel
        by_cases hmt : m < X.size
        · have hmt' : (m : Int) < X.size := by omega
          obtain ⟨c, HC⟩ : ∃ c, Hid (bt X m = c) := ⟨_, rfl⟩
          have hga : ∀ (h : m < X.size), ((X[m]'h).toNat : Int) = c := fun h => (hgb m h).trans HC.out
          by_cases hc10 : c = 10
          · have HE : Hid (R = .tuple #[.string ByteArray.empty, .int .i64 43]) := by
              show _ = _
              rw [← HR.out]
              unfold joinV
              rw [if_neg]
              intro h
              have h1 := List.all_eq_true.1 h (xs.getD k ByteArray.empty) (by rw [List.getD_eq_getElem?_getD, List.getElem?_eq_getElem hkx]; exact List.getElem_mem hkx)
              have h2 : nl X = true := (nl_iff X).2 (by rw [← hc10, ← HC.out, ← bs_get X m hmt]; exact List.getElem_mem _)
              rw [HX.out, h2] at h1
              exact absurd h1 (by decide)
            subst hc10
            clear hgb
            go_wp2
            go_ret2
            exact ⟨by rw [HE.out]; rfl, rfl⟩
          · have q1 : (c == 10) = false := beq_eq_false_iff_ne.2 hc10
            have HM2 : Hid (has10 X (m + 1) = false) := by show _ = _; rw [has10_succ, HM.out, HC.out, q1]; rfl
            clear hgb
            go_wp2
            go_roundw
            case rel => exact ⟨m + 1, by omega, by go_num, HM2.out, by first | rfl | trivial⟩
            case measure => simp [intOf]; omega
        · have hmt' : ¬ (m : Int) < X.size := by omega
          have HNX : Hid (nl X = false) := by show _ = _; rw [← has10_all, ← show m = X.size by omega]; exact HM.out
          clear hgb
          go_wp2
          go_roundw
          case rel =>
            refine ⟨k + 1, _, by omega, by go_num, rfl, ⟨?_, ?_⟩, by first | rfl | trivial⟩
            · rw [HST.out, ← HL.out.1]
            · intro j hj
              rcases Nat.lt_or_ge j k with g | g
              · exact HL.out.2 j g
              · obtain rfl : j = k := by omega
                rw [HX.out]; exact HNX.out
          case measure => simp [intOf]; omega
    · have hlt' : ¬ (k : Int) < n := by omega
      obtain rfl : k = n := by omega
      have HE : Hid (R = .tuple #[.string O, .int .i64 0]) := by
        show _ = _
        rw [← HR.out]
        unfold joinV
        rw [if_pos]
        · rw [HL.out.1, List.take_of_length_le (by rw [HN.out]; exact Nat.le_refl _)]
        · rw [List.all_eq_true]
          intro x hx
          obtain ⟨i, hi, rfl⟩ := List.getElem_of_mem hx
          have := HL.out.2 i (by rw [← HN.out]; exact hi)
          rw [List.getD_eq_getElem?_getD, List.getElem?_eq_getElem hi] at this
          simp at this
          simp [this]
      go_wp2
      go_ret2
      exact ⟨by rw [HE.out]; rfl, rfl⟩
end Go.Proofs.YthblljfkodbbeaaDoor.yf
