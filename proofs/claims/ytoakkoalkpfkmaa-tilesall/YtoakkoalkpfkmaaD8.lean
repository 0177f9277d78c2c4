import Derived.Test.YtoakkoalkpfkmaaD6
import Derived.Test.YtoakkoalkpfkmaaD7
namespace Go.Proofs.Ytoakkoalkpfkmaa.d8
open Go.RowKit Go.PlainAid Go.Shelf
open Go.Proofs.Ytoakkoalkpfkmaa.ca Go.Proofs.Ytoakkoalkpfkmaa.cp Go.Proofs.Ytoakkoalkpfkmaa.d1 Go.Proofs.Ytoakkoalkpfkmaa.d2 Go.Proofs.Ytoakkoalkpfkmaa.d5 Go.Proofs.Ytoakkoalkpfkmaa.d6 Go.Proofs.Ytoakkoalkpfkmaa.d7
set_option linter.unusedVariables false
set_option linter.unusedSimpArgs false

set_option maxHeartbeats 3200000 in
theorem rall_yes (k N : Nat) (hk1 : 1 ≤ k) (hk : k ≤ 8) (hN : N ≤ 4611686018427387904) (hM : cntL (2 ^ k) (rowsL (2 ^ k) 0 N) ≤ 65536) (w : World) :
    Calls Try.prog 5 #[.int .i64 (k : Int), .int .i64 (N : Int)] w fun e w' => (∃ v, e = .returned (.tuple #[v, .int .i64 0]) ∧ w'.ownsRow w.heap.size 31 4 v (cntL (2 ^ k) (rowsL (2 ^ k) 0 N)) (cl4s (tilesL k (2 ^ k) (rowsL (2 ^ k) 0 N)))) ∧ Below w.heap.size w w' := by
  obtain ⟨iA, hi', hz0, hz1, hz2⟩ := parts4 hi4
  have hF : 2 ≤ 2 ^ k := by have := p2le hk1; omega
  have HCC : Hid (∀ w, Calls _ _ _ _ _) := fun w => rcountC k N hk1 hk hN w
  have eU : cntU (2 ^ k) N = cntL (2 ^ k) (rowsL (2 ^ k) 0 N) := by unfold cntU; rw [if_pos hM]
  rw [eU] at HCC
  have HMB : Hid (cntL (2 ^ k) (rowsL (2 ^ k) 0 N) ≤ 65536) := hM
  have uk : IntKind.u64.wrap (k : Int) = (k : Int) := u64_is k (by omega)
  have q1 : ¬ (k : Int) < 1 := by omega
  have q2 : ¬ (k : Int) > 8 := by omega
  have q3 : ¬ (N : Int) < 0 := by omega
  have q4 : ¬ (N : Int) > 4611686018427387904 := by omega
  obtain ⟨R, HR⟩ : ∃ R, Hid (rowsL (2 ^ k) 0 N = R) := ⟨_, rfl⟩
  rw [HR.out] at HCC HMB ⊢
  obtain ⟨cN, HCN⟩ : ∃ c, Hid (cntL (2 ^ k) R = c) := ⟨_, rfl⟩
  rw [HCN.out] at HCC HMB ⊢
  have q5 : ¬ (cN : Int) > 65536 := by have := HMB.out; omega
  clear hM eU
  go_enter Try.func5, Try.ntmps5
  go_wp2_with fail
  refine (HCC.out _).mono ?_
  rintro e w1 ⟨rfl, j1, rfl⟩
  go_wp2
  go_loopw [6, 7] (fun o r wr => ∃ (lv : Nat) (pre : List (Nat × Nat)), lv ≤ 63 ∧ r = .int .i64 lv ∧ Hid (pre ++ rowsL (2 ^ k) lv (N / 2 ^ (lv * k)) = R ∧ pre.length = lv ∧ wr.ownsRow w.heap.size 31 4 o (tilesL k (2 ^ k) pre).length (cl4s (tilesL k (2 ^ k) pre)) ∧ Below w.heap.size w wr)) (fun _ r _ => (64 - intOf r).toNat)
  case atStart => exact ⟨0, [], by omega, rfl, by rw [Nat.zero_mul, Nat.pow_zero, Nat.div_one]; exact HR.out, rfl, World.ownsRow_nil _ _ _ _, below_dN (Below.refl _ _) _⟩
  case round =>
    obtain ⟨lv, pre, hlv, rfl, HL⟩ := hrel
    have ht0 : lv * k ≤ 63 * 8 := Nat.mul_le_mul hlv hk
    have hlk : lv ≤ lv * k := Nat.le_mul_of_pos_right lv hk1
    have hwt : IntKind.i64.wrap ((lv : Int) * (k : Int)) = ((lv * k : Nat) : Int) := by rw [← Int.natCast_mul, IntKind.wrap_i64]; omega
    have hut : IntKind.u64.wrap ((lv * k : Nat) : Int) = ((lv * k : Nat) : Int) := by rw [IntKind.wrap_u64]; omega
    have hn0 : 62 < lv * k → N / 2 ^ (lv * k) = 0 := fun h => row_none hN h
    have HNX : Hid (N / 2 ^ (lv * k) / 2 ^ k = N / 2 ^ ((lv + 1) * k)) := row_at
    have hm9 : N / 2 ^ (lv * k) ≤ N := Nat.div_le_self _ _
    have e1 : (N : Int) / (2 : Int) ^ (lv * k) = ((N / 2 ^ (lv * k) : Nat) : Int) := by rw [cast_pow]; exact (Int.natCast_ediv _ _).symm
    obtain ⟨t, HT⟩ : ∃ t, Hid (lv * k = t) := ⟨_, rfl⟩
    rw [HT.out] at hwt hut hn0 e1 hm9 ht0 hlk HL HNX
    obtain ⟨m, HM⟩ : ∃ m, Hid (N / 2 ^ t = m) := ⟨_, rfl⟩
    rw [HM.out] at hn0 e1 hm9 HL HNX
    by_cases g : t ≤ 62
    · have g' : (t : Int) ≤ 62 := by omega
      by_cases h0 : 0 < m
      · have h0' : (0 : Int) < (m : Int) := by omega
        have HST : Hid (pre ++ [(lv, m)] ++ rowsL (2 ^ k) (lv + 1) (N / 2 ^ ((lv + 1) * k)) = R ∧ (pre ++ [(lv, m)]).length = lv + 1) := by
          refine ⟨?_, by rw [List.length_append, HL.out.2.1]; rfl⟩
          rw [← HNX.out, List.append_assoc, List.singleton_append, ← rowsL_step hF h0]
          exact HL.out.1
        have hle : cntL (2 ^ k) (pre ++ [(lv, m)]) ≤ 65536 := by
          have := HMB.out
          rw [← HCN.out, ← HST.out.1, cntL_app _ (pre ++ [(lv, m)])] at this
          omega
        have HTS : Hid (tilesL k (2 ^ k) (pre ++ [(lv, m)]) = tilesL k (2 ^ k) pre ++ fullL k (2 ^ k) lv (m / 2 ^ k) ++ restL k (2 ^ k) lv m) := by show _ = _; rw [tilesL_snoc, List.append_assoc]; rfl
        have hln : (tilesL k (2 ^ k) (pre ++ [(lv, m)])).length ≤ 65536 := by rw [tilesL_len]; exact hle
        have HLN : Hid (_ ≤ _) := hln
        clear hln
        have HO : Hid (_ ∧ _) := HL.out.2.2
        obtain ⟨L, HLL⟩ : ∃ L, Hid (tilesL k (2 ^ k) pre = L) := ⟨_, rfl⟩
        rw [HLL.out] at HTS HO
        have hmod := Nat.div_add_mod m (2 ^ k)
        have hlt9 : m % 2 ^ k < 2 ^ k := Nat.mod_lt _ (by omega)
        have e2 : (m : Int) / (2 : Int) ^ k = ((m / 2 ^ k : Nat) : Int) := by rw [cast_pow]; exact (Int.natCast_ediv _ _).symm
        have e3 : IntKind.i64.wrap (((m / 2 ^ k : Nat) : Int) * (2 : Int) ^ k) = ((m / 2 ^ k * 2 ^ k : Nat) : Int) := by
          rw [cast_pow, ← Int.natCast_mul, IntKind.wrap_i64]
          have : m / 2 ^ k * 2 ^ k ≤ m := Nat.div_mul_le_self _ _
          omega
        rw [Nat.mul_comm] at hmod
        have e4 : IntKind.i64.wrap ((m : Int) - ((m / 2 ^ k * 2 ^ k : Nat) : Int)) = ((m % 2 ^ k : Nat) : Int) := by rw [IntKind.wrap_i64]; omega
        have hq9 : m / 2 ^ k ≤ 65536 := by
          have h9 : cntL (2 ^ k) (pre ++ [(lv, m)]) = cntL (2 ^ k) pre + (m / 2 ^ k + if m % 2 ^ k = 0 then 0 else 1) := by rw [cntL_app, cntL_cons, cntL_nil]; rfl
          omega
        have hp2 : IntKind.i64.wrap ((2 : Int) ^ k) = ((2 ^ k : Nat) : Int) := by
          have := pow_int (show k ≤ 62 by omega)
          rwa [Int.toNat_natCast, Nat.min_eq_left (by omega), Int.one_mul] at this
        have HRS : Hid (restL k (2 ^ k) lv m = if m % 2 ^ k = 0 then [] else [((k : Int), (lv : Int), ((m / 2 ^ k : Nat) : Int), ((m % 2 ^ k : Nat) : Int))]) := rfl
        rw [HRS.out] at HTS
        clear hmod hlt9 hle HRS
        obtain ⟨q, HQ⟩ : ∃ q, Hid (m / 2 ^ k = q) := ⟨_, rfl⟩
        obtain ⟨rr, HRR⟩ : ∃ q, Hid (m % 2 ^ k = q) := ⟨_, rfl⟩
        rw [HQ.out, HRR.out] at HTS
        rw [HRR.out] at e4
        rw [HQ.out] at e2 e3 e4 hq9
        obtain ⟨p, HP⟩ : ∃ p, Hid (q * 2 ^ k = p) := ⟨_, rfl⟩
        rw [HP.out] at e3 e4
        obtain ⟨F, HFF⟩ : ∃ F : Nat, Hid ((2 : Nat) ^ k = F) := ⟨_, rfl⟩
        have HTS2 : Hid (tilesL k (2 ^ k) (pre ++ [(lv, m)]) = L ++ fullL k F lv q ++ if rr = 0 then [] else [((k : Int), (lv : Int), (q : Int), (rr : Int))]) := by rw [← HFF.out]; exact HTS
        rw [HFF.out] at hp2
        have hfl : L.length + q ≤ 65536 := by
          have := HLN.out
          rw [HTS2.out, List.length_append, List.length_append, fullL_len] at this
          omega
        clear HTS
        go_wp2
        go_loopw [6, 10] (fun o p wr => ∃ (i : Nat), i ≤ q ∧ p = .int .i64 i ∧ Hid (wr.ownsRow w.heap.size 31 4 o (L ++ fullL k F lv i).length (cl4s (L ++ fullL k F lv i)) ∧ Below w.heap.size w wr)) (fun _ p _ => (q - intOf p).toNat)
        case atStart => exact ⟨0, Nat.zero_le _, rfl, by rw [fullL_zero, List.append_nil]; exact HO.out⟩
        case round =>
          clear HO HL
          obtain ⟨i, hi, rfl, HL⟩ := hrel
          by_cases hlt2 : i < q
          · have hlt3 : (i : Int) < (q : Int) := by omega
            have HFS : Hid (fullL k F lv (i + 1) = _) := fullL_succ k F lv i
            have hll : (L ++ fullL k F lv i).length ≤ 65536 := by rw [List.length_append, fullL_len]; omega
            obtain ⟨L', HL'⟩ : ∃ L', Hid (L ++ fullL k F lv i = L') := ⟨_, rfl⟩
            rw [HL'.out] at HL hll
            obtain ⟨ln, HLN2⟩ : ∃ n, Hid (L'.length = n) := ⟨_, rfl⟩
            rw [HLN2.out] at HL hll
            have HO1 : Hid ((wr.alloc (.cells #[.int .i64 (k : Int), .int .i64 (lv : Int), .int .i64 (i : Int), .int .i64 (F : Int)] 31)).ownsRow w.heap.size 31 4 u6 ln (cl4s L')) := HL.out.1.alloc _
            have HB1 : Hid (Below w.heap.size w (wr.alloc (.cells #[.int .i64 (k : Int), .int .i64 (lv : Int), .int .i64 (i : Int), .int .i64 (F : Int)] 31))) := HL.out.2.alloc HL.out.2.size _
            go_wp2_with (at_builtin; refine wpList_append_own _ rfl _ _ 22 rfl w.heap.size 31 iA (.agg #[.int .i64 0, .int .i64 0, .int .i64 0, .int .i64 0]) 4 32 Try.underlying22 hi' hz0 hz1 hz2 rfl (by decide) _ ln _ rfl HO1.out ⟨wr.heap.size, 0, none⟩ 1 1 [.int .i64 (k : Int), .int .i64 (lv : Int), .int .i64 (i : Int), .int .i64 (F : Int)] rfl rfl (four_cells _ _ _ _ _ _) (four_one ((k : Int), (lv : Int), (i : Int), (F : Int))) (by unfold maxLen; omega) (by omega) HB1.out.size ?_; intro v' w3 hown' hgrow3 hnil3; have HO3 : Hid (World.ownsRow _ _ _ _ _ _ _) := hown'; have HB3 : Hid (Below w.heap.size w w3) := Below.grown HB1.out hgrow3 HB1.out.size (fun j hj => (HO1.out.lt _ hj).1); clear hown' hgrow3 hnil3)
            go_roundw
            case rel =>
              refine ⟨i + 1, by omega, by go_num, ?_, HB3.out⟩
              rw [HFS.out, ← List.append_assoc, HL'.out, List.length_append, HLN2.out, cl4s_app]
              exact HO3.out
            case measure => simp [intOf]; omega
          · have hlt3 : ¬ (i : Int) < (q : Int) := by omega
            obtain rfl : i = q := by omega
            have hll : (L ++ fullL k F lv i).length ≤ 65536 := by rw [List.length_append, fullL_len]; omega
            obtain ⟨L', HL'⟩ : ∃ L', Hid (L ++ fullL k F lv i = L') := ⟨_, rfl⟩
            rw [HL'.out] at HL hll HTS2
            obtain ⟨ln, HLN2⟩ : ∃ n, Hid (L'.length = n) := ⟨_, rfl⟩
            rw [HLN2.out] at HL hll
            by_cases gr : rr = 0
            · have gr' : ¬ (0 : Int) < (rr : Int) := by omega
              rw [if_pos gr, List.append_nil] at HTS2
              clear gr
              go_wp2
              go_roundw
              case rel => exact ⟨lv + 1, pre ++ [(lv, m)], by omega, by go_num, HST.out.1, HST.out.2, by rw [HTS2.out, HLN2.out]; exact HL.out.1, HL.out.2⟩
              case measure => simp [intOf]; omega
            · have gr' : (0 : Int) < (rr : Int) := by omega
              rw [if_neg gr] at HTS2
              clear gr
              have HO1 : Hid ((wr.alloc (.cells #[.int .i64 (k : Int), .int .i64 (lv : Int), .int .i64 (i : Int), .int .i64 (rr : Int)] 31)).ownsRow w.heap.size 31 4 u6 ln (cl4s L')) := HL.out.1.alloc _
              have HB1 : Hid (Below w.heap.size w (wr.alloc (.cells #[.int .i64 (k : Int), .int .i64 (lv : Int), .int .i64 (i : Int), .int .i64 (rr : Int)] 31))) := HL.out.2.alloc HL.out.2.size _
              go_wp2_with (at_builtin; refine wpList_append_own _ rfl _ _ 22 rfl w.heap.size 31 iA (.agg #[.int .i64 0, .int .i64 0, .int .i64 0, .int .i64 0]) 4 32 Try.underlying22 hi' hz0 hz1 hz2 rfl (by decide) _ ln _ rfl HO1.out ⟨wr.heap.size, 0, none⟩ 1 1 [.int .i64 (k : Int), .int .i64 (lv : Int), .int .i64 (i : Int), .int .i64 (rr : Int)] rfl rfl (four_cells _ _ _ _ _ _) (four_one ((k : Int), (lv : Int), (i : Int), (rr : Int))) (by unfold maxLen; omega) (by omega) HB1.out.size ?_; intro v' w3 hown' hgrow3 hnil3; have HO3 : Hid (World.ownsRow _ _ _ _ _ _ _) := hown'; have HB3 : Hid (Below w.heap.size w w3) := Below.grown HB1.out hgrow3 HB1.out.size (fun j hj => (HO1.out.lt _ hj).1); clear hown' hgrow3 hnil3)
              go_roundw
              case rel =>
                refine ⟨lv + 1, pre ++ [(lv, m)], by omega, by go_num, HST.out.1, HST.out.2, ?_, HB3.out⟩
                rw [HTS2.out, List.length_append, HLN2.out, cl4s_app]
                exact HO3.out
              case measure => simp [intOf]; omega
      · have h0' : ¬ (0 : Int) < (m : Int) := by omega
        have hm0 : m = 0 := by omega
        have HE : Hid (pre = R) := by
          have h := HL.out.1
          rw [hm0, rowsL_zero, List.append_nil] at h
          exact h
        go_wp2
        go_ret2
        exact ⟨⟨_, rfl, by have := HL.out.2.2.1; rw [HE.out, tilesL_len, HCN.out] at this; exact this⟩, HL.out.2.2.2⟩
    · have g' : ¬ (t : Int) ≤ 62 := by omega
      have hm0 : m = 0 := hn0 (by omega)
      have HE : Hid (pre = R) := by
        have h := HL.out.1
        rw [hm0, rowsL_zero, List.append_nil] at h
        exact h
      go_wp2
      go_ret2
      exact ⟨⟨_, rfl, by have := HL.out.2.2.1; rw [HE.out, tilesL_len, HCN.out] at this; exact this⟩, HL.out.2.2.2⟩
theorem rall_no (h n : Int) (g : ¬ okH h n) (w : World) :
    Calls Try.prog 5 #[.int .i64 h, .int .i64 n] w fun e w' => e = .returned (.tuple #[.slice none 0 0, .int .i64 10]) ∧ Below w.heap.size w w' := by
  unfold okH at g
  by_cases a1 : h < 1
  · clear g
    go_enter Try.func5, Try.ntmps5
    go_wp2
    go_ret2
    exact ⟨rfl, by first | exact Below.refl _ _ | exact below_dN (Below.refl _ _) _⟩
  · by_cases a2 : h > 8
    · clear g
      go_enter Try.func5, Try.ntmps5
      go_wp2
      go_ret2
      exact ⟨rfl, by first | exact Below.refl _ _ | exact below_dN (Below.refl _ _) _⟩
    · by_cases a3 : n < 0
      · clear g
        go_enter Try.func5, Try.ntmps5
        go_wp2
        go_ret2
        exact ⟨rfl, by first | exact Below.refl _ _ | exact below_dN (Below.refl _ _) _⟩
      · have a4 : n > 4611686018427387904 := by omega
        clear g
        go_enter Try.func5, Try.ntmps5
        go_wp2
        go_ret2
        exact ⟨rfl, by first | exact Below.refl _ _ | exact below_dN (Below.refl _ _) _⟩
theorem rall_many (k N : Nat) (hk1 : 1 ≤ k) (hk : k ≤ 8) (hN : N ≤ 4611686018427387904) (hM : ¬ cntL (2 ^ k) (rowsL (2 ^ k) 0 N) ≤ 65536) (w : World) :
    Calls Try.prog 5 #[.int .i64 (k : Int), .int .i64 (N : Int)] w fun e w' => e = .returned (.tuple #[.slice none 0 0, .int .i64 83]) ∧ Below w.heap.size w w' := by
  have HCC : Hid (∀ w, Calls _ _ _ _ _) := fun w => rcountC k N hk1 hk hN w
  have eU : cntU (2 ^ k) N = 65537 := by unfold cntU; rw [if_neg hM]
  rw [eU] at HCC
  have q1 : ¬ (k : Int) < 1 := by omega
  have q2 : ¬ (k : Int) > 8 := by omega
  have q3 : ¬ (N : Int) < 0 := by omega
  have q4 : ¬ (N : Int) > 4611686018427387904 := by omega
  clear hM eU
  go_enter Try.func5, Try.ntmps5
  go_wp2_with fail
  refine (HCC.out _).mono ?_
  rintro e w1 ⟨rfl, j1, rfl⟩
  go_wp2
  go_ret2
  exact ⟨rfl, below_dN (Below.refl _ _) _⟩
theorem rallC (h n : Int) : Gives 5 h n := by
  intro w
  by_cases g : okH h n
  · obtain ⟨k, rfl⟩ : ∃ k : Nat, h = k := ⟨h.toNat, by have := g.1; omega⟩
    obtain ⟨N, rfl⟩ : ∃ N : Nat, n = N := ⟨n.toNat, by have := g.2.2.1; omega⟩
    obtain ⟨g1, g2, g3, g4⟩ := g
    have eM : manyI (k : Int) (N : Int) = cntL (2 ^ k) (rowsL (2 ^ k) 0 N) := rfl
    by_cases gm : cntL (2 ^ k) (rowsL (2 ^ k) 0 N) ≤ 65536
    · refine (rall_yes k N (by omega) (by omega) (by omega) gm w).mono ?_
      rintro e w' ⟨⟨v, rfl, ho⟩, hb⟩
      have e1 : allE (k : Int) (N : Int) = 0 := by unfold allE; rw [if_pos ⟨g1, g2, g3, g4⟩, eM, if_pos gm]
      have e2 : allI (k : Int) (N : Int) = tilesL k (2 ^ k) (rowsL (2 ^ k) 0 N) := by unfold allI; rw [if_pos ⟨⟨g1, g2, g3, g4⟩, by rw [eM]; exact gm⟩]; rfl
      refine ⟨⟨v, by rw [e1], ?_⟩, hb⟩
      rw [e2, tilesL_len]
      exact ho
    · refine (rall_many k N (by omega) (by omega) (by omega) gm w).mono ?_
      rintro e w' ⟨rfl, hb⟩
      have e1 : allE (k : Int) (N : Int) = 83 := by unfold allE; rw [if_pos ⟨g1, g2, g3, g4⟩, eM, if_neg gm]
      rw [all_refused (fun x => gm (by rw [← eM]; exact x.2))]
      exact ⟨⟨_, by rw [e1], World.ownsRow_nil _ _ _ _⟩, hb⟩
  · have e1 : allE h n = 10 := by unfold allE; rw [if_neg g]
    have e2 : allI h n = [] := all_refused (fun x => g x.1)
    rw [e2]
    refine (rall_no h n g w).mono ?_
    rintro e w' ⟨rfl, hb⟩
    exact ⟨⟨_, by rw [e1], World.ownsRow_nil _ _ _ _⟩, hb⟩
end Go.Proofs.Ytoakkoalkpfkmaa.d8
