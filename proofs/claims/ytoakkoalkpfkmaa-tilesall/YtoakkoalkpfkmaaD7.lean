import Derived.Test.YtoakkoalkpfkmaaD5
namespace Go.Proofs.Ytoakkoalkpfkmaa.d7
open Go.RowKit Go.PlainAid Go.Shelf
open Go.Proofs.Ytoakkoalkpfkmaa.ca Go.Proofs.Ytoakkoalkpfkmaa.cp Go.Proofs.Ytoakkoalkpfkmaa.d1 Go.Proofs.Ytoakkoalkpfkmaa.d2 Go.Proofs.Ytoakkoalkpfkmaa.d5
set_option linter.unusedVariables false

def cntU (F N : Nat) : Nat := if cntL F (rowsL F 0 N) ≤ 65536 then cntL F (rowsL F 0 N) else 65537
set_option maxHeartbeats 1600000 in
theorem rcountC (k N : Nat) (hk1 : 1 ≤ k) (hk : k ≤ 8) (hN : N ≤ 4611686018427387904) (w : World) :
    Calls Try.prog 14 #[.int .i64 (k : Int), .int .i64 (N : Int)] w fun e w' => e = .returned (.int .i64 (cntU (2 ^ k) N : Nat)) ∧ ∃ j, w' = w.drewN j := by
  have hF : 2 ≤ 2 ^ k := by have := p2le hk1; omega
  have HCB : Hid (cntL (2 ^ k) (rowsL (2 ^ k) 0 N) ≤ 9223372036854775807) := cnt_bound hF 0 N hN
  have uk : IntKind.u64.wrap (k : Int) = (k : Int) := u64_is k (by omega)
  obtain ⟨R, HR⟩ : ∃ R, Hid (rowsL (2 ^ k) 0 N = R) := ⟨_, rfl⟩
  obtain ⟨U, HU⟩ : ∃ U, Hid (cntU (2 ^ k) N = U) := ⟨_, rfl⟩
  have HU2 : Hid ((if cntL (2 ^ k) R ≤ 65536 then cntL (2 ^ k) R else 65537) = U) := by rw [← HR.out]; exact HU
  rw [HR.out] at HCB
  rw [HU.out]
  go_enter Try.func14, Try.ntmps14
  go_wp2
  go_loopw [5, 6] (fun p r wr => ∃ (lv : Nat) (pre : List (Nat × Nat)), lv ≤ 63 ∧ p = .int .i64 (cntL (2 ^ k) pre : Nat) ∧ r = .int .i64 lv ∧ Hid (pre ++ rowsL (2 ^ k) lv (N / 2 ^ (lv * k)) = R ∧ pre.length = lv) ∧ ∃ j, wr = w.drewN j) (fun _ r _ => (64 - intOf r).toNat)
  case atStart => exact ⟨0, [], by omega, rfl, rfl, ⟨by rw [Nat.zero_mul, Nat.pow_zero, Nat.div_one]; exact HR.out, rfl⟩, 0, rfl⟩
  case round =>
    obtain ⟨lv, pre, hlv, rfl, rfl, HL, j, rfl⟩ := hrel
    have hcp : cntL (2 ^ k) pre ≤ cntL (2 ^ k) R := by rw [← HL.out.1, cntL_app]; omega
    have HCP : Hid (cntL (2 ^ k) pre ≤ 9223372036854775807) := Nat.le_trans hcp HCB.out
    have ht0 : lv * k ≤ 63 * 8 := Nat.mul_le_mul hlv hk
    have hlk : lv ≤ lv * k := Nat.le_mul_of_pos_right lv hk1
    have hwt : IntKind.i64.wrap ((lv : Int) * (k : Int)) = ((lv * k : Nat) : Int) := by rw [← Int.natCast_mul, IntKind.wrap_i64]; omega
    have hut : IntKind.u64.wrap ((lv * k : Nat) : Int) = ((lv * k : Nat) : Int) := by rw [IntKind.wrap_u64]; omega
    have hn0 : 62 < lv * k → N / 2 ^ (lv * k) = 0 := fun h => row_none hN h
    have hnx : N / 2 ^ (lv * k) / 2 ^ k = N / 2 ^ ((lv + 1) * k) := row_at
    have HNX : Hid (_ = _) := hnx
    have hm9 : N / 2 ^ (lv * k) ≤ N := Nat.div_le_self _ _
    have e1 : (N : Int) / (2 : Int) ^ (lv * k) = ((N / 2 ^ (lv * k) : Nat) : Int) := by rw [cast_pow]; exact (Int.natCast_ediv _ _).symm
    clear hcp hnx
    obtain ⟨t, HT⟩ : ∃ t, Hid (lv * k = t) := ⟨_, rfl⟩
    rw [HT.out] at hwt hut hn0 e1 hm9 ht0 hlk HL HNX
    obtain ⟨m, HM⟩ : ∃ m, Hid (N / 2 ^ t = m) := ⟨_, rfl⟩
    rw [HM.out] at hn0 e1 hm9 HL HNX
    obtain ⟨c, HC⟩ : ∃ c, Hid (cntL (2 ^ k) pre = c) := ⟨_, rfl⟩
    rw [HC.out] at HCP
    rw [HC.out]
    by_cases g : t ≤ 62
    · have g' : (t : Int) ≤ 62 := by omega
      by_cases h0 : 0 < m
      · have h0' : (0 : Int) < (m : Int) := by omega
        have HST : Hid (pre ++ [(lv, m)] ++ rowsL (2 ^ k) (lv + 1) (N / 2 ^ ((lv + 1) * k)) = R ∧ (pre ++ [(lv, m)]).length = lv + 1) := by
          refine ⟨?_, by rw [List.length_append, HL.out.2]; rfl⟩
          rw [← HNX.out, List.append_assoc, List.singleton_append, ← rowsL_step hF h0]
          exact HL.out.1
        have hle : cntL (2 ^ k) (pre ++ [(lv, m)]) ≤ cntL (2 ^ k) R := by rw [← HST.out.1, cntL_app _ (pre ++ [(lv, m)])]; omega
        have hcs : cntL (2 ^ k) (pre ++ [(lv, m)]) = c + (m / 2 ^ k + if m % 2 ^ k = 0 then 0 else 1) := by
          rw [cntL_app, HC.out, cntL_cons, cntL_nil]; rfl
        have HCS : Hid (_ = _) := hcs
        have HLE : Hid (_ ≤ _) := hle
        have hmod := Nat.div_add_mod m (2 ^ k)
        have hlt9 : m % 2 ^ k < 2 ^ k := Nat.mod_lt _ (by omega)
        have e2 : (m : Int) / (2 : Int) ^ k = ((m / 2 ^ k : Nat) : Int) := by rw [cast_pow]; exact (Int.natCast_ediv _ _).symm
        have e3 : IntKind.i64.wrap (((m / 2 ^ k : Nat) : Int) * (2 : Int) ^ k) = ((m / 2 ^ k * 2 ^ k : Nat) : Int) := by
          rw [cast_pow, ← Int.natCast_mul, IntKind.wrap_i64]
          have : m / 2 ^ k * 2 ^ k ≤ m := Nat.div_mul_le_self _ _
          omega
        rw [Nat.mul_comm] at hmod
        have e4 : IntKind.i64.wrap ((m : Int) - ((m / 2 ^ k * 2 ^ k : Nat) : Int)) = ((m % 2 ^ k : Nat) : Int) := by rw [IntKind.wrap_i64]; omega
        have hb := HCB.out
        have hq9 : m / 2 ^ k ≤ m := Nat.div_le_self _ _
        clear hcs hmod hle
        obtain ⟨q, HQ⟩ : ∃ q, Hid (m / 2 ^ k = q) := ⟨_, rfl⟩
        obtain ⟨rr, HRR⟩ : ∃ q, Hid (m % 2 ^ k = q) := ⟨_, rfl⟩
        rw [HQ.out, HRR.out] at HCS
        rw [HRR.out] at e4
        rw [HQ.out] at e2 e3 e4 hq9
        obtain ⟨p, HP⟩ : ∃ p, Hid (q * 2 ^ k = p) := ⟨_, rfl⟩
        rw [HP.out] at e3 e4
        clear hlt9
        by_cases gq : 65536 < q
        · have gq' : (65536 : Int) < (q : Int) := by omega
          have HUU : Hid (U = 65537) := by
            show _ = _
            rw [← HU2.out, if_neg]
            have := HLE.out
            have := HCS.out
            omega
          go_wp2
          go_ret
          exact ⟨by rw [HUU.out]; rfl, j, rfl⟩
        · have gq' : ¬ (65536 : Int) < (q : Int) := by omega
          have hle2 : c + (q + if rr = 0 then 0 else 1) ≤ 9223372036854775807 := by have := HLE.out; have := HCS.out; omega
          have hw1 : IntKind.i64.wrap ((c : Int) + (q : Int)) = ((c + q : Nat) : Int) := by rw [IntKind.wrap_i64]; omega
          by_cases gr : rr = 0
          · have gr' : ¬ (0 : Int) < (rr : Int) := by omega
            rw [if_pos gr] at HCS
            clear gr
            go_wp2
            go_roundw
            case rel => exact ⟨lv + 1, pre ++ [(lv, m)], by omega, by rw [HCS.out]; rfl, by go_num, HST.out, j, rfl⟩
            case measure => simp [intOf]; omega
          · have gr' : (0 : Int) < (rr : Int) := by omega
            rw [if_neg gr] at HCS hle2
            have hw2 : IntKind.i64.wrap (((c + q : Nat) : Int) + 1) = ((c + (q + 1) : Nat) : Int) := by rw [IntKind.wrap_i64]; omega
            clear gr
            go_wp2
            go_roundw
            case rel => exact ⟨lv + 1, pre ++ [(lv, m)], by omega, by rw [HCS.out]; go_num, by go_num, HST.out, j, rfl⟩
            case measure => simp [intOf]; omega
      · have h0' : ¬ (0 : Int) < (m : Int) := by omega
        have hm0 : m = 0 := by omega
        have HE : Hid (U = if c ≤ 65536 then c else 65537) := by
          have h := HL.out.1
          rw [hm0, rowsL_zero, List.append_nil] at h
          show _ = _
          rw [← HU2.out, ← h, HC.out]
        have hc9 := HCP.out
        go_wp2
        all_goals (
          go_ret
          have hE := HE.out
          split at hE
          all_goals first | exact ⟨by rw [show (U : Int) = (c : Int) by omega]; rfl, j, rfl⟩ | exact ⟨by rw [show (U : Int) = 65537 by omega]; rfl, j, rfl⟩)
    · have g' : ¬ (t : Int) ≤ 62 := by omega
      have hm0 : m = 0 := hn0 (by omega)
      have HE : Hid (U = if c ≤ 65536 then c else 65537) := by
        have h := HL.out.1
        rw [hm0, rowsL_zero, List.append_nil] at h
        show _ = _
        rw [← HU2.out, ← h, HC.out]
      have hc9 := HCP.out
      go_wp2
      all_goals (
        go_ret
        have hE := HE.out
        split at hE
        all_goals first | exact ⟨by rw [show (U : Int) = (c : Int) by omega]; rfl, j, rfl⟩ | exact ⟨by rw [show (U : Int) = 65537 by omega]; rfl, j, rfl⟩)
end Go.Proofs.Ytoakkoalkpfkmaa.d7
