import Derived.Test.YtnnpidjpklfogaaDoorCs
namespace Go.Proofs.YtnnpidjpklfogaaDoor.cc
open Go.RowKit Go.PlainAid
open Go.Proofs.YtnnpidjpklfogaaDoor.ca Go.Proofs.YtnnpidjpklfogaaDoor.cb Go.Proofs.YtnnpidjpklfogaaDoor.cp Go.Proofs.YtnnpidjpklfogaaDoor.cs
set_option linter.unusedVariables false

theorem rgreatest (p hi : Nat) (h : p < hi) (hb : hi ≤ 2 ^ 62) (w : World) :
    Calls Tryd.prog 71 #[.int .i64 p, .int .i64 hi] w fun e w' => e = .returned (.int .i64 (lv p (hi - p) : Nat)) ∧ w' = w := by
  rw [p62] at hb
  have HLV : Hid (Lv p (hi - p) (lv p (hi - p))) := lv_lv p (hi - p) (by omega)
  obtain ⟨R, HR⟩ : ∃ R, Hid (lv p (hi - p) = R) := ⟨_, rfl⟩
  rw [HR.out] at HLV ⊢
  clear HR
  go_enter Tryd.func71, Tryd.ntmps71
  go_wp2
  go_loopw [5] (fun i wr => ∃ k : Nat, i = .int .i64 k ∧ Hid (k ≤ 62 ∧ 2 ^ k ∣ p ∧ 2 ^ k ≤ hi - p) ∧ wr = w) (fun i _ => (62 - intOf i).toNat)
  case atStart => exact ⟨0, rfl, ⟨by omega, Nat.one_dvd _, by show 1 ≤ _; omega⟩, rfl⟩
  case round =>
    obtain ⟨k, rfl, HK, rfl⟩ := hrel
    have hk := HK.out.1
    by_cases h62 : k < 62
    · have h62' : (k : Int) < 62 := by omega
      obtain ⟨t, HT⟩ : ∃ t : Nat, Hid (2 ^ k = t) := ⟨_, rfl⟩
      have hT : (2 : Int) ^ k = (t : Int) := by rw [cast_pow, HT.out]
      have htb : t ≤ 2305843009213693952 := by
        rw [← HT.out]
        exact Nat.le_trans (p2le (show k ≤ 61 by omega)) (by decide)
      have ht0 : 0 < t := by rw [← HT.out]; exact p2 k
      have HS : Hid (2 ^ (k + 1) = 2 * t) := by show _ = _; rw [p2s, HT.out]
      by_cases hd : 2 * t ∣ p
      · have hd' : ((p : Int) % (2 * (t : Int)) == 0) = true := by
          rw [beq_iff_eq]
          exact Int.emod_eq_zero_of_dvd (by exact_mod_cast Int.natCast_dvd_natCast.2 hd)
        by_cases hle : 2 * t ≤ hi - p
        · have hle' : 2 * (t : Int) ≤ (hi : Int) - p := by omega
          have HK2 : Hid (k + 1 ≤ 62 ∧ 2 ^ (k + 1) ∣ p ∧ 2 ^ (k + 1) ≤ hi - p) := by
            rw [HS.out]
            exact ⟨by omega, hd, hle⟩
          clear hd
          go_wp2
          go_roundw
          case rel => exact ⟨k + 1, by go_num, HK2.out, by first | rfl | trivial⟩
          case measure => simp [intOf]; omega
        · have hle' : ¬ 2 * (t : Int) ≤ (hi : Int) - p := by omega
          have HE : Hid (k = R) := Lv.unique ⟨HK.out.1, HK.out.2.1, HK.out.2.2, .inr (.inr (by rw [HS.out]; omega))⟩ HLV.out
          clear hd
          go_wp2
          go_ret
          exact ⟨by rw [HE.out]; rfl, rfl⟩
      · have hd' : ((p : Int) % (2 * (t : Int)) == 0) = false := by
          rw [beq_eq_false_iff_ne]
          intro e
          exact hd (by
            have := Int.dvd_of_emod_eq_zero e
            exact Int.natCast_dvd_natCast.1 (by simpa using this))
        have HE : Hid (k = R) := Lv.unique ⟨HK.out.1, HK.out.2.1, HK.out.2.2, .inr (.inl (by rw [HS.out]; exact hd))⟩ HLV.out
        clear hd
        go_wp2
        go_ret
        exact ⟨by rw [HE.out]; rfl, rfl⟩
    · have h62' : ¬ (k : Int) < 62 := by omega
      have HE : Hid (k = R) := Lv.unique ⟨HK.out.1, HK.out.2.1, HK.out.2.2, .inl (by omega)⟩ HLV.out
      go_wp2
      go_ret
      exact ⟨by rw [HE.out]; rfl, rfl⟩
end Go.Proofs.YtnnpidjpklfogaaDoor.cc
