import Derived.Test.YthpfgdhmpeadeaaDoorG1
namespace Go.Proofs.YthpfgdhmpeadeaaDoor.cc
open Go.RowKit Go.PlainAid
open Go.Proofs.YthpfgdhmpeadeaaDoor.ca Go.Proofs.YthpfgdhmpeadeaaDoor.cb Go.Proofs.YthpfgdhmpeadeaaDoor.cp Go.Proofs.YthpfgdhmpeadeaaDoor.cs
set_option linter.unusedVariables false

theorem rgreatest (p hi : Nat) (h : p < hi) (hb : hi ≤ 2 ^ 62) (w : World) :
    Calls Tryd.prog 60 #[.int .i64 p, .int .i64 hi] w fun e w' => e = .returned (.int .i64 (lv p (hi - p) : Nat)) ∧ w' = w := by
  rw [p62] at hb
  have HLV : Hid (Lv p (hi - p) (lv p (hi - p))) := lv_lv p (hi - p) (by omega)
  obtain ⟨R, HR⟩ : ∃ R, Hid (lv p (hi - p) = R) := ⟨_, rfl⟩
  rw [HR.out] at HLV ⊢
  clear HR
  go_enter Tryd.func60, Tryd.ntmps60
  go_wp2
  go_loopw [5] (fun i wr => ∃ k : Nat, i = .int .i64 k ∧ Hid (k ≤ 62 ∧ 2 ^ k ∣ p ∧ 2 ^ k ≤ hi - p) ∧ wr = w) (fun i _ => (62 - intOf i).toNat)
  case atStart => exact ⟨0, rfl, ⟨by omega, Nat.one_dvd _, by show 1 ≤ _; omega⟩, rfl⟩
  case round =>
    obtain ⟨k, rfl, HK, rfl⟩ := hrel
    have hk := HK.out.1
    by_cases h62 : k < 62
    · have h62' : (k : Int) < 62 := by omega
      obtain ⟨t, HT⟩ : ∃ t : Nat, Hid (2 ^ k = t) := ⟨_, rfl⟩
      have hT : (2 : Int) ^ k = (t : Int) := by rw [cast_pow, HT.out]
      have htb : t ≤ 2305843009213693952 := by
        rw [← HT.out]
        exact Nat.le_trans (p2le (show k ≤ 61 by omega)) (by decide)
      have ht0 : 0 < t := by rw [← HT.out]; exact p2 k
      have HS : Hid (2 ^ (k + 1) = 2 * t) := by show _ = _; rw [p2s, HT.out]
      by_cases hd : 2 * t ∣ p
      · have hd' : ((p : Int) % (2 * (t : Int)) == 0) = true := by
          rw [beq_iff_eq]
          exact Int.emod_eq_zero_of_dvd (by exact_mod_cast Int.natCast_dvd_natCast.2 hd)
        by_cases hle : 2 * t ≤ hi - p
        · have hle' : 2 * (t : Int) ≤ (hi : Int) - p := by omega
          have HK2 : Hid (k + 1 ≤ 62 ∧ 2 ^ (k + 1) ∣ p ∧ 2 ^ (k + 1) ≤ hi - p) := by
            rw [HS.out]
            exact ⟨by omega, hd, hle⟩
          clear hd
          go_wp2
          go_roundw
          case rel => exact ⟨k + 1, by go_num, HK2.out, by first | rfl | trivial⟩
          case measure => simp [intOf]; omega
        · have hle' : ¬ 2 * (t : Int) ≤ (hi : Int) - p := by omega
          have HE : Hid (k = R) := Lv.unique ⟨HK.out.1, HK.out.2.1, HK.out.2.2, .inr (.inr (by rw [HS.out]; omega))⟩ HLV.out
          clear hd
          go_wp2
          go_ret
          exact ⟨by rw [HE.out]; rfl, rfl⟩
      · have hd' : ((p : Int) % (2 * (t : Int)) == 0) = false := by
          rw [beq_eq_false_iff_ne]
          intro e
          exact hd (by
            have := Int.dvd_of_emod_eq_zero e
            exact Int.natCast_dvd_natCast.1 (by simpa using this))
        have HE : Hid (k = R) := Lv.unique ⟨HK.out.1, HK.out.2.1, HK.out.2.2, .inr (.inl (by rw [HS.out]; exact hd))⟩ HLV.out
        clear hd
        go_wp2
        go_ret
        exact ⟨by rw [HE.out]; rfl, rfl⟩
    · have h62' : ¬ (k : Int) < 62 := by omega
      have HE : Hid (k = R) := Lv.unique ⟨HK.out.1, HK.out.2.1, HK.out.2.2, .inl (by omega)⟩ HLV.out
      go_wp2
      go_ret
      exact ⟨by rw [HE.out]; rfl, rfl⟩
end Go.Proofs.YthpfgdhmpeadeaaDoor.cc

namespace Go.Proofs.YthpfgdhmpeadeaaDoor.cd
open Go.RowKit Go.PlainAid
open Go.Proofs.YthpfgdhmpeadeaaDoor.ca Go.Proofs.YthpfgdhmpeadeaaDoor.cb Go.Proofs.YthpfgdhmpeadeaaDoor.cp Go.Proofs.YthpfgdhmpeadeaaDoor.cs Go.Proofs.YthpfgdhmpeadeaaDoor.cc
set_option linter.unusedVariables false

set_option maxHeartbeats 1600000 in
theorem rCover (lo hi : Int) (h0 : -9223372036854775808 ≤ lo) (h1 : lo ≤ 9223372036854775807) (h2 : -9223372036854775808 ≤ hi) (h3 : hi ≤ 9223372036854775807) (w : World) :
    Calls Tryd.prog 35 #[.int .i64 lo, .int .i64 hi] w fun e w' => Rowed w w' e lo hi ∧ Below w.heap.size w w' := by
  by_cases hok : okR lo hi
  · obtain ⟨p0, rfl⟩ : ∃ p : Nat, lo = p := ⟨lo.toNat, by have := hok.1; omega⟩
    obtain ⟨n, rfl⟩ : ∃ n : Nat, hi = n := ⟨hi.toNat, by have := hok.1; have := hok.2.1; omega⟩
    have hn : n ≤ 4611686018427387904 := by have := hok.2.2; omega
    have hpn : p0 ≤ n := by have := hok.2.1; omega
    have HI : Hid (covI p0 n = cov p0 n) := by show _ = _; unfold covI; rw [if_pos hok]; rfl
    have HE : Hid (covE p0 n = 0) := by show _ = _; unfold covE; rw [if_pos hok]
    have HLN : Hid ((cov p0 n).length ≤ 122) := by have := covI_len p0 n; rw [HI.out] at this; exact this
    obtain ⟨iA, hi, hz0, hz1, hz2⟩ := info_parts hiA
    have HIN : Hid (_ ∧ _ ∧ _ ∧ _) := ⟨hi, hz0, hz1, hz2⟩
    have G : Hid (∀ (p : Nat) (w : World), p < n → Calls Tryd.prog 60 #[.int .i64 p, .int .i64 n] w fun e w' => e = .returned (.int .i64 (lv p (n - p) : Nat)) ∧ w' = w) := fun p w hp => rgreatest p n hp (by rw [p62]; exact hn) w
    have t1 : ¬ (p0 : Int) < 0 := by omega
    have t2 : ¬ (n : Int) < p0 := by omega
    have t3 : ¬ (n : Int) > 4611686018427387904 := by omega
    clear hi hz0 hz1 hz2 hok
    go_enter Tryd.func35, Tryd.ntmps35
    go_wp2
    go_loopw [6, 7] (fun o i wr => ∃ (q : Nat) (done : List (Nat × Nat)), q ≤ n ∧ i = .int .i64 q ∧ Hid (done ++ cov q n = cov p0 n ∧ wr.ownsRow w.heap.size 98 2 o done.length (cls done) ∧ Below w.heap.size w wr)) (fun _ i _ => (n - intOf i).toNat)
    case atStart => exact ⟨p0, [], hpn, rfl, rfl, World.ownsRow_nil _ _ _ _, Below.refl _ _⟩
    case round =>
      obtain ⟨q, done, hq, rfl, HL⟩ := hrel
      by_cases hlt : q < n
      · have hlt' : (q : Int) < n := by omega
        have HLV := lv_lv q (n - q) (by omega)
        obtain ⟨k, HK⟩ : ∃ k, Hid (lv q (n - q) = k) := ⟨_, rfl⟩
        rw [HK.out] at HLV
        have hk := HLV.1
        obtain ⟨t, HT⟩ : ∃ t : Nat, Hid (2 ^ k = t) := ⟨_, rfl⟩
        have hT : (2 : Int) ^ k = (t : Int) := by rw [cast_pow, HT.out]
        have htn : q + t ≤ n := by have := HLV.2.2.1; rw [HT.out] at this; omega
        have ht0 : 0 < t := by rw [← HT.out]; exact p2 k
        have HC : Hid (cov q n = (k, q / t) :: cov (q + t) n) := by
          show _ = _
          rw [cov_at hlt HLV, HT.out]
        have hdl : done.length ≤ 121 := by
          have := HLN.out
          rw [← HL.out.1, HC.out, List.length_append, List.length_cons] at this
          omega
        have HDS : Hid (done ++ [(k, q / t)] ++ cov (q + t) n = cov p0 n) := by
          show _ = _
          rw [← HL.out.1, HC.out, List.append_assoc]
          rfl
        obtain ⟨m, HM⟩ : ∃ m, Hid (done.length = m) := ⟨_, rfl⟩
        rw [HM.out] at hdl
        have hdv : ((q : Int) / (t : Int)) = ((q / t : Nat) : Int) := (Int.natCast_ediv q t).symm
        obtain ⟨d, HD⟩ : ∃ d, Hid (q / t = d) := ⟨_, rfl⟩
        rw [HD.out] at hdv HDS
        have HO : Hid ((wr.alloc (.cells #[.int .i64 (k : Nat), .int .i64 (d : Nat)] 98)).ownsRow w.heap.size 98 2 u6 m (cls done)) := by
          have := HL.out.2.1.alloc (.cells #[.int .i64 (k : Nat), .int .i64 (d : Nat)] 98)
          rw [HM.out] at this
          exact this
        have HB : Hid (Below w.heap.size w (wr.alloc (.cells #[.int .i64 (k : Nat), .int .i64 (d : Nat)] 98))) := HL.out.2.2.alloc HL.out.2.2.size _
        clear HLV
        go_wp2_with fail
        refine (G.out q _ hlt).mono ?_
        rintro e w1 ⟨rfl, hw1⟩
        subst hw1
        rw [HK.out]
        go_wp2_with (at_builtin; refine wpList_append_own _ rfl _ _ 56 rfl w.heap.size 98 iA (.agg #[.int .i64 0, .int .i64 0]) 2 16 Tryd.underlying56 HIN.out.1 HIN.out.2.1 HIN.out.2.2.1 HIN.out.2.2.2 rfl (by decide) _ m _ rfl HO.out ⟨w1.heap.size, 0, none⟩ 1 1 [.int .i64 (k : Nat), .int .i64 (d : Nat)] rfl rfl (two_cells _ _ _ _) (fun u hu => by simp at hu; rcases hu with rfl | rfl <;> rfl) (by unfold maxLen; omega) (by omega) HB.out.size ?_; intro v' w3 hown' hgrow3 hnil3; have HO3 : Hid (World.ownsRow _ _ _ _ _ _ _) := hown'; have HB3 : Hid (Below w.heap.size w w3) := Below.grown HB.out hgrow3 HB.out.size (fun j hj => (HO.out.lt _ hj).1); clear hown' hgrow3 hnil3)
        go_roundw
        case rel =>
          refine ⟨q + t, done ++ [(k, d)], htn, by go_num, HDS.out, ?_, HB3.out⟩
          rw [List.length_append, HM.out, cls_app]
          exact HO3.out
        case measure => simp [intOf]; omega
      · have hlt' : ¬ (q : Int) < n := by omega
        have HD : Hid (done = cov p0 n) := by
          have := HL.out.1
          rw [cov_end hlt, List.append_nil] at this
          exact this
        go_wp2
        go_ret2
        refine ⟨⟨u6, by rw [HE.out]; rfl, ?_⟩, HL.out.2.2⟩
        rw [HI.out, ← HD.out]
        exact HL.out.2.1
  · have HI : Hid (covI lo hi = []) := by show _ = _; unfold covI; rw [if_neg hok]
    have HE : Hid (covE lo hi = 10) := by show _ = _; unfold covE; rw [if_neg hok]
    have fin : ∀ e w', e = .returned (.tuple #[.slice none 0 0, .int .i64 10]) ∧ w' = w → Rowed w w' e lo hi ∧ Below w.heap.size w w' := by
      rintro e w' ⟨rfl, rfl⟩
      refine ⟨⟨_, by rw [HE.out], ?_⟩, Below.refl _ _⟩
      rw [HI.out]
      exact World.ownsRow_nil _ _ _ _
    refine Calls.mono ?_ fin
    unfold okR at hok
    by_cases a1 : lo < 0
    · go_enter Tryd.func35, Tryd.ntmps35
      go_wp2
      go_ret2
      exact ⟨rfl, rfl⟩
    · by_cases a2 : hi < lo
      · go_enter Tryd.func35, Tryd.ntmps35
        go_wp2
        go_ret2
        exact ⟨rfl, rfl⟩
      · have a3 : hi > 4611686018427387904 := by omega
        clear hok fin
        go_enter Tryd.func35, Tryd.ntmps35
        go_wp2
        go_ret2
        exact ⟨rfl, rfl⟩
end Go.Proofs.YthpfgdhmpeadeaaDoor.cd
