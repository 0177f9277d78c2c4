import Derived.Test.YtjjeiklhmbhhoaaDoorCt
import Derived.Test.YtjjeiklhmbhhoaaDoorCn
import Derived.Test.YtjjeiklhmbhhoaaDoorCq
import Derived.Test.YtjjeiklhmbhhoaaDoorCr
namespace Go.Proofs.YtjjeiklhmbhhoaaDoor.cg
open Go.RowKit Go.PlainAid
open Go.Proofs.YtjjeiklhmbhhoaaDoor.ca Go.Proofs.YtjjeiklhmbhhoaaDoor.cb Go.Proofs.YtjjeiklhmbhhoaaDoor.cp Go.Proofs.YtjjeiklhmbhhoaaDoor.cs Go.Proofs.YtjjeiklhmbhhoaaDoor.ct Go.Proofs.YtjjeiklhmbhhoaaDoor.cn Go.Proofs.YtjjeiklhmbhhoaaDoor.cu Go.Proofs.YtjjeiklhmbhhoaaDoor.cq Go.Proofs.YtjjeiklhmbhhoaaDoor.cr
set_option linter.unusedVariables false

-- inside: of a node that there may be
set_option maxHeartbeats 800000 in
theorem inside (SP : SpanC) (k i : Nat) (lo hi : Int) (hk : k ≤ 62) (hi' : (i + 1) * 2 ^ k ≤ 4611686018427387904) (hlo : i64 lo) (hhi : i64 hi) (w : World) :
    Calls Tryd.prog 13 #[.agg #[.int .i64 k, .int .i64 i], .int .i64 lo, .int .i64 hi] w fun e w' => e = .returned (.bool (decide (lo ≤ ((i * 2 ^ k : Nat) : Int)) && decide ((((i + 1) * 2 ^ k : Nat) : Int) ≤ hi))) ∧ Below w.heap.size w w' := by
  have hok : okA k i := (okA_nat k i).2 ⟨hk, hi'⟩
  have him : i ≤ 4611686018427387904 := by
    have := Nat.le_mul_of_pos_right (i + 1) (p2 k)
    omega
  have S1 : Hid (∀ w, Calls _ _ _ _ _) := fun w => SP k i (i64_nat (by omega)) (i64_nat him) w
  rw [spV_nat hok] at S1
  obtain ⟨f, HF⟩ : ∃ f, Hid (i * 2 ^ k = f) := ⟨_, rfl⟩
  obtain ⟨t, HT⟩ : ∃ t, Hid ((i + 1) * 2 ^ k = t) := ⟨_, rfl⟩
  rw [HF.out, HT.out] at S1 ⊢
  rw [HT.out] at hi'
  have NM : Hid (∀ w, Calls _ _ _ _ _) := fun w => num 0 w
  obtain ⟨r, HRR⟩ : ∃ r, Hid ((decide (lo ≤ (f : Int)) && decide ((t : Int) ≤ hi)) = r) := ⟨_, rfl⟩
  rw [HRR.out]
  clear SP hok
  go_enter Tryd.func13, Tryd.ntmps13
  go_wp2_with fail
  refine (S1.out _).mono ?_
  rintro e w1 ⟨rfl, hb⟩
  have B1 : Hid (Below w.heap.size w w1) := over ((Below.refl _ _).alloc (Nat.le_refl _) _) hb
  clear hb
  go_wp2_with fail
  refine (NM.out _).mono ?_
  rintro e w2 ⟨rfl, hw2⟩
  subst hw2
  by_cases a1 : lo ≤ (f : Int)
  · by_cases a2 : (t : Int) ≤ hi
    · have HV : Hid (r = true) := by show _ = _; rw [← HRR.out, decide_eq_true a1, decide_eq_true a2]; rfl
      go_wp2
      go_ret
      exact ⟨by rw [HV.out]; rfl, B1.out⟩
    · have HV : Hid (r = false) := by show _ = _; rw [← HRR.out, decide_eq_true a1, decide_eq_false a2]; rfl
      go_wp2
      go_ret
      exact ⟨by rw [HV.out, ← decide_eq_false (p := (t : Int) ≤ hi) (by omega)]; rfl, B1.out⟩
  · have HV : Hid (r = false) := by show _ = _; rw [← HRR.out, decide_eq_false a1]; rfl
    go_wp2
    go_ret
    exact ⟨by rw [HV.out]; rfl, B1.out⟩
set_option maxHeartbeats 3200000 in
theorem tree_tiles {T : World → Prop} (CV : CoverC T) (SP : SpanC) (PA : ParentC) (lo hi : Int) (h0 : i64 lo) (h1 : i64 hi) (w : World) (hT : T w) :
    Calls Tryd.prog 6 #[.int .i64 lo, .int .i64 hi] w fun e w' => e = .returned (.bool true) ∧ Below w.heap.size w w' := by
  have HTW : Hid (T w) := hT
  have C1 : Hid (∀ w, T w → Calls _ _ _ _ _) := fun w h => CV.covers lo hi h0 h1 w h
  have HSP : Hid SpanC := SP
  have HPA : Hid ParentC := PA
  clear CV SP PA hT
  by_cases hok : okR lo hi
  · obtain ⟨p0, rfl⟩ : ∃ p : Nat, lo = p := ⟨lo.toNat, by have := hok.1; omega⟩
    obtain ⟨n, rfl⟩ : ∃ n : Nat, hi = n := ⟨hi.toNat, by have := hok.1; have := hok.2.1; omega⟩
    have hn : n ≤ 4611686018427387904 := by have := hok.2.2; omega
    have hpn : p0 ≤ n := by have := hok.2.1; omega
    have HI : Hid (covI p0 n = cov p0 n) := by show _ = _; unfold covI; rw [if_pos hok]; rfl
    have HE : Hid (covE p0 n = 0) := by show _ = _; unfold covE; rw [if_pos hok]
    have t1 : ¬ (p0 : Int) < 0 := by omega
    have t2 : ¬ (n : Int) < p0 := by omega
    have t3 : ¬ (n : Int) > 4611686018427387904 := by omega
    have N0 : Hid (∀ w, Calls _ _ _ _ _) := fun w => num 0 w
    have N50 : Hid (∀ w, Calls _ _ _ _ _) := fun w => num 50 w
    have H0 : Hid (i64 (p0 : Int)) := h0
    have H1 : Hid (i64 (n : Int)) := h1
    clear hok h0 h1
    go_enter Tryd.func6, Tryd.ntmps6
    go_wp2_with fail
    refine (C1.out _ HTW.out).mono ?_
    rintro e w1 ⟨⟨a, rfl, oa⟩, hb⟩
    rw [HE.out]
    rw [HI.out] at oa
    have RA : Hid (ReadsA w1 a (cov p0 n)) := own_readsA oa
    have B1 : Hid (Below w.heap.size w w1) := hb
    obtain ⟨aa, ca, rfl⟩ := formA RA.out
    obtain ⟨z, HZ⟩ : ∃ z, Hid ((cov p0 n).length = z) := ⟨_, rfl⟩
    have hz : z ≤ 122 := by rw [← HZ.out, ← HI.out]; exact covI_len p0 n
    rw [HZ.out] at RA ⊢
    clear oa hb
    go_wp2_with fail
    refine (N0.out _).mono ?_
    rintro e w2 ⟨rfl, hw2⟩
    subst hw2
    have hz' : ¬ (z : Int) > 122 := by omega
    go_wp2
    go_loopw [7, 8] (fun p i wr => ∃ (q j : Nat) (done : List (Nat × Nat)), q ≤ n ∧ p = .int .i64 q ∧ i = .int .i64 j ∧ Hid (done ++ cov q n = cov p0 n ∧ done.length = j ∧ Inv p0 n q ∧ Below w2.heap.size w2 wr)) (fun p _ _ => (n - intOf p).toNat)
    case atStart => exact ⟨p0, 0, [], hpn, rfl, rfl, rfl, rfl, Inv.start _ _, Below.refl _ _⟩
    case round =>
      obtain ⟨q, j, done, hq, rfl, rfl, HL⟩ := hrel
      by_cases hlt : q < n
      · have HLV : Hid (Lv q (n - q) (lv q (n - q))) := lv_lv q (n - q) (by omega)
        obtain ⟨k, HK⟩ : ∃ k, Hid (lv q (n - q) = k) := ⟨_, rfl⟩
        rw [HK.out] at HLV
        have hk := HLV.out.1
        obtain ⟨t, HT⟩ : ∃ t : Nat, Hid (2 ^ k = t) := ⟨_, rfl⟩
        have htn : q + t ≤ n := by have := HLV.out.2.2.1; rw [HT.out] at this; omega
        have ht0 : 0 < t := by rw [← HT.out]; exact p2 k
        obtain ⟨i, HIX⟩ : ∃ i, Hid (q / t = i) := ⟨_, rfl⟩
        have hit : i * t = q := by rw [← HIX.out]; exact Nat.div_mul_cancel (by rw [← HT.out]; exact HLV.out.2.1)
        have hit1 : (i + 1) * t = q + t := by rw [Nat.add_mul, hit, Nat.one_mul]
        have HC : Hid (cov q n = (k, i) :: cov (q + t) n) := by
          show _ = _
          rw [cov_at hlt HLV.out, HT.out, HIX.out]
        have HDS : Hid (done ++ [(k, i)] ++ cov (q + t) n = cov p0 n) := by
          show _ = _
          rw [← HL.out.1, HC.out, List.append_assoc]
          rfl
        have hjz : j < z := by
          have := congrArg List.length HL.out.1
          rw [HC.out, List.length_append, List.length_cons, HZ.out, HL.out.2.1] at this
          omega
        have hjz' : (j : Int) < z := by omega
        have HX : Hid ((cov p0 n)[j]? = some (k, i)) := by
          show _ = _
          rw [← HL.out.1, HC.out, List.getElem?_append_right (by rw [HL.out.2.1]; exact Nat.le_refl _), HL.out.2.1, Nat.sub_self]
          rfl
        have hokA : okA k i := (okA_nat k i).2 ⟨hk, by rw [HT.out, hit1]; omega⟩
        have him : i ≤ 4611686018427387904 := by
          have := Nat.le_mul_of_pos_right i ht0
          omega
        have SP1 : Hid (∀ w, Calls _ _ _ _ _) := fun w => HSP.out k i (i64_nat (by omega)) (i64_nat him) w
        rw [spV_nat hokA, HT.out, hit, hit1] at SP1
        have PA1 : Hid (∀ w, Calls _ _ _ _ _) := fun w => HPA.out k i (i64_nat (by omega)) (i64_nat him) w
        have HIV : Hid (Inv p0 n (q + t)) := by
          have := HL.out.2.2.1.step hlt (by rw [p62]; exact hn) HLV.out
          rw [HT.out] at this
          exact this
        obtain ⟨b, hab, c1', c2'⟩ := row_at (RA.out.later HL.out.2.2.2) HX.out
        subst hab
        have qq : ((q : Int) == (q : Int)) = true := beq_self_eq_true _
        have hc1 : ¬ (q : Int) + t ≤ q := by omega
        have hc2 : ¬ (q : Int) + t > n := by omega
        have HFT : Hid ((i + 1) * 2 ^ k ≤ 4611686018427387904) := ((okA_nat k i).1 hokA).2
        have HKP : Hid (kinV (k : Int) (i : Int) ((k : Int) + 1) ((i : Int) / 2) = if k < 62 then .tuple #[.agg #[.int .i64 ((k + 1 : Nat) : Int), .int .i64 ((i / 2 : Nat) : Int)], .int .i64 0] else .tuple #[.agg #[.int .i64 0, .int .i64 0], .int .i64 50]) := by
          show _ = _
          rw [show (k : Int) + 1 = ((k + 1 : Nat) : Int) by omega, show (i : Int) / 2 = ((i / 2 : Nat) : Int) by omega]
          unfold kinV
          by_cases hk62 : k < 62
          · rw [if_pos hk62, if_pos]
            exact ⟨hokA, (okA_nat _ _).2 ⟨by omega, up_fits hk62 ((okA_nat _ _).1 hokA).2⟩⟩
          · rw [if_neg hk62, if_neg]
            rintro ⟨_, h⟩
            have := ((okA_nat _ _).1 h).1
            omega
        rw [HKP.out] at PA1
        have HBW : Hid (Below w2.heap.size w2 wr) := HL.out.2.2.2
        have HDL : Hid (done.length = j) := HL.out.2.1
        have HIQ : Hid (Inv p0 n q) := HL.out.2.2.1
        clear hokA HKP HL
        go_wp2_with fail
        refine (SP1.out _).mono ?_
        rintro e w3 ⟨rfl, hb⟩
        have B3 : Hid (Below w2.heap.size w2 w3) := over HBW.out hb
        clear hb c1' c2'
        go_wp2_with fail
        refine (N0.out _).mono ?_
        rintro e w4 ⟨rfl, hw4⟩
        subst hw4
        obtain ⟨b', hab, c1', c2'⟩ := row_at (RA.out.later B3.out) HX.out
        obtain rfl : b = b' := by simpa using hab
        clear hab
        go_wp2_with fail
        refine (PA1.out _).mono ?_
        rintro e w5 ⟨rfl, hb⟩
        have B5 : Hid (Below w2.heap.size w2 w5) := over B3.out hb
        clear hb c1' c2'
        by_cases hk62 : k < 62
        · rw [if_pos hk62]
          have IN : Hid (∀ w, Calls _ _ _ _ _) := fun w => inside HSP.out (k + 1) (i / 2) p0 n (by omega) (up_fits hk62 HFT.out) H0.out H1.out w
          have HNI : Hid ((decide ((p0 : Int) ≤ ((i / 2 * 2 ^ (k + 1) : Nat) : Int)) && decide ((((i / 2 + 1) * 2 ^ (k + 1) : Nat) : Int) ≤ (n : Int))) = false) := by
            show _ = _
            have h := HIQ.out.up hlt HLV.out hk62
            have e : q / 2 ^ (k + 1) = i / 2 := by rw [Nat.pow_succ, ← Nat.div_div_eq_div_mul, HT.out, HIX.out]
            rw [e] at h
            rw [Bool.and_eq_false_iff, decide_eq_false_iff_not, decide_eq_false_iff_not]
            rcases Decidable.em (p0 ≤ i / 2 * 2 ^ (k + 1)) with g | g
            · right
              intro g'
              exact h ⟨g, by omega⟩
            · left
              intro g'
              exact g (by omega)
          rw [HNI.out] at IN
          obtain ⟨k1, HK1⟩ : ∃ x, Hid (k + 1 = x) := ⟨_, rfl⟩
          obtain ⟨i2, HI2⟩ : ∃ x, Hid (i / 2 = x) := ⟨_, rfl⟩
          rw [HK1.out, HI2.out] at IN ⊢
          have B6 : Hid (Below w2.heap.size w2 (w5.alloc (.cells #[.int .i64 (k1 : Int), .int .i64 (i2 : Int)] 29))) := B5.out.alloc B5.out.size _
          clear HNI
          go_wp2_with fail
          refine (N0.out _).mono ?_
          rintro e w6 ⟨rfl, hw6⟩
          subst hw6
          go_wp2_with fail
          refine (IN.out _).mono ?_
          rintro e w7 ⟨rfl, hb⟩
          have B7 : Hid (Below w2.heap.size w2 w7) := over B6.out hb
          clear hb
          go_wp2
          go_roundw
          case rel => exact ⟨q + t, j + 1, done ++ [(k, i)], htn, by go_num, by go_num, HDS.out, (by rw [List.length_append, HDL.out]; rfl), HIV.out, B7.out⟩
          case measure => simp [intOf]; omega
        · rw [if_neg hk62]
          go_wp2_with fail
          refine (N50.out _).mono ?_
          rintro e w6 ⟨rfl, hw6⟩
          have B6 : Hid (Below w2.heap.size w2 w6) := by
            subst hw6
            exact B5.out.alloc B5.out.size _
          clear hw6
          go_wp2
          go_roundw
          case rel => exact ⟨q + t, j + 1, done ++ [(k, i)], htn, by go_num, by go_num, HDS.out, (by rw [List.length_append, HDL.out]; rfl), HIV.out, B6.out⟩
          case measure => simp [intOf]; omega
      · have hqn : q = n := by omega
        have HJ : Hid (j = z) := by
          have h := HL.out.1
          rw [cov_end hlt, List.append_nil] at h
          have := congrArg List.length h
          rw [HZ.out, HL.out.2.1] at this
          exact this
        have hj := HJ.out
        have hjz' : ¬ (j : Int) < z := by omega
        have B3 : Hid (Below w.heap.size w wr) := over B1.out HL.out.2.2.2
        subst hqn
        have qq : ((q : Int) == (q : Int)) = true := beq_self_eq_true _
        go_wp2
        go_ret
        exact ⟨rfl, B3.out⟩
  · have HE : Hid (covE lo hi = 10) := by show _ = _; unfold covE; rw [if_neg hok]
    have HI : Hid (covI lo hi = []) := by show _ = _; unfold covI; rw [if_neg hok]
    have N10 : Hid (∀ w, Calls _ _ _ _ _) := fun w => num 10 w
    have HOK : Hid (¬ (0 ≤ lo ∧ lo ≤ hi ∧ hi ≤ 4611686018427387904)) := hok
    clear hok
    have fin : ∀ (w1 : World) (a : Value), w1.ownsRow w.heap.size 29 2 a (covI lo hi).length (cls (covI lo hi)) → ∃ x c, a = .slice x 0 c := by
      intro w1 a h
      rw [HI.out] at h
      rcases h.2 with ⟨rfl, _⟩ | ⟨g, cap, cur, rfl, _⟩
      · exact ⟨_, _, rfl⟩
      · exact ⟨_, _, rfl⟩
    by_cases a1 : lo < 0
    · go_enter Tryd.func6, Tryd.ntmps6
      go_wp2_with fail
      refine (C1.out _ HTW.out).mono ?_
      rintro e w1 ⟨⟨a, rfl, oa⟩, hb⟩
      rw [HE.out]
      obtain ⟨x, c, rfl⟩ := fin w1 a oa
      have B1 : Hid (Below w.heap.size w w1) := hb
      clear oa hb
      go_wp2_with fail
      refine (N10.out _).mono ?_
      rintro e w2 ⟨rfl, hw2⟩
      subst hw2
      go_wp2
      go_ret
      exact ⟨rfl, B1.out⟩
    · by_cases a2 : hi < lo
      · go_enter Tryd.func6, Tryd.ntmps6
        go_wp2_with fail
        refine (C1.out _ HTW.out).mono ?_
        rintro e w1 ⟨⟨a, rfl, oa⟩, hb⟩
        rw [HE.out]
        obtain ⟨x, c, rfl⟩ := fin w1 a oa
        have B1 : Hid (Below w.heap.size w w1) := hb
        clear oa hb
        go_wp2_with fail
        refine (N10.out _).mono ?_
        rintro e w2 ⟨rfl, hw2⟩
        subst hw2
        go_wp2
        go_ret
        exact ⟨rfl, B1.out⟩
      · have a3 : hi > 4611686018427387904 := by have := HOK.out; omega
        go_enter Tryd.func6, Tryd.ntmps6
        go_wp2_with fail
        refine (C1.out _ HTW.out).mono ?_
        rintro e w1 ⟨⟨a, rfl, oa⟩, hb⟩
        rw [HE.out]
        obtain ⟨x, c, rfl⟩ := fin w1 a oa
        have B1 : Hid (Below w.heap.size w w1) := hb
        clear oa hb
        go_wp2_with fail
        refine (N10.out _).mono ?_
        rintro e w2 ⟨rfl, hw2⟩
        subst hw2
        go_wp2
        go_ret
        exact ⟨rfl, B1.out⟩
end Go.Proofs.YtjjeiklhmbhhoaaDoor.cg
