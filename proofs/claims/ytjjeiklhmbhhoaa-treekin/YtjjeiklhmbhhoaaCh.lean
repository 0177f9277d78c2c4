import Derived.Test.YtjjeiklhmbhhoaaCn
import Derived.Test.YtjjeiklhmbhhoaaCq
import Derived.Test.YtjjeiklhmbhhoaaCr
import Derived.BigQuiet
namespace Go.Proofs.Ytjjeiklhmbhhoaa.ch
open Go.RowKit Go.PlainAid
open Go.Proofs.Ytjjeiklhmbhhoaa.ca Go.Proofs.Ytjjeiklhmbhhoaa.cp Go.Proofs.Ytjjeiklhmbhhoaa.cn Go.Proofs.Ytjjeiklhmbhhoaa.cu Go.Proofs.Ytjjeiklhmbhhoaa.cq Go.Proofs.Ytjjeiklhmbhhoaa.cr
set_option linter.unusedVariables false

-- the law's own 'valid'
set_option maxHeartbeats 800000 in
theorem validL (L I : Int) (h0 : i64 L) (h1 : i64 I) (w : World) :
    Calls Try.prog 9 #[.agg #[.int .i64 L, .int .i64 I]] w fun e w' => e = .returned (.bool (decide (okA L I))) ∧ Below w.heap.size w w' := by
  obtain ⟨r, HR⟩ : ∃ r, Hid (decide (okA L I) = r) := ⟨_, rfl⟩
  rw [HR.out]
  have B0 : Hid (Below w.heap.size w (w.alloc (.cells #[.int .i64 L, .int .i64 I] 24))) := (Below.refl _ _).alloc (Nat.le_refl _) _
  have HF : ¬ okA L I → Hid (r = false) := fun h => by show _ = _; rw [← HR.out]; exact decide_eq_false h
  obtain ⟨g0, g1⟩ := h0
  obtain ⟨g2, g3⟩ := h1
  by_cases a1 : 0 ≤ L
  · by_cases a2 : L ≤ 62
    · by_cases a3 : 0 ≤ I
      · obtain ⟨k, rfl⟩ : ∃ k : Nat, L = k := ⟨L.toNat, by omega⟩
        have hk : k ≤ 62 := by omega
        obtain ⟨t, HT⟩ : ∃ t : Nat, Hid (2 ^ k = t) := ⟨_, rfl⟩
        have hT : (2 : Int) ^ k = (t : Int) := by rw [cast_pow, HT.out]
        by_cases a4 : I < 4611686018427387904 / (t : Int)
        · have HV : Hid (r = true) := by
            show _ = _
            rw [← HR.out]
            exact decide_eq_true ⟨a1, a2, a3, by rw [Int.toNat_natCast, hT]; exact a4⟩
          clear HF
          go_enter Try.func9, Try.ntmps9
          go_wp2
          go_ret
          exact ⟨by rw [HV.out]; rfl, B0.out⟩
        · have HV : Hid (r = false) := HF (fun h => a4 (by have := h.2.2.2; rw [Int.toNat_natCast, hT] at this; exact this))
          have a4' : decide (I < 4611686018427387904 / (t : Int)) = false := decide_eq_false a4
          clear HF a4
          go_enter Try.func9, Try.ntmps9
          go_wp2
          go_ret
          exact ⟨by rw [HV.out, ← a4']; rfl, B0.out⟩
      · have HV : Hid (r = false) := HF (fun h => a3 h.2.2.1)
        clear HF
        go_enter Try.func9, Try.ntmps9
        go_wp2
        go_ret
        exact ⟨by rw [HV.out]; rfl, B0.out⟩
    · have HV : Hid (r = false) := HF (fun h => a2 h.2.1)
      clear HF
      go_enter Try.func9, Try.ntmps9
      go_wp2
      go_ret
      exact ⟨by rw [HV.out]; rfl, B0.out⟩
  · have HV : Hid (r = false) := HF (fun h => a1 h.1)
    clear HF
    go_enter Try.func9, Try.ntmps9
    go_wp2
    go_ret
    exact ⟨by rw [HV.out]; rfl, B0.out⟩
set_option maxHeartbeats 3200000 in
set_option maxRecDepth 100000 in
theorem kin_bad (VA : ValidC) (SP : SpanC) (PA : ParentC) (SI : SiblingC) (LE : LeftC) (RI : RightC) (L I : Int) (h0 : i64 L) (h1 : i64 I) (hn : ¬ okA L I) (w : World) :
    Calls Try.prog 4 #[.agg #[.int .i64 L, .int .i64 I]] w fun e w' => e = .returned (.bool true) ∧ Below w.heap.size w w' := by
  have SP1 : Hid (∀ w, Calls _ _ _ _ _) := fun w => SP L I h0 h1 w
  have VA1 : Hid (∀ w, Calls _ _ _ _ _) := fun w => VA L I h0 h1 w
  have VL : Hid (∀ w, Calls _ _ _ _ _) := fun w => validL L I h0 h1 w
  have LF : Hid (∀ w, Calls _ _ _ _ _) := fun w => LE L I h0 h1 w
  have RG : Hid (∀ w, Calls _ _ _ _ _) := fun w => RI L I h0 h1 w
  have PN : Hid (∀ w, Calls _ _ _ _ _) := fun w => PA L I h0 h1 w
  have SB : Hid (∀ w, Calls _ _ _ _ _) := fun w => SI L I h0 h1 w
  rw [show spV L I = .tuple #[.int .i64 0, .int .i64 0, .int .i64 50] by unfold spV; rw [if_neg hn]] at SP1
  rw [decide_eq_false hn] at VA1 VL
  rw [kin_no (fun h => hn h.1)] at LF RG PN SB
  have N50 : Hid (∀ w, Calls _ _ _ _ _) := fun w => num 50 w
  clear VA SP PA SI LE RI hn h0 h1
  go_enter Try.func4, Try.ntmps4
  have HXa : Hid (Bx (w.alloc (.cells #[.int .i64 L, .int .i64 I] 24)) w.heap.size L I) := bx_new _ _ _
  have B0 : Hid (Below w.heap.size w (w.alloc (.cells #[.int .i64 L, .int .i64 I] 24))) := (Below.refl _ _).alloc (Nat.le_refl _) _
  obtain ⟨ca0, ca1⟩ := HXa.out
  go_wp2_with fail
  refine (SP1.out _).mono ?_
  rintro e w1 ⟨rfl, hb⟩
  have B1 : Hid (Below w.heap.size w w1) := over B0.out hb
  replace HXa : Hid (Bx w1 w.heap.size L I) := HXa.out.later hb
  clear ca0 ca1
  clear hb
  obtain ⟨ca0, ca1⟩ := HXa.out
  go_wp2_with fail
  refine (VL.out _).mono ?_
  rintro e w2 ⟨rfl, hb⟩
  have B2 : Hid (Below w.heap.size w w2) := over B1.out hb
  replace HXa : Hid (Bx w2 w.heap.size L I) := HXa.out.later hb
  clear ca0 ca1
  clear hb
  obtain ⟨ca0, ca1⟩ := HXa.out
  go_wp2_with fail
  refine (VA1.out _).mono ?_
  rintro e w3 ⟨rfl, hb⟩
  have B3 : Hid (Below w.heap.size w w3) := over B2.out hb
  replace HXa : Hid (Bx w3 w.heap.size L I) := HXa.out.later hb
  clear ca0 ca1
  clear hb
  go_wp2_with fail
  refine (N50.out _).mono ?_
  rintro e w4 ⟨rfl, hw⟩
  subst hw
  obtain ⟨ca0, ca1⟩ := HXa.out
  go_wp2_with fail
  refine (LF.out _).mono ?_
  rintro e w5 ⟨rfl, hb⟩
  have B5 : Hid (Below w.heap.size w w5) := over B3.out hb
  replace HXa : Hid (Bx w5 w.heap.size L I) := HXa.out.later hb
  clear ca0 ca1
  clear hb
  replace HXa : Hid (Bx (w5.alloc (.cells #[.int .i64 0, .int .i64 0] 24)) w.heap.size L I) := HXa.out.later ((Below.refl _ _).alloc (Nat.le_refl _) _)
  have HXl : Hid (Bx (w5.alloc (.cells #[.int .i64 0, .int .i64 0] 24)) w5.heap.size 0 0) := bx_new _ _ _
  have B5b : Hid (Below w.heap.size w (w5.alloc (.cells #[.int .i64 0, .int .i64 0] 24))) := B5.out.alloc B5.out.size _
  obtain ⟨ca0, ca1⟩ := HXa.out
  go_wp2_with fail
  refine (RG.out _).mono ?_
  rintro e w6 ⟨rfl, hb⟩
  have B6 : Hid (Below w.heap.size w w6) := over B5b.out hb
  replace HXa : Hid (Bx w6 w.heap.size L I) := HXa.out.later hb
  replace HXl : Hid (Bx w6 w5.heap.size 0 0) := HXl.out.later hb
  clear ca0 ca1
  clear hb
  replace HXa : Hid (Bx (w6.alloc (.cells #[.int .i64 0, .int .i64 0] 24)) w.heap.size L I) := HXa.out.later ((Below.refl _ _).alloc (Nat.le_refl _) _)
  replace HXl : Hid (Bx (w6.alloc (.cells #[.int .i64 0, .int .i64 0] 24)) w5.heap.size 0 0) := HXl.out.later ((Below.refl _ _).alloc (Nat.le_refl _) _)
  have HXr : Hid (Bx (w6.alloc (.cells #[.int .i64 0, .int .i64 0] 24)) w6.heap.size 0 0) := bx_new _ _ _
  have B6b : Hid (Below w.heap.size w (w6.alloc (.cells #[.int .i64 0, .int .i64 0] 24))) := B6.out.alloc B6.out.size _
  obtain ⟨ca0, ca1⟩ := HXa.out
  go_wp2_with fail
  refine (PN.out _).mono ?_
  rintro e w7 ⟨rfl, hb⟩
  have B7 : Hid (Below w.heap.size w w7) := over B6b.out hb
  replace HXa : Hid (Bx w7 w.heap.size L I) := HXa.out.later hb
  replace HXl : Hid (Bx w7 w5.heap.size 0 0) := HXl.out.later hb
  replace HXr : Hid (Bx w7 w6.heap.size 0 0) := HXr.out.later hb
  clear ca0 ca1
  clear hb
  replace HXa : Hid (Bx (w7.alloc (.cells #[.int .i64 0, .int .i64 0] 24)) w.heap.size L I) := HXa.out.later ((Below.refl _ _).alloc (Nat.le_refl _) _)
  replace HXl : Hid (Bx (w7.alloc (.cells #[.int .i64 0, .int .i64 0] 24)) w5.heap.size 0 0) := HXl.out.later ((Below.refl _ _).alloc (Nat.le_refl _) _)
  replace HXr : Hid (Bx (w7.alloc (.cells #[.int .i64 0, .int .i64 0] 24)) w6.heap.size 0 0) := HXr.out.later ((Below.refl _ _).alloc (Nat.le_refl _) _)
  have HXp : Hid (Bx (w7.alloc (.cells #[.int .i64 0, .int .i64 0] 24)) w7.heap.size 0 0) := bx_new _ _ _
  have B7b : Hid (Below w.heap.size w (w7.alloc (.cells #[.int .i64 0, .int .i64 0] 24))) := B7.out.alloc B7.out.size _
  obtain ⟨ca0, ca1⟩ := HXa.out
  go_wp2_with fail
  refine (SB.out _).mono ?_
  rintro e w8 ⟨rfl, hb⟩
  have B8 : Hid (Below w.heap.size w w8) := over B7b.out hb
  replace HXa : Hid (Bx w8 w.heap.size L I) := HXa.out.later hb
  replace HXl : Hid (Bx w8 w5.heap.size 0 0) := HXl.out.later hb
  replace HXr : Hid (Bx w8 w6.heap.size 0 0) := HXr.out.later hb
  replace HXp : Hid (Bx w8 w7.heap.size 0 0) := HXp.out.later hb
  clear ca0 ca1
  clear hb
  replace HXa : Hid (Bx (w8.alloc (.cells #[.int .i64 0, .int .i64 0] 24)) w.heap.size L I) := HXa.out.later ((Below.refl _ _).alloc (Nat.le_refl _) _)
  replace HXl : Hid (Bx (w8.alloc (.cells #[.int .i64 0, .int .i64 0] 24)) w5.heap.size 0 0) := HXl.out.later ((Below.refl _ _).alloc (Nat.le_refl _) _)
  replace HXr : Hid (Bx (w8.alloc (.cells #[.int .i64 0, .int .i64 0] 24)) w6.heap.size 0 0) := HXr.out.later ((Below.refl _ _).alloc (Nat.le_refl _) _)
  replace HXp : Hid (Bx (w8.alloc (.cells #[.int .i64 0, .int .i64 0] 24)) w7.heap.size 0 0) := HXp.out.later ((Below.refl _ _).alloc (Nat.le_refl _) _)
  have HXs : Hid (Bx (w8.alloc (.cells #[.int .i64 0, .int .i64 0] 24)) w8.heap.size 0 0) := bx_new _ _ _
  have B8b : Hid (Below w.heap.size w (w8.alloc (.cells #[.int .i64 0, .int .i64 0] 24))) := B8.out.alloc B8.out.size _
  go_wp2_with fail
  refine (N50.out _).mono ?_
  rintro e w9 ⟨rfl, hw⟩
  subst hw
  go_wp2_with fail
  refine (N50.out _).mono ?_
  rintro e w10 ⟨rfl, hw⟩
  subst hw
  go_wp2_with fail
  refine (N50.out _).mono ?_
  rintro e w11 ⟨rfl, hw⟩
  subst hw
  go_wp2_with fail
  refine (N50.out _).mono ?_
  rintro e w12 ⟨rfl, hw⟩
  subst hw
  go_wp2_with fail
  refine (N50.out _).mono ?_
  rintro e w13 ⟨rfl, hw⟩
  subst hw
  go_wp2
  go_ret
  exact ⟨rfl, B8b.out⟩
set_option maxHeartbeats 6400000 in
set_option maxRecDepth 100000 in
theorem kin_leaf (VA : ValidC) (SP : SpanC) (PA : ParentC) (SI : SiblingC) (LE : LeftC) (RI : RightC) (k i : Nat) (h0k : k = 0) (hok : okA k i) (w : World) :
    Calls Try.prog 4 #[.agg #[.int .i64 (k : Int), .int .i64 (i : Int)]] w fun e w' => e = .returned (.bool true) ∧ Below w.heap.size w w' := by
  have hlt : k < 62 := by omega
  have hk62 : (k : Int) < 62 := by omega
  have hk : k ≤ 62 := ((okA_nat k i).1 hok).1
  have hft := ((okA_nat k i).1 hok).2
  have him : i ≤ 4611686018427387904 := by
    have := Nat.le_mul_of_pos_right (i + 1) (p2 k)
    omega
  have h0 : i64 (k : Int) := i64_nat (by omega)
  have h1 : i64 (i : Int) := i64_nat him
  have SP1 : Hid (∀ w, Calls _ _ _ _ _) := fun w => SP k i h0 h1 w
  have VA1 : Hid (∀ w, Calls _ _ _ _ _) := fun w => VA k i h0 h1 w
  have VL : Hid (∀ w, Calls _ _ _ _ _) := fun w => validL k i h0 h1 w
  have LF : Hid (∀ w, Calls _ _ _ _ _) := fun w => LE k i h0 h1 w
  have RG : Hid (∀ w, Calls _ _ _ _ _) := fun w => RI k i h0 h1 w
  have PN : Hid (∀ w, Calls _ _ _ _ _) := fun w => PA k i h0 h1 w
  have SB : Hid (∀ w, Calls _ _ _ _ _) := fun w => SI k i h0 h1 w
  have N0 : Hid (∀ w, Calls _ _ _ _ _) := fun w => num 0 w
  have N50 : Hid (∀ w, Calls _ _ _ _ _) := fun w => num 50 w
  rw [decide_eq_true hok] at VA1 VL
  obtain ⟨f, HF⟩ : ∃ f, Hid (i * 2 ^ k = f) := ⟨_, rfl⟩
  obtain ⟨g, HG⟩ : ∃ g, Hid ((i + 1) * 2 ^ k = g) := ⟨_, rfl⟩
  obtain ⟨t, HT⟩ : ∃ t : Nat, Hid (2 ^ k = t) := ⟨_, rfl⟩
  have hT : (2 : Int) ^ k = (t : Int) := by rw [cast_pow, HT.out]
  have ht0 : 0 < t := by rw [← HT.out]; exact p2 k
  rw [spV_nat hok, HF.out, HG.out] at SP1
  have HGF : Hid (g = f + t) := by show _ = _; rw [← HG.out, ← HF.out, ← HT.out, Nat.add_mul, Nat.one_mul]
  have hg : g ≤ 4611686018427387904 := by rw [← HG.out]; exact hft
  have hgf : (g : Int) - f = t := by have := HGF.out; omega
  have qt : ((t : Int) == (t : Int)) = true := beq_self_eq_true _
  have qm : ((f : Int) % (t : Int) == 0) = true := by
    rw [beq_iff_eq, ← HF.out, HT.out, Int.natCast_mul, Int.mul_emod_left]
  have qk : ((k : Int) == (k : Int)) = true := beq_self_eq_true _
  have qi : ((i : Int) == (i : Int)) = true := beq_self_eq_true _
  obtain ⟨sx, HS⟩ : ∃ x : Nat, Hid (sib i = x) := by
    refine ⟨(sib i).toNat, ?_⟩
    show _ = _
    unfold sib
    split <;> omega
  obtain ⟨k1, HK1⟩ : ∃ x : Nat, Hid (k + 1 = x) := ⟨_, rfl⟩
  obtain ⟨i2, HI2⟩ : ∃ x : Nat, Hid (i / 2 = x) := ⟨_, rfl⟩
  have hi2 : (i : Int) / 2 = (i2 : Int) := by rw [← HI2.out]; omega
  have hk1 : (k : Int) + 1 = (k1 : Int) := by rw [← HK1.out]; omega
  have okP : okA (k1 : Int) (i2 : Int) := by
    rw [← HK1.out, ← HI2.out]
    exact (okA_nat _ _).2 ⟨by omega, up_fits hlt hft⟩
  have okS : okA (k : Int) (sx : Int) := by
    refine (okA_nat _ _).2 ⟨hk, ?_⟩
    obtain ⟨z, hz⟩ : ∃ z, 4611686018427387904 = 2 * z * 2 ^ k := by
      refine ⟨2 ^ (61 - k), ?_⟩
      rw [← p2s, ← Nat.pow_add, show 61 - k + 1 + k = 62 by omega]
    rw [hz] at hft ⊢
    have q1 : i + 1 ≤ 2 * z := Nat.le_of_mul_le_mul_right hft (p2 k)
    refine Nat.mul_le_mul_right _ ?_
    have := HS.out
    unfold sib at this
    split at this <;> omega
  rw [hk1, hi2, kin_yes hok okP] at PN
  rw [HS.out, kin_yes hok okS] at SB
  have q1 : ((k1 : Int) == (k1 : Int)) = true := beq_self_eq_true _
  have hs2 : (sx : Int) / 2 = (i2 : Int) := by
    have h2 := HI2.out
    have := HS.out
    unfold sib at this
    split at this <;> omega
  have q2 : ((i2 : Int) == (i2 : Int)) = true := beq_self_eq_true _
  have q3 : ((sx : Int) == (i : Int)) = false := by
    rw [beq_eq_false_iff_ne]
    have := HS.out
    unfold sib at this
    split at this <;> omega
  have hsx : (sx : Int) ≤ 4611686018427387905 := by
    have := HS.out
    unfold sib at this
    split at this <;> omega
  have hnl : ∀ x : Int, ¬ okA ((k : Int) - 1) x := fun x h => by have := h.1; omega
  rw [kin_no (fun h => hnl _ h.2)] at LF
  rw [kin_no (fun h => hnl _ h.2)] at RG
  have HFI : Hid (i = f) := by
    show _ = _
    rw [← HF.out, show k = 0 by omega]
    simp
  have k0 : ((k : Int) == 0) = true := by rw [beq_iff_eq]; omega
  have qfi : ((f : Int) == (i : Int)) = true := by rw [beq_iff_eq]; have := HFI.out; omega
  clear h0k
  clear VA SP PA SI LE RI hok hft h0 h1
  go_enter Try.func4, Try.ntmps4
  have HXa : Hid (Bx (w.alloc (.cells #[.int .i64 (k : Int), .int .i64 (i : Int)] 24)) w.heap.size (k : Int) (i : Int)) := bx_new _ _ _
  have B0 : Hid (Below w.heap.size w (w.alloc (.cells #[.int .i64 (k : Int), .int .i64 (i : Int)] 24))) := (Below.refl _ _).alloc (Nat.le_refl _) _
  obtain ⟨ca0, ca1⟩ := HXa.out
  go_wp2_with fail
  refine (SP1.out _).mono ?_
  rintro e w1 ⟨rfl, hb⟩
  have B1 : Hid (Below w.heap.size w w1) := over B0.out hb
  replace HXa : Hid (Bx w1 w.heap.size (k : Int) (i : Int)) := HXa.out.later hb
  clear ca0 ca1
  clear hb
  obtain ⟨ca0, ca1⟩ := HXa.out
  go_wp2_with fail
  refine (VL.out _).mono ?_
  rintro e w2 ⟨rfl, hb⟩
  have B2 : Hid (Below w.heap.size w w2) := over B1.out hb
  replace HXa : Hid (Bx w2 w.heap.size (k : Int) (i : Int)) := HXa.out.later hb
  clear ca0 ca1
  clear hb
  obtain ⟨ca0, ca1⟩ := HXa.out
  go_wp2_with fail
  refine (VA1.out _).mono ?_
  rintro e w3 ⟨rfl, hb⟩
  have B3 : Hid (Below w.heap.size w w3) := over B2.out hb
  replace HXa : Hid (Bx w3 w.heap.size (k : Int) (i : Int)) := HXa.out.later hb
  clear ca0 ca1
  clear hb
  go_wp2_with fail
  refine (N0.out _).mono ?_
  rintro e w4 ⟨rfl, hw⟩
  subst hw
  obtain ⟨ca0, ca1⟩ := HXa.out
  go_wp2_with fail
  refine (LF.out _).mono ?_
  rintro e w5 ⟨rfl, hb⟩
  have B5 : Hid (Below w.heap.size w w5) := over B3.out hb
  replace HXa : Hid (Bx w5 w.heap.size (k : Int) (i : Int)) := HXa.out.later hb
  clear ca0 ca1
  clear hb
  replace HXa : Hid (Bx (w5.alloc (.cells #[.int .i64 0, .int .i64 0] 24)) w.heap.size (k : Int) (i : Int)) := HXa.out.later ((Below.refl _ _).alloc (Nat.le_refl _) _)
  have HXl : Hid (Bx (w5.alloc (.cells #[.int .i64 0, .int .i64 0] 24)) w5.heap.size 0 0) := bx_new _ _ _
  have B5b : Hid (Below w.heap.size w (w5.alloc (.cells #[.int .i64 0, .int .i64 0] 24))) := B5.out.alloc B5.out.size _
  obtain ⟨ca0, ca1⟩ := HXa.out
  go_wp2_with fail
  refine (RG.out _).mono ?_
  rintro e w6 ⟨rfl, hb⟩
  have B6 : Hid (Below w.heap.size w w6) := over B5b.out hb
  replace HXa : Hid (Bx w6 w.heap.size (k : Int) (i : Int)) := HXa.out.later hb
  replace HXl : Hid (Bx w6 w5.heap.size 0 0) := HXl.out.later hb
  clear ca0 ca1
  clear hb
  replace HXa : Hid (Bx (w6.alloc (.cells #[.int .i64 0, .int .i64 0] 24)) w.heap.size (k : Int) (i : Int)) := HXa.out.later ((Below.refl _ _).alloc (Nat.le_refl _) _)
  replace HXl : Hid (Bx (w6.alloc (.cells #[.int .i64 0, .int .i64 0] 24)) w5.heap.size 0 0) := HXl.out.later ((Below.refl _ _).alloc (Nat.le_refl _) _)
  have HXr : Hid (Bx (w6.alloc (.cells #[.int .i64 0, .int .i64 0] 24)) w6.heap.size 0 0) := bx_new _ _ _
  have B6b : Hid (Below w.heap.size w (w6.alloc (.cells #[.int .i64 0, .int .i64 0] 24))) := B6.out.alloc B6.out.size _
  obtain ⟨ca0, ca1⟩ := HXa.out
  go_wp2_with fail
  refine (PN.out _).mono ?_
  rintro e w7 ⟨rfl, hb⟩
  have B7 : Hid (Below w.heap.size w w7) := over B6b.out hb
  replace HXa : Hid (Bx w7 w.heap.size (k : Int) (i : Int)) := HXa.out.later hb
  replace HXl : Hid (Bx w7 w5.heap.size 0 0) := HXl.out.later hb
  replace HXr : Hid (Bx w7 w6.heap.size 0 0) := HXr.out.later hb
  clear ca0 ca1
  clear hb
  replace HXa : Hid (Bx (w7.alloc (.cells #[.int .i64 (k1 : Int), .int .i64 (i2 : Int)] 24)) w.heap.size (k : Int) (i : Int)) := HXa.out.later ((Below.refl _ _).alloc (Nat.le_refl _) _)
  replace HXl : Hid (Bx (w7.alloc (.cells #[.int .i64 (k1 : Int), .int .i64 (i2 : Int)] 24)) w5.heap.size 0 0) := HXl.out.later ((Below.refl _ _).alloc (Nat.le_refl _) _)
  replace HXr : Hid (Bx (w7.alloc (.cells #[.int .i64 (k1 : Int), .int .i64 (i2 : Int)] 24)) w6.heap.size 0 0) := HXr.out.later ((Below.refl _ _).alloc (Nat.le_refl _) _)
  have HXp : Hid (Bx (w7.alloc (.cells #[.int .i64 (k1 : Int), .int .i64 (i2 : Int)] 24)) w7.heap.size (k1 : Int) (i2 : Int)) := bx_new _ _ _
  have B7b : Hid (Below w.heap.size w (w7.alloc (.cells #[.int .i64 (k1 : Int), .int .i64 (i2 : Int)] 24))) := B7.out.alloc B7.out.size _
  obtain ⟨ca0, ca1⟩ := HXa.out
  go_wp2_with fail
  refine (SB.out _).mono ?_
  rintro e w8 ⟨rfl, hb⟩
  have B8 : Hid (Below w.heap.size w w8) := over B7b.out hb
  replace HXa : Hid (Bx w8 w.heap.size (k : Int) (i : Int)) := HXa.out.later hb
  replace HXl : Hid (Bx w8 w5.heap.size 0 0) := HXl.out.later hb
  replace HXr : Hid (Bx w8 w6.heap.size 0 0) := HXr.out.later hb
  replace HXp : Hid (Bx w8 w7.heap.size (k1 : Int) (i2 : Int)) := HXp.out.later hb
  clear ca0 ca1
  clear hb
  replace HXa : Hid (Bx (w8.alloc (.cells #[.int .i64 (k : Int), .int .i64 (sx : Int)] 24)) w.heap.size (k : Int) (i : Int)) := HXa.out.later ((Below.refl _ _).alloc (Nat.le_refl _) _)
  replace HXl : Hid (Bx (w8.alloc (.cells #[.int .i64 (k : Int), .int .i64 (sx : Int)] 24)) w5.heap.size 0 0) := HXl.out.later ((Below.refl _ _).alloc (Nat.le_refl _) _)
  replace HXr : Hid (Bx (w8.alloc (.cells #[.int .i64 (k : Int), .int .i64 (sx : Int)] 24)) w6.heap.size 0 0) := HXr.out.later ((Below.refl _ _).alloc (Nat.le_refl _) _)
  replace HXp : Hid (Bx (w8.alloc (.cells #[.int .i64 (k : Int), .int .i64 (sx : Int)] 24)) w7.heap.size (k1 : Int) (i2 : Int)) := HXp.out.later ((Below.refl _ _).alloc (Nat.le_refl _) _)
  have HXs : Hid (Bx (w8.alloc (.cells #[.int .i64 (k : Int), .int .i64 (sx : Int)] 24)) w8.heap.size (k : Int) (sx : Int)) := bx_new _ _ _
  have B8b : Hid (Below w.heap.size w (w8.alloc (.cells #[.int .i64 (k : Int), .int .i64 (sx : Int)] 24))) := B8.out.alloc B8.out.size _
  obtain ⟨ca0, ca1⟩ := HXa.out
  go_wp2_with fail
  have hw1 : IntKind.i64.wrap (t : Int) = t := by rw [IntKind.wrap_i64]; omega
  have hw2 : IntKind.u64.wrap (k : Int) = k := u64_is k (by omega)
  have hw3 : min (k : Int).toNat 64 = k := by omega
  have hw4 : min k 64 = k := by omega
  have hw5 : (t : Int) ≠ 0 := by omega
  have hw6 : ((t : Int) == 0) = false := by rw [beq_eq_false_iff_ne]; omega
  have hw7 : (f : Int) % (t : Int) = 0 := by rw [beq_iff_eq] at qm; exact qm
  have hw8 : (f : Int).tmod (t : Int) = 0 := by rw [Int.tmod_eq_emod_of_nonneg (by omega)]; exact hw7
  have hw9 : IntKind.i64.wrap 0 = 0 := by rw [IntKind.wrap_i64]; omega
  go_quiet ((go_at_call 7; exact Calls.quiet_of_same (num _ _)))
  clear hw1 hw2 hw3 hw4 hw5 hw6 hw7 hw8 hw9
  have DQ := below_dN (Below.refl ((w8.alloc (.cells #[.int .i64 (k : Int), .int .i64 (sx : Int)] 24)).heap.size) (w8.alloc (.cells #[.int .i64 (k : Int), .int .i64 (sx : Int)] 24))) nq
  replace HXa : Hid (Bx _ w.heap.size (k : Int) (i : Int)) := HXa.out.later DQ
  replace HXl : Hid (Bx _ w5.heap.size 0 0) := HXl.out.later DQ
  replace HXr : Hid (Bx _ w6.heap.size 0 0) := HXr.out.later DQ
  replace HXp : Hid (Bx _ w7.heap.size (k1 : Int) (i2 : Int)) := HXp.out.later DQ
  replace HXs : Hid (Bx _ w8.heap.size (k : Int) (sx : Int)) := HXs.out.later DQ
  have BQ : Hid (Below w.heap.size w _) := over B8b.out DQ
  generalize World.drewN (w8.alloc (.cells #[.int .i64 (k : Int), .int .i64 (sx : Int)] 24)) nq = wq at *
  clear ca0 ca1
  clear DQ
  obtain ⟨ca0, ca1⟩ := HXa.out
  obtain ⟨cp0, cp1⟩ := HXp.out
  obtain ⟨cs0, cs1⟩ := HXs.out
  go_wp2_with fail
  refine (N50.out _).mono ?_
  rintro e w9 ⟨rfl, hw⟩
  subst hw
  clear ca0 ca1 cp0 cp1 cs0 cs1
  go_wp2_with fail
  refine (N50.out _).mono ?_
  rintro e w10 ⟨rfl, hw⟩
  subst hw
  obtain ⟨ca0, ca1⟩ := HXa.out
  go_wp2
  go_ret
  exact ⟨rfl, BQ.out⟩
set_option maxHeartbeats 6400000 in
set_option maxRecDepth 100000 in
theorem kin_mid (VA : ValidC) (SP : SpanC) (PA : ParentC) (SI : SiblingC) (LE : LeftC) (RI : RightC) (k i : Nat) (hlt : k < 62) (hpos : 0 < k) (hok : okA k i) (w : World) :
    Calls Try.prog 4 #[.agg #[.int .i64 (k : Int), .int .i64 (i : Int)]] w fun e w' => e = .returned (.bool true) ∧ Below w.heap.size w w' := by
  have hk62 : (k : Int) < 62 := by omega
  have hk : k ≤ 62 := ((okA_nat k i).1 hok).1
  have hft := ((okA_nat k i).1 hok).2
  have him : i ≤ 4611686018427387904 := by
    have := Nat.le_mul_of_pos_right (i + 1) (p2 k)
    omega
  have h0 : i64 (k : Int) := i64_nat (by omega)
  have h1 : i64 (i : Int) := i64_nat him
  have SP1 : Hid (∀ w, Calls _ _ _ _ _) := fun w => SP k i h0 h1 w
  have VA1 : Hid (∀ w, Calls _ _ _ _ _) := fun w => VA k i h0 h1 w
  have VL : Hid (∀ w, Calls _ _ _ _ _) := fun w => validL k i h0 h1 w
  have LF : Hid (∀ w, Calls _ _ _ _ _) := fun w => LE k i h0 h1 w
  have RG : Hid (∀ w, Calls _ _ _ _ _) := fun w => RI k i h0 h1 w
  have PN : Hid (∀ w, Calls _ _ _ _ _) := fun w => PA k i h0 h1 w
  have SB : Hid (∀ w, Calls _ _ _ _ _) := fun w => SI k i h0 h1 w
  have N0 : Hid (∀ w, Calls _ _ _ _ _) := fun w => num 0 w
  have N50 : Hid (∀ w, Calls _ _ _ _ _) := fun w => num 50 w
  rw [decide_eq_true hok] at VA1 VL
  obtain ⟨f, HF⟩ : ∃ f, Hid (i * 2 ^ k = f) := ⟨_, rfl⟩
  obtain ⟨g, HG⟩ : ∃ g, Hid ((i + 1) * 2 ^ k = g) := ⟨_, rfl⟩
  obtain ⟨t, HT⟩ : ∃ t : Nat, Hid (2 ^ k = t) := ⟨_, rfl⟩
  have hT : (2 : Int) ^ k = (t : Int) := by rw [cast_pow, HT.out]
  have ht0 : 0 < t := by rw [← HT.out]; exact p2 k
  rw [spV_nat hok, HF.out, HG.out] at SP1
  have HGF : Hid (g = f + t) := by show _ = _; rw [← HG.out, ← HF.out, ← HT.out, Nat.add_mul, Nat.one_mul]
  have hg : g ≤ 4611686018427387904 := by rw [← HG.out]; exact hft
  have hgf : (g : Int) - f = t := by have := HGF.out; omega
  have qt : ((t : Int) == (t : Int)) = true := beq_self_eq_true _
  have qm : ((f : Int) % (t : Int) == 0) = true := by
    rw [beq_iff_eq, ← HF.out, HT.out, Int.natCast_mul, Int.mul_emod_left]
  have qk : ((k : Int) == (k : Int)) = true := beq_self_eq_true _
  have qi : ((i : Int) == (i : Int)) = true := beq_self_eq_true _
  obtain ⟨sx, HS⟩ : ∃ x : Nat, Hid (sib i = x) := by
    refine ⟨(sib i).toNat, ?_⟩
    show _ = _
    unfold sib
    split <;> omega
  obtain ⟨k1, HK1⟩ : ∃ x : Nat, Hid (k + 1 = x) := ⟨_, rfl⟩
  obtain ⟨i2, HI2⟩ : ∃ x : Nat, Hid (i / 2 = x) := ⟨_, rfl⟩
  have hi2 : (i : Int) / 2 = (i2 : Int) := by rw [← HI2.out]; omega
  have hk1 : (k : Int) + 1 = (k1 : Int) := by rw [← HK1.out]; omega
  have okP : okA (k1 : Int) (i2 : Int) := by
    rw [← HK1.out, ← HI2.out]
    exact (okA_nat _ _).2 ⟨by omega, up_fits hlt hft⟩
  have okS : okA (k : Int) (sx : Int) := by
    refine (okA_nat _ _).2 ⟨hk, ?_⟩
    obtain ⟨z, hz⟩ : ∃ z, 4611686018427387904 = 2 * z * 2 ^ k := by
      refine ⟨2 ^ (61 - k), ?_⟩
      rw [← p2s, ← Nat.pow_add, show 61 - k + 1 + k = 62 by omega]
    rw [hz] at hft ⊢
    have q1 : i + 1 ≤ 2 * z := Nat.le_of_mul_le_mul_right hft (p2 k)
    refine Nat.mul_le_mul_right _ ?_
    have := HS.out
    unfold sib at this
    split at this <;> omega
  rw [hk1, hi2, kin_yes hok okP] at PN
  rw [HS.out, kin_yes hok okS] at SB
  have q1 : ((k1 : Int) == (k1 : Int)) = true := beq_self_eq_true _
  have hs2 : (sx : Int) / 2 = (i2 : Int) := by
    have h2 := HI2.out
    have := HS.out
    unfold sib at this
    split at this <;> omega
  have q2 : ((i2 : Int) == (i2 : Int)) = true := beq_self_eq_true _
  have q3 : ((sx : Int) == (i : Int)) = false := by
    rw [beq_eq_false_iff_ne]
    have := HS.out
    unfold sib at this
    split at this <;> omega
  have hsx : (sx : Int) ≤ 4611686018427387905 := by
    have := HS.out
    unfold sib at this
    split at this <;> omega
  obtain ⟨kl, HKL⟩ : ∃ x : Nat, Hid (k = x + 1) := ⟨k - 1, by show _ = _; omega⟩
  obtain ⟨il, HIL⟩ : ∃ x : Nat, Hid (2 * i = x) := ⟨_, rfl⟩
  obtain ⟨ir, HIR⟩ : ∃ x : Nat, Hid (2 * i + 1 = x) := ⟨_, rfl⟩
  obtain ⟨tl, HTL⟩ : ∃ x : Nat, Hid (2 ^ kl = x) := ⟨_, rfl⟩
  have htl : t = 2 * tl := by rw [← HT.out, HKL.out, p2s, HTL.out]
  have hkl : (k : Int) - 1 = (kl : Int) := by have := HKL.out; omega
  have hil : 2 * (i : Int) = (il : Int) := by rw [← HIL.out]; omega
  have hir : (il : Int) + 1 = (ir : Int) := by rw [← HIR.out, ← HIL.out]; omega
  have hft2 : 2 * (i * tl + tl) ≤ 4611686018427387904 := by
    have h := hft
    rw [HT.out, htl, Nat.add_mul, Nat.one_mul, Nat.mul_left_comm] at h
    omega
  have e1 : il * tl = 2 * (i * tl) := by rw [← HIL.out, Nat.mul_assoc]
  have e2 : ir * tl = 2 * (i * tl) + tl := by rw [← HIR.out, Nat.add_mul, Nat.one_mul, Nat.mul_assoc]
  have e3 : f = 2 * (i * tl) := by rw [← HF.out, HT.out, htl, Nat.mul_left_comm]
  obtain ⟨md, HMD⟩ : ∃ x : Nat, Hid (f + tl = x) := ⟨_, rfl⟩
  have f1 : (il + 1) * tl = md := by rw [Nat.add_mul, Nat.one_mul, e1, ← e3, HMD.out]
  have f2 : (ir + 1) * tl = g := by rw [Nat.add_mul, Nat.one_mul, e2, HGF.out, e3, htl]; omega
  have okL : okA (kl : Int) (il : Int) := (okA_nat _ _).2 ⟨by have := HKL.out; omega, by rw [HTL.out, f1, ← HMD.out, e3]; omega⟩
  have okR' : okA (kl : Int) (ir : Int) := (okA_nat _ _).2 ⟨by have := HKL.out; omega, by rw [HTL.out, f2]; exact hg⟩
  rw [hkl, hil, kin_yes hok okL] at LF
  rw [hkl, hil, hir, kin_yes hok okR'] at RG
  have hilm : il ≤ 4611686018427387904 := by
    have h2 := okL.2.2.2
    have : (4611686018427387904 : Int) / 2 ^ (kl : Int).toNat ≤ 4611686018427387904 := Int.ediv_le_self _ (by omega)
    omega
  have hirm : ir ≤ 4611686018427387904 := by
    have h2 := okR'.2.2.2
    have : (4611686018427387904 : Int) / 2 ^ (kl : Int).toNat ≤ 4611686018427387904 := Int.ediv_le_self _ (by omega)
    omega
  have hklm : i64 (kl : Int) := i64_nat (by have := HKL.out; omega)
  have SPL : Hid (∀ w, Calls _ _ _ _ _) := fun w => SP kl il hklm (i64_nat hilm) w
  have SPR : Hid (∀ w, Calls _ _ _ _ _) := fun w => SP kl ir hklm (i64_nat hirm) w
  rw [spV_nat okL, HTL.out, f1, e1, ← e3] at SPL
  rw [spV_nat okR', HTL.out, f2, e2, ← e3, HMD.out] at SPR
  have PAL : Hid (∀ w, Calls _ _ _ _ _) := fun w => PA kl il hklm (i64_nat hilm) w
  have PAR : Hid (∀ w, Calls _ _ _ _ _) := fun w => PA kl ir hklm (i64_nat hirm) w
  have SIL : Hid (∀ w, Calls _ _ _ _ _) := fun w => SI kl il hklm (i64_nat hilm) w
  have SIR : Hid (∀ w, Calls _ _ _ _ _) := fun w => SI kl ir hklm (i64_nat hirm) w
  rw [show (kl : Int) + 1 = (k : Int) by have := HKL.out; omega, show (il : Int) / 2 = (i : Int) by rw [← HIL.out]; omega, kin_yes okL hok] at PAL
  rw [show (kl : Int) + 1 = (k : Int) by have := HKL.out; omega, show (ir : Int) / 2 = (i : Int) by rw [← HIR.out]; omega, kin_yes okR' hok] at PAR
  rw [show sib (il : Int) = (ir : Int) by unfold sib; rw [← HIR.out, ← HIL.out]; split <;> omega, kin_yes okL okR'] at SIL
  rw [show sib (ir : Int) = (il : Int) by unfold sib; rw [← HIR.out, ← HIL.out]; split <;> omega, kin_yes okR' okL] at SIR
  have k0 : ((k : Int) == 0) = false := by rw [beq_eq_false_iff_ne]; have := HKL.out; omega
  have qf : ((f : Int) == (f : Int)) = true := beq_self_eq_true _
  have qmd : ((md : Int) == (md : Int)) = true := beq_self_eq_true _
  have qg : ((g : Int) == (g : Int)) = true := beq_self_eq_true _
  have qd : ((md : Int) - f == (g : Int) - md) = true := by rw [beq_iff_eq]; have := HMD.out; have := HGF.out; omega
  have qkl : ((kl : Int) == (kl : Int)) = true := beq_self_eq_true _
  have qil : ((il : Int) == (il : Int)) = true := beq_self_eq_true _
  have qir : ((ir : Int) == (ir : Int)) = true := beq_self_eq_true _
  have hmd : md ≤ 4611686018427387904 := by rw [← HMD.out]; omega
  have HMF : Hid (f ≤ md ∧ md ≤ g) := ⟨by rw [← HMD.out]; omega, by rw [← HMD.out, HGF.out, htl]; omega⟩
  have hmf1 := HMF.out.1
  have hmf2 := HMF.out.2
  clear e1 e2 e3 f1 f2 htl hft2 okL okR' hkl hil hir
  clear VA SP PA SI LE RI hok hft h0 h1
  go_enter Try.func4, Try.ntmps4
  have HXa : Hid (Bx (w.alloc (.cells #[.int .i64 (k : Int), .int .i64 (i : Int)] 24)) w.heap.size (k : Int) (i : Int)) := bx_new _ _ _
  have B0 : Hid (Below w.heap.size w (w.alloc (.cells #[.int .i64 (k : Int), .int .i64 (i : Int)] 24))) := (Below.refl _ _).alloc (Nat.le_refl _) _
  obtain ⟨ca0, ca1⟩ := HXa.out
  go_wp2_with fail
  refine (SP1.out _).mono ?_
  rintro e w1 ⟨rfl, hb⟩
  have B1 : Hid (Below w.heap.size w w1) := over B0.out hb
  replace HXa : Hid (Bx w1 w.heap.size (k : Int) (i : Int)) := HXa.out.later hb
  clear ca0 ca1
  clear hb
  obtain ⟨ca0, ca1⟩ := HXa.out
  go_wp2_with fail
  refine (VL.out _).mono ?_
  rintro e w2 ⟨rfl, hb⟩
  have B2 : Hid (Below w.heap.size w w2) := over B1.out hb
  replace HXa : Hid (Bx w2 w.heap.size (k : Int) (i : Int)) := HXa.out.later hb
  clear ca0 ca1
  clear hb
  obtain ⟨ca0, ca1⟩ := HXa.out
  go_wp2_with fail
  refine (VA1.out _).mono ?_
  rintro e w3 ⟨rfl, hb⟩
  have B3 : Hid (Below w.heap.size w w3) := over B2.out hb
  replace HXa : Hid (Bx w3 w.heap.size (k : Int) (i : Int)) := HXa.out.later hb
  clear ca0 ca1
  clear hb
  go_wp2_with fail
  refine (N0.out _).mono ?_
  rintro e w4 ⟨rfl, hw⟩
  subst hw
  obtain ⟨ca0, ca1⟩ := HXa.out
  go_wp2_with fail
  refine (LF.out _).mono ?_
  rintro e w5 ⟨rfl, hb⟩
  have B5 : Hid (Below w.heap.size w w5) := over B3.out hb
  replace HXa : Hid (Bx w5 w.heap.size (k : Int) (i : Int)) := HXa.out.later hb
  clear ca0 ca1
  clear hb
  replace HXa : Hid (Bx (w5.alloc (.cells #[.int .i64 (kl : Int), .int .i64 (il : Int)] 24)) w.heap.size (k : Int) (i : Int)) := HXa.out.later ((Below.refl _ _).alloc (Nat.le_refl _) _)
  have HXl : Hid (Bx (w5.alloc (.cells #[.int .i64 (kl : Int), .int .i64 (il : Int)] 24)) w5.heap.size (kl : Int) (il : Int)) := bx_new _ _ _
  have B5b : Hid (Below w.heap.size w (w5.alloc (.cells #[.int .i64 (kl : Int), .int .i64 (il : Int)] 24))) := B5.out.alloc B5.out.size _
  obtain ⟨ca0, ca1⟩ := HXa.out
  go_wp2_with fail
  refine (RG.out _).mono ?_
  rintro e w6 ⟨rfl, hb⟩
  have B6 : Hid (Below w.heap.size w w6) := over B5b.out hb
  replace HXa : Hid (Bx w6 w.heap.size (k : Int) (i : Int)) := HXa.out.later hb
  replace HXl : Hid (Bx w6 w5.heap.size (kl : Int) (il : Int)) := HXl.out.later hb
  clear ca0 ca1
  clear hb
  replace HXa : Hid (Bx (w6.alloc (.cells #[.int .i64 (kl : Int), .int .i64 (ir : Int)] 24)) w.heap.size (k : Int) (i : Int)) := HXa.out.later ((Below.refl _ _).alloc (Nat.le_refl _) _)
  replace HXl : Hid (Bx (w6.alloc (.cells #[.int .i64 (kl : Int), .int .i64 (ir : Int)] 24)) w5.heap.size (kl : Int) (il : Int)) := HXl.out.later ((Below.refl _ _).alloc (Nat.le_refl _) _)
  have HXr : Hid (Bx (w6.alloc (.cells #[.int .i64 (kl : Int), .int .i64 (ir : Int)] 24)) w6.heap.size (kl : Int) (ir : Int)) := bx_new _ _ _
  have B6b : Hid (Below w.heap.size w (w6.alloc (.cells #[.int .i64 (kl : Int), .int .i64 (ir : Int)] 24))) := B6.out.alloc B6.out.size _
  obtain ⟨ca0, ca1⟩ := HXa.out
  go_wp2_with fail
  refine (PN.out _).mono ?_
  rintro e w7 ⟨rfl, hb⟩
  have B7 : Hid (Below w.heap.size w w7) := over B6b.out hb
  replace HXa : Hid (Bx w7 w.heap.size (k : Int) (i : Int)) := HXa.out.later hb
  replace HXl : Hid (Bx w7 w5.heap.size (kl : Int) (il : Int)) := HXl.out.later hb
  replace HXr : Hid (Bx w7 w6.heap.size (kl : Int) (ir : Int)) := HXr.out.later hb
  clear ca0 ca1
  clear hb
  replace HXa : Hid (Bx (w7.alloc (.cells #[.int .i64 (k1 : Int), .int .i64 (i2 : Int)] 24)) w.heap.size (k : Int) (i : Int)) := HXa.out.later ((Below.refl _ _).alloc (Nat.le_refl _) _)
  replace HXl : Hid (Bx (w7.alloc (.cells #[.int .i64 (k1 : Int), .int .i64 (i2 : Int)] 24)) w5.heap.size (kl : Int) (il : Int)) := HXl.out.later ((Below.refl _ _).alloc (Nat.le_refl _) _)
  replace HXr : Hid (Bx (w7.alloc (.cells #[.int .i64 (k1 : Int), .int .i64 (i2 : Int)] 24)) w6.heap.size (kl : Int) (ir : Int)) := HXr.out.later ((Below.refl _ _).alloc (Nat.le_refl _) _)
  have HXp : Hid (Bx (w7.alloc (.cells #[.int .i64 (k1 : Int), .int .i64 (i2 : Int)] 24)) w7.heap.size (k1 : Int) (i2 : Int)) := bx_new _ _ _
  have B7b : Hid (Below w.heap.size w (w7.alloc (.cells #[.int .i64 (k1 : Int), .int .i64 (i2 : Int)] 24))) := B7.out.alloc B7.out.size _
  obtain ⟨ca0, ca1⟩ := HXa.out
  go_wp2_with fail
  refine (SB.out _).mono ?_
  rintro e w8 ⟨rfl, hb⟩
  have B8 : Hid (Below w.heap.size w w8) := over B7b.out hb
  replace HXa : Hid (Bx w8 w.heap.size (k : Int) (i : Int)) := HXa.out.later hb
  replace HXl : Hid (Bx w8 w5.heap.size (kl : Int) (il : Int)) := HXl.out.later hb
  replace HXr : Hid (Bx w8 w6.heap.size (kl : Int) (ir : Int)) := HXr.out.later hb
  replace HXp : Hid (Bx w8 w7.heap.size (k1 : Int) (i2 : Int)) := HXp.out.later hb
  clear ca0 ca1
  clear hb
  replace HXa : Hid (Bx (w8.alloc (.cells #[.int .i64 (k : Int), .int .i64 (sx : Int)] 24)) w.heap.size (k : Int) (i : Int)) := HXa.out.later ((Below.refl _ _).alloc (Nat.le_refl _) _)
  replace HXl : Hid (Bx (w8.alloc (.cells #[.int .i64 (k : Int), .int .i64 (sx : Int)] 24)) w5.heap.size (kl : Int) (il : Int)) := HXl.out.later ((Below.refl _ _).alloc (Nat.le_refl _) _)
  replace HXr : Hid (Bx (w8.alloc (.cells #[.int .i64 (k : Int), .int .i64 (sx : Int)] 24)) w6.heap.size (kl : Int) (ir : Int)) := HXr.out.later ((Below.refl _ _).alloc (Nat.le_refl _) _)
  replace HXp : Hid (Bx (w8.alloc (.cells #[.int .i64 (k : Int), .int .i64 (sx : Int)] 24)) w7.heap.size (k1 : Int) (i2 : Int)) := HXp.out.later ((Below.refl _ _).alloc (Nat.le_refl _) _)
  have HXs : Hid (Bx (w8.alloc (.cells #[.int .i64 (k : Int), .int .i64 (sx : Int)] 24)) w8.heap.size (k : Int) (sx : Int)) := bx_new _ _ _
  have B8b : Hid (Below w.heap.size w (w8.alloc (.cells #[.int .i64 (k : Int), .int .i64 (sx : Int)] 24))) := B8.out.alloc B8.out.size _
  obtain ⟨ca0, ca1⟩ := HXa.out
  go_wp2_with fail
  have hw1 : IntKind.i64.wrap (t : Int) = t := by rw [IntKind.wrap_i64]; omega
  have hw2 : IntKind.u64.wrap (k : Int) = k := u64_is k (by omega)
  have hw3 : min (k : Int).toNat 64 = k := by omega
  have hw4 : min k 64 = k := by omega
  have hw5 : (t : Int) ≠ 0 := by omega
  have hw6 : ((t : Int) == 0) = false := by rw [beq_eq_false_iff_ne]; omega
  have hw7 : (f : Int) % (t : Int) = 0 := by rw [beq_iff_eq] at qm; exact qm
  have hw8 : (f : Int).tmod (t : Int) = 0 := by rw [Int.tmod_eq_emod_of_nonneg (by omega)]; exact hw7
  have hw9 : IntKind.i64.wrap 0 = 0 := by rw [IntKind.wrap_i64]; omega
  go_quiet ((go_at_call 7; exact Calls.quiet_of_same (num _ _)))
  clear hw1 hw2 hw3 hw4 hw5 hw6 hw7 hw8 hw9
  have DQ := below_dN (Below.refl ((w8.alloc (.cells #[.int .i64 (k : Int), .int .i64 (sx : Int)] 24)).heap.size) (w8.alloc (.cells #[.int .i64 (k : Int), .int .i64 (sx : Int)] 24))) nq
  replace HXa : Hid (Bx _ w.heap.size (k : Int) (i : Int)) := HXa.out.later DQ
  replace HXl : Hid (Bx _ w5.heap.size (kl : Int) (il : Int)) := HXl.out.later DQ
  replace HXr : Hid (Bx _ w6.heap.size (kl : Int) (ir : Int)) := HXr.out.later DQ
  replace HXp : Hid (Bx _ w7.heap.size (k1 : Int) (i2 : Int)) := HXp.out.later DQ
  replace HXs : Hid (Bx _ w8.heap.size (k : Int) (sx : Int)) := HXs.out.later DQ
  have BQ : Hid (Below w.heap.size w _) := over B8b.out DQ
  generalize World.drewN (w8.alloc (.cells #[.int .i64 (k : Int), .int .i64 (sx : Int)] 24)) nq = wq at *
  clear ca0 ca1
  clear DQ
  obtain ⟨ca0, ca1⟩ := HXa.out
  obtain ⟨cp0, cp1⟩ := HXp.out
  obtain ⟨cs0, cs1⟩ := HXs.out
  go_wp2_with fail
  refine (N0.out _).mono ?_
  rintro e w9 ⟨rfl, hw⟩
  subst hw
  clear ca0 ca1 cp0 cp1 cs0 cs1
  go_wp2_with fail
  refine (N0.out _).mono ?_
  rintro e w10 ⟨rfl, hw⟩
  subst hw
  obtain ⟨cl0, cl1⟩ := HXl.out
  go_wp2_with fail
  refine (SPL.out _).mono ?_
  rintro e w11 ⟨rfl, hb⟩
  have B11 : Hid (Below w.heap.size w w11) := over BQ.out hb
  replace HXa : Hid (Bx w11 w.heap.size (k : Int) (i : Int)) := HXa.out.later hb
  replace HXl : Hid (Bx w11 w5.heap.size (kl : Int) (il : Int)) := HXl.out.later hb
  replace HXr : Hid (Bx w11 w6.heap.size (kl : Int) (ir : Int)) := HXr.out.later hb
  replace HXp : Hid (Bx w11 w7.heap.size (k1 : Int) (i2 : Int)) := HXp.out.later hb
  replace HXs : Hid (Bx w11 w8.heap.size (k : Int) (sx : Int)) := HXs.out.later hb
  clear cl0 cl1
  clear hb
  obtain ⟨cr0, cr1⟩ := HXr.out
  go_wp2_with fail
  refine (SPR.out _).mono ?_
  rintro e w12 ⟨rfl, hb⟩
  have B12 : Hid (Below w.heap.size w w12) := over B11.out hb
  replace HXa : Hid (Bx w12 w.heap.size (k : Int) (i : Int)) := HXa.out.later hb
  replace HXl : Hid (Bx w12 w5.heap.size (kl : Int) (il : Int)) := HXl.out.later hb
  replace HXr : Hid (Bx w12 w6.heap.size (kl : Int) (ir : Int)) := HXr.out.later hb
  replace HXp : Hid (Bx w12 w7.heap.size (k1 : Int) (i2 : Int)) := HXp.out.later hb
  replace HXs : Hid (Bx w12 w8.heap.size (k : Int) (sx : Int)) := HXs.out.later hb
  clear cr0 cr1
  clear hb
  obtain ⟨cl0, cl1⟩ := HXl.out
  go_wp2_with fail
  refine (PAL.out _).mono ?_
  rintro e w13 ⟨rfl, hb⟩
  have B13 : Hid (Below w.heap.size w w13) := over B12.out hb
  replace HXa : Hid (Bx w13 w.heap.size (k : Int) (i : Int)) := HXa.out.later hb
  replace HXl : Hid (Bx w13 w5.heap.size (kl : Int) (il : Int)) := HXl.out.later hb
  replace HXr : Hid (Bx w13 w6.heap.size (kl : Int) (ir : Int)) := HXr.out.later hb
  replace HXp : Hid (Bx w13 w7.heap.size (k1 : Int) (i2 : Int)) := HXp.out.later hb
  replace HXs : Hid (Bx w13 w8.heap.size (k : Int) (sx : Int)) := HXs.out.later hb
  clear cl0 cl1
  clear hb
  replace HXa : Hid (Bx (w13.alloc (.cells #[.int .i64 (k : Int), .int .i64 (i : Int)] 24)) w.heap.size (k : Int) (i : Int)) := HXa.out.later ((Below.refl _ _).alloc (Nat.le_refl _) _)
  replace HXl : Hid (Bx (w13.alloc (.cells #[.int .i64 (k : Int), .int .i64 (i : Int)] 24)) w5.heap.size (kl : Int) (il : Int)) := HXl.out.later ((Below.refl _ _).alloc (Nat.le_refl _) _)
  replace HXr : Hid (Bx (w13.alloc (.cells #[.int .i64 (k : Int), .int .i64 (i : Int)] 24)) w6.heap.size (kl : Int) (ir : Int)) := HXr.out.later ((Below.refl _ _).alloc (Nat.le_refl _) _)
  replace HXp : Hid (Bx (w13.alloc (.cells #[.int .i64 (k : Int), .int .i64 (i : Int)] 24)) w7.heap.size (k1 : Int) (i2 : Int)) := HXp.out.later ((Below.refl _ _).alloc (Nat.le_refl _) _)
  replace HXs : Hid (Bx (w13.alloc (.cells #[.int .i64 (k : Int), .int .i64 (i : Int)] 24)) w8.heap.size (k : Int) (sx : Int)) := HXs.out.later ((Below.refl _ _).alloc (Nat.le_refl _) _)
  have HXu : Hid (Bx (w13.alloc (.cells #[.int .i64 (k : Int), .int .i64 (i : Int)] 24)) w13.heap.size (k : Int) (i : Int)) := bx_new _ _ _
  have B13b : Hid (Below w.heap.size w (w13.alloc (.cells #[.int .i64 (k : Int), .int .i64 (i : Int)] 24))) := B13.out.alloc B13.out.size _
  obtain ⟨cr0, cr1⟩ := HXr.out
  go_wp2_with fail
  refine (PAR.out _).mono ?_
  rintro e w14 ⟨rfl, hb⟩
  have B14 : Hid (Below w.heap.size w w14) := over B13b.out hb
  replace HXa : Hid (Bx w14 w.heap.size (k : Int) (i : Int)) := HXa.out.later hb
  replace HXl : Hid (Bx w14 w5.heap.size (kl : Int) (il : Int)) := HXl.out.later hb
  replace HXr : Hid (Bx w14 w6.heap.size (kl : Int) (ir : Int)) := HXr.out.later hb
  replace HXp : Hid (Bx w14 w7.heap.size (k1 : Int) (i2 : Int)) := HXp.out.later hb
  replace HXs : Hid (Bx w14 w8.heap.size (k : Int) (sx : Int)) := HXs.out.later hb
  replace HXu : Hid (Bx w14 w13.heap.size (k : Int) (i : Int)) := HXu.out.later hb
  clear cr0 cr1
  clear hb
  replace HXa : Hid (Bx (w14.alloc (.cells #[.int .i64 (k : Int), .int .i64 (i : Int)] 24)) w.heap.size (k : Int) (i : Int)) := HXa.out.later ((Below.refl _ _).alloc (Nat.le_refl _) _)
  replace HXl : Hid (Bx (w14.alloc (.cells #[.int .i64 (k : Int), .int .i64 (i : Int)] 24)) w5.heap.size (kl : Int) (il : Int)) := HXl.out.later ((Below.refl _ _).alloc (Nat.le_refl _) _)
  replace HXr : Hid (Bx (w14.alloc (.cells #[.int .i64 (k : Int), .int .i64 (i : Int)] 24)) w6.heap.size (kl : Int) (ir : Int)) := HXr.out.later ((Below.refl _ _).alloc (Nat.le_refl _) _)
  replace HXp : Hid (Bx (w14.alloc (.cells #[.int .i64 (k : Int), .int .i64 (i : Int)] 24)) w7.heap.size (k1 : Int) (i2 : Int)) := HXp.out.later ((Below.refl _ _).alloc (Nat.le_refl _) _)
  replace HXs : Hid (Bx (w14.alloc (.cells #[.int .i64 (k : Int), .int .i64 (i : Int)] 24)) w8.heap.size (k : Int) (sx : Int)) := HXs.out.later ((Below.refl _ _).alloc (Nat.le_refl _) _)
  replace HXu : Hid (Bx (w14.alloc (.cells #[.int .i64 (k : Int), .int .i64 (i : Int)] 24)) w13.heap.size (k : Int) (i : Int)) := HXu.out.later ((Below.refl _ _).alloc (Nat.le_refl _) _)
  have HXv : Hid (Bx (w14.alloc (.cells #[.int .i64 (k : Int), .int .i64 (i : Int)] 24)) w14.heap.size (k : Int) (i : Int)) := bx_new _ _ _
  have B14b : Hid (Below w.heap.size w (w14.alloc (.cells #[.int .i64 (k : Int), .int .i64 (i : Int)] 24))) := B14.out.alloc B14.out.size _
  obtain ⟨cl0, cl1⟩ := HXl.out
  go_wp2_with fail
  refine (SIL.out _).mono ?_
  rintro e w15 ⟨rfl, hb⟩
  have B15 : Hid (Below w.heap.size w w15) := over B14b.out hb
  replace HXa : Hid (Bx w15 w.heap.size (k : Int) (i : Int)) := HXa.out.later hb
  replace HXl : Hid (Bx w15 w5.heap.size (kl : Int) (il : Int)) := HXl.out.later hb
  replace HXr : Hid (Bx w15 w6.heap.size (kl : Int) (ir : Int)) := HXr.out.later hb
  replace HXp : Hid (Bx w15 w7.heap.size (k1 : Int) (i2 : Int)) := HXp.out.later hb
  replace HXs : Hid (Bx w15 w8.heap.size (k : Int) (sx : Int)) := HXs.out.later hb
  replace HXu : Hid (Bx w15 w13.heap.size (k : Int) (i : Int)) := HXu.out.later hb
  replace HXv : Hid (Bx w15 w14.heap.size (k : Int) (i : Int)) := HXv.out.later hb
  clear cl0 cl1
  clear hb
  replace HXa : Hid (Bx (w15.alloc (.cells #[.int .i64 (kl : Int), .int .i64 (ir : Int)] 24)) w.heap.size (k : Int) (i : Int)) := HXa.out.later ((Below.refl _ _).alloc (Nat.le_refl _) _)
  replace HXl : Hid (Bx (w15.alloc (.cells #[.int .i64 (kl : Int), .int .i64 (ir : Int)] 24)) w5.heap.size (kl : Int) (il : Int)) := HXl.out.later ((Below.refl _ _).alloc (Nat.le_refl _) _)
  replace HXr : Hid (Bx (w15.alloc (.cells #[.int .i64 (kl : Int), .int .i64 (ir : Int)] 24)) w6.heap.size (kl : Int) (ir : Int)) := HXr.out.later ((Below.refl _ _).alloc (Nat.le_refl _) _)
  replace HXp : Hid (Bx (w15.alloc (.cells #[.int .i64 (kl : Int), .int .i64 (ir : Int)] 24)) w7.heap.size (k1 : Int) (i2 : Int)) := HXp.out.later ((Below.refl _ _).alloc (Nat.le_refl _) _)
  replace HXs : Hid (Bx (w15.alloc (.cells #[.int .i64 (kl : Int), .int .i64 (ir : Int)] 24)) w8.heap.size (k : Int) (sx : Int)) := HXs.out.later ((Below.refl _ _).alloc (Nat.le_refl _) _)
  replace HXu : Hid (Bx (w15.alloc (.cells #[.int .i64 (kl : Int), .int .i64 (ir : Int)] 24)) w13.heap.size (k : Int) (i : Int)) := HXu.out.later ((Below.refl _ _).alloc (Nat.le_refl _) _)
  replace HXv : Hid (Bx (w15.alloc (.cells #[.int .i64 (kl : Int), .int .i64 (ir : Int)] 24)) w14.heap.size (k : Int) (i : Int)) := HXv.out.later ((Below.refl _ _).alloc (Nat.le_refl _) _)
  have HXx : Hid (Bx (w15.alloc (.cells #[.int .i64 (kl : Int), .int .i64 (ir : Int)] 24)) w15.heap.size (kl : Int) (ir : Int)) := bx_new _ _ _
  have B15b : Hid (Below w.heap.size w (w15.alloc (.cells #[.int .i64 (kl : Int), .int .i64 (ir : Int)] 24))) := B15.out.alloc B15.out.size _
  obtain ⟨cr0, cr1⟩ := HXr.out
  go_wp2_with fail
  refine (SIR.out _).mono ?_
  rintro e w16 ⟨rfl, hb⟩
  have B16 : Hid (Below w.heap.size w w16) := over B15b.out hb
  replace HXa : Hid (Bx w16 w.heap.size (k : Int) (i : Int)) := HXa.out.later hb
  replace HXl : Hid (Bx w16 w5.heap.size (kl : Int) (il : Int)) := HXl.out.later hb
  replace HXr : Hid (Bx w16 w6.heap.size (kl : Int) (ir : Int)) := HXr.out.later hb
  replace HXp : Hid (Bx w16 w7.heap.size (k1 : Int) (i2 : Int)) := HXp.out.later hb
  replace HXs : Hid (Bx w16 w8.heap.size (k : Int) (sx : Int)) := HXs.out.later hb
  replace HXu : Hid (Bx w16 w13.heap.size (k : Int) (i : Int)) := HXu.out.later hb
  replace HXv : Hid (Bx w16 w14.heap.size (k : Int) (i : Int)) := HXv.out.later hb
  replace HXx : Hid (Bx w16 w15.heap.size (kl : Int) (ir : Int)) := HXx.out.later hb
  clear cr0 cr1
  clear hb
  replace HXa : Hid (Bx (w16.alloc (.cells #[.int .i64 (kl : Int), .int .i64 (il : Int)] 24)) w.heap.size (k : Int) (i : Int)) := HXa.out.later ((Below.refl _ _).alloc (Nat.le_refl _) _)
  replace HXl : Hid (Bx (w16.alloc (.cells #[.int .i64 (kl : Int), .int .i64 (il : Int)] 24)) w5.heap.size (kl : Int) (il : Int)) := HXl.out.later ((Below.refl _ _).alloc (Nat.le_refl _) _)
  replace HXr : Hid (Bx (w16.alloc (.cells #[.int .i64 (kl : Int), .int .i64 (il : Int)] 24)) w6.heap.size (kl : Int) (ir : Int)) := HXr.out.later ((Below.refl _ _).alloc (Nat.le_refl _) _)
  replace HXp : Hid (Bx (w16.alloc (.cells #[.int .i64 (kl : Int), .int .i64 (il : Int)] 24)) w7.heap.size (k1 : Int) (i2 : Int)) := HXp.out.later ((Below.refl _ _).alloc (Nat.le_refl _) _)
  replace HXs : Hid (Bx (w16.alloc (.cells #[.int .i64 (kl : Int), .int .i64 (il : Int)] 24)) w8.heap.size (k : Int) (sx : Int)) := HXs.out.later ((Below.refl _ _).alloc (Nat.le_refl _) _)
  replace HXu : Hid (Bx (w16.alloc (.cells #[.int .i64 (kl : Int), .int .i64 (il : Int)] 24)) w13.heap.size (k : Int) (i : Int)) := HXu.out.later ((Below.refl _ _).alloc (Nat.le_refl _) _)
  replace HXv : Hid (Bx (w16.alloc (.cells #[.int .i64 (kl : Int), .int .i64 (il : Int)] 24)) w14.heap.size (k : Int) (i : Int)) := HXv.out.later ((Below.refl _ _).alloc (Nat.le_refl _) _)
  replace HXx : Hid (Bx (w16.alloc (.cells #[.int .i64 (kl : Int), .int .i64 (il : Int)] 24)) w15.heap.size (kl : Int) (ir : Int)) := HXx.out.later ((Below.refl _ _).alloc (Nat.le_refl _) _)
  have HXy : Hid (Bx (w16.alloc (.cells #[.int .i64 (kl : Int), .int .i64 (il : Int)] 24)) w16.heap.size (kl : Int) (il : Int)) := bx_new _ _ _
  have B16b : Hid (Below w.heap.size w (w16.alloc (.cells #[.int .i64 (kl : Int), .int .i64 (il : Int)] 24))) := B16.out.alloc B16.out.size _
  go_wp2_with fail
  refine (N0.out _).mono ?_
  rintro e w17 ⟨rfl, hw⟩
  subst hw
  go_wp2_with fail
  refine (N0.out _).mono ?_
  rintro e w18 ⟨rfl, hw⟩
  subst hw
  go_wp2_with fail
  refine (N0.out _).mono ?_
  rintro e w19 ⟨rfl, hw⟩
  subst hw
  go_wp2_with fail
  refine (N0.out _).mono ?_
  rintro e w20 ⟨rfl, hw⟩
  subst hw
  obtain ⟨ca0, ca1⟩ := HXa.out
  obtain ⟨cl0, cl1⟩ := HXl.out
  obtain ⟨cr0, cr1⟩ := HXr.out
  obtain ⟨cu0, cu1⟩ := HXu.out
  obtain ⟨cv0, cv1⟩ := HXv.out
  obtain ⟨cx0, cx1⟩ := HXx.out
  obtain ⟨cy0, cy1⟩ := HXy.out
  go_wp2
  go_ret
  exact ⟨rfl, B16b.out⟩
set_option maxHeartbeats 6400000 in
set_option maxRecDepth 100000 in
theorem kin_top (VA : ValidC) (SP : SpanC) (PA : ParentC) (SI : SiblingC) (LE : LeftC) (RI : RightC) (k i : Nat) (hge : ¬ k < 62) (hpos : 0 < k) (hok : okA k i) (w : World) :
    Calls Try.prog 4 #[.agg #[.int .i64 (k : Int), .int .i64 (i : Int)]] w fun e w' => e = .returned (.bool true) ∧ Below w.heap.size w w' := by
  have hk62 : ¬ (k : Int) < 62 := by omega
  have hd62 : decide ((k : Int) < 62) = false := decide_eq_false hk62
  have hk : k ≤ 62 := ((okA_nat k i).1 hok).1
  have hft := ((okA_nat k i).1 hok).2
  have him : i ≤ 4611686018427387904 := by
    have := Nat.le_mul_of_pos_right (i + 1) (p2 k)
    omega
  have h0 : i64 (k : Int) := i64_nat (by omega)
  have h1 : i64 (i : Int) := i64_nat him
  have SP1 : Hid (∀ w, Calls _ _ _ _ _) := fun w => SP k i h0 h1 w
  have VA1 : Hid (∀ w, Calls _ _ _ _ _) := fun w => VA k i h0 h1 w
  have VL : Hid (∀ w, Calls _ _ _ _ _) := fun w => validL k i h0 h1 w
  have LF : Hid (∀ w, Calls _ _ _ _ _) := fun w => LE k i h0 h1 w
  have RG : Hid (∀ w, Calls _ _ _ _ _) := fun w => RI k i h0 h1 w
  have PN : Hid (∀ w, Calls _ _ _ _ _) := fun w => PA k i h0 h1 w
  have SB : Hid (∀ w, Calls _ _ _ _ _) := fun w => SI k i h0 h1 w
  have N0 : Hid (∀ w, Calls _ _ _ _ _) := fun w => num 0 w
  have N50 : Hid (∀ w, Calls _ _ _ _ _) := fun w => num 50 w
  rw [decide_eq_true hok] at VA1 VL
  obtain ⟨f, HF⟩ : ∃ f, Hid (i * 2 ^ k = f) := ⟨_, rfl⟩
  obtain ⟨g, HG⟩ : ∃ g, Hid ((i + 1) * 2 ^ k = g) := ⟨_, rfl⟩
  obtain ⟨t, HT⟩ : ∃ t : Nat, Hid (2 ^ k = t) := ⟨_, rfl⟩
  have hT : (2 : Int) ^ k = (t : Int) := by rw [cast_pow, HT.out]
  have ht0 : 0 < t := by rw [← HT.out]; exact p2 k
  rw [spV_nat hok, HF.out, HG.out] at SP1
  have HGF : Hid (g = f + t) := by show _ = _; rw [← HG.out, ← HF.out, ← HT.out, Nat.add_mul, Nat.one_mul]
  have hg : g ≤ 4611686018427387904 := by rw [← HG.out]; exact hft
  have hgf : (g : Int) - f = t := by have := HGF.out; omega
  have qt : ((t : Int) == (t : Int)) = true := beq_self_eq_true _
  have qm : ((f : Int) % (t : Int) == 0) = true := by
    rw [beq_iff_eq, ← HF.out, HT.out, Int.natCast_mul, Int.mul_emod_left]
  have qk : ((k : Int) == (k : Int)) = true := beq_self_eq_true _
  have qi : ((i : Int) == (i : Int)) = true := beq_self_eq_true _
  have hno : ¬ okA ((k : Int) + 1) ((i : Int) / 2) := fun h => by have := h.2.1; omega
  have hns : ¬ okA (k : Int) (sib i) := by
    intro h
    have hk62 : k = 62 := by omega
    subst hk62
    have h2 := h.2.2.2
    rw [Int.toNat_natCast, cast_pow, p62] at h2
    rw [p62] at hft
    have : i = 0 := by omega
    subst this
    unfold sib at h2
    simp at h2
  rw [kin_no (fun h => hno h.2)] at PN
  rw [kin_no (fun h => hns h.2)] at SB
  obtain ⟨kl, HKL⟩ : ∃ x : Nat, Hid (k = x + 1) := ⟨k - 1, by show _ = _; omega⟩
  obtain ⟨il, HIL⟩ : ∃ x : Nat, Hid (2 * i = x) := ⟨_, rfl⟩
  obtain ⟨ir, HIR⟩ : ∃ x : Nat, Hid (2 * i + 1 = x) := ⟨_, rfl⟩
  obtain ⟨tl, HTL⟩ : ∃ x : Nat, Hid (2 ^ kl = x) := ⟨_, rfl⟩
  have htl : t = 2 * tl := by rw [← HT.out, HKL.out, p2s, HTL.out]
  have hkl : (k : Int) - 1 = (kl : Int) := by have := HKL.out; omega
  have hil : 2 * (i : Int) = (il : Int) := by rw [← HIL.out]; omega
  have hir : (il : Int) + 1 = (ir : Int) := by rw [← HIR.out, ← HIL.out]; omega
  have hft2 : 2 * (i * tl + tl) ≤ 4611686018427387904 := by
    have h := hft
    rw [HT.out, htl, Nat.add_mul, Nat.one_mul, Nat.mul_left_comm] at h
    omega
  have e1 : il * tl = 2 * (i * tl) := by rw [← HIL.out, Nat.mul_assoc]
  have e2 : ir * tl = 2 * (i * tl) + tl := by rw [← HIR.out, Nat.add_mul, Nat.one_mul, Nat.mul_assoc]
  have e3 : f = 2 * (i * tl) := by rw [← HF.out, HT.out, htl, Nat.mul_left_comm]
  obtain ⟨md, HMD⟩ : ∃ x : Nat, Hid (f + tl = x) := ⟨_, rfl⟩
  have f1 : (il + 1) * tl = md := by rw [Nat.add_mul, Nat.one_mul, e1, ← e3, HMD.out]
  have f2 : (ir + 1) * tl = g := by rw [Nat.add_mul, Nat.one_mul, e2, HGF.out, e3, htl]; omega
  have okL : okA (kl : Int) (il : Int) := (okA_nat _ _).2 ⟨by have := HKL.out; omega, by rw [HTL.out, f1, ← HMD.out, e3]; omega⟩
  have okR' : okA (kl : Int) (ir : Int) := (okA_nat _ _).2 ⟨by have := HKL.out; omega, by rw [HTL.out, f2]; exact hg⟩
  rw [hkl, hil, kin_yes hok okL] at LF
  rw [hkl, hil, hir, kin_yes hok okR'] at RG
  have hilm : il ≤ 4611686018427387904 := by
    have h2 := okL.2.2.2
    have : (4611686018427387904 : Int) / 2 ^ (kl : Int).toNat ≤ 4611686018427387904 := Int.ediv_le_self _ (by omega)
    omega
  have hirm : ir ≤ 4611686018427387904 := by
    have h2 := okR'.2.2.2
    have : (4611686018427387904 : Int) / 2 ^ (kl : Int).toNat ≤ 4611686018427387904 := Int.ediv_le_self _ (by omega)
    omega
  have hklm : i64 (kl : Int) := i64_nat (by have := HKL.out; omega)
  have SPL : Hid (∀ w, Calls _ _ _ _ _) := fun w => SP kl il hklm (i64_nat hilm) w
  have SPR : Hid (∀ w, Calls _ _ _ _ _) := fun w => SP kl ir hklm (i64_nat hirm) w
  rw [spV_nat okL, HTL.out, f1, e1, ← e3] at SPL
  rw [spV_nat okR', HTL.out, f2, e2, ← e3, HMD.out] at SPR
  have PAL : Hid (∀ w, Calls _ _ _ _ _) := fun w => PA kl il hklm (i64_nat hilm) w
  have PAR : Hid (∀ w, Calls _ _ _ _ _) := fun w => PA kl ir hklm (i64_nat hirm) w
  have SIL : Hid (∀ w, Calls _ _ _ _ _) := fun w => SI kl il hklm (i64_nat hilm) w
  have SIR : Hid (∀ w, Calls _ _ _ _ _) := fun w => SI kl ir hklm (i64_nat hirm) w
  rw [show (kl : Int) + 1 = (k : Int) by have := HKL.out; omega, show (il : Int) / 2 = (i : Int) by rw [← HIL.out]; omega, kin_yes okL hok] at PAL
  rw [show (kl : Int) + 1 = (k : Int) by have := HKL.out; omega, show (ir : Int) / 2 = (i : Int) by rw [← HIR.out]; omega, kin_yes okR' hok] at PAR
  rw [show sib (il : Int) = (ir : Int) by unfold sib; rw [← HIR.out, ← HIL.out]; split <;> omega, kin_yes okL okR'] at SIL
  rw [show sib (ir : Int) = (il : Int) by unfold sib; rw [← HIR.out, ← HIL.out]; split <;> omega, kin_yes okR' okL] at SIR
  have k0 : ((k : Int) == 0) = false := by rw [beq_eq_false_iff_ne]; have := HKL.out; omega
  have qf : ((f : Int) == (f : Int)) = true := beq_self_eq_true _
  have qmd : ((md : Int) == (md : Int)) = true := beq_self_eq_true _
  have qg : ((g : Int) == (g : Int)) = true := beq_self_eq_true _
  have qd : ((md : Int) - f == (g : Int) - md) = true := by rw [beq_iff_eq]; have := HMD.out; have := HGF.out; omega
  have qkl : ((kl : Int) == (kl : Int)) = true := beq_self_eq_true _
  have qil : ((il : Int) == (il : Int)) = true := beq_self_eq_true _
  have qir : ((ir : Int) == (ir : Int)) = true := beq_self_eq_true _
  have hmd : md ≤ 4611686018427387904 := by rw [← HMD.out]; omega
  have HMF : Hid (f ≤ md ∧ md ≤ g) := ⟨by rw [← HMD.out]; omega, by rw [← HMD.out, HGF.out, htl]; omega⟩
  have hmf1 := HMF.out.1
  have hmf2 := HMF.out.2
  clear e1 e2 e3 f1 f2 htl hft2 okL okR' hkl hil hir
  clear VA SP PA SI LE RI hok hft h0 h1
  go_enter Try.func4, Try.ntmps4
  have HXa : Hid (Bx (w.alloc (.cells #[.int .i64 (k : Int), .int .i64 (i : Int)] 24)) w.heap.size (k : Int) (i : Int)) := bx_new _ _ _
  have B0 : Hid (Below w.heap.size w (w.alloc (.cells #[.int .i64 (k : Int), .int .i64 (i : Int)] 24))) := (Below.refl _ _).alloc (Nat.le_refl _) _
  obtain ⟨ca0, ca1⟩ := HXa.out
  go_wp2_with fail
  refine (SP1.out _).mono ?_
  rintro e w1 ⟨rfl, hb⟩
  have B1 : Hid (Below w.heap.size w w1) := over B0.out hb
  replace HXa : Hid (Bx w1 w.heap.size (k : Int) (i : Int)) := HXa.out.later hb
  clear ca0 ca1
  clear hb
  obtain ⟨ca0, ca1⟩ := HXa.out
  go_wp2_with fail
  refine (VL.out _).mono ?_
  rintro e w2 ⟨rfl, hb⟩
  have B2 : Hid (Below w.heap.size w w2) := over B1.out hb
  replace HXa : Hid (Bx w2 w.heap.size (k : Int) (i : Int)) := HXa.out.later hb
  clear ca0 ca1
  clear hb
  obtain ⟨ca0, ca1⟩ := HXa.out
  go_wp2_with fail
  refine (VA1.out _).mono ?_
  rintro e w3 ⟨rfl, hb⟩
  have B3 : Hid (Below w.heap.size w w3) := over B2.out hb
  replace HXa : Hid (Bx w3 w.heap.size (k : Int) (i : Int)) := HXa.out.later hb
  clear ca0 ca1
  clear hb
  go_wp2_with fail
  refine (N0.out _).mono ?_
  rintro e w4 ⟨rfl, hw⟩
  subst hw
  obtain ⟨ca0, ca1⟩ := HXa.out
  go_wp2_with fail
  refine (LF.out _).mono ?_
  rintro e w5 ⟨rfl, hb⟩
  have B5 : Hid (Below w.heap.size w w5) := over B3.out hb
  replace HXa : Hid (Bx w5 w.heap.size (k : Int) (i : Int)) := HXa.out.later hb
  clear ca0 ca1
  clear hb
  replace HXa : Hid (Bx (w5.alloc (.cells #[.int .i64 (kl : Int), .int .i64 (il : Int)] 24)) w.heap.size (k : Int) (i : Int)) := HXa.out.later ((Below.refl _ _).alloc (Nat.le_refl _) _)
  have HXl : Hid (Bx (w5.alloc (.cells #[.int .i64 (kl : Int), .int .i64 (il : Int)] 24)) w5.heap.size (kl : Int) (il : Int)) := bx_new _ _ _
  have B5b : Hid (Below w.heap.size w (w5.alloc (.cells #[.int .i64 (kl : Int), .int .i64 (il : Int)] 24))) := B5.out.alloc B5.out.size _
  obtain ⟨ca0, ca1⟩ := HXa.out
  go_wp2_with fail
  refine (RG.out _).mono ?_
  rintro e w6 ⟨rfl, hb⟩
  have B6 : Hid (Below w.heap.size w w6) := over B5b.out hb
  replace HXa : Hid (Bx w6 w.heap.size (k : Int) (i : Int)) := HXa.out.later hb
  replace HXl : Hid (Bx w6 w5.heap.size (kl : Int) (il : Int)) := HXl.out.later hb
  clear ca0 ca1
  clear hb
  replace HXa : Hid (Bx (w6.alloc (.cells #[.int .i64 (kl : Int), .int .i64 (ir : Int)] 24)) w.heap.size (k : Int) (i : Int)) := HXa.out.later ((Below.refl _ _).alloc (Nat.le_refl _) _)
  replace HXl : Hid (Bx (w6.alloc (.cells #[.int .i64 (kl : Int), .int .i64 (ir : Int)] 24)) w5.heap.size (kl : Int) (il : Int)) := HXl.out.later ((Below.refl _ _).alloc (Nat.le_refl _) _)
  have HXr : Hid (Bx (w6.alloc (.cells #[.int .i64 (kl : Int), .int .i64 (ir : Int)] 24)) w6.heap.size (kl : Int) (ir : Int)) := bx_new _ _ _
  have B6b : Hid (Below w.heap.size w (w6.alloc (.cells #[.int .i64 (kl : Int), .int .i64 (ir : Int)] 24))) := B6.out.alloc B6.out.size _
  obtain ⟨ca0, ca1⟩ := HXa.out
  go_wp2_with fail
  refine (PN.out _).mono ?_
  rintro e w7 ⟨rfl, hb⟩
  have B7 : Hid (Below w.heap.size w w7) := over B6b.out hb
  replace HXa : Hid (Bx w7 w.heap.size (k : Int) (i : Int)) := HXa.out.later hb
  replace HXl : Hid (Bx w7 w5.heap.size (kl : Int) (il : Int)) := HXl.out.later hb
  replace HXr : Hid (Bx w7 w6.heap.size (kl : Int) (ir : Int)) := HXr.out.later hb
  clear ca0 ca1
  clear hb
  replace HXa : Hid (Bx (w7.alloc (.cells #[.int .i64 0, .int .i64 0] 24)) w.heap.size (k : Int) (i : Int)) := HXa.out.later ((Below.refl _ _).alloc (Nat.le_refl _) _)
  replace HXl : Hid (Bx (w7.alloc (.cells #[.int .i64 0, .int .i64 0] 24)) w5.heap.size (kl : Int) (il : Int)) := HXl.out.later ((Below.refl _ _).alloc (Nat.le_refl _) _)
  replace HXr : Hid (Bx (w7.alloc (.cells #[.int .i64 0, .int .i64 0] 24)) w6.heap.size (kl : Int) (ir : Int)) := HXr.out.later ((Below.refl _ _).alloc (Nat.le_refl _) _)
  have HXp : Hid (Bx (w7.alloc (.cells #[.int .i64 0, .int .i64 0] 24)) w7.heap.size 0 0) := bx_new _ _ _
  have B7b : Hid (Below w.heap.size w (w7.alloc (.cells #[.int .i64 0, .int .i64 0] 24))) := B7.out.alloc B7.out.size _
  obtain ⟨ca0, ca1⟩ := HXa.out
  go_wp2_with fail
  refine (SB.out _).mono ?_
  rintro e w8 ⟨rfl, hb⟩
  have B8 : Hid (Below w.heap.size w w8) := over B7b.out hb
  replace HXa : Hid (Bx w8 w.heap.size (k : Int) (i : Int)) := HXa.out.later hb
  replace HXl : Hid (Bx w8 w5.heap.size (kl : Int) (il : Int)) := HXl.out.later hb
  replace HXr : Hid (Bx w8 w6.heap.size (kl : Int) (ir : Int)) := HXr.out.later hb
  replace HXp : Hid (Bx w8 w7.heap.size 0 0) := HXp.out.later hb
  clear ca0 ca1
  clear hb
  replace HXa : Hid (Bx (w8.alloc (.cells #[.int .i64 0, .int .i64 0] 24)) w.heap.size (k : Int) (i : Int)) := HXa.out.later ((Below.refl _ _).alloc (Nat.le_refl _) _)
  replace HXl : Hid (Bx (w8.alloc (.cells #[.int .i64 0, .int .i64 0] 24)) w5.heap.size (kl : Int) (il : Int)) := HXl.out.later ((Below.refl _ _).alloc (Nat.le_refl _) _)
  replace HXr : Hid (Bx (w8.alloc (.cells #[.int .i64 0, .int .i64 0] 24)) w6.heap.size (kl : Int) (ir : Int)) := HXr.out.later ((Below.refl _ _).alloc (Nat.le_refl _) _)
  replace HXp : Hid (Bx (w8.alloc (.cells #[.int .i64 0, .int .i64 0] 24)) w7.heap.size 0 0) := HXp.out.later ((Below.refl _ _).alloc (Nat.le_refl _) _)
  have HXs : Hid (Bx (w8.alloc (.cells #[.int .i64 0, .int .i64 0] 24)) w8.heap.size 0 0) := bx_new _ _ _
  have B8b : Hid (Below w.heap.size w (w8.alloc (.cells #[.int .i64 0, .int .i64 0] 24))) := B8.out.alloc B8.out.size _
  obtain ⟨ca0, ca1⟩ := HXa.out
  go_wp2_with fail
  have hw1 : IntKind.i64.wrap (t : Int) = t := by rw [IntKind.wrap_i64]; omega
  have hw2 : IntKind.u64.wrap (k : Int) = k := u64_is k (by omega)
  have hw3 : min (k : Int).toNat 64 = k := by omega
  have hw4 : min k 64 = k := by omega
  have hw5 : (t : Int) ≠ 0 := by omega
  have hw6 : ((t : Int) == 0) = false := by rw [beq_eq_false_iff_ne]; omega
  have hw7 : (f : Int) % (t : Int) = 0 := by rw [beq_iff_eq] at qm; exact qm
  have hw8 : (f : Int).tmod (t : Int) = 0 := by rw [Int.tmod_eq_emod_of_nonneg (by omega)]; exact hw7
  have hw9 : IntKind.i64.wrap 0 = 0 := by rw [IntKind.wrap_i64]; omega
  go_quiet ((go_at_call 7; exact Calls.quiet_of_same (num _ _)))
  clear hw1 hw2 hw3 hw4 hw5 hw6 hw7 hw8 hw9
  have DQ := below_dN (Below.refl ((w8.alloc (.cells #[.int .i64 0, .int .i64 0] 24)).heap.size) (w8.alloc (.cells #[.int .i64 0, .int .i64 0] 24))) nq
  replace HXa : Hid (Bx _ w.heap.size (k : Int) (i : Int)) := HXa.out.later DQ
  replace HXl : Hid (Bx _ w5.heap.size (kl : Int) (il : Int)) := HXl.out.later DQ
  replace HXr : Hid (Bx _ w6.heap.size (kl : Int) (ir : Int)) := HXr.out.later DQ
  replace HXp : Hid (Bx _ w7.heap.size 0 0) := HXp.out.later DQ
  replace HXs : Hid (Bx _ w8.heap.size 0 0) := HXs.out.later DQ
  have BQ : Hid (Below w.heap.size w _) := over B8b.out DQ
  generalize World.drewN (w8.alloc (.cells #[.int .i64 0, .int .i64 0] 24)) nq = wq at *
  clear ca0 ca1
  clear DQ
  obtain ⟨ca0, ca1⟩ := HXa.out
  obtain ⟨cp0, cp1⟩ := HXp.out
  obtain ⟨cs0, cs1⟩ := HXs.out
  go_wp2_with fail
  refine (N0.out _).mono ?_
  rintro e w9 ⟨rfl, hw⟩
  subst hw
  clear ca0 ca1 cp0 cp1 cs0 cs1
  go_wp2_with fail
  refine (N0.out _).mono ?_
  rintro e w10 ⟨rfl, hw⟩
  subst hw
  obtain ⟨cl0, cl1⟩ := HXl.out
  go_wp2_with fail
  refine (SPL.out _).mono ?_
  rintro e w11 ⟨rfl, hb⟩
  have B11 : Hid (Below w.heap.size w w11) := over BQ.out hb
  replace HXa : Hid (Bx w11 w.heap.size (k : Int) (i : Int)) := HXa.out.later hb
  replace HXl : Hid (Bx w11 w5.heap.size (kl : Int) (il : Int)) := HXl.out.later hb
  replace HXr : Hid (Bx w11 w6.heap.size (kl : Int) (ir : Int)) := HXr.out.later hb
  replace HXp : Hid (Bx w11 w7.heap.size 0 0) := HXp.out.later hb
  replace HXs : Hid (Bx w11 w8.heap.size 0 0) := HXs.out.later hb
  clear cl0 cl1
  clear hb
  obtain ⟨cr0, cr1⟩ := HXr.out
  go_wp2_with fail
  refine (SPR.out _).mono ?_
  rintro e w12 ⟨rfl, hb⟩
  have B12 : Hid (Below w.heap.size w w12) := over B11.out hb
  replace HXa : Hid (Bx w12 w.heap.size (k : Int) (i : Int)) := HXa.out.later hb
  replace HXl : Hid (Bx w12 w5.heap.size (kl : Int) (il : Int)) := HXl.out.later hb
  replace HXr : Hid (Bx w12 w6.heap.size (kl : Int) (ir : Int)) := HXr.out.later hb
  replace HXp : Hid (Bx w12 w7.heap.size 0 0) := HXp.out.later hb
  replace HXs : Hid (Bx w12 w8.heap.size 0 0) := HXs.out.later hb
  clear cr0 cr1
  clear hb
  obtain ⟨cl0, cl1⟩ := HXl.out
  go_wp2_with fail
  refine (PAL.out _).mono ?_
  rintro e w13 ⟨rfl, hb⟩
  have B13 : Hid (Below w.heap.size w w13) := over B12.out hb
  replace HXa : Hid (Bx w13 w.heap.size (k : Int) (i : Int)) := HXa.out.later hb
  replace HXl : Hid (Bx w13 w5.heap.size (kl : Int) (il : Int)) := HXl.out.later hb
  replace HXr : Hid (Bx w13 w6.heap.size (kl : Int) (ir : Int)) := HXr.out.later hb
  replace HXp : Hid (Bx w13 w7.heap.size 0 0) := HXp.out.later hb
  replace HXs : Hid (Bx w13 w8.heap.size 0 0) := HXs.out.later hb
  clear cl0 cl1
  clear hb
  replace HXa : Hid (Bx (w13.alloc (.cells #[.int .i64 (k : Int), .int .i64 (i : Int)] 24)) w.heap.size (k : Int) (i : Int)) := HXa.out.later ((Below.refl _ _).alloc (Nat.le_refl _) _)
  replace HXl : Hid (Bx (w13.alloc (.cells #[.int .i64 (k : Int), .int .i64 (i : Int)] 24)) w5.heap.size (kl : Int) (il : Int)) := HXl.out.later ((Below.refl _ _).alloc (Nat.le_refl _) _)
  replace HXr : Hid (Bx (w13.alloc (.cells #[.int .i64 (k : Int), .int .i64 (i : Int)] 24)) w6.heap.size (kl : Int) (ir : Int)) := HXr.out.later ((Below.refl _ _).alloc (Nat.le_refl _) _)
  replace HXp : Hid (Bx (w13.alloc (.cells #[.int .i64 (k : Int), .int .i64 (i : Int)] 24)) w7.heap.size 0 0) := HXp.out.later ((Below.refl _ _).alloc (Nat.le_refl _) _)
  replace HXs : Hid (Bx (w13.alloc (.cells #[.int .i64 (k : Int), .int .i64 (i : Int)] 24)) w8.heap.size 0 0) := HXs.out.later ((Below.refl _ _).alloc (Nat.le_refl _) _)
  have HXu : Hid (Bx (w13.alloc (.cells #[.int .i64 (k : Int), .int .i64 (i : Int)] 24)) w13.heap.size (k : Int) (i : Int)) := bx_new _ _ _
  have B13b : Hid (Below w.heap.size w (w13.alloc (.cells #[.int .i64 (k : Int), .int .i64 (i : Int)] 24))) := B13.out.alloc B13.out.size _
  obtain ⟨cr0, cr1⟩ := HXr.out
  go_wp2_with fail
  refine (PAR.out _).mono ?_
  rintro e w14 ⟨rfl, hb⟩
  have B14 : Hid (Below w.heap.size w w14) := over B13b.out hb
  replace HXa : Hid (Bx w14 w.heap.size (k : Int) (i : Int)) := HXa.out.later hb
  replace HXl : Hid (Bx w14 w5.heap.size (kl : Int) (il : Int)) := HXl.out.later hb
  replace HXr : Hid (Bx w14 w6.heap.size (kl : Int) (ir : Int)) := HXr.out.later hb
  replace HXp : Hid (Bx w14 w7.heap.size 0 0) := HXp.out.later hb
  replace HXs : Hid (Bx w14 w8.heap.size 0 0) := HXs.out.later hb
  replace HXu : Hid (Bx w14 w13.heap.size (k : Int) (i : Int)) := HXu.out.later hb
  clear cr0 cr1
  clear hb
  replace HXa : Hid (Bx (w14.alloc (.cells #[.int .i64 (k : Int), .int .i64 (i : Int)] 24)) w.heap.size (k : Int) (i : Int)) := HXa.out.later ((Below.refl _ _).alloc (Nat.le_refl _) _)
  replace HXl : Hid (Bx (w14.alloc (.cells #[.int .i64 (k : Int), .int .i64 (i : Int)] 24)) w5.heap.size (kl : Int) (il : Int)) := HXl.out.later ((Below.refl _ _).alloc (Nat.le_refl _) _)
  replace HXr : Hid (Bx (w14.alloc (.cells #[.int .i64 (k : Int), .int .i64 (i : Int)] 24)) w6.heap.size (kl : Int) (ir : Int)) := HXr.out.later ((Below.refl _ _).alloc (Nat.le_refl _) _)
  replace HXp : Hid (Bx (w14.alloc (.cells #[.int .i64 (k : Int), .int .i64 (i : Int)] 24)) w7.heap.size 0 0) := HXp.out.later ((Below.refl _ _).alloc (Nat.le_refl _) _)
  replace HXs : Hid (Bx (w14.alloc (.cells #[.int .i64 (k : Int), .int .i64 (i : Int)] 24)) w8.heap.size 0 0) := HXs.out.later ((Below.refl _ _).alloc (Nat.le_refl _) _)
  replace HXu : Hid (Bx (w14.alloc (.cells #[.int .i64 (k : Int), .int .i64 (i : Int)] 24)) w13.heap.size (k : Int) (i : Int)) := HXu.out.later ((Below.refl _ _).alloc (Nat.le_refl _) _)
  have HXv : Hid (Bx (w14.alloc (.cells #[.int .i64 (k : Int), .int .i64 (i : Int)] 24)) w14.heap.size (k : Int) (i : Int)) := bx_new _ _ _
  have B14b : Hid (Below w.heap.size w (w14.alloc (.cells #[.int .i64 (k : Int), .int .i64 (i : Int)] 24))) := B14.out.alloc B14.out.size _
  obtain ⟨cl0, cl1⟩ := HXl.out
  go_wp2_with fail
  refine (SIL.out _).mono ?_
  rintro e w15 ⟨rfl, hb⟩
  have B15 : Hid (Below w.heap.size w w15) := over B14b.out hb
  replace HXa : Hid (Bx w15 w.heap.size (k : Int) (i : Int)) := HXa.out.later hb
  replace HXl : Hid (Bx w15 w5.heap.size (kl : Int) (il : Int)) := HXl.out.later hb
  replace HXr : Hid (Bx w15 w6.heap.size (kl : Int) (ir : Int)) := HXr.out.later hb
  replace HXp : Hid (Bx w15 w7.heap.size 0 0) := HXp.out.later hb
  replace HXs : Hid (Bx w15 w8.heap.size 0 0) := HXs.out.later hb
  replace HXu : Hid (Bx w15 w13.heap.size (k : Int) (i : Int)) := HXu.out.later hb
  replace HXv : Hid (Bx w15 w14.heap.size (k : Int) (i : Int)) := HXv.out.later hb
  clear cl0 cl1
  clear hb
  replace HXa : Hid (Bx (w15.alloc (.cells #[.int .i64 (kl : Int), .int .i64 (ir : Int)] 24)) w.heap.size (k : Int) (i : Int)) := HXa.out.later ((Below.refl _ _).alloc (Nat.le_refl _) _)
  replace HXl : Hid (Bx (w15.alloc (.cells #[.int .i64 (kl : Int), .int .i64 (ir : Int)] 24)) w5.heap.size (kl : Int) (il : Int)) := HXl.out.later ((Below.refl _ _).alloc (Nat.le_refl _) _)
  replace HXr : Hid (Bx (w15.alloc (.cells #[.int .i64 (kl : Int), .int .i64 (ir : Int)] 24)) w6.heap.size (kl : Int) (ir : Int)) := HXr.out.later ((Below.refl _ _).alloc (Nat.le_refl _) _)
  replace HXp : Hid (Bx (w15.alloc (.cells #[.int .i64 (kl : Int), .int .i64 (ir : Int)] 24)) w7.heap.size 0 0) := HXp.out.later ((Below.refl _ _).alloc (Nat.le_refl _) _)
  replace HXs : Hid (Bx (w15.alloc (.cells #[.int .i64 (kl : Int), .int .i64 (ir : Int)] 24)) w8.heap.size 0 0) := HXs.out.later ((Below.refl _ _).alloc (Nat.le_refl _) _)
  replace HXu : Hid (Bx (w15.alloc (.cells #[.int .i64 (kl : Int), .int .i64 (ir : Int)] 24)) w13.heap.size (k : Int) (i : Int)) := HXu.out.later ((Below.refl _ _).alloc (Nat.le_refl _) _)
  replace HXv : Hid (Bx (w15.alloc (.cells #[.int .i64 (kl : Int), .int .i64 (ir : Int)] 24)) w14.heap.size (k : Int) (i : Int)) := HXv.out.later ((Below.refl _ _).alloc (Nat.le_refl _) _)
  have HXx : Hid (Bx (w15.alloc (.cells #[.int .i64 (kl : Int), .int .i64 (ir : Int)] 24)) w15.heap.size (kl : Int) (ir : Int)) := bx_new _ _ _
  have B15b : Hid (Below w.heap.size w (w15.alloc (.cells #[.int .i64 (kl : Int), .int .i64 (ir : Int)] 24))) := B15.out.alloc B15.out.size _
  obtain ⟨cr0, cr1⟩ := HXr.out
  go_wp2_with fail
  refine (SIR.out _).mono ?_
  rintro e w16 ⟨rfl, hb⟩
  have B16 : Hid (Below w.heap.size w w16) := over B15b.out hb
  replace HXa : Hid (Bx w16 w.heap.size (k : Int) (i : Int)) := HXa.out.later hb
  replace HXl : Hid (Bx w16 w5.heap.size (kl : Int) (il : Int)) := HXl.out.later hb
  replace HXr : Hid (Bx w16 w6.heap.size (kl : Int) (ir : Int)) := HXr.out.later hb
  replace HXp : Hid (Bx w16 w7.heap.size 0 0) := HXp.out.later hb
  replace HXs : Hid (Bx w16 w8.heap.size 0 0) := HXs.out.later hb
  replace HXu : Hid (Bx w16 w13.heap.size (k : Int) (i : Int)) := HXu.out.later hb
  replace HXv : Hid (Bx w16 w14.heap.size (k : Int) (i : Int)) := HXv.out.later hb
  replace HXx : Hid (Bx w16 w15.heap.size (kl : Int) (ir : Int)) := HXx.out.later hb
  clear cr0 cr1
  clear hb
  replace HXa : Hid (Bx (w16.alloc (.cells #[.int .i64 (kl : Int), .int .i64 (il : Int)] 24)) w.heap.size (k : Int) (i : Int)) := HXa.out.later ((Below.refl _ _).alloc (Nat.le_refl _) _)
  replace HXl : Hid (Bx (w16.alloc (.cells #[.int .i64 (kl : Int), .int .i64 (il : Int)] 24)) w5.heap.size (kl : Int) (il : Int)) := HXl.out.later ((Below.refl _ _).alloc (Nat.le_refl _) _)
  replace HXr : Hid (Bx (w16.alloc (.cells #[.int .i64 (kl : Int), .int .i64 (il : Int)] 24)) w6.heap.size (kl : Int) (ir : Int)) := HXr.out.later ((Below.refl _ _).alloc (Nat.le_refl _) _)
  replace HXp : Hid (Bx (w16.alloc (.cells #[.int .i64 (kl : Int), .int .i64 (il : Int)] 24)) w7.heap.size 0 0) := HXp.out.later ((Below.refl _ _).alloc (Nat.le_refl _) _)
  replace HXs : Hid (Bx (w16.alloc (.cells #[.int .i64 (kl : Int), .int .i64 (il : Int)] 24)) w8.heap.size 0 0) := HXs.out.later ((Below.refl _ _).alloc (Nat.le_refl _) _)
  replace HXu : Hid (Bx (w16.alloc (.cells #[.int .i64 (kl : Int), .int .i64 (il : Int)] 24)) w13.heap.size (k : Int) (i : Int)) := HXu.out.later ((Below.refl _ _).alloc (Nat.le_refl _) _)
  replace HXv : Hid (Bx (w16.alloc (.cells #[.int .i64 (kl : Int), .int .i64 (il : Int)] 24)) w14.heap.size (k : Int) (i : Int)) := HXv.out.later ((Below.refl _ _).alloc (Nat.le_refl _) _)
  replace HXx : Hid (Bx (w16.alloc (.cells #[.int .i64 (kl : Int), .int .i64 (il : Int)] 24)) w15.heap.size (kl : Int) (ir : Int)) := HXx.out.later ((Below.refl _ _).alloc (Nat.le_refl _) _)
  have HXy : Hid (Bx (w16.alloc (.cells #[.int .i64 (kl : Int), .int .i64 (il : Int)] 24)) w16.heap.size (kl : Int) (il : Int)) := bx_new _ _ _
  have B16b : Hid (Below w.heap.size w (w16.alloc (.cells #[.int .i64 (kl : Int), .int .i64 (il : Int)] 24))) := B16.out.alloc B16.out.size _
  go_wp2_with fail
  refine (N0.out _).mono ?_
  rintro e w17 ⟨rfl, hw⟩
  subst hw
  go_wp2_with fail
  refine (N0.out _).mono ?_
  rintro e w18 ⟨rfl, hw⟩
  subst hw
  go_wp2_with fail
  refine (N0.out _).mono ?_
  rintro e w19 ⟨rfl, hw⟩
  subst hw
  go_wp2_with fail
  refine (N0.out _).mono ?_
  rintro e w20 ⟨rfl, hw⟩
  subst hw
  obtain ⟨ca0, ca1⟩ := HXa.out
  obtain ⟨cl0, cl1⟩ := HXl.out
  obtain ⟨cr0, cr1⟩ := HXr.out
  obtain ⟨cu0, cu1⟩ := HXu.out
  obtain ⟨cv0, cv1⟩ := HXv.out
  obtain ⟨cx0, cx1⟩ := HXx.out
  obtain ⟨cy0, cy1⟩ := HXy.out
  go_wp2
  go_ret
  exact ⟨rfl, B16b.out⟩
theorem tree_kin (VA : ValidC) (SP : SpanC) (PA : ParentC) (SI : SiblingC) (LE : LeftC) (RI : RightC) (L I : Int) (h0 : i64 L) (h1 : i64 I) (w : World) :
    Calls Try.prog 4 #[.agg #[.int .i64 L, .int .i64 I]] w fun e w' => e = .returned (.bool true) ∧ Below w.heap.size w w' := by
  by_cases hok : okA L I
  · obtain ⟨k, i, rfl, rfl, hk, hf⟩ := okA_form hok
    by_cases hz : k = 0
    · exact kin_leaf VA SP PA SI LE RI k i hz hok w
    · by_cases hlt : k < 62
      · exact kin_mid VA SP PA SI LE RI k i hlt (by omega) hok w
      · exact kin_top VA SP PA SI LE RI k i hlt (by omega) hok w
  · exact kin_bad VA SP PA SI LE RI L I h0 h1 hok w
end Go.Proofs.Ytjjeiklhmbhhoaa.ch
