import Derived.Test.YtpbapaghcabehaaDoorB5
import Derived.Deep.DeepCutAuto
namespace Go.Proofs.YtpbapaghcabehaaDoor.b6
open Go.RowKit Go.PlainAid Go.Shelf
open Go.Proofs.YtpbapaghcabehaaDoor.tb Go.Proofs.YtpbapaghcabehaaDoor.tc Go.Proofs.YtpbapaghcabehaaDoor.th Go.Proofs.YtpbapaghcabehaaDoor.tj Go.Proofs.YtpbapaghcabehaaDoor.tk Go.Proofs.YtpbapaghcabehaaDoor.va Go.Proofs.YtpbapaghcabehaaDoor.vb Go.Proofs.YtpbapaghcabehaaDoor.vc Go.Proofs.YtpbapaghcabehaaDoor.wa Go.Proofs.YtpbapaghcabehaaDoor.wb Go.Proofs.YtpbapaghcabehaaDoor.kp Go.Proofs.YtpbapaghcabehaaDoor.a1 Go.Proofs.YtpbapaghcabehaaDoor.a2 Go.Proofs.YtpbapaghcabehaaDoor.b1 Go.Proofs.YtpbapaghcabehaaDoor.b2 Go.Proofs.YtpbapaghcabehaaDoor.b3 Go.Proofs.YtpbapaghcabehaaDoor.b4 Go.Proofs.YtpbapaghcabehaaDoor.b5
set_option linter.unusedVariables false
set_option maxRecDepth 8000

-- does Ask take a request?
def t0 (old : Int) (n : Nat) : Bool := decide (0 ≤ old) && decide (old ≤ 4611686018427387904) && decide (n ≤ 63)
theorem rqE_t0 (old : Int) (pf : List ByteArray) : (t0 old pf.length && !pf.any badH) = decide (rqE old pf = 0) := by
  unfold rqE t0
  by_cases h1 : old < 0 ∨ 4611686018427387904 < old
  · rw [if_pos h1]
    have : (decide (0 ≤ old) && decide (old ≤ 4611686018427387904)) = false := by
      rw [Bool.and_eq_false_iff, decide_eq_false_iff_not, decide_eq_false_iff_not]; omega
    rw [this]; rfl
  · rw [if_neg h1, decide_eq_true (by omega : 0 ≤ old), decide_eq_true (by omega : old ≤ 4611686018427387904)]
    by_cases h2 : 63 < pf.length
    · rw [if_pos h2, decide_eq_false (by omega : ¬ pf.length ≤ 63)]; rfl
    · rw [if_neg h2, decide_eq_true (by omega : pf.length ≤ 63)]
      cases h3 : pf.any badH <;> rfl
set_option maxHeartbeats 6400000 in
theorem law_askback (old : Int) (pf : List ByteArray) (note : ByteArray) (a : Option Addr) (c : Nat) (b : ByteArray) (w : World) (hI : I64 old) (zn : note.size ≤ 1048576) (hr : Reads w (.slice a pf.length c) pf) (hz : pf.length ≤ 1048576) (zb : b.size ≤ 1048576) (N : Hid (NumW w)) (M : Hid (MaxW w)) :
    Calls Tryd.prog 3 #[.agg #[.int .i64 old, .slice a pf.length c, .string note], .string b] w fun e w' => e = .returned (.bool true) ∧ Below w.heap.size w w' := by
  have HR : Hid (Reads w (.slice a pf.length c) pf) := hr
  have HI : Hid (I64 old) := hI
  obtain ⟨W, HW⟩ : ∃ W, Hid (w.alloc (.cells #[.int .i64 old, .slice a pf.length c, .string note] 24) = W) := ⟨_, rfl⟩
  have BW : Hid (Below w.heap.size w W) := by rw [← HW.out]; exact (Below.refl _ _).alloc (Nat.le_refl _) _
  have zW : Hid (w.heap.size + 1 ≤ W.heap.size) := by show _ ≤ _; rw [← HW.out]; simp
  have SX : Hid (∀ w', Below (w.heap.size + 1) W w' → w'.cell? ⟨w.heap.size, 0, none⟩ = some (.int .i64 old) ∧ w'.cell? ⟨w.heap.size, 1, none⟩ = some (.slice a pf.length c) ∧ w'.cell? ⟨w.heap.size, 2, none⟩ = some (.string note)) := by
    rw [← HW.out]; exact fun w' h => box3 w w' _ _ _ _ h
  have CA : Hid (Calls _ _ _ _ _) := askC old pf note a c W hI (by omega) (hr.later BW.out) (by omega) (N.out.down BW.out)
  obtain ⟨p, HP⟩ : ∃ p, Hid (w.heap.size = p) := ⟨_, rfl⟩
  have FIN : Hid (∀ w', Below (p + 1) W w' → Below w.heap.size w w') := fun w' h => BW.out.trans (h.mono (by rw [← HP.out]; omega))
  have NW : Hid (∀ w', Below (p + 1) W w' → Hid (NumW w')) := fun w' h => N.out.down (FIN.out w' h)
  have MW : Hid (∀ w', Below (p + 1) W w' → Hid (MaxW w')) := fun w' h => M.out.down (FIN.out w' h)
  rw [HP.out] at SX zW
  have hzT : (rqT old pf note).size ≤ 1100000 := by
    by_cases h : rqE old pf = 0
    · rw [rqT_yes h]
      obtain ⟨_, _, h1, h2⟩ := rqE_yes h
      have := rqX_size old pf note hI h2 h1
      omega
    · rw [rqT_no h]; show 0 ≤ _; omega
  have HT2 : Hid ((rqE old pf = 0 → asP (rqT old pf note) = some ⟨old, pf, note⟩)) := fun h => by rw [rqT_yes h]; exact as_back old pf note hI h
  have CB : Hid (∀ w, Hid (NumW w) → Hid (MaxW w) → Calls _ _ _ _ _) := fun w h1 h2 => askedAny (rqT old pf note) hzT w h1 h2
  have CD : Hid (∀ w, Hid (NumW w) → Hid (MaxW w) → Calls _ _ _ _ _) := fun w h1 h2 => askedAny b (by omega) w h1 h2
  have HTE := rqE_t0 old pf
  obtain ⟨T, HT⟩ : ∃ T, Hid (rqT old pf note = T) := ⟨_, rfl⟩
  obtain ⟨E, HE⟩ : ∃ E, Hid (rqE old pf = E) := ⟨_, rfl⟩
  rw [HT.out, HE.out] at CA HT2
  rw [HT.out] at CB
  rw [HE.out] at HTE
  obtain ⟨n, HN⟩ : ∃ n, Hid (pf.length = n) := ⟨_, rfl⟩
  have hzn : n ≤ 1048576 := by rw [← HN.out]; exact hz
  obtain ⟨tt, HT0⟩ : ∃ tt, Hid (t0 old n = tt) := ⟨_, rfl⟩
  rw [HN.out, HT0.out] at HTE
  have HTE2 : Hid _ := HTE
  obtain ⟨p0, p1, p2⟩ := SX.out W (Below.refl _ _)
  rw [HN.out] at p1 SX CA HW HR ⊢
  have ZB : Hid (b.size ≤ 1048576) := zb
  clear hr hz zn hzT HTE hI zb
  have hcond : (¬ 0 ≤ old ∧ tt = false) ∨ (0 ≤ old ∧ ¬ old ≤ 4611686018427387904 ∧ tt = false) ∨ (0 ≤ old ∧ old ≤ 4611686018427387904 ∧ ¬ (n : Int) ≤ 63 ∧ tt = false) ∨ (0 ≤ old ∧ old ≤ 4611686018427387904 ∧ (n : Int) ≤ 63 ∧ tt = true) := by
    have h0 := HT0.out
    unfold t0 at h0
    by_cases h1 : 0 ≤ old
    · by_cases h2 : old ≤ 4611686018427387904
      · by_cases h3 : n ≤ 63
        · rw [decide_eq_true h1, decide_eq_true h2, decide_eq_true h3] at h0
          exact .inr (.inr (.inr ⟨h1, h2, by omega, h0.symm⟩))
        · rw [decide_eq_true h1, decide_eq_true h2, decide_eq_false h3] at h0
          exact .inr (.inr (.inl ⟨h1, h2, by omega, h0.symm⟩))
      · rw [decide_eq_true h1, decide_eq_false h2] at h0
        exact .inr (.inl ⟨h1, h2, h0.symm⟩)
    · rw [decide_eq_false h1] at h0
      exact .inl ⟨h1, h0.symm⟩
  have HCD : Hid _ := hcond
  clear hcond
  go_enter Tryd.func3, Tryd.ntmps3
  go_wp2_with fail
  rw [HP.out, HW.out]
  go_wp2_with fail
  refine CA.out.mono ?_
  rintro e w1 ⟨rfl, hb1⟩
  have B1 : Hid (Below (p + 1) W w1) := hb1.mono zW.out
  clear hb1 p0 p1 p2
  go_wp2_with fail
  refine (CB.out w1 (NW.out w1 B1.out) (MW.out w1 B1.out)).mono ?_
  rintro e w2 ⟨⟨o2, pf2, nt2, a2, c2, F, rfl, hr2, hl2, hF⟩, hb2⟩
  have B2 : Hid (Below (p + 1) W w2) := B1.out.trans (hb2.mono (Nat.le_trans zW.out B1.out.size))
  have HF : Hid _ := hF
  obtain ⟨V, HV⟩ : ∃ V, Hid (w2.alloc (.cells #[.int .i64 o2, .slice a2 pf2.length c2, .string nt2] 24) = V) := ⟨_, rfl⟩
  have BV : Hid (Below w2.heap.size w2 V) := by rw [← HV.out]; exact (Below.refl _ _).alloc (Nat.le_refl _) _
  have BVW : Hid (Below (p + 1) W V) := B2.out.trans (BV.out.mono (Nat.le_trans zW.out B2.out.size))
  have SV := box3 w2 V (.int .i64 o2) (.slice a2 pf2.length c2) (.string nt2) 24 (by rw [HV.out]; exact Below.refl _ _)
  have CS : Hid (Calls _ _ _ _ _) := sameReqC o2 old pf2 pf nt2 note a2 a c2 c V (hr2.later BV.out) (by rw [HN.out]; exact HR.out.later (FIN.out V BVW.out)) (by omega) (by rw [HN.out]; omega)
  obtain ⟨X, HX⟩ : ∃ X, Hid ((decide (pf2 = pf) && decide (o2 = old) && decide (nt2 = note)) = X) := ⟨_, rfl⟩
  rw [HX.out, HN.out] at CS
  have HOK : Hid (E = 0 → F = 0 ∧ X = true) := fun h => by
    rcases HF.out with ⟨h1, h2⟩ | ⟨h1, h2⟩
    · rw [HT2.out h] at h1
      injection h1 with h1
      injection h1 with h3 h4 h5
      refine ⟨h2, ?_⟩
      rw [← HX.out, decide_eq_true h4.symm, decide_eq_true h3.symm, decide_eq_true h5.symm]
      rfl
    · rw [HT2.out h] at h1; cases h1
  obtain ⟨v0, v1, v2⟩ := SV
  obtain ⟨p0, p1, p2⟩ := SX.out V BVW.out
  rw [← HV.out] at v0 v1 v2 p0 p1 p2
  clear hb2 hr2 hl2 hF
  go_wp2_with fail
  rw [HV.out] at v0 v1 v2 p0 p1 p2 ⊢
  refine CS.out.mono ?_
  rintro e w3 ⟨rfl, hb3⟩
  have B3 : Hid (Below (p + 1) W w3) := BVW.out.trans (hb3.mono (Nat.le_trans zW.out (Nat.le_trans B2.out.size BV.out.size)))
  clear hb3 v0 v1 v2 p0 p1 p2
  obtain ⟨p0, p1, p2⟩ := SX.out w3 B3.out
  go_upto_region 4 with fail
  go_cut [10] (fun tv wx => tv = .bool tt ∧ Hid (wx = w3))
  case first =>
    rcases HCD.out with ⟨h1, h4⟩ | ⟨h1, h2, h4⟩ | ⟨h1, h2, h3, h4⟩ | ⟨h1, h2, h3, h4⟩
    all_goals
      have HTT : Hid (tt = _) := h4
      clear h4
      go_wp2
      go_meet
      exact ⟨by first | (rw [HTT.out]; done) | (rw [HTT.out]; exact congrArg Value.bool (decide_eq_false (by omega))) | (rw [HTT.out]; exact congrArg Value.bool (decide_eq_true (by omega))), rfl⟩
  case rest =>
    obtain ⟨rfl, hwx⟩ := hcut
    have hw := hwx.out
    subst hw
    have HRW : Hid (Reads wc (.slice a n c) pf) := HR.out.later (FIN.out wc B3.out)
    have HA : Hid (∀ k (h : k < pf.length), _) := fun k h => rd_at HRW.out k h
    have NC : Hid (NumW wc) := NW.out wc B3.out
    have MC : Hid (MaxW wc) := MW.out wc B3.out
    have CDC : Hid (Calls _ _ _ _ _) := CD.out wc NC MC
    go_wp2
    go_loopw [10, 11] (fun t i wr => ∃ (k : Nat), k ≤ n ∧ i = .int .i64 k ∧ t = .bool (tt && !(pf.take k).any badH) ∧ wr = wc) (fun _ i _ => (n - intOf i).toNat)
    case atStart => exact ⟨0, Nat.zero_le _, rfl, by simp, rfl⟩
    case round =>
      obtain ⟨k, hk, rfl, ht, hwr⟩ := hrel
      subst hwr
      obtain ⟨tv, HTV⟩ : ∃ tv, Hid ((tt && !(pf.take k).any badH) = tv) := ⟨_, rfl⟩
      rw [HTV.out] at ht
      subst ht
      by_cases hlt : k < n
      · have hlt' : (k : Int) < n := by omega
        have hkl : k < pf.length := by rw [HN.out]; exact hlt
        obtain ⟨b1, off, rfl, hbw, q1⟩ := HA.out k hkl
        obtain ⟨x, HXX⟩ : ∃ x, Hid (pf[k]'hkl = x) := ⟨_, rfl⟩
        rw [HXX.out] at q1
        have HNX : Hid ((tt && !(pf.take (k + 1)).any badH) = (tv && !badH x)) := by
          show _ = _
          rw [List.take_succ_eq_append_getElem hkl, List.any_append, HXX.out, ← HTV.out]
          simp only [List.any_cons, List.any_nil, Bool.or_false]
          cases tt <;> cases (pf.take k).any badH <;> cases badH x <;> rfl
        clear hbw HXX
        cases tv with
        | false =>
          go_wp2
          go_roundw
          case rel => exact ⟨k + 1, by omega, by go_num, by rw [HNX.out]; rfl, trivial⟩
          case measure => simp [intOf]; omega
        | true =>
          have hcs : (¬ (1 : Int) ≤ (x.size : Int) ∧ badH x = true) ∨ ((1 : Int) ≤ (x.size : Int) ∧ ¬ (x.size : Int) ≤ 32 ∧ badH x = true) ∨ ((1 : Int) ≤ (x.size : Int) ∧ (x.size : Int) ≤ 32 ∧ badH x = false) := by
            unfold badH
            by_cases h1 : x.size < 1 ∨ 32 < x.size
            · by_cases h2 : x.size < 1
              · exact .inl ⟨by omega, decide_eq_true h1⟩
              · exact .inr (.inl ⟨by omega, by omega, decide_eq_true h1⟩)
            · exact .inr (.inr ⟨by omega, by omega, decide_eq_false h1⟩)
          rcases hcs with ⟨h1, hb⟩ | ⟨h1, h2, hb⟩ | ⟨h1, h2, hb⟩
          all_goals
            have HBX : Hid (badH x = _) := hb
            clear hb
            go_wp2
            go_roundw
            case rel => exact ⟨k + 1, by omega, by go_num, by first | (rw [HNX.out, HBX.out]; done) | (rw [HNX.out, HBX.out]; rfl) | (rw [HNX.out, HBX.out]; exact congrArg Value.bool (decide_eq_false (by omega))) | (rw [HNX.out, HBX.out]; exact congrArg Value.bool (decide_eq_true (by omega))), trivial⟩
            case measure => simp [intOf]; omega
      · have hlt' : ¬ (k : Int) < n := by omega
        obtain rfl : k = n := by omega
        have HTA : Hid (pf.take k = pf) := by show _ = _; rw [← HN.out, List.take_length]
        have HTT : Hid (tv = decide (E = 0)) := by show _ = _; rw [← HTV.out, HTA.out]; exact HTE2.out
        have hcs : (E = 0 ∧ tv = true) ∨ (E ≠ 0 ∧ tv = false) := by
          by_cases h : E = 0
          · exact .inl ⟨h, by rw [HTT.out]; exact decide_eq_true h⟩
          · exact .inr ⟨h, by rw [HTT.out]; exact decide_eq_false h⟩
        have hcs2 : (E = 0 ∧ tv = true ∧ F = 0 ∧ X = true) ∨ (E ≠ 0 ∧ tv = false) := by
          rcases hcs with ⟨h1, h2⟩ | h
          · exact .inl ⟨h1, h2, (HOK.out h1).1, (HOK.out h1).2⟩
          · exact .inr h
        clear HTV HTT HTE2 hcs HOK HX HF HT2 HE HCD
        rcases hcs2 with ⟨rfl, rfl, rfl, rfl⟩ | ⟨h1, rfl⟩
        all_goals
          go_wp2_with fail
          refine CDC.out.mono ?_
          rintro e w4 ⟨⟨o3, pf3, nt3, a3, c3, G, rfl, hr3, hl3, hG⟩, hb4⟩
          have B4 : Hid (Below (p + 1) W w4) := B3.out.trans (hb4.mono (Nat.le_trans zW.out B3.out.size))
          obtain ⟨V2, HV2⟩ : ∃ V2, Hid (w4.alloc (.cells #[.int .i64 o3, .slice a3 pf3.length c3, .string nt3] 24) = V2) := ⟨_, rfl⟩
          have BV2 : Hid (Below w4.heap.size w4 V2) := by rw [← HV2.out]; exact (Below.refl _ _).alloc (Nat.le_refl _) _
          have BV2W : Hid (Below (p + 1) W V2) := B4.out.trans (BV2.out.mono (Nat.le_trans zW.out B4.out.size))
          have SV2 := box3 w4 V2 (.int .i64 o3) (.slice a3 pf3.length c3) (.string nt3) 24 (by rw [HV2.out]; exact Below.refl _ _)
          have HR3 : Hid (Reads V2 (.slice a3 pf3.length c3) pf3) := hr3.later BV2.out
          have HL3 : Hid (pf3.length ≤ 1100001) := hl3
          clear hr3 hl3 hb4
          rcases hG with ⟨hG, rfl⟩ | ⟨hG, rfl⟩
          · obtain ⟨hf, hE3, hT3⟩ := as_form b _ hG
            obtain ⟨i3, z3, _⟩ := fr_small b _ hf
            simp only at hE3 hT3 i3 z3
            have CA3 : Hid (Calls _ _ _ _ _) := askC o3 pf3 nt3 a3 c3 V2 i3 (by have := ZB.out; omega) HR3.out (by have := HL3.out; omega) (NW.out V2 BV2W.out)
            rw [hE3, hT3] at CA3
            have gbb : (b.toList == b.toList) = true := beq_self_eq_true _
            obtain ⟨v0, v1, v2⟩ := SV2
            rw [← HV2.out] at v0 v1 v2
            clear hG hf hE3 hT3 i3 z3
            go_wp2_with fail
            rw [HV2.out]
            clear v0 v1 v2
            refine CA3.out.mono ?_
            rintro e w5 ⟨rfl, hb5⟩
            have B5 : Hid (Below (p + 1) W w5) := BV2W.out.trans (hb5.mono (Nat.le_trans zW.out (Nat.le_trans B4.out.size BV2.out.size)))
            clear hb5
            go_wp2
            go_ret
            exact ⟨rfl, FIN.out w5 B5.out⟩
          · clear hG SV2
            go_wp2_with fail
            go_ret
            rw [HV2.out]
            exact ⟨rfl, FIN.out V2 BV2W.out⟩
end Go.Proofs.YtpbapaghcabehaaDoor.b6
