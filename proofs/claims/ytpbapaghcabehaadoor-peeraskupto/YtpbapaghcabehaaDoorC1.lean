import Derived.Test.YtpbapaghcabehaaDoorB2
import Derived.Test.YtpbapaghcabehaaDoorTn
import Derived.Test.YtpbapaghcabehaaDoorTp
import Derived.Test.YtpbapaghcabehaaDoorWc
namespace Go.Proofs.YtpbapaghcabehaaDoor.c1
open Go.RowKit Go.PlainAid Go.Shelf
open Go.Proofs.YtpbapaghcabehaaDoor.tb Go.Proofs.YtpbapaghcabehaaDoor.tc Go.Proofs.YtpbapaghcabehaaDoor.tj Go.Proofs.YtpbapaghcabehaaDoor.tn Go.Proofs.YtpbapaghcabehaaDoor.tp Go.Proofs.YtpbapaghcabehaaDoor.vb Go.Proofs.YtpbapaghcabehaaDoor.vc Go.Proofs.YtpbapaghcabehaaDoor.wa Go.Proofs.YtpbapaghcabehaaDoor.wb Go.Proofs.YtpbapaghcabehaaDoor.wc Go.Proofs.YtpbapaghcabehaaDoor.kp Go.Proofs.YtpbapaghcabehaaDoor.a1 Go.Proofs.YtpbapaghcabehaaDoor.a2 Go.Proofs.YtpbapaghcabehaaDoor.b1 Go.Proofs.YtpbapaghcabehaaDoor.b2
set_option linter.unusedVariables false

theorem rqE_bad {old : Int} {pf : List ByteArray} (h0 : 0 ≤ old) (h1 : old ≤ 4611686018427387904) (h2 : pf.length ≤ 63) (h : pf.any badH = true) : rqE old pf = 72 := by
  unfold rqE
  rw [if_neg (by omega), if_neg (by omega), if_pos h]
theorem rqE_ok {old : Int} {pf : List ByteArray} (h0 : 0 ≤ old) (h1 : old ≤ 4611686018427387904) (h2 : pf.length ≤ 63) (h : pf.any badH = false) : rqE old pf = 0 := by
  unfold rqE
  rw [if_neg (by omega), if_neg (by omega), if_neg (by rw [h]; decide)]
theorem rqK_take (old : Int) (pf : List ByteArray) (hI : I64 old) (k : Nat) (hk : k ≤ 63) (hb : (pf.take k).any badH = false) : (rqK old pf k).size ≤ 3000 := by
  have h := rqK_size old (pf.take k) hI hb (by rw [List.length_take]; omega) k
  unfold rqK at h ⊢
  rwa [List.take_take, Nat.min_self] at h
set_option maxHeartbeats 3200000 in
theorem askD (old : Int) (pf : List ByteArray) (note : ByteArray) (a : Option Addr) (c : Nat) (w : World) (hI : I64 old) (zn : note.size ≤ 2000000) (hr : Reads w (.slice a pf.length c) pf) (hz : pf.length ≤ 1000000000) :
    Calls Tryd.prog 8 #[.agg #[.int .i64 old, .slice a pf.length c, .string note]] w fun e w' => e = .returned (.tuple #[.string (rqT old pf note), .int .i64 (rqE old pf)]) ∧ Below w.heap.size w w' := by
  have HR : Hid (Reads w (.slice a pf.length c) pf) := hr
  obtain ⟨n, HN⟩ : ∃ n, Hid (pf.length = n) := ⟨_, rfl⟩
  have hzn : n ≤ 1000000000 := by rw [← HN.out]; exact hz
  obtain ⟨W, HW⟩ : ∃ W, Hid (w.alloc (.cells #[.int .i64 old, .slice a pf.length c, .string note] 24) = W) := ⟨_, rfl⟩
  have BW : Hid (Below w.heap.size w W) := by rw [← HW.out]; exact (Below.refl _ _).alloc (Nat.le_refl _) _
  have SX : Hid (∀ w', Below (w.heap.size + 1) W w' → w'.cell? ⟨w.heap.size, 0, none⟩ = some (.int .i64 old) ∧ w'.cell? ⟨w.heap.size, 1, none⟩ = some (.slice a pf.length c) ∧ w'.cell? ⟨w.heap.size, 2, none⟩ = some (.string note)) := by
    rw [← HW.out]; exact fun w' h => box3 w w' _ _ _ _ h
  obtain ⟨p, HP⟩ : ∃ p, Hid (w.heap.size = p) := ⟨_, rfl⟩
  have FIN : Hid (∀ w', Below (p + 1) W w' → Below w.heap.size w w') := fun w' h => BW.out.trans (h.mono (by rw [← HP.out]; omega))
  have FIN2 : Hid (∀ w', Below (p + 1) W w' → Below p w w') := fun w' h => by rw [← HP.out]; exact FIN.out w' h
  rw [HP.out, HN.out] at SX
  obtain ⟨p0, p1, p2⟩ := SX.out W (Below.refl _ _)
  have zWW : Hid (p + 1 ≤ W.heap.size) := by show _ ≤ _; rw [← HW.out, ← HP.out]; simp
  rw [HN.out] at HR HW ⊢
  by_cases h1 : old < 0 ∨ 4611686018427387904 < old
  · have hE : rqE old pf = 10 := by unfold rqE; rw [if_pos h1]
    have hX : rqT old pf note = ByteArray.empty := rqT_no (by rw [hE]; decide)
    rw [hE, hX]
    have hcs : old < 0 ∨ (¬ old < 0 ∧ old > 4611686018427387904) := by omega
    clear h1 hE hX hr hz
    rcases hcs with h1 | ⟨h1, h2⟩
    all_goals
      go_enter Tryd.func8, Tryd.ntmps8
      go_wp2_with fail
      rw [HP.out, HW.out]
      go_wp2
      go_ret2
      first
        | exact ⟨rfl, FIN.out W (Below.refl _ _)⟩
        | exact ⟨rfl, FIN2.out W (Below.refl _ _)⟩
  · have g0 : 0 ≤ old := by omega
    have g1 : old ≤ 4611686018427387904 := by omega
    have g2 : ¬ old < 0 := by omega
    have g3 : ¬ old > 4611686018427387904 := by omega
    clear h1
    by_cases h2 : 63 < n
    · have hE : rqE old pf = 83 := by unfold rqE; rw [if_neg (by omega), HN.out, if_pos h2]
      have hX : rqT old pf note = ByteArray.empty := rqT_no (by rw [hE]; decide)
      rw [hE, hX]
      have g4 : (n : Int) > 63 := by omega
      clear hE hX hr hz h2
      go_enter Tryd.func8, Tryd.ntmps8
      go_wp2_with fail
      rw [HP.out, HW.out]
      go_wp2
      go_ret2
      first
        | exact ⟨rfl, FIN.out W (Below.refl _ _)⟩
        | exact ⟨rfl, FIN2.out W (Below.refl _ _)⟩
    · have g4 : ¬ (n : Int) > 63 := by omega
      have hl63 : pf.length ≤ 63 := by rw [HN.out]; omega
      have HBAD : Hid (pf.any badH = true → rqE old pf = 72 ∧ rqT old pf note = ByteArray.empty) := fun h => by
        have := rqE_bad g0 g1 hl63 h
        exact ⟨this, rqT_no (by rw [this]; decide)⟩
      have HGOOD : Hid (pf.any badH = false → rqE old pf = 0 ∧ rqT old pf note = rqK old pf n ++ (nlB ++ note)) := fun h => by
        have := rqE_ok g0 g1 hl63 h
        refine ⟨this, ?_⟩
        rw [rqT_yes this, ← rqK_all old pf note, HN.out]
      obtain ⟨E, HE⟩ : ∃ E, Hid (rqE old pf = E) := ⟨_, rfl⟩
      obtain ⟨X, HX⟩ : ∃ X, Hid (rqT old pf note = X) := ⟨_, rfl⟩
      rw [HE.out, HX.out] at HBAD HGOOD ⊢
      have HKZ : Hid (∀ k, k ≤ n → (pf.take k).any badH = false → (rqK old pf k).size ≤ 3000) := fun k hk hb => rqK_take old pf hI k (by omega) hb
      have zd := dec_size old hI
      have C3 : Hid (∀ w, Calls _ _ _ _ _) := fun w => rDec (old.natAbs + 1) old hI (by omega) w
      obtain ⟨d, HD⟩ : ∃ d, Hid (decS old = d) := ⟨_, rfl⟩
      obtain ⟨q, HQ⟩ : ∃ q, Hid ((⟨#[111, 108, 100, 32]⟩ : ByteArray) ++ d ++ (⟨#[10]⟩ : ByteArray) = q) := ⟨_, rfl⟩
      have hq : (⟨#[111, 108, 100, 32]⟩ : ByteArray) ++ d ++ (⟨#[10]⟩ : ByteArray) = q := HQ.out
      have HQK : Hid (rqK old pf 0 = q) := by show _ = _; rw [rqK_zero]; unfold hdB; rw [HD.out]; exact HQ.out
      have z4 : (⟨#[111, 108, 100, 32]⟩ : ByteArray).size = 4 := rfl
      have z1 : (⟨#[10]⟩ : ByteArray).size = 1 := rfl
      rw [HD.out] at C3 zd
      have HI : Hid (I64 old) := hI
      clear hr hz h2 hI hl63
      go_enter Tryd.func8, Tryd.ntmps8
      go_wp2_with fail
      rw [HP.out, HW.out]
      go_wp2_with fail
      refine (C3.out _).mono ?_
      rintro e wz ⟨rfl, hz⟩
      rw [hz]
      clear hz wz
      go_wp2
      go_loopw [5, 6] (fun s i wr => ∃ k : Nat, k ≤ n ∧ i = .int .i64 k ∧ s = .string (rqK old pf k) ∧ Hid ((pf.take k).any badH = false) ∧ Hid (Below (p + 1) W wr)) (fun _ i _ => (n - intOf i).toNat)
      case atStart => exact ⟨0, by omega, rfl, by rw [HQK.out], rfl, Below.refl _ _⟩
      case round =>
        clear p0 p1 p2
        obtain ⟨k, hk, rfl, rfl, HK, HB⟩ := hrel
        obtain ⟨p0, p1, p2⟩ := SX.out wr HB.out
        have zk := HKZ.out k hk HK.out
        by_cases hlt : k < n
        · have hlt' : (k : Int) < n := by omega
          have hkl : k < pf.length := by rw [HN.out]; exact hlt
          obtain ⟨b, off, rfl, hbw, q1⟩ := rd_at HR.out k hkl
          obtain ⟨x, HXX⟩ : ∃ x, Hid (pf[k]'hkl = x) := ⟨_, rfl⟩
          rw [HXX.out] at q1
          have c1 := ((FIN.out wr HB.out).cell (p := ⟨b, off + k, none⟩) hbw).trans q1
          have HNX : Hid ((pf.take (k + 1)).any badH = badH x) := by
            show _ = _
            rw [List.take_succ_eq_append_getElem hkl, List.any_append, HK.out, HXX.out]
            simp
          have HYES : Hid (badH x = true → pf.any badH = true) := fun h => by
            rw [List.any_eq_true]
            exact ⟨x, by rw [← HXX.out]; exact List.getElem_mem hkl, h⟩
          have HRS : Hid (rqK old pf (k + 1) = rqK old pf k ++ (b64S x ++ nlB)) := by show _ = _; rw [rqK_succ old pf k hkl, HXX.out]
          clear q1 HXX
          by_cases hb : x.size < 1 ∨ 32 < x.size
          · obtain ⟨hE, hX⟩ := HBAD.out (HYES.out (decide_eq_true hb))
            have HE2 : Hid (E = 72) := hE
            have HX2 : Hid (X = ByteArray.empty) := hX
            have hcs : (x.size : Int) < 1 ∨ (¬ (x.size : Int) < 1 ∧ (x.size : Int) > 32) := by omega
            clear hb hE hX
            rcases hcs with h4 | ⟨h4, h5⟩
            all_goals
              go_wp2
              go_ret2
              rw [HE2.out, HX2.out]
              first
                | exact ⟨rfl, FIN.out wr HB.out⟩
                | exact ⟨rfl, FIN2.out wr HB.out⟩
          · have HT : Hid ((pf.take (k + 1)).any badH = false) := HNX.out.trans (decide_eq_false hb)
            have h4 : ¬ (x.size : Int) < 1 := by omega
            have h5 : ¬ (x.size : Int) > 32 := by omega
            have zs := b64S_size x
            have C4 : Hid (Calls _ _ _ _ _) := rB64 x (by omega) wr
            obtain ⟨g, HG⟩ : ∃ g, Hid (b64S x = g) := ⟨_, rfl⟩
            rw [show str (b64L (bs x)) = g from HG.out] at C4
            rw [HG.out] at zs HRS
            have hgz : g.size ≤ 44 := by omega
            have HRS2 : Hid (rqK old pf (k + 1) = rqK old pf k ++ g ++ (⟨#[10]⟩ : ByteArray)) := by show _ = _; rw [HRS.out, ← ByteArray.append_assoc]; rfl
            obtain ⟨Z, HZ⟩ : ∃ Z, Hid (rqK old pf k = Z) := ⟨_, rfl⟩
            rw [HZ.out] at HRS2 zk ⊢
            clear hb zs HRS HNX
            go_wp2_with fail
            refine C4.out.mono ?_
            rintro e w4 ⟨rfl, hb4⟩
            have B4 : Hid (Below (p + 1) W w4) := by show Below _ _ _; rw [hb4]; exact HB.out
            clear hb4
            go_wp2
            go_roundw
            case rel => exact ⟨k + 1, by omega, by go_num, by rw [HRS2.out], HT.out, B4.out⟩
            case measure => simp [intOf]; omega
        · have hlt' : ¬ (k : Int) < n := by omega
          obtain rfl : k = n := by omega
          have hall : pf.any badH = false := by
            have := HK.out
            rwa [List.take_of_length_le (by rw [HN.out]; exact Nat.le_refl _)] at this
          obtain ⟨hE, hX⟩ := HGOOD.out hall
          have HE2 : Hid (E = 0) := hE
          have HX2 : Hid (X = rqK old pf k ++ (⟨#[10]⟩ : ByteArray) ++ note) := by show _ = _; rw [hX, ByteArray.append_assoc]; rfl
          obtain ⟨Z, HZ⟩ : ∃ Z, Hid (rqK old pf k = Z) := ⟨_, rfl⟩
          rw [HZ.out] at HX2 zk ⊢
          clear hE hX hall
          go_wp2
          go_ret2
          rw [HE2.out, HX2.out]
          first
            | exact ⟨rfl, FIN.out wr HB.out⟩
            | exact ⟨rfl, FIN2.out wr HB.out⟩
end Go.Proofs.YtpbapaghcabehaaDoor.c1
