import Derived.Test.YthpfgdhmpeadeaaG6
import Derived.Test.YthpfgdhmpeadeaaG7
import Derived.Test.YthpfgdhmpeadeaaG8
namespace Go.Proofs.Ythpfgdhmpeadeaa.fg
open Go.RowKit Go.PlainAid Go.Shelf
open Go.Proofs.Ythpfgdhmpeadeaa.ca Go.Proofs.Ythpfgdhmpeadeaa.cb Go.Proofs.Ythpfgdhmpeadeaa.cp Go.Proofs.Ythpfgdhmpeadeaa.ga Go.Proofs.Ythpfgdhmpeadeaa.kp Go.Proofs.Ythpfgdhmpeadeaa.na Go.Proofs.Ythpfgdhmpeadeaa.nb Go.Proofs.Ythpfgdhmpeadeaa.nc Go.Proofs.Ythpfgdhmpeadeaa.mi Go.Proofs.Ythpfgdhmpeadeaa.co Go.Proofs.Ythpfgdhmpeadeaa.cn Go.Proofs.Ythpfgdhmpeadeaa.ea Go.Proofs.Ythpfgdhmpeadeaa.eb Go.Proofs.Ythpfgdhmpeadeaa.ec Go.Proofs.Ythpfgdhmpeadeaa.ed Go.Proofs.Ythpfgdhmpeadeaa.ee Go.Proofs.Ythpfgdhmpeadeaa.ef Go.Proofs.Ythpfgdhmpeadeaa.eg Go.Proofs.Ythpfgdhmpeadeaa.eh Go.Proofs.Ythpfgdhmpeadeaa.eo Go.Proofs.Ythpfgdhmpeadeaa.ep Go.Proofs.Ythpfgdhmpeadeaa.eq Go.Proofs.Ythpfgdhmpeadeaa.er Go.Proofs.Ythpfgdhmpeadeaa.es Go.Proofs.Ythpfgdhmpeadeaa.ka Go.Proofs.Ythpfgdhmpeadeaa.bn Go.Proofs.Ythpfgdhmpeadeaa.fa Go.Proofs.Ythpfgdhmpeadeaa.fb Go.Proofs.Ythpfgdhmpeadeaa.fc
set_option linter.unusedVariables false

theorem refu_two (e f : Int) : refu (refu e f) f = refu e f := by
  unfold refu
  by_cases h : e = 0
  · rw [if_pos h]; split <;> first | rfl | omega
  · rw [if_neg h, if_neg h]
theorem refu_ne (e f : Int) (hf : f ≠ 0) : refu e f ≠ 0 := by
  unfold refu
  split
  · exact hf
  · assumption
-- the document's kind
def dE (r : Int × Nat × Int) : Int := if r.1 < 1 ∨ 4 < r.1 then refu r.2.2 110 else r.2.2
theorem d_kind (b : ByteArray) (p : Nat) (e : Int) (hp : Ok b p e) : (kindS b p e).2.1 = (mostS b MX 110 p e).2.1 ∧ (kindS b p e).2.2 = dE (mostS b MX 110 p e) ∧ (dE (mostS b MX 110 p e) = 0 → (kindS b p e).1 = (mostS b MX 110 p e).1 ∧ 1 ≤ (mostS b MX 110 p e).1 ∧ (mostS b MX 110 p e).1 ≤ 4) := by
  obtain ⟨_, h0, _⟩ := num_ok b p e hp
  by_cases h4 : 4 < (numS b p e).1
  · have m4 := mostS_out b 4 110 p e (.inr h4)
    have k1 : kindS b p e = (0, (numS b p e).2.1, refu (numS b p e).2.2 110) := by
      unfold kindS
      rw [m4]
      show (0, (numS b p e).2.1, if (0 : Int) < 1 then refu (refu (numS b p e).2.2 110) 110 else refu (numS b p e).2.2 110) = _
      rw [if_pos (by decide), refu_two]
    by_cases hx : MX < (numS b p e).1
    · have mx := mostS_out b MX 110 p e (.inr hx)
      have d1 : dE (mostS b MX 110 p e) = refu (numS b p e).2.2 110 := by
        rw [mx]
        show (if (0 : Int) < 1 ∨ 4 < (0 : Int) then refu (refu (numS b p e).2.2 110) 110 else refu (numS b p e).2.2 110) = _
        rw [if_pos (by decide), refu_two]
      rw [k1, d1, mx]
      exact ⟨rfl, rfl, fun h => absurd h (refu_ne _ _ (by decide))⟩
    · have mx := mostS_in b MX 110 p e (by unfold MX at *; omega)
      have d1 : dE (mostS b MX 110 p e) = refu (numS b p e).2.2 110 := by
        rw [mx]
        unfold dE
        rw [if_pos (.inr h4)]
      rw [k1, d1, mx]
      exact ⟨rfl, rfl, fun h => absurd h (refu_ne _ _ (by decide))⟩
  · have m4 := mostS_in b 4 110 p e (by omega)
    have mx := mostS_in b MX 110 p e (by unfold MX; omega)
    have k1 : kindS b p e = ((numS b p e).1, (numS b p e).2.1, if (numS b p e).1 < 1 then refu (numS b p e).2.2 110 else (numS b p e).2.2) := by
      unfold kindS
      rw [m4]
    rw [k1, mx]
    by_cases h1 : (numS b p e).1 < 1
    · have d1 : dE (numS b p e) = refu (numS b p e).2.2 110 := if_pos (Or.inl h1)
      rw [d1]
      exact ⟨rfl, if_pos h1, fun h => absurd h (refu_ne _ _ (by decide))⟩
    · have d1 : dE (numS b p e) = (numS b p e).2.2 := if_neg (by omega)
      rw [d1]
      exact ⟨rfl, if_neg h1, fun _ => ⟨rfl, by omega, by omega⟩⟩
-- the document's shape
def sh0 (b : ByteArray) (p : Nat) (e : Int) : Sh := ⟨0, 0, (mostS b MX 10 p e).1, [], (mostS b MX 10 p e).2.1, (mostS b MX 10 p e).2.2⟩
theorem sh1_not (b : ByteArray) (p : Nat) (e : Int) (h : e ≠ 0) : (sh1 b p e).p = p ∧ (sh1 b p e).e = e := by
  unfold sh1
  rw [mostS_not b MX 10 p e h]
  show (mostS b MX 10 p e).2.1 = p ∧ (mostS b MX 10 p e).2.2 = e
  rw [mostS_not b MX 10 p e h]
  exact ⟨rfl, rfl⟩
theorem sh0_not (b : ByteArray) (p : Nat) (e : Int) (h : e ≠ 0) : (sh0 b p e).p = p ∧ (sh0 b p e).e = e := by
  unfold sh0
  rw [mostS_not b MX 10 p e h]
  exact ⟨rfl, rfl⟩
theorem sh3_not (b : ByteArray) (p : Nat) (e : Int) (h : e ≠ 0) : (sh3 b p e).p = p ∧ (sh3 b p e).e = e := by
  unfold sh3
  rw [mostS_not b MX 10 p e h]
  exact sh1_not b p e h
theorem sh4_not (b : ByteArray) (p : Nat) (e : Int) (h : e ≠ 0) : (sh4 b p e).p = p ∧ (sh4 b p e).e = e := by
  unfold sh4
  rw [mostS_not b 1024 83 p e h]
  have hq := plS_not b ((0 : Int), p, e).1.toNat 0 p e h
  show (mostS b MX 10 (plS b ((0 : Int), p, e).1.toNat 0 p e).2.1 (plS b ((0 : Int), p, e).1.toNat 0 p e).2.2).2.1 = p ∧ (mostS b MX 10 (plS b ((0 : Int), p, e).1.toNat 0 p e).2.1 (plS b ((0 : Int), p, e).1.toNat 0 p e).2.2).2.2 = e
  rw [hq, mostS_not b MX 10 p e h]
  exact ⟨rfl, rfl⟩
theorem shS_not (b : ByteArray) (k : Int) (p : Nat) (e : Int) (h : e ≠ 0) : (shS b k p e).p = p ∧ (shS b k p e).e = e := by
  unfold shS
  split
  · exact sh4_not b p e h
  · split
    · exact sh3_not b p e h
    · exact sh1_not b p e h
def dSh (b : ByteArray) (k : Int) (p : Nat) (e : Int) : Sh := if k = 1 ∨ k = 2 then sh1 b p e else if k = 3 then sh3 b p e else if k = 4 then sh4 b p e else sh0 b p e
theorem dSh_not (b : ByteArray) (k : Int) (p : Nat) (e : Int) (h : e ≠ 0) : (dSh b k p e).p = p ∧ (dSh b k p e).e = e := by
  unfold dSh
  split
  · exact sh1_not b p e h
  · split
    · exact sh3_not b p e h
    · split
      · exact sh4_not b p e h
      · exact sh0_not b p e h
theorem dSh_eq (b : ByteArray) (k : Int) (p : Nat) (e : Int) (h1 : 1 ≤ k) (h4 : k ≤ 4) : dSh b k p e = shS b k p e := by
  unfold dSh shS
  by_cases h : k = 1 ∨ k = 2
  · rw [if_pos h, if_neg (by omega), if_neg (by omega)]
  · rw [if_neg h]
    by_cases h3 : k = 3
    · rw [if_pos h3, if_neg (by omega), if_pos h3]
    · rw [if_neg h3, if_pos (by omega), if_pos (by omega)]
-- the document's state behind the shape, and what follows
def dK (b : ByteArray) : Int × Nat × Int := mostS b MX 110 (pW b).2.1 (pW b).2.2
def dS (b : ByteArray) : Sh := dSh b (dK b).1 (dK b).2.1 (dE (dK b))
theorem d_state (b : ByteArray) : (dS b).p = (pSh b).p ∧ (dS b).e = (pSh b).e ∧ ((pSh b).e = 0 → dS b = pSh b ∧ (dK b).1 = (pK b).1) := by
  obtain ⟨h1, h2, h3⟩ := d_kind b (pW b).2.1 (pW b).2.2 (pW_ok b)
  have e1 : (pK b).2.1 = (dK b).2.1 := h1
  have e2 : (pK b).2.2 = dE (dK b) := h2
  by_cases hz : dE (dK b) = 0
  · obtain ⟨g1, g2, g3⟩ := h3 hz
    have e3 : (pK b).1 = (dK b).1 := g1
    have : dS b = pSh b := by
      unfold dS pSh
      rw [dSh_eq b (dK b).1 _ _ g2 g3, e1, e2, e3]
    rw [this]
    exact ⟨rfl, rfl, fun _ => ⟨rfl, e3.symm⟩⟩
  · have a1 := dSh_not b (dK b).1 (dK b).2.1 (dE (dK b)) hz
    have a2 := shS_not b (pK b).1 (pK b).2.1 (pK b).2.2 (by rw [e2]; exact hz)
    refine ⟨a1.1.trans ?_, a1.2.trans ?_, fun h => ?_⟩
    · rw [← e1]; exact a2.1.symm
    · rw [← e2]; exact a2.2.symm
    · have : (pSh b).e = (pK b).2.2 := a2.2
      rw [this, e2] at h
      exact absurd h hz
theorem p_stop (b : ByteArray) (h : (pSh b).e ≠ 0) : pE b = (pSh b).e ∧ upR b = ⟨0, 0, 0, 0, 0, [], []⟩ := by
  have h1 : refu (pSh b).e (pCt b).2 = (pSh b).e := refu_not _ _ h
  have h2 : pHs b = ([], (pSh b).p, (pSh b).e) := by unfold pHs; rw [h1, hashesS_not b _ _ _ _ h]
  have h3 : pE b = (pSh b).e := by
    unfold pE
    rw [h2]
    show endS b (pSh b).p (pSh b).e = _
    unfold endS
    rw [refu_not _ 111 h]
    split <;> rfl
  refine ⟨h3, ?_⟩
  unfold upR
  rw [h3, if_neg h]
theorem neg_most (b : ByteArray) (q : Nat) (hq : q ≤ b.size) : mostS b (-1) 10 q 0 = (0, (mostS b MX 10 q 0).2.1, refu (mostS b MX 10 q 0).2.2 10) ∧ refu (mostS b MX 10 q 0).2.2 10 ≠ 0 := by
  refine ⟨?_, refu_ne _ _ (by decide)⟩
  rw [mostS_out b (-1) 10 q 0 (.inl (by decide))]
  by_cases hx : MX < 0 ∨ MX < (numS b q 0).1
  · rw [mostS_out b MX 10 q 0 hx]
    show _ = (0, (numS b q 0).2.1, refu (refu (numS b q 0).2.2 10) 10)
    rw [refu_two]
  · rw [mostS_in b MX 10 q 0 hx]

-- the document's list of places
structure PQ (g : Nat) (b : ByteArray) (n p : Nat) (e : Int) (w : World) (v : Value) (xs : List Int) (x : Int) (q : Nat) (z : Int) (wr : World) : Prop where
  rd : Rd 78 g b q z [] wr
  ok : Ok b q z
  kp : Kp (fun k => k = g) w wr
  own : wr.ownsRow w.heap.size 3 1 v xs.length (xs.map (Value.int .i64))
  x0 : 0 ≤ x
  x1 : x ≤ 4611686018427387905
  xz : xs.length = 0 → x = 0
  xl : 0 < xs.length → xs.getD (xs.length - 1) 0 + 1 = x
  len : xs.length ≤ n
  eq : plS b n 0 p e = (xs ++ (plS b (n - xs.length) x q z).1, (plS b (n - xs.length) x q z).2)
set_option maxHeartbeats 3200000 in
theorem pPlaces (g : Nat) (b : ByteArray) (p : Nat) (e : Int) (w : World) (h : Rd 78 g b p e [] w) (hb : b.size ≤ 140737488355328) (hp : Ok b p e) (n : Nat) (p2 : Nat) (e2 : Int) (HN : Hid (mostS b 1024 83 p e = ((n : Int), p2, e2))) :
    Calls Try.prog 44 #[.pointer (some ⟨g, 0, none⟩)] w fun x w' => (∃ va vl vc ys, x = .returned (.slice va vl vc) ∧ w'.ownsRow w.heap.size 3 1 (.slice va vl vc) ys.length (ys.map (Value.int .i64)) ∧ ((plS b n 0 p2 e2).2.2 = 0 → ys = (plS b n 0 p2 e2).1)) ∧ Rd 78 g b (plS b n 0 p2 e2).2.1 (plS b n 0 p2 e2).2.2 [] w' ∧ Kp (fun k => k = g) w w' := by
  obtain ⟨i3, hi, hz0, hz1, hz2⟩ := info_parts Go.Proofs.Ythpfgdhmpeadeaa.ti.hiE
  have HIN : Hid (_ ∧ _ ∧ _ ∧ _) := ⟨hi, hz0, hz1, hz2⟩
  clear hi hz0 hz1 hz2
  have hg := h.lt
  have CN : Hid (Calls _ _ _ _ _) := pNumber 78 g b p e 1024 83 [] w h hb hp (by decide) (by decide)
  obtain ⟨hk2, hm0, hm1⟩ := most_ok b 1024 83 p e hp (by decide)
  rw [HN.out] at CN hk2 hm0 hm1
  have hn1 : n ≤ 1024 := by simp at hm1; omega
  obtain ⟨R, HR⟩ : ∃ R, Hid (plS b n 0 p2 e2 = R) := ⟨_, rfl⟩
  rw [HR.out]
  clear h hm0 hm1
  go_enter Try.func44, Try.ntmps44
  go_wp2_with (go_at_call 42; refine CN.out.mono ?_; rintro _ w2 ⟨rfl, r2, k2⟩; have R2 : Hid (Rd 78 g b p2 e2 [] w2) := r2; have K2 : Hid (Kp (fun k => k = g) w w2) := k2; clear r2 k2)
  go_loopw [4, 5] (fun v i wr => ∃ (k : Nat) (xs : List Int) (x : Int) (q : Nat) (z : Int), k ≤ n ∧ i = .int .i64 k ∧ Hid (xs.length = k ∧ PQ g b n p2 e2 w v xs x q z wr)) (fun _ i _ => (n - intOf i).toNat)
  case atStart => exact ⟨0, [], 0, p2, e2, by omega, rfl, rfl, R2.out, hk2, K2.out, World.ownsRow_nil _ _ _ _, by decide, by decide, fun _ => rfl, fun h => by simp at h, by simp, by simp⟩
  case round =>
    clear CN R2 K2 hk2
    obtain ⟨k, xs, x, q, z, hk, rfl, HHH⟩ := hrel
    have HK : Hid (xs.length = k) := HHH.out.1
    have HH : Hid (PQ g b n p2 e2 w _ xs x q z wr) := HHH.out.2
    clear HHH
    obtain ⟨a, cc, hv⟩ := own_formS HH.out.own
    subst hv
    rw [HK.out] at HH ⊢
    have x0 := HH.out.x0
    have x1 := HH.out.x1
    have c2 := HH.out.rd.e
    by_cases hlt : k < n
    · have hlt' : (k : Int) < n := by omega
      by_cases hz : z = 0
      · subst hz
        have HO : Hid (wr.ownsRow w.heap.size 3 1 (.slice a k cc) k (xs.map (Value.int .i64))) := by have := HH.out.own; rw [HK.out] at this; exact this
        have hsz : w.heap.size ≤ wr.heap.size := HH.out.kp.size
        -- the place ahead
        have HPREV : Hid (k = 0 ∧ x = 0 ∨ 0 < k ∧ ∃ gg, a = some ⟨gg, 0, none⟩ ∧ wr.cell? ⟨gg, k - 1, none⟩ = some (.int .i64 (x - 1)) ∧ k ≤ cc) := by
          by_cases hk0 : k = 0
          · exact .inl ⟨hk0, HH.out.xz (by rw [HK.out]; exact hk0)⟩
          · right
            refine ⟨by omega, ?_⟩
            rcases HO.out.2 with ⟨_, h0⟩ | ⟨gg, cap, cur, hs, hB, hh, hc, _⟩
            · omega
            · injection hs with e1 _ e3
              subst e1 e3
              refine ⟨gg, rfl, ?_, hc⟩
              have hl := HH.out.xl (by rw [HK.out]; omega)
              rw [HK.out] at hl
              have hc1 := HO.out.cellAt (k - 1) (by omega)
              rw [List.getElem?_map, List.getElem?_eq_getElem (by rw [HK.out]; omega)] at hc1
              rw [hc1]
              have e5 : xs.getD (k - 1) 0 = xs[k - 1]'(by rw [HK.out]; omega) := by rw [List.getD_eq_getElem?_getD, List.getElem?_eq_getElem]; rfl
              rw [e5] at hl
              have e6 : xs[k - 1]'(by rw [HK.out]; omega) = x - 1 := by omega
              show some (Value.int .i64 (xs[k - 1]'(by rw [HK.out]; omega))) = _
              rw [e6]
        by_cases hbig : x = 4611686018427387905
        · -- no place is short enough
          have HM := (neg_most b q HH.out.ok.1)
          have CN1 : Hid (Calls _ _ _ _ _) := pNumber 78 g b q 0 MX 10 [] wr HH.out.rd hb HH.out.ok (by decide) (by decide)
          obtain ⟨l, q3, z3, HL⟩ : ∃ l q3 z3, Hid (mostS b MX 10 q 0 = (l, q3, z3)) := ⟨_, _, _, rfl⟩
          rw [HL.out] at CN1 HM
          have HE : Hid (R.2 = (q3, refu z3 10) ∧ refu z3 10 ≠ 0) := by
            have h1 := HH.out.eq
            rw [HK.out, show n - k = (n - (k + 1)) + 1 by omega, plS_next b (n - (k + 1)) x q 0 0 q3 (refu z3 10) (by rw [hbig]; exact HM.1)] at h1
            refine ⟨?_, HM.2⟩
            rw [← HR.out, h1]
            exact plS_not b _ _ _ _ HM.2
          have HKP : Hid (Kp (fun k => k = g) w wr) := HH.out.kp
          have CN2 : Hid (Calls Try.prog 42 #[.pointer (some ⟨g, 0, none⟩), .int .i64 4611686018427387904, .int .i64 10] wr fun x w' => x = .returned (.int .i64 l) ∧ Rd 78 g b q3 z3 [] w' ∧ Kp (fun k => k = g) wr w') := CN1.out
          rcases HPREV.out with ⟨_, h⟩ | ⟨hk0, gg, rfl, hcell, hkc⟩
          · omega
          have e8 : x - 1 = 4611686018427387904 := by omega
          rw [e8] at hcell
          have hk0' : (0 : Int) < k := by omega
          have hix : ((k : Int) - 1).toNat = k - 1 := by omega
          clear HM HH hbig x0 x1 CN1
          go_wp2_with (first
            | (go_at_call 42; refine CN2.out.mono ?_; rintro _ w3 ⟨rfl, r3, k3⟩; have R3 : Hid (Rd 78 g b q3 z3 [] w3) := r3; have K3 : Hid (Kp (fun k => k = g) w w3) := HKP.out.trans k3; clear r3 k3)
            | (go_at_call 43; refine (pRefuse 78 g b q3 z3 10 [] _ R3.out).mono ?_; rintro _ w4 ⟨rfl, r4, k4⟩; have R4 : Hid (Rd 78 g b q3 (refu z3 10) [] w4) := r4; have K4 : Hid (Kp (fun k => k = g) w w4) := K3.out.trans k4; clear r4 k4))
          go_ret
          rw [HE.out.1]
          exact ⟨⟨none, 0, 0, [], rfl, World.ownsRow_nil _ _ _ _, fun h => absurd h HE.out.2⟩, R4.out, K4.out⟩
        · have hx2 : x ≤ 4611686018427387904 := by omega
          have CL : Hid (Calls _ _ _ _ _) := pNumber 78 g b q 0 (MX - x) 10 [] wr HH.out.rd hb HH.out.ok (by show 0 ≤ 4611686018427387904 - x; omega) (by show 4611686018427387904 - x ≤ 4611686018427387904; omega)
          obtain ⟨hk3, hl0, hl1⟩ := most_ok b (MX - x) 10 q 0 HH.out.ok (by decide)
          obtain ⟨l, q3, z3, HL⟩ : ∃ l q3 z3, Hid (mostS b (MX - x) 10 q 0 = (l, q3, z3)) := ⟨_, _, _, rfl⟩
          rw [HL.out] at CL hk3 hl0 hl1
          have OK3 : Hid (Ok b q3 z3) := hk3
          have hl0' : 0 ≤ l := hl0
          have hl1' : l = 0 ∨ l ≤ 4611686018427387904 - x := hl1
          have CL2 : Hid (Calls Try.prog 42 #[.pointer (some ⟨g, 0, none⟩), .int .i64 (4611686018427387904 - x), .int .i64 10] wr fun x w' => x = .returned (.int .i64 l) ∧ Rd 78 g b q3 z3 [] w' ∧ Kp (fun k => k = g) wr w') := CL.out
          have hxl : x + l ≤ 4611686018427387904 := by omega
          clear hk3 hl0 hl1 CL hl1' hbig
          have STEP : Hid (∀ w3 v' w5, Rd 78 g b q3 z3 [] w3 → Kp (fun k => k = g) wr w3 → Below w.heap.size w3 w5 → w5.ownsRow w.heap.size 3 1 v' (k + 1) (xs.map (Value.int .i64) ++ [.int .i64 (x + l)]) → (xs ++ [x + l]).length = k + 1 ∧ PQ g b n p2 e2 w v' (xs ++ [x + l]) (x + l + 1) q3 z3 w5) := by
            intro w3 v' w5 r3 k3 b5 o5
            have hlen : (xs ++ [x + l]).length = k + 1 := by rw [List.length_append, HK.out]; rfl
            refine ⟨hlen, Rd.below r3 b5 hg, OK3.out, kp_below (HH.out.kp.trans k3) b5, ?_, by omega, by omega, fun h => by omega, fun _ => ?_, by omega, ?_⟩
            · rw [hlen, List.map_append]; exact o5
            · rw [hlen, show k + 1 - 1 = k by omega, List.getD_eq_getElem?_getD, List.getElem?_append_right (by rw [HK.out]; exact Nat.le_refl _), HK.out, Nat.sub_self]
              rfl
            · have h1 := HH.out.eq
              rw [HK.out, show n - k = (n - (k + 1)) + 1 by omega, plS_next b (n - (k + 1)) x q 0 l q3 z3 HL.out] at h1
              rw [h1, hlen]
              simp
          clear HH
          rcases HPREV.out with ⟨hk0, hx0⟩ | ⟨hk0, gg, rfl, hcell, hkc⟩
          · have hk0' : ¬ (0 : Int) < k := by omega
            have HX0 : Hid (x = 0) := hx0
            rw [hx0] at CL2
            have CL3 : Hid (Calls Try.prog 42 #[.pointer (some ⟨g, 0, none⟩), .int .i64 4611686018427387904, .int .i64 10] wr fun x w' => x = .returned (.int .i64 l) ∧ Rd 78 g b q3 z3 [] w' ∧ Kp (fun k => k = g) wr w') := CL2.out
            have hll : l ≤ 4611686018427387904 := by omega
            rw [hx0] at STEP
            have e0 : (0 : Int) + l = l := by omega
            rw [e0] at STEP
            clear hx0 HPREV CL2 hxl hk0
            go_wp2_with (first
              | (go_at_call 42; refine CL3.out.mono ?_; rintro _ w3 ⟨rfl, r3, k3⟩; have R3 : Hid (Rd 78 g b q3 z3 [] w3) := r3; have K3 : Hid (Kp (fun k => k = g) wr w3) := k3; have O3 : Hid (w3.ownsRow w.heap.size 3 1 (.slice a k cc) k (xs.map (Value.int .i64))) := own_kp HO.out k3 (fun j hj => by omega); have hsz3 : w.heap.size ≤ w3.heap.size := Nat.le_trans hsz k3.size; clear r3 k3)
              | (at_builtin; refine wpList_append_own _ rfl _ _ 22 rfl w.heap.size 3 i3 (.int .i64 0) 1 8 Try.underlying22 HIN.out.1 HIN.out.2.1 HIN.out.2.2.1 HIN.out.2.2.2 rfl (by decide) _ k _ rfl (O3.out.alloc _) ⟨w3.heap.size, 0, none⟩ 1 1 [.int .i64 l] rfl rfl (new_text _ _ _) (one_num _) (by unfold maxLen; omega) (by omega) (by simp; omega) ?_; intro v' w5 hown' hgrow5 hnil5; have O5 : Hid (w5.ownsRow w.heap.size 3 1 v' (k + 1) (xs.map (Value.int .i64) ++ [.int .i64 l])) := hown'; have B5 : Hid (Below w.heap.size w3 w5) := Below.grown ((Below.refl _ _).alloc hsz3 _) hgrow5 (by simp; omega) (fun j hj => (O3.out.lt _ hj).1); clear hown' hgrow5 hnil5))
            go_roundw
            case rel => exact ⟨k + 1, xs ++ [l], l + 1, q3, z3, by omega, by go_num, STEP.out _ _ _ R3.out K3.out B5.out O5.out⟩
            case measure => simp [intOf]; omega
          · have hk0' : (0 : Int) < k := by omega
            have hix : ((k : Int) - 1).toNat = k - 1 := by omega
            have e9 : x - 1 + 1 = x := by omega
            clear HPREV
            go_wp2_with (first
              | (go_at_call 42; refine CL2.out.mono ?_; rintro _ w3 ⟨rfl, r3, k3⟩; have R3 : Hid (Rd 78 g b q3 z3 [] w3) := r3; have K3 : Hid (Kp (fun k => k = g) wr w3) := k3; have O3 : Hid (w3.ownsRow w.heap.size 3 1 (.slice (some ⟨gg, 0, none⟩) k cc) k (xs.map (Value.int .i64))) := own_kp HO.out k3 (fun j hj => by omega); have hsz3 : w.heap.size ≤ w3.heap.size := Nat.le_trans hsz k3.size; clear r3 k3)
              | (at_builtin; refine wpList_append_own _ rfl _ _ 22 rfl w.heap.size 3 i3 (.int .i64 0) 1 8 Try.underlying22 HIN.out.1 HIN.out.2.1 HIN.out.2.2.1 HIN.out.2.2.2 rfl (by decide) _ k _ rfl (O3.out.alloc _) ⟨w3.heap.size, 0, none⟩ 1 1 [.int .i64 (x + l)] rfl rfl (new_text _ _ _) (one_num _) (by unfold maxLen; omega) (by omega) (by simp; omega) ?_; intro v' w5 hown' hgrow5 hnil5; have O5 : Hid (w5.ownsRow w.heap.size 3 1 v' (k + 1) (xs.map (Value.int .i64) ++ [.int .i64 (x + l)])) := hown'; have B5 : Hid (Below w.heap.size w3 w5) := Below.grown ((Below.refl _ _).alloc hsz3 _) hgrow5 (by simp; omega) (fun j hj => (O3.out.lt _ hj).1); clear hown' hgrow5 hnil5))
            go_roundw
            case rel => exact ⟨k + 1, xs ++ [x + l], x + l + 1, q3, z3, by omega, by go_num, STEP.out _ _ _ R3.out K3.out B5.out O5.out⟩
            case measure => simp [intOf]; omega
      · have hz' : (z == 0) = false := by rw [beq_eq_false_iff_ne]; exact hz
        have HE : Hid (R.2 = (q, z) ∧ z ≠ 0) := by
          refine ⟨?_, hz⟩
          rw [← HR.out, HH.out.eq]
          exact plS_not b _ _ _ _ hz
        have HO : Hid (wr.ownsRow w.heap.size 3 1 (.slice a k cc) xs.length (xs.map (Value.int .i64)) ∧ Rd 78 g b q z [] wr ∧ Kp (fun k => k = g) w wr) := ⟨HH.out.own, HH.out.rd, HH.out.kp⟩
        clear hz HH
        go_wp2
        go_ret
        rw [HE.out.1]
        exact ⟨⟨_, _, _, xs, rfl, HO.out.1, fun h => absurd h HE.out.2⟩, HO.out.2⟩
    · have hlt' : ¬ (k : Int) < n := by omega
      have HE : Hid (R = (xs, q, z)) := by
        have h1 := HH.out.eq
        rw [HK.out, show n - k = 0 by omega] at h1
        show _ = _
        rw [← HR.out, h1]
        simp [plS]
      have HO : Hid (wr.ownsRow w.heap.size 3 1 (.slice a k cc) xs.length (xs.map (Value.int .i64)) ∧ Rd 78 g b q z [] wr ∧ Kp (fun k => k = g) w wr) := ⟨HH.out.own, HH.out.rd, HH.out.kp⟩
      clear HH
      go_wp2
      go_ret
      rw [HE.out]
      first
        | exact ⟨⟨_, _, _, xs, rfl, HO.out.1, fun _ => rfl⟩, HO.out.2⟩
        | exact ⟨⟨_, _, _, rfl, xs, HO.out.1, fun _ => rfl⟩, HO.out.2⟩
end Go.Proofs.Ythpfgdhmpeadeaa.fg

namespace Go.Proofs.Ythpfgdhmpeadeaa.fh
open Go.RowKit Go.PlainAid Go.Shelf
open Go.Proofs.Ythpfgdhmpeadeaa.ca Go.Proofs.Ythpfgdhmpeadeaa.cb Go.Proofs.Ythpfgdhmpeadeaa.cp Go.Proofs.Ythpfgdhmpeadeaa.ga Go.Proofs.Ythpfgdhmpeadeaa.kp Go.Proofs.Ythpfgdhmpeadeaa.na Go.Proofs.Ythpfgdhmpeadeaa.nb Go.Proofs.Ythpfgdhmpeadeaa.nc Go.Proofs.Ythpfgdhmpeadeaa.mi Go.Proofs.Ythpfgdhmpeadeaa.co Go.Proofs.Ythpfgdhmpeadeaa.cn Go.Proofs.Ythpfgdhmpeadeaa.df Go.Proofs.Ythpfgdhmpeadeaa.ea Go.Proofs.Ythpfgdhmpeadeaa.eb Go.Proofs.Ythpfgdhmpeadeaa.ec Go.Proofs.Ythpfgdhmpeadeaa.ed Go.Proofs.Ythpfgdhmpeadeaa.ee Go.Proofs.Ythpfgdhmpeadeaa.ef Go.Proofs.Ythpfgdhmpeadeaa.eg Go.Proofs.Ythpfgdhmpeadeaa.eh Go.Proofs.Ythpfgdhmpeadeaa.eo Go.Proofs.Ythpfgdhmpeadeaa.ep Go.Proofs.Ythpfgdhmpeadeaa.eq Go.Proofs.Ythpfgdhmpeadeaa.er Go.Proofs.Ythpfgdhmpeadeaa.es Go.Proofs.Ythpfgdhmpeadeaa.ka Go.Proofs.Ythpfgdhmpeadeaa.bn Go.Proofs.Ythpfgdhmpeadeaa.fa Go.Proofs.Ythpfgdhmpeadeaa.fb Go.Proofs.Ythpfgdhmpeadeaa.fc Go.Proofs.Ythpfgdhmpeadeaa.fg
set_option linter.unusedVariables false

def z7 : Array Value := #[.int .i64 0, .int .i64 0, .int .i64 0, .int .i64 0, .int .i64 0, .slice none 0 0, .slice none 0 0]
-- the document's reader at work: its place in g, the proof in x, the result in the first block of the call
structure DP (w : World) (g x : Nat) (b : ByteArray) (p : Nat) (e k wd a bb n : Int) (av hv : Value) (W : World) : Prop where
  pl : Rd 78 g b p e [] W
  xp : W.heap[x]? = some (.cells #[.int .i64 k, .int .i64 wd, .int .i64 a, .int .i64 bb, .int .i64 n, av, hv] 25 (0, 0))
  rs : W.heap[w.heap.size]? = some (.cells #[.int .i64 0, .int .i64 0, .int .i64 0, .int .i64 0, .int .i64 0, .slice none 0 0, .slice none 0 0] 25 (0, 0))
  bl : Below w.heap.size w W
  hg : g = w.heap.size + 1
  hx : g < x
theorem DP.keep {w : World} {g x : Nat} {b : ByteArray} {p p' : Nat} {e e' k wd a bb n : Int} {av hv : Value} {W W' : World} (d : DP w g x b p e k wd a bb n av hv W) (h : Kp (fun k => k = g) W W') (r : Rd 78 g b p' e' [] W') : DP w g x b p' e' k wd a bb n av hv W' := by
  have h1 := d.hg
  have h2 := d.hx
  have h3 := d.bl.size
  refine ⟨r, (h.block x (Array.getElem?_eq_some_iff.1 d.xp).1 (fun e => by omega)).trans d.xp, (h.block w.heap.size (Array.getElem?_eq_some_iff.1 d.rs).1 (fun e => by omega)).trans d.rs, d.bl.trans (h.below (fun j hj => by omega) h3), d.hg, d.hx⟩
theorem DP.later {w : World} {g x : Nat} {b : ByteArray} {p : Nat} {e k wd a bb n : Int} {av hv : Value} {W W' : World} (d : DP w g x b p e k wd a bb n av hv W) (h : Below W.heap.size W W') : DP w g x b p e k wd a bb n av hv W' :=
  d.keep (Kp.of_below h) (Rd.keep d.pl (A := fun _ => False) (Kp.of_below h) (fun e => e))
theorem DP.set0 {w : World} {g x : Nat} {b : ByteArray} {p : Nat} {e k wd a bb n : Int} {av hv : Value} {W : World} (d : DP w g x b p e k wd a bb n av hv W) (y : Int) : DP w g x b p e y wd a bb n av hv (W.setCell ⟨x, 0, none⟩ (.int .i64 y)) := by
  have h1 := d.hg
  have h2 := d.hx
  exact ⟨Rd.keep d.pl (kset W x 0 (.int .i64 y)) (fun e => by omega), heap_setCell_same _ _ 0 _ _ _ d.xp, ((kset W x 0 (.int .i64 y)).block w.heap.size (Array.getElem?_eq_some_iff.1 d.rs).1 (fun e => by omega)).trans d.rs, d.bl.trans ((kset W x 0 (.int .i64 y)).below (fun j hj => by omega) d.bl.size), d.hg, d.hx⟩
theorem DP.set1 {w : World} {g x : Nat} {b : ByteArray} {p : Nat} {e k wd a bb n : Int} {av hv : Value} {W : World} (d : DP w g x b p e k wd a bb n av hv W) (y : Int) : DP w g x b p e k y a bb n av hv (W.setCell ⟨x, 1, none⟩ (.int .i64 y)) := by
  have h1 := d.hg
  have h2 := d.hx
  exact ⟨Rd.keep d.pl (kset W x 1 (.int .i64 y)) (fun e => by omega), heap_setCell_same _ _ 1 _ _ _ d.xp, ((kset W x 1 (.int .i64 y)).block w.heap.size (Array.getElem?_eq_some_iff.1 d.rs).1 (fun e => by omega)).trans d.rs, d.bl.trans ((kset W x 1 (.int .i64 y)).below (fun j hj => by omega) d.bl.size), d.hg, d.hx⟩
theorem DP.set2 {w : World} {g x : Nat} {b : ByteArray} {p : Nat} {e k wd a bb n : Int} {av hv : Value} {W : World} (d : DP w g x b p e k wd a bb n av hv W) (y : Int) : DP w g x b p e k wd y bb n av hv (W.setCell ⟨x, 2, none⟩ (.int .i64 y)) := by
  have h1 := d.hg
  have h2 := d.hx
  exact ⟨Rd.keep d.pl (kset W x 2 (.int .i64 y)) (fun e => by omega), heap_setCell_same _ _ 2 _ _ _ d.xp, ((kset W x 2 (.int .i64 y)).block w.heap.size (Array.getElem?_eq_some_iff.1 d.rs).1 (fun e => by omega)).trans d.rs, d.bl.trans ((kset W x 2 (.int .i64 y)).below (fun j hj => by omega) d.bl.size), d.hg, d.hx⟩
theorem DP.set3 {w : World} {g x : Nat} {b : ByteArray} {p : Nat} {e k wd a bb n : Int} {av hv : Value} {W : World} (d : DP w g x b p e k wd a bb n av hv W) (y : Int) : DP w g x b p e k wd a y n av hv (W.setCell ⟨x, 3, none⟩ (.int .i64 y)) := by
  have h1 := d.hg
  have h2 := d.hx
  exact ⟨Rd.keep d.pl (kset W x 3 (.int .i64 y)) (fun e => by omega), heap_setCell_same _ _ 3 _ _ _ d.xp, ((kset W x 3 (.int .i64 y)).block w.heap.size (Array.getElem?_eq_some_iff.1 d.rs).1 (fun e => by omega)).trans d.rs, d.bl.trans ((kset W x 3 (.int .i64 y)).below (fun j hj => by omega) d.bl.size), d.hg, d.hx⟩
theorem DP.set4 {w : World} {g x : Nat} {b : ByteArray} {p : Nat} {e k wd a bb n : Int} {av hv : Value} {W : World} (d : DP w g x b p e k wd a bb n av hv W) (y : Int) : DP w g x b p e k wd a bb y av hv (W.setCell ⟨x, 4, none⟩ (.int .i64 y)) := by
  have h1 := d.hg
  have h2 := d.hx
  exact ⟨Rd.keep d.pl (kset W x 4 (.int .i64 y)) (fun e => by omega), heap_setCell_same _ _ 4 _ _ _ d.xp, ((kset W x 4 (.int .i64 y)).block w.heap.size (Array.getElem?_eq_some_iff.1 d.rs).1 (fun e => by omega)).trans d.rs, d.bl.trans ((kset W x 4 (.int .i64 y)).below (fun j hj => by omega) d.bl.size), d.hg, d.hx⟩
theorem DP.set5 {w : World} {g x : Nat} {b : ByteArray} {p : Nat} {e k wd a bb n : Int} {av hv : Value} {W : World} (d : DP w g x b p e k wd a bb n av hv W) (y : Value) : DP w g x b p e k wd a bb n y hv (W.setCell ⟨x, 5, none⟩ y) := by
  have h1 := d.hg
  have h2 := d.hx
  exact ⟨Rd.keep d.pl (kset W x 5 y) (fun e => by omega), heap_setCell_same _ _ 5 _ _ _ d.xp, ((kset W x 5 y).block w.heap.size (Array.getElem?_eq_some_iff.1 d.rs).1 (fun e => by omega)).trans d.rs, d.bl.trans ((kset W x 5 y).below (fun j hj => by omega) d.bl.size), d.hg, d.hx⟩
theorem DP.set6 {w : World} {g x : Nat} {b : ByteArray} {p : Nat} {e k wd a bb n : Int} {av hv : Value} {W : World} (d : DP w g x b p e k wd a bb n av hv W) (y : Value) : DP w g x b p e k wd a bb n av y (W.setCell ⟨x, 6, none⟩ y) := by
  have h1 := d.hg
  have h2 := d.hx
  exact ⟨Rd.keep d.pl (kset W x 6 y) (fun e => by omega), heap_setCell_same _ _ 6 _ _ _ d.xp, ((kset W x 6 y).block w.heap.size (Array.getElem?_eq_some_iff.1 d.rs).1 (fun e => by omega)).trans d.rs, d.bl.trans ((kset W x 6 y).below (fun j hj => by omega) d.bl.size), d.hg, d.hx⟩
-- the result written
theorem dp_out {w : World} {g x : Nat} {b : ByteArray} {p : Nat} {e k wd a bb n : Int} {av hv : Value} {W : World} (d : DP w g x b p e k wd a bb n av hv W) (x0 x1 x2 x3 x4 x5 x6 : Value) :
    ∀ V, V = ((((((W.setCell ⟨w.heap.size, 0, none⟩ x0).setCell ⟨w.heap.size, 1, none⟩ x1).setCell ⟨w.heap.size, 2, none⟩ x2).setCell ⟨w.heap.size, 3, none⟩ x3).setCell ⟨w.heap.size, 4, none⟩ x4).setCell ⟨w.heap.size, 5, none⟩ x5).setCell ⟨w.heap.size, 6, none⟩ x6 →
      V.heap[w.heap.size]? = some (.cells #[x0, x1, x2, x3, x4, x5, x6] 25 (0, 0)) ∧ Below w.heap.size w V ∧ Rd 78 g b p e [] V ∧ Kp (fun q => q = w.heap.size) W V := by
  intro V hV
  obtain ⟨h1, h2⟩ := put7 W w.heap.size _ _ _ _ _ _ _ x0 x1 x2 x3 x4 x5 x6 _ d.rs V hV
  have h3 := d.hg
  exact ⟨h1, d.bl.trans (h2.below (fun j hj => by omega) d.bl.size), Rd.keep d.pl h2 (fun e => by omega), h2⟩
end Go.Proofs.Ythpfgdhmpeadeaa.fh
