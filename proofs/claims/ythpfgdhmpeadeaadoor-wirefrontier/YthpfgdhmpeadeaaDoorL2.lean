import Derived.Test.YthpfgdhmpeadeaaDoorK4
import Derived.Test.YthpfgdhmpeadeaaDoorG7
import Derived.Test.YthpfgdhmpeadeaaDoorK1
import Derived.Deep.RegionHeldLaw
namespace Go.Proofs.YthpfgdhmpeadeaaDoor.f11
open Go.RowKit Go.PlainAid Go.Shelf
open Go.Proofs.YthpfgdhmpeadeaaDoor.ca Go.Proofs.YthpfgdhmpeadeaaDoor.cb Go.Proofs.YthpfgdhmpeadeaaDoor.cp Go.Proofs.YthpfgdhmpeadeaaDoor.cs Go.Proofs.YthpfgdhmpeadeaaDoor.cd Go.Proofs.YthpfgdhmpeadeaaDoor.ga Go.Proofs.YthpfgdhmpeadeaaDoor.kp Go.Proofs.YthpfgdhmpeadeaaDoor.na Go.Proofs.YthpfgdhmpeadeaaDoor.nb Go.Proofs.YthpfgdhmpeadeaaDoor.nc Go.Proofs.YthpfgdhmpeadeaaDoor.nf Go.Proofs.YthpfgdhmpeadeaaDoor.ng Go.Proofs.YthpfgdhmpeadeaaDoor.ea Go.Proofs.YthpfgdhmpeadeaaDoor.eb Go.Proofs.YthpfgdhmpeadeaaDoor.ec Go.Proofs.YthpfgdhmpeadeaaDoor.ed Go.Proofs.YthpfgdhmpeadeaaDoor.ee Go.Proofs.YthpfgdhmpeadeaaDoor.eh Go.Proofs.YthpfgdhmpeadeaaDoor.ej Go.Proofs.YthpfgdhmpeadeaaDoor.ek Go.Proofs.YthpfgdhmpeadeaaDoor.eo Go.Proofs.YthpfgdhmpeadeaaDoor.eq Go.Proofs.YthpfgdhmpeadeaaDoor.er Go.Proofs.YthpfgdhmpeadeaaDoor.es Go.Proofs.YthpfgdhmpeadeaaDoor.ka Go.Proofs.YthpfgdhmpeadeaaDoor.bn Go.Proofs.YthpfgdhmpeadeaaDoor.fa Go.Proofs.YthpfgdhmpeadeaaDoor.fb Go.Proofs.YthpfgdhmpeadeaaDoor.fc Go.Proofs.YthpfgdhmpeadeaaDoor.e1 Go.Proofs.YthpfgdhmpeadeaaDoor.e4 Go.Proofs.YthpfgdhmpeadeaaDoor.e10 Go.Proofs.YthpfgdhmpeadeaaDoor.e11
set_option linter.unusedVariables false
theorem refu_ne' (e f : Int) (hf : f ≠ 0) : refu e f ≠ 0 := fun h => refu_zero_only e f hf h
theorem fE_stop (b : ByteArray) (h : fR b ≠ 0) : fE b = fR b := by
  have e : fS b = ([], (fH b).2.1, fR b) := hashesS_not b _ _ _ _ h
  unfold fE
  rw [e]
  show endS b (fH b).2.1 (fR b) = fR b
  unfold endS
  split
  · exact refu_not _ _ h
  · rfl
set_option maxRecDepth 100000 in
set_option maxHeartbeats 12800000 in
theorem rUnFrontier (b : ByteArray) (w : World) (hb : b.size ≤ 140737488355328) : Calls Tryd.prog 12 #[.string b] w (ReadF w (ufR b) (fE b)) := by
  have hMX : MX = 4611686018427387904 := rfl
  have HR0 : Hid (ufR b = if fE b = 0 then ⟨(fL b).1, (fH b).1, (fW b).1, (fS b).1⟩ else ⟨0, 0, 0, []⟩) := rfl
  obtain ⟨W0, HX0⟩ : ∃ W0, Hid (W0 = w.alloc (.cells #[.int .i64 0, .int .i64 0, .slice none 0 0] 24)) := ⟨_, rfl⟩
  have HW0 := HX0.out
  have hW0 : W0.heap[w.heap.size]? = some (.cells #[.int .i64 0, .int .i64 0, .slice none 0 0] 24 (0, 0)) := by rw [HW0]; exact heap_alloc_new w _
  have B0 : Hid (Below w.heap.size w W0) := by rw [HW0]; exact (Below.refl _ _).alloc (Nat.le_refl _) _
  have hs0 : W0.heap.size = w.heap.size + 1 := by rw [HW0]; simp
  obtain ⟨g, HG⟩ : ∃ g, g = W0.heap.size := ⟨_, rfl⟩
  obtain ⟨W1, HX1⟩ : ∃ W1, Hid (W1 = W0.alloc (.cells #[.string b, .int .i64 0, .int .i64 0] 80)) := ⟨_, rfl⟩
  have HW1 := HX1.out
  have R1 : Hid (Rd 80 g b 0 0 [] W1) := by rw [HW1, HG]; exact heap_alloc_new W0 _
  have B1 : Hid (Below W0.heap.size W0 W1) := by rw [HW1]; exact (Below.refl _ _).alloc (Nat.le_refl _) _
  have P1 : Hid (W1.heap[w.heap.size]? = _) := (B1.out.block _ (by omega)).trans hW0
  have KB : Hid (∀ w1 w2 : World, W0.heap.size ≤ w1.heap.size → Kp (fun k => k = g) w1 w2 → Below W0.heap.size w1 w2) := fun w1 w2 hs k => k.below (fun j hj => by omega) (by omega)
  have HS0 : Hid (W0.heap.size = w.heap.size + 1 ∧ g = W0.heap.size) := ⟨hs0, HG⟩
  have FN : Hid (∀ w2 : World, Below W0.heap.size W1 w2 → w2.heap[w.heap.size]? = some (.cells #[.int .i64 0, .int .i64 0, .slice none 0 0] 24 (0, 0)) ∧ Below w.heap.size w w2) := fun w2 h2 => ⟨(h2.block _ (by omega)).trans P1.out, ⟨h2.os.trans (B1.out.os.trans B0.out.os), h2.tape.trans (B1.out.tape.trans B0.out.tape), h2.output.trans (B1.out.output.trans B0.out.output), Nat.le_trans B0.out.size (Nat.le_trans B1.out.size h2.size), fun j hj => (h2.block j (by omega)).trans ((B1.out.block j (by omega)).trans (B0.out.block j hj))⟩⟩
  have CM : Hid (∀ W, Rd 80 g b 0 0 [] W → Calls _ _ _ (W : World) _) := fun W h => pLetter 80 g b 0 0 70 [] W h hb (ok0 b) (by decide) (by decide)
  have CW : Hid (∀ W, _ → Calls _ _ _ (W : World) _) := fun W h => pWidth 80 g b (markS b 70 0 0).1 (markS b 70 0 0).2 [] W h hb (mark_ok b 70 0 0 (ok0 b))
  have CL : Hid (∀ W, _ → Calls _ _ _ (W : World) _) := fun W h => pNumber 80 g b (fW b).2.1 (fW b).2.2 4611686018427387904 10 [] W h hb (fW_ok b) (by decide) (by decide)
  have CN : Hid (∀ W, _ → Calls _ _ _ (W : World) _) := fun W h => pNumber 80 g b (fL b).2.1 (fL b).2.2 4611686018427387904 10 [] W h hb (fL_ok b).1 (by decide) (by decide)
  have RE : Hid (∀ W, _ → Calls _ _ _ (W : World) _) := fun W h => pRefuse 80 g b (fH b).2.1 (fH b).2.2 10 [] W h
  have CH : Hid (∀ W, _ → Calls _ _ _ (W : World) _) := fun W h => pHashes 80 g b (fH b).2.1 (fR b) [] (fW b).1.toNat (fC b) W h hb (fR_ok b) (by have := fW_in b; omega) (by have := fC_le b; omega)
  have EC : Hid (∀ W, _ → Calls _ _ _ (W : World) _) := fun W h => pEnd 80 g b (fS b).2.1 (fS b).2.2 [] W h hb (fS_ok b).1
  have HPW : Hid (fW b = widthS b (markS b 70 0 0).1 (markS b 70 0 0).2) := rfl
  rw [← HPW.out] at CW
  have HPL : Hid (fL b = mostS b 4611686018427387904 10 (fW b).2.1 (fW b).2.2) := rfl
  rw [← HPL.out] at CL
  have HPN : Hid (fH b = mostS b 4611686018427387904 10 (fL b).2.1 (fL b).2.2) := rfl
  rw [← HPN.out] at CN
  have HPS : Hid (fS b = hashesS b (fW b).1.toNat (fC b) (fH b).2.1 (fR b)) := rfl
  rw [← HPS.out] at CH
  have HE : Hid (endS b (fS b).2.1 (fS b).2.2 = fE b) := rfl
  rw [HE.out] at EC
  have lok := (fL_ok b).2
  have hok := (fH_ok b).2
  have wok := fW_in b
  have HFR : Hid (fR b = refu (fH b).2.2 (covE (fL b).1 (fH b).1)) := rfl
  have CV : Hid (∀ W, Calls Tryd.prog 35 #[.int .i64 (fL b).1, .int .i64 (fH b).1] W fun e w' => (∃ a c, e = .returned (.tuple #[.slice a (fC b) c, .int .i64 (covE (fL b).1 (fH b).1)])) ∧ Below W.heap.size W w') := fun W => (rCover (fL b).1 (fH b).1 (by omega) (by omega) (by omega) (by omega) W).mono (fun e w' h => by
    obtain ⟨⟨v, he, o⟩, k⟩ := h
    obtain ⟨a, c, hv⟩ := formA (own_readsA o)
    refine ⟨⟨a, c, ?_⟩, k⟩
    rw [he, hv]
    rfl)
  have HST : Hid (fR b ≠ 0 → fE b = fR b) := fE_stop b
  obtain ⟨p0, e0, HM⟩ : ∃ p0 e0, Hid (markS b 70 0 0 = (p0, e0)) := ⟨_, _, rfl⟩
  rw [HM.out] at CM CW
  clear HPW HPL HPN HPS HM HE
  obtain ⟨wd, p1, e1, H1⟩ : ∃ x y z, Hid (fW b = (x, y, z)) := ⟨_, _, _, rfl⟩
  rw [H1.out] at CW CL CH wok HR0
  obtain ⟨lo, p2, e2, H2⟩ : ∃ x y z, Hid (fL b = (x, y, z)) := ⟨_, _, _, rfl⟩
  rw [H2.out] at CL CN CV lok HFR HR0
  obtain ⟨hi, p3, e3, H3⟩ : ∃ x y z, Hid (fH b = (x, y, z)) := ⟨_, _, _, rfl⟩
  rw [H3.out] at CN CV RE CH hok HFR HR0
  obtain ⟨hs, p4, e4, H4⟩ : ∃ x y z, Hid (fS b = (x, y, z)) := ⟨_, _, _, rfl⟩
  rw [H4.out] at CH EC HR0
  obtain ⟨cn, H5⟩ : ∃ x, Hid (fC b = x) := ⟨_, rfl⟩
  rw [H5.out] at CH CV
  have lok1 : 0 ≤ lo ∧ lo ≤ MX := lok
  have hok1 : 0 ≤ hi ∧ hi ≤ MX := hok
  have wok1 : 0 ≤ wd ∧ wd ≤ 255 := wok
  rw [hMX] at lok1 hok1
  obtain ⟨wn, hwn⟩ : ∃ wn : Nat, wd = wn := ⟨wd.toNat, by omega⟩
  subst hwn
  simp only [Int.toNat_natCast] at CH
  have HOK : Hid (covE lo hi = 0 ↔ okR lo hi) := covE_zero
  have HC10 : Hid (¬ okR lo hi → covE lo hi = 10) := fun h => if_neg h
  have hgw : g ≠ w.heap.size := by omega
  have HG1 : Hid (w.heap.size + 1 = g) := by have := HS0.out; show _ = _; omega
  clear hW0 hs0 P1 HW0 HW1 HG lok hok wok hMX H1 H2 H3 H4 H5
  by_cases hlt : hi < lo
  · have hno : ¬ okR lo hi := fun h => by have := h.2.1; omega
    have HF2 : Hid (fR b = refu e3 10) := by show _ = _; rw [HFR.out, HC10.out hno]
    have hne : fR b ≠ 0 := by rw [HF2.out]; exact refu_ne' e3 10 (by decide)
    rw [HST.out hne, HF2.out] at HR0 ⊢
    have hne2 : refu e3 10 ≠ 0 := refu_ne' e3 10 (by decide)
    rw [if_neg hne2] at HR0
    rw [HR0.out]
    obtain ⟨z, HZ⟩ : ∃ z, Hid (refu e3 10 = z) := ⟨_, rfl⟩
    rw [HZ.out] at RE hne2 ⊢
    have hz' : (z != 0) = true := by rw [bne_iff_ne]; exact hne2
    clear hno HF2 hne hne2 HST HFR HC10 HOK CH EC CV HR0 HZ
    go_enter Tryd.func12, Tryd.ntmps12
    go_upto_region 2 with fail
    rw [← HX0.out, ← HX1.out, HG1.out]
    go_upto_region 4 with (first
      | (go_at_call 41; refine (CM.out _ R1.out).mono ?_; rintro _ w1 ⟨rfl, r1, k1⟩; have Q1 : Hid (Rd 80 g b p0 e0 [] w1) := r1; have K1 : Hid (Below W0.heap.size W1 w1) := KB.out _ _ B1.out.size k1; clear r1 k1)
      | (go_at_call 42; refine (CW.out _ Q1.out).mono ?_; rintro _ w2 ⟨rfl, r2, k2⟩; have Q2 : Hid (Rd 80 g b p1 e1 [] w2) := r2; have K2 : Hid (Below W0.heap.size W1 w2) := K1.out.trans (KB.out _ _ (Nat.le_trans B1.out.size K1.out.size) k2); clear r2 k2))
    go_upto_region 5 with (go_at_call 43; refine (CL.out _ Q2.out).mono ?_; rintro _ w3 ⟨rfl, r3, k3⟩; have Q3 : Hid (Rd 80 g b p2 e2 [] w3) := r3; have K3 : Hid (Below W0.heap.size W1 w3) := K2.out.trans (KB.out _ _ (Nat.le_trans B1.out.size K2.out.size) k3); clear r3 k3)
    go_upto_region 6 with (go_at_call 43; refine (CN.out _ Q3.out).mono ?_; rintro _ w4 ⟨rfl, r4, k4⟩; have Q4 : Hid (Rd 80 g b p3 e3 [] w4) := r4; have K4 : Hid (Below W0.heap.size W1 w4) := K3.out.trans (KB.out _ _ (Nat.le_trans B1.out.size K3.out.size) k4); clear r4 k4)
    go_upto_region 8 with (go_at_call 44; refine (RE.out _ Q4.out).mono ?_; rintro _ w5 ⟨rfl, r5, k5⟩; have Q5 : Hid (Rd 80 g b p3 z [] w5) := r5; have K5 : Hid (Below W0.heap.size W1 w5) := K4.out.trans (KB.out _ _ (Nat.le_trans B1.out.size K4.out.size) k5); clear r5 k5)
    have c2 := Q5.out.e
    obtain ⟨f0, f1⟩ := FN.out w5 K5.out
    obtain ⟨d0, d1, d2⟩ := three f0
    have g0 := frozen_of_row _ _ 0 _ _ f0
    have g1 := frozen_of_row _ _ 1 _ _ f0
    have g2 := frozen_of_row _ _ 2 _ _ f0
    have FIN : Hid (∀ W', W' = _ → _) := put3 w5 w.heap.size _ _ _ (.int .i64 0) (.int .i64 0) (.slice none 0 0) _ f0
    have BF : Hid (Below w.heap.size w w5) := f1
    have SE : Hid (∀ W', W' = ((w5.setCell ⟨w.heap.size, 0, none⟩ (.int .i64 0)).setCell ⟨w.heap.size, 1, none⟩ (.int .i64 0)).setCell ⟨w.heap.size, 2, none⟩ (.slice none 0 0) → W'.cell? ⟨g, 2, none⟩ = some (.int .i64 z)) := fun W' e => (Q5.out.keep (FIN.out W' e).2 (by omega)).e
    have SEd : Hid ((((w5.setCell ⟨w.heap.size, 0, none⟩ (.int .i64 0)).setCell ⟨w.heap.size, 1, none⟩ (.int .i64 0)).setCell ⟨w.heap.size, 2, none⟩ (.slice none 0 0)).drew.cell? ⟨g, 2, none⟩ = some (.int .i64 z)) := SE.out (((w5.setCell ⟨w.heap.size, 0, none⟩ (.int .i64 0)).setCell ⟨w.heap.size, 1, none⟩ (.int .i64 0)).setCell ⟨w.heap.size, 2, none⟩ (.slice none 0 0)) rfl
    clear f0 f1
    go_upto_region 9 with fail
    go_region_held_law (fun w' => w'.cell? ⟨g, 2, none⟩ = some (.int .i64 z)) (first | exact c2 | exact SEd.out) (fail)
    go_wp2
    obtain ⟨G, hk⟩ := FIN.out _ rfl
    obtain ⟨t0, t1, t2⟩ := three G
    refine bodyPost_ret (by simp [results, Tryd.results12, go_sem, t0, t1, t2]; try rfl) rfl ?_
    exact ⟨⟨none, 0, 0, rfl, World.ownsRow_nil _ _ _ _⟩, below_dr (BF.out.trans (hk.below (fun j hj => by omega) (BF.out.size)))⟩
  · have hyes : okR lo hi := ⟨by omega, by omega, by omega⟩
    have hcz : covE lo hi = 0 := HOK.out.2 hyes
    have HF2 : Hid (fR b = e3) := by
      show _ = _
      rw [HFR.out, hcz]
      unfold refu
      split
      · rename_i h; exact h.symm
      · rfl
    rw [hcz] at CV
    rw [HF2.out] at CH HST
    by_cases he : e3 = 0
    · subst he
      obtain ⟨z, HZ⟩ : ∃ z, Hid (fE b = z) := ⟨_, rfl⟩
      rw [HZ.out] at EC HR0 ⊢
      clear HST HFR HC10 HOK HF2 HZ hyes hcz RE
      by_cases hz : z = 0
      · subst hz
        rw [if_pos rfl] at HR0
        rw [HR0.out]
        go_enter Tryd.func12, Tryd.ntmps12
        go_upto_region 2 with fail
        rw [← HX0.out, ← HX1.out, HG1.out]
        go_upto_region 4 with (first
          | (go_at_call 41; refine (CM.out _ R1.out).mono ?_; rintro _ w1 ⟨rfl, r1, k1⟩; have Q1 : Hid (Rd 80 g b p0 e0 [] w1) := r1; have K1 : Hid (Below W0.heap.size W1 w1) := KB.out _ _ B1.out.size k1; clear r1 k1)
          | (go_at_call 42; refine (CW.out _ Q1.out).mono ?_; rintro _ w2 ⟨rfl, r2, k2⟩; have Q2 : Hid (Rd 80 g b p1 e1 [] w2) := r2; have K2 : Hid (Below W0.heap.size W1 w2) := K1.out.trans (KB.out _ _ (Nat.le_trans B1.out.size K1.out.size) k2); clear r2 k2))
        go_upto_region 5 with (go_at_call 43; refine (CL.out _ Q2.out).mono ?_; rintro _ w3 ⟨rfl, r3, k3⟩; have Q3 : Hid (Rd 80 g b p2 e2 [] w3) := r3; have K3 : Hid (Below W0.heap.size W1 w3) := K2.out.trans (KB.out _ _ (Nat.le_trans B1.out.size K2.out.size) k3); clear r3 k3)
        go_upto_region 6 with (go_at_call 43; refine (CN.out _ Q3.out).mono ?_; rintro _ w4 ⟨rfl, r4, k4⟩; have Q4 : Hid (Rd 80 g b p3 0 [] w4) := r4; have K4 : Hid (Below W0.heap.size W1 w4) := K3.out.trans (KB.out _ _ (Nat.le_trans B1.out.size K3.out.size) k4); clear r4 k4)
        have c2 := Q4.out.e
        go_upto_region 11 with (go_at_call 35; refine (CV.out _).mono ?_; rintro _ w5 ⟨⟨va, vc, rfl⟩, k5⟩; have Q5 : Hid (Rd 80 g b p3 0 [] w5) := Q4.out.keep (A := fun _ => False) (Kp.of_below k5) (fun h => h); have K5 : Hid (Below W0.heap.size W1 w5) := K4.out.trans (k5.mono (Nat.le_trans B1.out.size K4.out.size)); clear k5)
        go_upto_region 12 with (go_at_call 45; refine (CH.out _ Q5.out).mono ?_; rintro _ w6 ⟨⟨hv, rfl, o6⟩, r6, k6⟩; obtain ⟨ha, hc, hhv⟩ := own_formS o6; subst hhv; have Q6 : Hid (Rd 80 g b p4 e4 [] w6) := r6; have O6 : Hid (w6.ownsRow W0.heap.size 9 1 (.slice ha hs.length hc) hs.length (hs.map Value.string)) := own_base o6 (Nat.le_trans B1.out.size K5.out.size); have K6 : Hid (Below W0.heap.size W1 w6) := K5.out.trans (KB.out _ _ (Nat.le_trans B1.out.size K5.out.size) k6); clear r6 k6 o6)
        obtain ⟨W7, HW7⟩ : ∃ W, W = w6.alloc (.cells #[.int .i64 lo, .int .i64 hi, .slice ha hs.length hc] 24) := ⟨_, rfl⟩
        have hc7 : W7.heap[w6.heap.size]? = some (.cells #[.int .i64 lo, .int .i64 hi, .slice ha hs.length hc] 24 (0, 0)) := by rw [HW7]; exact heap_alloc_new w6 _
        have B67 : Hid (Below w6.heap.size w6 W7) := by rw [HW7]; exact (Below.refl _ _).alloc (Nat.le_refl _) _
        have H7 : Hid _ := hc7
        have Q7 : Hid (Rd 80 g b p4 e4 [] W7) := Q6.out.keep (A := fun _ => False) (Kp.of_below B67.out) (fun h => h)
        have O7 : Hid (W7.ownsRow W0.heap.size 9 1 (.slice ha hs.length hc) hs.length (hs.map Value.string)) := own_later O6.out B67.out
        have K7 : Hid (Below W0.heap.size W1 W7) := K6.out.trans (B67.out.mono (Nat.le_trans B1.out.size K6.out.size))
        have G7 : Hid (w6.heap.size ≠ g) := fun e => by have := (Array.getElem?_eq_some_iff.1 Q6.out).1; omega
        rw [← HW7]
        clear HW7 hc7 c2
        go_upto_region 13 with (go_at_call 46; refine (EC.out _ Q7.out).mono ?_; rintro _ w8 ⟨rfl, r8, k8⟩; have O8 : Hid (w8.ownsRow W0.heap.size 9 1 (.slice ha hs.length hc) hs.length (hs.map Value.string)) := own_tag O7.out Q7.out (by decide) k8; have K8 : Hid (Below W0.heap.size W1 w8) := K7.out.trans (KB.out _ _ (Nat.le_trans B1.out.size K7.out.size) k8); have H8 : Hid _ := (k8.block _ (Array.getElem?_eq_some_iff.1 H7.out).1 G7.out).trans H7.out; clear r8 k8)
        obtain ⟨f0, f1⟩ := FN.out w8 K8.out
        obtain ⟨d0, d1, d2⟩ := three f0
        have g0 := frozen_of_row _ _ 0 _ _ f0
        have g1 := frozen_of_row _ _ 1 _ _ f0
        have g2 := frozen_of_row _ _ 2 _ _ f0
        obtain ⟨u0, u1, u2⟩ := three H8.out
        have FIN : Hid (∀ W', W' = _ → _) := put3 w8 w.heap.size _ _ _ (.int .i64 lo) (.int .i64 hi) (.slice ha hs.length hc) _ f0
        have BF : Hid (Below w.heap.size w w8) := f1
        clear f0 f1
        go_wp2
        obtain ⟨G, hk⟩ := FIN.out _ rfl
        obtain ⟨t0, t1, t2⟩ := three G
        refine bodyPost_ret (by simp [results, Tryd.results12, go_sem, t0, t1, t2]; try rfl) rfl ?_
        exact ⟨⟨ha, hs.length, hc, rfl, own_base (own_kp O8.out hk (fun j hj => by have := HS0.out; omega)) (by have := HS0.out; omega)⟩, BF.out.trans (hk.below (fun j hj => by omega) (BF.out.size))⟩
      · have hz' : (z != 0) = true := by rw [bne_iff_ne]; exact hz
        rw [if_neg hz] at HR0
        rw [HR0.out]
        clear hz
        go_enter Tryd.func12, Tryd.ntmps12
        go_upto_region 2 with fail
        rw [← HX0.out, ← HX1.out, HG1.out]
        go_upto_region 4 with (first
          | (go_at_call 41; refine (CM.out _ R1.out).mono ?_; rintro _ w1 ⟨rfl, r1, k1⟩; have Q1 : Hid (Rd 80 g b p0 e0 [] w1) := r1; have K1 : Hid (Below W0.heap.size W1 w1) := KB.out _ _ B1.out.size k1; clear r1 k1)
          | (go_at_call 42; refine (CW.out _ Q1.out).mono ?_; rintro _ w2 ⟨rfl, r2, k2⟩; have Q2 : Hid (Rd 80 g b p1 e1 [] w2) := r2; have K2 : Hid (Below W0.heap.size W1 w2) := K1.out.trans (KB.out _ _ (Nat.le_trans B1.out.size K1.out.size) k2); clear r2 k2))
        go_upto_region 5 with (go_at_call 43; refine (CL.out _ Q2.out).mono ?_; rintro _ w3 ⟨rfl, r3, k3⟩; have Q3 : Hid (Rd 80 g b p2 e2 [] w3) := r3; have K3 : Hid (Below W0.heap.size W1 w3) := K2.out.trans (KB.out _ _ (Nat.le_trans B1.out.size K2.out.size) k3); clear r3 k3)
        go_upto_region 6 with (go_at_call 43; refine (CN.out _ Q3.out).mono ?_; rintro _ w4 ⟨rfl, r4, k4⟩; have Q4 : Hid (Rd 80 g b p3 0 [] w4) := r4; have K4 : Hid (Below W0.heap.size W1 w4) := K3.out.trans (KB.out _ _ (Nat.le_trans B1.out.size K3.out.size) k4); clear r4 k4)
        have c2 := Q4.out.e
        go_upto_region 11 with (go_at_call 35; refine (CV.out _).mono ?_; rintro _ w5 ⟨⟨va, vc, rfl⟩, k5⟩; have Q5 : Hid (Rd 80 g b p3 0 [] w5) := Q4.out.keep (A := fun _ => False) (Kp.of_below k5) (fun h => h); have K5 : Hid (Below W0.heap.size W1 w5) := K4.out.trans (k5.mono (Nat.le_trans B1.out.size K4.out.size)); clear k5)
        go_upto_region 12 with (go_at_call 45; refine (CH.out _ Q5.out).mono ?_; rintro _ w6 ⟨⟨hv, rfl, o6⟩, r6, k6⟩; obtain ⟨ha, hc, hhv⟩ := own_formS o6; subst hhv; have Q6 : Hid (Rd 80 g b p4 e4 [] w6) := r6; have O6 : Hid (w6.ownsRow W0.heap.size 9 1 (.slice ha hs.length hc) hs.length (hs.map Value.string)) := own_base o6 (Nat.le_trans B1.out.size K5.out.size); have K6 : Hid (Below W0.heap.size W1 w6) := K5.out.trans (KB.out _ _ (Nat.le_trans B1.out.size K5.out.size) k6); clear r6 k6 o6)
        obtain ⟨W7, HW7⟩ : ∃ W, W = w6.alloc (.cells #[.int .i64 lo, .int .i64 hi, .slice ha hs.length hc] 24) := ⟨_, rfl⟩
        have hc7 : W7.heap[w6.heap.size]? = some (.cells #[.int .i64 lo, .int .i64 hi, .slice ha hs.length hc] 24 (0, 0)) := by rw [HW7]; exact heap_alloc_new w6 _
        have B67 : Hid (Below w6.heap.size w6 W7) := by rw [HW7]; exact (Below.refl _ _).alloc (Nat.le_refl _) _
        have H7 : Hid _ := hc7
        have Q7 : Hid (Rd 80 g b p4 e4 [] W7) := Q6.out.keep (A := fun _ => False) (Kp.of_below B67.out) (fun h => h)
        have O7 : Hid (W7.ownsRow W0.heap.size 9 1 (.slice ha hs.length hc) hs.length (hs.map Value.string)) := own_later O6.out B67.out
        have K7 : Hid (Below W0.heap.size W1 W7) := K6.out.trans (B67.out.mono (Nat.le_trans B1.out.size K6.out.size))
        have G7 : Hid (w6.heap.size ≠ g) := fun e => by have := (Array.getElem?_eq_some_iff.1 Q6.out).1; omega
        rw [← HW7]
        clear HW7 hc7 c2
        go_upto_region 13 with (go_at_call 46; refine (EC.out _ Q7.out).mono ?_; rintro _ w8 ⟨rfl, r8, k8⟩; have O8 : Hid (w8.ownsRow W0.heap.size 9 1 (.slice ha hs.length hc) hs.length (hs.map Value.string)) := own_tag O7.out Q7.out (by decide) k8; have K8 : Hid (Below W0.heap.size W1 w8) := K7.out.trans (KB.out _ _ (Nat.le_trans B1.out.size K7.out.size) k8); have H8 : Hid _ := (k8.block _ (Array.getElem?_eq_some_iff.1 H7.out).1 G7.out).trans H7.out; clear r8 k8)
        obtain ⟨f0, f1⟩ := FN.out w8 K8.out
        obtain ⟨d0, d1, d2⟩ := three f0
        have g0 := frozen_of_row _ _ 0 _ _ f0
        have g1 := frozen_of_row _ _ 1 _ _ f0
        have g2 := frozen_of_row _ _ 2 _ _ f0
        have FIN : Hid (∀ W', W' = _ → _) := put3 w8 w.heap.size _ _ _ (.int .i64 0) (.int .i64 0) (.slice none 0 0) _ f0
        have BF : Hid (Below w.heap.size w w8) := f1
        clear f0 f1
        go_wp2
        obtain ⟨G, hk⟩ := FIN.out _ rfl
        obtain ⟨t0, t1, t2⟩ := three G
        refine bodyPost_ret (by simp [results, Tryd.results12, go_sem, t0, t1, t2]; try rfl) rfl ?_
        exact ⟨⟨none, 0, 0, rfl, World.ownsRow_nil _ _ _ _⟩, BF.out.trans (hk.below (fun j hj => by omega) (BF.out.size))⟩
    · rw [HST.out he] at HR0 ⊢
      rw [if_neg he] at HR0
      rw [HR0.out]
      have hz' : (e3 != 0) = true := by rw [bne_iff_ne]; exact he
      clear HST HFR HC10 HOK HF2 hyes hcz CH EC CV HR0 RE he
      go_enter Tryd.func12, Tryd.ntmps12
      go_upto_region 2 with fail
      rw [← HX0.out, ← HX1.out, HG1.out]
      go_upto_region 4 with (first
        | (go_at_call 41; refine (CM.out _ R1.out).mono ?_; rintro _ w1 ⟨rfl, r1, k1⟩; have Q1 : Hid (Rd 80 g b p0 e0 [] w1) := r1; have K1 : Hid (Below W0.heap.size W1 w1) := KB.out _ _ B1.out.size k1; clear r1 k1)
        | (go_at_call 42; refine (CW.out _ Q1.out).mono ?_; rintro _ w2 ⟨rfl, r2, k2⟩; have Q2 : Hid (Rd 80 g b p1 e1 [] w2) := r2; have K2 : Hid (Below W0.heap.size W1 w2) := K1.out.trans (KB.out _ _ (Nat.le_trans B1.out.size K1.out.size) k2); clear r2 k2))
      go_upto_region 5 with (go_at_call 43; refine (CL.out _ Q2.out).mono ?_; rintro _ w3 ⟨rfl, r3, k3⟩; have Q3 : Hid (Rd 80 g b p2 e2 [] w3) := r3; have K3 : Hid (Below W0.heap.size W1 w3) := K2.out.trans (KB.out _ _ (Nat.le_trans B1.out.size K2.out.size) k3); clear r3 k3)
      go_upto_region 6 with (go_at_call 43; refine (CN.out _ Q3.out).mono ?_; rintro _ w4 ⟨rfl, r4, k4⟩; have Q4 : Hid (Rd 80 g b p3 e3 [] w4) := r4; have K4 : Hid (Below W0.heap.size W1 w4) := K3.out.trans (KB.out _ _ (Nat.le_trans B1.out.size K3.out.size) k4); clear r4 k4)
      have c2 := Q4.out.e
      obtain ⟨f0, f1⟩ := FN.out w4 K4.out
      obtain ⟨d0, d1, d2⟩ := three f0
      have g0 := frozen_of_row _ _ 0 _ _ f0
      have g1 := frozen_of_row _ _ 1 _ _ f0
      have g2 := frozen_of_row _ _ 2 _ _ f0
      have FIN : Hid (∀ W', W' = _ → _) := put3 w4 w.heap.size _ _ _ (.int .i64 0) (.int .i64 0) (.slice none 0 0) _ f0
      have BF : Hid (Below w.heap.size w w4) := f1
      have SE : Hid (∀ W', W' = ((w4.setCell ⟨w.heap.size, 0, none⟩ (.int .i64 0)).setCell ⟨w.heap.size, 1, none⟩ (.int .i64 0)).setCell ⟨w.heap.size, 2, none⟩ (.slice none 0 0) → W'.cell? ⟨g, 2, none⟩ = some (.int .i64 e3)) := fun W' e => (Q4.out.keep (FIN.out W' e).2 (by omega)).e
      have SEd : Hid ((((w4.setCell ⟨w.heap.size, 0, none⟩ (.int .i64 0)).setCell ⟨w.heap.size, 1, none⟩ (.int .i64 0)).setCell ⟨w.heap.size, 2, none⟩ (.slice none 0 0)).drew.cell? ⟨g, 2, none⟩ = some (.int .i64 e3)) := SE.out (((w4.setCell ⟨w.heap.size, 0, none⟩ (.int .i64 0)).setCell ⟨w.heap.size, 1, none⟩ (.int .i64 0)).setCell ⟨w.heap.size, 2, none⟩ (.slice none 0 0)) rfl
      clear f0 f1
      go_upto_region 9 with fail
      go_region_held_law (fun w' => w'.cell? ⟨g, 2, none⟩ = some (.int .i64 e3)) (first | exact c2 | exact SEd.out) (fail)
      go_wp2
      obtain ⟨G, hk⟩ := FIN.out _ rfl
      obtain ⟨t0, t1, t2⟩ := three G
      refine bodyPost_ret (by simp [results, Tryd.results12, go_sem, t0, t1, t2]; try rfl) rfl ?_
      exact ⟨⟨none, 0, 0, rfl, World.ownsRow_nil _ _ _ _⟩, below_dr (BF.out.trans (hk.below (fun j hj => by omega) (BF.out.size)))⟩
end Go.Proofs.YthpfgdhmpeadeaaDoor.f11
