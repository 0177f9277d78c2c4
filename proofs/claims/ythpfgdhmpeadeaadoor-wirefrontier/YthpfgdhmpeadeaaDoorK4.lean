import Derived.Test.YthpfgdhmpeadeaaDoorJ4
import Derived.Test.YthpfgdhmpeadeaaDoorJ5
import Derived.Test.YthpfgdhmpeadeaaDoorK3
import Derived.Test.YthpfgdhmpeadeaaDoorK1
import Derived.Deep.RegionHeldLaw
namespace Go.Proofs.YthpfgdhmpeadeaaDoor.e10
open Go.RowKit Go.PlainAid Go.Shelf
open Go.Proofs.YthpfgdhmpeadeaaDoor.ca Go.Proofs.YthpfgdhmpeadeaaDoor.cb Go.Proofs.YthpfgdhmpeadeaaDoor.cp Go.Proofs.YthpfgdhmpeadeaaDoor.cs Go.Proofs.YthpfgdhmpeadeaaDoor.ct Go.Proofs.YthpfgdhmpeadeaaDoor.xc Go.Proofs.YthpfgdhmpeadeaaDoor.xf Go.Proofs.YthpfgdhmpeadeaaDoor.ga Go.Proofs.YthpfgdhmpeadeaaDoor.kp Go.Proofs.YthpfgdhmpeadeaaDoor.na Go.Proofs.YthpfgdhmpeadeaaDoor.nb Go.Proofs.YthpfgdhmpeadeaaDoor.nc Go.Proofs.YthpfgdhmpeadeaaDoor.mi Go.Proofs.YthpfgdhmpeadeaaDoor.ea Go.Proofs.YthpfgdhmpeadeaaDoor.eb Go.Proofs.YthpfgdhmpeadeaaDoor.ec Go.Proofs.YthpfgdhmpeadeaaDoor.ed Go.Proofs.YthpfgdhmpeadeaaDoor.ee Go.Proofs.YthpfgdhmpeadeaaDoor.ef Go.Proofs.YthpfgdhmpeadeaaDoor.eg Go.Proofs.YthpfgdhmpeadeaaDoor.eh Go.Proofs.YthpfgdhmpeadeaaDoor.ej Go.Proofs.YthpfgdhmpeadeaaDoor.ek Go.Proofs.YthpfgdhmpeadeaaDoor.eo Go.Proofs.YthpfgdhmpeadeaaDoor.ep Go.Proofs.YthpfgdhmpeadeaaDoor.eq Go.Proofs.YthpfgdhmpeadeaaDoor.er Go.Proofs.YthpfgdhmpeadeaaDoor.es Go.Proofs.YthpfgdhmpeadeaaDoor.ka Go.Proofs.YthpfgdhmpeadeaaDoor.bn Go.Proofs.YthpfgdhmpeadeaaDoor.e1 Go.Proofs.YthpfgdhmpeadeaaDoor.e2 Go.Proofs.YthpfgdhmpeadeaaDoor.e3 Go.Proofs.YthpfgdhmpeadeaaDoor.e4 Go.Proofs.YthpfgdhmpeadeaaDoor.e6
set_option linter.unusedVariables false

abbrev RF (g : Nat) (b : ByteArray) (p : Nat) (e wd lo hi : Int) (hv : Value) (w : World) : Prop := Rd 76 g b p e [.int .i64 wd, .int .i64 lo, .int .i64 hi, hv] w
theorem rf_cells {g : Nat} {b : ByteArray} {p : Nat} {e wd lo hi : Int} {hv : Value} {w : World} (h : RF g b p e wd lo hi hv w) : w.cell? ⟨g, 3, none⟩ = some (.int .i64 wd) ∧ w.cell? ⟨g, 4, none⟩ = some (.int .i64 lo) ∧ w.cell? ⟨g, 5, none⟩ = some (.int .i64 hi) ∧ w.cell? ⟨g, 6, none⟩ = some hv :=
  ⟨cell_of_row _ _ 3 _ _ _ h, cell_of_row _ _ 4 _ _ _ h, cell_of_row _ _ 5 _ _ _ h, cell_of_row _ _ 6 _ _ _ h⟩
theorem TabB.kp {w w' : World} {T g : Nat} {b : ByteArray} {p : Nat} {e : Int} {rest : List Value} (h : TabB w) (r : Rd T g b p e rest w) (k : Kp (fun k => k = g) w w') : TabB w' := fun j hj => by
  have c := h j hj
  have hne : 0 ≠ g := by
    intro e0
    have c0 := h 0 (by omega)
    have c1 := r.b
    rw [← e0] at c1
    rw [c1] at c0
    exact absurd (Option.some.inj c0) (by simp)
  have hb := k.block 0 (World.block_lt_of_cell? _ _ c) hne
  exact (World.cell?_of_block (w := w) hb).trans c
set_option maxHeartbeats 1600000 in
theorem countF (g : Nat) (b : ByteArray) (p : Nat) (e wd lo hi : Int) (hv : Value) (w : World) (h : RF g b p e wd lo hi hv w) (hha : ∃ ha hl hc, hv = .slice ha hl hc) (i0 : i64 lo) (i1 : i64 hi) (hT : TabB w) :
    Calls Tryd.prog 66 #[.pointer (some ⟨g, 0, none⟩)] w fun x w' => x = .returned (.int .i64 ((covI lo hi).length : Nat)) ∧ RF g b p (refu e (covE lo hi)) wd lo hi hv w' ∧ Kp (fun k => k = g) w w' := by
  obtain ⟨ha, hl, hc, rfl⟩ := hha
  obtain ⟨c3, c4, c5, c6⟩ := rf_cells h
  have hg := h.lt
  have CV : Hid (Calls _ _ _ _ _) := coverC.covers lo hi i0 i1 w.drew hT
  have hln := covI_len lo hi
  obtain ⟨n, HN⟩ : ∃ n, Hid ((covI lo hi).length = n) := ⟨_, rfl⟩
  obtain ⟨z, HZ⟩ : ∃ n, Hid (covE lo hi = n) := ⟨_, rfl⟩
  have CV2 : Hid (Calls Tryd.prog 24 #[.int .i64 lo, .int .i64 hi] w.drew fun e w' => (∃ va vc, e = .returned (.tuple #[.slice va n vc, .int .i64 z])) ∧ Below w.drew.heap.size w.drew w') := CV.out.mono (fun e w' hh => by
    obtain ⟨⟨v, e1, ho⟩, hb⟩ := hh
    obtain ⟨va, vc, hv⟩ := own_formS ho
    rw [HN.out] at hv
    rw [HZ.out] at e1
    exact ⟨⟨va, vc, by rw [e1, hv]⟩, hb⟩)
  rw [HZ.out, HN.out]
  have RW : Hid (RF g b p e wd lo hi (.slice ha hl hc) w) := h
  have RWd : Hid (RF g b p e wd lo hi (.slice ha hl hc) w.drew) := h
  clear h CV hT
  go_enter Tryd.func66, Tryd.ntmps66
  go_upto_region 1 with fail
  go_region_held_law (fun w' => w'.cell? ⟨g, 4, none⟩ = some (.int .i64 lo) ∧ w'.cell? ⟨g, 5, none⟩ = some (.int .i64 hi)) (first | exact ⟨c4, c5⟩ | exact ⟨(rf_cells R1.out).2.1, (rf_cells R1.out).2.2.1⟩) ((go_at_call 24; refine CV2.out.mono ?_; rintro _ w1 ⟨⟨va, vc, rfl⟩, k1⟩; have R1 : Hid (RF g b p e wd lo hi (.slice ha hl hc) w1) := Rd.below RWd.out k1 hg; have K1 : Hid (Below w.heap.size w w1) := below2 (below_dr (Below.refl _ _)) k1 (Nat.le_refl _); clear k1))
  go_wp2_with (go_at_call 67; refine (refuseC 76 g b p e z _ _ R1.out).mono ?_; rintro _ w2 ⟨rfl, r2, k2⟩; have R2 : Hid (RF g b p (refu e z) wd lo hi (.slice ha hl hc) w2) := r2; have K2 : Hid (Kp (fun k => k = g) w1 w2) := k2; clear r2 k2)
  go_ret
  exact ⟨rfl, R2.out, (Kp.of_below K1.out).trans K2.out⟩
set_option maxHeartbeats 3200000 in
theorem freadC (g : Nat) (b : ByteArray) (B : Nat) (w : World) (h : RF g b 0 0 0 0 0 (.slice none 0 0) w) (hb : b.size ≤ 140737488355328) (hB : B ≤ g) (hT : TabB w) :
    Calls Tryd.prog 39 #[.pointer (some ⟨g, 0, none⟩)] w fun x w' => x = .returned (.tuple #[]) ∧ (∃ ha hl hc, RF g b (fS b).2.1 (fS b).2.2 (fW b).1 (fL b).1 (fH b).1 (.slice ha hl hc) w' ∧ w'.ownsRow B 9 1 (.slice ha hl hc) (fS b).1.length ((fS b).1.map Value.string)) ∧ Below B w w' := by
  have hg := h.lt
  have CM : Hid (Calls _ _ _ _ _) := markC 76 g b 0 0 70 ⟨#[70]⟩ _ w h hb (ok0 b) rfl
  have CW : Hid (∀ rest w, _ → Calls _ _ _ (w : World) _) := fun rest w h => widthC 76 g b (markS b 70 0 0).1 (markS b 70 0 0).2 rest w h hb (mark_ok b 70 0 0 (ok0 b))
  have CL : Hid (∀ rest w, _ → Calls _ _ _ (w : World) _) := fun rest w h => sizeC 76 g b (fW b).2.1 (fW b).2.2 rest w h hb (fW_ok b)
  have CG : Hid (∀ rest w, _ → Calls _ _ _ (w : World) _) := fun rest w h => sizeC 76 g b (fL b).2.1 (fL b).2.2 rest w h hb (fL_ok b).1
  have hwd := fW_in b
  have hl := (fL_ok b).2
  have hh := (fH_ok b).2
  have hMX : MX = 4611686018427387904 := rfl
  have hcc := fC_le b
  have CC : Hid (∀ w, RF g b (fH b).2.1 (fH b).2.2 (fW b).1 (fL b).1 (fH b).1 (.slice none 0 0) w → TabB w → Calls _ _ _ (w : World) _) := fun w h t => countF g b (fH b).2.1 (fH b).2.2 (fW b).1 (fL b).1 (fH b).1 (.slice none 0 0) w h ⟨_, _, _, rfl⟩ ⟨by omega, by omega⟩ ⟨by omega, by omega⟩ t
  have CH : Hid (∀ rest w, _ → Calls _ _ _ (w : World) _) := fun rest w h => hashesC 76 g b (fH b).2.1 (fR b) rest (fW b).1.toNat (fC b) w h hb (fR_ok b) (by omega) (by omega)
  have HPH : Hid (fS b = hashesS b (fW b).1.toNat (fC b) (fH b).2.1 (fR b)) := rfl
  rw [← HPH.out] at CH
  have HPW : Hid (fW b = widthS b (markS b 70 0 0).1 (markS b 70 0 0).2) := rfl
  rw [← HPW.out] at CW
  have HPL : Hid (fL b = mostS b 4611686018427387904 10 (fW b).2.1 (fW b).2.2) := rfl
  rw [← HPL.out] at CL
  have HPG : Hid (fH b = mostS b 4611686018427387904 10 (fL b).2.1 (fL b).2.2) := rfl
  rw [← HPG.out] at CG
  have HPC : Hid ((covI (fL b).1 (fH b).1).length = fC b) := rfl
  have HPR : Hid (refu (fH b).2.2 (covE (fL b).1 (fH b).1) = fR b) := rfl
  rw [HPC.out, HPR.out] at CC
  have KB : Hid (∀ w1 w2 : World, w.heap.size ≤ w1.heap.size → Kp (fun k => k = g) w1 w2 → Below B w1 w2) := fun w1 w2 hs k => k.below (fun j hj => by omega) (by omega)
  have RW : Hid (RF g b 0 0 0 0 0 (.slice none 0 0) w) := h
  have TT : Hid (∀ w', Kp (fun k => k = g) w w' → TabB w') := fun w' k => TabB.kp hT RW.out k
  obtain ⟨p0, e0, HM⟩ : ∃ p0 e0, Hid (markS b 70 0 0 = (p0, e0)) := ⟨_, _, rfl⟩
  rw [HM.out] at CM CW
  clear HPH HPW HM HPL HPG HPC HPR
  obtain ⟨wd, p1, e1, H1⟩ : ∃ x y z, Hid (fW b = (x, y, z)) := ⟨_, _, _, rfl⟩
  obtain ⟨lo, p2, e2, H2⟩ : ∃ x y z, Hid (fL b = (x, y, z)) := ⟨_, _, _, rfl⟩
  obtain ⟨hi, p3, e3, H3⟩ : ∃ x y z, Hid (fH b = (x, y, z)) := ⟨_, _, _, rfl⟩
  obtain ⟨hs, p4, e4, H5⟩ : ∃ x y z, Hid (fS b = (x, y, z)) := ⟨_, _, _, rfl⟩
  obtain ⟨cn, H6⟩ : ∃ x, Hid (fC b = x) := ⟨_, rfl⟩
  obtain ⟨er, H7⟩ : ∃ x, Hid (fR b = x) := ⟨_, rfl⟩
  rw [H1.out] at CW CL CC CH hwd ⊢
  rw [H2.out] at CL CG CC hl ⊢
  rw [H3.out] at CG CC CH hh ⊢
  rw [H5.out] at CH ⊢
  rw [H6.out] at CC CH hcc
  rw [H7.out] at CC CH
  have hwd1 : 0 ≤ wd ∧ wd ≤ 255 := hwd
  obtain ⟨wn, hwn⟩ : ∃ wn : Nat, wd = wn := ⟨wd.toNat, by omega⟩
  subst hwn
  clear hwd h H1 H2 H3 H5 H6 H7 hT
  simp only [Int.toNat_natCast] at CH
  go_enter Tryd.func39, Tryd.ntmps39
  go_upto_region 2 with (first
    | (go_at_call 62; refine CM.out.mono ?_; rintro _ w1 ⟨rfl, r1, k1⟩; have R1 : Hid (RF g b p0 e0 0 0 0 (.slice none 0 0) w1) := r1; have K1 : Hid (Kp (fun k => k = g) w w1) := k1; clear r1 k1)
    | (go_at_call 63; refine (CW.out _ _ R1.out).mono ?_; rintro _ w2 ⟨rfl, r2, k2⟩; have R2 : Hid (RF g b p1 e1 0 0 0 (.slice none 0 0) w2) := r2; have K2 : Hid (Kp (fun k => k = g) w w2) := K1.out.trans k2; have d3 : w2.cell? ⟨g, 3, none⟩ = some (.int .i64 0) := cell_of_row _ _ 3 _ _ _ r2; have f3 := frozen_of_row _ _ 3 _ _ r2; clear r2 k2))
  have R3 : Hid (RF g b p1 e1 wn 0 0 (.slice none 0 0) (w2.setCell ⟨g, 3, none⟩ (.int .i64 wn))) := heap_setCell_same _ _ 3 _ _ _ R2.out
  have K3 : Hid (Kp (fun k => k = g) w (w2.setCell ⟨g, 3, none⟩ (.int .i64 wn))) := K2.out.trans (kset _ _ _ _)
  obtain ⟨w3, HW⟩ : ∃ w3, w3 = w2.setCell ⟨g, 3, none⟩ (.int .i64 wn) := ⟨_, rfl⟩
  rw [← HW] at R3 K3 ⊢
  clear HW d3 f3
  go_upto_region 3 with (go_at_call 64; refine (CL.out _ _ R3.out).mono ?_; rintro _ w4 ⟨rfl, r4, k4⟩; have R4 : Hid (RF g b p2 e2 wn 0 0 (.slice none 0 0) w4) := r4; have K4 : Hid (Kp (fun k => k = g) w w4) := K3.out.trans k4; have d4 : w4.cell? ⟨g, 4, none⟩ = some (.int .i64 0) := cell_of_row _ _ 4 _ _ _ r4; have f4 := frozen_of_row _ _ 4 _ _ r4; clear r4 k4)
  have R5 : Hid (RF g b p2 e2 wn lo 0 (.slice none 0 0) (w4.setCell ⟨g, 4, none⟩ (.int .i64 lo))) := heap_setCell_same _ _ 4 _ _ _ R4.out
  have K5 : Hid (Kp (fun k => k = g) w (w4.setCell ⟨g, 4, none⟩ (.int .i64 lo))) := K4.out.trans (kset _ _ _ _)
  obtain ⟨w5, HW⟩ : ∃ w5, w5 = w4.setCell ⟨g, 4, none⟩ (.int .i64 lo) := ⟨_, rfl⟩
  rw [← HW] at R5 K5 ⊢
  clear HW d4 f4
  go_upto_region 4 with (go_at_call 64; refine (CG.out _ _ R5.out).mono ?_; rintro _ w6 ⟨rfl, r6, k6⟩; have R6 : Hid (RF g b p3 e3 wn lo 0 (.slice none 0 0) w6) := r6; have K6 : Hid (Kp (fun k => k = g) w w6) := K5.out.trans k6; have d5 : w6.cell? ⟨g, 5, none⟩ = some (.int .i64 0) := cell_of_row _ _ 5 _ _ _ r6; have f5 := frozen_of_row _ _ 5 _ _ r6; clear r6 k6)
  have R7 : Hid (RF g b p3 e3 wn lo hi (.slice none 0 0) (w6.setCell ⟨g, 5, none⟩ (.int .i64 hi))) := heap_setCell_same _ _ 5 _ _ _ R6.out
  have K7 : Hid (Kp (fun k => k = g) w (w6.setCell ⟨g, 5, none⟩ (.int .i64 hi))) := K6.out.trans (kset _ _ _ _)
  obtain ⟨w7, HW⟩ : ∃ w7, w7 = w6.setCell ⟨g, 5, none⟩ (.int .i64 hi) := ⟨_, rfl⟩
  rw [← HW] at R7 K7 ⊢
  clear HW d5 f5
  have R7d : Hid (RF g b p3 e3 wn lo hi (.slice none 0 0) w7.drew) := R7.out
  have K7d : Hid (Kp (fun k => k = g) w w7.drew) := K7.out.trans (Kp.of_below (below_dr (Below.refl _ _)))
  have SX : Hid (∀ w' (p : Nat) (e : Int) (hv : Value), RF g b p e wn lo hi hv w' → w'.cell? ⟨g, 3, none⟩ = some (.int .i64 wn)) := fun w' p e hv r => cell_of_row _ _ 3 _ _ _ r
  go_region_held3 (fun w' => w'.cell? ⟨g, 3, none⟩ = some (.int .i64 wn)) (first | exact SX.out _ _ _ _ R7d.out | exact SX.out _ _ _ _ R8.out | exact SX.out _ _ _ _ R9.out | exact SX.out _ _ _ _ R10.out) (first
    | (go_at_call 66; refine (CC.out _ R7d.out (TT.out _ K7d.out)).mono ?_; rintro _ w8 ⟨rfl, r8, k8⟩; have R8 : Hid (RF g b p3 er wn lo hi (.slice none 0 0) w8) := r8; have K8 : Hid (Kp (fun k => k = g) w w8) := K7d.out.trans k8; clear r8 k8)
    | (go_at_call 65; refine (CH.out _ _ R8.out).mono ?_; rintro _ w9 ⟨⟨hv, rfl, o9⟩, r9, k9⟩; obtain ⟨ha, hc, hhv⟩ := own_formS o9; subst hhv; have R9 : Hid (RF g b p4 e4 wn lo hi (.slice none 0 0) w9) := r9; have K9 : Hid (Kp (fun k => k = g) w w9) := K8.out.trans k9; have H9 : Hid (w9.ownsRow w8.heap.size 9 1 (.slice ha hs.length hc) hs.length (hs.map Value.string)) := o9; have d6 : w9.cell? ⟨g, 6, none⟩ = some (.slice none 0 0) := cell_of_row _ _ 6 _ _ _ r9; have f6 := frozen_of_row _ _ 6 _ _ r9; have hs8 := K8.out.size; have R10 : Hid (RF g b p4 e4 wn lo hi (.slice ha hs.length hc) (w9.setCell ⟨g, 6, none⟩ (.slice ha hs.length hc))) := heap_setCell_same _ _ 6 _ _ _ r9; have K10 : Hid (Kp (fun k => k = g) w (w9.setCell ⟨g, 6, none⟩ (.slice ha hs.length hc))) := K9.out.trans (kset _ _ _ _); clear r9 k9 o9))
  go_wp2
  go_end0
  exact ⟨rfl, ⟨ha, _, hc, R10.out, own_base (own_kp H9.out (kset _ _ _ _) (fun j hj => by omega)) (by omega)⟩, KB.out _ _ (Nat.le_refl _) K10.out⟩
end Go.Proofs.YthpfgdhmpeadeaaDoor.e10

namespace Go.Proofs.YthpfgdhmpeadeaaDoor.e11
open Go.RowKit Go.PlainAid Go.Shelf
open Go.Proofs.YthpfgdhmpeadeaaDoor.ca Go.Proofs.YthpfgdhmpeadeaaDoor.cb Go.Proofs.YthpfgdhmpeadeaaDoor.cp Go.Proofs.YthpfgdhmpeadeaaDoor.cs Go.Proofs.YthpfgdhmpeadeaaDoor.ct Go.Proofs.YthpfgdhmpeadeaaDoor.xc Go.Proofs.YthpfgdhmpeadeaaDoor.xf Go.Proofs.YthpfgdhmpeadeaaDoor.ga Go.Proofs.YthpfgdhmpeadeaaDoor.kp Go.Proofs.YthpfgdhmpeadeaaDoor.na Go.Proofs.YthpfgdhmpeadeaaDoor.nb Go.Proofs.YthpfgdhmpeadeaaDoor.nc Go.Proofs.YthpfgdhmpeadeaaDoor.mi Go.Proofs.YthpfgdhmpeadeaaDoor.ea Go.Proofs.YthpfgdhmpeadeaaDoor.eb Go.Proofs.YthpfgdhmpeadeaaDoor.ec Go.Proofs.YthpfgdhmpeadeaaDoor.ed Go.Proofs.YthpfgdhmpeadeaaDoor.ee Go.Proofs.YthpfgdhmpeadeaaDoor.ef Go.Proofs.YthpfgdhmpeadeaaDoor.eg Go.Proofs.YthpfgdhmpeadeaaDoor.eh Go.Proofs.YthpfgdhmpeadeaaDoor.ej Go.Proofs.YthpfgdhmpeadeaaDoor.ek Go.Proofs.YthpfgdhmpeadeaaDoor.eo Go.Proofs.YthpfgdhmpeadeaaDoor.ep Go.Proofs.YthpfgdhmpeadeaaDoor.eq Go.Proofs.YthpfgdhmpeadeaaDoor.er Go.Proofs.YthpfgdhmpeadeaaDoor.es Go.Proofs.YthpfgdhmpeadeaaDoor.ka Go.Proofs.YthpfgdhmpeadeaaDoor.bn Go.Proofs.YthpfgdhmpeadeaaDoor.e1 Go.Proofs.YthpfgdhmpeadeaaDoor.e2 Go.Proofs.YthpfgdhmpeadeaaDoor.e3 Go.Proofs.YthpfgdhmpeadeaaDoor.e4 Go.Proofs.YthpfgdhmpeadeaaDoor.e5 Go.Proofs.YthpfgdhmpeadeaaDoor.e6 Go.Proofs.YthpfgdhmpeadeaaDoor.e10
set_option linter.unusedVariables false

theorem put3 (w : World) (p : Nat) (a0 a1 a2 x0 x1 x2 : Value) (t : TypeId) (h : w.heap[p]? = some (.cells #[a0, a1, a2] t (0, 0))) :
    ∀ W, W = ((w.setCell ⟨p, 0, none⟩ x0).setCell ⟨p, 1, none⟩ x1).setCell ⟨p, 2, none⟩ x2 → W.heap[p]? = some (.cells #[x0, x1, x2] t (0, 0)) ∧ Kp (fun q => q = p) w W := by
  intro W hW
  obtain ⟨u0, e0⟩ : ∃ v, v = w.setCell ⟨p, 0, none⟩ x0 := ⟨_, rfl⟩
  rw [← e0] at hW
  have h0 : u0.heap[p]? = some (.cells #[x0, a1, a2] t (0, 0)) := by rw [e0]; exact heap_setCell_same _ _ 0 _ _ x0 h
  have k0 : Kp (fun q => q = p) w u0 := by rw [e0]; exact kset _ _ _ _
  clear e0
  obtain ⟨u1, e1⟩ : ∃ v, v = u0.setCell ⟨p, 1, none⟩ x1 := ⟨_, rfl⟩
  rw [← e1] at hW
  have h1 : u1.heap[p]? = some (.cells #[x0, x1, a2] t (0, 0)) := by rw [e1]; exact heap_setCell_same _ _ 1 _ _ x1 h0
  have k1 : Kp (fun q => q = p) u0 u1 := by rw [e1]; exact kset _ _ _ _
  clear e1
  have h2 : W.heap[p]? = some (.cells #[x0, x1, x2] t (0, 0)) := by rw [hW]; exact heap_setCell_same _ _ 2 _ _ x2 h1
  have k2 : Kp (fun q => q = p) u1 W := by rw [hW]; exact kset _ _ _ _
  exact ⟨h2, (k0.trans k1).trans k2⟩
theorem three {w : World} {p : Nat} {x0 x1 x2 : Value} {t : TypeId} (h : w.heap[p]? = some (.cells #[x0, x1, x2] t (0, 0))) : w.cell? ⟨p, 0, none⟩ = some x0 ∧ w.cell? ⟨p, 1, none⟩ = some x1 ∧ w.cell? ⟨p, 2, none⟩ = some x2 :=
  ⟨cell_of_row _ _ 0 _ _ _ h, cell_of_row _ _ 1 _ _ _ h, cell_of_row _ _ 2 _ _ _ h⟩
-- what a reader of compact ranges answers
structure FR where
  lo : Int
  hi : Int
  wd : Int
  hs : List ByteArray
def ufR (b : ByteArray) : FR := if fE b = 0 then ⟨(fL b).1, (fH b).1, (fW b).1, (fS b).1⟩ else ⟨0, 0, 0, []⟩
def ReadF (w : World) (r : FR) (x : Int) (e : Ending) (w' : World) : Prop :=
  (∃ ha hl hc, e = .returned (.tuple #[.agg #[.int .i64 r.lo, .int .i64 r.hi, .slice ha hl hc], .int .i64 r.wd, .int .i64 x]) ∧ w'.ownsRow w.heap.size 9 1 (.slice ha hl hc) r.hs.length (r.hs.map Value.string)) ∧ Below w.heap.size w w'
set_option maxRecDepth 100000 in
set_option maxHeartbeats 3200000 in
theorem unFrontierC (b : ByteArray) (w : World) (hb : b.size ≤ 140737488355328) (hT : TabB w) : Calls Tryd.prog 11 #[.string b] w (ReadF w (ufR b) (fE b)) := by
  have HR0 : Hid (ufR b = if fE b = 0 then ⟨(fL b).1, (fH b).1, (fW b).1, (fS b).1⟩ else ⟨0, 0, 0, []⟩) := rfl
  have EC : Hid (∀ g rest W, _ → Calls _ _ _ _ _) := fun g rest W h => endC 76 g b (fS b).2.1 (fS b).2.2 rest W h hb (fS_ok b).1
  have HE : Hid (endS b (fS b).2.1 (fS b).2.2 = fE b) := rfl
  rw [HE.out] at EC
  obtain ⟨W0, HX0⟩ : ∃ W0, Hid (W0 = w.alloc (.cells #[.int .i64 0, .int .i64 0, .slice none 0 0] 24)) := ⟨_, rfl⟩
  have HW0 := HX0.out
  have hW0 : W0.heap[w.heap.size]? = some (.cells #[.int .i64 0, .int .i64 0, .slice none 0 0] 24 (0, 0)) := by rw [HW0]; exact heap_alloc_new w _
  have B0 : Hid (Below w.heap.size w W0) := by rw [HW0]; exact (Below.refl _ _).alloc (Nat.le_refl _) _
  have hs0 : W0.heap.size = w.heap.size + 1 := by rw [HW0]; simp
  obtain ⟨g, HG⟩ : ∃ g, g = W0.heap.size := ⟨_, rfl⟩
  obtain ⟨W1, HX1⟩ : ∃ W1, Hid (W1 = W0.alloc (.cells #[.string b, .int .i64 0, .int .i64 0, .int .i64 0, .int .i64 0, .int .i64 0, .slice none 0 0] 76)) := ⟨_, rfl⟩
  have HW1 := HX1.out
  have R1 : Hid (RF g b 0 0 0 0 0 (.slice none 0 0) W1) := by rw [HW1, HG]; exact heap_alloc_new W0 _
  have B1 : Hid (Below W0.heap.size W0 W1) := by rw [HW1]; exact (Below.refl _ _).alloc (Nat.le_refl _) _
  have T1 : TabB W1 := TabB.later (TabB.later hT B0.out) B1.out
  have LR : Hid (Calls _ _ _ _ _) := freadC g b W0.heap.size W1 R1.out hb (by omega) T1
  have P1 : Hid (W1.heap[w.heap.size]? = _) := (B1.out.block _ (by omega)).trans hW0
  have KB : Hid (∀ w1 w2 : World, W0.heap.size ≤ w1.heap.size → Kp (fun k => k = g) w1 w2 → Below W0.heap.size w1 w2) := fun w1 w2 hs k => k.below (fun j hj => by omega) (by omega)
  have HS0 : Hid (W0.heap.size = w.heap.size + 1 ∧ g = W0.heap.size) := ⟨hs0, HG⟩
  have FN : Hid (∀ w2 : World, Below W0.heap.size W1 w2 → w2.heap[w.heap.size]? = some (.cells #[.int .i64 0, .int .i64 0, .slice none 0 0] 24 (0, 0)) ∧ Below w.heap.size w w2) := fun w2 h2 => ⟨(h2.block _ (by omega)).trans P1.out, ⟨h2.os.trans (B1.out.os.trans B0.out.os), h2.tape.trans (B1.out.tape.trans B0.out.tape), h2.output.trans (B1.out.output.trans B0.out.output), Nat.le_trans B0.out.size (Nat.le_trans B1.out.size h2.size), fun j hj => (h2.block j (by omega)).trans ((B1.out.block j (by omega)).trans (B0.out.block j hj))⟩⟩
  obtain ⟨z, HZ⟩ : ∃ z, Hid (fE b = z) := ⟨_, rfl⟩
  rw [HZ.out] at EC HR0 ⊢
  obtain ⟨wd, HWD⟩ : ∃ k, Hid ((fW b).1 = k) := ⟨_, rfl⟩
  obtain ⟨lo, HLO⟩ : ∃ k, Hid ((fL b).1 = k) := ⟨_, rfl⟩
  obtain ⟨hi, HHI⟩ : ∃ k, Hid ((fH b).1 = k) := ⟨_, rfl⟩
  obtain ⟨hs, q, z0, HH⟩ : ∃ x y z, Hid (fS b = (x, y, z)) := ⟨_, _, _, rfl⟩
  rw [HWD.out, HLO.out, HHI.out, HH.out] at HR0 LR
  rw [HH.out] at EC
  have hg2 : g ≠ w.heap.size := by omega
  have HG1 : Hid (w.heap.size + 1 = g) := by have := HS0.out; show _ = _; omega
  clear hW0 hs0 P1 HW0 HW1 HG T1 hT
  by_cases hz : z = 0
  · subst hz
    rw [if_pos rfl] at HR0
    rw [HR0.out]
    go_enter Tryd.func11, Tryd.ntmps11
    go_upto_region 2 with fail
    rw [← HX0.out, ← HX1.out, HG1.out]
    go_upto_region 6 with (first
      | (go_at_call 39; refine LR.out.mono ?_; rintro _ w2 ⟨rfl, ⟨ha, hl, hc, r2, h2⟩, k2⟩; have R2 : Hid (RF g b q z0 wd lo hi (.slice ha hl hc) w2) := r2; have H2 : Hid (w2.ownsRow W0.heap.size 9 1 (.slice ha hl hc) hs.length (hs.map Value.string)) := h2; have K2 : Hid (Below W0.heap.size W1 w2) := k2; clear r2 h2 k2)
      | (go_at_call 40; refine (EC.out g _ _ R2.out).mono ?_; rintro _ w3 ⟨rfl, r3, k3⟩; have R3 : Hid (RF g b q 0 wd lo hi (.slice ha hl hc) w3) := r3; have H3 : Hid (w3.ownsRow W0.heap.size 9 1 (.slice ha hl hc) hs.length (hs.map Value.string)) := own_tag H2.out R2.out (by decide) k3; have K3 : Hid (Below W0.heap.size W1 w3) := K2.out.trans (KB.out _ _ (Nat.le_trans B1.out.size K2.out.size) k3); clear r3 k3))
    obtain ⟨f0, f1⟩ := FN.out w3 K3.out
    obtain ⟨c3, c4, c5, c6⟩ := rf_cells R3.out
    obtain ⟨d0, d1, d2⟩ := three f0
    have g0 := frozen_of_row _ _ 0 _ _ f0
    have g1 := frozen_of_row _ _ 1 _ _ f0
    have g2 := frozen_of_row _ _ 2 _ _ f0
    have FIN : Hid (∀ W', W' = _ → _) := put3 w3 w.heap.size _ _ _ (.int .i64 lo) (.int .i64 hi) (.slice ha hl hc) _ f0
    have BF : Hid (Below w.heap.size w w3) := f1
    have SE : Hid (∀ W', W' = ((w3.setCell ⟨w.heap.size, 0, none⟩ (.int .i64 lo)).setCell ⟨w.heap.size, 1, none⟩ (.int .i64 hi)).setCell ⟨w.heap.size, 2, none⟩ (.slice ha hl hc) → W'.cell? ⟨g, 3, none⟩ = some (.int .i64 wd) ∧ W'.cell? ⟨g, 4, none⟩ = some (.int .i64 lo) ∧ W'.cell? ⟨g, 5, none⟩ = some (.int .i64 hi) ∧ W'.cell? ⟨g, 6, none⟩ = some (.slice ha hl hc)) := fun W' e => rf_cells (R3.out.keep (FIN.out W' e).2 (by omega))
    have SEd : Hid ((((w3.setCell ⟨w.heap.size, 0, none⟩ (.int .i64 lo)).setCell ⟨w.heap.size, 1, none⟩ (.int .i64 hi)).setCell ⟨w.heap.size, 2, none⟩ (.slice ha hl hc)).drew.cell? ⟨g, 3, none⟩ = some (.int .i64 wd) ∧ (((w3.setCell ⟨w.heap.size, 0, none⟩ (.int .i64 lo)).setCell ⟨w.heap.size, 1, none⟩ (.int .i64 hi)).setCell ⟨w.heap.size, 2, none⟩ (.slice ha hl hc)).drew.cell? ⟨g, 4, none⟩ = some (.int .i64 lo) ∧ (((w3.setCell ⟨w.heap.size, 0, none⟩ (.int .i64 lo)).setCell ⟨w.heap.size, 1, none⟩ (.int .i64 hi)).setCell ⟨w.heap.size, 2, none⟩ (.slice ha hl hc)).drew.cell? ⟨g, 5, none⟩ = some (.int .i64 hi) ∧ (((w3.setCell ⟨w.heap.size, 0, none⟩ (.int .i64 lo)).setCell ⟨w.heap.size, 1, none⟩ (.int .i64 hi)).setCell ⟨w.heap.size, 2, none⟩ (.slice ha hl hc)).drew.cell? ⟨g, 6, none⟩ = some (.slice ha hl hc)) := SE.out (((w3.setCell ⟨w.heap.size, 0, none⟩ (.int .i64 lo)).setCell ⟨w.heap.size, 1, none⟩ (.int .i64 hi)).setCell ⟨w.heap.size, 2, none⟩ (.slice ha hl hc)) rfl
    clear f0 f1
    go_region_held_law (fun w' => w'.cell? ⟨g, 3, none⟩ = some (.int .i64 wd) ∧ w'.cell? ⟨g, 4, none⟩ = some (.int .i64 lo) ∧ w'.cell? ⟨g, 5, none⟩ = some (.int .i64 hi) ∧ w'.cell? ⟨g, 6, none⟩ = some (.slice ha hl hc)) (first | exact ⟨c3, c4, c5, c6⟩ | exact SEd.out) (fail)
    go_wp2
    obtain ⟨G, hk⟩ := FIN.out _ rfl
    obtain ⟨e0, e1, e2⟩ := three G
    refine bodyPost_ret (by simp [results, Tryd.results11, go_sem, e0, e1, e2]; try rfl) rfl ?_
    exact ⟨⟨ha, hl, hc, rfl, own_base (own_kp H3.out (hk.trans (Kp.of_below (below_dr (Below.refl _ _)))) (fun j hj => by have := HS0.out; omega)) (by have := HS0.out; omega)⟩, below_dr (BF.out.trans (hk.below (fun j hj => by omega) (BF.out.size)))⟩
  · have hz' : (z != 0) = true := by rw [bne_iff_ne]; exact hz
    rw [if_neg hz] at HR0
    rw [HR0.out]
    clear hz
    go_enter Tryd.func11, Tryd.ntmps11
    go_upto_region 2 with fail
    rw [← HX0.out, ← HX1.out, HG1.out]
    go_upto_region 5 with (first
      | (go_at_call 39; refine LR.out.mono ?_; rintro _ w2 ⟨rfl, ⟨ha, hl, hc, r2, h2⟩, k2⟩; have R2 : Hid (RF g b q z0 wd lo hi (.slice ha hl hc) w2) := r2; have K2 : Hid (Below W0.heap.size W1 w2) := k2; clear r2 h2 k2)
      | (go_at_call 40; refine (EC.out g _ _ R2.out).mono ?_; rintro _ w3 ⟨rfl, r3, k3⟩; have K3 : Hid (Below W0.heap.size W1 w3) := K2.out.trans (KB.out _ _ (Nat.le_trans B1.out.size K2.out.size) k3); clear r3 k3))
    obtain ⟨f0, f1⟩ := FN.out w3 K3.out
    obtain ⟨d0, d1, d2⟩ := three f0
    have g0 := frozen_of_row _ _ 0 _ _ f0
    have g1 := frozen_of_row _ _ 1 _ _ f0
    have g2 := frozen_of_row _ _ 2 _ _ f0
    have FIN : Hid (∀ W', W' = _ → _) := put3 w3 w.heap.size _ _ _ (.int .i64 0) (.int .i64 0) (.slice none 0 0) _ f0
    have BF : Hid (Below w.heap.size w w3) := f1
    clear f0 f1
    go_wp2
    obtain ⟨G, hk⟩ := FIN.out _ rfl
    obtain ⟨e0, e1, e2⟩ := three G
    refine bodyPost_ret (by simp [results, Tryd.results11, go_sem, e0, e1, e2]; try rfl) rfl ?_
    exact ⟨⟨none, 0, 0, rfl, World.ownsRow_nil _ _ _ _⟩, BF.out.trans (hk.below (fun j hj => by omega) (BF.out.size))⟩

-- a compact range, written
def frontE (wd lo hi : Int) (hs : List ByteArray) : Int := if covE lo hi = 0 then (if hs.length = (covI lo hi).length then (if allW (widI wd) hs then 0 else 72) else 71) else covE lo hi
def frontT (wd lo hi : Int) (hs : List ByteArray) : ByteArray := (((⟨#[70]⟩ : ByteArray) ++ str [widI wd]) ++ ⟨(numsB [lo, hi]).toArray⟩) ++ ⟨(cat hs).toArray⟩
def frontV (wd lo hi : Int) (hs : List ByteArray) : Value := .tuple #[.string (if frontE wd lo hi hs = 0 then frontT wd lo hi hs else ByteArray.empty), .int .i64 (frontE wd lo hi hs)]
theorem frontT_is (wd lo hi : Int) (hs : List ByteArray) : bl (frontT wd lo hi hs) = frontB (widI wd) lo hi hs := by
  unfold frontT frontB
  rw [bl_app, bl_app, bl_app, bl_one, bl_of, bl_of, numsB_cons, numsB_one']
  show (([70] ++ _) ++ (_ ++ _)) ++ _ = _
  rw [List.append_assoc, List.append_assoc, List.append_assoc]
  rfl
theorem lits2 (W : World) (x y : Int) : ReadsI (W.alloc (.cells #[.int .i64 x, .int .i64 y] 3)) (.slice (some ⟨W.heap.size, 0, none⟩) 2 2) [x, y] := lits W [x, y] (by simp)
set_option maxRecDepth 100000 in
set_option maxHeartbeats 6400000 in
theorem frontierC (wd lo hi : Int) (ha : Option Addr) (hl hc : Nat) (hs : List ByteArray) (w : World) (i0 : i64 lo) (i1 : i64 hi) (hR : ReadsT w (.slice ha hl hc) hs) (hz : hs.length ≤ 140737488355328) (hT : TabB w) :
    Calls Tryd.prog 7 #[.int .i64 wd, .agg #[.int .i64 lo, .int .i64 hi, .slice ha hl hc]] w fun e w' => e = .returned (frontV wd lo hi hs) ∧ Below w.heap.size w w' := by
  obtain ⟨W, HW⟩ : ∃ W, W = w.alloc (.cells #[.int .i64 lo, .int .i64 hi, .slice ha hl hc] 24) := ⟨_, rfl⟩
  have hW : W.heap[w.heap.size]? = some (.cells #[.int .i64 lo, .int .i64 hi, .slice ha hl hc] 24 (0, 0)) := by rw [HW]; exact heap_alloc_new w _
  have HWW : Hid (W.heap[w.heap.size]? = some (.cells #[.int .i64 lo, .int .i64 hi, .slice ha hl hc] 24 (0, 0))) := hW
  have HLT : Hid (w.heap.size < W.heap.size) := (Array.getElem?_eq_some_iff.1 hW).1
  have BW : Hid (Below w.heap.size w W) := by rw [HW]; exact (Below.refl _ _).alloc (Nat.le_refl _) _
  obtain ⟨d0, d1, d2⟩ := three hW
  have HM : hl = hs.length := by obtain ⟨_, _, e, _⟩ := hR; exact (Value.slice.inj e).2.1
  have PB : Hid (∀ w', Below W.heap.size W w' → w'.cell? ⟨w.heap.size, 0, none⟩ = some (.int .i64 lo) ∧ w'.cell? ⟨w.heap.size, 1, none⟩ = some (.int .i64 hi) ∧ w'.cell? ⟨w.heap.size, 2, none⟩ = some (.slice ha hl hc)) := fun w' h => three ((h.block _ HLT.out).trans HWW.out)
  have CW : Hid (∀ w, Calls _ _ _ (w : World) _) := fun w => widthOfC wd w
  have hwi := widI_in wd
  have hln := covI_len lo hi
  have TW : TabB W := TabB.later hT BW.out
  have CV : Hid (Calls _ _ _ _ _) := coverC.covers lo hi i0 i1 W TW
  have RT : Hid (ReadsT W (.slice ha hl hc) hs) := hR.later BW.out
  have AH : Hid (∀ W', Below W.heap.size W W' → Calls _ _ _ (W' : World) _) := fun W' h => areHashesC (widI wd) _ hs W' (RT.out.later h) hz
  have HV : Hid (frontV wd lo hi hs = .tuple #[.string (if frontE wd lo hi hs = 0 then frontT wd lo hi hs else ByteArray.empty), .int .i64 (frontE wd lo hi hs)]) := rfl
  rw [HV.out]
  have HE : Hid (frontE wd lo hi hs = if covE lo hi = 0 then (if hl = (covI lo hi).length then (if allW (widI wd) hs then 0 else 72) else 71) else covE lo hi) := by show _ = _; rw [HM]; rfl
  have HOK : Hid (covE lo hi = 0 → okR lo hi) := covE_zero.1
  obtain ⟨n, HN⟩ : ∃ n, Hid ((covI lo hi).length = n) := ⟨_, rfl⟩
  obtain ⟨z, HZ⟩ : ∃ n, Hid (covE lo hi = n) := ⟨_, rfl⟩
  have CV2 : Hid (Calls Tryd.prog 24 #[.int .i64 lo, .int .i64 hi] W fun e w' => (∃ va vc, e = .returned (.tuple #[.slice va n vc, .int .i64 z])) ∧ Below W.heap.size W w') := CV.out.mono (fun e w' hh => by
    obtain ⟨⟨v, e1, ho⟩, hb⟩ := hh
    obtain ⟨va, vc, hv⟩ := own_formS ho
    rw [HN.out] at hv
    rw [HZ.out] at e1
    exact ⟨⟨va, vc, by rw [e1, hv]⟩, hb⟩)
  rw [HN.out, HZ.out] at HE
  rw [HZ.out] at HOK
  rw [HN.out] at hln
  clear hW hR hT TW CV HV HZ HN
  by_cases hz0 : z = 0
  · rw [if_pos hz0] at HE
    have okk := HOK.out hz0
    subst hz0
    by_cases hq : hl = n
    · rw [if_pos hq] at HE
      have q1 : ((hl : Int) != (n : Int)) = false := by rw [hq]; simp
      by_cases hal : allW (widI wd) hs = true
      · rw [if_pos hal] at HE
        rw [HE.out, if_pos rfl]
        have HT : Hid (frontT wd lo hi hs = (((⟨#[70]⟩ : ByteArray) ++ str [widI wd]) ++ ⟨(numsB [lo, hi]).toArray⟩) ++ ⟨(cat hs).toArray⟩) := rfl
        rw [HT.out]
        have hcat := cat_le (widI wd) hs hal hwi.2 (by omega)
        rw [hal] at AH
        have n1 : ∀ x ∈ [lo, hi], 0 ≤ x ∧ x ≤ 9223372036854775807 := fun x hx => by
          obtain ⟨o1, o2, o3⟩ := okk
          simp at hx
          rcases hx with rfl | rfl <;> omega
        have NU : Hid (∀ W v, ReadsI W v [lo, hi] → Calls _ _ _ (W : World) _) := fun W v h => numbersC v _ W h n1 (by simp)
        have SC : Hid (∀ W, ReadsT W (.slice ha hl hc) hs → Calls _ _ _ (W : World) _) := fun W h => sideC _ hs W h (by omega) (by omega)
        have hns := nums_size _ n1 (by simp)
        have hca : (⟨(cat hs).toArray⟩ : ByteArray).size ≤ 32000000 := by show (cat hs).toArray.size ≤ _; rw [List.size_toArray]; omega
        obtain ⟨wi, HWI⟩ : ∃ x, Hid (widI wd = x) := ⟨_, rfl⟩
        rw [HWI.out] at CW AH hwi ⊢
        have HC1 : Hid (∀ W, Calls _ _ _ (W : World) _) := fun W => headC ⟨#[70]⟩ wi W (by decide) (by omega) (by omega)
        have hsh : ((⟨#[70]⟩ : ByteArray) ++ str [wi]).size = 2 := by rw [ByteArray.size_append, str_size]; rfl
        obtain ⟨Hd, HHd⟩ : ∃ C : ByteArray, Hid ((⟨#[70]⟩ : ByteArray) ++ str [wi] = C) := ⟨_, rfl⟩
        obtain ⟨C, HC⟩ : ∃ C : ByteArray, Hid ((⟨(cat hs).toArray⟩ : ByteArray) = C) := ⟨_, rfl⟩
        obtain ⟨Z, HZZ⟩ : ∃ C : ByteArray, Hid ((⟨(numsB [lo, hi]).toArray⟩ : ByteArray) = C) := ⟨_, rfl⟩
        rw [HHd.out] at HC1 hsh ⊢
        rw [HC.out] at SC hca ⊢
        rw [HZZ.out] at NU hns ⊢
        have a1 := add_text Hd Z (by omega)
        have z1 : (Hd ++ Z).size ≤ 20002 := by rw [ByteArray.size_append]; omega
        have a2 := add_text (Hd ++ Z) C (by omega)
        clear HE okk hq hal HT hcat n1 HHd HC HZZ HWI HM HOK
        go_enter Tryd.func7, Tryd.ntmps7
        go_upto_region 1 with fail
        rw [← HW]
        clear HW
        go_upto_region 9 with (first
          | (go_at_call 29; refine (CW.out _).mono ?_; rintro _ wz ⟨rfl, hz⟩; rw [hz]; clear hz)
          | (go_at_call 24; refine CV2.out.mono ?_; rintro _ w0 ⟨⟨va, vc, rfl⟩, k0⟩; have B0 : Hid (Below W.heap.size W w0) := k0; obtain ⟨e0, e1, e2⟩ := PB.out _ k0; clear k0)
          | (go_at_call 30; refine (AH.out _ B0.out).mono ?_; rintro _ wz ⟨rfl, hz⟩; rw [hz]; clear hz))
        clear d0 d1 d2 e0 e1 e2
        have BD : Hid (Below W.heap.size W w0.drew) := below_dr B0.out
        have BA : Hid (Below W.heap.size W ((w0.alloc (.cells #[.int .i64 lo, .int .i64 hi] 3)).drew)) := below_dr (B0.out.alloc B0.out.size _)
        have RA : Hid (ReadsI ((w0.alloc (.cells #[.int .i64 lo, .int .i64 hi] 3)).drew) (.slice (some ⟨w0.heap.size, 0, none⟩) 2 2) [lo, hi]) := lits2 w0 lo hi
        go_region_held3 (fun w' => Below W.heap.size W w' ∧ w'.cell? ⟨w.heap.size, 0, none⟩ = some (.int .i64 lo) ∧ w'.cell? ⟨w.heap.size, 1, none⟩ = some (.int .i64 hi) ∧ w'.cell? ⟨w.heap.size, 2, none⟩ = some (.slice ha hl hc)) (first | exact ⟨BD.out, PB.out _ BD.out⟩ | exact ⟨BA.out, PB.out _ BA.out⟩ | exact ⟨B1.out, PB.out _ B1.out⟩ | exact ⟨B1.out.alloc B1.out.size _, PB.out _ (B1.out.alloc B1.out.size _)⟩ | exact ⟨B2.out, PB.out _ B2.out⟩ | exact ⟨B3.out, PB.out _ B3.out⟩) (first
          | (go_at_call 31; refine (HC1.out _).mono ?_; rintro _ w1 ⟨rfl, k1⟩; have B1 : Hid (Below W.heap.size W w1) := (by first | exact below2 BD.out k1 (Nat.le_refl _) | exact below2 BA.out k1 (Nat.le_refl _)); (try have RB : Hid (ReadsI w1 (.slice (some ⟨w0.heap.size, 0, none⟩) 2 2) [lo, hi]) := RA.out.later k1); clear k1)
          | (go_at_call 32; (first | refine (NU.out _ _ RB.out).mono ?_ | refine (NU.out _ _ (lits2 w1 lo hi)).mono ?_); rintro _ w2 ⟨rfl, k2⟩; have B2 : Hid (Below W.heap.size W w2) := (by first | exact below2 B1.out k2 (Nat.le_refl _) | exact below2 (B1.out.alloc B1.out.size _) k2 (Nat.le_refl _)); clear k2)
          | (go_at_call 33; refine (SC.out _ (RT.out.later B2.out)).mono ?_; rintro _ w3 ⟨rfl, k3⟩; have B3 : Hid (Below W.heap.size W w3) := below2 B2.out k3 (Nat.le_refl _); clear k3))
        all_goals (
          go_wp2
          go_ret2
          exact ⟨rfl, below2 BW.out B3.out (Nat.le_refl _)⟩)
      · have hal' : allW (widI wd) hs = false := by simpa using hal
        rw [if_neg hal] at HE
        rw [HE.out, if_neg (by decide)]
        rw [hal'] at AH
        clear HE okk hq hal hal' HM HOK
        go_enter Tryd.func7, Tryd.ntmps7
        go_upto_region 1 with fail
        rw [← HW]
        clear HW
        go_wp2_with (first
          | (go_at_call 29; refine (CW.out _).mono ?_; rintro _ wz ⟨rfl, hz⟩; rw [hz]; clear hz)
          | (go_at_call 24; refine CV2.out.mono ?_; rintro _ w0 ⟨⟨va, vc, rfl⟩, k0⟩; have B0 : Hid (Below W.heap.size W w0) := k0; obtain ⟨e0, e1, e2⟩ := PB.out _ k0; clear k0)
          | (go_at_call 30; refine (AH.out _ B0.out).mono ?_; rintro _ wz ⟨rfl, hz⟩; rw [hz]; clear hz))
        go_ret2
        exact ⟨rfl, below2 BW.out B0.out (Nat.le_refl _)⟩
    · rw [if_neg hq] at HE
      rw [HE.out, if_neg (by decide)]
      have q1 : ((hl : Int) != (n : Int)) = true := by rw [bne_iff_ne]; omega
      clear HE okk hq HM HOK
      go_enter Tryd.func7, Tryd.ntmps7
      go_upto_region 1 with fail
      rw [← HW]
      clear HW
      go_wp2_with (first
        | (go_at_call 29; refine (CW.out _).mono ?_; rintro _ wz ⟨rfl, hz⟩; rw [hz]; clear hz)
        | (go_at_call 24; refine CV2.out.mono ?_; rintro _ w0 ⟨⟨va, vc, rfl⟩, k0⟩; have B0 : Hid (Below W.heap.size W w0) := k0; obtain ⟨e0, e1, e2⟩ := PB.out _ k0; clear k0)
        | (go_at_call 30; refine (AH.out _ B0.out).mono ?_; rintro _ wz ⟨rfl, hz⟩; rw [hz]; clear hz))
      go_ret2
      exact ⟨rfl, below2 BW.out B0.out (Nat.le_refl _)⟩
  · rw [if_neg hz0] at HE
    rw [HE.out, if_neg hz0]
    have q1 : (z != 0) = true := by rw [bne_iff_ne]; exact hz0
    clear HE hz0 HM HOK
    go_enter Tryd.func7, Tryd.ntmps7
    go_upto_region 1 with fail
    rw [← HW]
    clear HW
    go_wp2_with (first
      | (go_at_call 29; refine (CW.out _).mono ?_; rintro _ wz ⟨rfl, hz⟩; rw [hz]; clear hz)
      | (go_at_call 24; refine CV2.out.mono ?_; rintro _ w0 ⟨⟨va, vc, rfl⟩, k0⟩; have B0 : Hid (Below W.heap.size W w0) := k0; obtain ⟨e0, e1, e2⟩ := PB.out _ k0; clear k0)
      | (go_at_call 30; refine (AH.out _ B0.out).mono ?_; rintro _ wz ⟨rfl, hz⟩; rw [hz]; clear hz))
    go_ret2
    exact ⟨rfl, below2 BW.out B0.out (Nat.le_refl _)⟩
end Go.Proofs.YthpfgdhmpeadeaaDoor.e11
