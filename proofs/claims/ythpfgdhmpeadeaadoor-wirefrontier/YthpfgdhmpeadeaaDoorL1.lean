import Derived.Test.YthpfgdhmpeadeaaDoorK4
import Derived.Test.YthpfgdhmpeadeaaDoorJ2
import Derived.Test.YthpfgdhmpeadeaaDoorK1
import Derived.Deep.RegionHeldLaw
namespace Go.Proofs.YthpfgdhmpeadeaaDoor.f10
open Go.RowKit Go.PlainAid Go.Shelf
open Go.Proofs.YthpfgdhmpeadeaaDoor.ca Go.Proofs.YthpfgdhmpeadeaaDoor.cb Go.Proofs.YthpfgdhmpeadeaaDoor.cp Go.Proofs.YthpfgdhmpeadeaaDoor.cs Go.Proofs.YthpfgdhmpeadeaaDoor.cd Go.Proofs.YthpfgdhmpeadeaaDoor.ga Go.Proofs.YthpfgdhmpeadeaaDoor.kp Go.Proofs.YthpfgdhmpeadeaaDoor.na Go.Proofs.YthpfgdhmpeadeaaDoor.nb Go.Proofs.YthpfgdhmpeadeaaDoor.nc Go.Proofs.YthpfgdhmpeadeaaDoor.nh Go.Proofs.YthpfgdhmpeadeaaDoor.nj Go.Proofs.YthpfgdhmpeadeaaDoor.mi Go.Proofs.YthpfgdhmpeadeaaDoor.ea Go.Proofs.YthpfgdhmpeadeaaDoor.eb Go.Proofs.YthpfgdhmpeadeaaDoor.ec Go.Proofs.YthpfgdhmpeadeaaDoor.ed Go.Proofs.YthpfgdhmpeadeaaDoor.ee Go.Proofs.YthpfgdhmpeadeaaDoor.ef Go.Proofs.YthpfgdhmpeadeaaDoor.eg Go.Proofs.YthpfgdhmpeadeaaDoor.eh Go.Proofs.YthpfgdhmpeadeaaDoor.ej Go.Proofs.YthpfgdhmpeadeaaDoor.ek Go.Proofs.YthpfgdhmpeadeaaDoor.eo Go.Proofs.YthpfgdhmpeadeaaDoor.eq Go.Proofs.YthpfgdhmpeadeaaDoor.er Go.Proofs.YthpfgdhmpeadeaaDoor.es Go.Proofs.YthpfgdhmpeadeaaDoor.ka Go.Proofs.YthpfgdhmpeadeaaDoor.bn Go.Proofs.YthpfgdhmpeadeaaDoor.fe Go.Proofs.YthpfgdhmpeadeaaDoor.ff Go.Proofs.YthpfgdhmpeadeaaDoor.e1 Go.Proofs.YthpfgdhmpeadeaaDoor.e2 Go.Proofs.YthpfgdhmpeadeaaDoor.e4 Go.Proofs.YthpfgdhmpeadeaaDoor.e6 Go.Proofs.YthpfgdhmpeadeaaDoor.e11
set_option linter.unusedVariables false
theorem frontT_flat (wd lo hi : Int) (hs : List ByteArray) : frontT wd lo hi hs = ((((⟨#[70]⟩ : ByteArray) ++ str [widI wd]) ++ putB lo) ++ putB hi) ++ ⟨(cat hs).toArray⟩ := bl_inj (by
  rw [frontT_is]
  unfold frontB
  rw [bl_app, bl_app, bl_app, bl_app, bl_one, bl_of]
  rw [List.append_assoc, List.append_assoc, List.append_assoc]
  rfl)
set_option maxRecDepth 100000 in
set_option maxHeartbeats 12800000 in
theorem rFrontier (wd lo hi : Int) (ha : Option Addr) (hl hc : Nat) (hs : List ByteArray) (w : World) (i0 : i64 lo) (i1 : i64 hi) (hR : ReadsT w (.slice ha hl hc) hs) (hz : hs.length ≤ 140737488355328) :
    Calls Tryd.prog 8 #[.int .i64 wd, .agg #[.int .i64 lo, .int .i64 hi, .slice ha hl hc]] w fun e w' => e = .returned (frontV wd lo hi hs) ∧ Below w.heap.size w w' := by
  obtain ⟨W, HW⟩ : ∃ W, W = w.alloc (.cells #[.int .i64 lo, .int .i64 hi, .slice ha hl hc] 24) := ⟨_, rfl⟩
  have hW : W.heap[w.heap.size]? = some (.cells #[.int .i64 lo, .int .i64 hi, .slice ha hl hc] 24 (0, 0)) := by rw [HW]; exact heap_alloc_new w _
  have HWW : Hid (W.heap[w.heap.size]? = some (.cells #[.int .i64 lo, .int .i64 hi, .slice ha hl hc] 24 (0, 0))) := hW
  have BW : Hid (Below w.heap.size w W) := by rw [HW]; exact (Below.refl _ _).alloc (Nat.le_refl _) _
  obtain ⟨d0, d1, d2⟩ := three hW
  have HM : hl = hs.length := by obtain ⟨_, _, e, _⟩ := hR; exact (Value.slice.inj e).2.1
  have PB : Hid (∀ w', Below W.heap.size W w' → w'.cell? ⟨w.heap.size, 0, none⟩ = some (.int .i64 lo) ∧ w'.cell? ⟨w.heap.size, 1, none⟩ = some (.int .i64 hi) ∧ w'.cell? ⟨w.heap.size, 2, none⟩ = some (.slice ha hl hc)) := fun w' h => three ((h.block _ (Array.getElem?_eq_some_iff.1 HWW.out).1).trans HWW.out)
  have CW : Hid (∀ w, Calls _ _ _ (w : World) _) := fun w => rWidth wd w
  have hwi := widI_in wd
  obtain ⟨m, HMM⟩ : ∃ m, Hid ((covI lo hi).length = m) := ⟨_, rfl⟩
  have CV : Hid (∀ W, Calls Tryd.prog 35 #[.int .i64 lo, .int .i64 hi] W fun e w' => (∃ a c, e = .returned (.tuple #[.slice a m c, .int .i64 (covE lo hi)])) ∧ Below W.heap.size W w') := fun W => (rCover lo hi i0.1 i0.2 i1.1 i1.2 W).mono (fun e w' h => by
    obtain ⟨⟨v, he, o⟩, k⟩ := h
    obtain ⟨a, c, hv⟩ := formA (own_readsA o)
    refine ⟨⟨a, c, ?_⟩, k⟩
    rw [he, hv, HMM.out])
  have RT : Hid (ReadsT W (.slice ha hl hc) hs) := hR.later BW.out
  have AH : Hid (∀ W, ReadsT W (.slice ha hl hc) hs → Calls _ _ _ (W : World) _) := fun W h => rSized (widI wd) _ hs W h hz
  have HV : Hid (frontV wd lo hi hs = .tuple #[.string (if frontE wd lo hi hs = 0 then frontT wd lo hi hs else ByteArray.empty), .int .i64 (frontE wd lo hi hs)]) := rfl
  rw [HV.out]
  have HE : Hid (frontE wd lo hi hs = if covE lo hi = 0 then (if hl = m then (if allW (widI wd) hs then 0 else 72) else 71) else covE lo hi) := by show _ = _; rw [HM, ← HMM.out]; rfl
  have hmc : m ≤ 122 := by have := covI_len lo hi; have := HMM.out; omega
  clear hW hR HV
  by_cases hk : covE lo hi = 0
  · rw [if_pos hk] at HE
    have hok := covE_zero.1 hk
    rw [hk] at CV
    by_cases hq : hl = m
    · rw [if_pos hq] at HE
      have q1 : ((m : Int) != (hl : Int)) = false := by rw [hq]; simp
      by_cases hal : allW (widI wd) hs = true
      · rw [if_pos hal] at HE
        rw [HE.out, if_pos rfl, frontT_flat]
        rw [hal] at AH
        obtain ⟨o1, o2, o3⟩ := hok
        have hcat := cat_le (widI wd) hs hal hwi.2 (by omega)
        have N1 : Hid (∀ (W : World), Calls _ _ _ _ _) := fun W => rNumberC lo W (by omega) (by omega)
        have N2 : Hid (∀ (W : World), Calls _ _ _ _ _) := fun W => rNumberC hi W (by omega) (by omega)
        have SC : Hid (∀ W, ReadsT W (.slice ha hl hc) hs → Calls _ _ _ (W : World) _) := fun W h => rJoined _ hs W h (by omega) (by omega)
        have hp1 := (putB_size lo (by omega) (by omega)).2
        have hp2 := (putB_size hi (by omega) (by omega)).2
        obtain ⟨wi, HWI⟩ : ∃ x, Hid (widI wd = x) := ⟨_, rfl⟩
        rw [HWI.out] at CW AH hwi ⊢
        have hst : (str [wi]).size = 1 := str_size [wi]
        have hsh : ((⟨#[70]⟩ : ByteArray) ++ str [wi]).size = 2 := by rw [ByteArray.size_append, str_size]; rfl
        have hca : (⟨(cat hs).toArray⟩ : ByteArray).size ≤ 32000000 := by show (cat hs).toArray.size ≤ _; rw [List.size_toArray]; omega
        have hz0 : (⟨#[70]⟩ : ByteArray).size = 1 := rfl
        have hu8 : IntKind.u8.wrap wi = wi := by rw [IntKind.wrap_u8]; omega
        obtain ⟨C, HC⟩ : ∃ C : ByteArray, Hid ((⟨(cat hs).toArray⟩ : ByteArray) = C) := ⟨_, rfl⟩
        obtain ⟨Y, HY⟩ : ∃ Y, Hid (putB lo = Y) := ⟨_, rfl⟩
        obtain ⟨Z, HZ⟩ : ∃ Y, Hid (putB hi = Y) := ⟨_, rfl⟩
        rw [HC.out] at SC hca ⊢
        rw [HY.out] at N1 hp1 ⊢
        rw [HZ.out] at N2 hp2 ⊢
        have a0 := add_text (⟨#[70]⟩ : ByteArray) (str [wi]) (by omega)
        have a1 := add_text ((⟨#[70]⟩ : ByteArray) ++ str [wi]) Y (by omega)
        have z1 : ((⟨#[70]⟩ : ByteArray) ++ str [wi] ++ Y).size ≤ 12 := by rw [ByteArray.size_append]; omega
        have a2 := add_text ((⟨#[70]⟩ : ByteArray) ++ str [wi] ++ Y) Z (by omega)
        have z2 : ((⟨#[70]⟩ : ByteArray) ++ str [wi] ++ Y ++ Z).size ≤ 20012 := by rw [ByteArray.size_append]; omega
        have a3 := add_text ((⟨#[70]⟩ : ByteArray) ++ str [wi] ++ Y ++ Z) C (by omega)
        clear hcat HC HY HZ HE hal hq hk HWI HMM HM o1 o2 o3
        go_enter Tryd.func8, Tryd.ntmps8
        go_upto_region 1 with fail
        rw [← HW]
        clear HW
        go_upto_region 9 with (first
          | (go_at_call 34; refine (CW.out _).mono ?_; rintro _ wz ⟨rfl, hz⟩; rw [hz]; clear hz)
          | (go_at_call 35; refine (CV.out _).mono ?_; rintro _ w2 ⟨⟨va, vc, rfl⟩, k2⟩; have B2 : Hid (Below W.heap.size W w2) := k2; obtain ⟨e0, e1, e2⟩ := PB.out w2 B2.out; clear k2)
          | (go_at_call 36; refine (AH.out _ (RT.out.later B2.out)).mono ?_; rintro _ wz ⟨rfl, hz⟩; rw [hz]; clear hz))
        clear d0 d1 d2 e0 e1 e2
        have BD : Hid (Below W.heap.size W w2.drew) := below_dr B2.out
        have BA : Hid (Below W.heap.size W ((w2.alloc (.cells #[.int .u8 wi] 5)).drew)) := below_dr (B2.out.alloc B2.out.size _)
        have hcv0 : (convert 45 9 (.slice (some ⟨w2.heap.size, 0, none⟩) 1 1)).run Tryd.prog ((w2.alloc (.cells #[.int .u8 wi] 5)).drew) = .ok (.string (str [wi])) ((w2.alloc (.cells #[.int .u8 wi] 5)).drew) := conv_one w2.drew wi
        have KP : Hid (∀ w3 w4 : World, Below w3.heap.size w3 w4 → w3.cell? ⟨w2.heap.size, 0, none⟩ = some (.int .u8 wi) → w4.cell? ⟨w2.heap.size, 0, none⟩ = some (.int .u8 wi)) := fun w3 w4 k4 c3 => ff.cell_kept w3 w4 w2.heap.size wi k4 c3
        go_region_held_law (fun w' => Below W.heap.size W w' ∧ w'.cell? ⟨w.heap.size, 0, none⟩ = some (.int .i64 lo) ∧ w'.cell? ⟨w.heap.size, 1, none⟩ = some (.int .i64 hi) ∧ w'.cell? ⟨w.heap.size, 2, none⟩ = some (.slice ha hl hc)) (first | exact ⟨BD.out, PB.out _ BD.out⟩ | exact ⟨BA.out, PB.out _ BA.out⟩ | exact ⟨B3.out, PB.out _ B3.out⟩ | exact ⟨B3.out.alloc B3.out.size _, PB.out _ (B3.out.alloc B3.out.size _)⟩ | exact ⟨B4.out, PB.out _ B4.out⟩ | exact ⟨B4.out.alloc B4.out.size _, PB.out _ (B4.out.alloc B4.out.size _)⟩ | exact ⟨B5.out, PB.out _ B5.out⟩ | exact ⟨B5.out.alloc B5.out.size _, PB.out _ (B5.out.alloc B5.out.size _)⟩) (first
          | (go_at_call 37; (with_reducible refine (N1.out _).mono ?_); rintro _ w3 ⟨rfl, k3⟩; first
              | (have B3 : Hid (Below W.heap.size W w3) := below2 BD.out k3 (Nat.le_refl _); have hcv3 := conv_one w3 wi; clear k3)
              | (have B3 : Hid (Below W.heap.size W w3) := below2 BA.out k3 (Nat.le_refl _); have c3 : Hid (w3.cell? ⟨w2.heap.size, 0, none⟩ = some (.int .u8 wi)) := cell_one w2.drew w3 wi k3; have hcv3 := conv_at w3 _ wi c3.out; clear k3))
          | (go_at_call 37; (with_reducible refine (N2.out _).mono ?_); rintro _ w4 ⟨rfl, k4⟩; first
              | (have B4 : Hid (Below W.heap.size W w4) := below2 B3.out k4 (Nat.le_refl _); first
                  | (have c4 : Hid (w4.cell? ⟨w2.heap.size, 0, none⟩ = some (.int .u8 wi)) := KP.out _ _ k4 c3.out; have hcv4 := conv_at w4 _ wi c4.out; clear k4)
                  | (have hcv4 := conv_one w4 wi; clear k4))
              | (have B4 : Hid (Below W.heap.size W w4) := below2 (B3.out.alloc B3.out.size _) k4 (Nat.le_refl _); have c4 : Hid (w4.cell? ⟨w3.heap.size, 0, none⟩ = some (.int .u8 wi)) := cell_one w3 w4 wi k4; have hcv4 := conv_at w4 _ wi c4.out; clear k4))
          | (go_at_call 38; (first | refine (SC.out _ (RT.out.later B4.out)).mono ?_ | refine (SC.out _ (RT.out.later (B4.out.alloc B4.out.size _))).mono ?_); rintro _ w5 ⟨rfl, k5⟩; first
              | (have B5 : Hid (Below W.heap.size W w5) := below2 B4.out k5 (Nat.le_refl _); first
                  | (have c5 := ff.cell_kept _ w5 _ wi k5 c4.out; have hcv5 := conv_at w5 _ wi c5; clear k5 c5)
                  | (have hcv5 := conv_one w5 wi; clear k5))
              | (have B5 : Hid (Below W.heap.size W w5) := below2 (B4.out.alloc B4.out.size _) k5 (Nat.le_refl _); have hcv5 := conv_at w5 _ wi (cell_one w4 w5 wi k5); clear k5)))
        all_goals (
          go_wp2
          go_ret2
          exact ⟨rfl, below2 BW.out (by first | exact B5.out | exact B5.out.alloc B5.out.size _) (Nat.le_refl _)⟩)
      · have hal' : allW (widI wd) hs = false := by simpa using hal
        rw [if_neg hal] at HE
        rw [HE.out, if_neg (by decide)]
        rw [hal'] at AH
        clear HE hal hal' hq hk HMM HM hok
        go_enter Tryd.func8, Tryd.ntmps8
        go_upto_region 1 with fail
        rw [← HW]
        clear HW
        go_wp2_with (first
          | (go_at_call 34; refine (CW.out _).mono ?_; rintro _ wz ⟨rfl, hz⟩; rw [hz]; clear hz)
          | (go_at_call 35; refine (CV.out _).mono ?_; rintro _ w2 ⟨⟨va, vc, rfl⟩, k2⟩; have B2 : Hid (Below W.heap.size W w2) := k2; obtain ⟨e0, e1, e2⟩ := PB.out w2 B2.out; clear k2)
          | (go_at_call 36; refine (AH.out _ (RT.out.later B2.out)).mono ?_; rintro _ wz ⟨rfl, hz⟩; rw [hz]; clear hz))
        go_ret2
        exact ⟨rfl, below2 BW.out B2.out (Nat.le_refl _)⟩
    · rw [if_neg hq] at HE
      rw [HE.out, if_neg (by decide)]
      have q1 : ((m : Int) != (hl : Int)) = true := by rw [bne_iff_ne]; omega
      clear HE hq hk HMM HM hok
      go_enter Tryd.func8, Tryd.ntmps8
      go_upto_region 1 with fail
      rw [← HW]
      clear HW
      go_wp2_with (first
        | (go_at_call 34; refine (CW.out _).mono ?_; rintro _ wz ⟨rfl, hz⟩; rw [hz]; clear hz)
        | (go_at_call 35; refine (CV.out _).mono ?_; rintro _ w2 ⟨⟨va, vc, rfl⟩, k2⟩; have B2 : Hid (Below W.heap.size W w2) := k2; obtain ⟨e0, e1, e2⟩ := PB.out w2 B2.out; clear k2))
      go_ret2
      exact ⟨rfl, below2 BW.out B2.out (Nat.le_refl _)⟩
  · have hk2 : covE lo hi = 10 := by
      unfold covE at hk ⊢
      split
      · rename_i h; rw [if_pos h] at hk; exact absurd rfl hk
      · rfl
    rw [if_neg hk, hk2] at HE
    rw [HE.out, if_neg (by decide)]
    rw [hk2] at CV
    clear HE hk hk2 HMM HM
    go_enter Tryd.func8, Tryd.ntmps8
    go_upto_region 1 with fail
    rw [← HW]
    clear HW
    go_wp2_with (first
      | (go_at_call 34; refine (CW.out _).mono ?_; rintro _ wz ⟨rfl, hz⟩; rw [hz]; clear hz)
      | (go_at_call 35; refine (CV.out _).mono ?_; rintro _ w2 ⟨⟨va, vc, rfl⟩, k2⟩; have B2 : Hid (Below W.heap.size W w2) := k2; obtain ⟨e0, e1, e2⟩ := PB.out w2 B2.out; clear k2))
    go_ret2
    exact ⟨rfl, below2 BW.out B2.out (Nat.le_refl _)⟩
end Go.Proofs.YthpfgdhmpeadeaaDoor.f10
