import Derived.Test.YtlkekgifkhipgaaXi
namespace Go.Proofs.Ytlkekgifkhipgaa.xj
open Go.RowKit Go.PlainAid Go.Maps Go.Shelf
open Go.Proofs.Ytlkekgifkhipgaa.ca Go.Proofs.Ytlkekgifkhipgaa.cb Go.Proofs.Ytlkekgifkhipgaa.cp Go.Proofs.Ytlkekgifkhipgaa.kp Go.Proofs.Ytlkekgifkhipgaa.ka Go.Proofs.Ytlkekgifkhipgaa.ya Go.Proofs.Ytlkekgifkhipgaa.yb Go.Proofs.Ytlkekgifkhipgaa.yc Go.Proofs.Ytlkekgifkhipgaa.yd Go.Proofs.Ytlkekgifkhipgaa.ye Go.Proofs.Ytlkekgifkhipgaa.yf Go.Proofs.Ytlkekgifkhipgaa.yi Go.Proofs.Ytlkekgifkhipgaa.yo Go.Proofs.Ytlkekgifkhipgaa.yp Go.Proofs.Ytlkekgifkhipgaa.zf Go.Proofs.Ytlkekgifkhipgaa.zg Go.Proofs.Ytlkekgifkhipgaa.xa Go.Proofs.Ytlkekgifkhipgaa.xb Go.Proofs.Ytlkekgifkhipgaa.xc Go.Proofs.Ytlkekgifkhipgaa.xi
set_option linter.unusedVariables false
set_option linter.unusedSimpArgs false
theorem one_i (x : Int) : ∀ u ∈ [Value.int .u8 x], u.oneCell' = true := by
  intro u hu; simp only [List.mem_cons, List.not_mem_nil, or_false] at hu; rcases hu with rfl; rfl
theorem four_i (a b c d : Int) : ∀ u ∈ [Value.int .u8 a, .int .u8 b, .int .u8 c, .int .u8 d], u.oneCell' = true := by
  intro u hu; simp only [List.mem_cons, List.not_mem_nil, or_false] at hu; rcases hu with rfl | rfl | rfl | rfl <;> rfl
theorem imageT_tx (r : List Rec) : imageT r = tx (imgB r) := rfl
set_option maxRecDepth 40000 in
set_option maxHeartbeats 12800000 in
theorem imageD {B g : Nat} {dv wv vv : Value} {s : S} {w : World} (h : Ds B g dv wv vv s w) (hz : isz s.dur ≤ 140737488355000) :
    Calls Try.prog 12 #[.pointer (some ⟨g, 0, none⟩)] w fun e w' => e = .returned (.string (imageT s.dur)) ∧ Below w.heap.size w w' := by
  have H : Hid (Ds B g dv wv vv s w) := h
  obtain ⟨da, dc, hdv⟩ := lr_form h.dl
  subst hdv
  obtain ⟨i0, hi, hz0, hz1, hz2⟩ := info_parts info_u8
  have HIN : Hid (_ ∧ _ ∧ _ ∧ _) := ⟨hi, hz0, hz1, hz2⟩
  clear hi hz0 hz1 hz2
  have DC : Hid (∀ (j : Nat) (p : Rec), s.dur[j]? = some p → (p.1.size ≤ 64 ∧ p.2.size ≤ 1048576) ∧ ∃ gv, da = some ⟨gv, 0, none⟩ ∧ ∀ wr, Below w.heap.size w wr → wr.cell? ⟨gv, j * 2, none⟩ = some (.string p.1) ∧ wr.cell? ⟨gv, j * 2 + 1, none⟩ = some (.string p.2)) := fun j p hp => by
    obtain ⟨gv, e, hg, q1, q2⟩ := lr_at H.out.dl j p hp
    have hk := H.out.ok.dur p (List.mem_of_getElem? hp)
    exact ⟨⟨hk.2.1, hk.2.2⟩, gv, e, fun wr b => ⟨(b.cell hg).trans q1, (b.cell hg).trans q2⟩⟩
  have C1 : Hid (∀ wr, Below w.heap.size w wr → wr.cell? ⟨g, 1, none⟩ = some (.slice da s.dur.length dc)) := fun wr b => (H.out.later b).row.c1
  obtain ⟨D, HD⟩ : ∃ D, Hid (s.dur = D) := ⟨_, rfl⟩
  rw [HD.out] at DC C1 hz ⊢
  obtain ⟨L, hL⟩ : ∃ L, D.length = L := ⟨_, rfl⟩
  have HLL : Hid _ := hL
  have hLb : L ≤ 140737488355000 := by have := len_isz D; omega
  rw [hL] at C1
  rw [imageT_tx]
  clear h hL
  have A0 : Hid (World.ownsRow (w.alloc (.cells #[.int .u8 83] 5)) w.heap.size 5 1 (.slice none 0 0) 0 []) := World.ownsRow_nil _ _ _ _
  have b0 : Hid (Below w.heap.size w (w.alloc (.cells #[.int .u8 83] 5))) := (Below.refl _ w).alloc (Nat.le_refl _) _
  go_enter Try.func12, Try.ntmps12
  go_wp2_with (first | (at_builtin; (refine wpList_append_own _ rfl _ _ 75 rfl w.heap.size 5 i0 (.int .u8 0) 1 1 Try.underlying75 HIN.out.1 HIN.out.2.1 HIN.out.2.2.1 HIN.out.2.2.2 rfl (by decide) _ 0 _ rfl A0.out ⟨w.heap.size, 0, none⟩ 1 1 [.int .u8 83] rfl rfl (new_text _ _ _) (one_i _) (by unfold maxLen; omega) (by omega) (by simp; try omega) ?_; intro v1 w1 ho hg hnn; have HO1 : Hid (World.ownsRow _ _ _ _ _ _ _) := ho; have HG1 : Hid (World.grownBy _ _ _) := hg; clear ho hg hnn)) | go_in)
  have I1 : Hid (w1.ownsRow w.heap.size 5 1 v1 (imgB (D.take 0)).length (bc (imgB (D.take 0))) ∧ Below w.heap.size w w1) := ⟨HO1.out, below_grownBy b0.out HG1.out (Nat.le_refl _) (fun i hi => by cases hi)⟩
  clear HO1 HG1 A0 b0
  go_loopw [3, 4] (fun bv iv wr => ∃ j : Nat, j ≤ L ∧ iv = .int .i64 j ∧ Hid (wr.ownsRow w.heap.size 5 1 bv (imgB (D.take j)).length (bc (imgB (D.take j))) ∧ Below w.heap.size w wr)) (fun _ iv _ => (L - intOf iv).toNat)
  case atStart => exact ⟨0, Nat.zero_le _, rfl, I1.out⟩
  case round =>
    clear I1
    obtain ⟨j, hj, rfl, HH⟩ := hrel
    have c1 := C1.out wr HH.out.2
    obtain ⟨oa, oc, hov⟩ := own_formS HH.out.1
    subst hov
    by_cases hlt : j < L
    · have hlt' : (j : Int) < L := by omega
      have HJ1 : Hid (j + 1 ≤ L) := hlt
      obtain ⟨p, hp⟩ : ∃ p, D[j]? = some p := ⟨_, List.getElem?_eq_getElem (by have := HLL.out; omega)⟩
      obtain ⟨⟨hpk, hpd⟩, gv, hda, hcx⟩ := DC.out j p hp
      obtain ⟨q0, q1⟩ := hcx wr HH.out.2
      have hnx := img_next D j p hp
      have hi1 := imgB_len (D.take j)
      have hi2 := imgB_len (D.take (j + 1))
      have hi3 := isz_take D (j + 1)
      have hi4 := isz_at D j p hp
      obtain ⟨pk, pd⟩ := p
      simp only at hpk hpd q0 q1 hnx hi4
      obtain ⟨I, HI⟩ : ∃ I, Hid (imgB (D.take j) = I) := ⟨_, rfl⟩
      rw [HI.out] at hnx HH hi1 ⊢
      obtain ⟨n, HN⟩ : ∃ n, Hid (I.length = n) := ⟨_, rfl⟩
      have hn0 := HN.out
      rw [HN.out] at HH ⊢
      have hnb : n + 1 + pk.size + 4 + pd.size ≤ 140737488355000 := by omega
      have HNX : Hid (imgB (D.take (j + 1)) = ((I ++ beN 1 pk.size 1) ++ bs pk ++ beN 4 pd.size 4) ++ bs pd) := by
        show _ = _
        rw [hnx]; simp only [recB, List.append_assoc]
      subst hda
      clear hp hcx hnx hi1 hi2 hi3 hi4
      obtain ⟨wa, HWA⟩ : ∃ x, x = wr.alloc (.cells #[.string pk, .string pd] 86) := ⟨_, rfl⟩
      obtain ⟨pb, hpb⟩ : ∃ x, wr.heap.size = x := ⟨_, rfl⟩
      have M0 : Hid (Im w (.slice oa n oc) I pk pd pb wa) := by
        rw [HWA, ← hpb]
        have b : Below wr.heap.size wr (wr.alloc (.cells #[.string pk, .string pd] 86)) := (Below.refl _ wr).alloc (Nat.le_refl _) _
        exact ⟨by rw [HN.out]; exact own_kp HH.out.1 (Kp.of_below (A := fun _ => False) b) (fun _ _ e => e), over HH.out.2 b, heap_alloc_new wr _⟩
      go_upto_region 7 with fail
      rw [← HWA]
      clear HWA hpb q0 q1 c1
      obtain ⟨r0, r1⟩ := M0.out.cells
      have hwk : IntKind.u8.wrap (pk.size : Int) = (pk.size : Int) := by rw [IntKind.wrap_u8]; omega
      have hs0 : w.heap.size ≤ wa.heap.size := M0.out.bl.size
      have M1 : Hid (Im w (.slice oa n oc) I pk pd pb (wa.alloc (.cells #[.int .u8 (pk.size : Int)] 5))) := M0.out.later ((Below.refl _ wa).alloc (Nat.le_refl _) _)
      have R1 : Hid (World.ownsRow (wa.alloc (.cells #[.int .u8 (pk.size : Int)] 5)) w.heap.size 5 1 (.slice oa n oc) n (bc I)) := by have := M1.out.own; rw [HN.out] at this; exact this
      go_upto_region 9 with (first | (at_builtin; (refine wpList_append_own _ rfl _ _ 75 rfl w.heap.size 5 i0 (.int .u8 0) 1 1 Try.underlying75 HIN.out.1 HIN.out.2.1 HIN.out.2.2.1 HIN.out.2.2.2 rfl (by decide) _ n _ rfl R1.out ⟨wa.heap.size, 0, none⟩ 1 1 [.int .u8 (pk.size : Int)] rfl rfl (new_text _ _ _) (one_i _) (by unfold maxLen; omega) (by omega) (by simp; omega) ?_; intro v1 w1 ho hg hnn; have HO1 : Hid (World.ownsRow _ _ _ _ _ _ _) := ho; have HG1 : Hid (World.grownBy _ _ _) := hg; clear ho hg hnn)) | go_in)
      have M2 : Hid (Im w v1 (I ++ beN 1 pk.size 1) pk pd pb w1) := M1.out.grown (by rw [HN.out, beN_len, bytes1 _ (by omega)]; exact HO1.out) HG1.out
      obtain ⟨r2, r3⟩ := M2.out.cells
      have hs1 : w.heap.size ≤ w1.heap.size := M2.out.bl.size
      have R2 : Hid (World.ownsRow w1 w.heap.size 5 1 v1 (n + 1) (bc (I ++ beN 1 pk.size 1))) := by have := M2.out.own; rw [List.length_append, beN_len, HN.out] at this; exact this
      clear M0 M1 R1 HO1 HG1 r0 r1
      go_upto_region 10 with (first | (at_builtin; (refine Lib.wpList_append_own_string _ rfl _ _ 75 9 rfl w.heap.size 5 i0 Try.underlying75 Try.underlying9 HIN.out.1 HIN.out.2.1 HIN.out.2.2.1 HIN.out.2.2.2 _ (n + 1) _ rfl R2.out pk rfl (by unfold maxLen; omega) (by omega) (by omega) ?_; intro v2 w2 ho hg hnn; have HO2 : Hid (World.ownsRow _ _ _ _ _ _ _) := ho; have HG2 : Hid (World.grownBy _ _ _) := hg; clear ho hg hnn)) | go_in)
      have M3 : Hid (Im w v2 (I ++ beN 1 pk.size 1 ++ bs pk) pk pd pb w2) := M2.out.grown (by have := HO2.out; rw [bc_str] at this; rw [List.length_append, beN_len, HN.out, bs_len]; exact this) HG2.out
      obtain ⟨r4, r5⟩ := M3.out.cells
      have hs2 : w.heap.size ≤ w2.heap.size := M3.out.bl.size
      obtain ⟨z, hz1⟩ : ∃ z, pd.size = z := ⟨_, rfl⟩
      obtain ⟨a2, ha2⟩ : ∃ x, z / 65536 = x := ⟨_, rfl⟩
      obtain ⟨a3, ha3⟩ : ∃ x, z / 256 = x := ⟨_, rfl⟩
      obtain ⟨b2, hb2⟩ : ∃ x, a2 % 256 = x := ⟨_, rfl⟩
      obtain ⟨b3, hb3⟩ : ∃ x, a3 % 256 = x := ⟨_, rfl⟩
      obtain ⟨b4, hb4⟩ : ∃ x, z % 256 = x := ⟨_, rfl⟩
      have HB4 : Hid (bc (beN 4 pd.size 4) = [.int .u8 0, .int .u8 (b2 : Int), .int .u8 (b3 : Int), .int .u8 (b4 : Int)]) := by
        show _ = _
        rw [bytes4 pd.size (by omega), hz1, ha2, ha3, hb2, hb3, hb4]
      have e1 : Int.tdiv (z : Int) 16777216 = 0 := by
        have h1 : Int.tdiv (z : Int) 16777216 = ((z / 16777216 : Nat) : Int) := rfl
        rw [h1, Nat.div_eq_of_lt (by omega)]; rfl
      have e2 : Int.tdiv (z : Int) 65536 = (a2 : Int) := by rw [← ha2]; rfl
      have e3 : Int.tdiv (z : Int) 256 = (a3 : Int) := by rw [← ha3]; rfl
      have e4 : Int.tmod (a2 : Int) 256 = (b2 : Int) := by rw [← hb2]; rfl
      have e5 : Int.tmod (a3 : Int) 256 = (b3 : Int) := by rw [← hb3]; rfl
      have e6 : Int.tmod (z : Int) 256 = (b4 : Int) := by rw [← hb4]; rfl
      have hb2' : b2 < 256 := by omega
      have hb3' : b3 < 256 := by omega
      have hb4' : b4 < 256 := by omega
      have ha2' : a2 ≤ 1048576 := by omega
      have ha3' : a3 ≤ 1048576 := by omega
      have w1' : IntKind.i64.wrap (a2 : Int) = a2 := wrap_is _ (by omega)
      have w2' : IntKind.i64.wrap (a3 : Int) = a3 := wrap_is _ (by omega)
      have w3 : IntKind.i64.wrap (b2 : Int) = b2 := wrap_is _ (by omega)
      have w4 : IntKind.i64.wrap (b3 : Int) = b3 := wrap_is _ (by omega)
      have w5 : IntKind.i64.wrap (b4 : Int) = b4 := wrap_is _ (by omega)
      have w6 : IntKind.u8.wrap (b2 : Int) = b2 := by rw [IntKind.wrap_u8]; omega
      have w7 : IntKind.u8.wrap (b3 : Int) = b3 := by rw [IntKind.wrap_u8]; omega
      have w8 : IntKind.u8.wrap (b4 : Int) = b4 := by rw [IntKind.wrap_u8]; omega
      have M4 : Hid (Im w v2 (I ++ beN 1 pk.size 1 ++ bs pk) pk pd pb (w2.alloc (.cells #[.int .u8 0, .int .u8 (b2 : Int), .int .u8 (b3 : Int), .int .u8 (b4 : Int)] 5))) := M3.out.later ((Below.refl _ w2).alloc (Nat.le_refl _) _)
      have R4 : Hid (World.ownsRow (w2.alloc (.cells #[.int .u8 0, .int .u8 (b2 : Int), .int .u8 (b3 : Int), .int .u8 (b4 : Int)] 5)) w.heap.size 5 1 v2 (n + 1 + pk.size) (bc (I ++ beN 1 pk.size 1 ++ bs pk))) := by have := M4.out.own; rw [List.length_append, List.length_append, beN_len, HN.out, bs_len] at this; exact this
      have hzz : z ≤ 1048576 := by omega
      have hnz : n + 1 + pk.size + 4 + z ≤ 140737488355000 := by omega
      clear ha2 ha3 hb2 hb3 hb4 M2 R2 HO2 HG2 r2 r3
      go_upto_region 11 with (first | (at_builtin; (refine wpList_append_own _ rfl _ _ 75 rfl w.heap.size 5 i0 (.int .u8 0) 1 1 Try.underlying75 HIN.out.1 HIN.out.2.1 HIN.out.2.2.1 HIN.out.2.2.2 rfl (by decide) _ (n + 1 + pk.size) _ rfl R4.out ⟨w2.heap.size, 0, none⟩ 4 4 [.int .u8 0, .int .u8 (b2 : Int), .int .u8 (b3 : Int), .int .u8 (b4 : Int)] rfl rfl (new_four _ _ _ _ _ _) (four_i _ _ _ _) (by unfold maxLen; omega) (by omega) (by simp; omega) ?_; intro v3 w9 ho hg hnn; have HO3 : Hid (World.ownsRow _ _ _ _ _ _ _) := ho; have HG3 : Hid (World.grownBy _ _ _) := hg; clear ho hg hnn)) | go_in)
      have M5 : Hid (Im w v3 (I ++ beN 1 pk.size 1 ++ bs pk ++ beN 4 pd.size 4) pk pd pb w9) := M4.out.grown (by rw [List.length_append, List.length_append, beN_len, beN_len, HN.out, bs_len, HB4.out]; exact HO3.out) HG3.out
      obtain ⟨r6, r7⟩ := M5.out.cells
      have hs3 : w.heap.size ≤ w9.heap.size := M5.out.bl.size
      have R5 : Hid (World.ownsRow w9 w.heap.size 5 1 v3 (n + 1 + pk.size + 4) (bc (I ++ beN 1 pk.size 1 ++ bs pk ++ beN 4 pd.size 4))) := by have := M5.out.own; rw [List.length_append, List.length_append, List.length_append, beN_len, beN_len, HN.out, bs_len] at this; exact this
      clear M4 R4 HO3 HG3 r4 r5
      go_wp2_with (first | (at_builtin; (refine Lib.wpList_append_own_string _ rfl _ _ 75 9 rfl w.heap.size 5 i0 Try.underlying75 Try.underlying9 HIN.out.1 HIN.out.2.1 HIN.out.2.2.1 HIN.out.2.2.2 _ (n + 1 + pk.size + 4) _ rfl R5.out pd rfl (by unfold maxLen; omega) (by omega) (by omega) ?_; intro v4 w10 ho hg hnn; have HO4 : Hid (World.ownsRow _ _ _ _ _ _ _) := ho; have HG4 : Hid (World.grownBy _ _ _) := hg; clear ho hg hnn)) | go_in)
      have M6 : Hid (Im w v4 (I ++ beN 1 pk.size 1 ++ bs pk ++ beN 4 pd.size 4 ++ bs pd) pk pd pb w10) := M5.out.grown (by have := HO4.out; rw [bc_str] at this; rw [List.length_append, List.length_append, List.length_append, beN_len, beN_len, HN.out, bs_len, bs_len]; exact this) HG4.out
      go_roundw
      case rel => exact ⟨j + 1, HJ1.out, by go_num, by rw [HNX.out]; exact ⟨M6.out.own, M6.out.bl⟩⟩
      case measure => have hj1 := HJ1.out; simp [intOf]; omega
    · have hlt' : ¬ (j : Int) < L := by omega
      have e : D.take j = D := List.take_of_length_le (by have := HLL.out; omega)
      rw [e] at HH ⊢
      have h1 := HH.out
      have hpos : 0 < (imgB D).length := by rw [imgB_len]; have := len_isz D; omega
      have HCV : Hid (Below w.heap.size w wr) := h1.2
      have hcv := conv_own h1.1 hpos
      clear h1 e
      go_wp2
      go_ret
      exact ⟨rfl, HCV.out⟩
end Go.Proofs.Ytlkekgifkhipgaa.xj
