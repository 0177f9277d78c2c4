import Derived.Test.YthppkdjekfginaaGreatDoorP4
import Derived.Test.YthppkdjekfginaaGreatDoorG4
import Derived.Test.YthppkdjekfginaaGreatDoorG5
import Derived.Test.YthppkdjekfginaaGreatDoorP2
import Derived.Test.YthppkdjekfginaaGreatDoorP3
namespace Go.Proofs.YthppkdjekfginaaGreatDoor.jj
open Go.RowKit Go.PlainAid
open Go.Proofs.YthppkdjekfginaaGreatDoor.pl Go.Proofs.YthppkdjekfginaaGreatDoor.pi Go.Proofs.YthppkdjekfginaaGreatDoor.pj Go.Proofs.YthppkdjekfginaaGreatDoor.rf Go.Proofs.YthppkdjekfginaaGreatDoor.ca Go.Proofs.YthppkdjekfginaaGreatDoor.cb Go.Proofs.YthppkdjekfginaaGreatDoor.cp Go.Proofs.YthppkdjekfginaaGreatDoor.ga Go.Proofs.YthppkdjekfginaaGreatDoor.gb Go.Proofs.YthppkdjekfginaaGreatDoor.aa Go.Proofs.YthppkdjekfginaaGreatDoor.ka Go.Proofs.YthppkdjekfginaaGreatDoor.kb Go.Proofs.YthppkdjekfginaaGreatDoor.kc Go.Proofs.YthppkdjekfginaaGreatDoor.kp Go.Proofs.YthppkdjekfginaaGreatDoor.mi Go.Proofs.YthppkdjekfginaaGreatDoor.lk Go.Proofs.YthppkdjekfginaaGreatDoor.co Go.Proofs.YthppkdjekfginaaGreatDoor.ta Go.Proofs.YthppkdjekfginaaGreatDoor.va Go.Proofs.YthppkdjekfginaaGreatDoor.ja Go.Proofs.YthppkdjekfginaaGreatDoor.jb Go.Proofs.YthppkdjekfginaaGreatDoor.jc Go.Proofs.YthppkdjekfginaaGreatDoor.je
set_option linter.unusedVariables false

-- the leaves' hashes
set_option maxHeartbeats 1600000 in
theorem hashesD (wd : Int) (v : Value) (xs : List ByteArray) (w : World) (hT : Tab4 w) (hR : ReadsT w v xs) (hf : Fits xs) :
    Calls Tryz.prog 35 #[.int .i64 wd, v] w fun e w' => (∃ u, e = .returned u ∧ w'.ownsRow w.heap.size 9 1 u (LX wd xs).length ((LX wd xs).map Value.string)) ∧ Below w.heap.size w w' := by
  obtain ⟨i9, hi, hz0, hz1, hz2⟩ := info_parts hi9
  have HIN : Hid (_ ∧ _ ∧ _ ∧ _) := ⟨hi, hz0, hz1, hz2⟩
  have HRD : Hid (ReadsT w v xs) := hR
  have LC : Hid (∀ x ∈ xs, ∀ w, Tab4 w → Calls Tryz.prog 57 #[.int .i64 wd, .string x] w fun e w' => e = .returned (.string (LF wd x)) ∧ Below w.heap.size w w') := fun x hx w hw => rLeaf wd x (hf.each x hx) w hw
  have HT : Hid (Tab4 w) := hT
  have hnm := hf.many
  obtain ⟨a, cap, rfl, hcap, hh⟩ := hR
  obtain ⟨n, HN⟩ : ∃ n, Hid (xs.length = n) := ⟨_, rfl⟩
  rw [HN.out] at HRD hcap hnm ⊢
  clear hi hz0 hz1 hz2 hh hf hT
  go_enter Tryz.func35, Tryz.ntmps35
  go_wp2
  go_loopw [5, 6] (fun out i wr => ∃ (u : Value) (k : Nat), k ≤ n ∧ out = u ∧ i = .int .i64 k ∧ Hid (wr.ownsRow w.heap.size 9 1 u k (((LX wd xs).take k).map Value.string)) ∧ Hid (Below w.heap.size w wr)) (fun _ i _ => (n - intOf i).toNat)
  case atStart => exact ⟨_, 0, by omega, rfl, rfl, World.ownsRow_nil _ _ _ _, Below.refl _ _⟩
  case round =>
    obtain ⟨u, k, hk, rfl, rfl, HO, HB⟩ := hrel
    obtain ⟨ua, uc, rfl⟩ := own_formS HO.out
    by_cases hlt : k < n
    · have hlt' : (k : Int) < n := by omega
      have hkx : k < xs.length := by rw [HN.out]; exact hlt
      obtain ⟨b, off, rfl, hc⟩ : ∃ b off, a = some ⟨b, off, none⟩ ∧ wr.cell? ⟨b, off + k, none⟩ = some (.string xs[k]) := by
        obtain ⟨a', cap', e, _, h0 | ⟨b, off, e4, hh⟩⟩ := HRD.out.later HB.out
        · omega
        · injection e with e1 _ _
          exact ⟨b, off, by rw [e1]; exact e4, by rw [hh k hkx, getD_at _ _ hkx]⟩
      have C : Hid (Calls _ _ _ _ _) := LC.out xs[k] (List.getElem_mem hkx) wr (HT.out.down HB.out)
      obtain ⟨x, HX⟩ : ∃ x : ByteArray, Hid (xs[k] = x) := ⟨xs[k], (rfl : xs[k] = xs[k])⟩
      obtain ⟨r, HR⟩ : ∃ r, Hid (LF wd x = r) := ⟨_, rfl⟩
      rw [HX.out] at hc C
      rw [HR.out] at C
      go_wp2_with fail
      refine C.out.mono ?_
      rintro e w1 ⟨rfl, hb⟩
      have B1 : Hid (Below w.heap.size w w1) := over HB.out hb
      have OX : Hid ((w1.alloc (.cells #[.string r] 9)).ownsRow w.heap.size 9 1 (.slice ua k uc) k (((LX wd xs).take k).map Value.string)) := (own_later HO.out hb).alloc _
      have BX : Hid (Below w.heap.size w (w1.alloc (.cells #[.string r] 9))) := B1.out.alloc B1.out.size _
      clear hb
      go_wp2_with (at_builtin; refine wpList_append_own _ rfl _ _ 22 rfl w.heap.size 9 i9 (.string ByteArray.empty) 1 16 Tryz.underlying22 HIN.out.1 HIN.out.2.1 HIN.out.2.2.1 HIN.out.2.2.2 rfl (by decide) _ k _ rfl OX.out ⟨w1.heap.size, 0, none⟩ 1 1 [.string r] rfl rfl (new_text _ _ _) (one_text _) (by unfold maxLen; omega) (by omega) BX.out.size ?_; intro p' w5 ho hg hnn; have HO5 : Hid (w5.ownsRow w.heap.size 9 1 p' (k + 1) (((LX wd xs).take k).map Value.string ++ [.string r])) := ho; have HB5 : Hid (Below w.heap.size w w5) := Below.grown BX.out hg BX.out.size (fun jj hj => (OX.out.lt _ hj).1); clear ho hg hnn)
      go_roundw
      case rel =>
        refine ⟨_, k + 1, by omega, rfl, by go_num, ?_, HB5.out⟩
        have e : (LX wd xs).take (k + 1) = (LX wd xs).take k ++ [r] := by
          rw [List.take_add_one, ← HR.out, ← HX.out]
          unfold LX
          rw [List.getElem?_map, List.getElem?_eq_getElem hkx]
          rfl
        show World.ownsRow _ _ _ _ _ _ _
        rw [e, List.map_append]
        exact HO5.out
      case measure => simp [intOf]; omega
    · have hlt' : ¬ (k : Int) < n := by omega
      obtain rfl : k = n := by omega
      go_wp2
      go_ret
      refine ⟨⟨_, rfl, ?_⟩, HB.out⟩
      have := HO.out
      rw [List.take_of_length_le (by rw [LX_len, HN.out]; omega)] at this
      rw [LX_len, HN.out]
      exact this

-- is what is claimed the list's?
def ownP (xs : List ByteArray) (ps : List (Nat × ByteArray)) : Prop := ∀ p ∈ ps, xs.getD p.1 ByteArray.empty = p.2
instance (xs : List ByteArray) (ps : List (Nat × ByteArray)) : Decidable (ownP xs ps) := by unfold ownP; exact List.decidableBAll _ _
set_option maxRecDepth 100000 in
set_option maxHeartbeats 3200000 in
theorem listsD (vl : Value) (xs : List ByteArray) (q1 q2 : Value) (ps : List (Nat × ByteArray)) (w : World) (hl : ReadsT w vl xs) (hA : Aq w q1 q2 ps) (hz : ps.length * 16 ≤ 140737488351232) (hi : ∀ p ∈ ps, p.1 < xs.length) (hxm : xs.length ≤ 4611686018427387904) :
    Calls Tryz.prog 36 #[vl, .agg #[q1, q2]] w fun e w' => e = .returned (.bool (decide (ownP xs ps))) ∧ Below w.heap.size w w' := by
  obtain ⟨la, lc, rfl, _, hlh⟩ := hl
  obtain ⟨⟨ia, ic, rfl, hic, hih⟩, ⟨ta', tc, rfl, htc, hth⟩⟩ := hA
  rw [zsP_len] at hic hih ⊢
  rw [csP_len] at htc hth ⊢
  obtain ⟨W, HW⟩ : ∃ W, Hid (W = w.alloc (.cells #[.slice ia ps.length ic, .slice ta' ps.length tc] 61)) := ⟨_, rfl⟩
  have hw : w.alloc (.cells #[.slice ia ps.length ic, .slice ta' ps.length tc] 61) = W := HW.out.symm
  have BW : Hid (Below w.heap.size w W) := by rw [HW.out]; exact (Below.refl _ _).alloc (Nat.le_refl _) _
  have rw0 : W.heap[w.heap.size]? = some (.cells #[.slice ia ps.length ic, .slice ta' ps.length tc] 61 (0, 0)) := by rw [HW.out]; exact heap_alloc_new w _
  have s0 : W.cell? ⟨w.heap.size, 0, none⟩ = some (.slice ia ps.length ic) := cell_of_row _ _ 0 _ _ _ rw0
  have s1 : W.cell? ⟨w.heap.size, 1, none⟩ = some (.slice ta' ps.length tc) := cell_of_row _ _ 1 _ _ _ rw0
  have CO : Hid (∀ p v, w.cell? p = some v → W.cell? p = some v) := fun p v h => (BW.out.cell (World.block_lt_of_cell? _ _ h)).trans h
  have HL : Hid (xs.length = 0 ∨ ∃ b off, la = some ⟨b, off, none⟩ ∧ ∀ i, i < xs.length → w.cell? ⟨b, off + i, none⟩ = some (.string (xs.getD i ByteArray.empty))) := hlh
  have HI : Hid (ps.length = 0 ∨ ∃ b off, ia = some ⟨b, off, none⟩ ∧ ∀ i, i < ps.length → w.cell? ⟨b, off + i, none⟩ = some (.int .i64 ((zsP ps).getD i 0))) := hih
  have HT : Hid (ps.length = 0 ∨ ∃ b off, ta' = some ⟨b, off, none⟩ ∧ ∀ i, i < ps.length → w.cell? ⟨b, off + i, none⟩ = some (.string ((csP ps).getD i ByteArray.empty))) := hth
  have HP : Hid (∀ p ∈ ps, p.1 < xs.length) := hi
  obtain ⟨r, HR⟩ : ∃ r, Hid (decide (ownP xs ps) = r) := ⟨_, rfl⟩
  rw [HR.out]
  obtain ⟨l, HLL⟩ : ∃ n, Hid (ps.length = n) := ⟨_, rfl⟩
  obtain ⟨n, HN⟩ : ∃ n, Hid (xs.length = n) := ⟨_, rfl⟩
  rw [HLL.out] at HI HT hz hw s0 s1 ⊢
  rw [HN.out] at HL HP hxm ⊢
  clear hlh hth hih hi hic htc HW rw0
  go_enter Tryz.func36, Tryz.ntmps36
  go_wp2
  try rw [hw]
  go_loopw [5] (fun i wr => ∃ k m : Nat, k ≤ l ∧ i = .int .i64 k ∧ Hid (ownP xs (ps.take k)) ∧ wr = W.drewN m) (fun i _ => (l - intOf i).toNat)
  case atStart => exact ⟨0, 0, by omega, rfl, fun p h => by simp at h, rfl⟩
  case round =>
    clear hw
    obtain ⟨k, m, hk, rfl, HS, rfl⟩ := hrel
    by_cases hlt : k < l
    · have hlt' : (k : Int) < l := by omega
      have hkx : k < ps.length := by rw [HLL.out]; exact hlt
      obtain ⟨b1, o1, rfl, h1⟩ := HI.out.resolve_left (by omega)
      obtain ⟨b2, o2, rfl, h2⟩ := HT.out.resolve_left (by omega)
      have hpn := HP.out ps[k] (List.getElem_mem hkx)
      obtain ⟨b3, o3, rfl, h3⟩ := HL.out.resolve_left (by omega)
      have c1 := CO.out _ _ (h1 k hlt)
      have c2 := CO.out _ _ (h2 k hlt)
      rw [zsP_at hkx] at c1
      rw [csP_at hkx] at c2
      have c3 := CO.out _ _ (h3 _ hpn)
      have HTK : Hid (ps.take (k + 1) = ps.take k ++ [ps[k]]) := by show _ = _; rw [List.take_add_one, List.getElem?_eq_getElem hkx]; rfl
      have HIN : Hid (ps[k] ∈ ps) := List.getElem_mem hkx
      obtain ⟨x, HX⟩ : ∃ x, Hid (ps[k] = x) := ⟨ps[k], (rfl : ps[k] = ps[k])⟩
      rw [HX.out] at c1 c2 c3 HTK hpn HIN
      obtain ⟨p, HPP⟩ : ∃ p, Hid (x.1 = p) := ⟨_, rfl⟩
      rw [HPP.out] at c1 c3 hpn
      have hpn' : (p : Int) < n := by omega
      have d0 : decide ((p : Int) < 0) = false := decide_eq_false (by omega)
      have d1 : decide ((n : Int) ≤ p) = false := decide_eq_false (by omega)
      have d1' : decide (n ≤ p) = false := decide_eq_false (by omega)
      obtain ⟨A, HAA⟩ : ∃ X, Hid (xs.getD p ByteArray.empty = X) := ⟨_, rfl⟩
      obtain ⟨Y, HY⟩ : ∃ X, Hid (x.2 = X) := ⟨_, rfl⟩
      rw [HAA.out] at c3
      rw [HY.out] at c2
      clear h1 h2 h3 HX hkx
      by_cases hxy : A = Y
      · have hb : (A.toList == Y.toList) = true := by rw [qc.beqL]; exact decide_eq_true hxy
        have HS1 : Hid (ownP xs (ps.take (k + 1))) := fun q hq => by
          rw [HTK.out, List.mem_append, List.mem_singleton] at hq
          rcases hq with h | h
          · exact HS.out q h
          · rw [h, HPP.out, HAA.out, HY.out, hxy]
        clear hxy
        go_upto_region 4 with fail
        go_quiet (fail)
        go_wp2
        go_roundw
        case rel => exact ⟨k + 1, m + nq, by omega, by go_num, HS1, by first | rfl | rw [World.drewN_drewN]⟩
        case measure => simp [intOf]; omega
      · have hb : (A.toList == Y.toList) = false := by rw [qc.beqL]; exact decide_eq_false hxy
        have HE : Hid (r = false) := by
          show _ = _
          rw [← HR.out]
          apply decide_eq_false
          intro e
          apply hxy
          rw [← HAA.out, ← HY.out, ← HPP.out, e x HIN.out]
        clear hxy
        go_upto_region 4 with fail
        go_quiet (fail)
        go_wp2
        go_ret
        exact ⟨by rw [HE.out]; rfl, over BW.out (by first | exact below_dN (Below.refl _ _) _ | (rw [World.drewN_drewN]; exact below_dN (Below.refl _ _) _))⟩
    · have hlt' : ¬ (k : Int) < l := by omega
      obtain rfl : k = l := by omega
      have HE : Hid (r = true) := by
        show _ = _
        rw [← HR.out]
        apply decide_eq_true
        have := HS.out
        rw [List.take_of_length_le (by rw [HLL.out]; omega)] at this
        exact this
      go_wp2
      go_ret
      exact ⟨by rw [HE.out]; rfl, over BW.out (below_dN (Below.refl _ _) _)⟩
end Go.Proofs.YthppkdjekfginaaGreatDoor.jj

namespace Go.Proofs.YthppkdjekfginaaGreatDoor.jq
open Go.RowKit Go.PlainAid
open Go.Proofs.YthppkdjekfginaaGreatDoor.pl Go.Proofs.YthppkdjekfginaaGreatDoor.pi Go.Proofs.YthppkdjekfginaaGreatDoor.pj Go.Proofs.YthppkdjekfginaaGreatDoor.ca Go.Proofs.YthppkdjekfginaaGreatDoor.cb Go.Proofs.YthppkdjekfginaaGreatDoor.cp Go.Proofs.YthppkdjekfginaaGreatDoor.ga Go.Proofs.YthppkdjekfginaaGreatDoor.gb Go.Proofs.YthppkdjekfginaaGreatDoor.aa Go.Proofs.YthppkdjekfginaaGreatDoor.ka Go.Proofs.YthppkdjekfginaaGreatDoor.kb Go.Proofs.YthppkdjekfginaaGreatDoor.kc Go.Proofs.YthppkdjekfginaaGreatDoor.kp Go.Proofs.YthppkdjekfginaaGreatDoor.mi Go.Proofs.YthppkdjekfginaaGreatDoor.lk Go.Proofs.YthppkdjekfginaaGreatDoor.lm Go.Proofs.YthppkdjekfginaaGreatDoor.co Go.Proofs.YthppkdjekfginaaGreatDoor.qg Go.Proofs.YthppkdjekfginaaGreatDoor.qj Go.Proofs.YthppkdjekfginaaGreatDoor.qk Go.Proofs.YthppkdjekfginaaGreatDoor.ta Go.Proofs.YthppkdjekfginaaGreatDoor.tb Go.Proofs.YthppkdjekfginaaGreatDoor.td Go.Proofs.YthppkdjekfginaaGreatDoor.tc Go.Proofs.YthppkdjekfginaaGreatDoor.va Go.Proofs.YthppkdjekfginaaGreatDoor.vd Go.Proofs.YthppkdjekfginaaGreatDoor.wa Go.Proofs.YthppkdjekfginaaGreatDoor.ja Go.Proofs.YthppkdjekfginaaGreatDoor.jb Go.Proofs.YthppkdjekfginaaGreatDoor.jc Go.Proofs.YthppkdjekfginaaGreatDoor.je Go.Proofs.YthppkdjekfginaaGreatDoor.jj
set_option linter.unusedVariables false

section
variable {W wr wa w5 : World} {o : Nat} {u1 u2 v5 : Value} {zs ns : List Int} {cs ms : List ByteArray}
theorem Wn.app1 (h : Wn W o u1 u2 zs cs wr) (hwa : wa = wr ∨ ∃ ob, wa = wr.alloc ob) (ho : w5.ownsRow W.heap.size 3 1 v5 (zs.length + ns.length) (zs.map (Value.int .i64) ++ ns.map (Value.int .i64))) (hg : wa.grownBy w5 u1.ownBlock) :
    w5.heap[o]? = some (.cells #[u1, u2] 61 (0, 0)) ∧ Wn W o v5 u2 (zs ++ ns) cs (w5.setCell ⟨o, 0, none⟩ v5) := by
  have hlt := (Array.getElem?_eq_some_iff.1 h.row).1
  have hwf : wa.os = wr.os ∧ wa.tape = wr.tape ∧ wa.output = wr.output ∧ wr.heap.size ≤ wa.heap.size ∧ ∀ g, g < wr.heap.size → wa.heap[g]? = wr.heap[g]? := by
    rcases hwa with rfl | ⟨ob, rfl⟩
    · exact ⟨rfl, rfl, rfl, Nat.le_refl _, fun _ _ => rfl⟩
    · exact ⟨rfl, rfl, rfl, by simp, fun g h => Below.heap_alloc _ _ _ h⟩
  have hne : some o ≠ u1.ownBlock := fun e => by have := (h.r1.lt o e.symm).1; have := h.lt; omega
  have hb : ∀ g, g < wr.heap.size → some g ≠ u1.ownBlock → w5.heap[g]? = wr.heap[g]? := fun g h1 h2 => (hg.block g (by have := hwf.2.2.2.1; omega) h2).trans (hwf.2.2.2.2 g h1)
  have r5 := (hb o hlt hne).trans h.row
  have k5 : Kp (fun b => b = o) W w5 := ⟨(by rw [hg.os, hwf.1]; exact h.fr.os), (by rw [hg.tape, hwf.2.1]; exact h.fr.tape), (by rw [hg.output, hwf.2.2.1]; exact h.fr.output), Nat.le_trans h.fr.size (by have := hg.size; have := hwf.2.2.2.1; omega), fun b h1 h2 => (hb b (Nat.lt_of_lt_of_le h1 h.fr.size) (fun e => by have := (h.r1.lt b e.symm).1; omega)).trans (h.fr.block b h1 h2)⟩
  have s2 : w5.ownsRow W.heap.size 9 1 u2 cs.length (cs.map Value.string) := own_stay h.r2 (fun g hgg => hb g (h.r2.lt g hgg).2 (fun e => own_apart h.r2 h.r1 (by decide) g hgg e.symm))
  have kc : Kp (fun b => b = o) w5 (w5.setCell ⟨o, 0, none⟩ v5) := Kp.setCell _ _ _ _ rfl
  have far : ∀ {e s n : Nat} {v : Value} {xs : List Value}, w5.ownsRow W.heap.size e s v n xs → (w5.setCell ⟨o, 0, none⟩ v5).ownsRow W.heap.size e s v n xs := fun q => own_stay q (fun g hgg => kc.block g (q.lt g hgg).2 (fun e => by have := (q.lt g hgg).1; have := h.lt; omega))
  exact ⟨r5, heap_setCell_same _ _ 0 _ _ _ r5, by rw [List.length_append, List.map_append]; exact far ho, far s2, k5.trans kc, h.lt⟩
theorem Wn.app2 (h : Wn W o u1 u2 zs cs wr) (hwa : wa = wr ∨ ∃ ob, wa = wr.alloc ob) (ho : w5.ownsRow W.heap.size 9 1 v5 (cs.length + ms.length) (cs.map Value.string ++ ms.map Value.string)) (hg : wa.grownBy w5 u2.ownBlock) :
    w5.heap[o]? = some (.cells #[u1, u2] 61 (0, 0)) ∧ Wn W o u1 v5 zs (cs ++ ms) (w5.setCell ⟨o, 1, none⟩ v5) := by
  have hlt := (Array.getElem?_eq_some_iff.1 h.row).1
  have hwf : wa.os = wr.os ∧ wa.tape = wr.tape ∧ wa.output = wr.output ∧ wr.heap.size ≤ wa.heap.size ∧ ∀ g, g < wr.heap.size → wa.heap[g]? = wr.heap[g]? := by
    rcases hwa with rfl | ⟨ob, rfl⟩
    · exact ⟨rfl, rfl, rfl, Nat.le_refl _, fun _ _ => rfl⟩
    · exact ⟨rfl, rfl, rfl, by simp, fun g h => Below.heap_alloc _ _ _ h⟩
  have hne : some o ≠ u2.ownBlock := fun e => by have := (h.r2.lt o e.symm).1; have := h.lt; omega
  have hb : ∀ g, g < wr.heap.size → some g ≠ u2.ownBlock → w5.heap[g]? = wr.heap[g]? := fun g h1 h2 => (hg.block g (by have := hwf.2.2.2.1; omega) h2).trans (hwf.2.2.2.2 g h1)
  have r5 := (hb o hlt hne).trans h.row
  have k5 : Kp (fun b => b = o) W w5 := ⟨(by rw [hg.os, hwf.1]; exact h.fr.os), (by rw [hg.tape, hwf.2.1]; exact h.fr.tape), (by rw [hg.output, hwf.2.2.1]; exact h.fr.output), Nat.le_trans h.fr.size (by have := hg.size; have := hwf.2.2.2.1; omega), fun b h1 h2 => (hb b (Nat.lt_of_lt_of_le h1 h.fr.size) (fun e => by have := (h.r2.lt b e.symm).1; omega)).trans (h.fr.block b h1 h2)⟩
  have s2 : w5.ownsRow W.heap.size 3 1 u1 zs.length (zs.map (Value.int .i64)) := own_stay h.r1 (fun g hgg => hb g (h.r1.lt g hgg).2 (fun e => own_apart h.r1 h.r2 (by decide) g hgg e.symm))
  have kc : Kp (fun b => b = o) w5 (w5.setCell ⟨o, 1, none⟩ v5) := Kp.setCell _ _ _ _ rfl
  have far : ∀ {e s n : Nat} {v : Value} {xs : List Value}, w5.ownsRow W.heap.size e s v n xs → (w5.setCell ⟨o, 1, none⟩ v5).ownsRow W.heap.size e s v n xs := fun q => own_stay q (fun g hgg => kc.block g (q.lt g hgg).2 (fun e => by have := (q.lt g hgg).1; have := h.lt; omega))
  exact ⟨r5, heap_setCell_same _ _ 1 _ _ _ r5, far s2, by rw [List.length_append, List.map_append]; exact far ho, k5.trans kc, h.lt⟩
end
-- the places of a range
def psK (L : Nat) (cs : List ByteArray) (k : Nat) : List (Nat × ByteArray) := (List.range k).map fun i => (L + i, cs.getD i ByteArray.empty)
theorem psK_len (L : Nat) (cs : List ByteArray) (k : Nat) : (psK L cs k).length = k := by unfold psK; simp
theorem psK_succ (L : Nat) (cs : List ByteArray) (k : Nat) : psK L cs (k + 1) = psK L cs k ++ [(L + k, cs.getD k ByteArray.empty)] := by
  unfold psK
  rw [List.range_succ, List.map_append]
  rfl
theorem psK_mem {L : Nat} {cs : List ByteArray} {k : Nat} {p : Nat × ByteArray} : p ∈ psK L cs k ↔ ∃ i, i < k ∧ p = (L + i, cs.getD i ByteArray.empty) := by
  unfold psK
  rw [List.mem_map]
  constructor
  · rintro ⟨i, hi, rfl⟩
    exact ⟨i, List.mem_range.1 hi, rfl⟩
  · rintro ⟨i, hi, rfl⟩
    exact ⟨i, List.mem_range.2 hi, rfl⟩
theorem psK_ris (L : Nat) (cs : List ByteArray) (k : Nat) : RisP (psK L cs k) := by
  unfold RisP psK
  rw [List.pairwise_map]
  exact List.Pairwise.imp (fun {a b} h => by show L + a < L + b; omega) List.pairwise_lt_range
theorem lkS_z (lo hi : Nat) : ∀ c d, c < d → lkS lo hi c d ≠ 1 → lkS lo hi c d = if d - c = 1 then 0 else 2 := by
  intro c d _ h
  unfold lkS at h ⊢
  split
  · rename_i g; rw [if_pos g] at h; exact absurd rfl h
  · rfl
theorem rep_range (L : Nat) (cs : List ByteArray) (n : Nat) (h1 : 1 ≤ cs.length) : Rep (lkS L (L + cs.length)) (fun p => cs.getD (p - L) ByteArray.empty) (psK L cs cs.length) 0 n where
  r := psK_ris _ _ _
  k := fun c d _ hcd _ => by
    constructor
    · intro h
      have hn : ¬ (L < d ∧ c < L + cs.length) := fun q => (lkS_ne L (L + cs.length) c d).2 q h
      unfold inP
      rw [List.filter_eq_nil_iff]
      intro p hp e
      rw [Bool.and_eq_true, decide_eq_true_eq, decide_eq_true_eq] at e
      obtain ⟨i, hi, rfl⟩ := psK_mem.1 hp
      have e1 : c ≤ L + i := e.1
      have e2 : L + i < d := e.2
      omega
    · intro h
      by_cases g : lkS L (L + cs.length) c d = 1
      · exact g
      · obtain ⟨g1, g2⟩ := (lkS_ne L (L + cs.length) c d).1 g
        have hm : (L + (max c L - L), cs.getD (max c L - L) ByteArray.empty) ∈ inP (psK L cs cs.length) c d := inP_mem.2 ⟨psK_mem.2 ⟨max c L - L, by omega, rfl⟩, by show c ≤ L + (max c L - L); omega, by show L + (max c L - L) < d; omega⟩
        rw [h] at hm
        exact absurd hm (by simp)
  z := lkS_z _ _
  f := fun p hp _ _ => by
    obtain ⟨i, hi, rfl⟩ := psK_mem.1 hp
    show cs.getD (L + i - L) ByteArray.empty = cs.getD i ByteArray.empty
    rw [Nat.add_sub_cancel_left]
theorem sh_range (lo hi : Nat) : Sh (lkS lo hi) := ⟨fun a b h => lkS_zero lo hi a b h⟩
theorem own_range (xs cs : List ByteArray) (L : Nat) (h : L + cs.length ≤ xs.length) : ownP xs (psK L cs cs.length) ↔ slc xs L (L + cs.length) = cs := by
  have hl : (slc xs L (L + cs.length)).length = cs.length := by rw [slc_len h]; omega
  have hg : ∀ i, i < cs.length → (slc xs L (L + cs.length)).getD i ByteArray.empty = xs.getD (L + i) ByteArray.empty := fun i hi => by
    unfold slc
    rw [List.getD_eq_getElem?_getD, List.getD_eq_getElem?_getD, List.getElem?_take, if_pos (by omega), List.getElem?_drop]
  constructor
  · intro q
    apply List.ext_getElem hl
    intro i h1 h2
    have := q _ (psK_mem.2 ⟨i, h2, rfl⟩)
    have e : xs.getD (L + i) ByteArray.empty = cs.getD i ByteArray.empty := this
    rw [← hg i h2, List.getD_eq_getElem?_getD, List.getD_eq_getElem?_getD, List.getElem?_eq_getElem h1, List.getElem?_eq_getElem h2] at e
    exact e
  · intro q p hp
    obtain ⟨i, hi, rfl⟩ := psK_mem.1 hp
    show xs.getD (L + i) ByteArray.empty = cs.getD i ByteArray.empty
    rw [← hg i hi, q]
end Go.Proofs.YthppkdjekfginaaGreatDoor.jq
