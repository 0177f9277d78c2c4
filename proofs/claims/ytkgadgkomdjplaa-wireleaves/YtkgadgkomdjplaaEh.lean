import Derived.Test.YtkgadgkomdjplaaEg
namespace Go.Proofs.Ytkgadgkomdjplaa.eh
open Go.RowKit Go.PlainAid Go.Shelf
open Go.Proofs.Ytkgadgkomdjplaa.ca Go.Proofs.Ytkgadgkomdjplaa.cb Go.Proofs.Ytkgadgkomdjplaa.cp Go.Proofs.Ytkgadgkomdjplaa.ga Go.Proofs.Ytkgadgkomdjplaa.kp Go.Proofs.Ytkgadgkomdjplaa.na Go.Proofs.Ytkgadgkomdjplaa.nb Go.Proofs.Ytkgadgkomdjplaa.nc Go.Proofs.Ytkgadgkomdjplaa.ea Go.Proofs.Ytkgadgkomdjplaa.eb Go.Proofs.Ytkgadgkomdjplaa.ec Go.Proofs.Ytkgadgkomdjplaa.ed Go.Proofs.Ytkgadgkomdjplaa.ee Go.Proofs.Ytkgadgkomdjplaa.ef Go.Proofs.Ytkgadgkomdjplaa.eg Go.Proofs.Ytkgadgkomdjplaa.ka Go.Proofs.Ytkgadgkomdjplaa.bn
set_option linter.unusedVariables false

theorem rd1 {T g : Nat} {b : ByteArray} {p : Nat} {e : Int} {v : Value} {w : World} (h : Rd T g b p e [v] w) : w.cell? ⟨g, 3, none⟩ = some v := cell_of_row _ _ 3 _ _ _ h
theorem rd1set {T g : Nat} {b : ByteArray} {p : Nat} {e : Int} {v : Value} {w : World} (h : Rd T g b p e [v] w) (u : Value) : Rd T g b p e [u] (w.setCell ⟨g, 3, none⟩ u) := heap_setCell_same _ _ 3 _ _ _ h
theorem ne_of_own {w : World} {B t s n g h : Nat} {c : Nat} {xs : List Value} {cur : Array Value} {T : Nat} {f : Nat × Nat} (o : w.ownsRow B t s (.slice (some ⟨g, 0, none⟩) n c) n xs) (hh : w.heap[h]? = some (.cells cur T f)) (ht : t ≠ T) : g ≠ h := by
  rintro rfl
  rcases o.2 with ⟨e, _⟩ | ⟨g', cap, cur', e, _, h3, _⟩
  · cases e
  · injection e with e1 _ _
    injection e1 with e1
    injection e1 with e1
    subst e1
    rw [hh] at h3
    injection h3 with h3
    injection h3 with _ h3 _
    exact ht h3.symm
theorem step_take {ops : Array Oper} {o : Oper} {a : Act} {w : World} {K : Act → World → Prop} {Q : Exit → Act → World → Prop} {E : Prop} (hg : o.guard = none) (k l d : Nat)
    (hop : o.op = .call { callee := .value (.func 68), args := #[.tmp k, .tmp l], argTypes := #[75, 3] }) (hd : o.dst = some d) (T g : Nat) (b : ByteArray) (p : Nat) (e : Int) (rest : List Value) (c : Nat) (x : ByteArray) (q : Nat) (z : Int)
    (hy : a.tmps[k]?.getD undef = .pointer (some ⟨g, 0, none⟩)) (hy2 : a.tmps[l]?.getD undef = .int .i64 c) (HT : Hid (takeS b c p e = (x, q, z))) (HR : Hid (Rd T g b p e rest w ∧ b.size ≤ 140737488355328 ∧ Ok b p e ∧ c ≤ 140737488355328))
    (hK : ∀ w', Rd T g b q z rest w' → Kp (fun k => k = g) w w' → K { tmps := a.tmps.setIfInBounds d (.string x), defers := a.defers } w') :
    if Region.wanted o (yielded ops a.tmps) = true then Oper.wp Try.prog o a w K Q else E := by
  have hw : Region.wanted o (yielded ops a.tmps) = true := by simp [Region.wanted, hg]
  rw [if_pos hw]
  have C := takeC T g b p e rest c w HR.out.1 HR.out.2.1 HR.out.2.2.1 HR.out.2.2.2
  rw [HT.out] at C
  have HKK : Hid _ := hK
  clear hK HR HT
  unfold Oper.wp execOp
  simp only [hop]
  go_simp
  refine C.mono ?_
  rintro e w' ⟨rfl, h1, h2⟩
  exact HKK.out _ h1 h2
theorem own_ne {w : World} {B t s n g : Nat} {v : Value} {xs : List Value} {cur : Array Value} {T : Nat} {f : Nat × Nat} (o : w.ownsRow B t s v n xs) (hh : w.heap[g]? = some (.cells cur T f)) (ht : t ≠ T) : some g ≠ v.ownBlock := by
  rcases o.2 with ⟨rfl, _⟩ | ⟨g', cap, cur', rfl, _, h3, _⟩
  · intro e; cases e
  · intro e
    have e : g = g' := Option.some.inj e
    subst e
    rw [hh] at h3
    injection h3 with h3
    injection h3 with _ h3 _
    exact ht h3.symm
theorem own_tag {w w' : World} {B t s n g : Nat} {v : Value} {xs : List Value} {cur : Array Value} {T : Nat} {f : Nat × Nat} (o : w.ownsRow B t s v n xs) (hh : w.heap[g]? = some (.cells cur T f)) (ht : t ≠ T) (k : Kp (fun k => k = g) w w') : w'.ownsRow B t s v n xs := by
  have hne := own_ne o hh ht
  refine ⟨o.1, ?_⟩
  rcases o.2 with h2 | ⟨g', cap, cur', rfl, h2, h3, h4⟩
  · exact .inl h2
  · exact .inr ⟨g', cap, cur', rfl, h2, (k.block g' (Array.getElem?_eq_some_iff.1 h3).1 (fun e => hne (by rw [e]; rfl))).trans h3, h4⟩
-- the state of the reader of leaves: B the beginning of the call's own memory
structure LI (g : Nat) (b : ByteArray) (n p : Nat) (e : Int) (B : Nat) (w : World) (v : Value) (xs : List ByteArray) (q : Nat) (z : Int) (wr : World) : Prop where
  rd : Rd 77 g b q z [v] wr
  ok : Ok b q z
  bl : Below B w wr
  own : wr.ownsRow B 9 1 v xs.length (xs.map Value.string)
  len : xs.length ≤ n
  eq : leavesS b n p e = (xs ++ (leavesS b (n - xs.length) q z).1, (leavesS b (n - xs.length) q z).2)
theorem leavesS_next (b : ByteArray) (n p : Nat) (e : Int) (k : Int) (q : Nat) (z : Int) (h : mostS b 4096 121 p e = (k, q, z)) : leavesS b (n + 1) p e = ((takeS b k.toNat q z).1 :: (leavesS b n (takeS b k.toNat q z).2.1 (takeS b k.toNat q z).2.2).1, (leavesS b n (takeS b k.toNat q z).2.1 (takeS b k.toNat q z).2.2).2) := by
  rw [leavesS, h]
set_option maxRecDepth 20000 in
set_option maxHeartbeats 12800000 in
theorem lreadC (g : Nat) (b : ByteArray) (B : Nat) (w : World) (h : Rd 77 g b 0 0 [.slice none 0 0] w) (hb : b.size ≤ 140737488355328) (hB : B ≤ g) :
    Calls Try.prog 36 #[.pointer (some ⟨g, 0, none⟩)] w fun x w' => x = .returned (.tuple #[]) ∧ (∃ v, Rd 77 g b (unLeavesS b).2.1 (unLeavesS b).2.2 [v] w' ∧ w'.ownsRow B 9 1 v (unLeavesS b).1.length ((unLeavesS b).1.map Value.string)) ∧ Below B w w' := by
  obtain ⟨i9, hi, hz0, hz1, hz2⟩ := info_parts hi9
  have HIN : Hid (_ ∧ _ ∧ _ ∧ _) := ⟨hi, hz0, hz1, hz2⟩
  clear hi hz0 hz1 hz2
  have hg := h.lt
  have hk0 : Ok b 0 0 := ⟨Nat.zero_le _, by decide, by decide⟩
  have CM : Hid (Calls _ _ _ _ _) := markC 77 g b 0 0 76 ⟨#[76]⟩ [.slice none 0 0] w h hb hk0 rfl
  have hk1 := mark_ok b 76 0 0 hk0
  have HU : Hid (unLeavesS b = leavesS b (mostS b 1024 83 (markS b 76 0 0).1 (markS b 76 0 0).2).1.toNat (mostS b 1024 83 (markS b 76 0 0).1 (markS b 76 0 0).2).2.1 (mostS b 1024 83 (markS b 76 0 0).1 (markS b 76 0 0).2).2.2) := rfl
  obtain ⟨p1, e1, HM⟩ : ∃ p1 e1, Hid (markS b 76 0 0 = (p1, e1)) := ⟨_, _, rfl⟩
  rw [HM.out] at CM HU hk1
  have CN : Hid (∀ w, _ → Calls _ _ _ _ _) := fun w h => atMostC 77 g b p1 e1 1024 83 [.slice none 0 0] w h hb hk1 (by decide) (by decide)
  obtain ⟨hk2, hm0, hm1⟩ := most_ok b 1024 83 p1 e1 hk1 (by decide)
  obtain ⟨m, p2, e2, HN⟩ : ∃ m p2 e2, Hid (mostS b 1024 83 p1 e1 = (m, p2, e2)) := ⟨_, _, _, rfl⟩
  have HU2 : Hid (unLeavesS b = leavesS b (mostS b 1024 83 p1 e1).1.toNat (mostS b 1024 83 p1 e1).2.1 (mostS b 1024 83 p1 e1).2.2) := HU.out
  rw [HN.out] at CN HU2 hk2 hm0 hm1
  obtain ⟨n, hn⟩ : ∃ n : Nat, m = n := ⟨m.toNat, by simp at hm0; omega⟩
  subst hn
  have hn1 : n ≤ 1024 := by simp at hm1; omega
  have HU3 : Hid (unLeavesS b = leavesS b n p2 e2) := HU2.out
  obtain ⟨R, HR⟩ : ∃ R, Hid (leavesS b n p2 e2 = R) := ⟨_, rfl⟩
  rw [HU3.out, HR.out]
  have KB : Hid (∀ w1 w2 : World, w.heap.size ≤ w1.heap.size → Kp (fun k => k = g) w1 w2 → Below B w1 w2) := fun w1 w2 hs k => k.below (fun j hj => by omega) (by omega)
  clear h hk1 HU HU2 HU3 hm0 hm1
  go_enter Try.func36, Try.ntmps36
  go_wp2_with (first | (go_at_call 66; refine CM.out.mono ?_; rintro _ w1 ⟨rfl, r1, k1⟩; have R1 : Hid (Rd 77 g b p1 e1 [.slice none 0 0] w1) := r1; have K1 : Hid (Below B w w1) := KB.out _ _ (Nat.le_refl _) k1; clear r1 k1) | (go_at_call 67; refine (CN.out _ R1.out).mono ?_; rintro _ w2 ⟨rfl, r2, k2⟩; have R2 : Hid (Rd 77 g b p2 e2 [.slice none 0 0] w2) := r2; have K2 : Hid (Below B w w2) := K1.out.trans (KB.out _ _ K1.out.size k2); clear r2 k2))
  go_loopw [11] (fun i wr => ∃ (k : Nat) (v : Value) (xs : List ByteArray) (q : Nat) (z : Int), k ≤ n ∧ i = .int .i64 k ∧ Hid (xs.length = k ∧ LI g b n p2 e2 B w v xs q z wr)) (fun i _ => (n - intOf i).toNat)
  case atStart => exact ⟨0, _, [], p2, e2, by omega, rfl, rfl, R2.out, hk2, K2.out, World.ownsRow_nil _ _ _ _, by simp, by simp⟩
  case round =>
    clear CM CN R1 K1 R2 K2 hk2
    obtain ⟨k, v, xs, q, z, hk, rfl, HH⟩ := hrel
    by_cases hlt : k < n
    · have hlt' : (k : Int) < n := by omega
      have CL : Hid (Calls _ _ _ _ _) := atMostC 77 g b q z 4096 121 [v] wr HH.out.2.rd hb HH.out.2.ok (by decide) (by decide)
      obtain ⟨hk3, hl0, hl1⟩ := most_ok b 4096 121 q z HH.out.2.ok (by decide)
      obtain ⟨l, q3, z3, HL⟩ : ∃ l q3 z3, Hid (mostS b 4096 121 q z = (l, q3, z3)) := ⟨_, _, _, rfl⟩
      rw [HL.out] at CL hk3 hl0 hl1
      obtain ⟨c, hc⟩ : ∃ c : Nat, l = c := ⟨l.toNat, by simp at hl0; omega⟩
      subst hc
      have hc4 : c ≤ 4096 := by simp at hl1; omega
      have OK3 : Hid (Ok b q3 z3) := hk3
      clear hk3 hl0 hl1
      go_upto_region 4 with (go_at_call 67; refine CL.out.mono ?_; rintro _ w3 ⟨rfl, r3, k3⟩; have R3 : Hid (Rd 77 g b q3 z3 [v] w3) := r3; have K3 : Hid (Kp (fun k => k = g) wr w3) := k3; clear r3 k3)
      have d3 := rd1 R3.out
      have f3 := frozen_of_row _ _ 3 _ _ R3.out
      obtain ⟨x, q4, z4, HX⟩ : ∃ x q4 z4, Hid (takeS b c q3 z3 = (x, q4, z4)) := ⟨_, _, _, rfl⟩
      have O3 : Hid (w3.ownsRow B 9 1 v k (xs.map Value.string)) := by
        have h1 := own_tag HH.out.2.own HH.out.2.rd (by decide) K3.out
        rw [HH.out.1] at h1
        exact h1
      have hwr := HH.out.2.bl.size
      have HTK : Hid (Rd 77 g b q3 z3 [v] w3.drew ∧ b.size ≤ 140737488355328 ∧ Ok b q3 z3 ∧ c ≤ 140737488355328) := ⟨R3.out, hb, OK3.out, by omega⟩
      have FK : Hid (∀ w4, Rd 77 g b q4 z4 [v] w4 → Kp (fun k => k = g) w3.drew w4 → w4.ownsRow B 9 1 v k (xs.map Value.string) ∧ B ≤ w4.heap.size ∧ Below B w w4) := fun w4 r4 k4 => by
        have k34 : Kp (fun k => k = g) w3 w4 := ⟨k4.os, k4.tape, k4.output, k4.size, k4.block⟩
        have h3 := own_tag O3.out R3.out (by decide) k34
        have hsz := Nat.le_trans K3.out.size k34.size
        exact ⟨h3, by omega, HH.out.2.bl.trans (KB.out _ _ hwr (K3.out.trans k34))⟩
      go_region_law ((first | (have zz := HTK.out; refine step_take (by rfl) 24 25 26 (by rfl) (by rfl) 77 g b q3 z3 [v] c x q4 z4 (by simp [Act.put]) (by simp [Act.put]) HX HTK ?_; intro w4 r4 k4; have F4 : Hid _ := FK.out w4 r4 k4; have R4 : Hid (Rd 77 g b q4 z4 [v] w4) := r4; have d4 := rd1 r4; have f4 := frozen_of_row _ _ 3 _ _ r4; have d5 : (w4.alloc (.cells #[.string x] 9)).cell? ⟨g, 3, none⟩ = some v := (World.cell?_alloc_lt _ _ _ (Rd.lt r4)).trans d4; clear r4 k4 zz HTK) | (have oo := F4.out.1; refine step_append_lies _ (by rfl) (.tmp 21) (.tmp 27) 27 (by rfl) B 9 i9 (.string ByteArray.empty) 1 16 Try.underlying27 HIN.out.1 HIN.out.2.1 HIN.out.2.2.1 HIN.out.2.2.2 rfl (by decide) v k _ (by simp [Act.eval]) (oo.alloc _) ⟨w4.heap.size, 0, none⟩ 1 1 [.string x] (by simp [Act.eval]) rfl (new_text _ _ _) (one_text _) (by omega) (by unfold maxLen; omega) (by omega) (by have := F4.out.2.1; simp; omega) _ rfl ?_; intro g5 c5 w5 ho5 hg5 hl5 hlt5; have O5 : Hid (World.ownsRow _ _ _ _ _ _ _) := ho5; have R5 : Hid (Rd 77 g b q4 z4 [v] w5) := (hg5.block g (by have := Rd.lt R4.out; simp; omega) (own_ne oo R4.out (by decide))).trans ((Below.heap_alloc _ _ _ (Rd.lt R4.out)).trans R4.out); have B5 : Hid (Below B w w5) := F4.out.2.2.trans (Below.grown ((Below.refl _ _).alloc F4.out.2.1 _) hg5 (by have := F4.out.2.1; simp; omega) (fun j hj => (oo.lt _ hj).1)); have d6 := rd1 R5.out; have f6 := frozen_of_row _ _ 3 _ _ R5.out; clear ho5 hg5 hl5)))
      all_goals (
        have H6 : Hid (LI g b n p2 e2 B w (.slice (some ⟨g5, 0, none⟩) (k + 1) c5) (xs ++ [x]) q4 z4 (w5.setCell ⟨g, 3, none⟩ (.slice (some ⟨g5, 0, none⟩) (k + 1) c5))) := by
          refine ⟨rd1set R5.out _, ?_, B5.out.setCell (p := ⟨g, 3, none⟩) hB _, ?_, by rw [List.length_append, HH.out.1]; simp; omega, ?_⟩
          · have := take_ok b c q3 z3 OK3.out
            rw [HX.out] at this
            exact this
          · rw [List.length_append, HH.out.1, List.map_append]
            exact own_tag O5.out R5.out (by decide) (Kp.setCell _ _ _ _ rfl)
          · have h1 := HH.out.2.eq
            rw [HH.out.1, show n - k = (n - (k + 1)) + 1 by omega, leavesS_next b (n - (k + 1)) q z c q3 z3 HL.out] at h1
            have ec : ((c : Int)).toNat = c := by omega
            rw [ec, HX.out] at h1
            rw [h1, List.length_append, HH.out.1]
            simp
        have HL6 : Hid ((xs ++ [x]).length = k + 1) := by show _ = _; rw [List.length_append, HH.out.1]; rfl
        obtain ⟨w6, HW6⟩ : ∃ w6, w6 = w5.setCell ⟨g, 3, none⟩ (.slice (some ⟨g5, 0, none⟩) (k + 1) c5) := ⟨_, rfl⟩
        rw [← HW6] at H6 ⊢
        clear HW6 R5 B5 O5 d6 f6 d5 d4 f4 R4 F4 HH FK R3 K3 d3 f3
        go_wp2
        go_roundw
        case rel => exact ⟨k + 1, _, _, _, _, by omega, by go_num, HL6.out, H6.out⟩
        case measure => simp [intOf]; omega)
    · have hlt' : ¬ (k : Int) < n := by omega
      have HE : Hid (R = (xs, q, z)) := by
        have h1 := HH.out.2.eq
        rw [HH.out.1, show n - k = 0 by omega] at h1
        show _ = _
        rw [← HR.out, h1]
        simp [leavesS]
      have HO : Hid ((∃ v, Rd 77 g b q z [v] wr ∧ wr.ownsRow B 9 1 v xs.length (xs.map Value.string)) ∧ Below B w wr) := ⟨⟨v, HH.out.2.rd, HH.out.2.own⟩, HH.out.2.bl⟩
      clear HH
      go_wp2
      go_end0
      rw [HE.out]
      exact ⟨rfl, HO.out⟩
end Go.Proofs.Ytkgadgkomdjplaa.eh
