import Derived.Test.YtkgadgkomdjplaaEf
namespace Go.Proofs.Ytkgadgkomdjplaa.eg
open Go.RowKit Go.PlainAid Go.Shelf
open Go.Proofs.Ytkgadgkomdjplaa.ca Go.Proofs.Ytkgadgkomdjplaa.cb Go.Proofs.Ytkgadgkomdjplaa.cp Go.Proofs.Ytkgadgkomdjplaa.ga Go.Proofs.Ytkgadgkomdjplaa.kp Go.Proofs.Ytkgadgkomdjplaa.na Go.Proofs.Ytkgadgkomdjplaa.nb Go.Proofs.Ytkgadgkomdjplaa.nc Go.Proofs.Ytkgadgkomdjplaa.ne Go.Proofs.Ytkgadgkomdjplaa.ea Go.Proofs.Ytkgadgkomdjplaa.eb Go.Proofs.Ytkgadgkomdjplaa.ec Go.Proofs.Ytkgadgkomdjplaa.ed Go.Proofs.Ytkgadgkomdjplaa.ee Go.Proofs.Ytkgadgkomdjplaa.ef Go.Proofs.Ytkgadgkomdjplaa.ka Go.Proofs.Ytkgadgkomdjplaa.bn Go.Proofs.Ytkgadgkomdjplaa.mi Go.Proofs.Ytkgadgkomdjplaa.sb
set_option linter.unusedVariables false

-- what Leaves answers
def leavesE (l : List ByteArray) : Int := if 1024 < l.length then 83 else if l.all (fun x => decide (x.size ≤ 4096)) then 0 else 121
def leavesV (l : List ByteArray) : Value := .tuple #[.string (if leavesE l = 0 then ⟨(leavesB l).toArray⟩ else ByteArray.empty), .int .i64 (leavesE l)]
def leavesK (l : List ByteArray) (k : Nat) : List UInt8 := 76 :: (putB l.length).data.toList ++ (l.take k).flatMap leafB
theorem leavesK_next (l : List ByteArray) (k : Nat) (h : k < l.length) : leavesK l (k + 1) = leavesK l k ++ leafB (l.getD k ByteArray.empty) := by
  have e : l.take (k + 1) = l.take k ++ [l.getD k ByteArray.empty] := by
    rw [List.take_add_one, List.getElem?_eq_getElem h, List.getD_eq_getElem?_getD, List.getElem?_eq_getElem h]
    rfl
  unfold leavesK
  rw [e, List.flatMap_append, List.flatMap_cons, List.flatMap_nil, List.append_nil]
  simp
theorem leavesK_all (l : List ByteArray) : leavesK l l.length = leavesB l := by unfold leavesK leavesB; rw [List.take_length]
theorem leafB_length (x : ByteArray) (h : x.size ≤ 4096) : (leafB x).length ≤ 4106 := by
  have := (putB_size (x.size : Int) (by omega) (by omega)).2
  unfold leafB
  rw [List.length_append, size_data, size_data]; omega
theorem leavesK_length (l : List ByteArray) (hn : l.length ≤ 1024) : ∀ k, k ≤ l.length → (∀ j, j < k → (l.getD j ByteArray.empty).size ≤ 4096) → (leavesK l k).length ≤ 11 + 4106 * k := by
  intro k
  induction k with
  | zero =>
    intro _ _
    have := (putB_size (l.length : Int) (by omega) (by omega)).2
    simp [leavesK]
    omega
  | succ k ih =>
    intro h hs
    rw [leavesK_next l k h, List.length_append]
    have := ih (by omega) (fun j hj => hs j (by omega))
    have := leafB_length _ (hs k (by omega))
    omega
theorem str_append (a b : ByteArray) : (a ++ b).data.toList = a.data.toList ++ b.data.toList := by rw [ByteArray.data_append, Array.toList_append]
theorem numsB_one (v : Int) : (⟨(numsB [v]).toArray⟩ : ByteArray) = putB v := by
  unfold numsB
  apply ByteArray.ext
  simp
theorem one_int (W : World) (n : Int) (t : TypeId) : ReadsI (W.alloc (.cells #[.int .i64 n] t)) (.slice (some ⟨W.heap.size, 0, none⟩) 1 1) [n] := by
  refine ⟨_, 1, rfl, Nat.le_refl _, .inr ⟨W.heap.size, 0, rfl, fun i hi => ?_⟩⟩
  have h0 : i = 0 := by simp at hi; omega
  subst h0
  rw [World.cell?_alloc_at _ _ _ _ rfl]
  rfl
-- numbers(n), in a world in which its list was made
theorem numberC1 (n : Int) (W : World) (h0 : 0 ≤ n) (h1 : n ≤ 9223372036854775807) :
    Calls Try.prog 33 #[.slice (some ⟨W.heap.size, 0, none⟩) 1 1] (W.alloc (.cells #[.int .i64 n] 3)) fun e w' => e = .returned (.string (putB n)) ∧ Below W.heap.size W w' := by
  refine (numbersC _ [n] _ (one_int W n _) (fun x hx => by simp at hx; subst hx; exact ⟨h0, h1⟩) (by simp)).mono ?_
  rintro e w' ⟨rfl, hb⟩
  rw [numsB_one]
  have ha : Below W.heap.size W (W.alloc (.cells #[.int .i64 n] 3)) := (Below.refl _ _).alloc (Nat.le_refl _) _
  exact ⟨rfl, ⟨hb.os.trans ha.os, hb.tape.trans ha.tape, hb.output.trans ha.output, Nat.le_trans ha.size hb.size, fun j hj => (hb.block j (Nat.lt_of_lt_of_le hj ha.size)).trans (ha.block j hj)⟩⟩
theorem below2 {B : Nat} {w w1 w2 : World} (h : Below B w w1) (k : Below w1.heap.size w1 w2) (hB : B ≤ w.heap.size) : Below B w w2 :=
  ⟨k.os.trans h.os, k.tape.trans h.tape, k.output.trans h.output, Nat.le_trans h.size k.size, fun j hj => (k.block j (by have := h.size; omega)).trans (h.block j hj)⟩
theorem not_all {l : List ByteArray} {k : Nat} (hk : k < l.length) (h : 4096 < (l.getD k ByteArray.empty).size) : l.all (fun x => decide (x.size ≤ 4096)) = false := by
  rw [List.all_eq_false]
  refine ⟨l.getD k ByteArray.empty, ?_, by rw [decide_eq_false (show ¬ (l.getD k ByteArray.empty).size ≤ 4096 by omega)]; exact Bool.false_ne_true⟩
  rw [List.getD_eq_getElem?_getD, List.getElem?_eq_getElem hk]
  exact List.getElem_mem _
theorem all_of {l : List ByteArray} (h : ∀ j, j < l.length → (l.getD j ByteArray.empty).size ≤ 4096) : l.all (fun x => decide (x.size ≤ 4096)) = true := by
  rw [List.all_eq_true]
  intro x hx
  obtain ⟨j, hj, rfl⟩ := List.getElem_of_mem hx
  have := h j hj
  rw [List.getD_eq_getElem?_getD, List.getElem?_eq_getElem hj] at this
  simpa using this
set_option maxHeartbeats 1600000 in
theorem leavesC (v : Value) (l : List ByteArray) (w : World) (hR : ReadsT w v l) (hn : l.length ≤ 140737488355328) :
    Calls Try.prog 10 #[v] w fun e w' => e = .returned (leavesV l) ∧ Below w.heap.size w w' := by
  obtain ⟨a, cap, rfl, hcap, hcl⟩ := hR
  by_cases hm : 1024 < l.length
  · have HV : Hid (leavesV l = .tuple #[.string ByteArray.empty, .int .i64 83]) := by
      have e : leavesE l = 83 := if_pos hm
      show _ = _
      unfold leavesV
      rw [e]; rfl
    rw [HV.out]
    have hm' : (1024 : Int) < l.length := by omega
    clear hcl
    go_enter Try.func10, Try.ntmps10
    go_wp2
    go_ret2
    exact ⟨rfl, Below.refl _ _⟩
  have HCL : Hid (l.length = 0 ∨ ∃ b off, a = some ⟨b, off, none⟩ ∧ ∀ i, i < l.length → w.cell? ⟨b, off + i, none⟩ = some (.string (l.getD i ByteArray.empty))) := hcl
  have HK0 : Hid ((76 :: (putB l.length).data.toList) = leavesK l 0) := by show _ = _; simp [leavesK]
  have HJ : Hid (∀ k, k < l.length → leavesK l (k + 1) = leavesK l k ++ leafB (l.getD k ByteArray.empty)) := fun k hk => leavesK_next l k hk
  have HLN : Hid (∀ k, k ≤ l.length → (∀ j, j < k → (l.getD j ByteArray.empty).size ≤ 4096) → (leavesK l k).length ≤ 11 + 4106 * k) := leavesK_length l (by omega)
  have HBAD : Hid (∀ k, k < l.length → 4096 < (l.getD k ByteArray.empty).size → leavesV l = .tuple #[.string ByteArray.empty, .int .i64 121]) := fun k hk h => by
    have e : leavesE l = 121 := by unfold leavesE; rw [if_neg hm, not_all hk h]; rfl
    unfold leavesV
    rw [e]; rfl
  have HGOOD : Hid ((∀ j, j < l.length → (l.getD j ByteArray.empty).size ≤ 4096) → leavesV l = .tuple #[.string ⟨(leavesK l l.length).toArray⟩, .int .i64 0]) := fun h => by
    have e : leavesE l = 0 := by unfold leavesE; rw [if_neg hm, all_of h]; rfl
    unfold leavesV
    rw [e, leavesK_all]; rfl
  obtain ⟨R, HRR⟩ : ∃ R, Hid (leavesV l = R) := ⟨_, rfl⟩
  obtain ⟨n, HN⟩ : ∃ n, Hid (l.length = n) := ⟨_, rfl⟩
  rw [HRR.out] at HBAD HGOOD ⊢
  rw [HN.out] at HCL HK0 HJ HLN HBAD HGOOD hm hcap ⊢
  have hm' : ¬ (1024 : Int) < n := by omega
  have FB : Hid (Lib.IsBuilder 66 5 w.heap.size w.heap.size (Lib.byteCells []) (w.alloc (.cells #[.pointer none, .slice none 0 0] 66))) := Lib.fresh_isBuilder 66 5 w
  have FW : Hid (Below w.heap.size w (w.alloc (.cells #[.pointer none, .slice none 0 0] 66))) := (Below.refl _ _).alloc (Nat.le_refl _) _
  have N1 : Hid (∀ W, Calls _ _ _ _ _) := fun W => numberC1 (n : Int) W (by omega) (by omega)
  have hps := (putB_size (n : Int) (by omega) (by omega)).2
  obtain ⟨Y, HY⟩ : ∃ Y, Hid (putB (n : Int) = Y) := ⟨_, rfl⟩
  rw [HY.out] at N1 HK0 hps
  have hsa : ((⟨#[76]⟩ : ByteArray) ++ Y).size ≤ 11 := by rw [ByteArray.size_append]; show 1 + Y.size ≤ 11; omega
  have HSA : Hid (((⟨#[76]⟩ : ByteArray) ++ Y).data.toList = leavesK l 0) := by show _ = _; rw [str_append, ← HK0.out]; rfl
  clear hcl
  obtain ⟨W, HW⟩ : ∃ W, W = w.alloc (.cells #[.pointer none, .slice none 0 0] 66) := ⟨_, rfl⟩
  rw [← HW] at FB FW
  go_enter Try.func10, Try.ntmps10
  go_upto_region 4 with fail
  rw [← HW]
  clear HW
  go_wp2_with (first | (go_at_call 33; refine (N1.out _).mono ?_; rintro _ w1 ⟨rfl, k1⟩; have I1 : Hid (Lib.IsBuilder 66 5 w.heap.size w.heap.size (Lib.byteCells []) w1) := isB_later FB.out k1; have D1 : Hid (Below w.heap.size w w1) := below2 FW.out k1 (Nat.le_refl _); clear k1) | (go_at_call 32; refine (bWS w.heap.size w.heap.size [] _ _ I1.out (by rw [List.length_nil, Nat.zero_add]; exact Nat.le_trans hsa (by omega)) D1.out.size).mono ?_; rintro _ w2 ⟨rfl, i2, k2⟩; rw [List.nil_append, HSA.out] at i2; have B2 : Hid (Lib.IsBuilder 66 5 w.heap.size w.heap.size (Lib.byteCells (leavesK l 0)) w2 ∧ Below w.heap.size w w2) := ⟨i2, D1.out.trans k2⟩; clear i2 k2))
  go_loopw [18] (fun i wr => ∃ (k : Nat), k ≤ n ∧ i = .int .i64 k ∧ Hid ((∀ j, j < k → (l.getD j ByteArray.empty).size ≤ 4096) ∧ Lib.IsBuilder 66 5 w.heap.size w.heap.size (Lib.byteCells (leavesK l k)) wr ∧ Below w.heap.size w wr)) (fun i _ => (n - intOf i).toNat)
  case atStart => exact ⟨0, by omega, rfl, fun j h => by omega, B2.out⟩
  case round =>
    clear FB FW I1 D1 B2 N1 HK0 HSA hsa hps
    obtain ⟨k, hk, rfl, HL⟩ := hrel
    have hbs := HL.out.2.2.size
    by_cases hlt : k < n
    · have hlt' : (k : Int) < n := by omega
      obtain ⟨b, off, rfl, hc⟩ : ∃ b off, a = some ⟨b, off, none⟩ ∧ ∀ i, i < n → w.cell? ⟨b, off + i, none⟩ = some (.string (l.getD i ByteArray.empty)) := by
        rcases HCL.out with h | h
        · omega
        · exact h
      have c1 : wr.cell? ⟨b, off + k, none⟩ = some (.string (l.getD k ByteArray.empty)) := (HL.out.2.2.cell (p := ⟨b, off + k, none⟩) (World.block_lt_of_cell? _ _ (hc k hlt))).trans (hc k hlt)
      have hl1 := HLN.out k (by omega) HL.out.1
      have HJ2 : Hid (_ = _) := HJ.out k hlt
      have HBD : Hid (_ → _) := HBAD.out k hlt
      clear hc
      obtain ⟨X, HXX⟩ : ∃ X, Hid (l.getD k ByteArray.empty = X) := ⟨_, rfl⟩
      rw [HXX.out] at c1 HJ2 HBD
      by_cases hbig : 4096 < X.size
      · have hbig' : (4096 : Int) < X.size := by omega
        have HE : Hid (R = _) := HBD.out hbig
        have HB : Hid (Below w.heap.size w wr) := HL.out.2.2
        clear HL
        go_wp2
        go_ret2
        exact ⟨ret_v HE.out.symm, HB.out⟩
      · have hbig' : ¬ (4096 : Int) < X.size := by omega
        have PV : Hid (∀ W, Calls _ _ _ _ _) := fun W => numberC1 (X.size : Int) W (by omega) (by omega)
        have hps := (putB_size (X.size : Int) (by omega) (by omega)).2
        have HF : Hid (leafB X = (putB X.size).data.toList ++ X.data.toList) := rfl
        have HX4 : Hid (∀ j, j < k + 1 → (l.getD j ByteArray.empty).size ≤ 4096) := fun j hj => by
          rcases Nat.lt_or_ge j k with h | h
          · exact HL.out.1 j h
          · obtain rfl : j = k := by omega
            rw [HXX.out]; omega
        have BL : Hid (∀ w2, Below wr.heap.size wr w2 → Lib.IsBuilder 66 5 w.heap.size w.heap.size (Lib.byteCells (leavesK l k)) w2 ∧ Below w.heap.size w w2 ∧ w.heap.size ≤ w2.heap.size) := fun w2 h2 => ⟨isB_later HL.out.2.1 h2, below2 HL.out.2.2 h2 (Nat.le_refl _), Nat.le_trans hbs h2.size⟩
        obtain ⟨Z, HZ⟩ : ∃ Z, Hid (putB (X.size : Int) = Z) := ⟨_, rfl⟩
        rw [HZ.out] at PV HF hps
        have hsz : (Z ++ X).size ≤ 4106 := by rw [ByteArray.size_append]; omega
        have hsl : Z.size + X.size ≤ 4106 := by omega
        have HSL : Hid ((Z ++ X).data.toList = leafB X) := by show _ = _; rw [str_append, HF.out]
        have WS : Hid (∀ w2, _ → _ → Calls _ _ _ _ _) := fun w2 h hB => bWS w.heap.size w.heap.size (leavesK l k) (Z ++ X) w2 h (by omega) hB
        rw [HSL.out, ← HJ2.out] at WS
        go_wp2_with (first | (go_at_call 33; refine (PV.out _).mono ?_; rintro _ w1 ⟨rfl, k1⟩; have B1 : Hid (_ ∧ _ ∧ _) := BL.out w1 k1; clear k1) | (go_at_call 32; refine (WS.out _ B1.out.1 B1.out.2.2).mono ?_; rintro _ w2 ⟨rfl, i2, k2⟩; have B2 : Hid (Lib.IsBuilder 66 5 w.heap.size w.heap.size (Lib.byteCells (leavesK l (k + 1))) w2 ∧ Below w.heap.size w w2) := ⟨i2, B1.out.2.1.trans k2⟩; clear i2 k2))
        go_roundw
        case rel => exact ⟨k + 1, by omega, by go_num, HX4.out, B2.out⟩
        case measure => simp [intOf]; omega
    · have hlt' : ¬ (k : Int) < n := by omega
      obtain rfl : k = n := by omega
      have CS : Hid (Calls _ _ _ _ _) := bS w.heap.size w.heap.size _ wr HL.out.2.1 hbs
      have HB : Hid (Below w.heap.size w wr) := HL.out.2.2
      have HE : Hid (R = _) := HGOOD.out HL.out.1
      clear HL
      go_wp2_with (go_at_call 34; refine CS.out.mono ?_; rintro _ w1 ⟨rfl, k1⟩; have B1 : Hid (Below w.heap.size w w1) := HB.out.trans k1; clear k1)
      go_ret2
      exact ⟨ret_v HE.out.symm, B1.out⟩
end Go.Proofs.Ytkgadgkomdjplaa.eg
