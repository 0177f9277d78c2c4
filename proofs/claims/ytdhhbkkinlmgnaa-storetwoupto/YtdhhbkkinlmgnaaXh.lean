import Derived.Test.YtdhhbkkinlmgnaaXg
namespace Go.Proofs.Ytdhhbkkinlmgnaa.xh
open Go.RowKit Go.PlainAid Go.Maps Go.Shelf
open Go.Proofs.Ytdhhbkkinlmgnaa.ca Go.Proofs.Ytdhhbkkinlmgnaa.cb Go.Proofs.Ytdhhbkkinlmgnaa.cp Go.Proofs.Ytdhhbkkinlmgnaa.kp Go.Proofs.Ytdhhbkkinlmgnaa.ka Go.Proofs.Ytdhhbkkinlmgnaa.ya Go.Proofs.Ytdhhbkkinlmgnaa.yb Go.Proofs.Ytdhhbkkinlmgnaa.yc Go.Proofs.Ytdhhbkkinlmgnaa.yd Go.Proofs.Ytdhhbkkinlmgnaa.ye Go.Proofs.Ytdhhbkkinlmgnaa.yf Go.Proofs.Ytdhhbkkinlmgnaa.yi Go.Proofs.Ytdhhbkkinlmgnaa.zf Go.Proofs.Ytdhhbkkinlmgnaa.zg Go.Proofs.Ytdhhbkkinlmgnaa.xa Go.Proofs.Ytdhhbkkinlmgnaa.xb Go.Proofs.Ytdhhbkkinlmgnaa.xc
set_option linter.unusedVariables false
set_option linter.unusedSimpArgs false
theorem keysL_next (pre : ByteArray) (r : List Rec) (j : Nat) (p : Rec) (h : r[j]? = some p) : keysL pre (r.take (j + 1)) = keysL pre (r.take j) ++ (if Lib.hasPrefix (bs p.1) (bs pre) then [p.1] else []) := by
  unfold keysL
  rw [List.take_add_one, h]
  simp only [Option.toList_some, List.filter_append, List.map_append]
  cases hb : Lib.hasPrefix (bs p.1) (bs pre) <;> simp [hb]
theorem keysL_len (pre : ByteArray) (r : List Rec) : (keysL pre r).length ≤ r.length := by
  unfold keysL
  rw [List.length_map]
  exact List.length_filter_le _ _
set_option maxRecDepth 40000 in
set_option maxHeartbeats 6400000 in
theorem keysD {B g : Nat} {dv wv vv : Value} {s : S} {w : World} (pre : ByteArray) (h : Ds B g dv wv vv s w) :
    Calls Try.prog 42 #[.pointer (some ⟨g, 0, none⟩), .string pre] w fun e w' => ∃ v, e = .returned v ∧ w'.ownsRow w.heap.size 9 1 v (keysS s pre).length ((keysS s pre).map Value.string) ∧ Below w.heap.size w w' := by
  have c3 := h.row.c3
  have H : Hid (Ds B g dv wv vv s w) := h
  unfold keysS
  cases ho : s.off with
  | true =>
    rw [ho] at c3
    simp only [if_true]
    clear h
    go_enter Try.func42, Try.ntmps42
    go_wp2
    go_ret
    exact ⟨_, rfl, World.ownsRow_nil _ _ _ _, Below.refl _ _⟩
  | false =>
    rw [ho] at c3
    simp only [Bool.false_eq_true, if_false]
    obtain ⟨va, vc, hvv⟩ := lr_form h.vl
    subst hvv
    have hln := h.ok.lnow
    obtain ⟨i9, hi, hz0, hz1, hz2⟩ := ka.info_parts ka.hi9
    have HIN : Hid (_ ∧ _ ∧ _ ∧ _) := ⟨hi, hz0, hz1, hz2⟩
    clear hi hz0 hz1 hz2
    have VC : Hid (∀ (j : Nat) (p : Rec), (now s)[j]? = some p → ∃ gv, va = some ⟨gv, 0, none⟩ ∧ ∀ wr, Below w.heap.size w wr → wr.cell? ⟨gv, j * 2, none⟩ = some (.string p.1)) := fun j p hp => by
      obtain ⟨gv, e, hg, q1, _⟩ := lr_at H.out.vl j p hp
      exact ⟨gv, e, fun wr b => (b.cell hg).trans q1⟩
    have C6 : Hid (∀ wr, Below w.heap.size w wr → wr.cell? ⟨g, 6, none⟩ = some (.slice va (now s).length vc)) := fun wr b => (H.out.later b).row.c6
    obtain ⟨N, HN⟩ : ∃ N, Hid (now s = N) := ⟨_, rfl⟩
    have c60 := C6.out w (Below.refl _ _)
    rw [HN.out] at VC C6 hln c60 ⊢
    obtain ⟨L, hL⟩ : ∃ L, N.length = L := ⟨_, rfl⟩
    have HLL : Hid _ := hL
    rw [hL] at C6 hln c60
    clear h hL
    go_enter Try.func42, Try.ntmps42
    go_wp2_with fail
    go_loopw [5, 6] (fun ov iv wr => ∃ j : Nat, j ≤ L ∧ iv = .int .i64 j ∧ Hid (wr.ownsRow w.heap.size 9 1 ov (keysL pre (N.take j)).length ((keysL pre (N.take j)).map Value.string) ∧ Below w.heap.size w wr)) (fun _ iv _ => (L - intOf iv).toNat)
    case atStart => exact ⟨0, Nat.zero_le _, rfl, World.ownsRow_nil _ _ _ _, Below.refl _ _⟩
    case round =>
      clear c60 c3
      obtain ⟨j, hj, rfl, HH⟩ := hrel
      obtain ⟨oa, oc, hov⟩ := own_formS HH.out.1
      subst hov
      have c6 := C6.out wr HH.out.2
      by_cases hlt : j < L
      · have hlt' : (j : Int) < L := by omega
        obtain ⟨p, hp⟩ : ∃ p, N[j]? = some p := ⟨_, List.getElem?_eq_getElem (by have := HLL.out; omega)⟩
        obtain ⟨gv, hva, hcx⟩ := VC.out j p hp
        have cp := hcx wr HH.out.2
        have hnx := keysL_next pre N j p hp
        have hkl := keysL_len pre (N.take j)
        have hkl2 : (N.take j).length ≤ j := by rw [List.length_take]; omega
        obtain ⟨K, HK⟩ : ∃ K, Hid (keysL pre (N.take j) = K) := ⟨_, rfl⟩
        rw [HK.out] at hnx HH hkl ⊢
        obtain ⟨pk, pd⟩ := p
        simp only at hnx cp
        obtain ⟨m, HM⟩ : ∃ m, Hid (K.length = m) := ⟨_, rfl⟩
        have hmb : m ≤ j := by have := HM.out; omega
        rw [HM.out] at HH ⊢
        subst hva
        by_cases hpx : pre.size ≤ pk.size ∧ (pk.extract 0 pre.size).toList = pre.toList
        · have q1 : decide ((pre.size : Int) ≤ (pk.size : Int)) = true := decide_eq_true (by omega)
          have q1' : decide (pre.size ≤ pk.size) = true := decide_eq_true hpx.1
          have q2 : ((pk.extract 0 pre.size).toList == pre.toList) = true := by rw [hpx.2]; simp
          have q3 : (pre.size : Int) ≤ (pk.size : Int) := by omega
          have hh : Lib.hasPrefix (bs pk) (bs pre) = true := by
            have e := Lib.hasPrefix_raw pk pre
            rw [q2] at e
            simp [hpx.1] at e
            exact e
          rw [hh, if_pos rfl] at hnx
          have HNX : Hid _ := hnx
          have A1 : Hid (World.ownsRow (wr.alloc (.cells #[.string pk] 9)) w.heap.size 9 1 (.slice oa m oc) m (K.map Value.string)) := HH.out.1.alloc _
          have hsz : w.heap.size ≤ wr.heap.size := HH.out.2.size
          have b1 : Hid (Below w.heap.size w (wr.alloc (.cells #[.string pk] 9))) := over HH.out.2 ((Below.refl _ wr).alloc (Nat.le_refl _) _)
          clear hpx hp hcx hnx hh
          go_wp2_with (first | (at_builtin; (refine wpList_append_own _ rfl _ _ 44 rfl w.heap.size 9 i9 (.string ByteArray.empty) 1 16 Try.underlying44 HIN.out.1 HIN.out.2.1 HIN.out.2.2.1 HIN.out.2.2.2 rfl (by decide) _ m _ rfl A1.out ⟨wr.heap.size, 0, none⟩ 1 1 [.string pk] rfl rfl (new_text _ _ _) (one_text _) (by unfold maxLen; omega) (by omega) (by simp; omega) ?_; intro v' w7 ho hg hnn; have HO3 : Hid (World.ownsRow _ _ _ _ _ _ _) := ho; have HG3 : Hid (World.grownBy _ _ _) := hg; clear ho hg hnn)) | go_in)
          go_roundw
          case rel =>
            refine ⟨j + 1, by omega, by go_num, ?_, ?_⟩
            · rw [HNX.out, List.length_append, List.map_append, HM.out]; exact HO3.out
            · exact below_grownBy b1.out HG3.out (Nat.le_refl _) (fun i hi => (A1.out.lt _ hi).1)
          case measure => simp [intOf]; omega
        · have hcs : (decide ((pre.size : Int) ≤ (pk.size : Int)) = false ∧ decide (pre.size ≤ pk.size) = false) ∨ (decide ((pre.size : Int) ≤ (pk.size : Int)) = true ∧ decide (pre.size ≤ pk.size) = true ∧ (pre.size : Int) ≤ (pk.size : Int) ∧ ((pk.extract 0 pre.size).toList == pre.toList) = false) := by
            by_cases q : pre.size ≤ pk.size
            · exact .inr ⟨decide_eq_true (by omega), decide_eq_true q, by omega, by rw [beq_eq_false_iff_ne]; exact fun e => hpx ⟨q, e⟩⟩
            · exact .inl ⟨decide_eq_false (by omega), decide_eq_false q⟩
          have hh : Lib.hasPrefix (bs pk) (bs pre) = false := by
            have e := Lib.hasPrefix_raw pk pre
            rcases hcs with ⟨_, q⟩ | ⟨_, _, _, q⟩
            · simp at q
              rw [show Lib.hasPrefix (bs pk) (bs pre) = _ from e.symm]; simp; omega
            · rw [q] at e
              simp at e
              exact e.symm ▸ rfl
          rw [hh, if_neg (by simp), List.append_nil] at hnx
          have HNX : Hid _ := hnx
          clear hpx hp hcx hnx hh
          rcases hcs with ⟨q1, q2⟩ | ⟨q1, q2, q3, q4⟩
          all_goals
            go_wp2
            go_roundw
            case rel => exact ⟨j + 1, by omega, by go_num, by rw [HNX.out, HM.out]; exact HH.out⟩
            case measure => simp [intOf]; omega
      · have hlt' : ¬ (j : Int) < L := by omega
        have HF : Hid (wr.ownsRow w.heap.size 9 1 (.slice oa (keysL pre (N.take j)).length oc) (keysL pre N).length ((keysL pre N).map Value.string) ∧ Below w.heap.size w wr) := by
          have h1 := HH.out
          have e : N.take j = N := List.take_of_length_le (by have := HLL.out; omega)
          rw [e] at h1 ⊢
          exact h1
        go_wp2
        go_ret
        exact ⟨_, rfl, HF.out⟩
end Go.Proofs.Ytdhhbkkinlmgnaa.xh
