import Derived.Test.YtglffbhcnafbnaaDoorKc
import Derived.Test.YtglffbhcnafbnaaDoorGa
import Derived.Test.YtglffbhcnafbnaaDoorCs
import Derived.Deep.AppendLies
import Derived.Laws.AppendOwnNone
import Derived.Lib.SliceRun
namespace Go.Proofs.YtglffbhcnafbnaaDoor.bf
open Go.RowKit Go.PlainAid
open Go.Proofs.YtglffbhcnafbnaaDoor.pl Go.Proofs.YtglffbhcnafbnaaDoor.pi Go.Proofs.YtglffbhcnafbnaaDoor.pj Go.Proofs.YtglffbhcnafbnaaDoor.rf Go.Proofs.YtglffbhcnafbnaaDoor.ca Go.Proofs.YtglffbhcnafbnaaDoor.cb Go.Proofs.YtglffbhcnafbnaaDoor.cp Go.Proofs.YtglffbhcnafbnaaDoor.ka Go.Proofs.YtglffbhcnafbnaaDoor.kb Go.Proofs.YtglffbhcnafbnaaDoor.kc
set_option linter.unusedVariables false

theorem foldP_on {α : Type} (E : α) (N : α → α → α) (xs : List α) (k : Nat) (hk : k + 1 < xs.length) : foldP E N (xs.drop k) = N (xs[k]'(by omega)) (foldP E N (xs.drop (k + 1))) := by
  rw [List.drop_eq_getElem_cons (show k < xs.length by omega), List.drop_eq_getElem_cons hk]
  rfl
theorem foldP_end {α : Type} (E : α) (N : α → α → α) (xs : List α) (k : Nat) (hk : k + 1 = xs.length) : foldP E N (xs.drop k) = xs[k]'(by omega) := by
  rw [List.drop_eq_getElem_cons (show k < xs.length by omega), List.drop_of_length_le (by omega)]
  rfl
set_option maxHeartbeats 1600000 in
theorem pFold (m : Int) (v : Value) (xs : List ByteArray) (w : World) (hT : Tab w) (hR : ReadsT w v xs) (hx : ∀ x ∈ xs, x.size ≤ 1048576) (hn : xs.length ≤ 1048577) :
    Calls Tryd.prog 66 #[.int .i64 m, v] w fun e w' => e = .returned (.string (foldP (EF m) (NF m) xs)) ∧ Below w.heap.size w w' := by
  have HX : Hid (∀ x ∈ xs, x.size ≤ 1048576) := hx
  have HT : Hid (Tab w) := hT
  have HRD : Hid (ReadsT w v xs) := hR
  obtain ⟨a, cap, rfl, hcap, hh⟩ := hR
  obtain ⟨n, HN⟩ : ∃ n, Hid (xs.length = n) := ⟨_, rfl⟩
  rw [HN.out] at hcap hh hn HRD ⊢
  have HH : Hid (n = 0 ∨ ∃ b off, a = some ⟨b, off, none⟩ ∧ ∀ i, i < n → w.cell? ⟨b, off + i, none⟩ = some (.string (xs.getD i ByteArray.empty))) := hh
  obtain ⟨R, HRR⟩ : ∃ R, Hid (foldP (EF m) (NF m) xs = R) := ⟨_, rfl⟩
  rw [HRR.out]
  clear hT hx hh
  by_cases h0 : n = 0
  · have EC : Hid (Calls _ _ _ _ _) := pEmpty m w HT.out
    have q0 : ((n : Int) == 0) = true := by rw [beq_iff_eq]; omega
    have HE : Hid (R = EF m) := by
      show _ = _
      have : xs = [] := List.length_eq_zero_iff.1 (HN.out.trans h0)
      rw [← HRR.out, this]
      rfl
    obtain ⟨X, HX0⟩ : ∃ X, Hid (EF m = X) := ⟨_, rfl⟩
    rw [HX0.out] at EC HE
    clear h0
    go_enter Tryd.func66, Tryd.ntmps66
    go_wp2_with fail
    refine EC.out.mono ?_
    rintro e w1 ⟨rfl, hb⟩
    have B1 : Hid (Below w.heap.size w w1) := hb
    clear hb
    go_wp2
    go_ret
    exact ⟨by rw [HE.out]; rfl, B1.out⟩
  · obtain ⟨b, off, rfl, hh⟩ : ∃ b off, a = some ⟨b, off, none⟩ ∧ ∀ i, i < n → w.cell? ⟨b, off + i, none⟩ = some (.string (xs.getD i ByteArray.empty)) := by
      rcases HH.out with h | h
      · exact absurd h h0
      · exact h
    have HCC : Hid (∀ i, i < n → w.cell? ⟨b, off + i, none⟩ = some (.string (xs.getD i ByteArray.empty))) := hh
    have q0 : ((n : Int) == 0) = false := by rw [beq_eq_false_iff_ne]; omega
    have c0 := hh (n - 1) (by omega)
    obtain ⟨L0, HL0⟩ : ∃ x, Hid (xs.getD (n - 1) ByteArray.empty = x) := ⟨_, rfl⟩
    rw [HL0.out] at c0
    have HS0 : Hid (foldP (EF m) (NF m) (xs.drop (n - 1)) = L0 ∧ L0.size ≤ 1048576) := by
      have hlt : n - 1 < xs.length := by rw [HN.out]; omega
      rw [foldP_end _ _ xs (n - 1) (by rw [HN.out]; omega), ← HL0.out, List.getD_eq_getElem?_getD, List.getElem?_eq_getElem hlt]
      exact ⟨rfl, HX.out _ (List.getElem_mem hlt)⟩
    obtain ⟨d, HD⟩ : ∃ d, Hid (n = d + 1) := ⟨n - 1, by show _ = _; omega⟩
    have hd1 : ((n : Int) - 1) = (d : Int) := by have := HD.out; omega
    have hdn : (d : Int) < n := by omega
    have hd0 : (0 : Int) ≤ (d : Int) := by omega
    rw [show n - 1 = d by have := HD.out; omega] at c0 HS0
    clear hh HH h0
    go_enter Tryd.func66, Tryd.ntmps66
    go_wp2
    go_loopw [6, 21] (fun h i wr => ∃ (k : Nat) (H : ByteArray), k ≤ d ∧ i = .int .i64 k ∧ h = .string H ∧ Hid (foldP (EF m) (NF m) (xs.drop (d - k)) = H ∧ H.size ≤ 1048576 ∧ Below w.heap.size w wr)) (fun _ i _ => (d - intOf i).toNat)
    case atStart => exact ⟨0, L0, by omega, rfl, rfl, HS0.out.1, HS0.out.2, Below.refl _ _⟩
    case round =>
      clear c0
      obtain ⟨k, H, hk, rfl, rfl, HL⟩ := hrel
      by_cases hlt : k < d
      · have hlt' : (k : Int) < d := by omega
        obtain ⟨j, HJ⟩ : ∃ j, Hid (d - 1 - k = j) := ⟨_, rfl⟩
        have hj : ((d : Int) - 1 - (k : Int)) = (j : Int) := by have := HJ.out; omega
        have hj0 : (0 : Int) ≤ (j : Int) := by omega
        have hjn : (j : Int) < n := by have := HJ.out; omega
        have hjx : j < xs.length := by rw [HN.out]; omega
        obtain ⟨x, HXK⟩ : ∃ x, Hid (xs.getD j ByteArray.empty = x) := ⟨_, rfl⟩
        have c1' := HCC.out j (by omega)
        rw [HXK.out] at c1'
        have c1 : wr.cell? ⟨b, off + j, none⟩ = some (.string x) := (HL.out.2.2.cell (p := ⟨b, off + j, none⟩) (World.block_lt_of_cell? _ _ c1')).trans c1'
        have HXE : Hid (x = xs[j]'hjx) := by show _ = _; rw [← HXK.out, List.getD_eq_getElem?_getD, List.getElem?_eq_getElem hjx]; rfl
        have hxs : x.size ≤ 1048576 := by rw [HXE.out]; exact HX.out _ (List.getElem_mem hjx)
        have hHs := HL.out.2.1
        have NC : Hid (∀ w', Tab w' → Calls _ _ _ _ _) := fun w' h => pNode m x H (by omega) w' h
        have HF : Hid (foldP (EF m) (NF m) (xs.drop j) = NF m x H) := by
          show _ = _
          have hd' : foldP (EF m) (NF m) (xs.drop (j + 1)) = H := by rw [show j + 1 = d - k by have := HJ.out; omega]; exact HL.out.1
          rw [foldP_on _ _ xs j (by rw [HN.out]; omega), hd', HXE.out]
        have HFS : Hid ((NF m x H).size ≤ 1048576) := by show _ ≤ _; rw [show (NF m x H).size = wid m from cutS_size _ _]; have := wid_le m; omega
        have TW : Hid (Tab wr) := HT.out.down HL.out.2.2
        obtain ⟨Q, HQ⟩ : ∃ Q, Hid (NF m x H = Q) := ⟨_, rfl⟩
        rw [HQ.out] at NC HF HFS
        clear c1' hxs hHs
        go_wp2_with fail
        refine (NC.out _ TW.out).mono ?_
        rintro e w1 ⟨rfl, hb⟩
        have B1 : Hid (Below w.heap.size w w1) := over HL.out.2.2 hb
        clear hb
        go_wp2
        go_roundw
        case rel => exact ⟨k + 1, Q, by omega, by go_num, rfl, by rw [show d - (k + 1) = j by have := HJ.out; omega]; exact HF.out, HFS.out, B1.out⟩
        case measure => simp [intOf]; omega
      · have hlt' : ¬ (k : Int) < d := by omega
        have HE : Hid (R = H) := by
          have h := HL.out.1
          rw [show d - k = 0 by omega, List.drop_zero, HRR.out] at h
          exact h
        go_wp2
        go_ret
        exact ⟨by rw [HE.out]; rfl, HL.out.2.2⟩
theorem hi9s : (Tryd.prog.info? 9).map (fun i => (i.zero, i.size, i.bytes)) = some (some (.string ByteArray.empty), 1, 16) := by kernel_rfl
theorem one_strs (hs : List ByteArray) : ∀ u ∈ hs.map Value.string, u.oneCell' = true := by
  intro u hu
  obtain ⟨x, _, rfl⟩ := List.mem_map.1 hu
  rfl
set_option maxRecDepth 100000 in
set_option maxHeartbeats 800000 in
theorem clone (u : Value) (hs : List ByteArray) (w : World) (hR : ReadsT w u hs) (hn : hs.length ≤ 1048576) :
    Calls Tryd.prog 43 #[u] w fun e w' => (∃ a l c, e = .returned (.slice a l c) ∧ w'.ownsRow w.heap.size 9 1 (.slice a l c) hs.length (hs.map Value.string)) ∧ Below w.heap.size w w' := by
  obtain ⟨i9, hi, hz0, hz1, hz2⟩ := info_parts hi9s
  have HIN : Hid (_ ∧ _ ∧ _ ∧ _) := ⟨hi, hz0, hz1, hz2⟩
  obtain ⟨a, cap, rfl, hcap, hh⟩ := hR
  have HH : Hid (hs.length = 0 ∨ ∃ b off, a = some ⟨b, off, none⟩ ∧ ∀ i, i < hs.length → w.cell? ⟨b, off + i, none⟩ = some (.string (hs.getD i ByteArray.empty))) := hh
  obtain ⟨n, HN⟩ : ∃ n, Hid (hs.length = n) := ⟨_, rfl⟩
  clear hh hi hz0 hz1 hz2
  cases a with
  | none =>
    have h0 : hs = [] := by
      rcases HH.out with h | ⟨b, off, e, _⟩
      · exact List.length_eq_zero_iff.1 h
      · cases e
    subst h0
    simp only [List.length_nil] at hcap ⊢
    have q := fun w => Lib.run_eql_slice_nil (P := Tryd.prog) w 28 9 none 0 cap 0 0 Tryd.underlying28
    clear HH HN hn hcap
    go_enter Tryd.func43, Tryd.ntmps43
    go_wp2
    go_ret
    exact ⟨⟨_, _, _, rfl, World.ownsRow_nil _ _ _ _⟩, Below.refl _ _⟩
  | some ad =>
    have q := fun w n => Lib.run_eql_slice_nil (P := Tryd.prog) w 28 9 (some ad) n cap 0 0 Tryd.underlying28
    have NX : Hid (∀ (W : World), Below w.heap.size w W → ∀ (j : Nat) (u : Value), (hs.map Value.string)[j]? = some u → W.cell? (ad.add j) = some u) := by
      intro W hW j u hu
      rw [List.getElem?_map] at hu
      obtain ⟨x, hx, rfl⟩ := Option.map_eq_some_iff.1 hu
      have hj := (List.getElem?_eq_some_iff.1 hx).1
      rcases HH.out with h | ⟨b, off, e, hc⟩
      · omega
      · have e := Option.some.inj e
        subst e
        have c1 := hc j hj
        rw [List.getD_eq_getElem?_getD, hx] at c1
        rw [show (Addr.add ⟨b, off, none⟩ j) = ⟨b, off + j, none⟩ by cases j <;> simp [Addr.add]]
        exact (hW.cell (World.block_lt_of_cell? _ _ c1)).trans c1
    have B1 : Hid (Below w.heap.size w (w.alloc (.cells #[] 9))) := (Below.refl _ _).alloc (Nat.le_refl _) _
    have OX : Hid ((w.alloc (.cells #[] 9)).ownsRow w.heap.size 9 1 (.slice (some ⟨w.heap.size, 0, none⟩) 0 0) 0 []) := World.ownsRow_made w #[] 0 (Nat.le_refl _) (by unfold maxLen; omega) (by simp)
    have SZ : Hid (w.heap.size ≤ (w.alloc (.cells #[] 9)).heap.size) := B1.out.size
    rw [HN.out] at hn ⊢
    clear hcap HH
    go_enter Tryd.func43, Tryd.ntmps43
    go_wp2_with (at_builtin; refine wpList_append_own _ rfl _ _ 28 rfl w.heap.size 9 i9 (.string ByteArray.empty) 1 16 Tryd.underlying28 HIN.out.1 HIN.out.2.1 HIN.out.2.2.1 HIN.out.2.2.2 rfl (by decide) _ 0 _ rfl OX.out ad n cap (hs.map Value.string) rfl (by rw [List.length_map, HN.out]; omega) (NX.out _ B1.out) (one_strs _) (by unfold maxLen; omega) (by omega) SZ.out ?_; intro p' w5 ho hg hnn; have HO5 : Hid (w5.ownsRow w.heap.size 9 1 p' (0 + n) ([] ++ hs.map Value.string)) := ho; have HB5 : Hid (Below w.heap.size w w5) := Below.grown B1.out hg SZ.out (fun jj hj => (OX.out.lt _ hj).1); clear ho hg hnn)
    go_ret
    have HO6 : w5.ownsRow w.heap.size 9 1 p' n (hs.map Value.string) := by have := HO5.out; rw [Nat.zero_add, List.nil_append] at this; exact this
    obtain ⟨pa, pc, rfl⟩ := own_formS HO6
    exact ⟨⟨_, _, _, rfl, HO6⟩, HB5.out⟩
end Go.Proofs.YtglffbhcnafbnaaDoor.bf
