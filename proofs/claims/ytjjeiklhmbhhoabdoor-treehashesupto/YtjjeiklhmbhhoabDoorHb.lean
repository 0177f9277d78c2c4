import Derived.Test.YtjjeiklhmbhhoabDoorHa
namespace Go.Proofs.YtjjeiklhmbhhoabDoor.hb
open Go.RowKit Go.PlainAid
open Go.Proofs.YtjjeiklhmbhhoabDoor.ca Go.Proofs.YtjjeiklhmbhhoabDoor.cb Go.Proofs.YtjjeiklhmbhhoabDoor.cp Go.Proofs.YtjjeiklhmbhhoabDoor.da Go.Proofs.YtjjeiklhmbhhoabDoor.db Go.Proofs.YtjjeiklhmbhhoabDoor.de
set_option linter.unusedVariables false

set_option maxHeartbeats 1600000 in
theorem foldC {T : World → Prop} {E : Int → ByteArray} {N : Int → ByteArray → ByteArray → ByteArray} (HC : HashC T E N) : FoldC T E N := by
  intro m v xs w hm hT hR hx hn
  have HHC : Hid (HashC T E N) := HC
  have HX : Hid (∀ x ∈ xs, x.size ≤ 140737488351232) := hx
  have HT : Hid (T w) := hT
  have HM : Hid (i64 m) := hm
  have HRD : Hid (ReadsT w v xs) := hR
  obtain ⟨a, cap, rfl, hcap, hh⟩ := hR
  obtain ⟨n, HN⟩ : ∃ n, Hid (xs.length = n) := ⟨_, rfl⟩
  rw [HN.out] at hcap hh hn HRD ⊢
  have HH : Hid (n = 0 ∨ ∃ b off, a = some ⟨b, off, none⟩ ∧ ∀ i, i < n → w.cell? ⟨b, off + i, none⟩ = some (.string (xs.getD i ByteArray.empty))) := hh
  obtain ⟨R, HRR⟩ : ∃ R, Hid (foldP (E m) (N m) xs = R) := ⟨_, rfl⟩
  rw [HRR.out]
  clear hT hx hh HC hm
  by_cases h0 : n = 0
  · have EC : Hid (Calls _ _ _ _ _) := HHC.out.empty m HM.out w HT.out
    have q0 : ((n : Int) == 0) = true := by rw [beq_iff_eq]; omega
    have HE : Hid (R = E m) := by
      show _ = _
      have : xs = [] := List.length_eq_zero_iff.1 (HN.out.trans h0)
      rw [← HRR.out, this]
      rfl
    obtain ⟨X, HX0⟩ : ∃ X, Hid (E m = X) := ⟨_, rfl⟩
    rw [HX0.out] at EC HE
    clear h0
    go_enter Tryd.func10, Tryd.ntmps10
    go_wp2_with fail
    refine EC.out.mono ?_
    rintro e w1 ⟨rfl, hb⟩
    have B1 : Hid (Below w.heap.size w w1) := hb
    clear hb
    go_wp2
    go_ret
    exact ⟨by rw [HE.out]; rfl, B1.out⟩
  · obtain ⟨b, off, rfl, hh⟩ : ∃ b off, a = some ⟨b, off, none⟩ ∧ ∀ i, i < n → w.cell? ⟨b, off + i, none⟩ = some (.string (xs.getD i ByteArray.empty)) := by
      rcases HH.out with h | h
      · exact absurd h h0
      · exact h
    have HCC : Hid (∀ i, i < n → w.cell? ⟨b, off + i, none⟩ = some (.string (xs.getD i ByteArray.empty))) := hh
    have q0 : ((n : Int) == 0) = false := by rw [beq_eq_false_iff_ne]; omega
    have c0 := hh (n - 1) (by omega)
    obtain ⟨L0, HL0⟩ : ∃ x, Hid (xs.getD (n - 1) ByteArray.empty = x) := ⟨_, rfl⟩
    rw [HL0.out] at c0
    have HS0 : Hid (foldP (E m) (N m) (xs.drop (n - 1)) = L0 ∧ L0.size ≤ 140737488351232) := by
      have hlt : n - 1 < xs.length := by rw [HN.out]; omega
      rw [foldP_last _ _ xs (n - 1) (by rw [HN.out]; omega), ← HL0.out, List.getD_eq_getElem?_getD, List.getElem?_eq_getElem hlt]
      exact ⟨rfl, HX.out _ (List.getElem_mem hlt)⟩
    obtain ⟨d, HD⟩ : ∃ d, Hid (n = d + 1) := ⟨n - 1, by show _ = _; omega⟩
    have hd1 : ((n : Int) - 1) = (d : Int) := by have := HD.out; omega
    have hdn : (d : Int) < n := by omega
    have hd0 : (0 : Int) ≤ (d : Int) := by omega
    rw [show n - 1 = d by have := HD.out; omega] at c0 HS0
    clear hh HH h0
    go_enter Tryd.func10, Tryd.ntmps10
    go_wp2
    go_loopw [6, 21] (fun h i wr => ∃ (k : Nat) (H : ByteArray), k ≤ d ∧ i = .int .i64 k ∧ h = .string H ∧ Hid (foldP (E m) (N m) (xs.drop (d - k)) = H ∧ H.size ≤ 140737488351232 ∧ Below w.heap.size w wr)) (fun _ i _ => (d - intOf i).toNat)
    case atStart => exact ⟨0, L0, by omega, rfl, rfl, HS0.out.1, HS0.out.2, Below.refl _ _⟩
    case round =>
      clear c0
      obtain ⟨k, H, hk, rfl, rfl, HL⟩ := hrel
      by_cases hlt : k < d
      · have hlt' : (k : Int) < d := by omega
        obtain ⟨j, HJ⟩ : ∃ j, Hid (d - 1 - k = j) := ⟨_, rfl⟩
        have hj : ((d : Int) - 1 - (k : Int)) = (j : Int) := by have := HJ.out; omega
        have hj0 : (0 : Int) ≤ (j : Int) := by omega
        have hjn : (j : Int) < n := by have := HJ.out; omega
        have hjx : j < xs.length := by rw [HN.out]; omega
        obtain ⟨x, HXK⟩ : ∃ x, Hid (xs.getD j ByteArray.empty = x) := ⟨_, rfl⟩
        have c1' := HCC.out j (by omega)
        rw [HXK.out] at c1'
        have c1 : wr.cell? ⟨b, off + j, none⟩ = some (.string x) := (HL.out.2.2.cell (p := ⟨b, off + j, none⟩) (World.block_lt_of_cell? _ _ c1')).trans c1'
        have HXE : Hid (x = xs[j]'hjx) := by show _ = _; rw [← HXK.out, List.getD_eq_getElem?_getD, List.getElem?_eq_getElem hjx]; rfl
        have hxs : x.size ≤ 140737488351232 := by rw [HXE.out]; exact HX.out _ (List.getElem_mem hjx)
        have hHs := HL.out.2.1
        have NC : Hid (∀ w', T w' → Calls _ _ _ _ _) := fun w' h => HHC.out.node m x H HM.out hxs hHs w' h
        have HF : Hid (foldP (E m) (N m) (xs.drop j) = N m x H) := by
          show _ = _
          have hd' : foldP (E m) (N m) (xs.drop (j + 1)) = H := by rw [show j + 1 = d - k by have := HJ.out; omega]; exact HL.out.1
          rw [foldP_snoc _ _ xs j (by rw [HN.out]; omega), hd', HXE.out]
        have HFS : Hid ((N m x H).size ≤ 140737488351232) := by show _ ≤ _; rw [HHC.out.size]; have := HHC.out.width m; omega
        have TW : Hid (T wr) := HHC.out.later HT.out HL.out.2.2
        obtain ⟨Q, HQ⟩ : ∃ Q, Hid (N m x H = Q) := ⟨_, rfl⟩
        rw [HQ.out] at NC HF HFS
        clear c1' hxs hHs
        go_wp2_with fail
        refine (NC.out _ TW.out).mono ?_
        rintro e w1 ⟨rfl, hb⟩
        have B1 : Hid (Below w.heap.size w w1) := over HL.out.2.2 hb
        clear hb
        go_wp2
        go_roundw
        case rel => exact ⟨k + 1, Q, by omega, by go_num, rfl, by rw [show d - (k + 1) = j by have := HJ.out; omega]; exact HF.out, HFS.out, B1.out⟩
        case measure => simp [intOf]; omega
      · have hlt' : ¬ (k : Int) < d := by omega
        have HE : Hid (R = H) := by
          have h := HL.out.1
          rw [show d - k = 0 by omega, List.drop_zero, HRR.out] at h
          exact h
        go_wp2
        go_ret
        exact ⟨by rw [HE.out]; rfl, HL.out.2.2⟩
end Go.Proofs.YtjjeiklhmbhhoabDoor.hb
