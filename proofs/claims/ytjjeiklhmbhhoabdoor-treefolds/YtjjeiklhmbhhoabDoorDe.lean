import Derived.Test.YtjjeiklhmbhhoabDoorRf
import Derived.Test.YtjjeiklhmbhhoabDoorDb
namespace Go.Proofs.YtjjeiklhmbhhoabDoor.de
open Go.RowKit Go.PlainAid
open Go.Proofs.YtjjeiklhmbhhoabDoor.pl Go.Proofs.YtjjeiklhmbhhoabDoor.pi Go.Proofs.YtjjeiklhmbhhoabDoor.pj Go.Proofs.YtjjeiklhmbhhoabDoor.rf
open Go.Proofs.YtjjeiklhmbhhoabDoor.ca Go.Proofs.YtjjeiklhmbhhoabDoor.cb Go.Proofs.YtjjeiklhmbhhoabDoor.cp Go.Proofs.YtjjeiklhmbhhoabDoor.da Go.Proofs.YtjjeiklhmbhhoabDoor.db
set_option linter.unusedVariables false

theorem cut_of (x s : ByteArray) (m : Int) (w : World) (hx : x.size = 32) (hsum : Calls Tryd.prog 31 #[.string s] w fun e w' => e = .returned (.string x) ∧ Below w.heap.size w w') :
    Calls Tryd.prog 25 #[.string s, .int .i64 m] w fun e w' => e = .returned (.string (x.extract 0 (wid m))) ∧ Below w.heap.size w w' := by
  have HSUM : Hid (Calls _ _ _ _ _) := hsum
  clear hsum
  by_cases h1 : m < 1
  · have d1 : decide (m < 1) = true := decide_eq_true h1
    rw [show wid m = 32 by unfold wid; rw [if_pos (.inl h1)]]
    clear h1
    go_enter Tryd.func25, Tryd.ntmps25
    go_wp2_with fail
    refine HSUM.out.mono ?_
    rintro e w1 ⟨rfl, hb1⟩
    have HB1 : Hid (Below _ _ _) := hb1
    clear hb1
    go_wp2
    go_ret
    exact ⟨rfl, HB1.out⟩

  · have d1 : decide (m < 1) = false := decide_eq_false h1
    by_cases h2 : 32 < m
    · have d2 : decide (32 < m) = true := decide_eq_true h2
      rw [show wid m = 32 by unfold wid; rw [if_pos (.inr h2)]]
      clear h1 h2
      go_enter Tryd.func25, Tryd.ntmps25
      go_wp2_with fail
      refine HSUM.out.mono ?_
      rintro e w1 ⟨rfl, hb1⟩
      have HB1 : Hid (Below _ _ _) := hb1
      clear hb1
      go_wp2
      go_ret
      exact ⟨rfl, HB1.out⟩

    · have d2 : decide (32 < m) = false := decide_eq_false h2
      obtain ⟨k, rfl⟩ := Int.eq_ofNat_of_zero_le (show 0 ≤ m by omega)
      have hky : k ≤ 32 := by omega
      have hkz : (k : Int) ≤ 32 := by omega
      rw [show wid (k : Int) = k by unfold wid; rw [if_neg (fun h => h.elim h1 h2)]; omega]
      clear h1 h2
      go_enter Tryd.func25, Tryd.ntmps25
      go_wp2_with fail
      refine HSUM.out.mono ?_
      rintro e w1 ⟨rfl, hb1⟩
      have HB1 : Hid (Below _ _ _) := hb1
      clear hb1
      go_wp2
      go_ret
      exact ⟨rfl, HB1.out⟩


theorem width (m : Int) (w : World) : Calls Tryd.prog 28 #[.int .i64 m] w fun e w' => e = .returned (.int .i64 (wid m)) ∧ w' = w := by
  by_cases h1 : m < 1
  · have d1 : decide (m < 1) = true := decide_eq_true h1
    rw [show wid m = 32 by unfold wid; rw [if_pos (.inl h1)]]
    clear h1
    go_enter Tryd.func28, Tryd.ntmps28
    go_wp2
    go_ret
    exact ⟨rfl, rfl⟩
  · have d1 : decide (m < 1) = false := decide_eq_false h1
    by_cases h2 : 32 < m
    · have d2 : decide (32 < m) = true := decide_eq_true h2
      rw [show wid m = 32 by unfold wid; rw [if_pos (.inr h2)]]
      clear h1 h2
      go_enter Tryd.func28, Tryd.ntmps28
      go_wp2
      go_ret
      exact ⟨rfl, rfl⟩
    · have d2 : decide (32 < m) = false := decide_eq_false h2
      obtain ⟨k, rfl⟩ := Int.eq_ofNat_of_zero_le (show 0 ≤ m by omega)
      rw [show wid (k : Int) = k by unfold wid; rw [if_neg (fun h => h.elim h1 h2)]; omega]
      clear h1 h2
      go_enter Tryd.func28, Tryd.ntmps28
      go_wp2
      go_ret
      exact ⟨rfl, rfl⟩

theorem rcut_of (x s : ByteArray) (m : Int) (w : World) (hx : x.size = 32) (hsum : Calls Tryd.prog 27 #[.string s] w fun e w' => e = .returned (.string x) ∧ Below w.heap.size w w') :
    Calls Tryd.prog 21 #[.string s, .int .i64 m] w fun e w' => e = .returned (.string (x.extract 0 (wid m))) ∧ Below w.heap.size w w' := by
  have HSUM : Hid (Calls _ _ _ _ _) := hsum
  have hw := wid_le m
  have W : Hid (∀ w', Calls _ _ _ _ _) := width m
  clear hsum
  generalize wid m = k at *
  have hk : (k : Int) ≤ 32 := by omega
  go_enter Tryd.func21, Tryd.ntmps21
  go_wp2_with fail
  refine HSUM.out.mono ?_
  rintro e w1 ⟨rfl, hb1⟩
  have HB1 : Hid (Below _ _ _) := hb1
  clear hb1
  go_wp2_with fail
  refine (W.out _).mono ?_
  rintro e w2 ⟨rfl, rfl⟩
  go_wp2
  go_ret
  exact ⟨rfl, HB1.out⟩


theorem shaCut (s : ByteArray) (m : Int) (w : World) (hs : s.size ≤ 140737488352256) (T : Tab4 w) :
    Calls Tryd.prog 25 #[.string s, .int .i64 m] w fun e w' => e = .returned (.string ((sha s).extract 0 (wid m))) ∧ Below w.heap.size w w' :=
  cut_of (sha s) s m w (sha_size s) (Sum s w (by omega) T.t)
theorem rCut (s : ByteArray) (m : Int) (w : World) (hs : s.size ≤ 140737488352256) (T : Tab4 w) :
    Calls Tryd.prog 21 #[.string s, .int .i64 m] w fun e w' => e = .returned (.string ((sha s).extract 0 (wid m))) ∧ Below w.heap.size w w' :=
  rcut_of (sha s) s m w (sha_size s) (RSum s w hs T)
def cutS (s : ByteArray) (m : Int) : ByteArray := (sha s).extract 0 (wid m)
def EF (m : Int) : ByteArray := cutS ByteArray.empty m
def LF (m : Int) (d : ByteArray) : ByteArray := cutS ((⟨#[0]⟩ : ByteArray) ++ d) m
def NF (m : Int) (l r : ByteArray) : ByteArray := cutS ((⟨#[1]⟩ : ByteArray) ++ l ++ r) m
theorem cutS_size (s : ByteArray) (m : Int) : (cutS s m).size = wid m := by
  unfold cutS
  rw [ByteArray.size_extract, sha_size]
  have := wid_le m
  omega
theorem sz0 : (⟨#[0]⟩ : ByteArray).size = 1 := rfl
theorem sz1 : (⟨#[1]⟩ : ByteArray).size = 1 := rfl
theorem rEmpty (m : Int) (w : World) (T : Tab4 w) : Calls Tryd.prog 12 #[.int .i64 m] w fun e w' => e = .returned (.string (EF m)) ∧ Below w.heap.size w w' := by
  have C : Hid (Calls _ _ _ _ _) := rCut ByteArray.empty m w (by decide) T
  have HE : Hid ((sha ByteArray.empty).extract 0 (wid m) = EF m) := rfl
  rw [HE.out] at C
  clear T HE
  go_enter Tryd.func12, Tryd.ntmps12
  go_wp2_with fail
  refine C.out.mono ?_
  rintro e w1 ⟨rfl, hb⟩
  have B1 : Hid (Below w.heap.size w w1) := hb
  clear hb
  go_wp2
  go_ret
  exact ⟨rfl, B1.out⟩
theorem rLeaf (m : Int) (d : ByteArray) (hd : d.size ≤ 140737488351232) (w : World) (T : Tab4 w) : Calls Tryd.prog 14 #[.int .i64 m, .string d] w fun e w' => e = .returned (.string (LF m d)) ∧ Below w.heap.size w w' := by
  have C : Hid (Calls _ _ _ _ _) := rCut ((⟨#[0]⟩ : ByteArray) ++ d) m w (by rw [ByteArray.size_append, sz0]; omega) T
  have HE : Hid ((sha ((⟨#[0]⟩ : ByteArray) ++ d)).extract 0 (wid m) = LF m d) := rfl
  rw [HE.out] at C
  have h0 := sz0
  clear T HE
  go_enter Tryd.func14, Tryd.ntmps14
  go_wp2_with fail
  refine C.out.mono ?_
  rintro e w1 ⟨rfl, hb⟩
  have B1 : Hid (Below w.heap.size w w1) := hb
  clear hb
  go_wp2
  go_ret
  exact ⟨rfl, B1.out⟩
theorem rNode (m : Int) (l r : ByteArray) (hd : l.size + r.size ≤ 140737488351232) (w : World) (T : Tab4 w) : Calls Tryd.prog 16 #[.int .i64 m, .string l, .string r] w fun e w' => e = .returned (.string (NF m l r)) ∧ Below w.heap.size w w' := by
  have hz : ((⟨#[1]⟩ : ByteArray) ++ l).size = 1 + l.size := by rw [ByteArray.size_append, sz1]
  have C : Hid (Calls _ _ _ _ _) := rCut ((⟨#[1]⟩ : ByteArray) ++ l ++ r) m w (by rw [ByteArray.size_append, hz]; omega) T
  have HE : Hid ((sha ((⟨#[1]⟩ : ByteArray) ++ l ++ r)).extract 0 (wid m) = NF m l r) := rfl
  rw [HE.out] at C
  have h0 := sz1
  clear T HE
  go_enter Tryd.func16, Tryd.ntmps16
  go_wp2_with fail
  refine C.out.mono ?_
  rintro e w1 ⟨rfl, hb⟩
  have B1 : Hid (Below w.heap.size w w1) := hb
  clear hb
  go_wp2
  go_ret
  exact ⟨rfl, B1.out⟩
-- the document's Fold
theorem foldP_snoc {α : Type} (E : α) (N : α → α → α) (xs : List α) (k : Nat) (hk : k + 1 < xs.length) : foldP E N (xs.drop k) = N (xs[k]'(by omega)) (foldP E N (xs.drop (k + 1))) := by
  rw [List.drop_eq_getElem_cons (show k < xs.length by omega), List.drop_eq_getElem_cons hk]
  rfl
theorem foldP_last {α : Type} (E : α) (N : α → α → α) (xs : List α) (k : Nat) (hk : k + 1 = xs.length) : foldP E N (xs.drop k) = xs[k]'(by omega) := by
  rw [List.drop_eq_getElem_cons (show k < xs.length by omega), List.drop_of_length_le (by omega)]
  rfl
set_option maxHeartbeats 1600000 in
theorem rFold (m : Int) (v : Value) (xs : List ByteArray) (w : World) (T : Tab4 w) (hR : ReadsT w v xs) (hx : ∀ x ∈ xs, x.size ≤ 1048576) (hn : xs.length ≤ 1048577) :
    Calls Tryd.prog 17 #[.int .i64 m, v] w fun e w' => e = .returned (.string (foldP (EF m) (NF m) xs)) ∧ Below w.heap.size w w' := by
  have HX : Hid (∀ x ∈ xs, x.size ≤ 1048576) := hx
  have HT : Hid (Tab4 w) := T
  have HRD : Hid (ReadsT w v xs) := hR
  obtain ⟨a, cap, rfl, hcap, hh⟩ := hR
  obtain ⟨n, HN⟩ : ∃ n, Hid (xs.length = n) := ⟨_, rfl⟩
  rw [HN.out] at hcap hh hn HRD ⊢
  have HH : Hid (n = 0 ∨ ∃ b off, a = some ⟨b, off, none⟩ ∧ ∀ i, i < n → w.cell? ⟨b, off + i, none⟩ = some (.string (xs.getD i ByteArray.empty))) := hh
  obtain ⟨R, HRR⟩ : ∃ R, Hid (foldP (EF m) (NF m) xs = R) := ⟨_, rfl⟩
  rw [HRR.out]
  clear T hx hh
  by_cases h0 : n = 0
  · have EC : Hid (Calls _ _ _ _ _) := rEmpty m w HT.out
    have q0 : ((n : Int) == 0) = true := by rw [beq_iff_eq]; omega
    have HE : Hid (R = EF m) := by
      show _ = _
      have : xs = [] := List.length_eq_zero_iff.1 (HN.out.trans h0)
      rw [← HRR.out, this]
      rfl
    clear h0
    go_enter Tryd.func17, Tryd.ntmps17
    go_wp2_with fail
    refine EC.out.mono ?_
    rintro e w1 ⟨rfl, hb⟩
    have B1 : Hid (Below w.heap.size w w1) := hb
    clear hb
    go_wp2
    go_ret
    exact ⟨by rw [HE.out]; rfl, B1.out⟩
  · obtain ⟨b, off, rfl, hh⟩ : ∃ b off, a = some ⟨b, off, none⟩ ∧ ∀ i, i < n → w.cell? ⟨b, off + i, none⟩ = some (.string (xs.getD i ByteArray.empty)) := by
      rcases HH.out with h | h
      · exact absurd h h0
      · exact h
    have HCC : Hid (∀ i, i < n → w.cell? ⟨b, off + i, none⟩ = some (.string (xs.getD i ByteArray.empty))) := hh
    have q0 : ((n : Int) == 0) = false := by rw [beq_eq_false_iff_ne]; omega
    have c0 := hh (n - 1) (by omega)
    have hn1 : (0 : Int) ≤ (n : Int) - 1 := by omega
    have hn2 : (n : Int) - 1 < n := by omega
    have hn3 : ((n : Int) - 1).toNat = n - 1 := by omega
    obtain ⟨L0, HL0⟩ : ∃ x, Hid (xs.getD (n - 1) ByteArray.empty = x) := ⟨_, rfl⟩
    rw [HL0.out] at c0
    have HS0 : Hid (foldP (EF m) (NF m) (xs.drop (n - 1)) = L0 ∧ L0.size ≤ 1048576) := by
      have hlt : n - 1 < xs.length := by rw [HN.out]; omega
      rw [foldP_last _ _ xs (n - 1) (by rw [HN.out]; omega), ← HL0.out, List.getD_eq_getElem?_getD, List.getElem?_eq_getElem hlt]
      exact ⟨rfl, HX.out _ (List.getElem_mem hlt)⟩
    clear hh HH
    go_enter Tryd.func17, Tryd.ntmps17
    go_wp2
    go_loopw [6, 7] (fun h i wr => ∃ (k : Nat) (H : ByteArray) (c : Int), k < n ∧ i = .int .i64 c ∧ c = (k : Int) - 1 ∧ h = .string H ∧ Hid (foldP (EF m) (NF m) (xs.drop k) = H ∧ H.size ≤ 1048576 ∧ Below w.heap.size w wr)) (fun _ i _ => (intOf i + 1).toNat)
    case atStart => exact ⟨n - 1, L0, _, by omega, rfl, by omega, rfl, HS0.out.1, HS0.out.2, Below.refl _ _⟩
    case round =>
      clear c0
      obtain ⟨k, H, c, hk, rfl, hc, rfl, HL⟩ := hrel
      cases k with
      | zero =>
        obtain rfl : c = -1 := by omega
        clear hc
        have HE : Hid (R = H) := by
          have := HL.out.1
          rw [List.drop_zero, HRR.out] at this
          exact this
        go_wp2
        go_ret
        exact ⟨by rw [HE.out]; rfl, HL.out.2.2⟩
      | succ k =>
        obtain rfl : c = (k : Int) := by omega
        clear hc
        have hk0 : (0 : Int) ≤ (k : Int) := by omega
        have hkn : (k : Int) < n := by omega
        have hkx : k < xs.length := by rw [HN.out]; omega
        obtain ⟨x, HXK⟩ : ∃ x, Hid (xs.getD k ByteArray.empty = x) := ⟨_, rfl⟩
        have c1' := HCC.out k (by omega)
        rw [HXK.out] at c1'
        have c1 : wr.cell? ⟨b, off + k, none⟩ = some (.string x) := (HL.out.2.2.cell (p := ⟨b, off + k, none⟩) (World.block_lt_of_cell? _ _ c1')).trans c1'
        have HXE : Hid (x = xs[k]'hkx) := by show _ = _; rw [← HXK.out, List.getD_eq_getElem?_getD, List.getElem?_eq_getElem hkx]; rfl
        have hxs : x.size ≤ 1048576 := by rw [HXE.out]; exact HX.out _ (List.getElem_mem hkx)
        have hHs := HL.out.2.1
        have NC : Hid (∀ w', Tab4 w' → Calls _ _ _ _ _) := fun w' h => rNode m x H (by omega) w' h
        have HF : Hid (foldP (EF m) (NF m) (xs.drop k) = NF m x H) := by
          show _ = _
          rw [foldP_snoc _ _ xs k (by rw [HN.out]; omega), HL.out.1, HXE.out]
        have HFS : Hid ((NF m x H).size ≤ 1048576) := by show _ ≤ _; unfold NF; rw [cutS_size]; have := wid_le m; omega
        have TW : Hid (Tab4 wr) := HT.out.down HL.out.2.2
        obtain ⟨Q, HQ⟩ : ∃ Q, Hid (NF m x H = Q) := ⟨_, rfl⟩
        rw [HQ.out] at NC HF HFS
        clear c1' hxs hHs
        go_wp2_with fail
        refine (NC.out _ TW.out).mono ?_
        rintro e w1 ⟨rfl, hb⟩
        have B1 : Hid (Below w.heap.size w w1) := over HL.out.2.2 hb
        clear hb
        go_wp2
        go_roundw
        case rel => exact ⟨k, Q, _, by omega, rfl, by first | rfl | omega, rfl, HF.out, HFS.out, B1.out⟩
        case measure => simp [intOf]
end Go.Proofs.YtjjeiklhmbhhoabDoor.de
