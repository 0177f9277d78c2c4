import Derived.Test.YtkanjkofdfmhhabDoorGs
import Derived.Test.YtkanjkofdfmhhabDoorGe
import Derived.Test.YtkanjkofdfmhhabDoorGq
namespace Go.Proofs.YtkanjkofdfmhhabDoor.gy
open Go.RowKit Go.PlainAid
open Go.Proofs.YtkanjkofdfmhhabDoor.pl Go.Proofs.YtkanjkofdfmhhabDoor.pi Go.Proofs.YtkanjkofdfmhhabDoor.pj Go.Proofs.YtkanjkofdfmhhabDoor.rf Go.Proofs.YtkanjkofdfmhhabDoor.ca Go.Proofs.YtkanjkofdfmhhabDoor.cb Go.Proofs.YtkanjkofdfmhhabDoor.cp Go.Proofs.YtkanjkofdfmhhabDoor.ka Go.Proofs.YtkanjkofdfmhhabDoor.kb Go.Proofs.YtkanjkofdfmhhabDoor.ga Go.Proofs.YtkanjkofdfmhhabDoor.gb Go.Proofs.YtkanjkofdfmhhabDoor.gs Go.Proofs.YtkanjkofdfmhhabDoor.gc Go.Proofs.YtkanjkofdfmhhabDoor.ge Go.Proofs.YtkanjkofdfmhhabDoor.gq
set_option linter.unusedVariables false

set_option maxHeartbeats 1600000 in
theorem mth_proof {T : World → Prop} (later : ∀ {w w' : World}, T w → Below w.heap.size w w' → T w') (tab : ∀ {w : World}, T w → Tab4 w) (PC : ProofC T) (wd i : Int) (hwd : i64 wd) (hi : i64 i) (v : Value) (xs : List ByteArray) (w : World) (hT : T w) (hR : ReadsT w v xs) (hno : ∀ k c, v = .slice none k c → c = 0) (hf : Fits xs) :
    Calls Tryd.prog 3 #[.int .i64 wd, .int .i64 i, v] w fun e w' => e = .returned (.bool true) ∧ Below w.heap.size w w' := by
  have HL : Hid (∀ {w w' : World}, T w → Below w.heap.size w w' → T w') := later
  have HT : Hid (T w) := hT
  have HRD : Hid (ReadsT w v xs) := hR
  have C1 : Hid (Calls _ _ _ _ _) := twin v xs w hR hno hf
  have C2 : Hid (∀ u w', T w' → ReadsT w' u xs → Calls _ _ _ _ _) := fun u w' h1 h2 => PC wd i u xs w' hwd hi h1 h2 hf
  have C3 : Hid (∀ w', T w' → ReadsT w' v xs → Calls _ _ _ _ _) := fun w' h1 h2 => rProof wd i v xs w' (tab h1) h2 hf
  have C4 : Hid (∀ (B g cp : Nat) w', TwinR w' B g xs.length cp xs → ReadsT w' v xs → Calls _ _ _ _ _) := fun B g cp w' h1 h2 => kept B g cp v xs w' h1 h2 hf.many
  have hpl := QT_len wd i xs
  have hm := hf.many
  obtain ⟨a, cap, rfl, hcap, hh⟩ := hR
  obtain ⟨P, HP⟩ : ∃ P, Hid (QT wd i xs = P) := ⟨_, rfl⟩
  obtain ⟨c, HC⟩ : ∃ c, Hid (QE i xs = c) := ⟨_, rfl⟩
  rw [HP.out] at C2 C3 hpl
  rw [HC.out] at C2 C3
  have C5 : Hid (∀ (u u' : Value) w', ReadsT w' u P → ReadsT w' u' P → Calls _ _ _ _ _) := fun u u' w' h1 h2 => same_yes u u' P w' h1 h2 (by omega)
  obtain ⟨n, HN⟩ : ∃ n, Hid (xs.length = n) := ⟨_, rfl⟩
  have q0 : (c == c) = true := beq_self_eq_true _
  have HTR : Hid (∀ {w' : World} {B g cp : Nat}, TwinR w' B g n cp xs → ReadsT w' (.slice (some ⟨g, 0, none⟩) n cp) xs) := fun h => twin_reads h HN.out
  rw [HN.out] at C1 C3 C4 HRD hcap ⊢
  clear hh hT hf hno later tab PC hwd hi hpl hm
  go_enter Tryd.func3, Tryd.ntmps3
  go_wp2_with fail
  refine C1.out.mono ?_
  rintro e w1 ⟨⟨g, cp, rfl, htw⟩, hb⟩
  have TW1 : Hid (TwinR w1 w.heap.size g n cp xs) := htw
  have B1 : Hid (Below w.heap.size w w1) := hb
  have T1 : Hid (T w1) := HL.out HT.out hb
  clear htw hb
  go_wp2_with fail
  refine (C2.out _ _ T1.out (HTR.out TW1.out)).mono ?_
  rintro e w2 ⟨⟨u, rfl, hu⟩, hb⟩
  have TW2 : Hid (TwinR w2 w.heap.size g n cp xs) := twin_later TW1.out hb
  have B2 : Hid (Below w.heap.size w w2) := over B1.out hb
  have T2 : Hid (T w2) := HL.out T1.out hb
  have RU2 : Hid (ReadsT w2 u P) := own_readsT hu
  obtain ⟨ua, uc, rfl⟩ := own_formS hu
  clear hb hu
  go_wp2_with fail
  refine (C3.out _ T2.out (HRD.out.later B2.out)).mono ?_
  rintro e w3 ⟨⟨u', rfl, hu⟩, hb⟩
  have TW3 : Hid (TwinR w3 w.heap.size g n cp xs) := twin_later TW2.out hb
  have B3 : Hid (Below w.heap.size w w3) := over B2.out hb
  have RU3 : Hid (ReadsT w3 (.slice ua P.length uc) P) := RU2.out.later hb
  have RV3 : Hid (ReadsT w3 u' P) := own_readsT hu
  obtain ⟨va, vc, rfl⟩ := own_formS hu
  clear hb hu
  go_wp2_with fail
  refine (C4.out _ _ _ _ TW3.out (HRD.out.later B3.out)).mono ?_
  rintro e w4 ⟨rfl, hb⟩
  have B4 : Hid (Below w.heap.size w w4) := over B3.out hb
  have RU4 : Hid (ReadsT w4 (.slice ua P.length uc) P) := RU3.out.later hb
  have RV4 : Hid (ReadsT w4 (.slice va P.length vc) P) := RV3.out.later hb
  clear hb
  go_wp2_with fail
  refine (C5.out _ _ _ RU4.out RV4.out).mono ?_
  rintro e w5 ⟨rfl, m, hw⟩
  have B5 : Hid (Below w.heap.size w w5) := by rw [hw]; exact below_dN B4.out m
  clear hw
  go_wp2
  go_ret
  exact ⟨rfl, B5.out⟩
end Go.Proofs.YtkanjkofdfmhhabDoor.gy
