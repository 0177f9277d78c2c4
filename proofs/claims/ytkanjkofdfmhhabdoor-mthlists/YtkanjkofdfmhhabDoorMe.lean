import Derived.Test.YtkanjkofdfmhhabDoorMb
import Derived.Test.YtkanjkofdfmhhabDoorGn
import Derived.Test.YtkanjkofdfmhhabDoorVa
namespace Go.Proofs.YtkanjkofdfmhhabDoor.me
open Go.RowKit Go.PlainAid
open Go.Proofs.YtkanjkofdfmhhabDoor.pl Go.Proofs.YtkanjkofdfmhhabDoor.pi Go.Proofs.YtkanjkofdfmhhabDoor.pj Go.Proofs.YtkanjkofdfmhhabDoor.ca Go.Proofs.YtkanjkofdfmhhabDoor.cb Go.Proofs.YtkanjkofdfmhhabDoor.cp Go.Proofs.YtkanjkofdfmhhabDoor.cu Go.Proofs.YtkanjkofdfmhhabDoor.cq Go.Proofs.YtkanjkofdfmhhabDoor.va Go.Proofs.YtkanjkofdfmhhabDoor.ka Go.Proofs.YtkanjkofdfmhhabDoor.kb Go.Proofs.YtkanjkofdfmhhabDoor.kc Go.Proofs.YtkanjkofdfmhhabDoor.rf Go.Proofs.YtkanjkofdfmhhabDoor.ga Go.Proofs.YtkanjkofdfmhhabDoor.gb Go.Proofs.YtkanjkofdfmhhabDoor.gr Go.Proofs.YtkanjkofdfmhhabDoor.gn Go.Proofs.YtkanjkofdfmhhabDoor.ma Go.Proofs.YtkanjkofdfmhhabDoor.mb
set_option linter.unusedVariables false

set_option maxHeartbeats 1600000 in
theorem mnode (wd L I : Int) (v : Value) (xs : List ByteArray) (w : World) (hT : Tab w) (hR : ReadsT w v xs) (hx : Fits xs) :
    Calls Tryd.prog 11 #[.int .i64 wd, .agg #[.int .i64 L, .int .i64 I], v] w fun e w' => e = .returned (.tuple #[.string (NT wd L I xs), .int .i64 (NE L I xs)]) ∧ Below w.heap.size w w' := by
  have HRD : Hid (ReadsT w v xs) := hR
  have HT : Hid (Tab w) := hT
  have HX : Hid (Fits xs) := hx
  have SC : Hid (∀ w, Calls _ _ _ _ _) := fun w => span L I w
  have hnm : xs.length ≤ 4611686018427387904 := by have := hx.many; omega
  obtain ⟨a, cap, rfl, hcap, hh⟩ := hR
  by_cases hok : okA L I
  · obtain ⟨k, i, rfl, rfl, hk, hf⟩ := okA_form hok
    rw [spV_nat hok] at SC
    have e1 : ((i : Int) + 1) * 2 ^ (k : Int).toNat = (((i + 1) * 2 ^ k : Nat) : Int) := by rw [Int.toNat_natCast, cast_pow]; simp
    have e2 : ((i : Int) * 2 ^ (k : Int).toNat).toNat = i * 2 ^ k := by
      rw [Int.toNat_natCast, cast_pow, ← Int.natCast_mul, Int.toNat_natCast]
    have e3 : (i + 1) * 2 ^ k = i * 2 ^ k + 2 ^ k := by rw [Nat.add_mul, Nat.one_mul]
    have hp := p2 k
    by_cases hle : (i + 1) * 2 ^ k ≤ xs.length
    · have HN1 : Hid (NT wd k i xs = RT wd ((xs.drop (i * 2 ^ k)).take (2 ^ k))) := by
        show _ = _
        unfold NT
        rw [e1, e2, if_pos ⟨hok, by omega⟩, Int.toNat_natCast]
      have HN2 : Hid (NE k i xs = 0) := by
        show _ = _
        unfold NE
        rw [e1, if_pos hok, if_pos (by omega)]
      rw [HN1.out, HN2.out]
      clear e1 e2 HN1 HN2
      obtain ⟨f, HF⟩ : ∃ f, Hid (i * 2 ^ k = f) := ⟨_, rfl⟩
      obtain ⟨s, HS⟩ : ∃ f : Nat, Hid (2 ^ k = f) := ⟨_, rfl⟩
      obtain ⟨g, HG⟩ : ∃ g, Hid ((i + 1) * 2 ^ k = g) := ⟨_, rfl⟩
      rw [HF.out, HG.out] at SC
      rw [HG.out, HF.out, HS.out] at e3
      rw [HG.out] at hle hf
      rw [HS.out] at hp
      rw [HF.out, HS.out]
      obtain ⟨b, off, rfl, hh⟩ : ∃ b off, a = some ⟨b, off, none⟩ ∧ ∀ i, i < xs.length → w.cell? ⟨b, off + i, none⟩ = some (.string (xs.getD i ByteArray.empty)) := by
        rcases hh with h | h
        · omega
        · exact h
      have R1 : Hid (ReadsT w (.slice (some ⟨b, off + f, none⟩) s s) ((xs.drop f).take s)) := tightT (HRD.out.mid (by omega))
      have CR : Hid (∀ w', Tab w' → ReadsT w' (.slice (some ⟨b, off + f, none⟩) s s) ((xs.drop f).take s) → Calls _ _ _ _ _) := fun w' h h' => root wd _ ((xs.drop f).take s) _ w' rfl h h' ((HX.out.drop f).take s)
      obtain ⟨R, HR⟩ : ∃ r, Hid (RT wd ((xs.drop f).take s) = r) := ⟨_, rfl⟩
      rw [HR.out] at CR ⊢
      obtain ⟨n, HN⟩ : ∃ n, Hid (xs.length = n) := ⟨_, rfl⟩
      rw [HN.out] at hle hcap hnm HRD ⊢
      have g1 : ¬ (g : Int) > n := by omega
      have g2 : (g : Int) ≤ cap := by omega
      have g3 : (f : Int) ≤ g := by omega
      have g4 : g - f = s := by omega
      clear hh hok hT hx
      go_enter Tryd.func11, Tryd.ntmps11
      go_wp2_with fail
      refine (SC.out _).mono ?_
      rintro e w1 ⟨rfl, hb⟩
      have B1 : Hid (Below w.heap.size w w1) := over ((Below.refl _ _).alloc (Nat.le_refl _) _) hb
      have T1 : Hid (Tab w1) := HT.out.down B1.out
      have R11 : Hid (ReadsT w1 (.slice (some ⟨b, off + f, none⟩) s s) ((xs.drop f).take s)) := R1.out.later B1.out
      clear hb
      go_wp2_with fail
      refine (CR.out _ T1.out R11.out).mono ?_
      rintro e w2 ⟨rfl, hb⟩
      have B2 : Hid (Below w.heap.size w w2) := over B1.out hb
      clear hb
      go_wp2
      go_ret2
      exact ⟨rfl, B2.out⟩
    · have HN1 : Hid (NT wd k i xs = ByteArray.empty) := by
        show _ = _
        unfold NT
        rw [e1, if_neg (fun h => hle (by have := h.2; omega))]
      have HN2 : Hid (NE k i xs = 80) := by
        show _ = _
        unfold NE
        rw [e1, if_pos hok, if_neg (by omega)]
      rw [HN1.out, HN2.out]
      clear e1 e2 HN1 HN2
      obtain ⟨f, HF⟩ : ∃ f, Hid (i * 2 ^ k = f) := ⟨_, rfl⟩
      obtain ⟨g, HG⟩ : ∃ g, Hid ((i + 1) * 2 ^ k = g) := ⟨_, rfl⟩
      rw [HF.out, HG.out] at SC
      rw [HG.out] at hle hf
      obtain ⟨n, HN⟩ : ∃ n, Hid (xs.length = n) := ⟨_, rfl⟩
      rw [HN.out] at hle hcap hnm ⊢
      have g1 : (g : Int) > n := by omega
      clear hh hok hT hx e3 HRD
      go_enter Tryd.func11, Tryd.ntmps11
      go_wp2_with fail
      refine (SC.out _).mono ?_
      rintro e w1 ⟨rfl, hb⟩
      have B1 : Hid (Below w.heap.size w w1) := over ((Below.refl _ _).alloc (Nat.le_refl _) _) hb
      clear hb
      go_wp2
      go_ret2
      exact ⟨rfl, B1.out⟩
  · have HN1 : Hid (NT wd L I xs = ByteArray.empty) := by
      show _ = _
      unfold NT
      rw [if_neg (fun h => hok h.1)]
    have HN2 : Hid (NE L I xs = 50) := by
      show _ = _
      unfold NE
      rw [if_neg hok]
    rw [HN1.out, HN2.out]
    rw [show spV L I = .tuple #[.int .i64 0, .int .i64 0, .int .i64 50] by unfold spV; rw [if_neg hok]] at SC
    clear hh hok hT hx HRD HN1 HN2
    go_enter Tryd.func11, Tryd.ntmps11
    go_wp2_with fail
    refine (SC.out _).mono ?_
    rintro e w1 ⟨rfl, hb⟩
    have B1 : Hid (Below w.heap.size w w1) := over ((Below.refl _ _).alloc (Nat.le_refl _) _) hb
    clear hb
    go_wp2
    go_ret2
    exact ⟨rfl, B1.out⟩
theorem nodeC : NodeC Tab := fun wd L I v xs w _ _ _ t h f => mnode wd L I v xs w t h f
end Go.Proofs.YtkanjkofdfmhhabDoor.me
