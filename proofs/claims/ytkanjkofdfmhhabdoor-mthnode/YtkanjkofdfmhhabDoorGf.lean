import Derived.Test.YtkanjkofdfmhhabDoorGs
import Derived.Test.YtkanjkofdfmhhabDoorGc
import Derived.Test.YtkanjkofdfmhhabDoorGn
import Derived.Test.YtkanjkofdfmhhabDoorKd
namespace Go.Proofs.YtkanjkofdfmhhabDoor.gf
open Go.RowKit Go.PlainAid
open Go.Proofs.YtkanjkofdfmhhabDoor.pl Go.Proofs.YtkanjkofdfmhhabDoor.pi Go.Proofs.YtkanjkofdfmhhabDoor.pj Go.Proofs.YtkanjkofdfmhhabDoor.rf Go.Proofs.YtkanjkofdfmhhabDoor.ca Go.Proofs.YtkanjkofdfmhhabDoor.cb Go.Proofs.YtkanjkofdfmhhabDoor.cp Go.Proofs.YtkanjkofdfmhhabDoor.ka Go.Proofs.YtkanjkofdfmhhabDoor.kb Go.Proofs.YtkanjkofdfmhhabDoor.kd Go.Proofs.YtkanjkofdfmhhabDoor.ga Go.Proofs.YtkanjkofdfmhhabDoor.gb Go.Proofs.YtkanjkofdfmhhabDoor.gs Go.Proofs.YtkanjkofdfmhhabDoor.gc Go.Proofs.YtkanjkofdfmhhabDoor.gn
set_option linter.unusedVariables false

set_option maxHeartbeats 1600000 in
set_option maxRecDepth 100000 in
theorem r6Node (wd L I : Int) (v : Value) (xs : List ByteArray) (w : World) (hT : Tab4 w) (hR : ReadsT w v xs) (hf : Fits xs) :
    Calls Tryd.prog 12 #[.int .i64 wd, .agg #[.int .i64 L, .int .i64 I], v] w fun e w' => e = .returned (.tuple #[.string (NT wd L I xs), .int .i64 (NE L I xs)]) ∧ Below w.heap.size w w' := by
  have B0 : Hid (Below w.heap.size w (w.alloc (.cells #[.int .i64 L, .int .i64 I] 32))) := (Below.refl _ _).alloc (Nat.le_refl _) _
  have X0 : Hid (Bx (w.alloc (.cells #[.int .i64 L, .int .i64 I] 32)) w.heap.size L I) := bx_new _ _ _
  have HT : Hid (Tab4 w) := hT
  have HRD : Hid (ReadsT w v xs) := hR
  have HF : Hid (Fits xs) := hf
  have V1 : Hid (∀ w', Calls _ _ _ _ _) := fun w' => rValid L I w'
  have S1 : Hid (∀ w', Calls _ _ _ _ _) := fun w' => rSpan L I w'
  have hm := hf.many
  obtain ⟨a, cap, rfl, hcap, hh⟩ := hR
  by_cases ho : okA L I
  · rw [decide_eq_true ho] at V1
    by_cases hg0 : (I + 1) * 2 ^ L.toNat ≤ xs.length
    · have HNE : Hid (NE L I xs = 0) := by show _ = _; unfold NE; rw [if_pos ho, if_pos hg0]
      have HNT0 : NT wd L I xs = RT wd ((xs.drop (I * 2 ^ L.toNat).toNat).take (2 ^ L.toNat)) := by unfold NT; rw [if_pos ⟨ho, hg0⟩]
      rw [HNE.out, HNT0]
      obtain ⟨k, i, rfl, rfl, hk, hi2⟩ := okA_form ho
      have HSP : Hid (spV k i = .tuple #[.int .i64 ((i * 2 ^ k : Nat) : Int), .int .i64 (((i + 1) * 2 ^ k : Nat) : Int), .int .i64 0]) := spV_nat ho
      rw [HSP.out] at S1
      rw [Int.toNat_natCast, cast_pow, show ((i : Int) + 1) = ((i + 1 : Nat) : Int) by omega, ← Int.natCast_mul] at hg0
      rw [Int.toNat_natCast, cast_pow, ← Int.natCast_mul, Int.toNat_natCast]
      have hg : (i + 1) * 2 ^ k ≤ xs.length := by omega
      obtain ⟨b, off, rfl, hq⟩ := hh.resolve_left (by have := Nat.le_mul_of_pos_right (i + 1) (p2 k); omega)
      obtain ⟨t2, HT2⟩ : ∃ t : Nat, Hid (2 ^ k = t) := ⟨_, rfl⟩
      obtain ⟨f, HFF⟩ : ∃ f, Hid (i * 2 ^ k = f) := ⟨_, rfl⟩
      obtain ⟨g, HGG⟩ : ∃ g, Hid ((i + 1) * 2 ^ k = g) := ⟨_, rfl⟩
      have hgf : g = f + t2 := by rw [← HFF.out, ← HGG.out, ← HT2.out, Nat.add_mul, Nat.one_mul]
      rw [HFF.out, HGG.out] at S1
      rw [HGG.out] at hg
      rw [HFF.out, HT2.out]
      have ht2 : 1 ≤ t2 := by rw [← HT2.out]; exact p2 k
      have RM : Hid (ReadsT w (.slice (some ⟨b, off + f, none⟩) t2 (cap - f)) ((xs.drop f).take t2)) := ReadsT.mid HRD.out (by omega)
      have CM : Hid (∀ w', Tab4 w' → Below w.heap.size w w' → Calls _ _ _ _ _) := fun w' h1 h2 => rRoot wd t2 ((xs.drop f).take t2) _ w' (by rw [List.length_take, List.length_drop]; omega) h1 (RM.out.later h2) ((HF.out.drop f).take t2)
      obtain ⟨y, HY⟩ : ∃ y, Hid (RT wd ((xs.drop f).take t2) = y) := ⟨_, rfl⟩
      rw [HY.out] at CM ⊢
      obtain ⟨n, HN⟩ : ∃ n, Hid (xs.length = n) := ⟨_, rfl⟩
      rw [HN.out] at hg hcap ⊢
      have hgn : ¬ (g : Int) > n := by omega
      have hfg : (f : Int) ≤ g := by omega
      have hgc : (g : Int) ≤ cap := by omega
      have hfc : (f : Int) < cap := by omega
      have E9 : Hid (((g : Int) - f).toNat = t2) := by show _ = _; omega
      have E8 : Hid ((g - f) = t2) := by show _ = _; omega
      clear hgf hg ht2 hk hi2 hg0 ho hq hh hT hf hm HNT0
      obtain ⟨x1, x2⟩ := X0.out
      go_enter Tryd.func12, Tryd.ntmps12
      go_wp2_with fail
      refine (V1.out _).mono ?_
      rintro e w1 ⟨rfl, hb⟩
      have B1 : Hid (Below w.heap.size w w1) := over B0.out hb
      obtain ⟨y1, y2⟩ := X0.out.later hb
      clear hb x1 x2
      go_wp2_with fail
      refine (S1.out _).mono ?_
      rintro e w2 ⟨rfl, hb⟩
      have B2 : Hid (Below w.heap.size w w2) := over B1.out hb
      have T2 : Hid (Tab4 w2) := HT.out.down B2.out
      clear hb y1 y2
      have ent9 := E9.out
      have ent8 := E8.out
      go_wp2_with fail
      clear ent9 ent8
      refine (CM.out _ T2.out B2.out).mono ?_
      rintro e w3 ⟨rfl, hb⟩
      have B3 : Hid (Below w.heap.size w w3) := over B2.out hb
      clear hb
      go_wp2
      go_ret2
      exact ⟨rfl, B3.out⟩
    · have HNE : Hid (NE L I xs = 80) := by show _ = _; unfold NE; rw [if_pos ho, if_neg hg0]
      have HNT : Hid (NT wd L I xs = ⟨#[]⟩) := by show _ = _; unfold NT; rw [if_neg (fun h => hg0 h.2)]; rfl
      rw [HNE.out, HNT.out]
      obtain ⟨k, i, rfl, rfl, hk, hi2⟩ := okA_form ho
      have HSP : Hid (spV k i = .tuple #[.int .i64 ((i * 2 ^ k : Nat) : Int), .int .i64 (((i + 1) * 2 ^ k : Nat) : Int), .int .i64 0]) := spV_nat ho
      rw [HSP.out] at S1
      rw [Int.toNat_natCast, cast_pow, show ((i : Int) + 1) = ((i + 1 : Nat) : Int) by omega, ← Int.natCast_mul] at hg0
      obtain ⟨f, HFF⟩ : ∃ f, Hid (i * 2 ^ k = f) := ⟨_, rfl⟩
      obtain ⟨g, HGG⟩ : ∃ g, Hid ((i + 1) * 2 ^ k = g) := ⟨_, rfl⟩
      rw [HFF.out, HGG.out] at S1
      rw [HGG.out] at hg0
      obtain ⟨n, HN⟩ : ∃ n, Hid (xs.length = n) := ⟨_, rfl⟩
      rw [HN.out] at hg0 hcap ⊢
      have hgn : (g : Int) > n := by omega
      clear hg0 hk hi2 ho hh hT hf hm
      obtain ⟨x1, x2⟩ := X0.out
      go_enter Tryd.func12, Tryd.ntmps12
      go_wp2_with fail
      refine (V1.out _).mono ?_
      rintro e w1 ⟨rfl, hb⟩
      have B1 : Hid (Below w.heap.size w w1) := over B0.out hb
      obtain ⟨y1, y2⟩ := X0.out.later hb
      clear hb x1 x2
      go_wp2_with fail
      refine (S1.out _).mono ?_
      rintro e w2 ⟨rfl, hb⟩
      have B2 : Hid (Below w.heap.size w w2) := over B1.out hb
      clear hb y1 y2
      go_wp2
      go_ret2
      exact ⟨rfl, B2.out⟩
  · rw [decide_eq_false ho] at V1
    have HNE : Hid (NE L I xs = 50) := by show _ = _; unfold NE; rw [if_neg ho]
    have HNT : Hid (NT wd L I xs = ⟨#[]⟩) := by show _ = _; unfold NT; rw [if_neg (fun h => ho h.1)]; rfl
    rw [HNE.out, HNT.out]
    obtain ⟨n, HN⟩ : ∃ n, Hid (xs.length = n) := ⟨_, rfl⟩
    rw [HN.out] at hcap ⊢
    clear ho hh hT hf hm
    obtain ⟨x1, x2⟩ := X0.out
    go_enter Tryd.func12, Tryd.ntmps12
    go_wp2_with fail
    refine (V1.out _).mono ?_
    rintro e w1 ⟨rfl, hb⟩
    have B1 : Hid (Below w.heap.size w w1) := over B0.out hb
    clear hb x1 x2
    go_wp2
    go_ret2
    exact ⟨rfl, B1.out⟩
set_option maxHeartbeats 1600000 in
theorem mth_node {T : World → Prop} (later : ∀ {w w' : World}, T w → Below w.heap.size w w' → T w') (tab : ∀ {w : World}, T w → Tab4 w) (NC : NodeC T) (wd L I : Int) (hwd : i64 wd) (h0 : i64 L) (h1 : i64 I) (v : Value) (xs : List ByteArray) (w : World) (hT : T w) (hR : ReadsT w v xs) (hno : ∀ k c, v = .slice none k c → c = 0) (hf : Fits xs) :
    Calls Tryd.prog 4 #[.int .i64 wd, .agg #[.int .i64 L, .int .i64 I], v] w fun e w' => e = .returned (.bool true) ∧ Below w.heap.size w w' := by
  have HL : Hid (∀ {w w' : World}, T w → Below w.heap.size w w' → T w') := later
  have B0 : Hid (Below w.heap.size w (w.alloc (.cells #[.int .i64 L, .int .i64 I] 32))) := (Below.refl _ _).alloc (Nat.le_refl _) _
  have X0 : Hid (Bx (w.alloc (.cells #[.int .i64 L, .int .i64 I] 32)) w.heap.size L I) := bx_new _ _ _
  have HT : Hid (T w) := hT
  have HRD : Hid (ReadsT w v xs) := hR
  have C1 : Hid (∀ w', ReadsT w' v xs → Calls _ _ _ _ _) := fun w' h => twin v xs w' h hno hf
  have C2 : Hid (∀ u w', T w' → ReadsT w' u xs → Calls _ _ _ _ _) := fun u w' h2 h3 => NC wd L I u xs w' hwd h0 h1 h2 h3 hf
  have C3 : Hid (∀ w', T w' → ReadsT w' v xs → Calls _ _ _ _ _) := fun w' h2 h3 => r6Node wd L I v xs w' (tab h2) h3 hf
  have C4 : Hid (∀ (B g cp : Nat) w', TwinR w' B g xs.length cp xs → ReadsT w' v xs → Calls _ _ _ _ _) := fun B g cp w' h1 h2 => kept B g cp v xs w' h1 h2 hf.many
  obtain ⟨a, cap, rfl, hcap, hh⟩ := hR
  obtain ⟨r, HR⟩ : ∃ r, Hid (NT wd L I xs = r) := ⟨_, rfl⟩
  obtain ⟨c, HC⟩ : ∃ c, Hid (NE L I xs = c) := ⟨_, rfl⟩
  rw [HR.out, HC.out] at C2 C3
  obtain ⟨n, HN⟩ : ∃ n, Hid (xs.length = n) := ⟨_, rfl⟩
  have q0 : (r.toList == r.toList) = true := beq_self_eq_true _
  have q1 : (c == c) = true := beq_self_eq_true _
  have HTR : Hid (∀ {w' : World} {B g cp : Nat}, TwinR w' B g n cp xs → ReadsT w' (.slice (some ⟨g, 0, none⟩) n cp) xs) := fun h => twin_reads h HN.out
  rw [HN.out] at C1 C3 C4 HRD hcap ⊢
  clear hh hT hf hno later tab NC hwd h0 h1
  go_enter Tryd.func4, Tryd.ntmps4
  go_wp2_with fail
  refine (C1.out _ (HRD.out.later B0.out)).mono ?_
  rintro e w1 ⟨⟨g, cp, rfl, htw⟩, hb⟩
  obtain ⟨G, HG⟩ : ∃ G, Hid ((w.alloc (.cells #[.int .i64 L, .int .i64 I] 32)).heap.size = G) := ⟨_, rfl⟩
  rw [HG.out] at htw
  have TW1 : Hid (TwinR w1 G g n cp xs) := htw
  have B1 : Hid (Below w.heap.size w w1) := over B0.out hb
  have T1 : Hid (T w1) := HL.out HT.out B1.out
  have X1 : Hid (Bx w1 w.heap.size L I) := X0.out.later hb
  obtain ⟨x1, x2⟩ := X1.out
  clear htw hb
  go_wp2_with fail
  refine (C2.out _ _ T1.out (HTR.out TW1.out)).mono ?_
  rintro e w2 ⟨rfl, hb⟩
  have TW2 : Hid (TwinR w2 G g n cp xs) := twin_later TW1.out hb
  have B2 : Hid (Below w.heap.size w w2) := over B1.out hb
  have T2 : Hid (T w2) := HL.out T1.out hb
  obtain ⟨y1, y2⟩ := X1.out.later hb
  clear hb x1 x2
  go_wp2_with fail
  refine (C3.out _ T2.out (HRD.out.later B2.out)).mono ?_
  rintro e w3 ⟨rfl, hb⟩
  have TW3 : Hid (TwinR w3 G g n cp xs) := twin_later TW2.out hb
  have B3 : Hid (Below w.heap.size w w3) := over B2.out hb
  clear hb y1 y2
  go_wp2_with fail
  refine (C4.out _ _ _ _ TW3.out (HRD.out.later B3.out)).mono ?_
  rintro e w4 ⟨rfl, hb⟩
  have B4 : Hid (Below w.heap.size w w4) := over B3.out hb
  clear hb
  go_wp2
  go_ret
  exact ⟨rfl, B4.out⟩
end Go.Proofs.YtkanjkofdfmhhabDoor.gf
