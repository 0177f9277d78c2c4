import Derived.Test.YtnnpidjpklfogaaDoorA2
import Derived.Test.YtnnpidjpklfogaaDoorB1
import Derived.Laws.BitsAllLaws
import Derived.Test.YtnnpidjpklfogaaDoorA3
import Derived.Test.YtnnpidjpklfogaaDoorA1
namespace Go.Proofs.YtnnpidjpklfogaaDoor.gr
open Go.RowKit Go.PlainAid
open Go.Proofs.YtnnpidjpklfogaaDoor.cp Go.Proofs.YtnnpidjpklfogaaDoor.ka Go.Proofs.YtnnpidjpklfogaaDoor.gb
set_option linter.unusedVariables false

-- what mth.Root promises (T: what it asks of the world)
def RootC (T : World → Prop) : Prop := ∀ (wd : Int) (v : Value) (xs : List ByteArray) (w : World), i64 wd → T w → ReadsT w v xs → Fits xs → Calls Tryd.prog 20 #[.int .i64 wd, v] w fun e w' => e = .returned (.string (RT wd xs)) ∧ Below w.heap.size w w'
end Go.Proofs.YtnnpidjpklfogaaDoor.gr

namespace Go.Proofs.YtnnpidjpklfogaaDoor.gn
open Go.RowKit Go.PlainAid
open Go.Proofs.YtnnpidjpklfogaaDoor.cp Go.Proofs.YtnnpidjpklfogaaDoor.ka Go.Proofs.YtnnpidjpklfogaaDoor.gb
set_option linter.unusedVariables false

-- what mth.Node promises (T: what it asks of the world)
def NodeC (T : World → Prop) : Prop := ∀ (wd L I : Int) (v : Value) (xs : List ByteArray) (w : World), i64 wd → i64 L → i64 I → T w → ReadsT w v xs → Fits xs → Calls Tryd.prog 24 #[.int .i64 wd, .agg #[.int .i64 L, .int .i64 I], v] w fun e w' => e = .returned (.tuple #[.string (NT wd L I xs), .int .i64 (NE L I xs)]) ∧ Below w.heap.size w w'
end Go.Proofs.YtnnpidjpklfogaaDoor.gn

namespace Go.Proofs.YtnnpidjpklfogaaDoor.ma
open Go.RowKit Go.PlainAid
open Go.Proofs.YtnnpidjpklfogaaDoor.ca Go.Proofs.YtnnpidjpklfogaaDoor.cb Go.Proofs.YtnnpidjpklfogaaDoor.cp Go.Proofs.YtnnpidjpklfogaaDoor.ka Go.Proofs.YtnnpidjpklfogaaDoor.ga Go.Proofs.YtnnpidjpklfogaaDoor.gb Go.Proofs.YtnnpidjpklfogaaDoor.xa Go.Proofs.YtnnpidjpklfogaaDoor.xb
set_option linter.unusedVariables false

theorem len_int (x : Int) (w : World) (h0 : 0 ≤ x) (h1 : x ≤ 9223372036854775807) :
    Calls Tryd.prog 66 #[.int .u64 x] w fun e w' => e = .returned (.int .i64 (Lib.bitLen x.toNat)) ∧ w' = w := by
  have C : Hid (Calls _ _ _ _ _) := len_any x w h0 (by omega)
  obtain ⟨b, HB⟩ : ∃ b, Hid (Lib.bitLen x.toNat = b) := ⟨_, rfl⟩
  rw [HB.out] at C ⊢
  go_enter Tryd.func66, Tryd.ntmps66
  go_wp2_with fail
  refine C.out.mono ?_
  rintro e w1 ⟨rfl, hw⟩
  subst hw
  go_wp2
  go_ret
  exact ⟨rfl, rfl⟩
theorem half_len {n : Nat} (h : 2 ≤ n) (hn : n ≤ 4611686018427387904) : ∃ l, Lib.bitLen (n - 1) = l + 1 ∧ half n = 2 ^ l ∧ l ≤ 62 := by
  obtain ⟨g1, g2⟩ := len_spec (n - 1) (by omega)
  obtain ⟨g3, g4⟩ := g2 (by omega)
  have g5 := len_le63 (n - 1) (by omega)
  obtain ⟨l, hl⟩ : ∃ l, Lib.bitLen (n - 1) = l + 1 := ⟨Lib.bitLen (n - 1) - 1, by omega⟩
  rw [hl] at g1 g3 g5
  rw [Nat.add_sub_cancel] at g3
  exact ⟨l, hl, half_eq (by omega) (by omega), by omega⟩
-- the program's split
theorem msplit (n : Nat) (h : 2 ≤ n) (hn : n ≤ 4611686018427387904) (w : World) :
    Calls Tryd.prog 55 #[.int .i64 n] w fun e w' => e = .returned (.int .i64 (half n : Nat)) ∧ w' = w := by
  obtain ⟨l, hl, he, h62⟩ := half_len h hn
  have hlt := (half_lt h).2.1
  have C : Hid (∀ w, Calls _ _ _ _ _) := fun w => len_int ((n : Int) - 1) w (by omega) (by omega)
  rw [show ((n : Int) - 1).toNat = n - 1 by omega, hl] at C
  obtain ⟨t, HT⟩ : ∃ t : Nat, Hid (2 ^ l = t) := ⟨_, rfl⟩
  have hT : (2 : Int) ^ l = (t : Int) := by rw [cast_pow, HT.out]
  rw [he, HT.out] at hlt ⊢
  have hw1 : ((l + 1 : Nat) : Int) = (l : Int) + 1 := by omega
  have hw2 : IntKind.u64.wrap (l : Int) = l := u64_is l (by omega)
  have hw3 : min (l : Int).toNat 64 = l := by omega
  have hw4 : min l 64 = l := by omega
  have hw5 : IntKind.i64.wrap (t : Int) = t := wrap_is t (by omega)
  rw [hw1] at C
  clear hl he
  go_enter Tryd.func55, Tryd.ntmps55
  go_wp2_with fail
  refine (C.out _).mono ?_
  rintro e w1 ⟨rfl, hw⟩
  subst hw
  go_wp2
  go_ret
  exact ⟨rfl, rfl⟩
-- a list without room behind it
theorem tightT {w : World} {a : Option Addr} {n cap : Nat} {xs : List ByteArray} (h : ReadsT w (.slice a n cap) xs) : ReadsT w (.slice a n n) xs := by
  obtain ⟨a', cap', e, hc, hh⟩ := h
  injection e with e1 e2 e3
  subst e1 e2
  exact ⟨_, _, rfl, Nat.le_refl _, hh⟩
theorem parts (b off n cap : Nat) (h : 2 ≤ n) (hn : n ≤ 4611686018427387904) (hc : n ≤ cap) (w : World) :
    Calls Tryd.prog 39 #[.slice (some ⟨b, off, none⟩) n cap] w fun e w' => e = .returned (.tuple #[.slice (some ⟨b, off, none⟩) (half n) (half n), .slice (some ⟨b, off + half n, none⟩) (n - half n) (n - half n)]) ∧ ∃ m, w' = w.drewN m := by
  have C : Hid (∀ w, Calls _ _ _ _ _) := fun w => msplit n h hn w
  have hh := half_lt h
  obtain ⟨t, HT⟩ : ∃ t : Nat, Hid (half n = t) := ⟨_, rfl⟩
  rw [HT.out] at C hh ⊢
  obtain ⟨h1, h2, h3⟩ := hh
  have g1 : (t : Int) ≤ cap := by omega
  have g2 : (t : Int) ≤ n := by omega
  have g3 : (n : Int) ≤ cap := by omega
  have ent : ((n - t : Nat) : Int) = (n : Int) - t := by omega
  go_enter Tryd.func39, Tryd.ntmps39
  go_wp2_with fail
  refine (C.out _).mono ?_
  rintro e w1 ⟨rfl, hw⟩
  subst hw
  go_wp2_with fail
  go_quiet (fail)
  go_wp2
  go_ret2
  exact ⟨rfl, _, rfl⟩
end Go.Proofs.YtnnpidjpklfogaaDoor.ma

namespace Go.Proofs.YtnnpidjpklfogaaDoor.mb
open Go.RowKit Go.PlainAid
open Go.Proofs.YtnnpidjpklfogaaDoor.pl Go.Proofs.YtnnpidjpklfogaaDoor.pi Go.Proofs.YtnnpidjpklfogaaDoor.pj Go.Proofs.YtnnpidjpklfogaaDoor.ca Go.Proofs.YtnnpidjpklfogaaDoor.cb Go.Proofs.YtnnpidjpklfogaaDoor.cp Go.Proofs.YtnnpidjpklfogaaDoor.ka Go.Proofs.YtnnpidjpklfogaaDoor.kb Go.Proofs.YtnnpidjpklfogaaDoor.kc Go.Proofs.YtnnpidjpklfogaaDoor.rf Go.Proofs.YtnnpidjpklfogaaDoor.ga Go.Proofs.YtnnpidjpklfogaaDoor.gb Go.Proofs.YtnnpidjpklfogaaDoor.gr Go.Proofs.YtnnpidjpklfogaaDoor.ma
set_option linter.unusedVariables false

set_option maxHeartbeats 3200000 in
set_option maxRecDepth 100000 in
theorem root (wd : Int) (n : Nat) : ∀ (xs : List ByteArray) (v : Value) (w : World), xs.length = n → Tab w → ReadsT w v xs → Fits xs →
    Calls Tryd.prog 20 #[.int .i64 wd, v] w fun e w' => e = .returned (.string (RT wd xs)) ∧ Below w.heap.size w w' := by
  induction n using Nat.strongRecOn with
  | ind n ih =>
    intro xs v w hn hT hR hx
    have HT : Hid (Tab w) := hT
    have HRD : Hid (ReadsT w v xs) := hR
    have HX : Hid (Fits xs) := hx
    have HN : Hid (xs.length = n) := hn
    have hnm : n ≤ 4611686018427387904 := by have := hx.many; omega
    have IH : Hid (∀ (m : Nat), m < n → ∀ (xs : List ByteArray) (v : Value) (w : World), xs.length = m → Tab w → ReadsT w v xs → Fits xs →
      Calls Tryd.prog 20 #[.int .i64 wd, v] w fun e w' => e = .returned (.string (RT wd xs)) ∧ Below w.heap.size w w') := ih
    obtain ⟨a, cap, rfl, hcap, hh⟩ := hR
    rw [HN.out] at hcap hh HRD ⊢
    have HH : Hid (n = 0 ∨ ∃ b off, a = some ⟨b, off, none⟩ ∧ ∀ i, i < n → w.cell? ⟨b, off + i, none⟩ = some (.string (xs.getD i ByteArray.empty))) := hh
    obtain ⟨R, HRR⟩ : ∃ R, Hid (RT wd xs = R) := ⟨_, rfl⟩
    rw [HRR.out]
    clear ih hn hT hx hh
    by_cases h0 : n = 0
    · have EC : Hid (∀ w, Tab w → Calls _ _ _ _ _) := fun w hw => pEmpty wd w hw
      have q0 : ((n : Int) == 0) = true := by rw [beq_iff_eq]; omega
      have HE : Hid (EF wd = R) := by
        show _ = _
        have : xs = [] := List.length_eq_zero_iff.1 (HN.out.trans h0)
        rw [← HRR.out, this, RT_nil]
      rw [HE.out] at EC
      clear h0
      go_enter Tryd.func20, Tryd.ntmps20
      go_wp2_with fail
      refine (EC.out _ HT.out).mono ?_
      rintro e w1 ⟨rfl, hb⟩
      have B1 : Hid (Below w.heap.size w w1) := hb
      clear hb
      go_wp2
      go_ret
      exact ⟨rfl, B1.out⟩
    · obtain ⟨b, off, rfl, hh⟩ : ∃ b off, a = some ⟨b, off, none⟩ ∧ ∀ i, i < n → w.cell? ⟨b, off + i, none⟩ = some (.string (xs.getD i ByteArray.empty)) := by
        rcases HH.out with h | h
        · exact absurd h h0
        · exact h
      have q0 : ((n : Int) == 0) = false := by rw [beq_eq_false_iff_ne]; omega
      by_cases h1 : n = 1
      · have q1 : ((n : Int) == 1) = true := by rw [beq_iff_eq]; omega
        have c0 := hh 0 (by omega)
        rw [Nat.add_zero] at c0
        have hn1 : (0 : Int) < n := by omega
        obtain ⟨x, hx⟩ := List.length_eq_one_iff.1 (HN.out.trans h1)
        have hxs : x.size ≤ 140737488352000 := HX.out.each x (by rw [hx]; simp)
        rw [hx] at c0
        have c1 : w.cell? ⟨b, off, none⟩ = some (.string x) := c0
        have LC : Hid (∀ w, Tab w → Calls _ _ _ _ _) := fun w hw => pLeaf wd x hxs w hw
        have HE : Hid (LF wd x = R) := by
          show _ = _
          rw [← HRR.out, hx, RT_one]
        rw [HE.out] at LC
        clear h0 h1 hh HH c0 hx hxs
        go_enter Tryd.func20, Tryd.ntmps20
        go_wp2_with fail
        refine (LC.out _ HT.out).mono ?_
        rintro e w1 ⟨rfl, hb⟩
        have B1 : Hid (Below w.heap.size w w1) := hb
        clear hb
        go_wp2
        go_ret
        exact ⟨rfl, B1.out⟩
      · have q1 : ((n : Int) == 1) = false := by rw [beq_eq_false_iff_ne]; omega
        have h2n : 2 ≤ n := by omega
        have SC : Hid (∀ w, Calls _ _ _ _ _) := fun w => parts b off n cap h2n hnm hcap w
        obtain ⟨t, HTT⟩ : ∃ t, Hid (half n = t) := ⟨_, rfl⟩
        rw [HTT.out] at SC
        have hh2 := half_lt h2n
        rw [HTT.out] at hh2
        obtain ⟨ht1, htn, _⟩ := hh2
        have htx : t ≤ xs.length := by rw [HN.out]; omega
        obtain ⟨r1, HR1⟩ : ∃ r, Hid (RT wd (xs.take t) = r) := ⟨_, rfl⟩
        obtain ⟨r2, HR2⟩ : ∃ r, Hid (RT wd (xs.drop t) = r) := ⟨_, rfl⟩
        have HE : Hid (NF wd r1 r2 = R) := by
          show _ = _
          rw [← HRR.out, RT_half wd (by rw [HN.out]; exact h2n), HN.out, HTT.out, HR1.out, HR2.out]
        have R1 : Hid (ReadsT w (.slice (some ⟨b, off, none⟩) t t) (xs.take t)) := tightT (HRD.out.front htx)
        have R2 : Hid (ReadsT w (.slice (some ⟨b, off + t, none⟩) (n - t) (n - t)) (xs.drop t)) := tightT (HRD.out.back htx)
        have L1 : Hid ((xs.take t).length = t) := by show _ = _; rw [List.length_take]; omega
        have L2 : Hid ((xs.drop t).length = n - t) := by show _ = _; rw [List.length_drop, HN.out]
        have Z1 : r1.size ≤ 32 := by rw [← HR1.out]; exact RT_le _ _
        have Z2 : r2.size ≤ 32 := by rw [← HR2.out]; exact RT_le _ _
        have C1 : Hid (∀ w', Tab w' → ReadsT w' (.slice (some ⟨b, off, none⟩) t t) (xs.take t) → Calls _ _ _ _ _) := fun w' h h' => IH.out t htn (xs.take t) _ w' L1.out h h' (HX.out.take t)
        have C2 : Hid (∀ w', Tab w' → ReadsT w' (.slice (some ⟨b, off + t, none⟩) (n - t) (n - t)) (xs.drop t) → Calls _ _ _ _ _) := fun w' h h' => IH.out (n - t) (by omega) (xs.drop t) _ w' L2.out h h' (HX.out.drop t)
        have NC : Hid (∀ w', Tab w' → Calls _ _ _ _ _) := fun w' h => pNode wd r1 r2 (by omega) w' h
        rw [HR1.out] at C1
        rw [HR2.out] at C2
        rw [HE.out] at NC
        clear Z1 Z2 h0 h1 hh HH
        go_enter Tryd.func20, Tryd.ntmps20
        go_wp2_with fail
        refine (SC.out _).mono ?_
        rintro e w0 ⟨rfl, q, hw0⟩
        have B0 : Hid (Below w.heap.size w w0) := by rw [hw0]; exact below_dN (Below.refl _ _) q
        have T0 : Hid (Tab w0) := HT.out.down B0.out
        have R10 : Hid (ReadsT w0 (.slice (some ⟨b, off, none⟩) t t) (xs.take t)) := R1.out.later B0.out
        clear hw0
        go_wp2_with fail
        refine (C1.out _ T0.out R10.out).mono ?_
        rintro e w1 ⟨rfl, hb⟩
        have B1 : Hid (Below w.heap.size w w1) := over B0.out hb
        have T1 : Hid (Tab w1) := HT.out.down B1.out
        have R21 : Hid (ReadsT w1 (.slice (some ⟨b, off + t, none⟩) (n - t) (n - t)) (xs.drop t)) := R2.out.later B1.out
        clear hb
        go_wp2_with fail
        refine (C2.out _ T1.out R21.out).mono ?_
        rintro e w2 ⟨rfl, hb⟩
        have B2 : Hid (Below w.heap.size w w2) := over B1.out hb
        have T2 : Hid (Tab w2) := T1.out.down hb
        clear hb
        go_wp2_with fail
        refine (NC.out _ T2.out).mono ?_
        rintro e w3 ⟨rfl, hb⟩
        have B3 : Hid (Below w.heap.size w w3) := over B2.out hb
        clear hb
        go_wp2
        go_ret
        exact ⟨rfl, B3.out⟩
theorem rootC : RootC Tab := fun wd v xs w _ t h f => root wd xs.length xs v w rfl t h f
end Go.Proofs.YtnnpidjpklfogaaDoor.mb

namespace Go.Proofs.YtnnpidjpklfogaaDoor.me
open Go.RowKit Go.PlainAid
open Go.Proofs.YtnnpidjpklfogaaDoor.pl Go.Proofs.YtnnpidjpklfogaaDoor.pi Go.Proofs.YtnnpidjpklfogaaDoor.pj Go.Proofs.YtnnpidjpklfogaaDoor.ca Go.Proofs.YtnnpidjpklfogaaDoor.cb Go.Proofs.YtnnpidjpklfogaaDoor.cp Go.Proofs.YtnnpidjpklfogaaDoor.cu Go.Proofs.YtnnpidjpklfogaaDoor.cq Go.Proofs.YtnnpidjpklfogaaDoor.va Go.Proofs.YtnnpidjpklfogaaDoor.ka Go.Proofs.YtnnpidjpklfogaaDoor.kb Go.Proofs.YtnnpidjpklfogaaDoor.kc Go.Proofs.YtnnpidjpklfogaaDoor.rf Go.Proofs.YtnnpidjpklfogaaDoor.ga Go.Proofs.YtnnpidjpklfogaaDoor.gb Go.Proofs.YtnnpidjpklfogaaDoor.gr Go.Proofs.YtnnpidjpklfogaaDoor.gn Go.Proofs.YtnnpidjpklfogaaDoor.ma Go.Proofs.YtnnpidjpklfogaaDoor.mb
set_option linter.unusedVariables false

set_option maxHeartbeats 1600000 in
theorem mnode (wd L I : Int) (v : Value) (xs : List ByteArray) (w : World) (hT : Tab w) (hR : ReadsT w v xs) (hx : Fits xs) :
    Calls Tryd.prog 24 #[.int .i64 wd, .agg #[.int .i64 L, .int .i64 I], v] w fun e w' => e = .returned (.tuple #[.string (NT wd L I xs), .int .i64 (NE L I xs)]) ∧ Below w.heap.size w w' := by
  have HRD : Hid (ReadsT w v xs) := hR
  have HT : Hid (Tab w) := hT
  have HX : Hid (Fits xs) := hx
  have SC : Hid (∀ w, Calls _ _ _ _ _) := fun w => span L I w
  have hnm : xs.length ≤ 4611686018427387904 := by have := hx.many; omega
  obtain ⟨a, cap, rfl, hcap, hh⟩ := hR
  by_cases hok : okA L I
  · obtain ⟨k, i, rfl, rfl, hk, hf⟩ := okA_form hok
    rw [spV_nat hok] at SC
    have e1 : ((i : Int) + 1) * 2 ^ (k : Int).toNat = (((i + 1) * 2 ^ k : Nat) : Int) := by rw [Int.toNat_natCast, cast_pow]; simp
    have e2 : ((i : Int) * 2 ^ (k : Int).toNat).toNat = i * 2 ^ k := by
      rw [Int.toNat_natCast, cast_pow, ← Int.natCast_mul, Int.toNat_natCast]
    have e3 : (i + 1) * 2 ^ k = i * 2 ^ k + 2 ^ k := by rw [Nat.add_mul, Nat.one_mul]
    have hp := p2 k
    by_cases hle : (i + 1) * 2 ^ k ≤ xs.length
    · have HN1 : Hid (NT wd k i xs = RT wd ((xs.drop (i * 2 ^ k)).take (2 ^ k))) := by
        show _ = _
        unfold NT
        rw [e1, e2, if_pos ⟨hok, by omega⟩, Int.toNat_natCast]
      have HN2 : Hid (NE k i xs = 0) := by
        show _ = _
        unfold NE
        rw [e1, if_pos hok, if_pos (by omega)]
      rw [HN1.out, HN2.out]
      clear e1 e2 HN1 HN2
      obtain ⟨f, HF⟩ : ∃ f, Hid (i * 2 ^ k = f) := ⟨_, rfl⟩
      obtain ⟨s, HS⟩ : ∃ f : Nat, Hid (2 ^ k = f) := ⟨_, rfl⟩
      obtain ⟨g, HG⟩ : ∃ g, Hid ((i + 1) * 2 ^ k = g) := ⟨_, rfl⟩
      rw [HF.out, HG.out] at SC
      rw [HG.out, HF.out, HS.out] at e3
      rw [HG.out] at hle hf
      rw [HS.out] at hp
      rw [HF.out, HS.out]
      obtain ⟨b, off, rfl, hh⟩ : ∃ b off, a = some ⟨b, off, none⟩ ∧ ∀ i, i < xs.length → w.cell? ⟨b, off + i, none⟩ = some (.string (xs.getD i ByteArray.empty)) := by
        rcases hh with h | h
        · omega
        · exact h
      have R1 : Hid (ReadsT w (.slice (some ⟨b, off + f, none⟩) s s) ((xs.drop f).take s)) := tightT (HRD.out.mid (by omega))
      have CR : Hid (∀ w', Tab w' → ReadsT w' (.slice (some ⟨b, off + f, none⟩) s s) ((xs.drop f).take s) → Calls _ _ _ _ _) := fun w' h h' => root wd _ ((xs.drop f).take s) _ w' rfl h h' ((HX.out.drop f).take s)
      obtain ⟨R, HR⟩ : ∃ r, Hid (RT wd ((xs.drop f).take s) = r) := ⟨_, rfl⟩
      rw [HR.out] at CR ⊢
      obtain ⟨n, HN⟩ : ∃ n, Hid (xs.length = n) := ⟨_, rfl⟩
      rw [HN.out] at hle hcap hnm HRD ⊢
      have g1 : ¬ (g : Int) > n := by omega
      have g2 : (g : Int) ≤ cap := by omega
      have g3 : (f : Int) ≤ g := by omega
      have g4 : g - f = s := by omega
      clear hh hok hT hx
      go_enter Tryd.func24, Tryd.ntmps24
      go_wp2_with fail
      refine (SC.out _).mono ?_
      rintro e w1 ⟨rfl, hb⟩
      have B1 : Hid (Below w.heap.size w w1) := over ((Below.refl _ _).alloc (Nat.le_refl _) _) hb
      have T1 : Hid (Tab w1) := HT.out.down B1.out
      have R11 : Hid (ReadsT w1 (.slice (some ⟨b, off + f, none⟩) s s) ((xs.drop f).take s)) := R1.out.later B1.out
      clear hb
      go_wp2_with fail
      refine (CR.out _ T1.out R11.out).mono ?_
      rintro e w2 ⟨rfl, hb⟩
      have B2 : Hid (Below w.heap.size w w2) := over B1.out hb
      clear hb
      go_wp2
      go_ret2
      exact ⟨rfl, B2.out⟩
    · have HN1 : Hid (NT wd k i xs = ByteArray.empty) := by
        show _ = _
        unfold NT
        rw [e1, if_neg (fun h => hle (by have := h.2; omega))]
      have HN2 : Hid (NE k i xs = 80) := by
        show _ = _
        unfold NE
        rw [e1, if_pos hok, if_neg (by omega)]
      rw [HN1.out, HN2.out]
      clear e1 e2 HN1 HN2
      obtain ⟨f, HF⟩ : ∃ f, Hid (i * 2 ^ k = f) := ⟨_, rfl⟩
      obtain ⟨g, HG⟩ : ∃ g, Hid ((i + 1) * 2 ^ k = g) := ⟨_, rfl⟩
      rw [HF.out, HG.out] at SC
      rw [HG.out] at hle hf
      obtain ⟨n, HN⟩ : ∃ n, Hid (xs.length = n) := ⟨_, rfl⟩
      rw [HN.out] at hle hcap hnm ⊢
      have g1 : (g : Int) > n := by omega
      clear hh hok hT hx e3 HRD
      go_enter Tryd.func24, Tryd.ntmps24
      go_wp2_with fail
      refine (SC.out _).mono ?_
      rintro e w1 ⟨rfl, hb⟩
      have B1 : Hid (Below w.heap.size w w1) := over ((Below.refl _ _).alloc (Nat.le_refl _) _) hb
      clear hb
      go_wp2
      go_ret2
      exact ⟨rfl, B1.out⟩
  · have HN1 : Hid (NT wd L I xs = ByteArray.empty) := by
      show _ = _
      unfold NT
      rw [if_neg (fun h => hok h.1)]
    have HN2 : Hid (NE L I xs = 50) := by
      show _ = _
      unfold NE
      rw [if_neg hok]
    rw [HN1.out, HN2.out]
    rw [show spV L I = .tuple #[.int .i64 0, .int .i64 0, .int .i64 50] by unfold spV; rw [if_neg hok]] at SC
    clear hh hok hT hx HRD HN1 HN2
    go_enter Tryd.func24, Tryd.ntmps24
    go_wp2_with fail
    refine (SC.out _).mono ?_
    rintro e w1 ⟨rfl, hb⟩
    have B1 : Hid (Below w.heap.size w w1) := over ((Below.refl _ _).alloc (Nat.le_refl _) _) hb
    clear hb
    go_wp2
    go_ret2
    exact ⟨rfl, B1.out⟩
theorem nodeC : NodeC Tab := fun wd L I v xs w _ _ _ t h f => mnode wd L I v xs w t h f
end Go.Proofs.YtnnpidjpklfogaaDoor.me

namespace Go.Proofs.YtnnpidjpklfogaaDoor.fe
open Go.ChangeShapes Go.WideShapes Go.ChangeAt Go.WideMaps Go.WideElems Go.RowKit
open Go.Proofs.YtnnpidjpklfogaaDoor.pl Go.Proofs.YtnnpidjpklfogaaDoor.ft Go.Proofs.YtnnpidjpklfogaaDoor.xc

theorem gD : Tryd.prog.globalNamed "math/bits.deBruijn64tab" = some 1 := by kernel_rfl
theorem tD : (Tryd.prog.globals[1]?).map (·.type) = some 102 := by kernel_rfl
theorem c64b : Tryd.prog.cellsOf 102 = 64 := by kernel_rfl
theorem cb : Tryd.prog.cellsOf 5 = 1 := by kernel_rfl
def laid3 : List (String × DataW Unit) := [("math/bits.deBruijn64tab", Rows.laid_math_bits_deBruijn64tab), ("annals/sha.starts", Rows.laid_annals_sha_starts), ("annals/sha.rounds", Rows.laid_annals_sha_rounds)]
def dbL : List Int := Lib.deBruijn64tab.map fun z : Nat => (z : Int)
theorem dbData : (Rows.laid_math_bits_deBruijn64tab : DataW Unit) = Lib.tabData .u8 dbL := by kernel_rfl
theorem atD {W : World} {cs : Array Value} (e : cs.toList = dbL.map (Value.int .u8)) (hc : ∀ j, W.cell? ⟨1, j, none⟩ = cs[j]?) : TabB W := fun j hj => by
  have hl : Lib.deBruijn64tab.length = 64 := rfl
  rw [hc j, ← Array.getElem?_toList, e]
  unfold dbL
  simp [List.getD, List.getElem?_eq_getElem (show j < Lib.deBruijn64tab.length by omega)]
theorem of_laid3 {W : World} (h : laidMetH Tryd.prog laid3 W) : TabB W ∧ St8 W 2 ∧ K64 W 4 := by
  rw [MakeChecks.laidMetH_plain _ _ _ (by kernel_rfl)] at h
  obtain ⟨ps, ⟨g2, t2, cs2, f2, p2, q2, hg2, ht2, hv2, hd2, ⟨g1, t1, cs1, f1, p1, q1, hg1, ht1, hv1, hd1, ⟨g0, t0, cs0, f0, p0, q0, hg0, ht0, hv0, hd0, _, _⟩, _⟩, _⟩, _, _⟩ := h
  obtain rfl := Option.some.inj (gD.symm.trans hg2)
  obtain rfl := Option.some.inj (gS.symm.trans hg1)
  obtain rfl := Option.some.inj (gR.symm.trans hg0)
  obtain rfl := Option.some.inj (tD.symm.trans ht2)
  obtain rfl := Option.some.inj (tS.symm.trans ht1)
  obtain rfl := Option.some.inj (tR.symm.trans ht0)
  rw [dbData] at hd2
  rw [sData] at hd1
  rw [rData] at hd0
  have e2 := Lib.cells_of_tab Tryd.underlying102 Tryd.underlying5 cb c64b hd2
  have e1 := Lib.cells_of_tab Tryd.underlying130 Tryd.underlying122 c1 cW hd1
  have e0 := Lib.cells_of_tab Tryd.underlying142 Tryd.underlying122 c1 c64 hd0
  exact ⟨atD e2 (World.var?_cell hg2 hv2), at8 e1 (World.var?_cell hg1 hv1), at64 e0 (World.var?_cell hg0 hv0)⟩
theorem door_met3 (os : Os) (args : Array Value) : laidMetH Tryd.prog laid3 ((World.doorLaid Tryd.prog 400 os).forCall (fun _ _ => 0) ⟨#[], args, []⟩).memory :=
  laidMetH_of_parts3 (fuel := 8) (laidMet_of_run' 8 (by kernel_rfl) (by kernel_rfl)) (by kernel_rfl) (by kernel_rfl)
end Go.Proofs.YtnnpidjpklfogaaDoor.fe

namespace Go.Proofs.YtnnpidjpklfogaaDoor.fh
open Go.ChangeShapes Go.WideShapes Go.ChangeAt Go.WideMaps Go.WideElems Go.RowKit
open Go.Proofs.YtnnpidjpklfogaaDoor.pl Go.Proofs.YtnnpidjpklfogaaDoor.ft Go.Proofs.YtnnpidjpklfogaaDoor.fe Go.Proofs.YtnnpidjpklfogaaDoor.xc

theorem gO : Tryd.prog.globalNamed "annals/nums.halfOnes" = some 0 := by kernel_rfl
theorem tO : (Tryd.prog.globals[0]?).map (·.type) = some 71 := by kernel_rfl
theorem c16 : Tryd.prog.cellsOf 71 = 16 := by kernel_rfl
theorem ci : Tryd.prog.cellsOf 3 = 1 := by kernel_rfl
def hoL : List Int := [0, 1, 1, 2, 1, 2, 2, 3, 1, 2, 2, 3, 2, 3, 3, 4]
theorem hoData : (Rows.laid_annals_nums_halfOnes : DataW Unit) = Lib.tabData .i64 hoL := by kernel_rfl
def TabO (w : World) : Prop := ∀ j, j < 16 → w.cell? ⟨0, j, none⟩ = some (.int .i64 (hoL.getD j 0))
theorem atO {W : World} {cs : Array Value} (e : cs.toList = hoL.map (Value.int .i64)) (hc : ∀ j, W.cell? ⟨0, j, none⟩ = cs[j]?) : TabO W := fun j hj => by
  have hl : hoL.length = 16 := rfl
  rw [hc j, ← Array.getElem?_toList, e]
  simp [List.getD, List.getElem?_eq_getElem (show j < hoL.length by omega)]
def laid4o : List (String × DataW Unit) := [("math/bits.deBruijn64tab", Rows.laid_math_bits_deBruijn64tab), ("annals/sha.starts", Rows.laid_annals_sha_starts), ("annals/sha.rounds", Rows.laid_annals_sha_rounds), ("annals/nums.halfOnes", Rows.laid_annals_nums_halfOnes)]
theorem of_laid4o {W : World} (h : laidMetH Tryd.prog laid4o W) : TabB W ∧ St8 W 2 ∧ K64 W 4 ∧ TabO W := by
  rw [MakeChecks.laidMetH_plain _ _ _ (by kernel_rfl)] at h
  obtain ⟨ps, ⟨g3, t3, cs3, f3, p3, q3, hg3, ht3, hv3, hd3, ⟨g2, t2, cs2, f2, p2, q2, hg2, ht2, hv2, hd2, ⟨g1, t1, cs1, f1, p1, q1, hg1, ht1, hv1, hd1, ⟨g0, t0, cs0, f0, p0, q0, hg0, ht0, hv0, hd0, _, _⟩, _⟩, _⟩, _⟩, _, _⟩ := h
  obtain rfl := Option.some.inj (gD.symm.trans hg3)
  obtain rfl := Option.some.inj (gS.symm.trans hg2)
  obtain rfl := Option.some.inj (gR.symm.trans hg1)
  obtain rfl := Option.some.inj (gO.symm.trans hg0)
  obtain rfl := Option.some.inj (tD.symm.trans ht3)
  obtain rfl := Option.some.inj (tS.symm.trans ht2)
  obtain rfl := Option.some.inj (tR.symm.trans ht1)
  obtain rfl := Option.some.inj (tO.symm.trans ht0)
  rw [dbData] at hd3
  rw [sData] at hd2
  rw [rData] at hd1
  rw [hoData] at hd0
  have e3 := Lib.cells_of_tab Tryd.underlying102 Tryd.underlying5 cb c64b hd3
  have e2 := Lib.cells_of_tab Tryd.underlying130 Tryd.underlying122 c1 cW hd2
  have e1 := Lib.cells_of_tab Tryd.underlying142 Tryd.underlying122 c1 c64 hd1
  have e0 := Lib.cells_of_tab Tryd.underlying71 Tryd.underlying3 ci c16 hd0
  exact ⟨atD e3 (World.var?_cell hg3 hv3), at8 e2 (World.var?_cell hg2 hv2), at64 e1 (World.var?_cell hg1 hv1), atO e0 (World.var?_cell hg0 hv0)⟩
theorem door_met4o (os : Os) (args : Array Value) : laidMetH Tryd.prog laid4o ((World.doorLaid Tryd.prog 400 os).forCall (fun _ _ => 0) ⟨#[], args, []⟩).memory :=
  laidMetH_of_parts3 (fuel := 8) (laidMet_of_run' 8 (by kernel_rfl) (by kernel_rfl)) (by kernel_rfl) (by kernel_rfl)
end Go.Proofs.YtnnpidjpklfogaaDoor.fh

namespace Go.Proofs.YtnnpidjpklfogaaDoor.tb
open Go.RowKit Go.PlainAid
open Go.Proofs.YtnnpidjpklfogaaDoor.pl Go.Proofs.YtnnpidjpklfogaaDoor.ft Go.Proofs.YtnnpidjpklfogaaDoor.pj Go.Proofs.YtnnpidjpklfogaaDoor.rf Go.Proofs.YtnnpidjpklfogaaDoor.cp Go.Proofs.YtnnpidjpklfogaaDoor.cv Go.Proofs.YtnnpidjpklfogaaDoor.xc
set_option linter.unusedVariables false

-- the tables that layer 7 asks for: sha's two and bits' one; the document's two besides
structure TB (w : World) : Prop where
  t : Tab w
  d : TabB w
theorem TB.down {w w' : World} (h : TB w) (b : Below w.heap.size w w') : TB w' := ⟨h.t.down b, h.d.later b⟩
structure TB4 (w : World) : Prop where
  t : Tab4 w
  d : TabB w
theorem TB4.down {w w' : World} (h : TB4 w) (b : Below w.heap.size w w') : TB4 w' := ⟨h.t.down b, h.d.later b⟩
theorem TB4.tb {w : World} (h : TB4 w) : TB w := ⟨h.t.t, h.d⟩
theorem TB.of {w : World} (h : TabB w ∧ St8 w 2 ∧ K64 w 4) : TB w := ⟨Tab.of ⟨h.2.1, h.2.2⟩, h.1⟩
theorem TB4.of {w : World} (h : St8 w 3 ∧ K64 w 6 ∧ TabB w ∧ St8 w 2 ∧ K64 w 4) : TB4 w := ⟨Tab4.of ⟨h.2.2.2.1, h.2.2.2.2, h.1, h.2.1⟩, h.2.2.1⟩
end Go.Proofs.YtnnpidjpklfogaaDoor.tb
