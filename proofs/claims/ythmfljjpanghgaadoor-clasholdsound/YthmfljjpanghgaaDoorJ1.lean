import Derived.Test.YthmfljjpanghgaaDoorG1
import Derived.Test.YthmfljjpanghgaaDoorG4
import Derived.Laws.BitsAllLaws
namespace Go.Proofs.YthmfljjpanghgaaDoor.gb
open Go.RowKit Go.PlainAid
open Go.Proofs.YthmfljjpanghgaaDoor.pl Go.Proofs.YthmfljjpanghgaaDoor.pi Go.Proofs.YthmfljjpanghgaaDoor.pj Go.Proofs.YthmfljjpanghgaaDoor.ca Go.Proofs.YthmfljjpanghgaaDoor.cb Go.Proofs.YthmfljjpanghgaaDoor.cp Go.Proofs.YthmfljjpanghgaaDoor.ka Go.Proofs.YthmfljjpanghgaaDoor.kb Go.Proofs.YthmfljjpanghgaaDoor.rf Go.Proofs.YthmfljjpanghgaaDoor.ga
set_option linter.unusedVariables false

-- the root of leaves; the proofs
def RT (wd : Int) (xs : List ByteArray) : ByteArray := rootP (EF wd) (NF wd) (xs.map (LF wd))
theorem RT_nil (wd : Int) : RT wd [] = EF wd := rootP_nil _ _
theorem RT_one (wd : Int) (x : ByteArray) : RT wd [x] = LF wd x := rootP_one _ _ _
theorem RT_half (wd : Int) {xs : List ByteArray} (h : 2 ≤ xs.length) : RT wd xs = NF wd (RT wd (xs.take (half xs.length))) (RT wd (xs.drop (half xs.length))) := by
  unfold RT
  rw [rootP_half _ _ (l := xs.map (LF wd)) (by rw [List.length_map]; exact h), List.length_map, ← List.map_take, ← List.map_drop]
theorem RT_size (wd : Int) (xs : List ByteArray) : (RT wd xs).size = wid wd := by
  rcases Nat.lt_or_ge xs.length 2 with e | e
  · match xs, e with
    | [], _ => rw [RT_nil]; exact cutS_size _ _
    | [x], _ => rw [RT_one]; exact cutS_size _ _
  · rw [RT_half wd e]; exact cutS_size _ _
theorem RT_le (wd : Int) (xs : List ByteArray) : (RT wd xs).size ≤ 32 := by rw [RT_size]; exact wid_le wd
theorem RT_pos (wd : Int) (xs : List ByteArray) : 1 ≤ (RT wd xs).size := by rw [RT_size]; unfold wid; split <;> omega
def PTn (wd : Int) (i : Nat) (xs : List ByteArray) : List ByteArray := pathP (EF wd) (NF wd) i (xs.map (LF wd))
theorem PTn_one (wd : Int) (i : Nat) {xs : List ByteArray} (h : ¬ 2 ≤ xs.length) : PTn wd i xs = [] := pathP_one _ _ (by rw [List.length_map]; exact h)
theorem PTn_low (wd : Int) {i : Nat} {xs : List ByteArray} (h : 2 ≤ xs.length) (hi : i < half xs.length) : PTn wd i xs = PTn wd i (xs.take (half xs.length)) ++ [RT wd (xs.drop (half xs.length))] := by
  unfold PTn RT
  rw [pathP_low _ _ (l := xs.map (LF wd)) (by rw [List.length_map]; exact h) (by rw [List.length_map]; exact hi), List.length_map, ← List.map_take, ← List.map_drop]
theorem PTn_high (wd : Int) {i : Nat} {xs : List ByteArray} (h : 2 ≤ xs.length) (hi : ¬ i < half xs.length) : PTn wd i xs = PTn wd (i - half xs.length) (xs.drop (half xs.length)) ++ [RT wd (xs.take (half xs.length))] := by
  unfold PTn RT
  rw [pathP_high _ _ (l := xs.map (LF wd)) (by rw [List.length_map]; exact h) (by rw [List.length_map]; exact hi), List.length_map, ← List.map_take, ← List.map_drop]
theorem PTn_len (wd : Int) (i : Nat) (xs : List ByteArray) : (PTn wd i xs).length ≤ xs.length - 1 := pathP_len _ _ _ i _ (List.length_map _)
def QTn (wd : Int) (m : Nat) (xs : List ByteArray) (b : Bool) : List ByteArray := subP (EF wd) (NF wd) m (xs.map (LF wd)) b
theorem QTn_all (wd : Int) {m : Nat} {xs : List ByteArray} (b : Bool) (h : ¬ m < xs.length) : QTn wd m xs b = if b then [] else [RT wd xs] := subP_all _ _ (by rw [List.length_map]; exact h)
theorem QTn_low (wd : Int) {m : Nat} {xs : List ByteArray} (b : Bool) (h : m < xs.length) (h2 : 2 ≤ xs.length) (hm : m ≤ half xs.length) : QTn wd m xs b = QTn wd m (xs.take (half xs.length)) b ++ [RT wd (xs.drop (half xs.length))] := by
  unfold QTn RT
  rw [subP_low _ _ (l := xs.map (LF wd)) (by rw [List.length_map]; exact h) (by rw [List.length_map]; exact h2) (by rw [List.length_map]; exact hm), List.length_map, ← List.map_take, ← List.map_drop]
theorem QTn_high (wd : Int) {m : Nat} {xs : List ByteArray} (b : Bool) (h : m < xs.length) (h2 : 2 ≤ xs.length) (hm : ¬ m ≤ half xs.length) : QTn wd m xs b = QTn wd (m - half xs.length) (xs.drop (half xs.length)) false ++ [RT wd (xs.take (half xs.length))] := by
  unfold QTn RT
  rw [subP_high _ _ (l := xs.map (LF wd)) (by rw [List.length_map]; exact h) (by rw [List.length_map]; exact h2) (by rw [List.length_map]; exact hm), List.length_map, ← List.map_take, ← List.map_drop]
theorem QTn_len (wd : Int) (m : Nat) (xs : List ByteArray) (b : Bool) (h : 1 ≤ xs.length) : (QTn wd m xs b).length ≤ xs.length := subP_len _ _ _ m _ b (List.length_map _) h
theorem RT_take (wd : Int) {xs : List ByteArray} {m : Nat} (h2 : 2 ≤ xs.length) (h : half xs.length < m) (hm : m < xs.length) : RT wd (xs.take m) = NF wd (RT wd (xs.take (half xs.length))) (RT wd ((xs.drop (half xs.length)).take (m - half xs.length))) := by
  have := root_take (EF wd) (NF wd) (l := xs.map (LF wd)) (m := m) (by rw [List.length_map]; exact h2) (by rw [List.length_map]; exact h) (by rw [List.length_map]; exact hm)
  rw [List.length_map] at this
  unfold RT
  rw [List.map_take, this, List.map_take, List.map_take, List.map_drop]
-- what the four answer
def PT (wd i : Int) (xs : List ByteArray) : List ByteArray := if 0 ≤ i ∧ i < xs.length then PTn wd i.toNat xs else []
def PE (i : Int) (xs : List ByteArray) : Int := if 0 ≤ i ∧ i < xs.length then 0 else 81
def QT (wd m : Int) (xs : List ByteArray) : List ByteArray := if 1 ≤ m ∧ m ≤ xs.length then QTn wd m.toNat xs true else []
def QE (m : Int) (xs : List ByteArray) : Int := if 0 ≤ m ∧ m ≤ xs.length then 0 else 80
theorem PT_len (wd i : Int) (xs : List ByteArray) : (PT wd i xs).length ≤ xs.length := by
  unfold PT
  split
  · have := PTn_len wd i.toNat xs; omega
  · simp
theorem QT_len (wd m : Int) (xs : List ByteArray) : (QT wd m xs).length ≤ xs.length := by
  unfold QT
  split
  · exact QTn_len wd m.toNat xs true (by omega)
  · simp
def NT (wd L I : Int) (xs : List ByteArray) : ByteArray := if okA L I ∧ (I + 1) * 2 ^ L.toNat ≤ xs.length then RT wd ((xs.drop (I * 2 ^ L.toNat).toNat).take (2 ^ L.toNat)) else ByteArray.empty
def NE (L I : Int) (xs : List ByteArray) : Int := if okA L I then (if (I + 1) * 2 ^ L.toNat ≤ xs.length then 0 else 80) else 50
-- leaves that a machine can hold
structure Fits (xs : List ByteArray) : Prop where
  each : ∀ x ∈ xs, x.size ≤ 140737488352000
  many : xs.length * 16 ≤ 140737488351232
theorem Fits.take {xs : List ByteArray} (h : Fits xs) (k : Nat) : Fits (xs.take k) := ⟨fun x hx => h.each x (List.mem_of_mem_take hx), by have := h.many; rw [List.length_take]; omega⟩
theorem Fits.drop {xs : List ByteArray} (h : Fits xs) (k : Nat) : Fits (xs.drop k) := ⟨fun x hx => h.each x (List.mem_of_mem_drop hx), by have := h.many; rw [List.length_drop]; omega⟩
-- a list of texts and an error
def Listed (w w' : World) (e : Ending) (ts : List ByteArray) (c : Int) : Prop := ∃ u, e = .returned (.tuple #[u, .int .i64 c]) ∧ w'.ownsRow w.heap.size 9 1 u ts.length (ts.map Value.string)
end Go.Proofs.YthmfljjpanghgaaDoor.gb

namespace Go.Proofs.YthmfljjpanghgaaDoor.gr
open Go.RowKit Go.PlainAid
open Go.Proofs.YthmfljjpanghgaaDoor.cp Go.Proofs.YthmfljjpanghgaaDoor.ka Go.Proofs.YthmfljjpanghgaaDoor.gb
set_option linter.unusedVariables false

-- what mth.Root promises (T: what it asks of the world)
def RootC (T : World → Prop) : Prop := ∀ (wd : Int) (v : Value) (xs : List ByteArray) (w : World), i64 wd → T w → ReadsT w v xs → Fits xs → Calls Tryd.prog 12 #[.int .i64 wd, v] w fun e w' => e = .returned (.string (RT wd xs)) ∧ Below w.heap.size w w'
end Go.Proofs.YthmfljjpanghgaaDoor.gr

namespace Go.Proofs.YthmfljjpanghgaaDoor.gp
open Go.RowKit Go.PlainAid
open Go.Proofs.YthmfljjpanghgaaDoor.cp Go.Proofs.YthmfljjpanghgaaDoor.ka Go.Proofs.YthmfljjpanghgaaDoor.gb
set_option linter.unusedVariables false

-- what mth.Path promises (T: what it asks of the world)
def PathC (T : World → Prop) : Prop := ∀ (wd i : Int) (v : Value) (xs : List ByteArray) (w : World), i64 wd → i64 i → T w → ReadsT w v xs → Fits xs → Calls Tryd.prog 13 #[.int .i64 wd, .int .i64 i, v] w fun e w' => Listed w w' e (PT wd i xs) (PE i xs) ∧ Below w.heap.size w w'
end Go.Proofs.YthmfljjpanghgaaDoor.gp

namespace Go.Proofs.YthmfljjpanghgaaDoor.gq
open Go.RowKit Go.PlainAid
open Go.Proofs.YthmfljjpanghgaaDoor.cp Go.Proofs.YthmfljjpanghgaaDoor.ka Go.Proofs.YthmfljjpanghgaaDoor.gb
set_option linter.unusedVariables false

-- what mth.Proof promises (T: what it asks of the world)
def ProofC (T : World → Prop) : Prop := ∀ (wd m : Int) (v : Value) (xs : List ByteArray) (w : World), i64 wd → i64 m → T w → ReadsT w v xs → Fits xs → Calls Tryd.prog 14 #[.int .i64 wd, .int .i64 m, v] w fun e w' => Listed w w' e (QT wd m xs) (QE m xs) ∧ Below w.heap.size w w'
end Go.Proofs.YthmfljjpanghgaaDoor.gq

namespace Go.Proofs.YthmfljjpanghgaaDoor.ma
open Go.RowKit Go.PlainAid
open Go.Proofs.YthmfljjpanghgaaDoor.ca Go.Proofs.YthmfljjpanghgaaDoor.cb Go.Proofs.YthmfljjpanghgaaDoor.cp Go.Proofs.YthmfljjpanghgaaDoor.ka Go.Proofs.YthmfljjpanghgaaDoor.ga Go.Proofs.YthmfljjpanghgaaDoor.gb Go.Proofs.YthmfljjpanghgaaDoor.xa Go.Proofs.YthmfljjpanghgaaDoor.xb
set_option linter.unusedVariables false

theorem len_int (x : Int) (w : World) (h0 : 0 ≤ x) (h1 : x ≤ 9223372036854775807) :
    Calls Tryd.prog 109 #[.int .u64 x] w fun e w' => e = .returned (.int .i64 (Lib.bitLen x.toNat)) ∧ w' = w := by
  have C : Hid (Calls _ _ _ _ _) := len_any x w h0 (by omega)
  obtain ⟨b, HB⟩ : ∃ b, Hid (Lib.bitLen x.toNat = b) := ⟨_, rfl⟩
  rw [HB.out] at C ⊢
  go_enter Tryd.func109, Tryd.ntmps109
  go_wp2_with fail
  refine C.out.mono ?_
  rintro e w1 ⟨rfl, hw⟩
  subst hw
  go_wp2
  go_ret
  exact ⟨rfl, rfl⟩
theorem half_len {n : Nat} (h : 2 ≤ n) (hn : n ≤ 4611686018427387904) : ∃ l, Lib.bitLen (n - 1) = l + 1 ∧ half n = 2 ^ l ∧ l ≤ 62 := by
  obtain ⟨g1, g2⟩ := len_spec (n - 1) (by omega)
  obtain ⟨g3, g4⟩ := g2 (by omega)
  have g5 := len_le63 (n - 1) (by omega)
  obtain ⟨l, hl⟩ : ∃ l, Lib.bitLen (n - 1) = l + 1 := ⟨Lib.bitLen (n - 1) - 1, by omega⟩
  rw [hl] at g1 g3 g5
  rw [Nat.add_sub_cancel] at g3
  exact ⟨l, hl, half_eq (by omega) (by omega), by omega⟩
-- the program's split
theorem msplit (n : Nat) (h : 2 ≤ n) (hn : n ≤ 4611686018427387904) (w : World) :
    Calls Tryd.prog 73 #[.int .i64 n] w fun e w' => e = .returned (.int .i64 (half n : Nat)) ∧ w' = w := by
  obtain ⟨l, hl, he, h62⟩ := half_len h hn
  have hlt := (half_lt h).2.1
  have C : Hid (∀ w, Calls _ _ _ _ _) := fun w => len_int ((n : Int) - 1) w (by omega) (by omega)
  rw [show ((n : Int) - 1).toNat = n - 1 by omega, hl] at C
  obtain ⟨t, HT⟩ : ∃ t : Nat, Hid (2 ^ l = t) := ⟨_, rfl⟩
  have hT : (2 : Int) ^ l = (t : Int) := by rw [cast_pow, HT.out]
  rw [he, HT.out] at hlt ⊢
  have hw1 : ((l + 1 : Nat) : Int) = (l : Int) + 1 := by omega
  have hw2 : IntKind.u64.wrap (l : Int) = l := u64_is l (by omega)
  have hw3 : min (l : Int).toNat 64 = l := by omega
  have hw4 : min l 64 = l := by omega
  have hw5 : IntKind.i64.wrap (t : Int) = t := wrap_is t (by omega)
  rw [hw1] at C
  clear hl he
  go_enter Tryd.func73, Tryd.ntmps73
  go_wp2_with fail
  refine (C.out _).mono ?_
  rintro e w1 ⟨rfl, hw⟩
  subst hw
  go_wp2
  go_ret
  exact ⟨rfl, rfl⟩
-- a list without room behind it
theorem tightT {w : World} {a : Option Addr} {n cap : Nat} {xs : List ByteArray} (h : ReadsT w (.slice a n cap) xs) : ReadsT w (.slice a n n) xs := by
  obtain ⟨a', cap', e, hc, hh⟩ := h
  injection e with e1 e2 e3
  subst e1 e2
  exact ⟨_, _, rfl, Nat.le_refl _, hh⟩
theorem parts (b off n cap : Nat) (h : 2 ≤ n) (hn : n ≤ 4611686018427387904) (hc : n ≤ cap) (w : World) :
    Calls Tryd.prog 39 #[.slice (some ⟨b, off, none⟩) n cap] w fun e w' => e = .returned (.tuple #[.slice (some ⟨b, off, none⟩) (half n) (half n), .slice (some ⟨b, off + half n, none⟩) (n - half n) (n - half n)]) ∧ ∃ m, w' = w.drewN m := by
  have C : Hid (∀ w, Calls _ _ _ _ _) := fun w => msplit n h hn w
  have hh := half_lt h
  obtain ⟨t, HT⟩ : ∃ t : Nat, Hid (half n = t) := ⟨_, rfl⟩
  rw [HT.out] at C hh ⊢
  obtain ⟨h1, h2, h3⟩ := hh
  have g1 : (t : Int) ≤ cap := by omega
  have g2 : (t : Int) ≤ n := by omega
  have g3 : (n : Int) ≤ cap := by omega
  have ent : ((n - t : Nat) : Int) = (n : Int) - t := by omega
  go_enter Tryd.func39, Tryd.ntmps39
  go_wp2_with fail
  refine (C.out _).mono ?_
  rintro e w1 ⟨rfl, hw⟩
  subst hw
  go_wp2_with fail
  go_quiet (fail)
  go_wp2
  go_ret2
  exact ⟨rfl, _, rfl⟩
end Go.Proofs.YthmfljjpanghgaaDoor.ma

namespace Go.Proofs.YthmfljjpanghgaaDoor.mb
open Go.RowKit Go.PlainAid
open Go.Proofs.YthmfljjpanghgaaDoor.pl Go.Proofs.YthmfljjpanghgaaDoor.pi Go.Proofs.YthmfljjpanghgaaDoor.pj Go.Proofs.YthmfljjpanghgaaDoor.ca Go.Proofs.YthmfljjpanghgaaDoor.cb Go.Proofs.YthmfljjpanghgaaDoor.cp Go.Proofs.YthmfljjpanghgaaDoor.ka Go.Proofs.YthmfljjpanghgaaDoor.kb Go.Proofs.YthmfljjpanghgaaDoor.kc Go.Proofs.YthmfljjpanghgaaDoor.rf Go.Proofs.YthmfljjpanghgaaDoor.ga Go.Proofs.YthmfljjpanghgaaDoor.gb Go.Proofs.YthmfljjpanghgaaDoor.gr Go.Proofs.YthmfljjpanghgaaDoor.ma
set_option linter.unusedVariables false

set_option maxHeartbeats 3200000 in
set_option maxRecDepth 100000 in
theorem root (wd : Int) (n : Nat) : ∀ (xs : List ByteArray) (v : Value) (w : World), xs.length = n → Tab w → ReadsT w v xs → Fits xs →
    Calls Tryd.prog 12 #[.int .i64 wd, v] w fun e w' => e = .returned (.string (RT wd xs)) ∧ Below w.heap.size w w' := by
  induction n using Nat.strongRecOn with
  | ind n ih =>
    intro xs v w hn hT hR hx
    have HT : Hid (Tab w) := hT
    have HRD : Hid (ReadsT w v xs) := hR
    have HX : Hid (Fits xs) := hx
    have HN : Hid (xs.length = n) := hn
    have hnm : n ≤ 4611686018427387904 := by have := hx.many; omega
    have IH : Hid (∀ (m : Nat), m < n → ∀ (xs : List ByteArray) (v : Value) (w : World), xs.length = m → Tab w → ReadsT w v xs → Fits xs →
      Calls Tryd.prog 12 #[.int .i64 wd, v] w fun e w' => e = .returned (.string (RT wd xs)) ∧ Below w.heap.size w w') := ih
    obtain ⟨a, cap, rfl, hcap, hh⟩ := hR
    rw [HN.out] at hcap hh HRD ⊢
    have HH : Hid (n = 0 ∨ ∃ b off, a = some ⟨b, off, none⟩ ∧ ∀ i, i < n → w.cell? ⟨b, off + i, none⟩ = some (.string (xs.getD i ByteArray.empty))) := hh
    obtain ⟨R, HRR⟩ : ∃ R, Hid (RT wd xs = R) := ⟨_, rfl⟩
    rw [HRR.out]
    clear ih hn hT hx hh
    by_cases h0 : n = 0
    · have EC : Hid (∀ w, Tab w → Calls _ _ _ _ _) := fun w hw => pEmpty wd w hw
      have q0 : ((n : Int) == 0) = true := by rw [beq_iff_eq]; omega
      have HE : Hid (EF wd = R) := by
        show _ = _
        have : xs = [] := List.length_eq_zero_iff.1 (HN.out.trans h0)
        rw [← HRR.out, this, RT_nil]
      rw [HE.out] at EC
      clear h0
      go_enter Tryd.func12, Tryd.ntmps12
      go_wp2_with fail
      refine (EC.out _ HT.out).mono ?_
      rintro e w1 ⟨rfl, hb⟩
      have B1 : Hid (Below w.heap.size w w1) := hb
      clear hb
      go_wp2
      go_ret
      exact ⟨rfl, B1.out⟩
    · obtain ⟨b, off, rfl, hh⟩ : ∃ b off, a = some ⟨b, off, none⟩ ∧ ∀ i, i < n → w.cell? ⟨b, off + i, none⟩ = some (.string (xs.getD i ByteArray.empty)) := by
        rcases HH.out with h | h
        · exact absurd h h0
        · exact h
      have q0 : ((n : Int) == 0) = false := by rw [beq_eq_false_iff_ne]; omega
      by_cases h1 : n = 1
      · have q1 : ((n : Int) == 1) = true := by rw [beq_iff_eq]; omega
        have c0 := hh 0 (by omega)
        rw [Nat.add_zero] at c0
        have hn1 : (0 : Int) < n := by omega
        obtain ⟨x, hx⟩ := List.length_eq_one_iff.1 (HN.out.trans h1)
        have hxs : x.size ≤ 140737488352000 := HX.out.each x (by rw [hx]; simp)
        rw [hx] at c0
        have c1 : w.cell? ⟨b, off, none⟩ = some (.string x) := c0
        have LC : Hid (∀ w, Tab w → Calls _ _ _ _ _) := fun w hw => pLeaf wd x hxs w hw
        have HE : Hid (LF wd x = R) := by
          show _ = _
          rw [← HRR.out, hx, RT_one]
        rw [HE.out] at LC
        clear h0 h1 hh HH c0 hx hxs
        go_enter Tryd.func12, Tryd.ntmps12
        go_wp2_with fail
        refine (LC.out _ HT.out).mono ?_
        rintro e w1 ⟨rfl, hb⟩
        have B1 : Hid (Below w.heap.size w w1) := hb
        clear hb
        go_wp2
        go_ret
        exact ⟨rfl, B1.out⟩
      · have q1 : ((n : Int) == 1) = false := by rw [beq_eq_false_iff_ne]; omega
        have h2n : 2 ≤ n := by omega
        have SC : Hid (∀ w, Calls _ _ _ _ _) := fun w => parts b off n cap h2n hnm hcap w
        obtain ⟨t, HTT⟩ : ∃ t, Hid (half n = t) := ⟨_, rfl⟩
        rw [HTT.out] at SC
        have hh2 := half_lt h2n
        rw [HTT.out] at hh2
        obtain ⟨ht1, htn, _⟩ := hh2
        have htx : t ≤ xs.length := by rw [HN.out]; omega
        obtain ⟨r1, HR1⟩ : ∃ r, Hid (RT wd (xs.take t) = r) := ⟨_, rfl⟩
        obtain ⟨r2, HR2⟩ : ∃ r, Hid (RT wd (xs.drop t) = r) := ⟨_, rfl⟩
        have HE : Hid (NF wd r1 r2 = R) := by
          show _ = _
          rw [← HRR.out, RT_half wd (by rw [HN.out]; exact h2n), HN.out, HTT.out, HR1.out, HR2.out]
        have R1 : Hid (ReadsT w (.slice (some ⟨b, off, none⟩) t t) (xs.take t)) := tightT (HRD.out.front htx)
        have R2 : Hid (ReadsT w (.slice (some ⟨b, off + t, none⟩) (n - t) (n - t)) (xs.drop t)) := tightT (HRD.out.back htx)
        have L1 : Hid ((xs.take t).length = t) := by show _ = _; rw [List.length_take]; omega
        have L2 : Hid ((xs.drop t).length = n - t) := by show _ = _; rw [List.length_drop, HN.out]
        have Z1 : r1.size ≤ 32 := by rw [← HR1.out]; exact RT_le _ _
        have Z2 : r2.size ≤ 32 := by rw [← HR2.out]; exact RT_le _ _
        have C1 : Hid (∀ w', Tab w' → ReadsT w' (.slice (some ⟨b, off, none⟩) t t) (xs.take t) → Calls _ _ _ _ _) := fun w' h h' => IH.out t htn (xs.take t) _ w' L1.out h h' (HX.out.take t)
        have C2 : Hid (∀ w', Tab w' → ReadsT w' (.slice (some ⟨b, off + t, none⟩) (n - t) (n - t)) (xs.drop t) → Calls _ _ _ _ _) := fun w' h h' => IH.out (n - t) (by omega) (xs.drop t) _ w' L2.out h h' (HX.out.drop t)
        have NC : Hid (∀ w', Tab w' → Calls _ _ _ _ _) := fun w' h => pNode wd r1 r2 (by omega) w' h
        rw [HR1.out] at C1
        rw [HR2.out] at C2
        rw [HE.out] at NC
        clear Z1 Z2 h0 h1 hh HH
        go_enter Tryd.func12, Tryd.ntmps12
        go_wp2_with fail
        refine (SC.out _).mono ?_
        rintro e w0 ⟨rfl, q, hw0⟩
        have B0 : Hid (Below w.heap.size w w0) := by rw [hw0]; exact below_dN (Below.refl _ _) q
        have T0 : Hid (Tab w0) := HT.out.down B0.out
        have R10 : Hid (ReadsT w0 (.slice (some ⟨b, off, none⟩) t t) (xs.take t)) := R1.out.later B0.out
        clear hw0
        go_wp2_with fail
        refine (C1.out _ T0.out R10.out).mono ?_
        rintro e w1 ⟨rfl, hb⟩
        have B1 : Hid (Below w.heap.size w w1) := over B0.out hb
        have T1 : Hid (Tab w1) := HT.out.down B1.out
        have R21 : Hid (ReadsT w1 (.slice (some ⟨b, off + t, none⟩) (n - t) (n - t)) (xs.drop t)) := R2.out.later B1.out
        clear hb
        go_wp2_with fail
        refine (C2.out _ T1.out R21.out).mono ?_
        rintro e w2 ⟨rfl, hb⟩
        have B2 : Hid (Below w.heap.size w w2) := over B1.out hb
        have T2 : Hid (Tab w2) := T1.out.down hb
        clear hb
        go_wp2_with fail
        refine (NC.out _ T2.out).mono ?_
        rintro e w3 ⟨rfl, hb⟩
        have B3 : Hid (Below w.heap.size w w3) := over B2.out hb
        clear hb
        go_wp2
        go_ret
        exact ⟨rfl, B3.out⟩
theorem rootC : RootC Tab := fun wd v xs w _ t h f => root wd xs.length xs v w rfl t h f
end Go.Proofs.YthmfljjpanghgaaDoor.mb

namespace Go.Proofs.YthmfljjpanghgaaDoor.mc
open Go.RowKit Go.PlainAid
open Go.Proofs.YthmfljjpanghgaaDoor.pl Go.Proofs.YthmfljjpanghgaaDoor.pi Go.Proofs.YthmfljjpanghgaaDoor.pj Go.Proofs.YthmfljjpanghgaaDoor.ca Go.Proofs.YthmfljjpanghgaaDoor.cb Go.Proofs.YthmfljjpanghgaaDoor.cp Go.Proofs.YthmfljjpanghgaaDoor.ka Go.Proofs.YthmfljjpanghgaaDoor.kb Go.Proofs.YthmfljjpanghgaaDoor.kc Go.Proofs.YthmfljjpanghgaaDoor.rf Go.Proofs.YthmfljjpanghgaaDoor.ga Go.Proofs.YthmfljjpanghgaaDoor.gb Go.Proofs.YthmfljjpanghgaaDoor.gr Go.Proofs.YthmfljjpanghgaaDoor.ma Go.Proofs.YthmfljjpanghgaaDoor.mb Go.Proofs.YthmfljjpanghgaaDoor.gp
set_option linter.unusedVariables false

-- the literal that puts a side's root behind hashes
abbrev PutV (p : Nat) : Value := .func (.func 74) #[] #[.pointer (some ⟨p, 0, none⟩)]
abbrev Box (w : World) (p : Nat) (wd : Int) : Prop := w.cell? ⟨p, 0, none⟩ = some (.int .i64 wd)
theorem box_later {w w' : World} {p : Nat} {wd : Int} (h : Box w p wd) (hb : Below w.heap.size w w') : Box w' p wd :=
  (hb.cell (p := ⟨p, 0, none⟩) (World.block_lt_of_cell? _ _ h)).trans h
set_option maxHeartbeats 1600000 in
theorem put (wd : Int) (p B m : Nat) (u v : Value) (ts xs : List ByteArray) (w : World) (hT : Tab w) (hB : B ≤ w.heap.size) (hp : Box w p wd) (hu : w.ownsRow B 9 1 u m (ts.map Value.string)) (hR : ReadsT w v xs) (hx : Fits xs) (hm : (m + 1) * 16 ≤ 140737488351232) :
    Calls Tryd.prog 74 #[u, v, .pointer (some ⟨p, 0, none⟩)] w fun e w' => (∃ u', e = .returned u' ∧ w'.ownsRow B 9 1 u' (m + 1) ((ts ++ [RT wd xs]).map Value.string)) ∧ Below B w w' := by
  obtain ⟨i9, hi, hz0, hz1, hz2⟩ := info_parts hi9
  have HIN : Hid (_ ∧ _ ∧ _ ∧ _) := ⟨hi, hz0, hz1, hz2⟩
  have C : Hid (Calls _ _ _ _ _) := root wd xs.length xs v w rfl hT hR hx
  have HU : Hid (w.ownsRow B 9 1 u m (ts.map Value.string)) := hu
  have HB0 : Hid (B ≤ w.heap.size) := hB
  obtain ⟨r, HR⟩ : ∃ r, Hid (RT wd xs = r) := ⟨_, rfl⟩
  rw [HR.out] at C ⊢
  obtain ⟨ua, uc, rfl⟩ := own_formS hu
  obtain ⟨a, cap, rfl, hcap, hh⟩ := hR
  have c0 : w.cell? ⟨p, 0, none⟩ = some (.int .i64 wd) := hp
  clear hT hB hp hu hx hh hcap hi hz0 hz1 hz2
  go_enter Tryd.func74, Tryd.ntmps74
  go_wp2_with fail
  refine C.out.mono ?_
  rintro e w1 ⟨rfl, hb⟩
  have B1 : Hid (Below B w w1) := hb.mono HB0.out
  have S1 : Hid (B ≤ w1.heap.size) := Nat.le_trans HB0.out hb.size
  have OX : Hid ((w1.alloc (.cells #[.string r] 9)).ownsRow B 9 1 (.slice ua m uc) m (ts.map Value.string)) := (own_later HU.out hb).alloc _
  have BX : Hid (Below B w (w1.alloc (.cells #[.string r] 9))) := B1.out.alloc S1.out _
  have SX : Hid (B ≤ (w1.alloc (.cells #[.string r] 9)).heap.size) := by have := S1.out; show _ ≤ _; simp; omega
  clear hb
  go_wp2_with (at_builtin; refine wpList_append_own _ rfl _ _ 23 rfl B 9 i9 (.string ByteArray.empty) 1 16 Tryd.underlying23 HIN.out.1 HIN.out.2.1 HIN.out.2.2.1 HIN.out.2.2.2 rfl (by decide) _ m _ rfl OX.out ⟨w1.heap.size, 0, none⟩ 1 1 [.string r] rfl rfl (new_text _ _ _) (one_text _) (by unfold maxLen; omega) (by omega) SX.out ?_; intro p' w5 ho hg hnn; have HO5 : Hid (w5.ownsRow B 9 1 p' (m + 1) (ts.map Value.string ++ [.string r])) := ho; have HB5 : Hid (Below B w w5) := Below.grown BX.out hg SX.out (fun jj hj => (OX.out.lt _ hj).1); clear ho hg hnn)
  go_ret
  refine ⟨⟨p', rfl, ?_⟩, HB5.out⟩
  rw [List.map_append]
  exact HO5.out
theorem behind (wd : Int) (w : World) :
    Calls Tryd.prog 42 #[.int .i64 wd] w fun e w' => e = .returned (PutV w.heap.size) ∧ Box w' w.heap.size wd ∧ Below w.heap.size w w' := by
  have HX : Hid (Box (w.alloc (.cells #[.int .i64 wd] 3)) w.heap.size wd) := by show _ = _; rw [World.cell?_alloc_at _ _ _ _ rfl]; rfl
  have B0 : Hid (Below w.heap.size w (w.alloc (.cells #[.int .i64 wd] 3))) := (Below.refl _ _).alloc (Nat.le_refl _) _
  have hmf : ∀ (fn : Fn) (first cap : Array Value) (w : World), (Instr.makeFunc fn first cap).run Tryd.prog w = .ok (.func fn first cap) w := fun _ _ _ _ => rfl
  go_enter Tryd.func42, Tryd.ntmps42
  go_wp2
  go_ret
  exact ⟨rfl, HX.out, B0.out⟩
set_option maxHeartbeats 3200000 in
set_option maxRecDepth 100000 in
theorem path (wd : Int) (n : Nat) : ∀ (xs : List ByteArray) (i : Nat) (v : Value) (p : Nat) (w : World), xs.length = n → 1 ≤ n → i < n → Tab w → Box w p wd → ReadsT w v xs → Fits xs →
      Calls Tryd.prog 41 #[.int .i64 i, v, PutV p] w fun e w' => (∃ u, e = .returned u ∧ w'.ownsRow w.heap.size 9 1 u (PTn wd i xs).length ((PTn wd i xs).map Value.string)) ∧ Below w.heap.size w w' := by
  induction n using Nat.strongRecOn with
  | ind n ih =>
    intro xs i v p w hn hn1 hin hT hP hR hx
    have HT : Hid (Tab w) := hT
    have HP : Hid (Box w p wd) := hP
    have HRD : Hid (ReadsT w v xs) := hR
    have HX : Hid (Fits xs) := hx
    have HN : Hid (xs.length = n) := hn
    have hnm : n * 16 ≤ 140737488351232 := by have := hx.many; rw [hn] at this; exact this
    have IH : Hid (∀ (m : Nat), m < n → ∀ (xs : List ByteArray) (i : Nat) (v : Value) (p : Nat) (w : World), xs.length = m → 1 ≤ m → i < m → Tab w → Box w p wd → ReadsT w v xs → Fits xs →
      Calls Tryd.prog 41 #[.int .i64 i, v, PutV p] w fun e w' => (∃ u, e = .returned u ∧ w'.ownsRow w.heap.size 9 1 u (PTn wd i xs).length ((PTn wd i xs).map Value.string)) ∧ Below w.heap.size w w') := ih
    obtain ⟨a, cap, rfl, hcap, hh⟩ := hR
    rw [HN.out] at hcap hh HRD ⊢
    have HH : Hid (n = 0 ∨ ∃ b off, a = some ⟨b, off, none⟩ ∧ ∀ i, i < n → w.cell? ⟨b, off + i, none⟩ = some (.string (xs.getD i ByteArray.empty))) := hh
    obtain ⟨P, HPP⟩ : ∃ P, Hid (PTn wd i xs = P) := ⟨_, rfl⟩
    rw [HPP.out]
    clear ih hn hT hP hx hh
    by_cases h1 : n = 1
    · have q1 : ((n : Int) == 1) = true := by rw [beq_iff_eq]; omega
      have HE : Hid (P = []) := by show _ = _; rw [← HPP.out]; exact PTn_one wd i (by rw [HN.out]; omega)
      clear h1
      go_enter Tryd.func41, Tryd.ntmps41
      go_wp2
      go_ret
      refine ⟨⟨_, rfl, ?_⟩, Below.refl _ _⟩
      rw [HE.out]
      exact World.ownsRow_nil _ _ _ _
    · obtain ⟨b, off, rfl, hh⟩ : ∃ b off, a = some ⟨b, off, none⟩ ∧ ∀ i, i < n → w.cell? ⟨b, off + i, none⟩ = some (.string (xs.getD i ByteArray.empty)) := by
        rcases HH.out with h | h
        · omega
        · exact h
      have h2n : 2 ≤ n := by omega
      have SC : Hid (∀ w, Calls _ _ _ _ _) := fun w => parts b off n cap h2n (by omega) hcap w
      obtain ⟨t, HTT⟩ : ∃ t, Hid (half n = t) := ⟨_, rfl⟩
      rw [HTT.out] at SC
      have hh2 := half_lt h2n
      rw [HTT.out] at hh2
      obtain ⟨ht1, htn, _⟩ := hh2
      have htx : t ≤ xs.length := by rw [HN.out]; omega
      have L1 : Hid ((xs.take t).length = t) := by show _ = _; rw [List.length_take]; omega
      have L2 : Hid ((xs.drop t).length = n - t) := by show _ = _; rw [List.length_drop, HN.out]
      have q1 : ((n : Int) == 1) = false := by rw [beq_eq_false_iff_ne]; omega
      clear h1
      by_cases hik : i < t
      · have RP : Hid (ReadsT w (.slice (some ⟨b, off, none⟩) t t) (xs.take t)) := tightT (HRD.out.front htx)
        have RS : Hid (ReadsT w (.slice (some ⟨b, off + t, none⟩) (n - t) (n - t)) (xs.drop t)) := tightT (HRD.out.back htx)
        have CP : Hid (∀ w', Tab w' → Box w' p wd → ReadsT w' (.slice (some ⟨b, off, none⟩) t t) (xs.take t) → Calls _ _ _ _ _) := fun w' h h1 h' => IH.out t (by omega) (xs.take t) i _ p w' L1.out (by omega) (by omega) h h1 h' (HX.out.take t)
        obtain ⟨ts, HTS⟩ : ∃ ts, Hid (PTn wd i (xs.take t) = ts) := ⟨_, rfl⟩
        rw [HTS.out] at CP
        obtain ⟨m, HM⟩ : ∃ m, Hid (ts.length = m) := ⟨_, rfl⟩
        have HE : Hid (P = ts ++ [RT wd (xs.drop t)]) := by
          show _ = _
          rw [← HPP.out, PTn_low wd (by rw [HN.out]; exact h2n) (by rw [HN.out, HTT.out]; exact hik), HN.out, HTT.out, HTS.out]
        have hml : m + 1 ≤ n := by
          have h := PTn_len wd i xs
          rw [HPP.out, HE.out, List.length_append, HN.out, HM.out] at h
          simp at h
          omega
        rw [HM.out] at CP
        have CS : Hid (∀ w' u, Tab w' → w.heap.size ≤ w'.heap.size → Box w' p wd → w'.ownsRow w.heap.size 9 1 u m (ts.map Value.string) → ReadsT w' (.slice (some ⟨b, off + t, none⟩) (n - t) (n - t)) (xs.drop t) → Calls _ _ _ _ _) := fun w' u h h1 h2 h3 h4 => put wd p w.heap.size m u (.slice (some ⟨b, off + t, none⟩) (n - t) (n - t)) ts (xs.drop t) w' h h1 h2 h3 h4 (HX.out.drop t) (by omega)
        have hik' : ¬ (i : Int) ≥ t := by omega
        clear hh HH
        go_enter Tryd.func41, Tryd.ntmps41
        go_wp2_with fail
        refine (SC.out _).mono ?_
        rintro e w0 ⟨rfl, q, hw0⟩
        have B0 : Hid (Below w.heap.size w w0) := by rw [hw0]; exact below_dN (Below.refl _ _) q
        have T0 : Hid (Tab w0) := HT.out.down B0.out
        have X0 : Hid (Box w0 p wd) := box_later HP.out B0.out
        have RP0 : Hid (ReadsT w0 (.slice (some ⟨b, off, none⟩) t t) (xs.take t)) := RP.out.later B0.out
        clear hw0
        go_wp2_with fail
        refine (CP.out _ T0.out X0.out RP0.out).mono ?_
        rintro e w1 ⟨⟨u, rfl, hu⟩, hb⟩
        have B1 : Hid (Below w.heap.size w w1) := over B0.out hb
        have O1 : Hid (w1.ownsRow w.heap.size 9 1 u m (ts.map Value.string)) := own_down hu B0.out.size
        have T1 : Hid (Tab w1) := HT.out.down B1.out
        have X1 : Hid (Box w1 p wd) := box_later HP.out B1.out
        have RS1 : Hid (ReadsT w1 (.slice (some ⟨b, off + t, none⟩) (n - t) (n - t)) (xs.drop t)) := RS.out.later B1.out
        clear hu hb
        go_wp2_with fail
        refine (CS.out _ _ T1.out B1.out.size X1.out O1.out RS1.out).mono ?_
        rintro e w2 ⟨⟨u2, rfl, hu⟩, hb⟩
        have B2 : Hid (Below w.heap.size w w2) := B1.out.trans hb
        have O2 : Hid (w2.ownsRow w.heap.size 9 1 u2 (m + 1) _) := hu
        obtain ⟨ua, uc, rfl⟩ := own_formS hu
        clear hu hb
        go_wp2
        go_ret
        refine ⟨⟨_, rfl, ?_⟩, B2.out⟩
        rw [HE.out, List.length_append, HM.out]
        exact O2.out
      · have RP : Hid (ReadsT w (.slice (some ⟨b, off + t, none⟩) (n - t) (n - t)) (xs.drop t)) := tightT (HRD.out.back htx)
        have RS : Hid (ReadsT w (.slice (some ⟨b, off, none⟩) t t) (xs.take t)) := tightT (HRD.out.front htx)
        have CP : Hid (∀ w', Tab w' → Box w' p wd → ReadsT w' (.slice (some ⟨b, off + t, none⟩) (n - t) (n - t)) (xs.drop t) → Calls _ _ _ _ _) := fun w' h h1 h' => IH.out (n - t) (by omega) (xs.drop t) (i - t) _ p w' L2.out (by omega) (by omega) h h1 h' (HX.out.drop t)
        obtain ⟨ts, HTS⟩ : ∃ ts, Hid (PTn wd (i - t) (xs.drop t) = ts) := ⟨_, rfl⟩
        rw [HTS.out] at CP
        obtain ⟨m, HM⟩ : ∃ m, Hid (ts.length = m) := ⟨_, rfl⟩
        have HE : Hid (P = ts ++ [RT wd (xs.take t)]) := by
          show _ = _
          rw [← HPP.out, PTn_high wd (by rw [HN.out]; exact h2n) (by rw [HN.out, HTT.out]; exact hik), HN.out, HTT.out, HTS.out]
        have hml : m + 1 ≤ n := by
          have h := PTn_len wd i xs
          rw [HPP.out, HE.out, List.length_append, HN.out, HM.out] at h
          simp at h
          omega
        rw [HM.out] at CP
        have CS : Hid (∀ w' u, Tab w' → w.heap.size ≤ w'.heap.size → Box w' p wd → w'.ownsRow w.heap.size 9 1 u m (ts.map Value.string) → ReadsT w' (.slice (some ⟨b, off, none⟩) t t) (xs.take t) → Calls _ _ _ _ _) := fun w' u h h1 h2 h3 h4 => put wd p w.heap.size m u (.slice (some ⟨b, off, none⟩) t t) ts (xs.take t) w' h h1 h2 h3 h4 (HX.out.take t) (by omega)
        have hik' : (i : Int) ≥ t := by omega
        have ent2 : ((i - t : Nat) : Int) = (i : Int) - t := by omega
        rw [ent2] at CP
        clear hh HH
        go_enter Tryd.func41, Tryd.ntmps41
        go_wp2_with fail
        refine (SC.out _).mono ?_
        rintro e w0 ⟨rfl, q, hw0⟩
        have B0 : Hid (Below w.heap.size w w0) := by rw [hw0]; exact below_dN (Below.refl _ _) q
        have T0 : Hid (Tab w0) := HT.out.down B0.out
        have X0 : Hid (Box w0 p wd) := box_later HP.out B0.out
        have RP0 : Hid (ReadsT w0 (.slice (some ⟨b, off + t, none⟩) (n - t) (n - t)) (xs.drop t)) := RP.out.later B0.out
        clear hw0
        go_wp2_with fail
        refine (CP.out _ T0.out X0.out RP0.out).mono ?_
        rintro e w1 ⟨⟨u, rfl, hu⟩, hb⟩
        have B1 : Hid (Below w.heap.size w w1) := over B0.out hb
        have O1 : Hid (w1.ownsRow w.heap.size 9 1 u m (ts.map Value.string)) := own_down hu B0.out.size
        have T1 : Hid (Tab w1) := HT.out.down B1.out
        have X1 : Hid (Box w1 p wd) := box_later HP.out B1.out
        have RS1 : Hid (ReadsT w1 (.slice (some ⟨b, off, none⟩) t t) (xs.take t)) := RS.out.later B1.out
        clear hu hb
        go_wp2_with fail
        refine (CS.out _ _ T1.out B1.out.size X1.out O1.out RS1.out).mono ?_
        rintro e w2 ⟨⟨u2, rfl, hu⟩, hb⟩
        have B2 : Hid (Below w.heap.size w w2) := B1.out.trans hb
        have O2 : Hid (w2.ownsRow w.heap.size 9 1 u2 (m + 1) _) := hu
        obtain ⟨ua, uc, rfl⟩ := own_formS hu
        clear hu hb
        go_wp2
        go_ret
        refine ⟨⟨_, rfl, ?_⟩, B2.out⟩
        rw [HE.out, List.length_append, HM.out]
        exact O2.out
set_option maxHeartbeats 1600000 in
theorem mpath (wd i : Int) (v : Value) (xs : List ByteArray) (w : World) (hT : Tab w) (hR : ReadsT w v xs) (hx : Fits xs) :
    Calls Tryd.prog 13 #[.int .i64 wd, .int .i64 i, v] w fun e w' => Listed w w' e (PT wd i xs) (PE i xs) ∧ Below w.heap.size w w' := by
  have HRD : Hid (ReadsT w v xs) := hR
  have HT : Hid (Tab w) := hT
  obtain ⟨a, cap, rfl, hcap, hh⟩ := hR
  by_cases hok : 0 ≤ i ∧ i < xs.length
  · obtain ⟨k, rfl⟩ : ∃ k : Nat, i = k := ⟨i.toNat, by omega⟩
    have C : Hid (∀ w' p, Tab w' → Box w' p wd → ReadsT w' (.slice a xs.length cap) xs → Calls _ _ _ _ _) := fun w' p h1 h2 h3 => path wd xs.length xs k _ p w' rfl (by omega) (by omega) h1 h2 h3 hx
    have CB : Hid (∀ w, Calls _ _ _ _ _) := fun w => behind wd w
    have HE : Hid (PTn wd k xs = PT wd k xs) := by show _ = _; unfold PT; rw [if_pos hok]; rfl
    have HC : Hid (PE k xs = 0) := by show _ = _; unfold PE; rw [if_pos hok]
    rw [HE.out] at C
    rw [HC.out]
    obtain ⟨P, HP⟩ : ∃ P, Hid (PT wd k xs = P) := ⟨_, rfl⟩
    rw [HP.out] at C ⊢
    obtain ⟨n, HN⟩ : ∃ n, Hid (xs.length = n) := ⟨_, rfl⟩
    rw [HN.out] at C HRD hcap hok ⊢
    have t1 : ¬ (k : Int) < 0 := by omega
    have t2 : ¬ (k : Int) ≥ n := by omega
    clear hok hh hT hx
    go_enter Tryd.func13, Tryd.ntmps13
    go_wp2_with fail
    refine (CB.out _).mono ?_
    rintro e w1 ⟨rfl, hx1, hb⟩
    have B1 : Hid (Below w.heap.size w w1) := hb
    have X1 : Hid (Box w1 w.heap.size wd) := hx1
    have T1 : Hid (Tab w1) := HT.out.down hb
    have R1 : Hid (ReadsT w1 (.slice a n cap) xs) := HRD.out.later hb
    clear hb hx1
    go_wp2_with fail
    refine (C.out _ _ T1.out X1.out R1.out).mono ?_
    rintro e w2 ⟨⟨u, rfl, hu⟩, hb⟩
    have B2 : Hid (Below w.heap.size w w2) := over B1.out hb
    have O2 : Hid (w2.ownsRow w.heap.size 9 1 u P.length (P.map Value.string)) := own_down hu B1.out.size
    obtain ⟨ua, uc, rfl⟩ := own_formS hu
    clear hu hb
    go_wp2
    go_ret2
    exact ⟨⟨_, rfl, O2.out⟩, B2.out⟩
  · have HE : Hid (PT wd i xs = []) := by show _ = _; unfold PT; rw [if_neg hok]
    have HC : Hid (PE i xs = 81) := by show _ = _; unfold PE; rw [if_neg hok]
    rw [HE.out, HC.out]
    obtain ⟨n, HN⟩ : ∃ n, Hid (xs.length = n) := ⟨_, rfl⟩
    rw [HN.out] at hcap hok ⊢
    have fin : ∀ e w', e = .returned (.tuple #[.slice none 0 0, .int .i64 81]) ∧ w' = w → Listed w w' e [] 81 ∧ Below w.heap.size w w' := by
      rintro e w' ⟨rfl, rfl⟩
      exact ⟨⟨_, rfl, World.ownsRow_nil _ _ _ _⟩, Below.refl _ _⟩
    refine Calls.mono ?_ fin
    clear fin hh hT hx HE HC HRD HT
    by_cases a1 : i < 0
    · clear hok
      go_enter Tryd.func13, Tryd.ntmps13
      go_wp2
      go_ret2
      exact ⟨rfl, rfl⟩
    · have a2 : i ≥ n := by omega
      clear hok
      go_enter Tryd.func13, Tryd.ntmps13
      go_wp2
      go_ret2
      exact ⟨rfl, rfl⟩
theorem pathC : PathC Tab := fun wd i v xs w _ _ t h f => mpath wd i v xs w t h f
end Go.Proofs.YthmfljjpanghgaaDoor.mc

namespace Go.Proofs.YthmfljjpanghgaaDoor.md
open Go.RowKit Go.PlainAid
open Go.Proofs.YthmfljjpanghgaaDoor.pl Go.Proofs.YthmfljjpanghgaaDoor.pi Go.Proofs.YthmfljjpanghgaaDoor.pj Go.Proofs.YthmfljjpanghgaaDoor.ca Go.Proofs.YthmfljjpanghgaaDoor.cb Go.Proofs.YthmfljjpanghgaaDoor.cp Go.Proofs.YthmfljjpanghgaaDoor.ka Go.Proofs.YthmfljjpanghgaaDoor.kb Go.Proofs.YthmfljjpanghgaaDoor.kc Go.Proofs.YthmfljjpanghgaaDoor.rf Go.Proofs.YthmfljjpanghgaaDoor.ga Go.Proofs.YthmfljjpanghgaaDoor.gb Go.Proofs.YthmfljjpanghgaaDoor.gr Go.Proofs.YthmfljjpanghgaaDoor.ma Go.Proofs.YthmfljjpanghgaaDoor.mb Go.Proofs.YthmfljjpanghgaaDoor.mc Go.Proofs.YthmfljjpanghgaaDoor.gq
set_option linter.unusedVariables false

set_option maxHeartbeats 3200000 in
set_option maxRecDepth 100000 in
theorem sub (wd : Int) (n : Nat) : ∀ (xs : List ByteArray) (i : Nat) (b0 : Bool) (v : Value) (p : Nat) (w : World), xs.length = n → 1 ≤ n → 1 ≤ i ∧ i ≤ n → Tab w → Box w p wd → ReadsT w v xs → Fits xs →
      Calls Tryd.prog 43 #[.int .i64 i, v, .bool b0, PutV p] w fun e w' => (∃ u, e = .returned u ∧ w'.ownsRow w.heap.size 9 1 u (QTn wd i xs b0).length ((QTn wd i xs b0).map Value.string)) ∧ Below w.heap.size w w' := by
  induction n using Nat.strongRecOn with
  | ind n ih =>
    intro xs i b0 v p w hn hn1 hin hT hP hR hx
    have HT : Hid (Tab w) := hT
    have HP : Hid (Box w p wd) := hP
    have HRD : Hid (ReadsT w v xs) := hR
    have HX : Hid (Fits xs) := hx
    have HN : Hid (xs.length = n) := hn
    have hnm : n * 16 ≤ 140737488351232 := by have := hx.many; rw [hn] at this; exact this
    have IH : Hid (∀ (m : Nat), m < n → ∀ (xs : List ByteArray) (i : Nat) (b0 : Bool) (v : Value) (p : Nat) (w : World), xs.length = m → 1 ≤ m → 1 ≤ i ∧ i ≤ m → Tab w → Box w p wd → ReadsT w v xs → Fits xs →
      Calls Tryd.prog 43 #[.int .i64 i, v, .bool b0, PutV p] w fun e w' => (∃ u, e = .returned u ∧ w'.ownsRow w.heap.size 9 1 u (QTn wd i xs b0).length ((QTn wd i xs b0).map Value.string)) ∧ Below w.heap.size w w') := ih
    obtain ⟨a, cap, rfl, hcap, hh⟩ := hR
    rw [HN.out] at hcap hh HRD ⊢
    have HH : Hid (n = 0 ∨ ∃ b off, a = some ⟨b, off, none⟩ ∧ ∀ i, i < n → w.cell? ⟨b, off + i, none⟩ = some (.string (xs.getD i ByteArray.empty))) := hh
    obtain ⟨P, HPP⟩ : ∃ P, Hid (QTn wd i xs b0 = P) := ⟨_, rfl⟩
    rw [HPP.out]
    obtain ⟨hi1, hi2⟩ := hin
    clear ih hn hT hP hx hh
    by_cases h1 : i = n
    · have q1 : ((i : Int) == (n : Int)) = true := by rw [beq_iff_eq]; omega
      cases b0
      · have HE : Hid (P = [RT wd xs]) := by show _ = _; rw [← HPP.out]; exact QTn_all wd false (by rw [HN.out]; omega)
        have O0 : Hid (w.ownsRow w.heap.size 9 1 (.slice none 0 0) 0 (([] : List ByteArray).map Value.string)) := World.ownsRow_nil _ _ _ _
        have CS : Hid (Calls _ _ _ _ _) := put wd p w.heap.size 0 (.slice none 0 0) (.slice a n cap) [] xs w HT.out (Nat.le_refl _) HP.out O0.out HRD.out HX.out (by omega)
        clear h1
        go_enter Tryd.func43, Tryd.ntmps43
        go_wp2_with fail
        refine CS.out.mono ?_
        rintro e w2 ⟨⟨u2, rfl, hu⟩, hb⟩
        have B2 : Hid (Below w.heap.size w w2) := hb
        have O2 : Hid (w2.ownsRow w.heap.size 9 1 u2 (0 + 1) _) := hu
        obtain ⟨ua, uc, rfl⟩ := own_formS hu
        clear hu hb
        go_wp2
        go_ret
        refine ⟨⟨_, rfl, ?_⟩, B2.out⟩
        rw [HE.out]
        exact O2.out
      · have HE : Hid (P = []) := by show _ = _; rw [← HPP.out]; exact QTn_all wd true (by rw [HN.out]; omega)
        clear h1
        go_enter Tryd.func43, Tryd.ntmps43
        go_wp2
        go_ret
        refine ⟨⟨_, rfl, ?_⟩, Below.refl _ _⟩
        rw [HE.out]
        exact World.ownsRow_nil _ _ _ _
    · obtain ⟨b, off, rfl, hh⟩ : ∃ b off, a = some ⟨b, off, none⟩ ∧ ∀ i, i < n → w.cell? ⟨b, off + i, none⟩ = some (.string (xs.getD i ByteArray.empty)) := by
        rcases HH.out with h | h
        · omega
        · exact h
      have h2n : 2 ≤ n := by omega
      have SC : Hid (∀ w, Calls _ _ _ _ _) := fun w => parts b off n cap h2n (by omega) hcap w
      obtain ⟨t, HTT⟩ : ∃ t, Hid (half n = t) := ⟨_, rfl⟩
      rw [HTT.out] at SC
      have hh2 := half_lt h2n
      rw [HTT.out] at hh2
      obtain ⟨ht1, htn, _⟩ := hh2
      have htx : t ≤ xs.length := by rw [HN.out]; omega
      have L1 : Hid ((xs.take t).length = t) := by show _ = _; rw [List.length_take]; omega
      have L2 : Hid ((xs.drop t).length = n - t) := by show _ = _; rw [List.length_drop, HN.out]
      have q1 : ((i : Int) == (n : Int)) = false := by rw [beq_eq_false_iff_ne]; omega
      have hin : i < n := by omega
      clear h1
      by_cases hik : i ≤ t
      · have RP : Hid (ReadsT w (.slice (some ⟨b, off, none⟩) t t) (xs.take t)) := tightT (HRD.out.front htx)
        have RS : Hid (ReadsT w (.slice (some ⟨b, off + t, none⟩) (n - t) (n - t)) (xs.drop t)) := tightT (HRD.out.back htx)
        have CP : Hid (∀ w', Tab w' → Box w' p wd → ReadsT w' (.slice (some ⟨b, off, none⟩) t t) (xs.take t) → Calls _ _ _ _ _) := fun w' h h1 h' => IH.out t (by omega) (xs.take t) i b0 _ p w' L1.out (by omega) (by omega) h h1 h' (HX.out.take t)
        obtain ⟨ts, HTS⟩ : ∃ ts, Hid (QTn wd i (xs.take t) b0 = ts) := ⟨_, rfl⟩
        rw [HTS.out] at CP
        obtain ⟨m, HM⟩ : ∃ m, Hid (ts.length = m) := ⟨_, rfl⟩
        have HE : Hid (P = ts ++ [RT wd (xs.drop t)]) := by
          show _ = _
          rw [← HPP.out, QTn_low wd b0 (by rw [HN.out]; exact hin) (by rw [HN.out]; exact h2n) (by rw [HN.out, HTT.out]; exact hik), HN.out, HTT.out, HTS.out]
        have hml : m + 1 ≤ n := by
          have h := QTn_len wd i xs b0 (by rw [HN.out]; exact hn1)
          rw [HPP.out, HE.out, List.length_append, HN.out, HM.out] at h
          simp at h
          omega
        rw [HM.out] at CP
        have CS : Hid (∀ w' u, Tab w' → w.heap.size ≤ w'.heap.size → Box w' p wd → w'.ownsRow w.heap.size 9 1 u m (ts.map Value.string) → ReadsT w' (.slice (some ⟨b, off + t, none⟩) (n - t) (n - t)) (xs.drop t) → Calls _ _ _ _ _) := fun w' u h h1 h2 h3 h4 => put wd p w.heap.size m u (.slice (some ⟨b, off + t, none⟩) (n - t) (n - t)) ts (xs.drop t) w' h h1 h2 h3 h4 (HX.out.drop t) (by omega)
        have hik' : ¬ (i : Int) > t := by omega
        clear hh HH
        go_enter Tryd.func43, Tryd.ntmps43
        go_wp2_with fail
        refine (SC.out _).mono ?_
        rintro e w0 ⟨rfl, q, hw0⟩
        have B0 : Hid (Below w.heap.size w w0) := by rw [hw0]; exact below_dN (Below.refl _ _) q
        have T0 : Hid (Tab w0) := HT.out.down B0.out
        have X0 : Hid (Box w0 p wd) := box_later HP.out B0.out
        have RP0 : Hid (ReadsT w0 (.slice (some ⟨b, off, none⟩) t t) (xs.take t)) := RP.out.later B0.out
        clear hw0
        go_wp2_with fail
        refine (CP.out _ T0.out X0.out RP0.out).mono ?_
        rintro e w1 ⟨⟨u, rfl, hu⟩, hb⟩
        have B1 : Hid (Below w.heap.size w w1) := over B0.out hb
        have O1 : Hid (w1.ownsRow w.heap.size 9 1 u m (ts.map Value.string)) := own_down hu B0.out.size
        have T1 : Hid (Tab w1) := HT.out.down B1.out
        have X1 : Hid (Box w1 p wd) := box_later HP.out B1.out
        have RS1 : Hid (ReadsT w1 (.slice (some ⟨b, off + t, none⟩) (n - t) (n - t)) (xs.drop t)) := RS.out.later B1.out
        clear hu hb
        go_wp2_with fail
        refine (CS.out _ _ T1.out B1.out.size X1.out O1.out RS1.out).mono ?_
        rintro e w2 ⟨⟨u2, rfl, hu⟩, hb⟩
        have B2 : Hid (Below w.heap.size w w2) := B1.out.trans hb
        have O2 : Hid (w2.ownsRow w.heap.size 9 1 u2 (m + 1) _) := hu
        obtain ⟨ua, uc, rfl⟩ := own_formS hu
        clear hu hb
        go_wp2
        go_ret
        refine ⟨⟨_, rfl, ?_⟩, B2.out⟩
        rw [HE.out, List.length_append, HM.out]
        exact O2.out
      · have RP : Hid (ReadsT w (.slice (some ⟨b, off + t, none⟩) (n - t) (n - t)) (xs.drop t)) := tightT (HRD.out.back htx)
        have RS : Hid (ReadsT w (.slice (some ⟨b, off, none⟩) t t) (xs.take t)) := tightT (HRD.out.front htx)
        have CP : Hid (∀ w', Tab w' → Box w' p wd → ReadsT w' (.slice (some ⟨b, off + t, none⟩) (n - t) (n - t)) (xs.drop t) → Calls _ _ _ _ _) := fun w' h h1 h' => IH.out (n - t) (by omega) (xs.drop t) (i - t) false _ p w' L2.out (by omega) (by omega) h h1 h' (HX.out.drop t)
        obtain ⟨ts, HTS⟩ : ∃ ts, Hid (QTn wd (i - t) (xs.drop t) false = ts) := ⟨_, rfl⟩
        rw [HTS.out] at CP
        obtain ⟨m, HM⟩ : ∃ m, Hid (ts.length = m) := ⟨_, rfl⟩
        have HE : Hid (P = ts ++ [RT wd (xs.take t)]) := by
          show _ = _
          rw [← HPP.out, QTn_high wd b0 (by rw [HN.out]; exact hin) (by rw [HN.out]; exact h2n) (by rw [HN.out, HTT.out]; exact hik), HN.out, HTT.out, HTS.out]
        have hml : m + 1 ≤ n := by
          have h := QTn_len wd i xs b0 (by rw [HN.out]; exact hn1)
          rw [HPP.out, HE.out, List.length_append, HN.out, HM.out] at h
          simp at h
          omega
        rw [HM.out] at CP
        have CS : Hid (∀ w' u, Tab w' → w.heap.size ≤ w'.heap.size → Box w' p wd → w'.ownsRow w.heap.size 9 1 u m (ts.map Value.string) → ReadsT w' (.slice (some ⟨b, off, none⟩) t t) (xs.take t) → Calls _ _ _ _ _) := fun w' u h h1 h2 h3 h4 => put wd p w.heap.size m u (.slice (some ⟨b, off, none⟩) t t) ts (xs.take t) w' h h1 h2 h3 h4 (HX.out.take t) (by omega)
        have hik' : (i : Int) > t := by omega
        have ent2 : ((i - t : Nat) : Int) = (i : Int) - t := by omega
        rw [ent2] at CP
        clear hh HH
        go_enter Tryd.func43, Tryd.ntmps43
        go_wp2_with fail
        refine (SC.out _).mono ?_
        rintro e w0 ⟨rfl, q, hw0⟩
        have B0 : Hid (Below w.heap.size w w0) := by rw [hw0]; exact below_dN (Below.refl _ _) q
        have T0 : Hid (Tab w0) := HT.out.down B0.out
        have X0 : Hid (Box w0 p wd) := box_later HP.out B0.out
        have RP0 : Hid (ReadsT w0 (.slice (some ⟨b, off + t, none⟩) (n - t) (n - t)) (xs.drop t)) := RP.out.later B0.out
        clear hw0
        go_wp2_with fail
        refine (CP.out _ T0.out X0.out RP0.out).mono ?_
        rintro e w1 ⟨⟨u, rfl, hu⟩, hb⟩
        have B1 : Hid (Below w.heap.size w w1) := over B0.out hb
        have O1 : Hid (w1.ownsRow w.heap.size 9 1 u m (ts.map Value.string)) := own_down hu B0.out.size
        have T1 : Hid (Tab w1) := HT.out.down B1.out
        have X1 : Hid (Box w1 p wd) := box_later HP.out B1.out
        have RS1 : Hid (ReadsT w1 (.slice (some ⟨b, off, none⟩) t t) (xs.take t)) := RS.out.later B1.out
        clear hu hb
        go_wp2_with fail
        refine (CS.out _ _ T1.out B1.out.size X1.out O1.out RS1.out).mono ?_
        rintro e w2 ⟨⟨u2, rfl, hu⟩, hb⟩
        have B2 : Hid (Below w.heap.size w w2) := B1.out.trans hb
        have O2 : Hid (w2.ownsRow w.heap.size 9 1 u2 (m + 1) _) := hu
        obtain ⟨ua, uc, rfl⟩ := own_formS hu
        clear hu hb
        go_wp2
        go_ret
        refine ⟨⟨_, rfl, ?_⟩, B2.out⟩
        rw [HE.out, List.length_append, HM.out]
        exact O2.out
set_option maxHeartbeats 1600000 in
theorem mproof (wd i : Int) (v : Value) (xs : List ByteArray) (w : World) (hT : Tab w) (hR : ReadsT w v xs) (hx : Fits xs) :
    Calls Tryd.prog 14 #[.int .i64 wd, .int .i64 i, v] w fun e w' => Listed w w' e (QT wd i xs) (QE i xs) ∧ Below w.heap.size w w' := by
  have HRD : Hid (ReadsT w v xs) := hR
  have HT : Hid (Tab w) := hT
  obtain ⟨a, cap, rfl, hcap, hh⟩ := hR
  by_cases hok : 1 ≤ i ∧ i ≤ xs.length
  · obtain ⟨k, rfl⟩ : ∃ k : Nat, i = k := ⟨i.toNat, by omega⟩
    have C : Hid (∀ w' p, Tab w' → Box w' p wd → ReadsT w' (.slice a xs.length cap) xs → Calls _ _ _ _ _) := fun w' p h1 h2 h3 => sub wd xs.length xs k true _ p w' rfl (by omega) ⟨by omega, by omega⟩ h1 h2 h3 hx
    have CB : Hid (∀ w, Calls _ _ _ _ _) := fun w => behind wd w
    have HE : Hid (QTn wd k xs true = QT wd k xs) := by show _ = _; unfold QT; rw [if_pos hok]; rfl
    have HC : Hid (QE k xs = 0) := by show _ = _; unfold QE; rw [if_pos ⟨by omega, hok.2⟩]
    rw [HE.out] at C
    rw [HC.out]
    obtain ⟨P, HP⟩ : ∃ P, Hid (QT wd k xs = P) := ⟨_, rfl⟩
    rw [HP.out] at C ⊢
    obtain ⟨n, HN⟩ : ∃ n, Hid (xs.length = n) := ⟨_, rfl⟩
    rw [HN.out] at C HRD hcap hok ⊢
    have t1 : ¬ (k : Int) < 0 := by omega
    have t2 : ¬ (k : Int) > n := by omega
    have t3 : ((k : Int) == 0) = false := by rw [beq_eq_false_iff_ne]; omega
    clear hok hh hT hx
    go_enter Tryd.func14, Tryd.ntmps14
    go_wp2_with fail
    refine (CB.out _).mono ?_
    rintro e w1 ⟨rfl, hx1, hb⟩
    have B1 : Hid (Below w.heap.size w w1) := hb
    have X1 : Hid (Box w1 w.heap.size wd) := hx1
    have T1 : Hid (Tab w1) := HT.out.down hb
    have R1 : Hid (ReadsT w1 (.slice a n cap) xs) := HRD.out.later hb
    clear hb hx1
    go_wp2_with fail
    refine (C.out _ _ T1.out X1.out R1.out).mono ?_
    rintro e w2 ⟨⟨u, rfl, hu⟩, hb⟩
    have B2 : Hid (Below w.heap.size w w2) := over B1.out hb
    have O2 : Hid (w2.ownsRow w.heap.size 9 1 u P.length (P.map Value.string)) := own_down hu B1.out.size
    obtain ⟨ua, uc, rfl⟩ := own_formS hu
    clear hu hb
    go_wp2
    go_ret2
    exact ⟨⟨_, rfl, O2.out⟩, B2.out⟩
  · have HE : Hid (QT wd i xs = []) := by show _ = _; unfold QT; rw [if_neg hok]
    rw [HE.out]
    by_cases h0 : i = 0
    · have HC : Hid (QE i xs = 0) := by show _ = _; unfold QE; rw [if_pos ⟨by omega, by omega⟩]
      rw [HC.out]
      obtain ⟨n, HN⟩ : ∃ n, Hid (xs.length = n) := ⟨_, rfl⟩
      rw [HN.out] at hcap hok ⊢
      subst h0
      have t2 : ¬ (0 : Int) > n := by omega
      clear hok hh hT hx HE HC HRD HT
      go_enter Tryd.func14, Tryd.ntmps14
      go_wp2
      go_ret2
      exact ⟨⟨_, rfl, World.ownsRow_nil _ _ _ _⟩, Below.refl _ _⟩
    · have HC : Hid (QE i xs = 80) := by show _ = _; unfold QE; rw [if_neg (fun h => hok ⟨by omega, h.2⟩)]
      rw [HC.out]
      obtain ⟨n, HN⟩ : ∃ n, Hid (xs.length = n) := ⟨_, rfl⟩
      rw [HN.out] at hcap hok ⊢
      have fin : ∀ e w', e = .returned (.tuple #[.slice none 0 0, .int .i64 80]) ∧ w' = w → Listed w w' e [] 80 ∧ Below w.heap.size w w' := by
        rintro e w' ⟨rfl, rfl⟩
        exact ⟨⟨_, rfl, World.ownsRow_nil _ _ _ _⟩, Below.refl _ _⟩
      refine Calls.mono ?_ fin
      clear fin hh hT hx HE HC HRD HT
      by_cases a1 : i < 0
      · clear hok
        go_enter Tryd.func14, Tryd.ntmps14
        go_wp2
        go_ret2
        exact ⟨rfl, rfl⟩
      · have a2 : i > n := by omega
        clear hok
        go_enter Tryd.func14, Tryd.ntmps14
        go_wp2
        go_ret2
        exact ⟨rfl, rfl⟩
theorem proofC : ProofC Tab := fun wd m v xs w _ _ t h f => mproof wd m v xs w t h f
end Go.Proofs.YthmfljjpanghgaaDoor.md
