import Derived.Test.YthpfgdhmpeadeaaG6
import Derived.Test.YthpfgdhmpeadeaaG5
import Derived.Test.YthpfgdhmpeadeaaJ1
import Derived.Laws.AppendOwnNone
import Derived.Laws.OwnMore
import Derived.Test.YthpfgdhmpeadeaaG1
import Derived.ArgAppend
import Derived.Deep.DeepAppendRoom
import Derived.Deep.DeepCutAuto
import Derived.BigQuiet
import Derived.Test.YthpfgdhmpeadeaaJ6
import Derived.Deep.RegionHeldLaw
namespace Go.Proofs.Ythpfgdhmpeadeaa.e7
open Go.RowKit Go.PlainAid
open Go.Proofs.Ythpfgdhmpeadeaa.ca Go.Proofs.Ythpfgdhmpeadeaa.cb Go.Proofs.Ythpfgdhmpeadeaa.cp Go.Proofs.Ythpfgdhmpeadeaa.ga Go.Proofs.Ythpfgdhmpeadeaa.kp Go.Proofs.Ythpfgdhmpeadeaa.mi Go.Proofs.Ythpfgdhmpeadeaa.ka Go.Proofs.Ythpfgdhmpeadeaa.er
set_option linter.unusedVariables false

-- a list of its own in memory, of texts and of numbers
def OwT (w : World) (B : Nat) (v : Value) (xs : List ByteArray) : Prop := w.ownsRow B 9 1 v xs.length (xs.map Value.string)
def OwI (w : World) (B : Nat) (v : Value) (xs : List Int) : Prop := w.ownsRow B 3 1 v xs.length (xs.map (Value.int .i64))
theorem OwT.nil (w : World) (B : Nat) : OwT w B (.slice none 0 0) [] := World.ownsRow_nil _ _ _ _
theorem OwI.nil (w : World) (B : Nat) : OwI w B (.slice none 0 0) [] := World.ownsRow_nil _ _ _ _
theorem OwT.later {w w' : World} {B : Nat} {v : Value} {xs : List ByteArray} (h : OwT w B v xs) (hb : Below w.heap.size w w') : OwT w' B v xs := own_later h hb
theorem OwI.later {w w' : World} {B : Nat} {v : Value} {xs : List Int} (h : OwI w B v xs) (hb : Below w.heap.size w w') : OwI w' B v xs := own_later h hb
theorem OwT.form {w : World} {B : Nat} {v : Value} {xs : List ByteArray} (h : OwT w B v xs) : ∃ a c, v = .slice a xs.length c := lg.own_form h
theorem OwI.form {w : World} {B : Nat} {v : Value} {xs : List Int} (h : OwI w B v xs) : ∃ a c, v = .slice a xs.length c := lg.own_form h
theorem own_no {w : World} {B t s n : Nat} {v : Value} {xs : List Value} (h : w.ownsRow B t s v n xs) : ∀ k c, v = .slice none k c → c = 0 := fun k c e => by
  rcases h.2 with ⟨e1, _⟩ | ⟨g, cap, cur, e1, _⟩
  · rw [e1] at e; exact ((Value.slice.inj e).2.2).symm
  · rw [e1] at e; exact absurd (Value.slice.inj e).1 (by simp)
theorem OwT.reads {w : World} {B : Nat} {v : Value} {xs : List ByteArray} (h : OwT w B v xs) : ReadsT w v xs := own_readsT h
theorem OwI.reads {w : World} {B : Nat} {v : Value} {xs : List Int} (h : OwI w B v xs) : ReadsI w v xs := own_readsI h
theorem onesI (xs : List Int) : ∀ u ∈ xs.map (Value.int .i64), u.oneCell' = true := by
  intro u hu
  obtain ⟨x, _, rfl⟩ := List.mem_map.1 hu
  rfl
section
variable {ops : Array Oper} {rest : List Oper} {o : Oper} {a : Act} {Q : Exit → Act → World → Prop} {w : World}
set_option maxRecDepth 100000 in
theorem wpList_appA (hgd : o.guard = none) (s x : Operand) (ho : o.op = .call { callee := .builtin .append, args := #[s, x], argTypes := #[23, 23] }) (B : Nat) (v y : Value) (xs ys : List ByteArray) (hs : a.eval s = v) (hown : OwT w B v xs) (hx : a.eval x = y) (hy : ReadsT w y ys) (hno : ∀ k c, y = .slice none k c → c = 0) (hb : (xs.length + ys.length) * 16 ≤ 140737488355328) (hB : B ≤ w.heap.size)
    (h : ∀ v' w', OwT w' B v' (xs ++ ys) → Below B w w' → wpList Try.prog ops Q rest (a.put o.dst v') w') : wpList Try.prog ops Q (o :: rest) a w := by
  obtain ⟨i9, hi, hz0, hz1, hz2⟩ := lg.info_parts lg.hiE
  obtain ⟨ad, c, rfl, hc, hr⟩ := hy
  cases ad with
  | none =>
    have hc0 := hno _ _ rfl
    subst hc0
    have hl0 : ys = [] := List.length_eq_zero_iff.1 (by omega)
    subst hl0
    refine wpList_append_own_none hgd s x 23 ho B 9 i9 1 Try.underlying23 hi v xs.length _ hs hown hx ?_
    exact h v w (by rw [List.append_nil]; exact hown) (Below.refl _ _)
  | some ad =>
    refine wpList_append_own _ hgd s x 23 ho B 9 i9 (.string ByteArray.empty) 1 16 Try.underlying23 hi hz0 hz1 hz2 rfl (by decide) v xs.length (xs.map Value.string) hs hown ad ys.length c (ys.map Value.string) hx (by rw [List.length_map, Nat.mul_one]) ?_ (lg.ones _) (by unfold maxLen; omega) (by omega) hB ?_
    · intro j u hu
      rw [List.getElem?_map] at hu
      obtain ⟨t, ht, rfl⟩ := Option.map_eq_some_iff.1 hu
      have hj := (List.getElem?_eq_some_iff.1 ht).1
      rcases hr with h0 | ⟨b, off, e, hcell⟩
      · omega
      · have e := Option.some.inj e
        subst e
        rw [Addr.add_mid, hcell j hj, List.getD_eq_getElem?_getD, ht]
        rfl
    · intro p' w5 ho5 hg hnn
      refine h p' w5 ?_ (Below.grown (Below.refl _ _) hg hB (fun jj hj => (World.ownsRow.lt hown _ hj).1))
      unfold OwT
      rw [List.length_append, List.map_append]
      exact ho5
set_option maxRecDepth 100000 in
theorem wpList_appN (hgd : o.guard = none) (s x : Operand) (ho : o.op = .call { callee := .builtin .append, args := #[s, x], argTypes := #[22, 22] }) (B : Nat) (v y : Value) (xs ys : List Int) (hs : a.eval s = v) (hown : OwI w B v xs) (hx : a.eval x = y) (hy : ReadsI w y ys) (hno : ∀ k c, y = .slice none k c → c = 0) (hb : (xs.length + ys.length) * 8 ≤ 140737488355328) (hB : B ≤ w.heap.size)
    (h : ∀ v' w', OwI w' B v' (xs ++ ys) → Below B w w' → wpList Try.prog ops Q rest (a.put o.dst v') w') : wpList Try.prog ops Q (o :: rest) a w := by
  obtain ⟨i9, hi, hz0, hz1, hz2⟩ := lg.info_parts ti.hiE
  obtain ⟨ad, c, rfl, hc, hr⟩ := hy
  cases ad with
  | none =>
    have hc0 := hno _ _ rfl
    subst hc0
    have hl0 : ys = [] := List.length_eq_zero_iff.1 (by omega)
    subst hl0
    refine wpList_append_own_none hgd s x 22 ho B 3 i9 1 Try.underlying22 hi v xs.length _ hs hown hx ?_
    exact h v w (by rw [List.append_nil]; exact hown) (Below.refl _ _)
  | some ad =>
    refine wpList_append_own _ hgd s x 22 ho B 3 i9 (.int .i64 0) 1 8 Try.underlying22 hi hz0 hz1 hz2 rfl (by decide) v xs.length (xs.map (Value.int .i64)) hs hown ad ys.length c (ys.map (Value.int .i64)) hx (by rw [List.length_map, Nat.mul_one]) ?_ (onesI _) (by unfold maxLen; omega) (by omega) hB ?_
    · intro j u hu
      rw [List.getElem?_map] at hu
      obtain ⟨t, ht, rfl⟩ := Option.map_eq_some_iff.1 hu
      have hj := (List.getElem?_eq_some_iff.1 ht).1
      rcases hr with h0 | ⟨b, off, e, hcell⟩
      · omega
      · have e := Option.some.inj e
        subst e
        rw [Addr.add_mid, hcell j hj, List.getD_eq_getElem?_getD, ht]
        rfl
    · intro p' w5 ho5 hg hnn
      refine h p' w5 ?_ (Below.grown (Below.refl _ _) hg hB (fun jj hj => (World.ownsRow.lt hown _ hj).1))
      unfold OwI
      rw [List.length_append, List.map_append]
      exact ho5
end
-- a list with one more behind it: cells, and what stands ahead
theorem own_beg {w : World} {B : Nat} {g n cp : Nat} {xs : List Int} {m : Int} (h : OwI w B (.slice (some ⟨g, 0, none⟩) n cp) (xs ++ [m])) : ReadsI w (.slice (some ⟨g, 0, none⟩) xs.length cp) xs ∧ w.cell? ⟨g, xs.length, none⟩ = some (.int .i64 m) ∧ n = xs.length + 1 ∧ n ≤ cp := by
  obtain ⟨a, c, e⟩ := h.form
  have en := (Value.slice.inj e).2.1
  rw [List.length_append, List.length_singleton] at en
  subst en
  have h' : w.ownsRow B 3 1 (.slice (some ⟨g, 0, none⟩) (xs.length + 1) cp) (xs.length + 1) ((xs ++ [m]).map (Value.int .i64)) := by
    have := h
    unfold OwI at this
    rw [List.length_append, List.length_singleton] at this
    exact this
  have hcp : xs.length + 1 ≤ cp := by
    rcases h'.2 with ⟨e, _⟩ | ⟨g', cap', cur, e, _, _, hc, _⟩
    · exact absurd (Value.slice.inj e).1 (by simp)
    · have := (Value.slice.inj e).2.2; omega
  refine ⟨⟨_, cp, rfl, by omega, .inr ⟨g, 0, rfl, fun i hi => ?_⟩⟩, ?_, rfl, hcp⟩
  · rw [Nat.zero_add, h'.cellAt i (by omega), List.getElem?_map, List.getElem?_append_left hi, List.getElem?_eq_getElem hi, List.getD_eq_getElem?_getD, List.getElem?_eq_getElem hi]
    rfl
  · rw [h'.cellAt _ (by omega), List.getElem?_map, List.getElem?_append_right (Nat.le_refl _), Nat.sub_self]
    rfl
end Go.Proofs.Ythpfgdhmpeadeaa.e7

namespace Go.Proofs.Ythpfgdhmpeadeaa.lh
open Go.RowKit Go.PlainAid
open Go.Proofs.Ythpfgdhmpeadeaa.ca Go.Proofs.Ythpfgdhmpeadeaa.cp Go.Proofs.Ythpfgdhmpeadeaa.ka Go.Proofs.Ythpfgdhmpeadeaa.kp Go.Proofs.Ythpfgdhmpeadeaa.er Go.Proofs.Ythpfgdhmpeadeaa.lg Go.Proofs.Ythpfgdhmpeadeaa.bn
set_option linter.unusedVariables false

-- a row that none of the blocks touched is
theorem own_not {A : Nat → Prop} {w w' : World} {B t s n : Nat} {v : Value} {xs : List Value} (h : w.ownsRow B t s v n xs) (k : Kp A w w') (hA : ∀ j, v.ownBlock = some j → ¬ A j) : w'.ownsRow B t s v n xs := by
  obtain ⟨hl, h | ⟨g, cap, cur, rfl, hg, hh, h1, h2, h3, h4⟩⟩ := h
  · exact ⟨hl, .inl h⟩
  · exact ⟨hl, .inr ⟨g, cap, cur, rfl, hg, (k.block g (Array.getElem?_eq_some_iff.1 hh).1 (hA g rfl)).trans hh, h1, h2, h3, h4⟩⟩
theorem kp_grown {w w' : World} {r : Option Nat} (h : w.grownBy w' r) : Kp (fun k => some k = r) w w' := ⟨h.os, h.tape, h.output, h.size, fun k hk hn => h.block k hk hn⟩
-- what a row begins with
theorem own_take {w : World} {B t g cap n m : Nat} {xs ys : List Value} (h : w.ownsRow B t 1 (.slice (some ⟨g, 0, none⟩) m cap) m (xs ++ ys)) (hn : xs.length = n) : w.ownsRow B t 1 (.slice (some ⟨g, 0, none⟩) n cap) n xs := by
  obtain ⟨hl, h | ⟨g', cap', cur, e, hg, hh, h1, h2, h3, h4⟩⟩ := h
  · cases h.1
  · injection e with e1 e2 e3
    injection e1 with e1
    injection e1 with e1
    subst e1 e3
    rw [List.length_append] at hl
    refine ⟨by omega, .inr ⟨g, cap, cur, rfl, hg, hh, by omega, h2, h3, ?_⟩⟩
    have h5 : (cur.toList.take (m * 1)).take n = xs := by rw [h4, ← hn, List.take_left]
    rw [List.take_take] at h5
    rw [← h5]
    congr 1
    omega
-- one more behind a row of texts: in its own room, or in a block of its own
theorem wpList_append_two {ops : Array Oper} {rest : List Oper} {o : Oper} {a : Act} {Q : Exit → Act → World → Prop} (w : World) (hgd : o.guard = none) (s x : Operand)
    (ho : o.op = .call { callee := .builtin .append, args := #[s, x], argTypes := #[23, 23] })
    (B : Nat) (v : Value) (n : Nat) (xs : List Value) (hs : a.eval s = v) (hown : w.ownsRow B 9 1 v n xs) (ad : Addr) (c : ByteArray) (hx : a.eval x = .slice (some ad) 1 1)
    (hnews : ∀ (j : Nat) (u : Value), [Value.string c][j]? = some u → w.cell? (ad.add j) = some u) (hn : n ≤ 1000000) (hB : B ≤ w.heap.size)
    (h : ∀ v' w', w'.ownsRow B 9 1 v' (n + 1) (xs ++ [Value.string c]) → ((∃ g cap, v = .slice (some ⟨g, 0, none⟩) n cap ∧ v' = .slice (some ⟨g, 0, none⟩) (n + 1) cap ∧ w.grownBy w' (some g)) ∨ (w.grownBy w' none ∧ ∀ j, v'.ownBlock = some j → w.heap.size ≤ j)) → wpList Try.prog ops Q rest (a.put o.dst v') w') :
    wpList Try.prog ops Q (o :: rest) a w := by
  obtain ⟨i9, hi, hz0, hz1, hz2⟩ := info_parts hiE
  have h1c : ∀ u ∈ [Value.string c], u.oneCell' = true := fun u hu => by simp only [List.mem_cons, List.not_mem_nil, or_false] at hu; subst hu; rfl
  have hmx : n + 1 ≤ maxLen := by unfold maxLen; omega
  rcases hown.2 with ⟨e, h0⟩ | ⟨g, cap, cur, e, hg, hh, hc, hcm, hcs, ht⟩
  · subst e h0
    have hx0 : xs = [] := List.length_eq_zero_iff.1 (by have := hown.1; omega)
    subst hx0
    refine wpList_append_own w hgd s x 23 ho w.heap.size 9 i9 (.string ByteArray.empty) 1 16 Try.underlying23 hi hz0 hz1 hz2 rfl (by decide) (.slice none 0 0) 0 [] hs (World.ownsRow_nil _ _ _ _) ad 1 1 [.string c] hx rfl hnews h1c (by omega) (by omega) (Nat.le_refl _) ?_
    intro v' w' ho' hg' _
    exact h v' w' (own_base ho' hB) (.inr ⟨hg', fun j hj => (ho'.lt j hj).1⟩)
  · subst e
    by_cases hr : n + 1 ≤ cap
    · refine wpList_append_own_spare w hgd s x 23 ho B 9 i9 1 Try.underlying23 hi hz1 g n cap xs hs hown ad 1 1 [.string c] hx rfl hnews h1c hr ?_
      intro w' ho' hg'
      exact h _ w' ho' (.inl ⟨g, cap, rfl, rfl, hg'⟩)
    · refine wpList_append_arg w hgd s x 23 ho 9 i9 (.string ByteArray.empty) 1 16 Try.underlying23 hi hz0 hz1 hz2 rfl (by decide) g 0 n cap xs hs hown.1 ?_ ad 1 1 [.string c] hx rfl hnews h1c (fun hr' => absurd hr' hr) hmx (by omega) (fun hr' => absurd hr' hr) ?_
      · intro j u hj
        have hjl : j < n * 1 := by have := (List.getElem?_eq_some_iff.1 hj).1; have := hown.1; omega
        rw [Nat.zero_add, hown.cellAt j hjl, hj]
      · intro _ v' w' ho' hg'
        exact h v' w' (own_base ho' hB) (.inr ⟨hg', fun j hj => (ho'.lt j hj).1⟩)

theorem mark_next (xs : List ByteArray) (c : ByteArray) (k : Nat) (hk : k < xs.length) : (List.replicate k c ++ xs.drop k).set k c = List.replicate (k + 1) c ++ xs.drop (k + 1) := by
  rw [List.set_append_right _ _ (by rw [List.length_replicate]; omega), List.length_replicate, Nat.sub_self, List.drop_eq_getElem_cons hk, List.set_cons_zero, List.replicate_succ', List.append_assoc]
  rfl
set_option maxHeartbeats 1600000 in
theorem markC (B : Nat) (v : Value) (xs : List ByteArray) (c : ByteArray) (w : World) (h : w.ownsRow B 9 1 v xs.length (xs.map Value.string)) (hz : xs.length ≤ 1000000) :
    Calls Try.prog 21 #[v, .string c] w fun e w' => e = .returned (.tuple #[]) ∧ w'.ownsRow B 9 1 v xs.length (List.replicate xs.length (Value.string c)) ∧ Kp (fun j => v.ownBlock = some j) w w' := by
  obtain ⟨a, cc, rfl⟩ := own_formS h
  obtain ⟨n, HN⟩ : ∃ n, Hid (xs.length = n) := ⟨_, rfl⟩
  rw [HN.out] at h hz ⊢
  have H0 : Hid (w.ownsRow B 9 1 (.slice a n cc) n (xs.map Value.string)) := h
  clear h
  go_enter Try.func21, Try.ntmps21
  go_wp2
  go_loopw [4] (fun i wr => ∃ (k : Nat), k ≤ n ∧ i = .int .i64 k ∧ Hid (wr.ownsRow B 9 1 (.slice a n cc) n ((List.replicate k c ++ xs.drop k).map Value.string) ∧ Kp (fun j => (Value.slice a n cc).ownBlock = some j) w wr)) (fun i _ => (n - intOf i).toNat)
  case atStart => exact ⟨0, by omega, rfl, H0.out, Kp.refl _ _⟩
  case round =>
    obtain ⟨k, hk, rfl, HL⟩ := hrel
    by_cases hlt : k < n
    · have hlt' : (k : Int) < n := by omega
      obtain ⟨g, rfl⟩ : ∃ g, a = some ⟨g, 0, none⟩ := by
        rcases HL.out.1.2 with ⟨e, e2⟩ | ⟨g, cap, cur, e, _⟩
        · omega
        · injection e with e1; exact ⟨g, e1⟩
      have c1 := HL.out.1.cellAt k (by omega)
      have f1 := HL.out.1.frozenAt k
      have hcx : ∃ u, ((List.replicate k c ++ xs.drop k).map Value.string)[k]? = some u := ⟨_, List.getElem?_eq_getElem (by have := HL.out.1.1; omega)⟩
      obtain ⟨u, hu⟩ := hcx
      rw [hu] at c1
      clear hu
      have O2 : Hid ((wr.setCell ⟨g, k, none⟩ (.string c)).ownsRow B 9 1 (.slice (some ⟨g, 0, none⟩) n cc) n ((List.replicate (k + 1) c ++ xs.drop (k + 1)).map Value.string)) := by
        have h1 := (HL.out.1.stored k (.string c)).1
        rw [← List.map_set, mark_next xs c k (by rw [HN.out]; exact hlt)] at h1
        exact h1
      have K2 : Hid (Kp (fun j => (Value.slice (some ⟨g, 0, none⟩) n cc).ownBlock = some j) w (wr.setCell ⟨g, k, none⟩ (.string c))) := HL.out.2.trans (Kp.setCell _ _ _ _ rfl)
      clear HL
      go_wp2
      go_roundw
      case rel => exact ⟨k + 1, by omega, by go_num, O2.out, K2.out⟩
      case measure => simp [intOf]; omega
    · have hlt' : ¬ (k : Int) < n := by omega
      obtain rfl : k = n := by omega
      have HX : Hid (List.replicate k c ++ xs.drop k = List.replicate k c) := by show _ = _; rw [List.drop_eq_nil_of_le (by rw [HN.out]; exact Nat.le_refl _), List.append_nil]
      rw [HX.out] at HL
      go_wp2
      go_end0
      exact ⟨rfl, by have h := HL.out.1; rw [List.map_replicate] at h; exact h, HL.out.2⟩
theorem beqc (c : ByteArray) : (c.toList != c.toList) = false := by simp
set_option maxHeartbeats 1600000 in
theorem fullC (B n : Nat) (v : Value) (c : ByteArray) (w : World) (h : w.ownsRow B 9 1 v n (List.replicate n (Value.string c))) (hz : n ≤ 1000000) :
    Calls Try.prog 23 #[v, .string c] w fun e w' => e = .returned (.bool true) ∧ ∃ m, w' = w.drewN m := by
  obtain ⟨a, cc, rfl⟩ := own_formS h
  have H0 : Hid (w.ownsRow B 9 1 (.slice a n cc) n (List.replicate n (Value.string c))) := h
  clear h
  have hbc := beqc c
  have hbd : (c.toList == c.toList) = true := beq_self_eq_true _
  go_enter Try.func23, Try.ntmps23
  go_wp2
  go_loopw [5] (fun i wr => ∃ (k m : Nat), k ≤ n ∧ i = .int .i64 k ∧ wr = w.drewN m) (fun i _ => (n - intOf i).toNat)
  case atStart => exact ⟨0, 0, by omega, rfl, rfl⟩
  case round =>
    obtain ⟨k, m, hk, rfl, rfl⟩ := hrel
    by_cases hlt : k < n
    · have hlt' : (k : Int) < n := by omega
      obtain ⟨g, rfl⟩ : ∃ g, a = some ⟨g, 0, none⟩ := by
        rcases H0.out.2 with ⟨e, e2⟩ | ⟨g, cap, cur, e, _⟩
        · omega
        · injection e with e1; exact ⟨g, e1⟩
      have c1 : (w.drewN m).cell? ⟨g, k, none⟩ = some (.string c) := by
        have h1 := H0.out.cellAt k (by omega)
        rw [List.getElem?_replicate, if_pos hlt] at h1
        exact h1
      go_wp2
      go_roundw
      case rel => exact ⟨k + 1, m, by omega, by go_num, rfl⟩
      case measure => simp [intOf]; omega
    · have hlt' : ¬ (k : Int) < n := by omega
      go_wp2
      go_ret
      exact ⟨rfl, _, rfl⟩

-- a list grown into another one
structure Gi (w : World) (B : Nat) (v : Value) (n : Nat) (ys : List Value) (c : ByteArray) (k : Nat) (vm : Value) (wr : World) : Prop where
  own : wr.ownsRow B 9 1 vm (n + k) (ys ++ List.replicate k (Value.string c))
  old : wr.ownsRow B 9 1 v n ys
  kp : Kp (fun j => v.ownBlock = some j) w wr
  at_ : ∀ j, vm.ownBlock = some j → w.heap.size ≤ j ∨ ∃ cap, v = .slice (some ⟨j, 0, none⟩) n cap ∧ vm = .slice (some ⟨j, 0, none⟩) (n + k) cap
theorem Gi.start {w : World} {B : Nat} {v : Value} {n : Nat} {ys : List Value} (c : ByteArray) (h : w.ownsRow B 9 1 v n ys) : Gi w B v n ys c 0 v w := by
  refine ⟨by simpa using h, h, Kp.refl _ _, fun j hj => ?_⟩
  rcases h.2 with ⟨rfl, _⟩ | ⟨g, cap, cur, rfl, _⟩
  · cases hj
  · injection hj with e
    subst e
    exact .inr ⟨cap, rfl, rfl⟩
theorem Gi.step {w : World} {B : Nat} {v : Value} {n : Nat} {ys : List Value} {c : ByteArray} {k : Nat} {vm : Value} {wr : World} (hv : w.ownsRow B 9 1 v n ys) (h : Gi w B v n ys c k vm wr) (ob : Obj) (v' : Value) (w' : World)
    (ho : w'.ownsRow B 9 1 v' (n + k + 1) ((ys ++ List.replicate k (Value.string c)) ++ [Value.string c]))
    (hc : (∃ g cap, vm = .slice (some ⟨g, 0, none⟩) (n + k) cap ∧ v' = .slice (some ⟨g, 0, none⟩) (n + k + 1) cap ∧ (wr.alloc ob).grownBy w' (some g)) ∨ ((wr.alloc ob).grownBy w' none ∧ ∀ j, v'.ownBlock = some j → (wr.alloc ob).heap.size ≤ j)) :
    Gi w B v n ys c (k + 1) v' w' := by
  have hrep : (ys ++ List.replicate k (Value.string c)) ++ [Value.string c] = ys ++ List.replicate (k + 1) (Value.string c) := by rw [List.append_assoc, ← List.replicate_succ']
  rw [hrep] at ho
  have hyl : ys.length = n := by have := hv.1; omega
  have hka : Kp (fun j => v.ownBlock = some j) w (wr.alloc ob) := h.kp.trans (Kp.of_below ((Below.refl _ _).alloc (Nat.le_refl _) ob))
  have hold : (wr.alloc ob).ownsRow B 9 1 v n ys := h.old.alloc ob
  rcases hc with ⟨g, cap, rfl, rfl, hg⟩ | ⟨hg, hj⟩
  · have hat := h.at_ g rfl
    refine ⟨ho, ?_, ⟨hg.os.trans hka.os, hg.tape.trans hka.tape, hg.output.trans hka.output, Nat.le_trans hka.size hg.size, fun j hj hn => ?_⟩, fun j hj => ?_⟩
    · rcases hat with hge | ⟨cap', rfl, e⟩
      · exact own_not hold (kp_grown hg) (fun j hj he => by
          injection he with he
          have := (hv.lt j hj).2
          omega)
      · injection e with _ _ e3
        subst e3
        exact own_take ho hyl
    · have hne : some j ≠ some g := fun e => by
        injection e with e
        subst e
        rcases hat with hge | ⟨cap', rfl, e⟩
        · omega
        · exact hn rfl
      exact (hg.block j (Nat.lt_of_lt_of_le hj hka.size) hne).trans (hka.block j hj hn)
    · injection hj with hj
      subst hj
      rcases hat with hge | ⟨cap', e1, e⟩
      · exact .inl hge
      · injection e with _ _ e3
        subst e3
        exact .inr ⟨cap, e1, rfl⟩
  · refine ⟨ho, own_not hold (kp_grown hg) (fun j _ he => by cases he), hka.trans (kp_grown hg |>.mono (fun j e => by cases e)), fun j h5 => .inl (Nat.le_trans hka.size (hj j h5))⟩
set_option maxHeartbeats 1600000 in
theorem grownC (B n : Nat) (v : Value) (ys : List Value) (c : ByteArray) (w : World) (h : w.ownsRow B 9 1 v n ys) (hB : B ≤ w.heap.size) (hz : n ≤ 100000) :
    Calls Try.prog 22 #[v, .string c] w fun e w' => e = .returned (.int .i64 ((n : Int) + 301)) ∧ w'.ownsRow B 9 1 v n ys ∧ Kp (fun j => v.ownBlock = some j) w w' := by
  obtain ⟨a, cc, rfl⟩ := own_formS h
  have H0 : Hid (w.ownsRow B 9 1 (.slice a n cc) n ys) := h
  have G0 : Hid (Gi w B (.slice a n cc) n ys c 0 (.slice a n cc) w) := Gi.start c h
  clear h
  obtain ⟨v0, HV⟩ : ∃ v0, Hid (Value.slice a n cc = v0) := ⟨_, rfl⟩
  go_enter Try.func22, Try.ntmps22
  go_wp2_with (at_builtin; refine wpList_append_two _ rfl _ _ rfl B (.slice a n cc) n _ rfl (H0.out.alloc _) ⟨w.heap.size, 0, none⟩ c rfl (new_one _ _ _) (by omega) (by simp; omega) ?_; intro v1 w1 o1 a1; have G1 : Hid (Gi w B (.slice a n cc) n ys c 1 v1 w1) := Gi.step H0.out G0.out _ v1 w1 (by simpa using o1) a1; clear o1 a1)
  go_loopw [5, 6] (fun vm i wr => ∃ (k : Nat), k ≤ 300 ∧ i = .int .i64 k ∧ Hid (Gi w B (.slice a n cc) n ys c (k + 1) vm wr)) (fun _ i _ => (300 - intOf i).toNat)
  case atStart => exact ⟨0, by omega, rfl, G1.out⟩
  case round =>
    obtain ⟨k, hk, rfl, HL⟩ := hrel
    obtain ⟨va, vc, hv⟩ := own_formS HL.out.own
    subst hv
    have hsz := HL.out.kp.size
    by_cases hlt : k < 300
    · have hlt' : (k : Int) < 300 := by omega
      go_wp2_with (at_builtin; refine wpList_append_two _ rfl _ _ rfl B (.slice va (n + (k + 1)) vc) (n + (k + 1)) _ rfl (HL.out.own.alloc _) ⟨wr.heap.size, 0, none⟩ c rfl (new_one _ _ _) (by omega) (by simp; omega) ?_; intro v2 w2 o2 a2; have G2 : Hid (Gi w B (.slice a n cc) n ys c (k + 1 + 1) v2 w2) := Gi.step H0.out HL.out _ v2 w2 o2 a2; clear o2 a2)
      go_roundw
      case rel => exact ⟨k + 1, by omega, by go_num, G2.out⟩
      case measure => simp [intOf]; omega
    · have hlt' : ¬ (k : Int) < 300 := by omega
      obtain rfl : k = 300 := by omega
      go_wp2
      go_ret
      exact ⟨by rfl, HL.out.old, HL.out.kp⟩
end Go.Proofs.Ythpfgdhmpeadeaa.lh

namespace Go.Proofs.Ythpfgdhmpeadeaa.wp
open Go.RowKit Go.PlainAid
open Go.Proofs.Ythpfgdhmpeadeaa.ca Go.Proofs.Ythpfgdhmpeadeaa.cb Go.Proofs.Ythpfgdhmpeadeaa.cp Go.Proofs.Ythpfgdhmpeadeaa.ga Go.Proofs.Ythpfgdhmpeadeaa.kp Go.Proofs.Ythpfgdhmpeadeaa.mi Go.Proofs.Ythpfgdhmpeadeaa.ea Go.Proofs.Ythpfgdhmpeadeaa.eb Go.Proofs.Ythpfgdhmpeadeaa.ec Go.Proofs.Ythpfgdhmpeadeaa.ee Go.Proofs.Ythpfgdhmpeadeaa.ef Go.Proofs.Ythpfgdhmpeadeaa.eg Go.Proofs.Ythpfgdhmpeadeaa.eo Go.Proofs.Ythpfgdhmpeadeaa.eq Go.Proofs.Ythpfgdhmpeadeaa.er Go.Proofs.Ythpfgdhmpeadeaa.es Go.Proofs.Ythpfgdhmpeadeaa.ka Go.Proofs.Ythpfgdhmpeadeaa.bn
set_option linter.unusedVariables false

set_option maxHeartbeats 1600000 in
theorem places_yes (va vb : Value) (xs : List Int) (w : World) (h1 : ReadsI w va xs) (h2 : ReadsI w vb xs) (hz : xs.length ≤ 140737488355328) :
    Calls Try.prog 11 #[va, vb] w fun e w' => e = .returned (.bool true) ∧ ∃ m, w' = w.drewN m := by
  obtain ⟨a, cap, rfl, hcap, h1⟩ := h1
  obtain ⟨a', cap', rfl, hcap', h2⟩ := h2
  have HC : Hid (xs.length = 0 ∨ ∃ b off, a = some ⟨b, off, none⟩ ∧ ∀ i, i < xs.length → w.cell? ⟨b, off + i, none⟩ = some (.int .i64 (xs.getD i 0))) := h1
  have HC' : Hid (xs.length = 0 ∨ ∃ b off, a' = some ⟨b, off, none⟩ ∧ ∀ i, i < xs.length → w.cell? ⟨b, off + i, none⟩ = some (.int .i64 (xs.getD i 0))) := h2
  obtain ⟨n, HN⟩ : ∃ n, Hid (xs.length = n) := ⟨_, rfl⟩
  rw [HN.out] at HC HC' hz hcap hcap' ⊢
  clear h1 h2
  have hl' : ((n : Int) != (n : Int)) = false := by simp
  go_enter Try.func11, Try.ntmps11
  go_wp2
  go_loopw [5] (fun i wr => ∃ k m : Nat, k ≤ n ∧ i = .int .i64 k ∧ wr = w.drewN m) (fun i _ => (n - intOf i).toNat)
  case atStart => exact ⟨0, 0, by omega, rfl, rfl⟩
  case round =>
    obtain ⟨k, m, hk, rfl, rfl⟩ := hrel
    by_cases hlt : k < n
    · have hlt' : (k : Int) < n := by omega
      obtain ⟨b, off, rfl, hc⟩ : ∃ b off, a = some ⟨b, off, none⟩ ∧ ∀ i, i < n → w.cell? ⟨b, off + i, none⟩ = some (.int .i64 (xs.getD i 0)) := by
        rcases HC.out with h | h
        · omega
        · exact h
      obtain ⟨b', off', rfl, hc'⟩ : ∃ b off, a' = some ⟨b, off, none⟩ ∧ ∀ i, i < n → w.cell? ⟨b, off + i, none⟩ = some (.int .i64 (xs.getD i 0)) := by
        rcases HC'.out with h | h
        · omega
        · exact h
      have c1 := hc k hlt
      have c2 := hc' k hlt
      obtain ⟨X, HX⟩ : ∃ X, Hid (xs.getD k 0 = X) := ⟨_, rfl⟩
      rw [HX.out] at c1 c2
      have hb1 : (X != X) = false := by simp
      clear hc hc'
      go_wp2_with fail
      go_quiet (fail)
      go_wp2
      go_roundw
      case rel => exact ⟨k + 1, _, by omega, by go_num, rfl⟩
      case measure => simp [intOf]; omega
    · have hlt' : ¬ (k : Int) < n := by omega
      go_wp2
      go_ret
      exact ⟨rfl, m, rfl⟩
set_option maxHeartbeats 3200000 in
theorem alike_yes (k wd a b n : Int) (v1 v2 h1 h2 : Option Addr) (l1 c1 l2 c2 m1 d1 m2 d2 : Nat) (xs : List Int) (hs : List ByteArray) (w : World) (r1 : ReadsI w (.slice v1 l1 c1) xs) (r2 : ReadsI w (.slice v2 l2 c2) xs) (t1 : ReadsT w (.slice h1 m1 d1) hs) (t2 : ReadsT w (.slice h2 m2 d2) hs) (hz : xs.length ≤ 140737488355328) (hh : hs.length ≤ 140737488355328) :
    Calls Try.prog 14 #[.agg #[.int .i64 k, .int .i64 wd, .int .i64 a, .int .i64 b, .int .i64 n, .slice v1 l1 c1, .slice h1 m1 d1], .agg #[.int .i64 k, .int .i64 wd, .int .i64 a, .int .i64 b, .int .i64 n, .slice v2 l2 c2, .slice h2 m2 d2]] w fun e w' => e = .returned (.bool true) ∧ Below w.heap.size w w' := by
  obtain ⟨W1, HX1⟩ : ∃ W, Hid (W = w.alloc (.cells #[.int .i64 k, .int .i64 wd, .int .i64 a, .int .i64 b, .int .i64 n, .slice v1 l1 c1, .slice h1 m1 d1] 25)) := ⟨_, rfl⟩
  have hW1 : W1.heap[w.heap.size]? = some (.cells #[.int .i64 k, .int .i64 wd, .int .i64 a, .int .i64 b, .int .i64 n, .slice v1 l1 c1, .slice h1 m1 d1] 25 (0, 0)) := by rw [HX1.out]; exact heap_alloc_new w _
  have B1 : Below w.heap.size w W1 := by rw [HX1.out]; exact (Below.refl _ _).alloc (Nat.le_refl _) _
  have hs1 : W1.heap.size = w.heap.size + 1 := by rw [HX1.out]; simp
  obtain ⟨W2, HX2⟩ : ∃ W, Hid (W = W1.alloc (.cells #[.int .i64 k, .int .i64 wd, .int .i64 a, .int .i64 b, .int .i64 n, .slice v2 l2 c2, .slice h2 m2 d2] 25)) := ⟨_, rfl⟩
  have hW2 : W2.heap[w.heap.size + 1]? = some (.cells #[.int .i64 k, .int .i64 wd, .int .i64 a, .int .i64 b, .int .i64 n, .slice v2 l2 c2, .slice h2 m2 d2] 25 (0, 0)) := by rw [HX2.out, ← hs1]; exact heap_alloc_new W1 _
  have B2 : Below W1.heap.size W1 W2 := by rw [HX2.out]; exact (Below.refl _ _).alloc (Nat.le_refl _) _
  have hV1 := (B2.block w.heap.size (by omega)).trans hW1
  have BB : Hid (Below w.heap.size w W2) := below2 B1 B2 (Nat.le_refl _)
  obtain ⟨a0, a1, a2, a3, a4, a5, a6⟩ := seven hV1
  obtain ⟨b0, b1, b2, b3, b4, b5, b6⟩ := seven hW2
  have PC : Hid (Calls _ _ _ _ _) := places_yes (.slice v1 l1 c1) (.slice v2 l2 c2) xs W2 (r1.later BB.out) (r2.later BB.out) hz
  have SC : Hid (∀ W, Below w.heap.size w W → Calls _ _ _ _ _) := fun W hb => same_yes (.slice h1 m1 d1) (.slice h2 m2 d2) hs W (t1.later hb) (t2.later hb) hh
  have P1 : Hid (W2.heap[w.heap.size]? = _) := hV1
  have P2 : Hid (W2.heap[w.heap.size + 1]? = _) := hW2
  have e1 : (k != k) = false := by simp
  have e2 : (wd != wd) = false := by simp
  have e3 : (a != a) = false := by simp
  have e4 : (b != b) = false := by simp
  have e5 : (n != n) = false := by simp
  clear hW1 hW2 B1 B2 hs1 hV1 r1 r2 t1 t2
  go_enter Try.func14, Try.ntmps14
  go_upto_region 1 with fail
  rw [← HX1.out, ← HX2.out]
  clear HX1 HX2
  go_wp2_with (first
    | (go_at_call 11; refine PC.out.mono ?_; rintro _ w3 ⟨rfl, m3, hm3⟩; have B3 : Hid (Below w.heap.size w w3) := below2 BB.out (by rw [hm3]; exact below_dN (Below.refl _ _) _) (Nat.le_refl _); have i6 : w3.cell? ⟨w.heap.size, 6, none⟩ = some (.slice h1 m1 d1) := (by rw [hm3]; exact cell_of_row _ _ 6 _ _ _ P1.out); have j6 : w3.cell? ⟨w.heap.size + 1, 6, none⟩ = some (.slice h2 m2 d2) := (by rw [hm3]; exact cell_of_row _ _ 6 _ _ _ P2.out); clear hm3)
    | (go_at_call 20; refine (SC.out _ B3.out).mono ?_; rintro _ w4 ⟨rfl, m4, hm4⟩; have B4 : Hid (Below w.heap.size w w4) := below2 B3.out (by rw [hm4]; exact below_dN (Below.refl _ _) _) (Nat.le_refl _); clear hm4))
  go_ret
  exact ⟨rfl, B4.out⟩
end Go.Proofs.Ythpfgdhmpeadeaa.wp

namespace Go.Proofs.Ythpfgdhmpeadeaa.w1
open Go.RowKit Go.PlainAid Go.Shelf
open Go.Proofs.Ythpfgdhmpeadeaa.ca Go.Proofs.Ythpfgdhmpeadeaa.cb Go.Proofs.Ythpfgdhmpeadeaa.cp Go.Proofs.Ythpfgdhmpeadeaa.ga Go.Proofs.Ythpfgdhmpeadeaa.kp Go.Proofs.Ythpfgdhmpeadeaa.mi Go.Proofs.Ythpfgdhmpeadeaa.eb Go.Proofs.Ythpfgdhmpeadeaa.ec Go.Proofs.Ythpfgdhmpeadeaa.ep Go.Proofs.Ythpfgdhmpeadeaa.eq Go.Proofs.Ythpfgdhmpeadeaa.fa Go.Proofs.Ythpfgdhmpeadeaa.ee Go.Proofs.Ythpfgdhmpeadeaa.ef Go.Proofs.Ythpfgdhmpeadeaa.eg Go.Proofs.Ythpfgdhmpeadeaa.eh Go.Proofs.Ythpfgdhmpeadeaa.er Go.Proofs.Ythpfgdhmpeadeaa.es Go.Proofs.Ythpfgdhmpeadeaa.ka Go.Proofs.Ythpfgdhmpeadeaa.bn Go.Proofs.Ythpfgdhmpeadeaa.e6 Go.Proofs.Ythpfgdhmpeadeaa.e7 Go.Proofs.Ythpfgdhmpeadeaa.lg Go.Proofs.Ythpfgdhmpeadeaa.lh Go.Proofs.Ythpfgdhmpeadeaa.wl Go.Proofs.Ythpfgdhmpeadeaa.wp Go.Proofs.Ythpfgdhmpeadeaa.f9
set_option linter.unusedVariables false

theorem proofV_form (k wd a b n : Int) (xs : List Int) (hs : List ByteArray) : ∃ s e, proofV k wd a b n xs hs = .tuple #[.string s, .int .i64 e] := ⟨_, _, rfl⟩
theorem one_new (W : World) (x : Int) : ReadsI (W.alloc (.cells #[.int .i64 x] 3)) (.slice (some ⟨W.heap.size, 0, none⟩) 1 1) [x] := one_int W x _
theorem kp_block {A : Nat → Prop} {w w' : World} (k : Kp A w w') (p : Nat) (h : p < w.heap.size) (hA : ¬ A p) : w'.heap[p]? = w.heap[p]? := k.block p h hA
theorem below2' {w W W1 : World} (h : Below w.heap.size w W) (k : Kp (fun q => q = W.heap.size) W W1) (e : W.heap.size = w.heap.size + 1) : Below w.heap.size w W1 := h.trans (k.below (fun j hj => by omega) (by omega))
theorem kp_above {B : Nat} {w w' : World} (h : Below B w w') : Kp (fun j => B ≤ j) w w' := ⟨h.os, h.tape, h.output, h.size, fun k hk hn => h.block k (by omega)⟩
theorem tw_other {w w' w0 : World} {B B' g n cp : Nat} {xs : List ByteArray} (h : Tw w B g n cp xs) (hg : g < B') (k : Below B' w w') : Tw w' B g n cp xs := own_not h (kp_above k) (fun j hj => (by have e : g = j := (by simpa [Value.ownBlock] using hj); omega))
theorem own_some {w : World} {B n : Nat} {v : Value} {xs : List Int} {m : Int} (h : OwI w B v (xs ++ [m])) (hn : xs.length = n) : ∃ g c, v = .slice (some ⟨g, 0, none⟩) (n + 1) c := by
  rcases h.2 with ⟨_, e2⟩ | ⟨g, cap, cur, e, _⟩
  · rw [List.length_append, List.length_singleton] at e2; omega
  · rw [List.length_append, List.length_singleton, hn] at e; exact ⟨g, cap, e⟩
theorem own_ge {w : World} {B t s n : Nat} {g l c : Nat} {xs : List Value} (h : w.ownsRow B t s (.slice (some ⟨g, 0, none⟩) l c) n xs) : B ≤ g ∧ g < w.heap.size := World.ownsRow.lt h g rfl
theorem own_keep {A : Nat → Prop} {w w' : World} {B t s n g l c : Nat} {xs : List Value} (h : w.ownsRow B t s (.slice (some ⟨g, 0, none⟩) l c) n xs) (k : Kp A w w') (hA : ¬ A g) : w'.ownsRow B t s (.slice (some ⟨g, 0, none⟩) l c) n xs := own_not h k (fun j hj => (by have e : g = j := (by simpa [Value.ownBlock] using hj); subst e; exact hA))
set_option maxRecDepth 100000 in
set_option maxHeartbeats 12800000 in
theorem wireProof {w : World} (k wd a b n : Int) (va ha : Option Addr) (L vc hl hc : Nat) (xs : List Int) (hs : List ByteArray) (hR : ReadsI w (.slice va L vc) xs) (hnoI : ∀ k c, Value.slice va L vc = .slice none k c → c = 0) (hzI : xs.length * 8 ≤ 140737488351232) (hT : ReadsT w (.slice ha hl hc) hs) (hnoT : ∀ k c, Value.slice ha hl hc = .slice none k c → c = 0) (hzT : hs.length * 16 ≤ 140737488351232) :
    Calls Try.prog 3 #[.agg #[.int .i64 k, .int .i64 wd, .int .i64 a, .int .i64 b, .int .i64 n, .slice va L vc, .slice ha hl hc]] w fun e w' => e = .returned (.bool true) ∧ Below w.heap.size w w' := by
  have hL : xs.length = L := by obtain ⟨_, _, e, _⟩ := hR; exact (Value.slice.inj e).2.1.symm
  have hM : hs.length = hl := by obtain ⟨_, _, e, _⟩ := hT; exact (Value.slice.inj e).2.1.symm
  have hlI : (L : Int) ≤ 17592186043904 := by omega
  have hlT : (hl : Int) ≤ 8796093021952 := by omega
  obtain ⟨W1, HW1⟩ : ∃ W1, Hid (W1 = (w.alloc (.cells #[.int .i64 k, .int .i64 wd, .int .i64 a, .int .i64 b, .int .i64 n, .slice va L vc, .slice ha hl hc] 25)).alloc (.cells #[.int .i64 k, .int .i64 wd, .int .i64 a, .int .i64 b, .int .i64 n, .slice va L vc, .slice ha hl hc] 25)) := ⟨_, rfl⟩
  have B1 : Hid (Below w.heap.size w W1) := by rw [HW1.out]; exact ((Below.refl _ _).alloc (Nat.le_refl _) _).alloc (by simp) _
  have hp1 : W1.heap[w.heap.size]? = some (.cells #[.int .i64 k, .int .i64 wd, .int .i64 a, .int .i64 b, .int .i64 n, .slice va L vc, .slice ha hl hc] 25 (0, 0)) := by rw [HW1.out]; exact (Below.heap_alloc _ _ _ (by simp)).trans (heap_alloc_new w _)
  have HP1 : Hid (W1.heap[w.heap.size]? = some (.cells #[.int .i64 k, .int .i64 wd, .int .i64 a, .int .i64 b, .int .i64 n, .slice va L vc, .slice ha hl hc] 25 (0, 0))) := hp1
  have HQ1 : Hid (W1.heap[w.heap.size + 1]? = some (.cells #[.int .i64 k, .int .i64 wd, .int .i64 a, .int .i64 b, .int .i64 n, .slice va L vc, .slice ha hl hc] 25 (0, 0))) := by
    rw [HW1.out]
    have h := heap_alloc_new (w.alloc (.cells #[.int .i64 k, .int .i64 wd, .int .i64 a, .int .i64 b, .int .i64 n, .slice va L vc, .slice ha hl hc] 25)) (.cells #[.int .i64 k, .int .i64 wd, .int .i64 a, .int .i64 b, .int .i64 n, .slice va L vc, .slice ha hl hc] 25)
    rw [show (w.alloc (.cells #[.int .i64 k, .int .i64 wd, .int .i64 a, .int .i64 b, .int .i64 n, .slice va L vc, .slice ha hl hc] 25)).heap.size = w.heap.size + 1 by simp] at h
    exact h
  have HLT1 : Hid (w.heap.size + 1 < W1.heap.size) := (Array.getElem?_eq_some_iff.1 HQ1.out).1
  obtain ⟨p0, p1, p2, p3, p4, p5, p6⟩ := seven hp1
  have RI1 : Hid (ReadsI W1 (.slice va L vc) xs) := hR.later B1.out
  have RT1 : Hid (ReadsT W1 (.slice ha hl hc) hs) := hT.later B1.out
  have LC : Hid (Calls _ _ _ _ _) := twinC (.slice ha hl hc) hs W1 RT1.out hnoT hzT
  rw [hM] at LC
  have PBK : Hid (∀ w', Below W1.heap.size W1 w' → w'.heap[w.heap.size]? = some (.cells #[.int .i64 k, .int .i64 wd, .int .i64 a, .int .i64 b, .int .i64 n, .slice va L vc, .slice ha hl hc] 25 (0, 0)) ∧ w'.heap[w.heap.size + 1]? = some (.cells #[.int .i64 k, .int .i64 wd, .int .i64 a, .int .i64 b, .int .i64 n, .slice va L vc, .slice ha hl hc] 25 (0, 0))) := fun w' h => ⟨(h.block _ (by have := HLT1.out; omega)).trans HP1.out, (h.block _ HLT1.out).trans HQ1.out⟩
  have HRI : Hid (ReadsI w (.slice va L vc) xs) := hR
  have HRT : Hid (ReadsT w (.slice ha hl hc) hs) := hT
  have HNI : Hid (∀ k c, Value.slice va L vc = .slice none k c → c = 0) := hnoI
  have HXL : Hid (xs.length = L) := hL
  have HHL : Hid (hs.length = hl) := hM
  have HSZ : Hid (xs.length * 8 ≤ 140737488351232 ∧ hs.length * 16 ≤ 140737488351232) := ⟨hzI, hzT⟩
  clear hp1 hR hT hnoI hnoT hL hM hzI hzT
  go_enter Try.func3, Try.ntmps3
  go_upto_region 2 with fail
  rw [← HW1.out]
  clear HW1
  go_upto_region 3 with (go_at_call 6; refine LC.out.mono ?_; rintro _ w2 ⟨⟨g, cp, rfl, t2⟩, k2⟩; have T2 : Hid (Tw w2 W1.heap.size g hl cp hs) := t2; have B2 : Hid (Below W1.heap.size W1 w2) := k2; clear t2 k2)
  obtain ⟨a0, a1, a2, a3, a4, a5, a6⟩ := seven (PBK.out w2 B2.out).1
  clear p0 p1 p2 p3 p4 p5 p6 LC
  have RI2 : Hid (ReadsI w2 (.slice va L vc) xs) := RI1.out.later B2.out
  go_upto_region 4 with (at_builtin; refine wpList_appN rfl _ _ rfl w2.heap.size (.slice none 0 0) (.slice va L vc) [] xs rfl (OwI.nil _ _) rfl RI2.out HNI.out (by have := HSZ.out.1; simp only [List.length_nil]; omega) (Nat.le_refl _) ?_; intro v3 w3 o3 b3; have O3 : Hid (OwI w3 w2.heap.size v3 xs) := o3; have B3 : Hid (Below W1.heap.size W1 w3) := below2 B2.out b3 (Nat.le_refl _); have T3 : Hid (Tw w3 W1.heap.size g hl cp hs) := T2.out.later b3; have hs23 : w2.heap.size ≤ w3.heap.size := b3.size; clear o3 b3)
  have HS23 : Hid (w2.heap.size ≤ w3.heap.size) := hs23
  have HG : Hid (W1.heap.size ≤ g ∧ g < w2.heap.size) := own_ge T2.out
  obtain ⟨s3, c3, hv3⟩ := O3.out.form
  rw [HXL.out] at hv3
  subst hv3
  have O4 : Hid (OwI (w3.alloc (.cells #[.int .i64 (-7)] 3)) w2.heap.size (.slice s3 L c3) xs) := O3.out.later ((Below.refl _ _).alloc (Nat.le_refl _) _)
  have B4 : Hid (Below W1.heap.size W1 (w3.alloc (.cells #[.int .i64 (-7)] 3))) := B3.out.alloc B3.out.size _
  have T4 : Hid (Tw (w3.alloc (.cells #[.int .i64 (-7)] 3)) W1.heap.size g hl cp hs) := T3.out.later ((Below.refl _ _).alloc (Nat.le_refl _) _)
  clear a0 a1 a2 a3 a4 a5 a6 hs23
  go_upto_region 5 with (at_builtin; refine wpList_appN rfl _ _ rfl w2.heap.size (.slice s3 L c3) (.slice (some ⟨w3.heap.size, 0, none⟩) 1 1) xs [-7] rfl O4.out rfl (one_new w3 (-7)) (fun k c e => absurd (Value.slice.inj e).1 (by simp)) (by have := HSZ.out.1; simp only [List.length_cons, List.length_nil]; omega) (by have := HS23.out; simp; omega) ?_; intro v5 w5 o5 b5; have O5 : Hid (OwI w5 w2.heap.size v5 (xs ++ [-7])) := o5; have B5 : Hid (Below W1.heap.size W1 w5) := B4.out.trans (b5.mono B2.out.size); have T5 : Hid (Tw w5 W1.heap.size g hl cp hs) := tw_other (w0 := w) T4.out HG.out.2 b5; clear o5 b5)
  obtain ⟨g2, c2, hv5⟩ := own_some O5.out HXL.out
  subst hv5
  obtain ⟨q1, q2⟩ := own_beg O5.out |> fun h => (⟨h.1, h.2⟩ : _ ∧ _)
  have hc2 : L + 1 ≤ c2 := q2.2.2
  have hcp2 : hl + 1 ≤ cp := (T5.out.cell HHL.out).2.2
  have hc2a : (L : Int) ≤ c2 := by omega
  have hcpa : (hl : Int) ≤ cp := by omega
  have HG2 : Hid (w2.heap.size ≤ g2 ∧ g2 < w5.heap.size) := own_ge O5.out
  obtain ⟨hp5, hq5⟩ := PBK.out w5 B5.out
  have HP5 : Hid (w5.heap[w.heap.size]? = some (.cells #[.int .i64 k, .int .i64 wd, .int .i64 a, .int .i64 b, .int .i64 n, .slice va L vc, .slice ha hl hc] 25 (0, 0))) := hp5
  have HQ5 : Hid (w5.heap[w.heap.size + 1]? = some (.cells #[.int .i64 k, .int .i64 wd, .int .i64 a, .int .i64 b, .int .i64 n, .slice va L vc, .slice ha hl hc] 25 (0, 0))) := hq5
  obtain ⟨a0, a1, a2, a3, a4, a5, a6⟩ := seven hp5
  obtain ⟨b0, b1, b2, b3, b4, b5, b6⟩ := seven hq5
  have f6 := frozen_of_row _ _ 6 _ _ hq5
  clear hp5 hq5 q1 q2
  go_upto_region 7 with fail
  obtain ⟨W6, HW6⟩ : ∃ W6, W6 = w5.setCell ⟨w.heap.size + 1, 6, none⟩ (.slice (some ⟨g, 0, none⟩) hl cp) := ⟨_, rfl⟩
  have hQ6 : W6.heap[w.heap.size + 1]? = some (.cells #[.int .i64 k, .int .i64 wd, .int .i64 a, .int .i64 b, .int .i64 n, .slice va L vc, .slice (some ⟨g, 0, none⟩) hl cp] 25 (0, 0)) := by rw [HW6]; exact heap_setCell_same _ _ 6 _ _ _ HQ5.out
  have K6 : Hid (Kp (fun q => q = w.heap.size + 1) w5 W6) := by rw [HW6]; exact kset _ _ _ _
  have HQ6 : Hid _ := hQ6
  rw [← HW6]
  clear HW6 a0 a1 a2 a3 a4 a5 a6 b0 b1 b2 b3 b4 b5 b6 f6
  obtain ⟨b0, b1, b2, b3, b4, b5, b6⟩ := seven hQ6
  have f5 := frozen_of_row _ _ 5 _ _ hQ6
  clear hQ6
  go_upto_region 8 with fail
  obtain ⟨W7, HW7⟩ : ∃ W7, W7 = W6.setCell ⟨w.heap.size + 1, 5, none⟩ (.slice (some ⟨g2, 0, none⟩) L c2) := ⟨_, rfl⟩
  have hQ7 : W7.heap[w.heap.size + 1]? = some (.cells #[.int .i64 k, .int .i64 wd, .int .i64 a, .int .i64 b, .int .i64 n, .slice (some ⟨g2, 0, none⟩) L c2, .slice (some ⟨g, 0, none⟩) hl cp] 25 (0, 0)) := by rw [HW7]; exact heap_setCell_same _ _ 5 _ _ _ HQ6.out
  have K7 : Hid (Kp (fun q => q = w.heap.size + 1) w5 W7) := K6.out.trans (by rw [HW7]; exact kset _ _ _ _)
  rw [← HW7]
  clear HW7 b0 b1 b2 b3 b4 b5 b6 f5
  obtain ⟨b0, b1, b2, b3, b4, b5, b6⟩ := seven hQ7
  have T7 : Hid (Tw W7 W1.heap.size g hl cp hs) := own_keep T5.out K7.out (by have := HG.out; have := HLT1.out; omega)
  have O7 : Hid (OwI W7 w2.heap.size (.slice (some ⟨g2, 0, none⟩) (L + 1) c2) (xs ++ [-7])) := own_keep O5.out K7.out (by have := HG2.out; have := HLT1.out; have := B2.out.size; omega)
  have HP7 : Hid (W7.heap[w.heap.size]? = some (.cells #[.int .i64 k, .int .i64 wd, .int .i64 a, .int .i64 b, .int .i64 n, .slice va L vc, .slice ha hl hc] 25 (0, 0))) := (K7.out.block _ (by have := HLT1.out; have := B5.out.size; omega) (by omega)).trans HP5.out
  have KB7 : Hid (Below w.heap.size w W7) := ((B1.out.trans (B5.out.mono (by have := HLT1.out; omega)))).trans (K7.out.below (fun j hj => by omega) (by have := B5.out.size; have := B1.out.size; omega))
  have RI7 : Hid (ReadsI W7 (.slice va L vc) xs) := HRI.out.later KB7.out
  have RT7 : Hid (ReadsT W7 (.slice ha hl hc) hs) := HRT.out.later KB7.out
  have RQ : Hid (ReadsI W7 (.slice (some ⟨g2, 0, none⟩) L c2) xs ∧ W7.cell? ⟨g2, L, none⟩ = some (.int .i64 (-7))) := by
    obtain ⟨z1, z2, _⟩ := own_beg O7.out
    rw [HXL.out] at z1 z2
    exact ⟨z1, z2⟩
  have PC : Hid (Calls _ _ _ _ _) := proofC k wd a b n (some ⟨g2, 0, none⟩) (some ⟨g, 0, none⟩) L c2 hl cp xs hs W7 RQ.out.1 (T7.out.reads HHL.out) (by have := HSZ.out.1; omega) (by have := HSZ.out.2; omega)
  have PD : Hid (∀ W8, Below W7.heap.size W7 W8 → Calls _ _ _ (W8 : World) _) := fun W8 h => rProof k wd a b n va ha L vc hl hc xs hs W8 (RI7.out.later h) (RT7.out.later h) (by have := HSZ.out.1; omega) (by have := HSZ.out.2; omega)
  obtain ⟨S, E, HV⟩ := proofV_form k wd a b n xs hs
  rw [HV] at PC PD
  have g1 : (S.toList == S.toList) = true := beq_self_eq_true _
  have g3 : (E == E) = true := beq_self_eq_true _
  clear HV hQ7
  go_upto_region 9 with (go_at_call 7; refine PC.out.mono ?_; rintro _ w8 ⟨rfl, k8⟩; have B8 : Hid (Below W7.heap.size W7 w8) := k8; clear k8)
  have hp8 : w8.heap[w.heap.size]? = some (.cells #[.int .i64 k, .int .i64 wd, .int .i64 a, .int .i64 b, .int .i64 n, .slice va L vc, .slice ha hl hc] 25 (0, 0)) := (B8.out.block _ (Array.getElem?_eq_some_iff.1 HP7.out).1).trans HP7.out
  obtain ⟨a0, a1, a2, a3, a4, a5, a6⟩ := seven hp8
  clear hp8 b0 b1 b2 b3 b4 b5 b6 PC
  go_upto_region 10 with (go_at_call 8; refine (PD.out _ B8.out).mono ?_; rintro _ w9 ⟨rfl, k9⟩; have B9 : Hid (Below W7.heap.size W7 w9) := below2 B8.out k9 (Nat.le_refl _); clear k9)
  clear a0 a1 a2 a3 a4 a5 a6 PD
  have KC : Hid (∀ W', Below W7.heap.size W7 W' → Calls _ _ _ (W' : World) _) := fun W' h => keptC W1.heap.size g cp (.slice ha hl hc) hs W' (by have := T7.out.later h; rw [← HHL.out] at this; exact this) (RT7.out.later h) (by have := HSZ.out.2; omega)
  rw [HHL.out] at KC
  have PL : Hid (∀ W', Below W7.heap.size W7 W' → Calls _ _ _ (W' : World) _) := fun W' h => places_yes (.slice (some ⟨g2, 0, none⟩) L c2) (.slice va L vc) xs W' (RQ.out.1.later h) (RI7.out.later h) (by have := HSZ.out.1; omega)
  have SF : Hid (∀ W', Below W7.heap.size W7 W' → W'.cell? ⟨w.heap.size, 5, none⟩ = some (.slice va L vc) ∧ W'.cell? ⟨w.heap.size, 6, none⟩ = some (.slice ha hl hc) ∧ W'.cell? ⟨g2, L, none⟩ = some (.int .i64 (-7))) := fun W' h => by
    have hp := (h.block _ (Array.getElem?_eq_some_iff.1 HP7.out).1).trans HP7.out
    obtain ⟨_, _, _, _, _, z5, z6⟩ := seven hp
    exact ⟨z5, z6, (h.cell (World.block_lt_of_cell? _ _ RQ.out.2)).trans RQ.out.2⟩
  have BD : Hid (Below W7.heap.size W7 w9.drew) := below_dr B9.out
  have hL1 : (L : Int) < (L : Int) + 1 := by omega
  have hL2 : ((L + 1 : Nat) : Int) = (L : Int) + 1 := by omega
  go_region_held_law (fun w' => w'.cell? ⟨w.heap.size, 5, none⟩ = some (.slice va L vc) ∧ w'.cell? ⟨w.heap.size, 6, none⟩ = some (.slice ha hl hc) ∧ w'.cell? ⟨g2, L, none⟩ = some (.int .i64 (-7))) (first | exact SF.out _ BD.out | exact SF.out _ B10.out | exact SF.out _ B11.out) (first
    | (go_at_call 9; refine (num E _).mono ?_; rintro _ wz ⟨rfl, hz⟩; rw [hz]; clear hz)
    | (go_at_call 10; refine (KC.out _ BD.out).mono ?_; rintro _ w10 ⟨rfl, m10, hm10⟩; have B10 : Hid (Below W7.heap.size W7 w10) := (by rw [hm10]; exact below_dN BD.out _); clear hm10)
    | (go_at_call 11; refine (PL.out _ B10.out).mono ?_; rintro _ w11 ⟨rfl, m11, hm11⟩; have B11 : Hid (Below W7.heap.size W7 w11) := (by rw [hm11]; exact below_dN B10.out _); clear hm11))
  all_goals (
    go_wp2
    go_ret
    exact ⟨rfl, KB7.out.trans (B11.out.mono KB7.out.size)⟩)
theorem proof_walk {w : World} (k : Int) (_ : (Lit.int .i64 k).wf = true) (wd : Int) (_ : (Lit.int .i64 wd).wf = true) (a : Int) (_ : (Lit.int .i64 a).wf = true) (b : Int) (_ : (Lit.int .i64 b).wf = true) (n : Int) (_ : (Lit.int .i64 n).wf = true) (va ha : Option Addr) (L vc hl hc : Nat) (xs : List Int) (hs : List ByteArray) (hR : ReadsI w (.slice va L vc) xs) (hnoI : ∀ k c, Value.slice va L vc = .slice none k c → c = 0) (_ : ∀ x ∈ xs, -9223372036854775808 ≤ x ∧ x ≤ 9223372036854775807) (hzI : xs.length * 8 ≤ 140737488351232) (hT : ReadsT w (.slice ha hl hc) hs) (hnoT : ∀ k c, Value.slice ha hl hc = .slice none k c → c = 0) (_ : ∀ x ∈ hs, x.size ≤ 140737488351232) (hzT : hs.length * 16 ≤ 140737488351232) :
    Calls Try.prog 3 #[.agg #[.int .i64 k, .int .i64 wd, .int .i64 a, .int .i64 b, .int .i64 n, .slice va L vc, .slice ha hl hc]] w fun e w' => e = .returned (.bool true) ∧ Below w.heap.size w w' := wireProof k wd a b n va ha L vc hl hc xs hs hR hnoI hzI hT hnoT hzT
end Go.Proofs.Ythpfgdhmpeadeaa.w1
