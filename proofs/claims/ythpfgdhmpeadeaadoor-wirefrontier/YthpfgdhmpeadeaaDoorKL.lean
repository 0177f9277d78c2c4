import Derived.Test.YthpfgdhmpeadeaaDoorJ1
import Derived.Test.YthpfgdhmpeadeaaDoorG6
import Derived.Test.YthpfgdhmpeadeaaDoorG1
import Derived.ArgAppend
import Derived.Deep.DeepAppendRoom
namespace Go.Proofs.YthpfgdhmpeadeaaDoor.lh
open Go.RowKit Go.PlainAid
open Go.Proofs.YthpfgdhmpeadeaaDoor.ca Go.Proofs.YthpfgdhmpeadeaaDoor.cp Go.Proofs.YthpfgdhmpeadeaaDoor.ka Go.Proofs.YthpfgdhmpeadeaaDoor.kp Go.Proofs.YthpfgdhmpeadeaaDoor.er Go.Proofs.YthpfgdhmpeadeaaDoor.lg Go.Proofs.YthpfgdhmpeadeaaDoor.bn
set_option linter.unusedVariables false

-- a row that none of the blocks touched is
theorem own_not {A : Nat → Prop} {w w' : World} {B t s n : Nat} {v : Value} {xs : List Value} (h : w.ownsRow B t s v n xs) (k : Kp A w w') (hA : ∀ j, v.ownBlock = some j → ¬ A j) : w'.ownsRow B t s v n xs := by
  obtain ⟨hl, h | ⟨g, cap, cur, rfl, hg, hh, h1, h2, h3, h4⟩⟩ := h
  · exact ⟨hl, .inl h⟩
  · exact ⟨hl, .inr ⟨g, cap, cur, rfl, hg, (k.block g (Array.getElem?_eq_some_iff.1 hh).1 (hA g rfl)).trans hh, h1, h2, h3, h4⟩⟩
theorem kp_grown {w w' : World} {r : Option Nat} (h : w.grownBy w' r) : Kp (fun k => some k = r) w w' := ⟨h.os, h.tape, h.output, h.size, fun k hk hn => h.block k hk hn⟩
-- what a row begins with
theorem own_take {w : World} {B t g cap n m : Nat} {xs ys : List Value} (h : w.ownsRow B t 1 (.slice (some ⟨g, 0, none⟩) m cap) m (xs ++ ys)) (hn : xs.length = n) : w.ownsRow B t 1 (.slice (some ⟨g, 0, none⟩) n cap) n xs := by
  obtain ⟨hl, h | ⟨g', cap', cur, e, hg, hh, h1, h2, h3, h4⟩⟩ := h
  · cases h.1
  · injection e with e1 e2 e3
    injection e1 with e1
    injection e1 with e1
    subst e1 e3
    rw [List.length_append] at hl
    refine ⟨by omega, .inr ⟨g, cap, cur, rfl, hg, hh, by omega, h2, h3, ?_⟩⟩
    have h5 : (cur.toList.take (m * 1)).take n = xs := by rw [h4, ← hn, List.take_left]
    rw [List.take_take] at h5
    rw [← h5]
    congr 1
    omega
-- one more behind a row of texts: in its own room, or in a block of its own
theorem wpList_append_two {ops : Array Oper} {rest : List Oper} {o : Oper} {a : Act} {Q : Exit → Act → World → Prop} (w : World) (hgd : o.guard = none) (s x : Operand)
    (ho : o.op = .call { callee := .builtin .append, args := #[s, x], argTypes := #[22, 22] })
    (B : Nat) (v : Value) (n : Nat) (xs : List Value) (hs : a.eval s = v) (hown : w.ownsRow B 9 1 v n xs) (ad : Addr) (c : ByteArray) (hx : a.eval x = .slice (some ad) 1 1)
    (hnews : ∀ (j : Nat) (u : Value), [Value.string c][j]? = some u → w.cell? (ad.add j) = some u) (hn : n ≤ 1000000) (hB : B ≤ w.heap.size)
    (h : ∀ v' w', w'.ownsRow B 9 1 v' (n + 1) (xs ++ [Value.string c]) → ((∃ g cap, v = .slice (some ⟨g, 0, none⟩) n cap ∧ v' = .slice (some ⟨g, 0, none⟩) (n + 1) cap ∧ w.grownBy w' (some g)) ∨ (w.grownBy w' none ∧ ∀ j, v'.ownBlock = some j → w.heap.size ≤ j)) → wpList Tryd.prog ops Q rest (a.put o.dst v') w') :
    wpList Tryd.prog ops Q (o :: rest) a w := by
  obtain ⟨i9, hi, hz0, hz1, hz2⟩ := info_parts hiE
  have h1c : ∀ u ∈ [Value.string c], u.oneCell' = true := fun u hu => by simp only [List.mem_cons, List.not_mem_nil, or_false] at hu; subst hu; rfl
  have hmx : n + 1 ≤ maxLen := by unfold maxLen; omega
  rcases hown.2 with ⟨e, h0⟩ | ⟨g, cap, cur, e, hg, hh, hc, hcm, hcs, ht⟩
  · subst e h0
    have hx0 : xs = [] := List.length_eq_zero_iff.1 (by have := hown.1; omega)
    subst hx0
    refine wpList_append_own w hgd s x 22 ho w.heap.size 9 i9 (.string ByteArray.empty) 1 16 Tryd.underlying22 hi hz0 hz1 hz2 rfl (by decide) (.slice none 0 0) 0 [] hs (World.ownsRow_nil _ _ _ _) ad 1 1 [.string c] hx rfl hnews h1c (by omega) (by omega) (Nat.le_refl _) ?_
    intro v' w' ho' hg' _
    exact h v' w' (own_base ho' hB) (.inr ⟨hg', fun j hj => (ho'.lt j hj).1⟩)
  · subst e
    by_cases hr : n + 1 ≤ cap
    · refine wpList_append_own_spare w hgd s x 22 ho B 9 i9 1 Tryd.underlying22 hi hz1 g n cap xs hs hown ad 1 1 [.string c] hx rfl hnews h1c hr ?_
      intro w' ho' hg'
      exact h _ w' ho' (.inl ⟨g, cap, rfl, rfl, hg'⟩)
    · refine wpList_append_arg w hgd s x 22 ho 9 i9 (.string ByteArray.empty) 1 16 Tryd.underlying22 hi hz0 hz1 hz2 rfl (by decide) g 0 n cap xs hs hown.1 ?_ ad 1 1 [.string c] hx rfl hnews h1c (fun hr' => absurd hr' hr) hmx (by omega) (fun hr' => absurd hr' hr) ?_
      · intro j u hj
        have hjl : j < n * 1 := by have := (List.getElem?_eq_some_iff.1 hj).1; have := hown.1; omega
        rw [Nat.zero_add, hown.cellAt j hjl, hj]
      · intro _ v' w' ho' hg'
        exact h v' w' (own_base ho' hB) (.inr ⟨hg', fun j hj => (ho'.lt j hj).1⟩)

theorem mark_next (xs : List ByteArray) (c : ByteArray) (k : Nat) (hk : k < xs.length) : (List.replicate k c ++ xs.drop k).set k c = List.replicate (k + 1) c ++ xs.drop (k + 1) := by
  rw [List.set_append_right _ _ (by rw [List.length_replicate]; omega), List.length_replicate, Nat.sub_self, List.drop_eq_getElem_cons hk, List.set_cons_zero, List.replicate_succ', List.append_assoc]
  rfl
set_option maxHeartbeats 1600000 in
theorem markC (B : Nat) (v : Value) (xs : List ByteArray) (c : ByteArray) (w : World) (h : w.ownsRow B 9 1 v xs.length (xs.map Value.string)) (hz : xs.length ≤ 1000000) :
    Calls Tryd.prog 14 #[v, .string c] w fun e w' => e = .returned (.tuple #[]) ∧ w'.ownsRow B 9 1 v xs.length (List.replicate xs.length (Value.string c)) ∧ Kp (fun j => v.ownBlock = some j) w w' := by
  obtain ⟨a, cc, rfl⟩ := own_formS h
  obtain ⟨n, HN⟩ : ∃ n, Hid (xs.length = n) := ⟨_, rfl⟩
  rw [HN.out] at h hz ⊢
  have H0 : Hid (w.ownsRow B 9 1 (.slice a n cc) n (xs.map Value.string)) := h
  clear h
  go_enter Tryd.func14, Tryd.ntmps14
  go_wp2
  go_loopw [4] (fun i wr => ∃ (k : Nat), k ≤ n ∧ i = .int .i64 k ∧ Hid (wr.ownsRow B 9 1 (.slice a n cc) n ((List.replicate k c ++ xs.drop k).map Value.string) ∧ Kp (fun j => (Value.slice a n cc).ownBlock = some j) w wr)) (fun i _ => (n - intOf i).toNat)
  case atStart => exact ⟨0, by omega, rfl, H0.out, Kp.refl _ _⟩
  case round =>
    obtain ⟨k, hk, rfl, HL⟩ := hrel
    by_cases hlt : k < n
    · have hlt' : (k : Int) < n := by omega
      obtain ⟨g, rfl⟩ : ∃ g, a = some ⟨g, 0, none⟩ := by
        rcases HL.out.1.2 with ⟨e, e2⟩ | ⟨g, cap, cur, e, _⟩
        · omega
        · injection e with e1; exact ⟨g, e1⟩
      have c1 := HL.out.1.cellAt k (by omega)
      have f1 := HL.out.1.frozenAt k
      have hcx : ∃ u, ((List.replicate k c ++ xs.drop k).map Value.string)[k]? = some u := ⟨_, List.getElem?_eq_getElem (by have := HL.out.1.1; omega)⟩
      obtain ⟨u, hu⟩ := hcx
      rw [hu] at c1
      clear hu
      have O2 : Hid ((wr.setCell ⟨g, k, none⟩ (.string c)).ownsRow B 9 1 (.slice (some ⟨g, 0, none⟩) n cc) n ((List.replicate (k + 1) c ++ xs.drop (k + 1)).map Value.string)) := by
        have h1 := (HL.out.1.stored k (.string c)).1
        rw [← List.map_set, mark_next xs c k (by rw [HN.out]; exact hlt)] at h1
        exact h1
      have K2 : Hid (Kp (fun j => (Value.slice (some ⟨g, 0, none⟩) n cc).ownBlock = some j) w (wr.setCell ⟨g, k, none⟩ (.string c))) := HL.out.2.trans (Kp.setCell _ _ _ _ rfl)
      clear HL
      go_wp2
      go_roundw
      case rel => exact ⟨k + 1, by omega, by go_num, O2.out, K2.out⟩
      case measure => simp [intOf]; omega
    · have hlt' : ¬ (k : Int) < n := by omega
      obtain rfl : k = n := by omega
      have HX : Hid (List.replicate k c ++ xs.drop k = List.replicate k c) := by show _ = _; rw [List.drop_eq_nil_of_le (by rw [HN.out]; exact Nat.le_refl _), List.append_nil]
      rw [HX.out] at HL
      go_wp2
      go_end0
      exact ⟨rfl, by have h := HL.out.1; rw [List.map_replicate] at h; exact h, HL.out.2⟩
theorem beqc (c : ByteArray) : (c.toList != c.toList) = false := by simp
set_option maxHeartbeats 1600000 in
theorem fullC (B n : Nat) (v : Value) (c : ByteArray) (w : World) (h : w.ownsRow B 9 1 v n (List.replicate n (Value.string c))) (hz : n ≤ 1000000) :
    Calls Tryd.prog 16 #[v, .string c] w fun e w' => e = .returned (.bool true) ∧ ∃ m, w' = w.drewN m := by
  obtain ⟨a, cc, rfl⟩ := own_formS h
  have H0 : Hid (w.ownsRow B 9 1 (.slice a n cc) n (List.replicate n (Value.string c))) := h
  clear h
  have hbc := beqc c
  have hbd : (c.toList == c.toList) = true := beq_self_eq_true _
  go_enter Tryd.func16, Tryd.ntmps16
  go_wp2
  go_loopw [5] (fun i wr => ∃ (k m : Nat), k ≤ n ∧ i = .int .i64 k ∧ wr = w.drewN m) (fun i _ => (n - intOf i).toNat)
  case atStart => exact ⟨0, 0, by omega, rfl, rfl⟩
  case round =>
    obtain ⟨k, m, hk, rfl, rfl⟩ := hrel
    by_cases hlt : k < n
    · have hlt' : (k : Int) < n := by omega
      obtain ⟨g, rfl⟩ : ∃ g, a = some ⟨g, 0, none⟩ := by
        rcases H0.out.2 with ⟨e, e2⟩ | ⟨g, cap, cur, e, _⟩
        · omega
        · injection e with e1; exact ⟨g, e1⟩
      have c1 : (w.drewN m).cell? ⟨g, k, none⟩ = some (.string c) := by
        have h1 := H0.out.cellAt k (by omega)
        rw [List.getElem?_replicate, if_pos hlt] at h1
        exact h1
      go_wp2
      go_roundw
      case rel => exact ⟨k + 1, m, by omega, by go_num, rfl⟩
      case measure => simp [intOf]; omega
    · have hlt' : ¬ (k : Int) < n := by omega
      go_wp2
      go_ret
      exact ⟨rfl, _, rfl⟩

-- a list grown into another one
structure Gi (w : World) (B : Nat) (v : Value) (n : Nat) (ys : List Value) (c : ByteArray) (k : Nat) (vm : Value) (wr : World) : Prop where
  own : wr.ownsRow B 9 1 vm (n + k) (ys ++ List.replicate k (Value.string c))
  old : wr.ownsRow B 9 1 v n ys
  kp : Kp (fun j => v.ownBlock = some j) w wr
  at_ : ∀ j, vm.ownBlock = some j → w.heap.size ≤ j ∨ ∃ cap, v = .slice (some ⟨j, 0, none⟩) n cap ∧ vm = .slice (some ⟨j, 0, none⟩) (n + k) cap
theorem Gi.start {w : World} {B : Nat} {v : Value} {n : Nat} {ys : List Value} (c : ByteArray) (h : w.ownsRow B 9 1 v n ys) : Gi w B v n ys c 0 v w := by
  refine ⟨by simpa using h, h, Kp.refl _ _, fun j hj => ?_⟩
  rcases h.2 with ⟨rfl, _⟩ | ⟨g, cap, cur, rfl, _⟩
  · cases hj
  · injection hj with e
    subst e
    exact .inr ⟨cap, rfl, rfl⟩
theorem Gi.step {w : World} {B : Nat} {v : Value} {n : Nat} {ys : List Value} {c : ByteArray} {k : Nat} {vm : Value} {wr : World} (hv : w.ownsRow B 9 1 v n ys) (h : Gi w B v n ys c k vm wr) (ob : Obj) (v' : Value) (w' : World)
    (ho : w'.ownsRow B 9 1 v' (n + k + 1) ((ys ++ List.replicate k (Value.string c)) ++ [Value.string c]))
    (hc : (∃ g cap, vm = .slice (some ⟨g, 0, none⟩) (n + k) cap ∧ v' = .slice (some ⟨g, 0, none⟩) (n + k + 1) cap ∧ (wr.alloc ob).grownBy w' (some g)) ∨ ((wr.alloc ob).grownBy w' none ∧ ∀ j, v'.ownBlock = some j → (wr.alloc ob).heap.size ≤ j)) :
    Gi w B v n ys c (k + 1) v' w' := by
  have hrep : (ys ++ List.replicate k (Value.string c)) ++ [Value.string c] = ys ++ List.replicate (k + 1) (Value.string c) := by rw [List.append_assoc, ← List.replicate_succ']
  rw [hrep] at ho
  have hyl : ys.length = n := by have := hv.1; omega
  have hka : Kp (fun j => v.ownBlock = some j) w (wr.alloc ob) := h.kp.trans (Kp.of_below ((Below.refl _ _).alloc (Nat.le_refl _) ob))
  have hold : (wr.alloc ob).ownsRow B 9 1 v n ys := h.old.alloc ob
  rcases hc with ⟨g, cap, rfl, rfl, hg⟩ | ⟨hg, hj⟩
  · have hat := h.at_ g rfl
    refine ⟨ho, ?_, ⟨hg.os.trans hka.os, hg.tape.trans hka.tape, hg.output.trans hka.output, Nat.le_trans hka.size hg.size, fun j hj hn => ?_⟩, fun j hj => ?_⟩
    · rcases hat with hge | ⟨cap', rfl, e⟩
      · exact own_not hold (kp_grown hg) (fun j hj he => by
          injection he with he
          have := (hv.lt j hj).2
          omega)
      · injection e with _ _ e3
        subst e3
        exact own_take ho hyl
    · have hne : some j ≠ some g := fun e => by
        injection e with e
        subst e
        rcases hat with hge | ⟨cap', rfl, e⟩
        · omega
        · exact hn rfl
      exact (hg.block j (Nat.lt_of_lt_of_le hj hka.size) hne).trans (hka.block j hj hn)
    · injection hj with hj
      subst hj
      rcases hat with hge | ⟨cap', e1, e⟩
      · exact .inl hge
      · injection e with _ _ e3
        subst e3
        exact .inr ⟨cap, e1, rfl⟩
  · refine ⟨ho, own_not hold (kp_grown hg) (fun j _ he => by cases he), hka.trans (kp_grown hg |>.mono (fun j e => by cases e)), fun j h5 => .inl (Nat.le_trans hka.size (hj j h5))⟩
set_option maxHeartbeats 1600000 in
theorem grownC (B n : Nat) (v : Value) (ys : List Value) (c : ByteArray) (w : World) (h : w.ownsRow B 9 1 v n ys) (hB : B ≤ w.heap.size) (hz : n ≤ 100000) :
    Calls Tryd.prog 15 #[v, .string c] w fun e w' => e = .returned (.int .i64 ((n : Int) + 301)) ∧ w'.ownsRow B 9 1 v n ys ∧ Kp (fun j => v.ownBlock = some j) w w' := by
  obtain ⟨a, cc, rfl⟩ := own_formS h
  have H0 : Hid (w.ownsRow B 9 1 (.slice a n cc) n ys) := h
  have G0 : Hid (Gi w B (.slice a n cc) n ys c 0 (.slice a n cc) w) := Gi.start c h
  clear h
  obtain ⟨v0, HV⟩ : ∃ v0, Hid (Value.slice a n cc = v0) := ⟨_, rfl⟩
  go_enter Tryd.func15, Tryd.ntmps15
  go_wp2_with (at_builtin; refine wpList_append_two _ rfl _ _ rfl B (.slice a n cc) n _ rfl (H0.out.alloc _) ⟨w.heap.size, 0, none⟩ c rfl (new_one _ _ _) (by omega) (by simp; omega) ?_; intro v1 w1 o1 a1; have G1 : Hid (Gi w B (.slice a n cc) n ys c 1 v1 w1) := Gi.step H0.out G0.out _ v1 w1 (by simpa using o1) a1; clear o1 a1)
  go_loopw [5, 6] (fun vm i wr => ∃ (k : Nat), k ≤ 300 ∧ i = .int .i64 k ∧ Hid (Gi w B (.slice a n cc) n ys c (k + 1) vm wr)) (fun _ i _ => (300 - intOf i).toNat)
  case atStart => exact ⟨0, by omega, rfl, G1.out⟩
  case round =>
    obtain ⟨k, hk, rfl, HL⟩ := hrel
    obtain ⟨va, vc, hv⟩ := own_formS HL.out.own
    subst hv
    have hsz := HL.out.kp.size
    by_cases hlt : k < 300
    · have hlt' : (k : Int) < 300 := by omega
      go_wp2_with (at_builtin; refine wpList_append_two _ rfl _ _ rfl B (.slice va (n + (k + 1)) vc) (n + (k + 1)) _ rfl (HL.out.own.alloc _) ⟨wr.heap.size, 0, none⟩ c rfl (new_one _ _ _) (by omega) (by simp; omega) ?_; intro v2 w2 o2 a2; have G2 : Hid (Gi w B (.slice a n cc) n ys c (k + 1 + 1) v2 w2) := Gi.step H0.out HL.out _ v2 w2 o2 a2; clear o2 a2)
      go_roundw
      case rel => exact ⟨k + 1, by omega, by go_num, G2.out⟩
      case measure => simp [intOf]; omega
    · have hlt' : ¬ (k : Int) < 300 := by omega
      obtain rfl : k = 300 := by omega
      go_wp2
      go_ret
      exact ⟨by rfl, HL.out.old, HL.out.kp⟩
end Go.Proofs.YthpfgdhmpeadeaaDoor.lh
