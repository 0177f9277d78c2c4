import Derived.Test.YtkgadgkomdjplaaJ1
import Derived.Test.YtkgadgkomdjplaaG6
import Derived.Test.YtkgadgkomdjplaaG1
import Derived.ArgAppend
import Derived.Deep.DeepAppendRoom
import Derived.Test.YtkgadgkomdjplaaG7
import Derived.Test.YtkgadgkomdjplaaJ2
import Derived.Deep.RegionWith
namespace Go.Proofs.Ytkgadgkomdjplaa.lh
open Go.RowKit Go.PlainAid
open Go.Proofs.Ytkgadgkomdjplaa.ca Go.Proofs.Ytkgadgkomdjplaa.cp Go.Proofs.Ytkgadgkomdjplaa.ka Go.Proofs.Ytkgadgkomdjplaa.kp Go.Proofs.Ytkgadgkomdjplaa.er Go.Proofs.Ytkgadgkomdjplaa.lg Go.Proofs.Ytkgadgkomdjplaa.bn
set_option linter.unusedVariables false

-- a row that none of the blocks touched is
theorem own_not {A : Nat → Prop} {w w' : World} {B t s n : Nat} {v : Value} {xs : List Value} (h : w.ownsRow B t s v n xs) (k : Kp A w w') (hA : ∀ j, v.ownBlock = some j → ¬ A j) : w'.ownsRow B t s v n xs := by
  obtain ⟨hl, h | ⟨g, cap, cur, rfl, hg, hh, h1, h2, h3, h4⟩⟩ := h
  · exact ⟨hl, .inl h⟩
  · exact ⟨hl, .inr ⟨g, cap, cur, rfl, hg, (k.block g (Array.getElem?_eq_some_iff.1 hh).1 (hA g rfl)).trans hh, h1, h2, h3, h4⟩⟩
theorem kp_grown {w w' : World} {r : Option Nat} (h : w.grownBy w' r) : Kp (fun k => some k = r) w w' := ⟨h.os, h.tape, h.output, h.size, fun k hk hn => h.block k hk hn⟩
-- what a row begins with
theorem own_take {w : World} {B t g cap n m : Nat} {xs ys : List Value} (h : w.ownsRow B t 1 (.slice (some ⟨g, 0, none⟩) m cap) m (xs ++ ys)) (hn : xs.length = n) : w.ownsRow B t 1 (.slice (some ⟨g, 0, none⟩) n cap) n xs := by
  obtain ⟨hl, h | ⟨g', cap', cur, e, hg, hh, h1, h2, h3, h4⟩⟩ := h
  · cases h.1
  · injection e with e1 e2 e3
    injection e1 with e1
    injection e1 with e1
    subst e1 e3
    rw [List.length_append] at hl
    refine ⟨by omega, .inr ⟨g, cap, cur, rfl, hg, hh, by omega, h2, h3, ?_⟩⟩
    have h5 : (cur.toList.take (m * 1)).take n = xs := by rw [h4, ← hn, List.take_left]
    rw [List.take_take] at h5
    rw [← h5]
    congr 1
    omega
-- one more behind a row of texts: in its own room, or in a block of its own
theorem wpList_append_two {ops : Array Oper} {rest : List Oper} {o : Oper} {a : Act} {Q : Exit → Act → World → Prop} (w : World) (hgd : o.guard = none) (s x : Operand)
    (ho : o.op = .call { callee := .builtin .append, args := #[s, x], argTypes := #[27, 27] })
    (B : Nat) (v : Value) (n : Nat) (xs : List Value) (hs : a.eval s = v) (hown : w.ownsRow B 9 1 v n xs) (ad : Addr) (c : ByteArray) (hx : a.eval x = .slice (some ad) 1 1)
    (hnews : ∀ (j : Nat) (u : Value), [Value.string c][j]? = some u → w.cell? (ad.add j) = some u) (hn : n ≤ 1000000) (hB : B ≤ w.heap.size)
    (h : ∀ v' w', w'.ownsRow B 9 1 v' (n + 1) (xs ++ [Value.string c]) → ((∃ g cap, v = .slice (some ⟨g, 0, none⟩) n cap ∧ v' = .slice (some ⟨g, 0, none⟩) (n + 1) cap ∧ w.grownBy w' (some g)) ∨ (w.grownBy w' none ∧ ∀ j, v'.ownBlock = some j → w.heap.size ≤ j)) → wpList Try.prog ops Q rest (a.put o.dst v') w') :
    wpList Try.prog ops Q (o :: rest) a w := by
  obtain ⟨i9, hi, hz0, hz1, hz2⟩ := info_parts hiE
  have h1c : ∀ u ∈ [Value.string c], u.oneCell' = true := fun u hu => by simp only [List.mem_cons, List.not_mem_nil, or_false] at hu; subst hu; rfl
  have hmx : n + 1 ≤ maxLen := by unfold maxLen; omega
  rcases hown.2 with ⟨e, h0⟩ | ⟨g, cap, cur, e, hg, hh, hc, hcm, hcs, ht⟩
  · subst e h0
    have hx0 : xs = [] := List.length_eq_zero_iff.1 (by have := hown.1; omega)
    subst hx0
    refine wpList_append_own w hgd s x 27 ho w.heap.size 9 i9 (.string ByteArray.empty) 1 16 Try.underlying27 hi hz0 hz1 hz2 rfl (by decide) (.slice none 0 0) 0 [] hs (World.ownsRow_nil _ _ _ _) ad 1 1 [.string c] hx rfl hnews h1c (by omega) (by omega) (Nat.le_refl _) ?_
    intro v' w' ho' hg' _
    exact h v' w' (own_base ho' hB) (.inr ⟨hg', fun j hj => (ho'.lt j hj).1⟩)
  · subst e
    by_cases hr : n + 1 ≤ cap
    · refine wpList_append_own_spare w hgd s x 27 ho B 9 i9 1 Try.underlying27 hi hz1 g n cap xs hs hown ad 1 1 [.string c] hx rfl hnews h1c hr ?_
      intro w' ho' hg'
      exact h _ w' ho' (.inl ⟨g, cap, rfl, rfl, hg'⟩)
    · refine wpList_append_arg w hgd s x 27 ho 9 i9 (.string ByteArray.empty) 1 16 Try.underlying27 hi hz0 hz1 hz2 rfl (by decide) g 0 n cap xs hs hown.1 ?_ ad 1 1 [.string c] hx rfl hnews h1c (fun hr' => absurd hr' hr) hmx (by omega) (fun hr' => absurd hr' hr) ?_
      · intro j u hj
        have hjl : j < n * 1 := by have := (List.getElem?_eq_some_iff.1 hj).1; have := hown.1; omega
        rw [Nat.zero_add, hown.cellAt j hjl, hj]
      · intro _ v' w' ho' hg'
        exact h v' w' (own_base ho' hB) (.inr ⟨hg', fun j hj => (ho'.lt j hj).1⟩)

theorem mark_next (xs : List ByteArray) (c : ByteArray) (k : Nat) (hk : k < xs.length) : (List.replicate k c ++ xs.drop k).set k c = List.replicate (k + 1) c ++ xs.drop (k + 1) := by
  rw [List.set_append_right _ _ (by rw [List.length_replicate]; omega), List.length_replicate, Nat.sub_self, List.drop_eq_getElem_cons hk, List.set_cons_zero, List.replicate_succ', List.append_assoc]
  rfl
set_option maxHeartbeats 1600000 in
theorem markC (B : Nat) (v : Value) (xs : List ByteArray) (c : ByteArray) (w : World) (h : w.ownsRow B 9 1 v xs.length (xs.map Value.string)) (hz : xs.length ≤ 1000000) :
    Calls Try.prog 25 #[v, .string c] w fun e w' => e = .returned (.tuple #[]) ∧ w'.ownsRow B 9 1 v xs.length (List.replicate xs.length (Value.string c)) ∧ Kp (fun j => v.ownBlock = some j) w w' := by
  obtain ⟨a, cc, rfl⟩ := own_formS h
  obtain ⟨n, HN⟩ : ∃ n, Hid (xs.length = n) := ⟨_, rfl⟩
  rw [HN.out] at h hz ⊢
  have H0 : Hid (w.ownsRow B 9 1 (.slice a n cc) n (xs.map Value.string)) := h
  clear h
  go_enter Try.func25, Try.ntmps25
  go_wp2
  go_loopw [4] (fun i wr => ∃ (k : Nat), k ≤ n ∧ i = .int .i64 k ∧ Hid (wr.ownsRow B 9 1 (.slice a n cc) n ((List.replicate k c ++ xs.drop k).map Value.string) ∧ Kp (fun j => (Value.slice a n cc).ownBlock = some j) w wr)) (fun i _ => (n - intOf i).toNat)
  case atStart => exact ⟨0, by omega, rfl, H0.out, Kp.refl _ _⟩
  case round =>
    obtain ⟨k, hk, rfl, HL⟩ := hrel
    by_cases hlt : k < n
    · have hlt' : (k : Int) < n := by omega
      obtain ⟨g, rfl⟩ : ∃ g, a = some ⟨g, 0, none⟩ := by
        rcases HL.out.1.2 with ⟨e, e2⟩ | ⟨g, cap, cur, e, _⟩
        · omega
        · injection e with e1; exact ⟨g, e1⟩
      have c1 := HL.out.1.cellAt k (by omega)
      have f1 := HL.out.1.frozenAt k
      have hcx : ∃ u, ((List.replicate k c ++ xs.drop k).map Value.string)[k]? = some u := ⟨_, List.getElem?_eq_getElem (by have := HL.out.1.1; omega)⟩
      obtain ⟨u, hu⟩ := hcx
      rw [hu] at c1
      clear hu
      have O2 : Hid ((wr.setCell ⟨g, k, none⟩ (.string c)).ownsRow B 9 1 (.slice (some ⟨g, 0, none⟩) n cc) n ((List.replicate (k + 1) c ++ xs.drop (k + 1)).map Value.string)) := by
        have h1 := (HL.out.1.stored k (.string c)).1
        rw [← List.map_set, mark_next xs c k (by rw [HN.out]; exact hlt)] at h1
        exact h1
      have K2 : Hid (Kp (fun j => (Value.slice (some ⟨g, 0, none⟩) n cc).ownBlock = some j) w (wr.setCell ⟨g, k, none⟩ (.string c))) := HL.out.2.trans (Kp.setCell _ _ _ _ rfl)
      clear HL
      go_wp2
      go_roundw
      case rel => exact ⟨k + 1, by omega, by go_num, O2.out, K2.out⟩
      case measure => simp [intOf]; omega
    · have hlt' : ¬ (k : Int) < n := by omega
      obtain rfl : k = n := by omega
      have HX : Hid (List.replicate k c ++ xs.drop k = List.replicate k c) := by show _ = _; rw [List.drop_eq_nil_of_le (by rw [HN.out]; exact Nat.le_refl _), List.append_nil]
      rw [HX.out] at HL
      go_wp2
      go_end0
      exact ⟨rfl, by have h := HL.out.1; rw [List.map_replicate] at h; exact h, HL.out.2⟩
theorem beqc (c : ByteArray) : (c.toList != c.toList) = false := by simp
set_option maxHeartbeats 1600000 in
theorem fullC (B n : Nat) (v : Value) (c : ByteArray) (w : World) (h : w.ownsRow B 9 1 v n (List.replicate n (Value.string c))) (hz : n ≤ 1000000) :
    Calls Try.prog 27 #[v, .string c] w fun e w' => e = .returned (.bool true) ∧ ∃ m, w' = w.drewN m := by
  obtain ⟨a, cc, rfl⟩ := own_formS h
  have H0 : Hid (w.ownsRow B 9 1 (.slice a n cc) n (List.replicate n (Value.string c))) := h
  clear h
  have hbc := beqc c
  have hbd : (c.toList == c.toList) = true := beq_self_eq_true _
  go_enter Try.func27, Try.ntmps27
  go_wp2
  go_loopw [5] (fun i wr => ∃ (k m : Nat), k ≤ n ∧ i = .int .i64 k ∧ wr = w.drewN m) (fun i _ => (n - intOf i).toNat)
  case atStart => exact ⟨0, 0, by omega, rfl, rfl⟩
  case round =>
    obtain ⟨k, m, hk, rfl, rfl⟩ := hrel
    by_cases hlt : k < n
    · have hlt' : (k : Int) < n := by omega
      obtain ⟨g, rfl⟩ : ∃ g, a = some ⟨g, 0, none⟩ := by
        rcases H0.out.2 with ⟨e, e2⟩ | ⟨g, cap, cur, e, _⟩
        · omega
        · injection e with e1; exact ⟨g, e1⟩
      have c1 : (w.drewN m).cell? ⟨g, k, none⟩ = some (.string c) := by
        have h1 := H0.out.cellAt k (by omega)
        rw [List.getElem?_replicate, if_pos hlt] at h1
        exact h1
      go_wp2
      go_roundw
      case rel => exact ⟨k + 1, m, by omega, by go_num, rfl⟩
      case measure => simp [intOf]; omega
    · have hlt' : ¬ (k : Int) < n := by omega
      go_wp2
      go_ret
      exact ⟨rfl, _, rfl⟩

-- a list grown into another one
structure Gi (w : World) (B : Nat) (v : Value) (n : Nat) (ys : List Value) (c : ByteArray) (k : Nat) (vm : Value) (wr : World) : Prop where
  own : wr.ownsRow B 9 1 vm (n + k) (ys ++ List.replicate k (Value.string c))
  old : wr.ownsRow B 9 1 v n ys
  kp : Kp (fun j => v.ownBlock = some j) w wr
  at_ : ∀ j, vm.ownBlock = some j → w.heap.size ≤ j ∨ ∃ cap, v = .slice (some ⟨j, 0, none⟩) n cap ∧ vm = .slice (some ⟨j, 0, none⟩) (n + k) cap
theorem Gi.start {w : World} {B : Nat} {v : Value} {n : Nat} {ys : List Value} (c : ByteArray) (h : w.ownsRow B 9 1 v n ys) : Gi w B v n ys c 0 v w := by
  refine ⟨by simpa using h, h, Kp.refl _ _, fun j hj => ?_⟩
  rcases h.2 with ⟨rfl, _⟩ | ⟨g, cap, cur, rfl, _⟩
  · cases hj
  · injection hj with e
    subst e
    exact .inr ⟨cap, rfl, rfl⟩
theorem Gi.step {w : World} {B : Nat} {v : Value} {n : Nat} {ys : List Value} {c : ByteArray} {k : Nat} {vm : Value} {wr : World} (hv : w.ownsRow B 9 1 v n ys) (h : Gi w B v n ys c k vm wr) (ob : Obj) (v' : Value) (w' : World)
    (ho : w'.ownsRow B 9 1 v' (n + k + 1) ((ys ++ List.replicate k (Value.string c)) ++ [Value.string c]))
    (hc : (∃ g cap, vm = .slice (some ⟨g, 0, none⟩) (n + k) cap ∧ v' = .slice (some ⟨g, 0, none⟩) (n + k + 1) cap ∧ (wr.alloc ob).grownBy w' (some g)) ∨ ((wr.alloc ob).grownBy w' none ∧ ∀ j, v'.ownBlock = some j → (wr.alloc ob).heap.size ≤ j)) :
    Gi w B v n ys c (k + 1) v' w' := by
  have hrep : (ys ++ List.replicate k (Value.string c)) ++ [Value.string c] = ys ++ List.replicate (k + 1) (Value.string c) := by rw [List.append_assoc, ← List.replicate_succ']
  rw [hrep] at ho
  have hyl : ys.length = n := by have := hv.1; omega
  have hka : Kp (fun j => v.ownBlock = some j) w (wr.alloc ob) := h.kp.trans (Kp.of_below ((Below.refl _ _).alloc (Nat.le_refl _) ob))
  have hold : (wr.alloc ob).ownsRow B 9 1 v n ys := h.old.alloc ob
  rcases hc with ⟨g, cap, rfl, rfl, hg⟩ | ⟨hg, hj⟩
  · have hat := h.at_ g rfl
    refine ⟨ho, ?_, ⟨hg.os.trans hka.os, hg.tape.trans hka.tape, hg.output.trans hka.output, Nat.le_trans hka.size hg.size, fun j hj hn => ?_⟩, fun j hj => ?_⟩
    · rcases hat with hge | ⟨cap', rfl, e⟩
      · exact own_not hold (kp_grown hg) (fun j hj he => by
          injection he with he
          have := (hv.lt j hj).2
          omega)
      · injection e with _ _ e3
        subst e3
        exact own_take ho hyl
    · have hne : some j ≠ some g := fun e => by
        injection e with e
        subst e
        rcases hat with hge | ⟨cap', rfl, e⟩
        · omega
        · exact hn rfl
      exact (hg.block j (Nat.lt_of_lt_of_le hj hka.size) hne).trans (hka.block j hj hn)
    · injection hj with hj
      subst hj
      rcases hat with hge | ⟨cap', e1, e⟩
      · exact .inl hge
      · injection e with _ _ e3
        subst e3
        exact .inr ⟨cap, e1, rfl⟩
  · refine ⟨ho, own_not hold (kp_grown hg) (fun j _ he => by cases he), hka.trans (kp_grown hg |>.mono (fun j e => by cases e)), fun j h5 => .inl (Nat.le_trans hka.size (hj j h5))⟩
set_option maxHeartbeats 1600000 in
theorem grownC (B n : Nat) (v : Value) (ys : List Value) (c : ByteArray) (w : World) (h : w.ownsRow B 9 1 v n ys) (hB : B ≤ w.heap.size) (hz : n ≤ 100000) :
    Calls Try.prog 26 #[v, .string c] w fun e w' => e = .returned (.int .i64 ((n : Int) + 301)) ∧ w'.ownsRow B 9 1 v n ys ∧ Kp (fun j => v.ownBlock = some j) w w' := by
  obtain ⟨a, cc, rfl⟩ := own_formS h
  have H0 : Hid (w.ownsRow B 9 1 (.slice a n cc) n ys) := h
  have G0 : Hid (Gi w B (.slice a n cc) n ys c 0 (.slice a n cc) w) := Gi.start c h
  clear h
  obtain ⟨v0, HV⟩ : ∃ v0, Hid (Value.slice a n cc = v0) := ⟨_, rfl⟩
  go_enter Try.func26, Try.ntmps26
  go_wp2_with (at_builtin; refine wpList_append_two _ rfl _ _ rfl B (.slice a n cc) n _ rfl (H0.out.alloc _) ⟨w.heap.size, 0, none⟩ c rfl (new_one _ _ _) (by omega) (by simp; omega) ?_; intro v1 w1 o1 a1; have G1 : Hid (Gi w B (.slice a n cc) n ys c 1 v1 w1) := Gi.step H0.out G0.out _ v1 w1 (by simpa using o1) a1; clear o1 a1)
  go_loopw [5, 6] (fun vm i wr => ∃ (k : Nat), k ≤ 300 ∧ i = .int .i64 k ∧ Hid (Gi w B (.slice a n cc) n ys c (k + 1) vm wr)) (fun _ i _ => (300 - intOf i).toNat)
  case atStart => exact ⟨0, by omega, rfl, G1.out⟩
  case round =>
    obtain ⟨k, hk, rfl, HL⟩ := hrel
    obtain ⟨va, vc, hv⟩ := own_formS HL.out.own
    subst hv
    have hsz := HL.out.kp.size
    by_cases hlt : k < 300
    · have hlt' : (k : Int) < 300 := by omega
      go_wp2_with (at_builtin; refine wpList_append_two _ rfl _ _ rfl B (.slice va (n + (k + 1)) vc) (n + (k + 1)) _ rfl (HL.out.own.alloc _) ⟨wr.heap.size, 0, none⟩ c rfl (new_one _ _ _) (by omega) (by simp; omega) ?_; intro v2 w2 o2 a2; have G2 : Hid (Gi w B (.slice a n cc) n ys c (k + 1 + 1) v2 w2) := Gi.step H0.out HL.out _ v2 w2 o2 a2; clear o2 a2)
      go_roundw
      case rel => exact ⟨k + 1, by omega, by go_num, G2.out⟩
      case measure => simp [intOf]; omega
    · have hlt' : ¬ (k : Int) < 300 := by omega
      obtain rfl : k = 300 := by omega
      go_wp2
      go_ret
      exact ⟨by rfl, HL.out.old, HL.out.kp⟩
end Go.Proofs.Ytkgadgkomdjplaa.lh

namespace Go.Proofs.Ytkgadgkomdjplaa.fp
open Go.RowKit Go.PlainAid
open Go.Proofs.Ytkgadgkomdjplaa.ca Go.Proofs.Ytkgadgkomdjplaa.cb Go.Proofs.Ytkgadgkomdjplaa.cp Go.Proofs.Ytkgadgkomdjplaa.ga Go.Proofs.Ytkgadgkomdjplaa.kp Go.Proofs.Ytkgadgkomdjplaa.na Go.Proofs.Ytkgadgkomdjplaa.nb Go.Proofs.Ytkgadgkomdjplaa.nc Go.Proofs.Ytkgadgkomdjplaa.nf Go.Proofs.Ytkgadgkomdjplaa.ng Go.Proofs.Ytkgadgkomdjplaa.ea Go.Proofs.Ytkgadgkomdjplaa.eb Go.Proofs.Ytkgadgkomdjplaa.ec Go.Proofs.Ytkgadgkomdjplaa.ed Go.Proofs.Ytkgadgkomdjplaa.ee Go.Proofs.Ytkgadgkomdjplaa.eh Go.Proofs.Ytkgadgkomdjplaa.ej Go.Proofs.Ytkgadgkomdjplaa.eq Go.Proofs.Ytkgadgkomdjplaa.er Go.Proofs.Ytkgadgkomdjplaa.eo Go.Proofs.Ytkgadgkomdjplaa.ek Go.Proofs.Ytkgadgkomdjplaa.ka Go.Proofs.Ytkgadgkomdjplaa.bn Go.Proofs.Ytkgadgkomdjplaa.fa Go.Proofs.Ytkgadgkomdjplaa.fb Go.Proofs.Ytkgadgkomdjplaa.fc
set_option linter.unusedVariables false

set_option maxHeartbeats 1600000 in
theorem rUnHashes (b : ByteArray) (w : World) (hb : b.size ≤ 140737488355328) : Calls Try.prog 24 #[.string b] w (ReadH w (hL b) (hWd b) (hE b)) := by
  have hwd := hW_in b
  have hnn := hN_ok b
  have CM : Hid (∀ W, Rd 81 w.heap.size b 0 0 [] W → Calls _ _ _ (W : World) _) := fun W h => pLetter 81 w.heap.size b 0 0 72 [] W h hb (ok0 b) (by decide) (by decide)
  have CW : Hid (∀ W, _ → Calls _ _ _ (W : World) _) := fun W h => pWidth 81 w.heap.size b (markS b 72 0 0).1 (markS b 72 0 0).2 [] W h hb (mark_ok b 72 0 0 (ok0 b))
  have CN : Hid (∀ W, _ → Calls _ _ _ (W : World) _) := fun W h => pNumber 81 w.heap.size b (hW b).2.1 (hW b).2.2 256 83 [] W h hb (hW_ok b) (by decide) (by decide)
  have CH : Hid (∀ W, _ → Calls _ _ _ (W : World) _) := fun W h => pHashes 81 w.heap.size b (hN b).2.1 (hN b).2.2 [] (hW b).1.toNat (hN b).1.toNat W h hb hnn.1 (by omega) (by omega)
  have EC : Hid (∀ W, _ → Calls _ _ _ (W : World) _) := fun W h => pEnd 81 w.heap.size b (hS b).2.1 (hS b).2.2 [] W h hb (hS_ok b).1
  have HPH : Hid (hS b = hashesS b (hW b).1.toNat (hN b).1.toNat (hN b).2.1 (hN b).2.2) := rfl
  rw [← HPH.out] at CH
  have HPW : Hid (hW b = widthS b (markS b 72 0 0).1 (markS b 72 0 0).2) := rfl
  rw [← HPW.out] at CW
  have HPN : Hid (hN b = mostS b 256 83 (hW b).2.1 (hW b).2.2) := rfl
  rw [← HPN.out] at CN
  have HE : Hid (endS b (hS b).2.1 (hS b).2.2 = hE b) := rfl
  have HL : Hid (hL b = if hE b = 0 then (hS b).1 else []) := rfl
  have HWD : Hid (hWd b = if hE b = 0 then (hW b).1 else 0) := rfl
  rw [HL.out, HWD.out]
  rw [HE.out] at EC
  obtain ⟨p0, e0, HM⟩ : ∃ p0 e0, Hid (markS b 72 0 0 = (p0, e0)) := ⟨_, _, rfl⟩
  rw [HM.out] at CM CW
  clear HPH HPW HPN HM
  obtain ⟨wd, p1, e1, H1⟩ : ∃ x y z, Hid (hW b = (x, y, z)) := ⟨_, _, _, rfl⟩
  rw [H1.out] at CW CN CH hwd ⊢
  obtain ⟨nn, p2, e2, H2⟩ : ∃ x y z, Hid (hN b = (x, y, z)) := ⟨_, _, _, rfl⟩
  rw [H2.out] at CN CH hnn
  obtain ⟨z, HZ⟩ : ∃ z, Hid (hE b = z) := ⟨_, rfl⟩
  obtain ⟨hs, p4, e4, H5⟩ : ∃ x y z, Hid (hS b = (x, y, z)) := ⟨_, _, _, rfl⟩
  rw [HZ.out] at EC ⊢
  rw [H5.out] at CH EC ⊢
  have hwd1 : 0 ≤ wd ∧ wd ≤ 255 := hwd
  have hnn1 : 0 ≤ nn ∧ nn ≤ 256 := hnn.2
  obtain ⟨wn, hwn⟩ : ∃ wn : Nat, wd = wn := ⟨wd.toNat, by omega⟩
  subst hwn
  obtain ⟨cn, hcn⟩ : ∃ cn : Nat, nn = cn := ⟨nn.toNat, by omega⟩
  subst hcn
  clear hwd hnn H1 H2 H5 HE HL HWD HZ
  simp only [Int.toNat_natCast] at CH
  have KB : Hid (∀ w1 w2 : World, w.heap.size ≤ w1.heap.size → Kp (fun k => k = w.heap.size) w1 w2 → Below w.heap.size w1 w2) := fun w1 w2 hs k => k.below (fun j hj => by omega) hs
  have R0 : Hid (Rd 81 w.heap.size b 0 0 [] (w.alloc (.cells #[.string b, .int .i64 0, .int .i64 0] 81))) := heap_alloc_new w _
  have B0 : Hid (Below w.heap.size w (w.alloc (.cells #[.string b, .int .i64 0, .int .i64 0] 81))) := (Below.refl _ _).alloc (Nat.le_refl _) _
  obtain ⟨W, HW⟩ : ∃ W, W = w.alloc (.cells #[.string b, .int .i64 0, .int .i64 0] 81) := ⟨_, rfl⟩
  rw [← HW] at R0 B0
  by_cases hz : z = 0
  · subst hz
    rw [if_pos rfl, if_pos rfl]
    go_enter Try.func24, Try.ntmps24
    go_upto_region 2 with fail
    rw [← HW]
    clear HW
    go_wp2_with (first
      | (go_at_call 38; refine (CM.out _ R0.out).mono ?_; rintro _ w1 ⟨rfl, r1, k1⟩; have R1 : Hid (Rd 81 w.heap.size b p0 e0 [] w1) := r1; have K1 : Hid (Below w.heap.size w w1) := B0.out.trans (KB.out _ _ B0.out.size k1); clear r1 k1)
      | (go_at_call 55; refine (CW.out _ R1.out).mono ?_; rintro _ w2 ⟨rfl, r2, k2⟩; have R2 : Hid (Rd 81 w.heap.size b p1 e1 [] w2) := r2; have K2 : Hid (Below w.heap.size w w2) := K1.out.trans (KB.out _ _ K1.out.size k2); clear r2 k2)
      | (go_at_call 39; refine (CN.out _ R2.out).mono ?_; rintro _ w3 ⟨rfl, r3, k3⟩; have R3 : Hid (Rd 81 w.heap.size b p2 e2 [] w3) := r3; have K3 : Hid (Below w.heap.size w w3) := K2.out.trans (KB.out _ _ K2.out.size k3); clear r3 k3)
      | (go_at_call 56; refine (CH.out _ R3.out).mono ?_; rintro _ w4 ⟨⟨hv, rfl, o4⟩, r4, k4⟩; obtain ⟨ha, hc, hhv⟩ := own_formS o4; subst hhv; have R4 : Hid (Rd 81 w.heap.size b p4 e4 [] w4) := r4; have O4 : Hid (w4.ownsRow w.heap.size 9 1 (.slice ha hs.length hc) hs.length (hs.map Value.string)) := own_base o4 K3.out.size; have K4 : Hid (Below w.heap.size w w4) := K3.out.trans (KB.out _ _ K3.out.size k4); clear r4 k4 o4)
      | (go_at_call 41; refine (EC.out _ R4.out).mono ?_; rintro _ w5 ⟨rfl, r5, k5⟩; have O5 : Hid (w5.ownsRow w.heap.size 9 1 (.slice ha hs.length hc) hs.length (hs.map Value.string)) := own_tag O4.out R4.out (by decide) k5; have K5 : Hid (Below w.heap.size w w5) := K4.out.trans (KB.out _ _ K4.out.size k5); clear r5 k5))
    go_ret3
    exact ⟨⟨ha, hs.length, hc, rfl, O5.out⟩, K5.out⟩
  · have hz' : (z != 0) = true := by rw [bne_iff_ne]; exact hz
    rw [if_neg hz, if_neg hz]
    clear hz
    go_enter Try.func24, Try.ntmps24
    go_upto_region 2 with fail
    rw [← HW]
    clear HW
    go_wp2_with (first
      | (go_at_call 38; refine (CM.out _ R0.out).mono ?_; rintro _ w1 ⟨rfl, r1, k1⟩; have R1 : Hid (Rd 81 w.heap.size b p0 e0 [] w1) := r1; have K1 : Hid (Below w.heap.size w w1) := B0.out.trans (KB.out _ _ B0.out.size k1); clear r1 k1)
      | (go_at_call 55; refine (CW.out _ R1.out).mono ?_; rintro _ w2 ⟨rfl, r2, k2⟩; have R2 : Hid (Rd 81 w.heap.size b p1 e1 [] w2) := r2; have K2 : Hid (Below w.heap.size w w2) := K1.out.trans (KB.out _ _ K1.out.size k2); clear r2 k2)
      | (go_at_call 39; refine (CN.out _ R2.out).mono ?_; rintro _ w3 ⟨rfl, r3, k3⟩; have R3 : Hid (Rd 81 w.heap.size b p2 e2 [] w3) := r3; have K3 : Hid (Below w.heap.size w w3) := K2.out.trans (KB.out _ _ K2.out.size k3); clear r3 k3)
      | (go_at_call 56; refine (CH.out _ R3.out).mono ?_; rintro _ w4 ⟨⟨hv, rfl, o4⟩, r4, k4⟩; obtain ⟨ha, hc, hhv⟩ := own_formS o4; subst hhv; have R4 : Hid (Rd 81 w.heap.size b p4 e4 [] w4) := r4; have K4 : Hid (Below w.heap.size w w4) := K3.out.trans (KB.out _ _ K3.out.size k4); clear r4 k4 o4)
      | (go_at_call 41; refine (EC.out _ R4.out).mono ?_; rintro _ w5 ⟨rfl, r5, k5⟩; have K5 : Hid (Below w.heap.size w w5) := K4.out.trans (KB.out _ _ K4.out.size k5); clear r5 k5))
    go_ret3
    exact ⟨⟨none, 0, 0, rfl, World.ownsRow_nil _ _ _ _⟩, K5.out⟩
end Go.Proofs.Ytkgadgkomdjplaa.fp

namespace Go.Proofs.Ytkgadgkomdjplaa.ff
open Go.RowKit Go.PlainAid Go.Shelf
open Go.Proofs.Ytkgadgkomdjplaa.ca Go.Proofs.Ytkgadgkomdjplaa.cb Go.Proofs.Ytkgadgkomdjplaa.cp Go.Proofs.Ytkgadgkomdjplaa.ga Go.Proofs.Ytkgadgkomdjplaa.kp Go.Proofs.Ytkgadgkomdjplaa.na Go.Proofs.Ytkgadgkomdjplaa.nb Go.Proofs.Ytkgadgkomdjplaa.nc Go.Proofs.Ytkgadgkomdjplaa.nh Go.Proofs.Ytkgadgkomdjplaa.nj Go.Proofs.Ytkgadgkomdjplaa.ea Go.Proofs.Ytkgadgkomdjplaa.eb Go.Proofs.Ytkgadgkomdjplaa.ec Go.Proofs.Ytkgadgkomdjplaa.ed Go.Proofs.Ytkgadgkomdjplaa.ee Go.Proofs.Ytkgadgkomdjplaa.ef Go.Proofs.Ytkgadgkomdjplaa.eg Go.Proofs.Ytkgadgkomdjplaa.eh Go.Proofs.Ytkgadgkomdjplaa.ej Go.Proofs.Ytkgadgkomdjplaa.ek Go.Proofs.Ytkgadgkomdjplaa.eo Go.Proofs.Ytkgadgkomdjplaa.er Go.Proofs.Ytkgadgkomdjplaa.fa Go.Proofs.Ytkgadgkomdjplaa.fb Go.Proofs.Ytkgadgkomdjplaa.fc Go.Proofs.Ytkgadgkomdjplaa.fe Go.Proofs.Ytkgadgkomdjplaa.ka Go.Proofs.Ytkgadgkomdjplaa.bn Go.Proofs.Ytkgadgkomdjplaa.mi
set_option linter.unusedVariables false

theorem rWidth (x : Int) (w : World) : Calls Try.prog 51 #[.int .i64 x] w fun e w' => e = .returned (.int .i64 (widI x)) ∧ w' = w := by
  by_cases h1 : x < 1
  · have HI : Hid (widI x = 32) := if_neg (by omega)
    rw [HI.out]
    go_enter Try.func51, Try.ntmps51
    go_wp2
    go_ret
    exact ⟨rfl, rfl⟩
  · by_cases h2 : 32 < x
    · have HI : Hid (widI x = 32) := if_neg (by omega)
      rw [HI.out]
      go_enter Try.func51, Try.ntmps51
      go_wp2
      go_ret
      exact ⟨rfl, rfl⟩
    · have HI : Hid (widI x = x) := if_pos (by omega)
      rw [HI.out]
      go_enter Try.func51, Try.ntmps51
      go_wp2
      go_ret
      exact ⟨rfl, rfl⟩
set_option maxHeartbeats 1600000 in
theorem rSized (wd : Int) (v : Value) (xs : List ByteArray) (w : World) (hR : ReadsT w v xs) (hz : xs.length ≤ 140737488355328) :
    Calls Try.prog 52 #[.int .i64 wd, v] w fun e w' => e = .returned (.bool (allW wd xs)) ∧ w' = w := by
  obtain ⟨a, cap, rfl, hcap, hcl⟩ := hR
  have HCL : Hid (xs.length = 0 ∨ ∃ b off, a = some ⟨b, off, none⟩ ∧ ∀ i, i < xs.length → w.cell? ⟨b, off + i, none⟩ = some (.string (xs.getD i ByteArray.empty))) := hcl
  have HNO : Hid (∀ k, k < xs.length → ((xs.getD k ByteArray.empty).size : Int) ≠ wd → allW wd xs = false) := fun k hk h => allW_no hk h
  have HYES : Hid ((∀ j, j < xs.length → ((xs.getD j ByteArray.empty).size : Int) = wd) → allW wd xs = true) := fun h => allW_yes h
  obtain ⟨R, HR⟩ : ∃ R, Hid (allW wd xs = R) := ⟨_, rfl⟩
  obtain ⟨n, HN⟩ : ∃ n, Hid (xs.length = n) := ⟨_, rfl⟩
  rw [HR.out] at HNO HYES ⊢
  rw [HN.out] at HCL HNO HYES hz hcap ⊢
  clear hcl
  go_enter Try.func52, Try.ntmps52
  go_wp2
  go_loopw [5] (fun i wr => ∃ k : Nat, k ≤ n ∧ i = .int .i64 k ∧ Hid (∀ j, j < k → ((xs.getD j ByteArray.empty).size : Int) = wd) ∧ wr = w) (fun i _ => (n - intOf i).toNat)
  case atStart => exact ⟨0, by omega, rfl, fun j h => by omega, rfl⟩
  case round =>
    obtain ⟨k, hk, rfl, HS, hwr⟩ := hrel
    rw [hwr]
    clear hwr
    by_cases hlt : k < n
    · have hlt' : (k : Int) < n := by omega
      obtain ⟨b, off, rfl, hc⟩ : ∃ b off, a = some ⟨b, off, none⟩ ∧ ∀ i, i < n → w.cell? ⟨b, off + i, none⟩ = some (.string (xs.getD i ByteArray.empty)) := by
        rcases HCL.out with h | h
        · omega
        · exact h
      have c1 := hc k hlt
      have HN1 : Hid (_ → _) := HNO.out k hlt
      obtain ⟨X, HX⟩ : ∃ X, Hid (xs.getD k ByteArray.empty = X) := ⟨_, rfl⟩
      rw [HX.out] at c1 HN1
      clear hc
      by_cases he : (X.size : Int) = wd
      · have he' : ((X.size : Int) != wd) = false := by simp [he]
        have HS2 : Hid (∀ j, j < k + 1 → ((xs.getD j ByteArray.empty).size : Int) = wd) := fun j hj => by
          rcases Nat.lt_or_ge j k with h | h
          · exact HS.out j h
          · obtain rfl : j = k := by omega
            rw [HX.out]; exact he
        clear he
        go_wp2
        go_roundw
        case rel => exact ⟨k + 1, by omega, by go_num, HS2.out, by first | rfl | trivial⟩
        case measure => simp [intOf]; omega
      · have he' : ((X.size : Int) != wd) = true := by rw [bne_iff_ne]; exact he
        have HE : Hid (R = false) := HN1.out he
        clear he
        go_wp2
        go_ret
        exact ⟨by rw [HE.out]; rfl, rfl⟩
    · have hlt' : ¬ (k : Int) < n := by omega
      obtain rfl : k = n := by omega
      have HE : Hid (R = true) := HYES.out HS.out
      go_wp2
      go_ret
      exact ⟨by rw [HE.out]; rfl, rfl⟩
theorem cat_next (l : List ByteArray) (k : Nat) (h : k < l.length) : cat (l.take (k + 1)) = cat (l.take k) ++ (l.getD k ByteArray.empty).data.toList := by
  have e : l.take (k + 1) = l.take k ++ [l.getD k ByteArray.empty] := by
    rw [List.take_add_one, List.getElem?_eq_getElem h, List.getD_eq_getElem?_getD, List.getElem?_eq_getElem h]
    rfl
  unfold cat
  rw [e, List.flatMap_append, List.flatMap_cons, List.flatMap_nil, List.append_nil]
theorem cat_take (l : List ByteArray) (k : Nat) : (cat (l.take k)).length ≤ (cat l).length := by
  conv => rhs; rw [← List.take_append_drop k l]
  unfold cat
  rw [List.flatMap_append, List.length_append]
  omega
theorem conv_nil (W : World) (v : Value) (B : Nat) (ho : OB W B v []) : (convert 64 9 v).run Try.prog W = .ok (.string ⟨#[]⟩) W := by
  rcases ho.2 with ⟨rfl, _⟩ | ⟨g, cap, cur, rfl, hg, hh, _⟩
  · rw [run_convert_bytes_string _ 64 9 5 _ _ _ Try.underlying64 Try.underlying5 Try.underlying9]
    first | rfl | kernel_rfl | (simp [Conv.bytesToString])
  · rw [run_convert_bytes_string _ 64 9 5 _ _ _ Try.underlying64 Try.underlying5 Try.underlying9]
    have h := run_loadCells_list (P := Try.prog) (w := W) ⟨g, 0, none⟩ [] (fun j u hj => by simp at hj)
    exact run_bytesToString W ⟨g, 0, none⟩ 0 cap [] h
theorem conv_any (W : World) (B : Nat) (v : Value) (l : List UInt8) (ho : OB W B v l) : (convert 64 9 v).run Try.prog W = .ok (.string ⟨l.toArray⟩) W := by
  by_cases h0 : l.length = 0
  · have e0 : l = [] := List.length_eq_zero_iff.1 h0
    subst e0
    exact conv_nil W v B ho
  · exact conv_own W B v l _ rfl (by omega) ho
set_option maxHeartbeats 1600000 in
theorem rJoined (v : Value) (xs : List ByteArray) (w : World) (hR : ReadsT w v xs) (hn : xs.length ≤ 140737488355328) (hl : (cat xs).length ≤ 140737488000000) :
    Calls Try.prog 53 #[v] w fun e w' => e = .returned (.string ⟨(cat xs).toArray⟩) ∧ Below w.heap.size w w' := by
  obtain ⟨a, cap, rfl, hcap, hcl⟩ := hR
  have HCL : Hid (xs.length = 0 ∨ ∃ b off, a = some ⟨b, off, none⟩ ∧ ∀ i, i < xs.length → w.cell? ⟨b, off + i, none⟩ = some (.string (xs.getD i ByteArray.empty))) := hcl
  have HJ : Hid (∀ k, k < xs.length → cat (xs.take (k + 1)) = cat (xs.take k) ++ (xs.getD k ByteArray.empty).data.toList) := fun k hk => cat_next xs k hk
  have HLN : Hid (∀ k, (cat (xs.take k)).length ≤ 140737488000000) := fun k => Nat.le_trans (cat_take xs k) hl
  have HT : Hid (cat (xs.take xs.length) = cat xs) := by show _ = _; rw [List.take_length]
  obtain ⟨n, HN⟩ : ∃ n, Hid (xs.length = n) := ⟨_, rfl⟩
  rw [HN.out] at HCL HJ HT hn hcap ⊢
  rw [← HT.out]
  clear hcl hl
  go_enter Try.func53, Try.ntmps53
  go_wp2
  go_loopw [3, 4] (fun v i wr => ∃ (k : Nat), k ≤ n ∧ i = .int .i64 k ∧ Hid (OB wr w.heap.size v (cat (xs.take k)) ∧ Below w.heap.size w wr)) (fun _ i _ => (n - intOf i).toNat)
  case atStart => exact ⟨0, by omega, rfl, World.ownsRow_nil _ _ _ _, Below.refl _ _⟩
  case round =>
    obtain ⟨k, hk, rfl, HL⟩ := hrel
    have hbs := HL.out.2.size
    by_cases hlt : k < n
    · have hlt' : (k : Int) < n := by omega
      obtain ⟨b, off, rfl, hc⟩ : ∃ b off, a = some ⟨b, off, none⟩ ∧ ∀ i, i < n → w.cell? ⟨b, off + i, none⟩ = some (.string (xs.getD i ByteArray.empty)) := by
        rcases HCL.out with h | h
        · omega
        · exact h
      have c1 : wr.cell? ⟨b, off + k, none⟩ = some (.string (xs.getD k ByteArray.empty)) := (HL.out.2.cell (p := ⟨b, off + k, none⟩) (World.block_lt_of_cell? _ _ (hc k hlt))).trans (hc k hlt)
      have HJ2 : Hid (_ = _) := HJ.out k hlt
      have hl1 := HLN.out (k + 1)
      rw [HJ2.out, List.length_append, size_data] at hl1
      clear hc
      obtain ⟨X, HXX⟩ : ∃ X, Hid (xs.getD k ByteArray.empty = X) := ⟨_, rfl⟩
      rw [HXX.out] at c1 HJ2 hl1
      have O0 : Hid (OB wr w.heap.size _ (cat (xs.take k))) := HL.out.1
      have B0 : Hid (Below w.heap.size w wr) := HL.out.2
      clear HL
      obtain ⟨K, HK⟩ : ∃ K, Hid (cat (xs.take k) = K) := ⟨_, rfl⟩
      rw [HK.out] at O0 HJ2 hl1
      obtain ⟨va, vc, hv⟩ := own_formS O0.out
      subst hv
      go_wp2_with (at_builtin; refine wpList_append_str rfl _ _ rfl w.heap.size (.slice va K.length vc) K.length (Lib.byteCells K) rfl O0.out X rfl (by omega) B0.out.size ?_; intro v3 w3 ho3 hg3; have O3 : Hid (OB w3 w.heap.size v3 (cat (xs.take (k + 1)))) := (by rw [HJ2.out]; exact OB.str ho3); have B3 : Hid (Below w.heap.size w w3) := B0.out.trans (Below.grown (Below.refl _ _) hg3 B0.out.size (fun j hj => (O0.out.lt _ hj).1)); clear ho3 hg3)
      go_roundw
      case rel => exact ⟨k + 1, by omega, by go_num, O3.out, B3.out⟩
      case measure => simp [intOf]; omega
    · have hlt' : ¬ (k : Int) < n := by omega
      obtain rfl : k = n := by omega
      have hcv := conv_any wr w.heap.size _ (cat (xs.take k)) HL.out.1
      have HB : Hid (Below w.heap.size w wr) := HL.out.2
      clear HL
      go_wp2
      go_ret
      exact ⟨rfl, HB.out⟩
theorem conv_at (W : World) (b : Nat) (c : Int) (hc : W.cell? ⟨b, 0, none⟩ = some (.int .u8 c)) :
    (convert 64 9 (.slice (some ⟨b, 0, none⟩) 1 1)).run Try.prog W = .ok (.string (str [c])) W := by
  rw [run_convert_bytes_string _ 64 9 5 _ _ _ Try.underlying64 Try.underlying5 Try.underlying9]
  refine run_bytesToString _ _ _ _ [c] ?_
  have h := run_loadCells_list (P := Try.prog) (w := W) ⟨b, 0, none⟩ ([c].map (Value.int .u8)) ?_
  · simpa using h
  · intro j v hj
    cases j with
    | zero => simp at hj; subst hj; simpa [Addr.add] using hc
    | succ j => simp at hj
theorem cell_one (w w2 : World) (c : Int) (k : Below (w.alloc (.cells #[.int .u8 c] 5)).heap.size (w.alloc (.cells #[.int .u8 c] 5)) w2) : w2.cell? ⟨w.heap.size, 0, none⟩ = some (.int .u8 c) := by
  have h : (w.alloc (.cells #[.int .u8 c] 5)).cell? ⟨w.heap.size, 0, none⟩ = some (.int .u8 c) := by
    rw [World.cell?_alloc_at _ _ _ _ rfl]; rfl
  exact (k.cell (World.block_lt_of_cell? _ _ h)).trans h
theorem cell_kept (w2 w3 : World) (b : Nat) (c : Int) (k : Below w2.heap.size w2 w3) (h : w2.cell? ⟨b, 0, none⟩ = some (.int .u8 c)) : w3.cell? ⟨b, 0, none⟩ = some (.int .u8 c) :=
  (k.cell (World.block_lt_of_cell? _ _ h)).trans h
set_option maxRecDepth 100000 in
set_option maxHeartbeats 1600000 in
theorem rHashes (wd : Int) (v : Value) (xs : List ByteArray) (w : World) (hR : ReadsT w v xs) (hn : xs.length ≤ 140737488355328) :
    Calls Try.prog 22 #[.int .i64 wd, v] w fun e w' => e = .returned (hashV wd xs) ∧ Below w.heap.size w w' := by
  have HRD : Hid (ReadsT w v xs) := hR
  have CW : Hid (∀ w, Calls _ _ _ (w : World) _) := fun w => rWidth wd w
  have hwi := widI_in wd
  obtain ⟨a, cap, rfl, hcap, hcl⟩ := hR
  clear hcl
  by_cases hm : 256 < xs.length
  · have HV : Hid (hashV wd xs = .tuple #[.string ByteArray.empty, .int .i64 83]) := by
      have e : hashE wd xs = 83 := if_pos hm
      show _ = _
      unfold hashV
      rw [e]; rfl
    rw [HV.out]
    have hm' : (256 : Int) < xs.length := by omega
    go_enter Try.func22, Try.ntmps22
    go_wp2_with (go_at_call 51; refine (CW.out _).mono ?_; rintro _ wz ⟨rfl, hz⟩; rw [hz]; clear hz)
    go_ret2
    exact ⟨rfl, Below.refl _ _⟩
  have AH : Hid (Calls _ _ _ _ _) := rSized (widI wd) _ xs w HRD.out hn
  have hm' : ¬ (256 : Int) < xs.length := by omega
  by_cases hal : allW (widI wd) xs = true
  · have HV : Hid (hashV wd xs = .tuple #[.string (hashT wd xs), .int .i64 0]) := by
      have e : hashE wd xs = 0 := by unfold hashE; rw [if_neg hm, if_pos hal]
      show _ = _
      unfold hashV
      rw [e]; rfl
    rw [HV.out]
    have hcl := cat_len (widI wd) xs hal hwi.2 (by omega)
    rw [hal] at AH
    have HT : Hid (hashT wd xs = (((⟨#[72]⟩ : ByteArray) ++ str [widI wd]) ++ putB xs.length) ++ ⟨(cat xs).toArray⟩) := rfl
    rw [HT.out]
    have SC : Hid (∀ W, ReadsT W (.slice a xs.length cap) xs → Calls _ _ _ (W : World) _) := fun W h => rJoined _ xs W h (by omega) (by omega)
    have N1 : Hid (∀ W : World, Calls _ _ _ _ _) := fun W => rNumberC (xs.length : Int) W (by omega) (by omega)
    have hps := (putB_size (xs.length : Int) (by omega) (by omega)).2
    have hca : (⟨(cat xs).toArray⟩ : ByteArray).size ≤ 32000000 := by show (cat xs).toArray.size ≤ _; rw [List.size_toArray]; exact hcl
    obtain ⟨C, HC⟩ : ∃ C : ByteArray, Hid ((⟨(cat xs).toArray⟩ : ByteArray) = C) := ⟨_, rfl⟩
    obtain ⟨Y, HY⟩ : ∃ Y, Hid (putB (xs.length : Int) = Y) := ⟨_, rfl⟩
    rw [HC.out] at SC hca ⊢
    rw [HY.out] at N1 hps ⊢
    obtain ⟨wi, HWI⟩ : ∃ x, Hid (widI wd = x) := ⟨_, rfl⟩
    rw [HWI.out] at CW AH hwi ⊢
    have hst : (str [wi]).size = 1 := str_size [wi]
    have hsh : ((⟨#[72]⟩ : ByteArray) ++ str [wi]).size = 2 := by rw [ByteArray.size_append, str_size]; rfl
    have hu : IntKind.u8.wrap wi = wi := by
      have : wi % 256 = wi := by omega
      first | exact this | (simp [IntKind.wrap]; omega) | (unfold IntKind.wrap; simp; omega)
    obtain ⟨n, HN⟩ : ∃ n, Hid (xs.length = n) := ⟨_, rfl⟩
    rw [HN.out] at SC N1 AH HRD hm' hm hcap hn ⊢
    clear hal hcl
    have hcv := conv_one
    have hcv1 : (convert 64 9 (.slice (some ⟨w.heap.size, 0, none⟩) 1 1)).run Try.prog ((w.alloc (.cells #[.int .u8 wi] 5)).drew) = .ok (.string (str [wi])) ((w.alloc (.cells #[.int .u8 wi] 5)).drew) := conv_one w.drew wi
    have KA : Hid (∀ w2, Below w.drew.heap.size w.drew w2 → Below w.heap.size w w2) := fun w2 h => below2 (below_dr (Below.refl _ _)) h (Nat.le_refl _)
    have KB : Hid (∀ w2, Below ((w.alloc (.cells #[.int .u8 wi] 5)).drew).heap.size ((w.alloc (.cells #[.int .u8 wi] 5)).drew) w2 → Below w.heap.size w w2) := fun w2 h => below2 (below_dr ((Below.refl _ _).alloc (Nat.le_refl _) _)) h (Nat.le_refl _)
    go_enter Try.func22, Try.ntmps22
    go_upto_region 6 with (first
      | (go_at_call 51; refine (CW.out _).mono ?_; rintro _ wz ⟨rfl, hz⟩; rw [hz]; clear hz)
      | (go_at_call 52; refine AH.out.mono ?_; rintro _ wz ⟨rfl, hz⟩; rw [hz]; clear hz))
    go_region_with (first
      | (go_at_call 35; refine (N1.out _).mono ?_; rintro _ w2 ⟨rfl, k2⟩; first
          | (have B2 : Hid (Below w.heap.size w w2) := KA.out _ k2; have hcv2 := conv_one w2 wi; clear k2)
          | (have B2 : Hid (Below w.heap.size w w2) := KB.out _ k2; have c2 : Hid (w2.cell? ⟨w.heap.size, 0, none⟩ = some (.int .u8 wi)) := cell_one w.drew w2 wi k2; have hcv2 := conv_at w2 _ wi c2.out; clear k2))
      | (go_at_call 53; first
          | (refine (SC.out _ (HRD.out.later B2.out)).mono ?_; rintro _ w3 ⟨rfl, k3⟩; have B3 : Hid (Below w.heap.size w w3) := below2 B2.out k3 (Nat.le_refl _); first
              | (have c3 : Hid (w3.cell? ⟨w.heap.size, 0, none⟩ = some (.int .u8 wi)) := cell_kept _ w3 _ wi k3 c2.out; have hcv3 := conv_at w3 _ wi c3.out; clear k3)
              | (have hcv3 := conv_one w3 wi; clear k3))
          | (refine (SC.out _ (HRD.out.later (B2.out.alloc B2.out.size _))).mono ?_; rintro _ w3 ⟨rfl, k3⟩; have B3 : Hid (Below w.heap.size w w3) := below2 (B2.out.alloc B2.out.size _) k3 (Nat.le_refl _); have hcv3 := conv_at w3 _ wi (cell_one w2 w3 wi k3); clear k3)))
    all_goals (
      go_wp2
      go_ret2
      exact ⟨rfl, by first | exact B3.out | exact B3.out.alloc B3.out.size _⟩)
  · have hal' : allW (widI wd) xs = false := by simpa using hal
    have HV : Hid (hashV wd xs = .tuple #[.string ByteArray.empty, .int .i64 72]) := by
      have e : hashE wd xs = 72 := by unfold hashE; rw [if_neg hm, if_neg hal]
      show _ = _
      unfold hashV
      rw [e]; rfl
    rw [HV.out]
    rw [hal'] at AH
    clear hal hal'
    go_enter Try.func22, Try.ntmps22
    go_wp2_with (first
      | (go_at_call 51; refine (CW.out _).mono ?_; rintro _ wz ⟨rfl, hz⟩; rw [hz]; clear hz)
      | (go_at_call 52; refine AH.out.mono ?_; rintro _ wz ⟨rfl, hz⟩; rw [hz]; clear hz))
    go_ret2
    exact ⟨rfl, Below.refl _ _⟩
end Go.Proofs.Ytkgadgkomdjplaa.ff

namespace Go.Proofs.Ytkgadgkomdjplaa.wh
open Go.RowKit Go.PlainAid
open Go.Proofs.Ytkgadgkomdjplaa.ca Go.Proofs.Ytkgadgkomdjplaa.cb Go.Proofs.Ytkgadgkomdjplaa.cp Go.Proofs.Ytkgadgkomdjplaa.ga Go.Proofs.Ytkgadgkomdjplaa.kp Go.Proofs.Ytkgadgkomdjplaa.na Go.Proofs.Ytkgadgkomdjplaa.nb Go.Proofs.Ytkgadgkomdjplaa.ea Go.Proofs.Ytkgadgkomdjplaa.eb Go.Proofs.Ytkgadgkomdjplaa.ec Go.Proofs.Ytkgadgkomdjplaa.ee Go.Proofs.Ytkgadgkomdjplaa.ef Go.Proofs.Ytkgadgkomdjplaa.eg Go.Proofs.Ytkgadgkomdjplaa.ei Go.Proofs.Ytkgadgkomdjplaa.ej Go.Proofs.Ytkgadgkomdjplaa.ek Go.Proofs.Ytkgadgkomdjplaa.er Go.Proofs.Ytkgadgkomdjplaa.ka Go.Proofs.Ytkgadgkomdjplaa.bn Go.Proofs.Ytkgadgkomdjplaa.fe Go.Proofs.Ytkgadgkomdjplaa.ff Go.Proofs.Ytkgadgkomdjplaa.fp Go.Proofs.Ytkgadgkomdjplaa.lg Go.Proofs.Ytkgadgkomdjplaa.lh Go.Proofs.Ytkgadgkomdjplaa.wl Go.Proofs.Ytkgadgkomdjplaa.wm
set_option linter.unusedVariables false

-- lists of their own, no two in one block
def Dj (a b : Value) : Prop := ∀ j, a.ownBlock = some j → b.ownBlock = some j → False
structure Ls (w : World) (l : List (Value × List ByteArray)) (wr : World) : Prop where
  all : ∀ e ∈ l, wr.ownsRow w.heap.size 9 1 e.1 e.2.length (e.2.map Value.string)
  dj : l.Pairwise (fun a b => Dj a.1 b.1)
  bl : Below w.heap.size w wr
theorem Ls.own {w : World} {l : List (Value × List ByteArray)} {wr : World} (h : Ls w l wr) {e : Value × List ByteArray} (he : e ∈ l) : wr.ownsRow w.heap.size 9 1 e.1 e.2.length (e.2.map Value.string) := h.all e he
theorem Ls.size {w : World} {l : List (Value × List ByteArray)} {wr : World} (h : Ls w l wr) : w.heap.size ≤ wr.heap.size := h.bl.size
theorem Ls.ownN {w : World} {l : List (Value × List ByteArray)} {wr : World} (h : Ls w l wr) {n : Nat} {c : ByteArray} (v : Value) (he : (v, List.replicate n c) ∈ l) : wr.ownsRow w.heap.size 9 1 v n (List.replicate n (Value.string c)) := by
  have h1 := h.all _ he
  rw [List.length_replicate, List.map_replicate] at h1
  exact h1
theorem Ls.reads {w : World} {l : List (Value × List ByteArray)} {wr : World} (h : Ls w l wr) {e : Value × List ByteArray} (he : e ∈ l) : ReadsT wr e.1 e.2 := own_readsT (h.all e he)
theorem Ls.later {w : World} {l : List (Value × List ByteArray)} {wr w' : World} (h : Ls w l wr) (k : Below wr.heap.size wr w') : Ls w l w' :=
  ⟨fun e he => own_later (h.all e he) k, h.dj, below2 h.bl k (Nat.le_refl _)⟩
theorem Ls.add {w : World} {l : List (Value × List ByteArray)} {wr w' : World} {v : Value} {L : List ByteArray} (h : Ls w l wr) (o : w'.ownsRow wr.heap.size 9 1 v L.length (L.map Value.string)) (k : Below wr.heap.size wr w') : Ls w ((v, L) :: l) w' := by
  have h1 := h.later k
  refine ⟨fun e he => ?_, List.pairwise_cons.2 ⟨fun e he j hj hj2 => ?_, h.dj⟩, h1.bl⟩
  · rcases List.mem_cons.1 he with rfl | he
    · exact own_base o h.bl.size
    · exact h1.all e he
  · have e1 := (o.lt j hj).1
    have e2 := ((h.all e he).lt j hj2).2
    omega
theorem Ls.put {w : World} (l1 l2 : List (Value × List ByteArray)) (v : Value) {L : List ByteArray} (L' : List ByteArray) {wr w' : World} (h : Ls w (l1 ++ (v, L) :: l2) wr) (k : Kp (fun j => v.ownBlock = some j) wr w') (o : w'.ownsRow w.heap.size 9 1 v L'.length (L'.map Value.string)) : Ls w (l1 ++ (v, L') :: l2) w' := by
  have hd := List.pairwise_append.1 h.dj
  have hd2 := List.pairwise_cons.1 hd.2.1
  have hx := h.all (v, L) (by simp)
  refine ⟨fun e he => ?_, List.pairwise_append.2 ⟨hd.1, List.pairwise_cons.2 ⟨hd2.1, hd2.2⟩, fun a ha b hb => ?_⟩, h.bl.trans (k.below (fun j hj => (hx.lt j hj).1) h.bl.size)⟩
  · rcases List.mem_append.1 he with he | he
    · exact own_not (h.all e (List.mem_append.2 (.inl he))) k (fun j h1 h2 => hd.2.2 e he (v, L) (List.mem_cons_self) j h1 h2)
    · rcases List.mem_cons.1 he with rfl | he
      · exact o
      · exact own_not (h.all e (List.mem_append.2 (.inr (List.mem_cons_of_mem _ he)))) k (fun j h1 h2 => hd2.1 e he j h2 h1)
  · rcases List.mem_cons.1 hb with rfl | hb
    · exact hd.2.2 a ha (v, L) List.mem_cons_self
    · exact hd.2.2 a ha b (List.mem_cons_of_mem _ hb)
theorem Ls.put6 {w : World} {a0 a1 a2 a3 a4 a5 t : Value × List ByteArray} {v : Value} {L : List ByteArray} (L' : List ByteArray) {wr w' : World} (h : Ls w [a0, a1, a2, a3, a4, a5, (v, L), t] wr) (k : Kp (fun j => v.ownBlock = some j) wr w') (o : w'.ownsRow w.heap.size 9 1 v L'.length (L'.map Value.string)) : Ls w [a0, a1, a2, a3, a4, a5, (v, L'), t] w' := Ls.put [a0, a1, a2, a3, a4, a5] [t] v L' h k o
theorem Ls.put4 {w : World} {a0 a1 a2 a3 t0 t1 t : Value × List ByteArray} {v : Value} {L : List ByteArray} (L' : List ByteArray) {wr w' : World} (h : Ls w [a0, a1, a2, a3, (v, L), t0, t1, t] wr) (k : Kp (fun j => v.ownBlock = some j) wr w') (o : w'.ownsRow w.heap.size 9 1 v L'.length (L'.map Value.string)) : Ls w [a0, a1, a2, a3, (v, L'), t0, t1, t] w' := Ls.put [a0, a1, a2, a3] [t0, t1, t] v L' h k o
theorem Ls.tw {w : World} {l : List (Value × List ByteArray)} {wr : World} {g n cp : Nat} {xs : List ByteArray} (h : Ls w l wr) (hn : xs.length = n) (he : (Value.slice (some ⟨g, 0, none⟩) (n + 1) cp, xs ++ [⟨#[98, 101, 104, 105, 110, 100]⟩]) ∈ l) : Tw wr w.heap.size g n cp xs := by
  have h1 := h.all _ he
  rw [List.map_append, List.length_append, hn] at h1
  exact h1
theorem Ls.one {w wr : World} {g n cp : Nat} {xs : List ByteArray} (h : Tw wr w.heap.size g n cp xs) (hn : xs.length = n) (b : Below w.heap.size w wr) : Ls w [(Value.slice (some ⟨g, 0, none⟩) (n + 1) cp, xs ++ [⟨#[98, 101, 104, 105, 110, 100]⟩])] wr := by
  refine ⟨fun e he => ?_, List.pairwise_singleton _ _, b⟩
  obtain rfl := List.mem_singleton.1 he
  rw [List.map_append, List.length_append, hn]
  exact h
theorem own_len {w : World} {B t s n l c : Nat} {a : Option Addr} {xs : List Value} (h : w.ownsRow B t s (.slice a l c) n xs) : n = l := by
  obtain ⟨a', c', e⟩ := own_formS h
  injection e with _ e2
  exact e2.symm
theorem hashV_form (wd : Int) (xs : List ByteArray) : ∃ s e, hashV wd xs = .tuple #[.string s, .int .i64 e] ∧ s.size ≤ 140737488355328 := by
  refine ⟨_, _, rfl, ?_⟩
  split
  · next h =>
    unfold hashE at h
    split at h
    · omega
    · split at h
      · next hl ha =>
        have h1 := cat_len (widI wd) xs ha (widI_in wd).2 (by omega)
        have h2 := (putB_size (xs.length : Int) (by omega) (by omega)).2
        unfold hashT
        rw [ByteArray.size_append, ByteArray.size_append, ByteArray.size_append, str_size]
        have h3 : (⟨(cat xs).toArray⟩ : ByteArray).size = (cat xs).length := List.size_toArray
        have h4 : (⟨#[72]⟩ : ByteArray).size = 1 := rfl
        rw [h3, h4, List.length_singleton]
        omega
      · omega
  · show 0 ≤ _; omega
theorem hL_len (b : ByteArray) : (hL b).length ≤ 256 := by
  unfold hL
  split
  · exact (hS_ok b).2
  · simp
set_option maxRecDepth 100000 in
set_option maxHeartbeats 2400000 in
theorem wireHashes {w : World} (wd : Int) (hwd : (Lit.int .i64 wd).wf = true) (v : Value) (xs : List ByteArray) (hr : ReadsT w v xs) (hno : ∀ k c, v = .slice none k c → c = 0) (hs : ∀ x ∈ xs, x.size ≤ 140737488351232) (hz : xs.length * 16 ≤ 140737488351232) (b : ByteArray) (hb : b.size ≤ 140737488351232) :
    Calls Try.prog 6 #[.int .i64 wd, v, .string b] w fun e w' => e = .returned (.bool true) ∧ Below w.heap.size w w' := by
  clear hwd
  have TC : Hid (Calls _ _ _ _ _) := twinC v xs w hr hno hz
  have HR : Hid (ReadsT w v xs) := hr
  have hn : xs.length ≤ 140737488351232 := by omega
  have LC : Hid (∀ g cp W ys, ys.length = xs.length → ReadsT W (.slice (some ⟨g, 0, none⟩) xs.length cp) ys → Calls _ _ _ _ _) := fun g cp W ys hl h => hashesWC wd (.slice (some ⟨g, 0, none⟩) xs.length cp) ys W h (by omega)
  have LD : Hid (∀ g cp W ys, ys.length = xs.length → ReadsT W (.slice (some ⟨g, 0, none⟩) xs.length cp) ys → Calls _ _ _ _ _) := fun g cp W ys hl h => rHashes wd (.slice (some ⟨g, 0, none⟩) xs.length cp) ys W h (by omega)
  have LR : Hid (∀ W, ReadsT W v xs → Calls _ _ _ _ _) := fun W h => rHashes wd v xs W h (by omega)
  have KC : Hid (∀ g cp W, Tw W w.heap.size g xs.length cp xs → ReadsT W v xs → Calls _ _ _ _ _) := fun g cp W h1 h2 => keptC w.heap.size g cp v xs W h1 h2 (by omega)
  obtain ⟨s1, e1, HV1, hs1⟩ := hashV_form wd xs
  have HV : Hid (hashV wd xs = .tuple #[.string s1, .int .i64 e1]) := HV1
  clear HV1
  have UB : Hid (∀ W, Calls _ _ _ (W : World) _) := fun W => unHashesC b W (by omega)
  have UC : Hid (∀ W, Calls _ _ _ (W : World) _) := fun W => unHashesC s1 W hs1
  have RB : Hid (∀ W, Calls _ _ _ (W : World) _) := fun W => rUnHashes b W (by omega)
  have RC : Hid (∀ W, Calls _ _ _ (W : World) _) := fun W => rUnHashes s1 W hs1
  have hlb := hL_len b
  have hlc := hL_len s1
  obtain ⟨Lb, HLB⟩ : ∃ L, Hid (hL b = L) := ⟨_, rfl⟩
  obtain ⟨Lc, HLC⟩ : ∃ L, Hid (hL s1 = L) := ⟨_, rfl⟩
  obtain ⟨wb, HWB⟩ : ∃ L, Hid (hWd b = L) := ⟨_, rfl⟩
  obtain ⟨wc, HWC⟩ : ∃ L, Hid (hWd s1 = L) := ⟨_, rfl⟩
  obtain ⟨eb, HEB⟩ : ∃ L, Hid (hE b = L) := ⟨_, rfl⟩
  obtain ⟨ec, HEC⟩ : ∃ L, Hid (hE s1 = L) := ⟨_, rfl⟩
  rw [HLB.out, HWB.out, HEB.out] at UB RB
  rw [HLC.out, HWC.out, HEC.out] at UC RC
  rw [HLB.out] at hlb
  rw [HLC.out] at hlc
  have SB : Hid (∀ W va vb, ReadsT W va Lb → ReadsT W vb Lb → Calls _ _ _ _ _) := fun W va vb h1 h2 => same_yes va vb Lb W h1 h2 (by omega)
  have SC : Hid (∀ W va vb, ReadsT W va Lc → ReadsT W vb Lc → Calls _ _ _ _ _) := fun W va vb h1 h2 => same_yes va vb Lc W h1 h2 (by omega)
  have MX : Hid (∀ (W : World) (v : Value) (c : ByteArray), W.ownsRow w.heap.size 9 1 v Lb.length (Lb.map Value.string) → Calls _ _ _ _ _) := fun W v c h => markC w.heap.size v Lb c W h (by omega)
  have MU : Hid (∀ (W : World) (v : Value) (c : ByteArray), W.ownsRow w.heap.size 9 1 v Lc.length (Lc.map Value.string) → Calls _ _ _ _ _) := fun W v c h => markC w.heap.size v Lc c W h (by omega)
  have GX : Hid (∀ (W : World) (v : Value), W.ownsRow w.heap.size 9 1 v Lb.length (List.replicate Lb.length (Value.string ⟨#[49]⟩)) → w.heap.size ≤ W.heap.size → Calls _ _ _ _ _) := fun W v h h2 => grownC w.heap.size Lb.length v _ ⟨#[49]⟩ W h h2 (by omega)
  have GU : Hid (∀ (W : World) (v : Value), W.ownsRow w.heap.size 9 1 v Lc.length (List.replicate Lc.length (Value.string ⟨#[50]⟩)) → w.heap.size ≤ W.heap.size → Calls _ _ _ _ _) := fun W v h h2 => grownC w.heap.size Lc.length v _ ⟨#[50]⟩ W h h2 (by omega)
  have FX : Hid (∀ (W : World) (v : Value), W.ownsRow w.heap.size 9 1 v Lb.length (List.replicate Lb.length (Value.string ⟨#[49]⟩)) → Calls _ _ _ _ _) := fun W v h => fullC w.heap.size Lb.length v ⟨#[49]⟩ W h (by omega)
  have FU : Hid (∀ (W : World) (v : Value), W.ownsRow w.heap.size 9 1 v Lc.length (List.replicate Lc.length (Value.string ⟨#[50]⟩)) → Calls _ _ _ _ _) := fun W v h => fullC w.heap.size Lc.length v ⟨#[50]⟩ W h (by omega)
  obtain ⟨nb, HNB⟩ : ∃ n, Hid (Lb.length = n) := ⟨_, rfl⟩
  obtain ⟨nc, HNC⟩ : ∃ n, Hid (Lc.length = n) := ⟨_, rfl⟩
  rw [HNB.out] at MX GX FX hlb
  rw [HNC.out] at MU GU FU hlc
  have NX : Hid (∀ (l : List (Value × List ByteArray)) (W : World) (a : Option Addr) (c : Nat), Ls w l W → (Value.slice a nb c, Lb) ∈ l → W.ownsRow w.heap.size 9 1 (.slice a nb c) nb (Lb.map Value.string)) := fun l W a c h he => by have := h.all _ he; rw [HNB.out] at this; exact this
  have NU : Hid (∀ (l : List (Value × List ByteArray)) (W : World) (a : Option Addr) (c : Nat), Ls w l W → (Value.slice a nc c, Lc) ∈ l → W.ownsRow w.heap.size 9 1 (.slice a nc c) nc (Lc.map Value.string)) := fun l W a c h he => by have := h.all _ he; rw [HNC.out] at this; exact this
  obtain ⟨a, cap, rfl, hcap, hh⟩ := hr
  obtain ⟨n, HN⟩ : ∃ n, Hid (xs.length = n) := ⟨_, rfl⟩
  have HS : Hid (∀ x ∈ xs, x.size ≤ 140737488351232) := hs
  rw [HN.out] at TC HR LC LD LR KC hn hcap ⊢
  clear hh hs hz hno
  go_enter Try.func6, Try.ntmps6
  go_upto_region 2 with (go_at_call 11; refine TC.out.mono ?_; rintro _ w1 ⟨⟨g, cp, rfl, t1⟩, k1⟩; have T1 : Hid (Tw w1 w.heap.size g n cp xs) := t1; have B1 : Hid (Below w.heap.size w w1) := k1; have hcp := (Tw.cell t1 HN.out).2.2; clear t1 k1)
  have hcp1 : (n : Int) ≤ cp := by omega
  go_upto_region 4 with (first
    | (go_at_call 21; refine (LC.out g cp _ xs HN.out (T1.out.reads HN.out)).mono ?_; rintro _ w2 ⟨rfl, k2⟩; have T2 : Hid (Tw w2 w.heap.size g n cp xs) := T1.out.later k2; have B2 : Hid (Below w.heap.size w w2) := below2 B1.out k2 (Nat.le_refl _); rw [HV.out]; clear k2)
    | (go_at_call 22; refine (LR.out _ (HR.out.later B2.out)).mono ?_; rintro _ w3 ⟨rfl, k3⟩; have T3 : Hid (Tw w3 w.heap.size g n cp xs) := T2.out.later k3; have B3 : Hid (Below w.heap.size w w3) := below2 B2.out k3 (Nat.le_refl _); rw [HV.out]; clear k3))
  have g1 : (s1.toList == s1.toList) = true := beq_self_eq_true _
  have g2 : (e1 != e1) = false := by simp
  go_upto_region 6 with (first
    | (go_at_call 9; refine (num e1 _).mono ?_; rintro _ _ ⟨rfl, rfl⟩)
    | (go_at_call 13; refine (KC.out g cp _ T3.out (HR.out.later B3.out)).mono ?_; rintro _ w4 ⟨rfl, m4, hm4⟩; have S4 : Hid (Ls w [(.slice (some ⟨g, 0, none⟩) (n + 1) cp, xs ++ [⟨#[98, 101, 104, 105, 110, 100]⟩])] w4) := Ls.one (T3.out.later (by rw [hm4]; exact below_dN' _ _)) HN.out (below2 B3.out (by rw [hm4]; exact below_dN' _ _) (Nat.le_refl _)); clear hm4))
  clear g2
  go_upto_region 7 with (go_at_call 23; refine (UB.out _).mono ?_; rintro _ w5 ⟨⟨xa, xl, xc, rfl, o5⟩, k5⟩; have hq5 : nb = xl := HNB.out.symm.trans (own_len o5); subst hq5; have S5 : Hid (Ls w [(.slice xa nb xc, Lb), (.slice (some ⟨g, 0, none⟩) (n + 1) cp, xs ++ [⟨#[98, 101, 104, 105, 110, 100]⟩])] w5) := Ls.add S4.out o5 k5; clear o5 k5)
  go_upto_region 8 with (go_at_call 23; refine (UB.out _).mono ?_; rintro _ w6 ⟨⟨za, zl, zc, rfl, o6⟩, k6⟩; have hq6 : nb = zl := HNB.out.symm.trans (own_len o6); subst hq6; have S6 : Hid (Ls w [(.slice za nb zc, Lb), (.slice xa nb xc, Lb), (.slice (some ⟨g, 0, none⟩) (n + 1) cp, xs ++ [⟨#[98, 101, 104, 105, 110, 100]⟩])] w6) := Ls.add S5.out o6 k6; clear o6 k6)
  go_upto_region 9 with (go_at_call 23; refine (UC.out _).mono ?_; rintro _ w7 ⟨⟨ua, ul, uc, rfl, o7⟩, k7⟩; have hq7 : nc = ul := HNC.out.symm.trans (own_len o7); subst hq7; have S7 : Hid (Ls w [(.slice ua nc uc, Lc), (.slice za nb zc, Lb), (.slice xa nb xc, Lb), (.slice (some ⟨g, 0, none⟩) (n + 1) cp, xs ++ [⟨#[98, 101, 104, 105, 110, 100]⟩])] w7) := Ls.add S6.out o7 k7; clear o7 k7)
  go_upto_region 10 with (go_at_call 23; refine (UC.out _).mono ?_; rintro _ w8 ⟨⟨va, vl, vc, rfl, o8⟩, k8⟩; have hq8 : nc = vl := HNC.out.symm.trans (own_len o8); subst hq8; have S8 : Hid (Ls w [(.slice va nc vc, Lc), (.slice ua nc uc, Lc), (.slice za nb zc, Lb), (.slice xa nb xc, Lb), (.slice (some ⟨g, 0, none⟩) (n + 1) cp, xs ++ [⟨#[98, 101, 104, 105, 110, 100]⟩])] w8) := Ls.add S7.out o8 k8; clear o8 k8)
  go_upto_region 11 with (go_at_call 23; refine (UB.out _).mono ?_; rintro _ w9 ⟨⟨pa, pl, pc, rfl, o9⟩, k9⟩; have hq9 : nb = pl := HNB.out.symm.trans (own_len o9); subst hq9; have S9 : Hid (Ls w [(.slice pa nb pc, Lb), (.slice va nc vc, Lc), (.slice ua nc uc, Lc), (.slice za nb zc, Lb), (.slice xa nb xc, Lb), (.slice (some ⟨g, 0, none⟩) (n + 1) cp, xs ++ [⟨#[98, 101, 104, 105, 110, 100]⟩])] w9) := Ls.add S8.out o9 k9; clear o9 k9)
  go_upto_region 12 with (go_at_call 24; refine (RB.out _).mono ?_; rintro _ w10 ⟨⟨ya, yl, yc, rfl, o10⟩, k10⟩; have hq10 : nb = yl := HNB.out.symm.trans (own_len o10); subst hq10; have S10 : Hid (Ls w [(.slice ya nb yc, Lb), (.slice pa nb pc, Lb), (.slice va nc vc, Lc), (.slice ua nc uc, Lc), (.slice za nb zc, Lb), (.slice xa nb xc, Lb), (.slice (some ⟨g, 0, none⟩) (n + 1) cp, xs ++ [⟨#[98, 101, 104, 105, 110, 100]⟩])] w10) := Ls.add S9.out o10 k10; clear o10 k10)
  go_upto_region 13 with (go_at_call 24; refine (RC.out _).mono ?_; rintro _ w11 ⟨⟨qa, ql, qc, rfl, o11⟩, k11⟩; have hq11 : nc = ql := HNC.out.symm.trans (own_len o11); subst hq11; have S11 : Hid (Ls w [(.slice qa nc qc, Lc), (.slice ya nb yc, Lb), (.slice pa nb pc, Lb), (.slice va nc vc, Lc), (.slice ua nc uc, Lc), (.slice za nb zc, Lb), (.slice xa nb xc, Lb), (.slice (some ⟨g, 0, none⟩) (n + 1) cp, xs ++ [⟨#[98, 101, 104, 105, 110, 100]⟩])] w11) := Ls.add S10.out o11 k11; clear o11 k11)
  have g3 : (wb != wb) = false := by simp
  have g4 : (eb != eb) = false := by simp
  go_upto_region 15 with (first
    | (go_at_call 9; refine (num eb _).mono ?_; rintro _ _ ⟨rfl, rfl⟩)
    | (go_at_call 16; refine (SC.out _ (.slice ua nc uc) (.slice qa nc qc) (S12.out.reads (e := (.slice ua nc uc, Lc)) (by simp)) (S12.out.reads (e := (.slice qa nc qc, Lc)) (by simp))).mono ?_; rintro _ w13 ⟨rfl, m13, hm13⟩; have S13 : Hid (Ls w [(.slice qa nc qc, Lc), (.slice ya nb yc, Lb), (.slice pa nb pc, Lb), (.slice va nc vc, Lc), (.slice ua nc uc, Lc), (.slice za nb zc, Lb), (.slice xa nb xc, Lb), (.slice (some ⟨g, 0, none⟩) (n + 1) cp, xs ++ [⟨#[98, 101, 104, 105, 110, 100]⟩])] w13) := S12.out.later (by rw [hm13]; exact below_dN' _ _); clear hm13)
    | (go_at_call 16; refine (SB.out _ (.slice xa nb xc) (.slice ya nb yc) (S11.out.reads (e := (.slice xa nb xc, Lb)) (by simp)) (S11.out.reads (e := (.slice ya nb yc, Lb)) (by simp))).mono ?_; rintro _ w12 ⟨rfl, m12, hm12⟩; have S12 : Hid (Ls w [(.slice qa nc qc, Lc), (.slice ya nb yc, Lb), (.slice pa nb pc, Lb), (.slice va nc vc, Lc), (.slice ua nc uc, Lc), (.slice za nb zc, Lb), (.slice xa nb xc, Lb), (.slice (some ⟨g, 0, none⟩) (n + 1) cp, xs ++ [⟨#[98, 101, 104, 105, 110, 100]⟩])] w12) := S11.out.later (by rw [hm12]; exact below_dN' _ _); clear hm12))
  clear g3 g4
  go_upto_region 16 with (go_at_call 25; refine (MX.out _ (.slice xa nb xc) ⟨#[49]⟩ (NX.out _ _ _ _ S13.out (by simp))).mono ?_; rintro _ w14 ⟨rfl, o14, k14⟩; have S14 : Hid (Ls w [(.slice qa nc qc, Lc), (.slice ya nb yc, Lb), (.slice pa nb pc, Lb), (.slice va nc vc, Lc), (.slice ua nc uc, Lc), (.slice za nb zc, Lb), (.slice xa nb xc, List.replicate nb ⟨#[49]⟩), (.slice (some ⟨g, 0, none⟩) (n + 1) cp, xs ++ [⟨#[98, 101, 104, 105, 110, 100]⟩])] w14) := Ls.put6 (List.replicate nb ⟨#[49]⟩) S13.out k14 (by rw [List.length_replicate, List.map_replicate]; exact o14); clear o14 k14)
  go_upto_region 17 with (go_at_call 25; refine (MU.out _ (.slice ua nc uc) ⟨#[50]⟩ (NU.out _ _ _ _ S14.out (by simp))).mono ?_; rintro _ w15 ⟨rfl, o15, k15⟩; have S15 : Hid (Ls w [(.slice qa nc qc, Lc), (.slice ya nb yc, Lb), (.slice pa nb pc, Lb), (.slice va nc vc, Lc), (.slice ua nc uc, List.replicate nc ⟨#[50]⟩), (.slice za nb zc, Lb), (.slice xa nb xc, List.replicate nb ⟨#[49]⟩), (.slice (some ⟨g, 0, none⟩) (n + 1) cp, xs ++ [⟨#[98, 101, 104, 105, 110, 100]⟩])] w15) := Ls.put4 (List.replicate nc ⟨#[50]⟩) S14.out k15 (by rw [List.length_replicate, List.map_replicate]; exact o15); clear o15 k15)
  have g5 : ((nb : Int) + 301 + ((nc : Int) + 301) != (nb : Int) + (nc : Int) + 602) = false := by simp; omega
  go_upto_region 18 with (first
    | (go_at_call 26; refine (GU.out _ (.slice ua nc uc) (S16.out.ownN (n := nc) (.slice ua nc uc) (by simp)) S16.out.size).mono ?_; rintro _ w17 ⟨rfl, o17, k17⟩; have S17 : Hid (Ls w [(.slice qa nc qc, Lc), (.slice ya nb yc, Lb), (.slice pa nb pc, Lb), (.slice va nc vc, Lc), (.slice ua nc uc, List.replicate nc ⟨#[50]⟩), (.slice za nb zc, Lb), (.slice xa nb xc, List.replicate nb ⟨#[49]⟩), (.slice (some ⟨g, 0, none⟩) (n + 1) cp, xs ++ [⟨#[98, 101, 104, 105, 110, 100]⟩])] w17) := Ls.put4 (List.replicate nc ⟨#[50]⟩) S16.out k17 (by rw [List.length_replicate, List.map_replicate]; exact o17); clear o17 k17)
    | (go_at_call 26; refine (GX.out _ (.slice xa nb xc) (S15.out.ownN (n := nb) (.slice xa nb xc) (by simp)) S15.out.size).mono ?_; rintro _ w16 ⟨rfl, o16, k16⟩; have S16 : Hid (Ls w [(.slice qa nc qc, Lc), (.slice ya nb yc, Lb), (.slice pa nb pc, Lb), (.slice va nc vc, Lc), (.slice ua nc uc, List.replicate nc ⟨#[50]⟩), (.slice za nb zc, Lb), (.slice xa nb xc, List.replicate nb ⟨#[49]⟩), (.slice (some ⟨g, 0, none⟩) (n + 1) cp, xs ++ [⟨#[98, 101, 104, 105, 110, 100]⟩])] w16) := Ls.put6 (List.replicate nb ⟨#[49]⟩) S15.out k16 (by rw [List.length_replicate, List.map_replicate]; exact o16); clear o16 k16))
  go_upto_region 20 with (first
    | (go_at_call 16; refine (SC.out _ (.slice va nc vc) (.slice qa nc qc) (S19.out.reads (e := (.slice va nc vc, Lc)) (by simp)) (S19.out.reads (e := (.slice qa nc qc, Lc)) (by simp))).mono ?_; rintro _ w20 ⟨rfl, m20, hm20⟩; have S20 : Hid (Ls w [(.slice qa nc qc, Lc), (.slice ya nb yc, Lb), (.slice pa nb pc, Lb), (.slice va nc vc, Lc), (.slice ua nc uc, List.replicate nc ⟨#[50]⟩), (.slice za nb zc, Lb), (.slice xa nb xc, List.replicate nb ⟨#[49]⟩), (.slice (some ⟨g, 0, none⟩) (n + 1) cp, xs ++ [⟨#[98, 101, 104, 105, 110, 100]⟩])] w20) := S19.out.later (by rw [hm20]; exact below_dN' _ _); clear hm20)
    | (go_at_call 16; refine (SB.out _ (.slice pa nb pc) (.slice ya nb yc) (S18.out.reads (e := (.slice pa nb pc, Lb)) (by simp)) (S18.out.reads (e := (.slice ya nb yc, Lb)) (by simp))).mono ?_; rintro _ w19 ⟨rfl, m19, hm19⟩; have S19 : Hid (Ls w [(.slice qa nc qc, Lc), (.slice ya nb yc, Lb), (.slice pa nb pc, Lb), (.slice va nc vc, Lc), (.slice ua nc uc, List.replicate nc ⟨#[50]⟩), (.slice za nb zc, Lb), (.slice xa nb xc, List.replicate nb ⟨#[49]⟩), (.slice (some ⟨g, 0, none⟩) (n + 1) cp, xs ++ [⟨#[98, 101, 104, 105, 110, 100]⟩])] w19) := S18.out.later (by rw [hm19]; exact below_dN' _ _); clear hm19)
    | (go_at_call 16; refine (SB.out _ (.slice za nb zc) (.slice ya nb yc) (S17.out.reads (e := (.slice za nb zc, Lb)) (by simp)) (S17.out.reads (e := (.slice ya nb yc, Lb)) (by simp))).mono ?_; rintro _ w18 ⟨rfl, m18, hm18⟩; have S18 : Hid (Ls w [(.slice qa nc qc, Lc), (.slice ya nb yc, Lb), (.slice pa nb pc, Lb), (.slice va nc vc, Lc), (.slice ua nc uc, List.replicate nc ⟨#[50]⟩), (.slice za nb zc, Lb), (.slice xa nb xc, List.replicate nb ⟨#[49]⟩), (.slice (some ⟨g, 0, none⟩) (n + 1) cp, xs ++ [⟨#[98, 101, 104, 105, 110, 100]⟩])] w18) := S17.out.later (by rw [hm18]; exact below_dN' _ _); clear hm18)
    | (go_at_call 27; refine (FU.out _ (.slice ua nc uc) (S21.out.ownN (n := nc) (.slice ua nc uc) (by simp))).mono ?_; rintro _ w22 ⟨rfl, m22, hm22⟩; have S22 : Hid (Ls w [(.slice qa nc qc, Lc), (.slice ya nb yc, Lb), (.slice pa nb pc, Lb), (.slice va nc vc, Lc), (.slice ua nc uc, List.replicate nc ⟨#[50]⟩), (.slice za nb zc, Lb), (.slice xa nb xc, List.replicate nb ⟨#[49]⟩), (.slice (some ⟨g, 0, none⟩) (n + 1) cp, xs ++ [⟨#[98, 101, 104, 105, 110, 100]⟩])] w22) := S21.out.later (by rw [hm22]; exact below_dN' _ _); clear hm22)
    | (go_at_call 27; refine (FX.out _ (.slice xa nb xc) (S20.out.ownN (n := nb) (.slice xa nb xc) (by simp))).mono ?_; rintro _ w21 ⟨rfl, m21, hm21⟩; have S21 : Hid (Ls w [(.slice qa nc qc, Lc), (.slice ya nb yc, Lb), (.slice pa nb pc, Lb), (.slice va nc vc, Lc), (.slice ua nc uc, List.replicate nc ⟨#[50]⟩), (.slice za nb zc, Lb), (.slice xa nb xc, List.replicate nb ⟨#[49]⟩), (.slice (some ⟨g, 0, none⟩) (n + 1) cp, xs ++ [⟨#[98, 101, 104, 105, 110, 100]⟩])] w21) := S20.out.later (by rw [hm21]; exact below_dN' _ _); clear hm21))
  have T7 : Hid (Tw w22 w.heap.size g n cp xs) := S22.out.tw HN.out (by simp)
  have B7 : Hid (Below w.heap.size w w22) := S22.out.bl
  clear g5 SB SC MX MU GX GU FX FU NX NU UB UC RB RC S4 S5 S6 S7 S8 S9 S10 S11 S12 S13 S14 S15 S16 S17 S18 S19 S20 S21 S22
  by_cases h0 : n = 0
  · have h0' : ((n : Int) == 0) = true := by rw [beq_iff_eq]; omega
    clear h0
    go_wp2
    go_ret
    exact ⟨rfl, B7.out⟩
  · have h0' : ((n : Int) == 0) = false := by rw [beq_eq_false_iff_ne]; omega
    have hn1 : (0 : Int) < (n : Int) + 1 := by omega
    obtain ⟨m, HM⟩ : ∃ m, Hid (n = m + 1) := ⟨n - 1, by show _ = _; omega⟩
    obtain ⟨X, HX⟩ : ∃ X, Hid (xs.getD m ByteArray.empty = X) := ⟨_, rfl⟩
    have hX : X.size ≤ 140737488351232 := by
      have hml : m < xs.length := by rw [HN.out, HM.out]; omega
      have h1 := HS.out xs[m] (List.getElem_mem hml)
      rw [← HX.out, List.getD_eq_getElem?_getD, List.getElem?_eq_getElem hml]
      exact h1
    obtain ⟨Y, HY⟩ : ∃ Y, Hid (X ++ (⟨#[120]⟩ : ByteArray) = Y) := ⟨_, rfl⟩
    obtain ⟨s2, e2, HV2, _⟩ := hashV_form wd (xs.set 0 (X ++ ⟨#[120]⟩))
    have HW : Hid (hashV wd (xs.set 0 (X ++ ⟨#[120]⟩)) = .tuple #[.string s2, .int .i64 e2]) := HV2
    clear HV2
    have g4 : (s2.toList == s2.toList) = true := beq_self_eq_true _
    have g5 : (e2 == e2) = true := beq_self_eq_true _
    have HN2 : Hid ((xs.set 0 (X ++ ⟨#[120]⟩)).length = n) := by show _ = _; rw [List.length_set, HN.out]
    have hn0 : 0 < n := by omega
    clear h0
    go_upto_region 23 with (first
      | (go_at_call 21; refine (LC.out g cp _ xs HN.out (T7.out.reads HN.out)).mono ?_; rintro _ w28 ⟨rfl, k8⟩; have T8 : Hid (Tw w28 w.heap.size g n cp xs) := T7.out.later k8; have B8 : Hid (Below w.heap.size w w28) := below2 B7.out k8 (Nat.le_refl _); rw [HV.out]; clear k8))
    have c8 : w28.cell? ⟨g, 0, none⟩ = some (.string (xs.getD 0 ByteArray.empty)) := (Tw.cell T8.out HN.out).1 0 hn0
    have c9 : w28.cell? ⟨g, m, none⟩ = some (.string X) := by rw [← HX.out]; exact (Tw.cell T8.out HN.out).1 m (by have := HM.out; omega)
    have f8 := tw_frozen T8.out 0
    have T9 : Hid (Tw (w28.setCell ⟨g, 0, none⟩ (.string (X ++ ⟨#[120]⟩))) w.heap.size g n cp (xs.set 0 (X ++ ⟨#[120]⟩))) := tw_set T8.out HN.out 0 hn0 _
    have B9 : Hid (Below w.heap.size w (w28.setCell ⟨g, 0, none⟩ (.string (X ++ ⟨#[120]⟩)))) := B8.out.setCell (p := ⟨g, 0, none⟩) (tw_base T8.out).1 _
    have hsz : (X ++ (⟨#[120]⟩ : ByteArray)).size ≤ 140737488355328 := by rw [ByteArray.size_append]; have : (⟨#[120]⟩ : ByteArray).size = 1 := rfl; omega
    have hm1 : (n : Int) - 1 = (m : Int) := by have := HM.out; omega
    have hm2 : (m : Int) < (n : Int) + 1 := by have := HM.out; omega
    go_upto_region 24 with fail
    obtain ⟨w29, H9⟩ : ∃ w9, w9 = w28.setCell ⟨g, 0, none⟩ (.string (X ++ ⟨#[120]⟩)) := ⟨_, rfl⟩
    rw [← H9] at T9 B9 ⊢
    clear H9 c8 c9 f8 hsz hm1 hm2
    go_wp2_with (first
      | (go_at_call 21; refine (LC.out g cp _ _ HN2.out (T9.out.reads HN2.out)).mono ?_; rintro _ w30 ⟨rfl, k10⟩; have T10 : Hid (Tw w30 w.heap.size g n cp _) := T9.out.later k10; have B10 : Hid (Below w.heap.size w w30) := below2 B9.out k10 (Nat.le_refl _); rw [HW.out]; clear k10)
      | (go_at_call 22; refine (LD.out g cp _ _ HN2.out (T10.out.reads HN2.out)).mono ?_; rintro _ w31 ⟨rfl, k11⟩; have B11 : Hid (Below w.heap.size w w31) := below2 B10.out k11 (Nat.le_refl _); rw [HW.out]; clear k11)
      | (go_at_call 9; refine (num e2 _).mono ?_; rintro _ _ ⟨rfl, rfl⟩))
    go_ret
    exact ⟨rfl, B11.out⟩
end Go.Proofs.Ytkgadgkomdjplaa.wh
