import Derived.Test.YthpfgdhmpeadeaaJ7
import Derived.Test.YthpfgdhmpeadeaaJ5
import Derived.Test.YthpfgdhmpeadeaaG6
import Derived.Test.YthpfgdhmpeadeaaG5
import Derived.Test.YthpfgdhmpeadeaaJ1
import Derived.Test.YthpfgdhmpeadeaaJ9
import Derived.Test.YthpfgdhmpeadeaaH7
namespace Go.Proofs.Ythpfgdhmpeadeaa.e12
open Go.RowKit Go.PlainAid
open Go.Proofs.Ythpfgdhmpeadeaa.ca Go.Proofs.Ythpfgdhmpeadeaa.cb Go.Proofs.Ythpfgdhmpeadeaa.cp Go.Proofs.Ythpfgdhmpeadeaa.ga Go.Proofs.Ythpfgdhmpeadeaa.na Go.Proofs.Ythpfgdhmpeadeaa.nb Go.Proofs.Ythpfgdhmpeadeaa.nc Go.Proofs.Ythpfgdhmpeadeaa.nh Go.Proofs.Ythpfgdhmpeadeaa.ea Go.Proofs.Ythpfgdhmpeadeaa.eb Go.Proofs.Ythpfgdhmpeadeaa.ed Go.Proofs.Ythpfgdhmpeadeaa.co Go.Proofs.Ythpfgdhmpeadeaa.ka Go.Proofs.Ythpfgdhmpeadeaa.kp Go.Proofs.Ythpfgdhmpeadeaa.mi Go.Proofs.Ythpfgdhmpeadeaa.ec Go.Proofs.Ythpfgdhmpeadeaa.ee Go.Proofs.Ythpfgdhmpeadeaa.ef Go.Proofs.Ythpfgdhmpeadeaa.eg Go.Proofs.Ythpfgdhmpeadeaa.eh Go.Proofs.Ythpfgdhmpeadeaa.ei Go.Proofs.Ythpfgdhmpeadeaa.eo Go.Proofs.Ythpfgdhmpeadeaa.ep Go.Proofs.Ythpfgdhmpeadeaa.eq Go.Proofs.Ythpfgdhmpeadeaa.er Go.Proofs.Ythpfgdhmpeadeaa.es Go.Proofs.Ythpfgdhmpeadeaa.lg Go.Proofs.Ythpfgdhmpeadeaa.bn Go.Proofs.Ythpfgdhmpeadeaa.lh Go.Proofs.Ythpfgdhmpeadeaa.e1 Go.Proofs.Ythpfgdhmpeadeaa.e2 Go.Proofs.Ythpfgdhmpeadeaa.e6 Go.Proofs.Ythpfgdhmpeadeaa.e7
set_option linter.unusedVariables false

theorem wpList_append_twoI {ops : Array Oper} {rest : List Oper} {o : Oper} {a : Act} {Q : Exit → Act → World → Prop} (w : World) (hgd : o.guard = none) (s x : Operand)
    (ho : o.op = .call { callee := .builtin .append, args := #[s, x], argTypes := #[22, 22] })
    (B : Nat) (v : Value) (n : Nat) (xs : List Value) (hs : a.eval s = v) (hown : w.ownsRow B 3 1 v n xs) (ad : Addr) (c : Int) (hx : a.eval x = .slice (some ad) 1 1)
    (hnews : ∀ (j : Nat) (u : Value), [Value.int .i64 c][j]? = some u → w.cell? (ad.add j) = some u) (hn : n ≤ 1000000) (hB : B ≤ w.heap.size)
    (h : ∀ v' w', w'.ownsRow B 3 1 v' (n + 1) (xs ++ [Value.int .i64 c]) → ((∃ g cap, v = .slice (some ⟨g, 0, none⟩) n cap ∧ v' = .slice (some ⟨g, 0, none⟩) (n + 1) cap ∧ w.grownBy w' (some g)) ∨ (w.grownBy w' none ∧ ∀ j, v'.ownBlock = some j → w.heap.size ≤ j)) → wpList Try.prog ops Q rest (a.put o.dst v') w') :
    wpList Try.prog ops Q (o :: rest) a w := by
  obtain ⟨i9, hi, hz0, hz1, hz2⟩ := lg.info_parts ti.hiE
  have h1c : ∀ u ∈ [Value.int .i64 c], u.oneCell' = true := fun u hu => by simp only [List.mem_cons, List.not_mem_nil, or_false] at hu; subst hu; rfl
  have hmx : n + 1 ≤ maxLen := by unfold maxLen; omega
  rcases hown.2 with ⟨e, h0⟩ | ⟨g, cap, cur, e, hg, hh, hc, hcm, hcs, ht⟩
  · subst e h0
    have hx0 : xs = [] := List.length_eq_zero_iff.1 (by have := hown.1; omega)
    subst hx0
    refine wpList_append_own w hgd s x 22 ho w.heap.size 3 i9 (.int .i64 0) 1 8 Try.underlying22 hi hz0 hz1 hz2 rfl (by decide) (.slice none 0 0) 0 [] hs (World.ownsRow_nil _ _ _ _) ad 1 1 [.int .i64 c] hx rfl hnews h1c (by omega) (by omega) (Nat.le_refl _) ?_
    intro v' w' ho' hg' _
    exact h v' w' (own_base ho' hB) (.inr ⟨hg', fun j hj => (ho'.lt j hj).1⟩)
  · subst e
    by_cases hr : n + 1 ≤ cap
    · refine wpList_append_own_spare w hgd s x 22 ho B 3 i9 1 Try.underlying22 hi hz1 g n cap xs hs hown ad 1 1 [.int .i64 c] hx rfl hnews h1c hr ?_
      intro w' ho' hg'
      exact h _ w' ho' (.inl ⟨g, cap, rfl, rfl, hg'⟩)
    · refine wpList_append_arg w hgd s x 22 ho 3 i9 (.int .i64 0) 1 8 Try.underlying22 hi hz0 hz1 hz2 rfl (by decide) g 0 n cap xs hs hown.1 ?_ ad 1 1 [.int .i64 c] hx rfl hnews h1c (fun hr' => absurd hr' hr) hmx (by omega) (fun hr' => absurd hr' hr) ?_
      · intro j u hj
        have hjl : j < n * 1 := by have := (List.getElem?_eq_some_iff.1 hj).1; have := hown.1; omega
        rw [Nat.zero_add, hown.cellAt j hjl, hj]
      · intro _ v' w' ho' hg'
        exact h v' w' (own_base ho' hB) (.inr ⟨hg', fun j hj => (ho'.lt j hj).1⟩)

theorem mark_nextI (xs : List Int) (c : Int) (k : Nat) (hk : k < xs.length) : (List.replicate k c ++ xs.drop k).set k c = List.replicate (k + 1) c ++ xs.drop (k + 1) := by
  rw [List.set_append_right _ _ (by rw [List.length_replicate]; omega), List.length_replicate, Nat.sub_self, List.drop_eq_getElem_cons hk, List.set_cons_zero, List.replicate_succ', List.append_assoc]
  rfl
-- a list of numbers grown into another one
structure GiI (w : World) (B : Nat) (v : Value) (n : Nat) (ys : List Value) (c : Int) (k : Nat) (vm : Value) (wr : World) : Prop where
  own : wr.ownsRow B 3 1 vm (n + k) (ys ++ List.replicate k (Value.int .i64 c))
  old : wr.ownsRow B 3 1 v n ys
  kp : Kp (fun j => v.ownBlock = some j) w wr
  at_ : ∀ j, vm.ownBlock = some j → w.heap.size ≤ j ∨ ∃ cap, v = .slice (some ⟨j, 0, none⟩) n cap ∧ vm = .slice (some ⟨j, 0, none⟩) (n + k) cap
theorem GiI.start {w : World} {B : Nat} {v : Value} {n : Nat} {ys : List Value} (c : Int) (h : w.ownsRow B 3 1 v n ys) : GiI w B v n ys c 0 v w := by
  refine ⟨by simpa using h, h, Kp.refl _ _, fun j hj => ?_⟩
  rcases h.2 with ⟨rfl, _⟩ | ⟨g, cap, cur, rfl, _⟩
  · cases hj
  · injection hj with e
    subst e
    exact .inr ⟨cap, rfl, rfl⟩
theorem GiI.step {w : World} {B : Nat} {v : Value} {n : Nat} {ys : List Value} {c : Int} {k : Nat} {vm : Value} {wr : World} (hv : w.ownsRow B 3 1 v n ys) (h : GiI w B v n ys c k vm wr) (ob : Obj) (v' : Value) (w' : World)
    (ho : w'.ownsRow B 3 1 v' (n + k + 1) ((ys ++ List.replicate k (Value.int .i64 c)) ++ [Value.int .i64 c]))
    (hc : (∃ g cap, vm = .slice (some ⟨g, 0, none⟩) (n + k) cap ∧ v' = .slice (some ⟨g, 0, none⟩) (n + k + 1) cap ∧ (wr.alloc ob).grownBy w' (some g)) ∨ ((wr.alloc ob).grownBy w' none ∧ ∀ j, v'.ownBlock = some j → (wr.alloc ob).heap.size ≤ j)) :
    GiI w B v n ys c (k + 1) v' w' := by
  have hrep : (ys ++ List.replicate k (Value.int .i64 c)) ++ [Value.int .i64 c] = ys ++ List.replicate (k + 1) (Value.int .i64 c) := by rw [List.append_assoc, ← List.replicate_succ']
  rw [hrep] at ho
  have hyl : ys.length = n := by have := hv.1; omega
  have hka : Kp (fun j => v.ownBlock = some j) w (wr.alloc ob) := h.kp.trans (Kp.of_below ((Below.refl _ _).alloc (Nat.le_refl _) ob))
  have hold : (wr.alloc ob).ownsRow B 3 1 v n ys := h.old.alloc ob
  rcases hc with ⟨g, cap, rfl, rfl, hg⟩ | ⟨hg, hj⟩
  · have hat := h.at_ g rfl
    refine ⟨ho, ?_, ⟨hg.os.trans hka.os, hg.tape.trans hka.tape, hg.output.trans hka.output, Nat.le_trans hka.size hg.size, fun j hj hn => ?_⟩, fun j hj => ?_⟩
    · rcases hat with hge | ⟨cap', rfl, e⟩
      · exact own_not hold (kp_grown hg) (fun j hj he => by
          injection he with he
          have := (hv.lt j hj).2
          omega)
      · injection e with _ _ e3
        subst e3
        exact own_take ho hyl
    · have hne : some j ≠ some g := fun e => by
        injection e with e
        subst e
        rcases hat with hge | ⟨cap', rfl, e⟩
        · omega
        · exact hn rfl
      exact (hg.block j (Nat.lt_of_lt_of_le hj hka.size) hne).trans (hka.block j hj hn)
    · injection hj with hj
      subst hj
      rcases hat with hge | ⟨cap', e1, e⟩
      · exact .inl hge
      · injection e with _ _ e3
        subst e3
        exact .inr ⟨cap, e1, rfl⟩
  · refine ⟨ho, own_not hold (kp_grown hg) (fun j _ he => by cases he), hka.trans (kp_grown hg |>.mono (fun j e => by cases e)), fun j h5 => .inl (Nat.le_trans hka.size (hj j h5))⟩
theorem up_len' (b : ByteArray) : (upR b).at'.length ≤ 1024 ∧ (upR b).hs.length ≤ 70000 := by
  by_cases h : pE b = 0
  · obtain ⟨v, e⟩ := proof_only b h
    have hu : upR b = ⟨(pK b).1, (pW b).1, (pSh b).a, (pSh b).b, (pSh b).n, (pSh b).at', (pHs b).1⟩ := by unfold upR; rw [if_pos h]
    rw [hu]
    have hln : (pHs b).1.length ≤ 70000 := by rw [v.ln]; exact num_le v.rf
    refine ⟨?_, hln⟩
    obtain ⟨k1, k2, hn, _, _, hx⟩ := ref_bounds v.rf
    by_cases k4 : (pK b).1 = 4
    · exact (hx k4).1
    · have hb := v.br
      unfold bareP at hb
      rw [if_neg k4] at hb
      show (pSh b).at'.length ≤ 1024
      split at hb
      · rw [hb]; simp
      · rw [hb.2]; simp
  · have hu : upR b = ⟨0, 0, 0, 0, 0, [], []⟩ := by unfold upR; rw [if_neg h]
    rw [hu]
    exact ⟨by simp, by simp⟩
theorem ul_len' (b : ByteArray) : (unLeavesL b).length ≤ 1024 := by
  unfold unLeavesL
  split
  · rename_i h; exact (unLeaves_only b h).2.1
  · simp

theorem own_lenS {w : World} {B t s n l c : Nat} {a : Option Addr} {xs : List Value} (h : w.ownsRow B t s (.slice a l c) n xs) : n = l := by
  rcases h.2 with ⟨e, h0⟩ | ⟨g, cap, cur, e, _⟩
  · rw [h0]; exact ((Value.slice.inj e).2.1).symm
  · exact ((Value.slice.inj e).2.1).symm
theorem own_apart {w : World} {B t s n B' t' s' n' : Nat} {v v' : Value} {xs xs' : List Value} (h : w.ownsRow B t s v n xs) (h' : w.ownsRow B' t' s' v' n' xs') (ht : t ≠ t') : ∀ j, v.ownBlock = some j → ¬ v'.ownBlock = some j := fun j hj hj' => by
  rcases h'.2 with ⟨rfl, _⟩ | ⟨g, cap, cur, rfl, hg, hh, _⟩
  · cases hj'
  · injection hj' with e
    subst e
    exact own_ne h hh ht hj.symm
-- what stays while none of its blocks changes
def St (lo hi : Nat) (P : World → Prop) (w : World) : Prop := ∀ (A : Nat → Prop) (W' : World), (∀ j, A j → ¬ (lo ≤ j ∧ j < hi)) → Kp A w W' → P W'
theorem St.later {lo hi : Nat} {P : World → Prop} {w w' : World} (h : St lo hi P w) (b : Below w.heap.size w w') : St lo hi P w' := fun A W' hA k => h A W' hA ((Kp.of_below b).trans k)
def Px (bx : Nat) (k wd a b n : Int) (xs : List Int) (hs : List ByteArray) (v h : Value) (W : World) : Prop :=
  W.heap[bx]? = some (.cells #[.int .i64 k, .int .i64 wd, .int .i64 a, .int .i64 b, .int .i64 n, v, h] 25 (0, 0)) ∧ ReadsI W v xs ∧ ReadsT W h hs
theorem st_proof {w0 w1 W2 : World} {k wd a b n : Int} {xs : List Int} {hs : List ByteArray} {v h : Value} (o : w1.ownsRow w0.heap.size 3 1 v xs.length (xs.map (Value.int .i64))) (p : w1.ownsRow w0.heap.size 9 1 h hs.length (hs.map Value.string)) (B : Below w0.heap.size w0 w1) (hW : W2 = w1.alloc (.cells #[.int .i64 k, .int .i64 wd, .int .i64 a, .int .i64 b, .int .i64 n, v, h] 25)) : St w0.heap.size W2.heap.size (Px w1.heap.size k wd a b n xs hs v h) W2 := by
  intro A W' hA K
  subst hW
  have hsz : (w1.alloc (.cells #[.int .i64 k, .int .i64 wd, .int .i64 a, .int .i64 b, .int .i64 n, v, h] 25)).heap.size = w1.heap.size + 1 := by simp
  have b1 := B.size
  have al : Below w1.heap.size w1 (w1.alloc (.cells #[.int .i64 k, .int .i64 wd, .int .i64 a, .int .i64 b, .int .i64 n, v, h] 25)) := (Below.refl _ _).alloc (Nat.le_refl _) _
  rw [hsz] at hA
  refine ⟨(K.block _ (by omega) (fun a => hA _ a ⟨by omega, by omega⟩)).trans (heap_alloc_new w1 _), own_readsI (own_not (own_later o al) K (fun j hj a => hA j a ⟨(o.lt j hj).1, ?_⟩)), own_readsT (own_not (own_later p al) K (fun j hj a => hA j a ⟨(p.lt j hj).1, ?_⟩))⟩
  · have := (o.lt j hj).2; omega
  · have := (p.lt j hj).2; omega
theorem st_list {w0 w1 : World} {v : Value} {L : List ByteArray} (o : w1.ownsRow w0.heap.size 9 1 v L.length (L.map Value.string)) : St w0.heap.size w1.heap.size (fun W => ReadsT W v L) w1 :=
  fun A W' hA K => own_readsT (own_not o K (fun j hj a => hA j a (o.lt j hj)))
end Go.Proofs.Ythpfgdhmpeadeaa.e12

namespace Go.Proofs.Ythpfgdhmpeadeaa.w6
open Go.RowKit Go.PlainAid Go.Shelf
open Go.Proofs.Ythpfgdhmpeadeaa.ca Go.Proofs.Ythpfgdhmpeadeaa.cb Go.Proofs.Ythpfgdhmpeadeaa.cp Go.Proofs.Ythpfgdhmpeadeaa.ga Go.Proofs.Ythpfgdhmpeadeaa.kp Go.Proofs.Ythpfgdhmpeadeaa.mi Go.Proofs.Ythpfgdhmpeadeaa.co Go.Proofs.Ythpfgdhmpeadeaa.na Go.Proofs.Ythpfgdhmpeadeaa.nb Go.Proofs.Ythpfgdhmpeadeaa.nc Go.Proofs.Ythpfgdhmpeadeaa.nh Go.Proofs.Ythpfgdhmpeadeaa.ea Go.Proofs.Ythpfgdhmpeadeaa.eb Go.Proofs.Ythpfgdhmpeadeaa.ec Go.Proofs.Ythpfgdhmpeadeaa.ed Go.Proofs.Ythpfgdhmpeadeaa.ee Go.Proofs.Ythpfgdhmpeadeaa.ef Go.Proofs.Ythpfgdhmpeadeaa.eg Go.Proofs.Ythpfgdhmpeadeaa.eh Go.Proofs.Ythpfgdhmpeadeaa.ei Go.Proofs.Ythpfgdhmpeadeaa.eo Go.Proofs.Ythpfgdhmpeadeaa.eq Go.Proofs.Ythpfgdhmpeadeaa.er Go.Proofs.Ythpfgdhmpeadeaa.es Go.Proofs.Ythpfgdhmpeadeaa.ka Go.Proofs.Ythpfgdhmpeadeaa.bn Go.Proofs.Ythpfgdhmpeadeaa.lg Go.Proofs.Ythpfgdhmpeadeaa.lh Go.Proofs.Ythpfgdhmpeadeaa.wp Go.Proofs.Ythpfgdhmpeadeaa.fd Go.Proofs.Ythpfgdhmpeadeaa.fo Go.Proofs.Ythpfgdhmpeadeaa.e1 Go.Proofs.Ythpfgdhmpeadeaa.e2 Go.Proofs.Ythpfgdhmpeadeaa.e6 Go.Proofs.Ythpfgdhmpeadeaa.e7 Go.Proofs.Ythpfgdhmpeadeaa.e12 Go.Proofs.Ythpfgdhmpeadeaa.w2
set_option linter.unusedVariables false

theorem below_of_dN {w w' : World} {m : Nat} (h : w' = w.drewN m) : Below w.heap.size w w' := by rw [h]; exact below_dN (Below.refl _ _) _
set_option maxRecDepth 100000 in
set_option maxHeartbeats 12800000 in
theorem fresh_walk {w : World} (b : ByteArray) (hb : b.size ≤ 140737488351232) (c : ByteArray) (hc : c.size ≤ 140737488351232) :
    Calls Try.prog 5 #[.string b, .string c] w fun e w' => e = .returned (.bool true) ∧ Below w.heap.size w w' := by
  have RPb : Hid (∀ W : World, Calls _ _ _ W _) := fun W => rUnProof b W (by omega)
  have UPb : Hid (∀ W : World, Calls _ _ _ W _) := fun W => unProofC b W (by omega)
  have RLb : Hid (∀ W : World, Calls _ _ _ W _) := fun W => rUnLeaves b W (by omega)
  have ULb : Hid (∀ W : World, Calls _ _ _ W _) := fun W => unLeavesC b W (by omega)
  have hupb := up_len' b
  have hulb := ul_len' b
  obtain ⟨b1, b2, b3, b4, b5, bxs, bhs, HRb⟩ : ∃ k wd a bb n at' hs, Hid (upR b = ⟨k, wd, a, bb, n, at', hs⟩) := ⟨_, _, _, _, _, _, _, rfl⟩
  rw [HRb.out] at RPb UPb hupb
  obtain ⟨bL, HLb⟩ : ∃ l, Hid (unLeavesL b = l) := ⟨_, rfl⟩
  rw [HLb.out] at RLb ULb hulb
  obtain ⟨be, HEb⟩ : ∃ l, Hid (pE b = l) := ⟨_, rfl⟩
  rw [HEb.out] at RPb UPb
  obtain ⟨bf, HFb⟩ : ∃ l, Hid (unLeavesE b = l) := ⟨_, rfl⟩
  rw [HFb.out] at RLb ULb
  have hxb : bxs.length ≤ 1024 := hupb.1
  have hhb : bhs.length ≤ 70000 := hupb.2
  clear HRb HLb HEb HFb hupb
  have RPc : Hid (∀ W : World, Calls _ _ _ W _) := fun W => rUnProof c W (by omega)
  have UPc : Hid (∀ W : World, Calls _ _ _ W _) := fun W => unProofC c W (by omega)
  have RLc : Hid (∀ W : World, Calls _ _ _ W _) := fun W => rUnLeaves c W (by omega)
  have ULc : Hid (∀ W : World, Calls _ _ _ W _) := fun W => unLeavesC c W (by omega)
  have hupc := up_len' c
  have hulc := ul_len' c
  obtain ⟨c1, c2, c3, c4, c5, cxs, chs, HRc⟩ : ∃ k wd a bb n at' hs, Hid (upR c = ⟨k, wd, a, bb, n, at', hs⟩) := ⟨_, _, _, _, _, _, _, rfl⟩
  rw [HRc.out] at RPc UPc hupc
  obtain ⟨cL, HLc⟩ : ∃ l, Hid (unLeavesL c = l) := ⟨_, rfl⟩
  rw [HLc.out] at RLc ULc hulc
  obtain ⟨ce, HEc⟩ : ∃ l, Hid (pE c = l) := ⟨_, rfl⟩
  rw [HEc.out] at RPc UPc
  obtain ⟨cf, HFc⟩ : ∃ l, Hid (unLeavesE c = l) := ⟨_, rfl⟩
  rw [HFc.out] at RLc ULc
  have hxc : cxs.length ≤ 1024 := hupc.1
  have hhc : chs.length ≤ 70000 := hupc.2
  clear HRc HLc HEc HFc hupc
  obtain ⟨pn, HPN⟩ : ∃ n, Hid (bxs.length = n) := ⟨_, rfl⟩
  obtain ⟨ph, HPH⟩ : ∃ n, Hid (bhs.length = n) := ⟨_, rfl⟩
  obtain ⟨pl, HPL⟩ : ∃ n, Hid (cL.length = n) := ⟨_, rfl⟩
  have hpn : pn ≤ 1024 := by have := HPN.out; omega
  have hph : ph ≤ 70000 := by have := HPH.out; omega
  have hpl : pl ≤ 1024 := by have := HPL.out; omega
  clear hb hc
  go_enter Try.func5, Try.ntmps5
  go_upto_region 1 with fail
  go_upto_region 2 with (go_at_call 16; refine (RPb.out _).mono ?_; rintro _ w1 ⟨⟨va1, vl1, vc1, ha1, hl1, hc1, rfl, o1, p1⟩, k1⟩; have O1 : Hid (w1.ownsRow w.heap.size 3 1 (.slice va1 vl1 vc1) bxs.length (bxs.map (Value.int .i64))) := o1; have P1 : Hid (w1.ownsRow w.heap.size 9 1 (.slice ha1 hl1 hc1) bhs.length (bhs.map Value.string)) := p1; have B1 : Hid (Below w.heap.size w w1) := k1; clear o1 p1 k1)
  obtain ⟨W1, HW1⟩ : ∃ W, W = w1.alloc (.cells #[.int .i64 b1, .int .i64 b2, .int .i64 b3, .int .i64 b4, .int .i64 b5, .slice va1 vl1 vc1, .slice ha1 hl1 hc1] 25) := ⟨_, rfl⟩
  have S1 : Hid (St w.heap.size W1.heap.size (Px w1.heap.size b1 b2 b3 b4 b5 bxs bhs (.slice va1 vl1 vc1) (.slice ha1 hl1 hc1)) W1) := st_proof O1.out P1.out B1.out HW1
  have Y1 : Hid (Below w1.heap.size w1 W1) := by rw [HW1]; exact (Below.refl _ _).alloc (Nat.le_refl _) _
  have Z1 : Hid (Below w.heap.size w W1) := below2 B1.out Y1.out (Nat.le_refl _)
  rw [← HW1]
  clear HW1 O1 P1 B1 Y1
  go_upto_region 3 with (go_at_call 17; refine (RLc.out _).mono ?_; rintro _ W2 ⟨⟨v2, rfl, o2⟩, k2⟩; have S2 : Hid (St W1.heap.size W2.heap.size (fun W => ReadsT W v2 cL) W2) := st_list o2; have Z2 : Hid (Below W1.heap.size W1 W2) := k2; clear o2 k2)
  go_upto_region 4 with (go_at_call 18; refine (UPb.out _).mono ?_; rintro _ w3 ⟨⟨va3, vl3, vc3, ha3, hl3, hc3, rfl, o3, p3⟩, k3⟩; have q3 : pn = vl3 := HPN.out.symm.trans (own_lenS o3); subst q3; have r3 : ph = hl3 := HPH.out.symm.trans (own_lenS p3); subst r3; have O3 : Hid (w3.ownsRow W2.heap.size 3 1 (.slice va3 pn vc3) bxs.length (bxs.map (Value.int .i64))) := o3; have P3 : Hid (w3.ownsRow W2.heap.size 9 1 (.slice ha3 ph hc3) bhs.length (bhs.map Value.string)) := p3; have B3 : Hid (Below W2.heap.size W2 w3) := k3; clear o3 p3 k3)
  obtain ⟨W3, HW3⟩ : ∃ W, W = w3.alloc (.cells #[.int .i64 b1, .int .i64 b2, .int .i64 b3, .int .i64 b4, .int .i64 b5, .slice va3 pn vc3, .slice ha3 ph hc3] 25) := ⟨_, rfl⟩
  have S3 : Hid (St W2.heap.size W3.heap.size (Px w3.heap.size b1 b2 b3 b4 b5 bxs bhs (.slice va3 pn vc3) (.slice ha3 ph hc3)) W3) := st_proof O3.out P3.out B3.out HW3
  have Y3 : Hid (Below w3.heap.size w3 W3) := by rw [HW3]; exact (Below.refl _ _).alloc (Nat.le_refl _) _
  have Z3 : Hid (Below W2.heap.size W2 W3) := below2 B3.out Y3.out (Nat.le_refl _)
  have SZ3 : Hid (W3.heap.size = w3.heap.size + 1) := by rw [HW3]; show _ = _; simp
  have HB3 : Hid (W3.heap[w3.heap.size]? = some (.cells #[.int .i64 b1, .int .i64 b2, .int .i64 b3, .int .i64 b4, .int .i64 b5, .slice va3 pn vc3, .slice ha3 ph hc3] 25 (0, 0))) := by rw [HW3]; exact heap_alloc_new w3 _
  have SB3 : Hid (W2.heap.size ≤ w3.heap.size) := B3.out.size
  have OA : Hid (W3.ownsRow W2.heap.size 3 1 (.slice va3 pn vc3) pn (bxs.map (Value.int .i64)) ∧ ∀ j, (Value.slice va3 pn vc3).ownBlock = some j → W2.heap.size ≤ j ∧ j < w3.heap.size) := ⟨by have h := own_later O3.out Y3.out; rw [HPN.out] at h; exact h, fun j hj => O3.out.lt j hj⟩
  have OH : Hid (W3.ownsRow W2.heap.size 9 1 (.slice ha3 ph hc3) ph (bhs.map Value.string) ∧ ∀ j, (Value.slice ha3 ph hc3).ownBlock = some j → W2.heap.size ≤ j ∧ j < w3.heap.size) := ⟨by have h := own_later P3.out Y3.out; rw [HPH.out] at h; exact h, fun j hj => P3.out.lt j hj⟩
  rw [← HW3]
  clear HW3 O3 P3 B3 Y3
  go_upto_region 5 with (go_at_call 18; refine (UPb.out _).mono ?_; rintro _ w4 ⟨⟨va4, vl4, vc4, ha4, hl4, hc4, rfl, o4, p4⟩, k4⟩; have O4 : Hid (w4.ownsRow W3.heap.size 3 1 (.slice va4 vl4 vc4) bxs.length (bxs.map (Value.int .i64))) := o4; have P4 : Hid (w4.ownsRow W3.heap.size 9 1 (.slice ha4 hl4 hc4) bhs.length (bhs.map Value.string)) := p4; have B4 : Hid (Below W3.heap.size W3 w4) := k4; clear o4 p4 k4)
  obtain ⟨W4, HW4⟩ : ∃ W, W = w4.alloc (.cells #[.int .i64 b1, .int .i64 b2, .int .i64 b3, .int .i64 b4, .int .i64 b5, .slice va4 vl4 vc4, .slice ha4 hl4 hc4] 25) := ⟨_, rfl⟩
  have S4 : Hid (St W3.heap.size W4.heap.size (Px w4.heap.size b1 b2 b3 b4 b5 bxs bhs (.slice va4 vl4 vc4) (.slice ha4 hl4 hc4)) W4) := st_proof O4.out P4.out B4.out HW4
  have Y4 : Hid (Below w4.heap.size w4 W4) := by rw [HW4]; exact (Below.refl _ _).alloc (Nat.le_refl _) _
  have Z4 : Hid (Below W3.heap.size W3 W4) := below2 B4.out Y4.out (Nat.le_refl _)
  rw [← HW4]
  clear HW4 O4 P4 B4 Y4
  go_upto_region 6 with (go_at_call 18; refine (UPc.out _).mono ?_; rintro _ w5 ⟨⟨va5, vl5, vc5, ha5, hl5, hc5, rfl, o5, p5⟩, k5⟩; have O5 : Hid (w5.ownsRow W4.heap.size 3 1 (.slice va5 vl5 vc5) cxs.length (cxs.map (Value.int .i64))) := o5; have P5 : Hid (w5.ownsRow W4.heap.size 9 1 (.slice ha5 hl5 hc5) chs.length (chs.map Value.string)) := p5; have B5 : Hid (Below W4.heap.size W4 w5) := k5; clear o5 p5 k5)
  obtain ⟨W5, HW5⟩ : ∃ W, W = w5.alloc (.cells #[.int .i64 c1, .int .i64 c2, .int .i64 c3, .int .i64 c4, .int .i64 c5, .slice va5 vl5 vc5, .slice ha5 hl5 hc5] 25) := ⟨_, rfl⟩
  have S5 : Hid (St W4.heap.size W5.heap.size (Px w5.heap.size c1 c2 c3 c4 c5 cxs chs (.slice va5 vl5 vc5) (.slice ha5 hl5 hc5)) W5) := st_proof O5.out P5.out B5.out HW5
  have Y5 : Hid (Below w5.heap.size w5 W5) := by rw [HW5]; exact (Below.refl _ _).alloc (Nat.le_refl _) _
  have Z5 : Hid (Below W4.heap.size W4 W5) := below2 B5.out Y5.out (Nat.le_refl _)
  rw [← HW5]
  clear HW5 O5 P5 B5 Y5
  go_upto_region 7 with (go_at_call 18; refine (UPc.out _).mono ?_; rintro _ w6 ⟨⟨va6, vl6, vc6, ha6, hl6, hc6, rfl, o6, p6⟩, k6⟩; have O6 : Hid (w6.ownsRow W5.heap.size 3 1 (.slice va6 vl6 vc6) cxs.length (cxs.map (Value.int .i64))) := o6; have P6 : Hid (w6.ownsRow W5.heap.size 9 1 (.slice ha6 hl6 hc6) chs.length (chs.map Value.string)) := p6; have B6 : Hid (Below W5.heap.size W5 w6) := k6; clear o6 p6 k6)
  obtain ⟨W6, HW6⟩ : ∃ W, W = w6.alloc (.cells #[.int .i64 c1, .int .i64 c2, .int .i64 c3, .int .i64 c4, .int .i64 c5, .slice va6 vl6 vc6, .slice ha6 hl6 hc6] 25) := ⟨_, rfl⟩
  have S6 : Hid (St W5.heap.size W6.heap.size (Px w6.heap.size c1 c2 c3 c4 c5 cxs chs (.slice va6 vl6 vc6) (.slice ha6 hl6 hc6)) W6) := st_proof O6.out P6.out B6.out HW6
  have Y6 : Hid (Below w6.heap.size w6 W6) := by rw [HW6]; exact (Below.refl _ _).alloc (Nat.le_refl _) _
  have Z6 : Hid (Below W5.heap.size W5 W6) := below2 B6.out Y6.out (Nat.le_refl _)
  rw [← HW6]
  clear HW6 O6 P6 B6 Y6
  go_upto_region 8 with (go_at_call 18; refine (UPb.out _).mono ?_; rintro _ w7 ⟨⟨va7, vl7, vc7, ha7, hl7, hc7, rfl, o7, p7⟩, k7⟩; have O7 : Hid (w7.ownsRow W6.heap.size 3 1 (.slice va7 vl7 vc7) bxs.length (bxs.map (Value.int .i64))) := o7; have P7 : Hid (w7.ownsRow W6.heap.size 9 1 (.slice ha7 hl7 hc7) bhs.length (bhs.map Value.string)) := p7; have B7 : Hid (Below W6.heap.size W6 w7) := k7; clear o7 p7 k7)
  obtain ⟨W7, HW7⟩ : ∃ W, W = w7.alloc (.cells #[.int .i64 b1, .int .i64 b2, .int .i64 b3, .int .i64 b4, .int .i64 b5, .slice va7 vl7 vc7, .slice ha7 hl7 hc7] 25) := ⟨_, rfl⟩
  have S7 : Hid (St W6.heap.size W7.heap.size (Px w7.heap.size b1 b2 b3 b4 b5 bxs bhs (.slice va7 vl7 vc7) (.slice ha7 hl7 hc7)) W7) := st_proof O7.out P7.out B7.out HW7
  have Y7 : Hid (Below w7.heap.size w7 W7) := by rw [HW7]; exact (Below.refl _ _).alloc (Nat.le_refl _) _
  have Z7 : Hid (Below W6.heap.size W6 W7) := below2 B7.out Y7.out (Nat.le_refl _)
  rw [← HW7]
  clear HW7 O7 P7 B7 Y7
  go_upto_region 9 with (go_at_call 19; refine (ULc.out _).mono ?_; rintro _ W8 ⟨⟨v8, rfl, o8⟩, k8⟩; obtain ⟨la8, lc8, hv8⟩ := own_formS o8; rw [HPL.out] at hv8; subst hv8; have S8 : Hid (St W7.heap.size W8.heap.size (fun W => ReadsT W (.slice la8 pl lc8) cL) W8) := st_list o8; have OL : Hid (W8.ownsRow W7.heap.size 9 1 (.slice la8 pl lc8) pl (cL.map Value.string)) := (by have h := o8; rw [HPL.out] at h; exact h); have Z8 : Hid (Below W7.heap.size W7 W8) := k8; clear o8 k8)
  go_upto_region 10 with (go_at_call 19; refine (ULc.out _).mono ?_; rintro _ W9 ⟨⟨v9, rfl, o9⟩, k9⟩; have S9 : Hid (St W8.heap.size W9.heap.size (fun W => ReadsT W v9 cL) W9) := st_list o9; have Z9 : Hid (Below W8.heap.size W8 W9) := k9; clear o9 k9)
  go_upto_region 11 with (go_at_call 19; refine (ULb.out _).mono ?_; rintro _ W10 ⟨⟨v10, rfl, o10⟩, k10⟩; have S10 : Hid (St W9.heap.size W10.heap.size (fun W => ReadsT W v10 bL) W10) := st_list o10; have Z10 : Hid (Below W9.heap.size W9 W10) := k10; clear o10 k10)
  go_upto_region 12 with (go_at_call 19; refine (ULb.out _).mono ?_; rintro _ W11 ⟨⟨v11, rfl, o11⟩, k11⟩; have S11 : Hid (St W10.heap.size W11.heap.size (fun W => ReadsT W v11 bL) W11) := st_list o11; have Z11 : Hid (Below W10.heap.size W10 W11) := k11; clear o11 k11)
  go_upto_region 13 with (go_at_call 19; refine (ULc.out _).mono ?_; rintro _ W12 ⟨⟨v12, rfl, o12⟩, k12⟩; have S12 : Hid (St W11.heap.size W12.heap.size (fun W => ReadsT W v12 cL) W12) := st_list o12; have Z12 : Hid (Below W11.heap.size W11 W12) := k12; clear o12 k12)
  go_upto_region 14 with (go_at_call 16; refine (RPc.out _).mono ?_; rintro _ w13 ⟨⟨va13, vl13, vc13, ha13, hl13, hc13, rfl, o13, p13⟩, k13⟩; have O13 : Hid (w13.ownsRow W12.heap.size 3 1 (.slice va13 vl13 vc13) cxs.length (cxs.map (Value.int .i64))) := o13; have P13 : Hid (w13.ownsRow W12.heap.size 9 1 (.slice ha13 hl13 hc13) chs.length (chs.map Value.string)) := p13; have B13 : Hid (Below W12.heap.size W12 w13) := k13; clear o13 p13 k13)
  obtain ⟨W13, HW13⟩ : ∃ W, W = w13.alloc (.cells #[.int .i64 c1, .int .i64 c2, .int .i64 c3, .int .i64 c4, .int .i64 c5, .slice va13 vl13 vc13, .slice ha13 hl13 hc13] 25) := ⟨_, rfl⟩
  have S13 : Hid (St W12.heap.size W13.heap.size (Px w13.heap.size c1 c2 c3 c4 c5 cxs chs (.slice va13 vl13 vc13) (.slice ha13 hl13 hc13)) W13) := st_proof O13.out P13.out B13.out HW13
  have Y13 : Hid (Below w13.heap.size w13 W13) := by rw [HW13]; exact (Below.refl _ _).alloc (Nat.le_refl _) _
  have Z13 : Hid (Below W12.heap.size W12 W13) := below2 B13.out Y13.out (Nat.le_refl _)
  rw [← HW13]
  clear HW13 O13 P13 B13 Y13
  go_upto_region 15 with (go_at_call 17; refine (RLb.out _).mono ?_; rintro _ W14 ⟨⟨v14, rfl, o14⟩, k14⟩; have S14 : Hid (St W13.heap.size W14.heap.size (fun W => ReadsT W v14 bL) W14) := st_list o14; have Z14 : Hid (Below W13.heap.size W13 W14) := k14; clear o14 k14)
  clear RPb RPc RLb RLc UPc ULb
  have T14 : Hid (Below W14.heap.size W14 W14) := Below.refl _ _
  have T13 : Hid (Below W13.heap.size W13 W14) := below2 Z14.out T14.out (Nat.le_refl _)
  have T12 : Hid (Below W12.heap.size W12 W14) := below2 Z13.out T13.out (Nat.le_refl _)
  have T11 : Hid (Below W11.heap.size W11 W14) := below2 Z12.out T12.out (Nat.le_refl _)
  have T10 : Hid (Below W10.heap.size W10 W14) := below2 Z11.out T11.out (Nat.le_refl _)
  have T9 : Hid (Below W9.heap.size W9 W14) := below2 Z10.out T10.out (Nat.le_refl _)
  have T8 : Hid (Below W8.heap.size W8 W14) := below2 Z9.out T9.out (Nat.le_refl _)
  have T7 : Hid (Below W7.heap.size W7 W14) := below2 Z8.out T8.out (Nat.le_refl _)
  have T6 : Hid (Below W6.heap.size W6 W14) := below2 Z7.out T7.out (Nat.le_refl _)
  have T5 : Hid (Below W5.heap.size W5 W14) := below2 Z6.out T6.out (Nat.le_refl _)
  have T4 : Hid (Below W4.heap.size W4 W14) := below2 Z5.out T5.out (Nat.le_refl _)
  have T3 : Hid (Below W3.heap.size W3 W14) := below2 Z4.out T4.out (Nat.le_refl _)
  have T2 : Hid (Below W2.heap.size W2 W14) := below2 Z3.out T3.out (Nat.le_refl _)
  have T1 : Hid (Below W1.heap.size W1 W14) := below2 Z2.out T2.out (Nat.le_refl _)
  have BW : Hid (Below w.heap.size w W14) := below2 Z1.out T1.out (Nat.le_refl _)
  obtain ⟨A, HA⟩ : ∃ A : Nat → Prop, Hid (∀ j, A j ↔ (W2.heap.size ≤ j ∧ j < w3.heap.size ∨ W7.heap.size ≤ j ∧ j < W8.heap.size)) := ⟨_, fun j => Iff.rfl⟩
  have GO : Hid (∀ W, Kp A W14 W → Px w1.heap.size b1 b2 b3 b4 b5 bxs bhs (.slice va1 vl1 vc1) (.slice ha1 hl1 hc1) W ∧ Px w4.heap.size b1 b2 b3 b4 b5 bxs bhs (.slice va4 vl4 vc4) (.slice ha4 hl4 hc4) W ∧ Px w5.heap.size c1 c2 c3 c4 c5 cxs chs (.slice va5 vl5 vc5) (.slice ha5 hl5 hc5) W ∧ Px w6.heap.size c1 c2 c3 c4 c5 cxs chs (.slice va6 vl6 vc6) (.slice ha6 hl6 hc6) W ∧ Px w7.heap.size b1 b2 b3 b4 b5 bxs bhs (.slice va7 vl7 vc7) (.slice ha7 hl7 hc7) W ∧ Px w13.heap.size c1 c2 c3 c4 c5 cxs chs (.slice va13 vl13 vc13) (.slice ha13 hl13 hc13) W ∧ ReadsT W v2 cL ∧ ReadsT W v9 cL ∧ ReadsT W v10 bL ∧ ReadsT W v11 bL ∧ ReadsT W v12 cL ∧ ReadsT W v14 bL ∧ W.heap[w3.heap.size]? = some (.cells #[.int .i64 b1, .int .i64 b2, .int .i64 b3, .int .i64 b4, .int .i64 b5, .slice va3 pn vc3, .slice ha3 ph hc3] 25 (0, 0))) := by
    have z1 := Z1.out.size
    have z2 := Z2.out.size
    have z3 := Z3.out.size
    have z4 := Z4.out.size
    have z5 := Z5.out.size
    have z6 := Z6.out.size
    have z7 := Z7.out.size
    have z8 := Z8.out.size
    have z9 := Z9.out.size
    have z10 := Z10.out.size
    have z11 := Z11.out.size
    have z12 := Z12.out.size
    have z13 := Z13.out.size
    have z14 := Z14.out.size
    have z15 := SZ3.out
    have z16 := SB3.out
    intro W k
    have key : ∀ lo hi, (hi ≤ W2.heap.size ∨ w3.heap.size ≤ lo) → (hi ≤ W7.heap.size ∨ W8.heap.size ≤ lo) → ∀ j, A j → ¬ (lo ≤ j ∧ j < hi) := fun lo hi h1 h2 j a => by have := (HA.out j).1 a; omega
    refine ⟨(S1.out.later T1.out) A W (key _ _ (by omega) (by omega)) k, (S4.out.later T4.out) A W (key _ _ (by omega) (by omega)) k, (S5.out.later T5.out) A W (key _ _ (by omega) (by omega)) k, (S6.out.later T6.out) A W (key _ _ (by omega) (by omega)) k, (S7.out.later T7.out) A W (key _ _ (by omega) (by omega)) k, (S13.out.later T13.out) A W (key _ _ (by omega) (by omega)) k, (S2.out.later T2.out) A W (key _ _ (by omega) (by omega)) k, (S9.out.later T9.out) A W (key _ _ (by omega) (by omega)) k, (S10.out.later T10.out) A W (key _ _ (by omega) (by omega)) k, (S11.out.later T11.out) A W (key _ _ (by omega) (by omega)) k, (S12.out.later T12.out) A W (key _ _ (by omega) (by omega)) k, (S14.out.later T14.out) A W (key _ _ (by omega) (by omega)) k, (k.block _ ?_ ?_).trans ((T3.out.block _ ?_).trans HB3.out)⟩
    · have := T3.out.size; omega
    · intro a; have := (HA.out _).1 a; omega
    · omega
  have MA : Hid (∀ j, (Value.slice va3 pn vc3).ownBlock = some j → A j) := fun j hj => (HA.out j).2 (.inl (OA.out.2 j hj))
  have MH : Hid (∀ j, (Value.slice ha3 ph hc3).ownBlock = some j → A j) := fun j hj => (HA.out j).2 (.inl (OH.out.2 j hj))
  have ML : Hid (∀ j, (Value.slice la8 pl lc8).ownBlock = some j → A j) := fun j hj => (HA.out j).2 (.inr (OL.out.lt j hj))
  have SEP : Hid ((∀ j, (Value.slice ha3 ph hc3).ownBlock = some j → ¬ (Value.slice va3 pn vc3).ownBlock = some j) ∧ (∀ j, (Value.slice la8 pl lc8).ownBlock = some j → ¬ (Value.slice va3 pn vc3).ownBlock = some j) ∧ (∀ j, (Value.slice la8 pl lc8).ownBlock = some j → ¬ (Value.slice ha3 ph hc3).ownBlock = some j)) := by
    have z3 := Z3.out.size
    have z4 := Z4.out.size
    have z5 := Z5.out.size
    have z6 := Z6.out.size
    have z7 := Z7.out.size
    have z8 := Z8.out.size
    have z15 := SZ3.out
    refine ⟨own_apart OH.out.1 OA.out.1 (by decide), fun j h1 h2 => ?_, fun j h1 h2 => ?_⟩
    · have := (OL.out.lt j h1).1; have := (OA.out.2 j h2).2; omega
    · have := (OL.out.lt j h1).1; have := (OH.out.2 j h2).2; omega
  have SZ : Hid (W2.heap.size ≤ W14.heap.size ∧ W7.heap.size ≤ W14.heap.size ∧ w.heap.size ≤ W2.heap.size ∧ w.heap.size ≤ W7.heap.size) := by
    have z1 := Z1.out.size
    have z2 := Z2.out.size
    have z3 := Z3.out.size
    have z4 := Z4.out.size
    have z5 := Z5.out.size
    have z6 := Z6.out.size
    have z7 := Z7.out.size
    have z8 := Z8.out.size
    have z9 := Z9.out.size
    have z10 := Z10.out.size
    have z11 := Z11.out.size
    have z12 := Z12.out.size
    have z13 := Z13.out.size
    have z14 := Z14.out.size
    exact ⟨by omega, by omega, by omega, by omega⟩
  have ROW : Hid (W14.ownsRow W2.heap.size 3 1 (.slice va3 pn vc3) pn (bxs.map (Value.int .i64)) ∧ W14.ownsRow W2.heap.size 9 1 (.slice ha3 ph hc3) ph (bhs.map Value.string) ∧ W14.ownsRow W7.heap.size 9 1 (.slice la8 pl lc8) pl (cL.map Value.string)) := ⟨own_later OA.out.1 T3.out, own_later OH.out.1 T3.out, own_later OL.out T8.out⟩
  have ALO : Hid (∀ j, A j → w.heap.size ≤ j) := fun j a => by have h := (HA.out j).1 a; have := SZ.out.2.2.1; have := SZ.out.2.2.2; omega
  clear Z1 T1 S1 Z2 T2 S2 Z3 T3 S3 Z4 T4 S4 Z5 T5 S5 Z6 T6 S6 Z7 T7 S7 Z8 T8 S8 Z9 T9 S9 Z10 T10 S10 Z11 T11 S11 Z12 T12 S12 Z13 T13 S13 Z14 T14 S14 SZ3 SB3 HB3 OA OH OL HA
  have C513 : Hid (∀ W' : World, Kp A W14 W' → Calls _ _ _ W' _) := fun W' k => alikeG c1 c2 c3 c4 c5 c1 c2 c3 c4 c5 va5 va13 ha5 ha13 vl5 vc5 vl13 vc13 hl5 hc5 hl13 hc13 cxs cxs chs chs W' ((GO.out W' k).2.2.1.2.1) ((GO.out W' k).2.2.2.2.2.1.2.1) ((GO.out W' k).2.2.1.2.2) ((GO.out W' k).2.2.2.2.2.1.2.2) (by omega) (by omega)
  rw [show decide (c1 = c1 ∧ c2 = c2 ∧ c3 = c3 ∧ c4 = c4 ∧ c5 = c5 ∧ cxs = cxs ∧ chs = chs) = true by simp] at C513
  have C613 : Hid (∀ W' : World, Kp A W14 W' → Calls _ _ _ W' _) := fun W' k => alikeG c1 c2 c3 c4 c5 c1 c2 c3 c4 c5 va6 va13 ha6 ha13 vl6 vc6 vl13 vc13 hl6 hc6 hl13 hc13 cxs cxs chs chs W' ((GO.out W' k).2.2.2.1.2.1) ((GO.out W' k).2.2.2.2.2.1.2.1) ((GO.out W' k).2.2.2.1.2.2) ((GO.out W' k).2.2.2.2.2.1.2.2) (by omega) (by omega)
  rw [show decide (c1 = c1 ∧ c2 = c2 ∧ c3 = c3 ∧ c4 = c4 ∧ c5 = c5 ∧ cxs = cxs ∧ chs = chs) = true by simp] at C613
  have C71 : Hid (∀ W' : World, Kp A W14 W' → Calls _ _ _ W' _) := fun W' k => alikeG b1 b2 b3 b4 b5 b1 b2 b3 b4 b5 va7 va1 ha7 ha1 vl7 vc7 vl1 vc1 hl7 hc7 hl1 hc1 bxs bxs bhs bhs W' ((GO.out W' k).2.2.2.2.1.2.1) ((GO.out W' k).1.2.1) ((GO.out W' k).2.2.2.2.1.2.2) ((GO.out W' k).1.2.2) (by omega) (by omega)
  rw [show decide (b1 = b1 ∧ b2 = b2 ∧ b3 = b3 ∧ b4 = b4 ∧ b5 = b5 ∧ bxs = bxs ∧ bhs = bhs) = true by simp] at C71
  have C41 : Hid (∀ W' : World, Kp A W14 W' → Calls _ _ _ W' _) := fun W' k => alikeG b1 b2 b3 b4 b5 b1 b2 b3 b4 b5 va4 va1 ha4 ha1 vl4 vc4 vl1 vc1 hl4 hc4 hl1 hc1 bxs bxs bhs bhs W' ((GO.out W' k).2.1.2.1) ((GO.out W' k).1.2.1) ((GO.out W' k).2.1.2.2) ((GO.out W' k).1.2.2) (by omega) (by omega)
  rw [show decide (b1 = b1 ∧ b2 = b2 ∧ b3 = b3 ∧ b4 = b4 ∧ b5 = b5 ∧ bxs = bxs ∧ bhs = bhs) = true by simp] at C41
  have M1014 : Hid (∀ W' : World, Kp A W14 W' → Calls _ _ _ W' _) := fun W' k => same_yes v10 v14 bL W' ((GO.out W' k).2.2.2.2.2.2.2.2.1) ((GO.out W' k).2.2.2.2.2.2.2.2.2.2.2.1) (by omega)
  have M1114 : Hid (∀ W' : World, Kp A W14 W' → Calls _ _ _ W' _) := fun W' k => same_yes v11 v14 bL W' ((GO.out W' k).2.2.2.2.2.2.2.2.2.1) ((GO.out W' k).2.2.2.2.2.2.2.2.2.2.2.1) (by omega)
  have M122 : Hid (∀ W' : World, Kp A W14 W' → Calls _ _ _ W' _) := fun W' k => same_yes v12 v2 cL W' ((GO.out W' k).2.2.2.2.2.2.2.2.2.2.1) ((GO.out W' k).2.2.2.2.2.2.1) (by omega)
  have M92 : Hid (∀ W' : World, Kp A W14 W' → Calls _ _ _ W' _) := fun W' k => same_yes v9 v2 cL W' ((GO.out W' k).2.2.2.2.2.2.2.1) ((GO.out W' k).2.2.2.2.2.2.1) (by omega)
  have C31 : Hid (∀ W' : World, Below W14.heap.size W14 W' → Calls _ _ _ W' _) := fun W' k => alikeG b1 b2 b3 b4 b5 b1 b2 b3 b4 b5 va3 va1 ha3 ha1 pn vc3 vl1 vc1 ph hc3 hl1 hc1 bxs bxs bhs bhs W' (own_readsI (own_later ROW.out.1 k)) ((GO.out W' (Kp.of_below k)).1.2.1) (own_readsT (own_later ROW.out.2.1 k)) ((GO.out W' (Kp.of_below k)).1.2.2) (by omega) (by omega)
  rw [show decide (b1 = b1 ∧ b2 = b2 ∧ b3 = b3 ∧ b4 = b4 ∧ b5 = b5 ∧ bxs = bxs ∧ bhs = bhs) = true by simp] at C31
  have M82 : Hid (∀ W' : World, Below W14.heap.size W14 W' → Calls _ _ _ W' _) := fun W' k => same_yes (.slice la8 pl lc8) v2 cL W' (own_readsT (own_later ROW.out.2.2 k)) ((GO.out W' (Kp.of_below k)).2.2.2.2.2.2.1) (by omega)
  have K14 : Hid (Kp A W14 W14) := Kp.refl _ _
  have BW14 : Hid (Below W14.heap.size W14 W14) := Below.refl _ _
  have KW14 : Hid (Kp A W14 W14) := Kp.refl _ _
  clear K14
  obtain ⟨s0, s1, s2, s3, s4, s5, s6⟩ := seven ((GO.out W14 KW14.out).2.2.1.1)
  obtain ⟨t0, t1, t2, t3, t4, t5, t6⟩ := seven ((GO.out W14 KW14.out).2.2.2.2.2.1.1)
  go_upto_region 17 with (first
    | (go_at_call 14; (with_reducible refine (C513.out _ KW14.out).mono ?_); rintro _ x1 ⟨rfl, k⟩; have Bx1 : Hid (Below W14.heap.size W14 x1) := below2 BW14.out k (Nat.le_refl _); have Kx1 : Hid (Kp A W14 x1) := Kp.of_below Bx1.out; clear k s0 s1 s2 s3 s4 s5 s6 t0 t1 t2 t3 t4 t5 t6; obtain ⟨s0, s1, s2, s3, s4, s5, s6⟩ := seven ((GO.out x1 Kx1.out).2.2.2.1.1); obtain ⟨t0, t1, t2, t3, t4, t5, t6⟩ := seven ((GO.out x1 Kx1.out).2.2.2.2.2.1.1))
    | (go_at_call 14; (with_reducible refine (C613.out _ Kx1.out).mono ?_); rintro _ x2 ⟨rfl, k⟩; have Bx2 : Hid (Below W14.heap.size W14 x2) := below2 Bx1.out k (Nat.le_refl _); have Kx2 : Hid (Kp A W14 x2) := Kp.of_below Bx2.out; clear k s0 s1 s2 s3 s4 s5 s6 t0 t1 t2 t3 t4 t5 t6; obtain ⟨s0, s1, s2, s3, s4, s5, s6⟩ := seven ((GO.out x2 Kx2.out).2.2.2.2.1.1); obtain ⟨t0, t1, t2, t3, t4, t5, t6⟩ := seven ((GO.out x2 Kx2.out).1.1))
    | (go_at_call 14; (with_reducible refine (C71.out _ Kx2.out).mono ?_); rintro _ x3 ⟨rfl, k⟩; have Bx3 : Hid (Below W14.heap.size W14 x3) := below2 Bx2.out k (Nat.le_refl _); have Kx3 : Hid (Kp A W14 x3) := Kp.of_below Bx3.out; clear k s0 s1 s2 s3 s4 s5 s6 t0 t1 t2 t3 t4 t5 t6)
    | (go_at_call 20; (with_reducible refine (M1014.out _ Kx3.out).mono ?_); rintro _ x4 ⟨rfl, mm, k⟩; have kb := below_of_dN k; have Bx4 : Hid (Below W14.heap.size W14 x4) := below2 Bx3.out kb (Nat.le_refl _); have Kx4 : Hid (Kp A W14 x4) := Kp.of_below Bx4.out; clear k kb)
    | (go_at_call 20; (with_reducible refine (M1114.out _ Kx4.out).mono ?_); rintro _ x5 ⟨rfl, mm, k⟩; have kb := below_of_dN k; have Bx5 : Hid (Below W14.heap.size W14 x5) := below2 Bx4.out kb (Nat.le_refl _); have Kx5 : Hid (Kp A W14 x5) := Kp.of_below Bx5.out; clear k kb)
    | (go_at_call 20; (with_reducible refine (M122.out _ Kx5.out).mono ?_); rintro _ x6 ⟨rfl, mm, k⟩; have kb := below_of_dN k; have Bx6 : Hid (Below W14.heap.size W14 x6) := below2 Bx5.out kb (Nat.le_refl _); have Kx6 : Hid (Kp A W14 x6) := Kp.of_below Bx6.out; clear k kb; obtain ⟨s0, s1, s2, s3, s4, s5, s6⟩ := seven ((GO.out x6 Kx6.out).2.2.2.2.2.2.2.2.2.2.2.2); obtain ⟨t0, t1, t2, t3, t4, t5, t6⟩ := seven ((GO.out x6 Kx6.out).1.1)))
  have gbe : (be != be) = false := by simp
  have gcf : (cf != cf) = false := by simp
  go_upto_region 19 with (first
    | (go_at_call 9; refine (num _ _).mono ?_; rintro _ wz ⟨rfl, hz⟩; rw [hz]; clear hz)
    | (go_at_call 14; (with_reducible refine (C31.out _ Bx6.out).mono ?_); rintro _ x7 ⟨rfl, k⟩; have Bx7 : Hid (Below W14.heap.size W14 x7) := below2 Bx6.out k (Nat.le_refl _); have Kx7 : Hid (Kp A W14 x7) := Kp.of_below Bx7.out; clear k s0 s1 s2 s3 s4 s5 s6 t0 t1 t2 t3 t4 t5 t6; obtain ⟨s0, s1, s2, s3, s4, s5, s6⟩ := seven ((GO.out x7 Kx7.out).2.1.1); obtain ⟨t0, t1, t2, t3, t4, t5, t6⟩ := seven ((GO.out x7 Kx7.out).1.1))
    | (go_at_call 14; (with_reducible refine (C41.out _ Kx7.out).mono ?_); rintro _ x8 ⟨rfl, k⟩; have Bx8 : Hid (Below W14.heap.size W14 x8) := below2 Bx7.out k (Nat.le_refl _); have Kx8 : Hid (Kp A W14 x8) := Kp.of_below Bx8.out; clear k s0 s1 s2 s3 s4 s5 s6 t0 t1 t2 t3 t4 t5 t6)
    | (go_at_call 20; (with_reducible refine (M82.out _ Bx8.out).mono ?_); rintro _ x9 ⟨rfl, mm, k⟩; have kb := below_of_dN k; have Bx9 : Hid (Below W14.heap.size W14 x9) := below2 Bx8.out kb (Nat.le_refl _); have Kx9 : Hid (Kp A W14 x9) := Kp.of_below Bx9.out; clear k kb)
    | (go_at_call 20; (with_reducible refine (M92.out _ Kx9.out).mono ?_); rintro _ x10 ⟨rfl, mm, k⟩; have kb := below_of_dN k; have Bx10 : Hid (Below W14.heap.size W14 x10) := below2 Bx9.out kb (Nat.le_refl _); have Kx10 : Hid (Kp A W14 x10) := Kp.of_below Bx10.out; clear k kb))
  have ROW2 : Hid (x10.ownsRow W2.heap.size 3 1 (.slice va3 pn vc3) pn (bxs.map (Value.int .i64)) ∧ x10.ownsRow W2.heap.size 9 1 (.slice ha3 ph hc3) ph (bhs.map Value.string) ∧ x10.ownsRow W7.heap.size 9 1 (.slice la8 pl lc8) pl (cL.map Value.string)) := ⟨own_later ROW.out.1 Bx10.out, own_later ROW.out.2.1 Bx10.out, own_later ROW.out.2.2 Bx10.out⟩
  clear C31 M82 ROW Bx1 Bx2 Bx3 Bx4 Bx5 Bx6 Bx7 Bx8 Bx9 Bx10 Kx1 Kx2 Kx3 Kx4 Kx5 Kx6 Kx7 Kx8 Kx9 BW14 KW14 gbe gcf
  go_wp2
  go_loopw [33] (fun i wr => ∃ (k : Nat), k ≤ pn ∧ i = .int .i64 k ∧ Hid (wr.ownsRow W2.heap.size 3 1 (.slice va3 pn vc3) pn ((List.replicate k (-1) ++ bxs.drop k).map (Value.int .i64)) ∧ Kp (fun j => (Value.slice va3 pn vc3).ownBlock = some j) x10 wr)) (fun i _ => (pn - intOf i).toNat)
  case atStart => exact ⟨0, by omega, rfl, ROW2.out.1, Kp.refl _ _⟩
  case round =>
    obtain ⟨k, hk, rfl, HL⟩ := hrel
    obtain ⟨wa, hwa⟩ : ∃ W, W = wr := ⟨_, rfl⟩
    subst hwa
    have KR : Hid (Kp A W14 wa) := Kx10.out.trans (HL.out.2.mono MA.out)
    obtain ⟨s0, s1, s2, s3, s4, s5, s6⟩ := seven ((GO.out wa KR.out).2.2.2.2.2.2.2.2.2.2.2.2)
    by_cases hlt : k < pn
    · have hlt' : (k : Int) < pn := by omega
      obtain ⟨g, hg⟩ : ∃ g, va3 = some ⟨g, 0, none⟩ := by
        rcases HL.out.1.2 with ⟨e1, e2⟩ | ⟨g, cap, cur, e1, _⟩
        · omega
        · injection e1 with e1; exact ⟨g, e1⟩
      subst hg
      have c1 := HL.out.1.cellAt k (by omega)
      have f1 := HL.out.1.frozenAt k
      have hcx : ∃ u, ((List.replicate k (-1) ++ bxs.drop k).map (Value.int .i64))[k]? = some u := ⟨_, List.getElem?_eq_getElem (by have := HL.out.1.1; omega)⟩
      obtain ⟨u, hu⟩ := hcx
      rw [hu] at c1
      clear hu
      have O2 : Hid ((wa.setCell ⟨g, k, none⟩ (.int .i64 (-1))).ownsRow W2.heap.size 3 1 (.slice (some ⟨g, 0, none⟩) pn vc3) pn ((List.replicate (k + 1) (-1) ++ bxs.drop (k + 1)).map (Value.int .i64))) := by
        have h1 := (HL.out.1.stored k (.int .i64 (-1))).1
        rw [← List.map_set, mark_nextI bxs (-1) k (by rw [HPN.out]; exact hlt)] at h1
        exact h1
      have K2 : Hid (Kp (fun j => (Value.slice (some ⟨g, 0, none⟩) pn vc3).ownBlock = some j) x10 (wa.setCell ⟨g, k, none⟩ (.int .i64 (-1)))) := HL.out.2.trans (Kp.setCell _ _ _ _ rfl)
      clear HL KR
      go_wp2
      go_roundw
      case rel => exact ⟨k + 1, by omega, by go_num, O2.out, K2.out⟩
      case measure => simp [intOf]; omega
    · have hlt' : ¬ (k : Int) < pn := by omega
      obtain rfl : k = pn := by omega
      have ROW3 : Hid (wa.ownsRow W2.heap.size 3 1 (.slice va3 k vc3) k (List.replicate k (Value.int .i64 (-1))) ∧ wa.ownsRow W2.heap.size 9 1 (.slice ha3 ph hc3) ph (bhs.map Value.string) ∧ wa.ownsRow W7.heap.size 9 1 (.slice la8 pl lc8) pl (cL.map Value.string)) := by
        refine ⟨?_, own_not ROW2.out.2.1 HL.out.2 SEP.out.1, own_not ROW2.out.2.2 HL.out.2 SEP.out.2.1⟩
        have h := HL.out.1
        rw [List.drop_eq_nil_of_le (by rw [HPN.out]; exact Nat.le_refl _), List.append_nil, List.map_replicate] at h
        exact h
      clear HL ROW2
      have MC1 : Hid (Calls _ _ _ wa _) := markC W2.heap.size (.slice ha3 ph hc3) bhs ⟨#[49]⟩ wa (by rw [HPH.out]; exact ROW3.out.2.1) (by omega)
      rw [HPH.out] at MC1
      go_upto_region 24 with (go_at_call 21; refine MC1.out.mono ?_; rintro _ y1 ⟨rfl, oo, kk⟩; have ROW4 : Hid (y1.ownsRow W2.heap.size 3 1 (.slice va3 k vc3) k (List.replicate k (Value.int .i64 (-1))) ∧ y1.ownsRow W2.heap.size 9 1 (.slice ha3 ph hc3) ph (List.replicate ph (Value.string ⟨#[49]⟩)) ∧ y1.ownsRow W7.heap.size 9 1 (.slice la8 pl lc8) pl (cL.map Value.string)) := ⟨own_not ROW3.out.1 kk (fun j h1 h2 => SEP.out.1 j h2 h1), oo, own_not ROW3.out.2.2 kk SEP.out.2.2⟩; have KY1 : Hid (Kp A W14 y1) := KR.out.trans (kk.mono MH.out); clear oo kk)
      clear MC1 ROW3 s0 s1 s2 s3 s4 s5 s6
      have MC2 : Hid (Calls _ _ _ y1 _) := markC W7.heap.size (.slice la8 pl lc8) cL ⟨#[50]⟩ y1 (by rw [HPL.out]; exact ROW4.out.2.2) (by omega)
      rw [HPL.out] at MC2
      go_upto_region 25 with (go_at_call 21; refine MC2.out.mono ?_; rintro _ y2 ⟨rfl, oo, kk⟩; have ROW5 : Hid (y2.ownsRow W2.heap.size 3 1 (.slice va3 k vc3) k (List.replicate k (Value.int .i64 (-1))) ∧ y2.ownsRow W2.heap.size 9 1 (.slice ha3 ph hc3) ph (List.replicate ph (Value.string ⟨#[49]⟩)) ∧ y2.ownsRow W7.heap.size 9 1 (.slice la8 pl lc8) pl (List.replicate pl (Value.string ⟨#[50]⟩))) := ⟨own_not ROW4.out.1 kk (fun j h1 h2 => SEP.out.2.1 j h2 h1), own_not ROW4.out.2.1 kk (fun j h1 h2 => SEP.out.2.2 j h2 h1), oo⟩; have KY2 : Hid (Kp A W14 y2) := KY1.out.trans (kk.mono ML.out); clear oo kk)
      clear MC2 ROW4
      obtain ⟨s0, s1, s2, s3, s4, s5, s6⟩ := seven ((GO.out y2 KY2.out).2.2.2.2.2.2.2.2.2.2.2.2)
      have GC1 : Hid (Calls _ _ _ y2 _) := grownC W2.heap.size ph (.slice ha3 ph hc3) (List.replicate ph (Value.string ⟨#[49]⟩)) ⟨#[49]⟩ y2 ROW5.out.2.1 (by have := SZ.out.1; have := KY2.out.size; omega) (by omega)
      have GC2 : Hid (∀ W, W7.heap.size ≤ W.heap.size → World.ownsRow W W7.heap.size 9 1 (.slice la8 pl lc8) pl (List.replicate pl (Value.string ⟨#[50]⟩)) → Calls _ _ _ (W : World) _) := fun W h1 h2 => grownC W7.heap.size pl (.slice la8 pl lc8) (List.replicate pl (Value.string ⟨#[50]⟩)) ⟨#[50]⟩ W h2 h1 (by omega)
      go_upto_region 26 with (first
        | (go_at_call 22; (with_reducible refine GC1.out.mono ?_); rintro _ y3 ⟨rfl, oo, kk⟩; have ROW6 : Hid (y3.ownsRow W2.heap.size 3 1 (.slice va3 k vc3) k (List.replicate k (Value.int .i64 (-1))) ∧ y3.ownsRow W2.heap.size 9 1 (.slice ha3 ph hc3) ph (List.replicate ph (Value.string ⟨#[49]⟩)) ∧ y3.ownsRow W7.heap.size 9 1 (.slice la8 pl lc8) pl (List.replicate pl (Value.string ⟨#[50]⟩))) := ⟨own_not ROW5.out.1 kk (fun j h1 h2 => SEP.out.1 j h2 h1), oo, own_not ROW5.out.2.2 kk SEP.out.2.2⟩; have KY3 : Hid (Kp A W14 y3) := KY2.out.trans (kk.mono MH.out); have GC3 : Hid (Calls _ _ _ y3 _) := GC2.out y3 (by have := SZ.out.2.1; have := KY3.out.size; omega) ROW6.out.2.2; clear oo kk)
        | (go_at_call 22; (with_reducible refine GC3.out.mono ?_); rintro _ y4 ⟨rfl, oo, kk⟩; have ROW7 : Hid (y4.ownsRow W2.heap.size 3 1 (.slice va3 k vc3) k (List.replicate k (Value.int .i64 (-1))) ∧ y4.ownsRow W2.heap.size 9 1 (.slice ha3 ph hc3) ph (List.replicate ph (Value.string ⟨#[49]⟩)) ∧ y4.ownsRow W7.heap.size 9 1 (.slice la8 pl lc8) pl (List.replicate pl (Value.string ⟨#[50]⟩))) := ⟨own_not ROW6.out.1 kk (fun j h1 h2 => SEP.out.2.1 j h2 h1), own_not ROW6.out.2.1 kk (fun j h1 h2 => SEP.out.2.2 j h2 h1), oo⟩; have KY4 : Hid (Kp A W14 y4) := KY3.out.trans (kk.mono ML.out); clear oo kk))
      clear GC1 GC2 GC3 ROW5 ROW6 KY1 KY2 KY3 KR s0 s1 s2 s3 s4 s5 s6
      obtain ⟨s0, s1, s2, s3, s4, s5, s6⟩ := seven ((GO.out y4 KY4.out).2.2.2.2.2.2.2.2.2.2.2.2)
      have G0 : Hid (GiI y4 W2.heap.size (.slice va3 k vc3) k (List.replicate k (Value.int .i64 (-1))) (-1) 0 (.slice va3 k vc3) y4) := GiI.start (-1) ROW7.out.1
      have hsz4 : W2.heap.size ≤ y4.heap.size := by have := SZ.out.1; have := KY4.out.size; omega
      go_upto_region 27 with (at_builtin; refine wpList_append_twoI _ rfl _ _ rfl W2.heap.size (.slice va3 k vc3) k _ rfl (ROW7.out.1.alloc _) ⟨y4.heap.size, 0, none⟩ (-1) rfl (new_one _ _ _) (by omega) (by simp; omega) ?_; intro v1x w1x o1x a1x; have G1 : Hid (GiI y4 W2.heap.size (.slice va3 k vc3) k (List.replicate k (Value.int .i64 (-1))) (-1) 1 v1x w1x) := GiI.step ROW7.out.1 G0.out _ v1x w1x (by simpa using o1x) a1x; clear o1x a1x)
      clear G0 s0 s1 s2 s3 s4 s5 s6
      go_wp2
      go_loopw [35, 36] (fun vm i wr2 => ∃ (k2 : Nat), k2 ≤ 1100 ∧ i = .int .i64 k2 ∧ Hid (GiI y4 W2.heap.size (.slice va3 k vc3) k (List.replicate k (Value.int .i64 (-1))) (-1) (k2 + 1) vm wr2)) (fun _ i _ => (1100 - intOf i).toNat)
      case atStart => exact ⟨0, by omega, rfl, G1.out⟩
      case round =>
        obtain ⟨k2, hk2, rfl, HL⟩ := hrel
        obtain ⟨wr2x, hwb⟩ : ∃ W, W = wr := ⟨_, rfl⟩
        subst hwb
        obtain ⟨va, vc, hv⟩ := own_formS HL.out.own
        subst hv
        have hsz := HL.out.kp.size
        by_cases hlt2 : k2 < 1100
        · have hlt3 : (k2 : Int) < 1100 := by omega
          go_wp2_with (at_builtin; refine wpList_append_twoI _ rfl _ _ rfl W2.heap.size (.slice va (k + (k2 + 1)) vc) (k + (k2 + 1)) _ rfl (HL.out.own.alloc _) ⟨wr2x.heap.size, 0, none⟩ (-1) rfl (new_one _ _ _) (by omega) (by simp; omega) ?_; intro v2x w2x o2x a2x; have G2 : Hid (GiI y4 W2.heap.size (.slice va3 k vc3) k (List.replicate k (Value.int .i64 (-1))) (-1) (k2 + 1 + 1) v2x w2x) := GiI.step ROW7.out.1 HL.out _ v2x w2x o2x a2x; clear o2x a2x)
          go_roundw
          case rel => exact ⟨k2 + 1, by omega, by go_num, G2.out⟩
          case measure => simp [intOf]; omega
        · have hlt3 : ¬ (k2 : Int) < 1100 := by omega
          obtain rfl : k2 = 1100 := by omega
          have HOW : Hid (wr2x.ownsRow W2.heap.size 3 1 (.slice va (k + (1100 + 1)) vc) (k + (1100 + 1)) (List.replicate (k + (1100 + 1)) (Value.int .i64 (-1)))) := by have h := HL.out.own; rw [List.replicate_append_replicate] at h; exact h
          have KF : Hid (Kp A W14 wr2x) := KY4.out.trans (HL.out.kp.mono MA.out)
          have RH : Hid (wr2x.ownsRow W2.heap.size 9 1 (.slice ha3 ph hc3) ph (List.replicate ph (Value.string ⟨#[49]⟩))) := own_not ROW7.out.2.1 HL.out.kp SEP.out.1
          have RL : Hid (wr2x.ownsRow W7.heap.size 9 1 (.slice la8 pl lc8) pl (List.replicate pl (Value.string ⟨#[50]⟩))) := own_not ROW7.out.2.2 HL.out.kp SEP.out.2.1
          clear HL G1 ROW7 KY4 hsz hsz4
          obtain ⟨nt, hnt⟩ : ∃ nt, k + (1100 + 1) = nt := ⟨_, rfl⟩
          rw [hnt] at HOW ⊢
          have hntb : nt ≤ 10000 := by omega
          clear hnt
          go_wp2
          go_loopw [37] (fun i wr3 => ∃ (k3 : Nat), k3 ≤ nt ∧ i = .int .i64 k3 ∧ wr3 = wr2x) (fun i _ => (nt - intOf i).toNat)
          case atStart => exact ⟨0, by omega, rfl, by trivial⟩
          case round =>
            obtain ⟨k3, hk3, rfl, hw3⟩ := hrel
            have hw4 := hw3.symm
            clear hw3
            subst hw4
            by_cases hlt4 : k3 < nt
            · have hlt5 : (k3 : Int) < nt := by omega
              obtain ⟨g, hg⟩ : ∃ g, va = some ⟨g, 0, none⟩ := by
                rcases HOW.out.2 with ⟨e1, e2⟩ | ⟨g, cap, cur, e1, _⟩
                · omega
                · injection e1 with e1; exact ⟨g, e1⟩
              subst hg
              have c1 := HOW.out.cellAt k3 (by omega)
              rw [List.getElem?_replicate, if_pos hlt4] at c1
              go_wp2
              go_roundw
              case rel => exact ⟨k3 + 1, by omega, by go_num, by trivial⟩
              case measure => simp [intOf]; omega
            · have hlt5 : ¬ (k3 : Int) < nt := by omega
              clear HOW
              go_upto_region 37 with (go_at_call 18; refine (UPb.out _).mono ?_; rintro _ w15 ⟨⟨va15, vl15, vc15, ha15, hl15, hc15, rfl, o15, p15⟩, k15⟩; have R15 : Hid (ReadsI w15 (.slice va15 vl15 vc15) bxs ∧ ReadsT w15 (.slice ha15 hl15 hc15) bhs) := ⟨own_readsI o15, own_readsT p15⟩; have B15 : Hid (Below _ _ w15) := k15; clear o15 p15 k15)
              obtain ⟨W15, HW15⟩ : ∃ W, W = w15.alloc (.cells #[.int .i64 b1, .int .i64 b2, .int .i64 b3, .int .i64 b4, .int .i64 b5, .slice va15 vl15 vc15, .slice ha15 hl15 hc15] 25) := ⟨_, rfl⟩
              have HB15 : Hid (W15.heap[w15.heap.size]? = some (.cells #[.int .i64 b1, .int .i64 b2, .int .i64 b3, .int .i64 b4, .int .i64 b5, .slice va15 vl15 vc15, .slice ha15 hl15 hc15] 25 (0, 0))) := by rw [HW15]; exact heap_alloc_new w15 _
              have Y15 : Hid (Below w15.heap.size w15 W15) := by rw [HW15]; exact (Below.refl _ _).alloc (Nat.le_refl _) _
              have Z15 : Hid (Below wr2x.heap.size wr2x W15) := below2 B15.out Y15.out (Nat.le_refl _)
              have R15b : Hid (ReadsI W15 (.slice va15 vl15 vc15) bxs ∧ ReadsT W15 (.slice ha15 hl15 hc15) bhs) := ⟨R15.out.1.later Y15.out, R15.out.2.later Y15.out⟩
              rw [← HW15]
              clear HW15 R15 Y15 B15
              go_upto_region 38 with (go_at_call 19; refine (ULc.out _).mono ?_; rintro _ W16 ⟨⟨v16, rfl, o16⟩, k16⟩; have R16 : Hid (ReadsT W16 v16 cL) := own_readsT o16; have Z16 : Hid (Below W15.heap.size W15 W16) := k16; clear o16 k16)
              have ZF : Hid (Below wr2x.heap.size wr2x W16) := below2 Z15.out Z16.out (Nat.le_refl _)
              have KW16 : Hid (Kp A W14 W16) := KF.out.trans (Kp.of_below ZF.out)
              have BW16 : Hid (Below W16.heap.size W16 W16) := Below.refl _ _
              have RB : Hid (∀ W', Below W16.heap.size W16 W' → W'.heap[w15.heap.size]? = some (.cells #[.int .i64 b1, .int .i64 b2, .int .i64 b3, .int .i64 b4, .int .i64 b5, .slice va15 vl15 vc15, .slice ha15 hl15 hc15] 25 (0, 0)) ∧ ReadsI W' (.slice va15 vl15 vc15) bxs ∧ ReadsT W' (.slice ha15 hl15 hc15) bhs ∧ ReadsT W' v16 cL ∧ W'.ownsRow W2.heap.size 9 1 (.slice ha3 ph hc3) ph (List.replicate ph (Value.string ⟨#[49]⟩)) ∧ W'.ownsRow W7.heap.size 9 1 (.slice la8 pl lc8) pl (List.replicate pl (Value.string ⟨#[50]⟩))) := fun W' h => by
                have b15 : Below W15.heap.size W15 W' := below2 Z16.out h (Nat.le_refl _)
                exact ⟨(b15.block _ (Array.getElem?_eq_some_iff.1 HB15.out).1).trans HB15.out, R15b.out.1.later b15, R15b.out.2.later b15, R16.out.later h, own_later (own_later RH.out ZF.out) h, own_later (own_later RL.out ZF.out) h⟩
              clear Z15 Z16 HB15 R15b R16 RH RL
              obtain ⟨s0, s1, s2, s3, s4, s5, s6⟩ := seven ((GO.out W16 KW16.out).2.2.1.1)
              obtain ⟨t0, t1, t2, t3, t4, t5, t6⟩ := seven ((GO.out W16 KW16.out).2.2.2.2.2.1.1)
              go_upto_region 40 with (first
                | (go_at_call 14; (with_reducible refine (C513.out _ KW16.out).mono ?_); rintro _ x11 ⟨rfl, k⟩; have Bx11 : Hid (Below W16.heap.size W16 x11) := below2 BW16.out k (Nat.le_refl _); have Kx11 : Hid (Kp A W14 x11) := KW16.out.trans (Kp.of_below k); clear k s0 s1 s2 s3 s4 s5 s6 t0 t1 t2 t3 t4 t5 t6; obtain ⟨s0, s1, s2, s3, s4, s5, s6⟩ := seven ((GO.out x11 Kx11.out).2.2.2.1.1); obtain ⟨t0, t1, t2, t3, t4, t5, t6⟩ := seven ((GO.out x11 Kx11.out).2.2.2.2.2.1.1))
                | (go_at_call 14; (with_reducible refine (C613.out _ Kx11.out).mono ?_); rintro _ x12 ⟨rfl, k⟩; have Bx12 : Hid (Below W16.heap.size W16 x12) := below2 Bx11.out k (Nat.le_refl _); have Kx12 : Hid (Kp A W14 x12) := Kx11.out.trans (Kp.of_below k); clear k s0 s1 s2 s3 s4 s5 s6 t0 t1 t2 t3 t4 t5 t6; obtain ⟨s0, s1, s2, s3, s4, s5, s6⟩ := seven ((GO.out x12 Kx12.out).2.2.2.2.1.1); obtain ⟨t0, t1, t2, t3, t4, t5, t6⟩ := seven ((GO.out x12 Kx12.out).1.1))
                | (go_at_call 14; (with_reducible refine (C71.out _ Kx12.out).mono ?_); rintro _ x13 ⟨rfl, k⟩; have Bx13 : Hid (Below W16.heap.size W16 x13) := below2 Bx12.out k (Nat.le_refl _); have Kx13 : Hid (Kp A W14 x13) := Kx12.out.trans (Kp.of_below k); clear k s0 s1 s2 s3 s4 s5 s6 t0 t1 t2 t3 t4 t5 t6)
                | (go_at_call 20; (with_reducible refine (M1014.out _ Kx13.out).mono ?_); rintro _ x14 ⟨rfl, mm, k⟩; have kb := below_of_dN k; have Bx14 : Hid (Below W16.heap.size W16 x14) := below2 Bx13.out kb (Nat.le_refl _); have Kx14 : Hid (Kp A W14 x14) := Kx13.out.trans (Kp.of_below kb); clear k kb)
                | (go_at_call 20; (with_reducible refine (M1114.out _ Kx14.out).mono ?_); rintro _ x15 ⟨rfl, mm, k⟩; have kb := below_of_dN k; have Bx15 : Hid (Below W16.heap.size W16 x15) := below2 Bx14.out kb (Nat.le_refl _); have Kx15 : Hid (Kp A W14 x15) := Kx14.out.trans (Kp.of_below kb); clear k kb)
                | (go_at_call 20; (with_reducible refine (M122.out _ Kx15.out).mono ?_); rintro _ x16 ⟨rfl, mm, k⟩; have kb := below_of_dN k; have Bx16 : Hid (Below W16.heap.size W16 x16) := below2 Bx15.out kb (Nat.le_refl _); have Kx16 : Hid (Kp A W14 x16) := Kx15.out.trans (Kp.of_below kb); clear k kb))
              have FC1 : Hid (∀ W', Below W16.heap.size W16 W' → Calls _ _ _ (W' : World) _) := fun W' h => fullC W2.heap.size ph (.slice ha3 ph hc3) ⟨#[49]⟩ W' (RB.out W' h).2.2.2.2.1 (by omega)
              have FC2 : Hid (∀ W', Below W16.heap.size W16 W' → Calls _ _ _ (W' : World) _) := fun W' h => fullC W7.heap.size pl (.slice la8 pl lc8) ⟨#[50]⟩ W' (RB.out W' h).2.2.2.2.2 (by omega)
              have C151 : Hid (∀ W' : World, Below W16.heap.size W16 W' → Kp A W14 W' → Calls _ _ _ W' _) := fun W' h k => alikeG b1 b2 b3 b4 b5 b1 b2 b3 b4 b5 va15 va1 ha15 ha1 vl15 vc15 vl1 vc1 hl15 hc15 hl1 hc1 bxs bxs bhs bhs W' (RB.out W' h).2.1 ((GO.out W' k).1.2.1) (RB.out W' h).2.2.1 ((GO.out W' k).1.2.2) (by omega) (by omega)
              rw [show decide (b1 = b1 ∧ b2 = b2 ∧ b3 = b3 ∧ b4 = b4 ∧ b5 = b5 ∧ bxs = bxs ∧ bhs = bhs) = true by simp] at C151
              have M162 : Hid (∀ W' : World, Below W16.heap.size W16 W' → Kp A W14 W' → Calls _ _ _ W' _) := fun W' h k => same_yes v16 v2 cL W' (RB.out W' h).2.2.2.1 ((GO.out W' k).2.2.2.2.2.2.1) (by omega)
              obtain ⟨s0, s1, s2, s3, s4, s5, s6⟩ := seven ((GO.out x16 Kx16.out).2.2.2.2.2.2.2.2.2.2.2.2)
              have gn : (602 : Int) ≤ (ph : Int) + 301 + ((pl : Int) + 301) := by omega
              have gn2 : decide ((602 : Int) ≤ (ph : Int) + 301 + ((pl : Int) + 301)) = true := decide_eq_true gn
              clear C513 C613 C71 M1014 M1114 M122 UPb ULc
              go_wp2_with (first
                | (go_at_call 23; (with_reducible refine (FC1.out _ Bx16.out).mono ?_); rintro _ x17 ⟨rfl, mm, k⟩; have kb := below_of_dN k; have Bx17 : Hid (Below W16.heap.size W16 x17) := below2 Bx16.out kb (Nat.le_refl _); have Kx17 : Hid (Kp A W14 x17) := Kx16.out.trans (Kp.of_below kb); clear k kb)
                | (go_at_call 23; (with_reducible refine (FC2.out _ Bx17.out).mono ?_); rintro _ x18 ⟨rfl, mm, k⟩; have kb := below_of_dN k; have Bx18 : Hid (Below W16.heap.size W16 x18) := below2 Bx17.out kb (Nat.le_refl _); have Kx18 : Hid (Kp A W14 x18) := Kx17.out.trans (Kp.of_below kb); clear k kb; obtain ⟨t0, t1, t2, t3, t4, t5, t6⟩ := seven ((GO.out x18 Kx18.out).2.1.1); obtain ⟨r0, r1, r2, r3, r4, r5, r6⟩ := seven ((GO.out x18 Kx18.out).1.1))
                | (go_at_call 14; (with_reducible refine (C41.out _ Kx18.out).mono ?_); rintro _ x19 ⟨rfl, k⟩; have Bx19 : Hid (Below W16.heap.size W16 x19) := below2 Bx18.out k (Nat.le_refl _); have Kx19 : Hid (Kp A W14 x19) := Kx18.out.trans (Kp.of_below k); clear k s0 s1 s2 s3 s4 s5 s6 t0 t1 t2 t3 t4 t5 t6 r0 r1 r2 r3 r4 r5 r6)
                | (go_at_call 20; (with_reducible refine (M92.out _ Kx19.out).mono ?_); rintro _ x20 ⟨rfl, mm, k⟩; have kb := below_of_dN k; have Bx20 : Hid (Below W16.heap.size W16 x20) := below2 Bx19.out kb (Nat.le_refl _); have Kx20 : Hid (Kp A W14 x20) := Kx19.out.trans (Kp.of_below kb); clear k kb; obtain ⟨t0, t1, t2, t3, t4, t5, t6⟩ := seven (RB.out x20 Bx20.out).1; obtain ⟨r0, r1, r2, r3, r4, r5, r6⟩ := seven ((GO.out x20 Kx20.out).1.1))
                | (go_at_call 14; (with_reducible refine (C151.out _ Bx20.out Kx20.out).mono ?_); rintro _ x21 ⟨rfl, k⟩; have Bx21 : Hid (Below W16.heap.size W16 x21) := below2 Bx20.out k (Nat.le_refl _); have Kx21 : Hid (Kp A W14 x21) := Kx20.out.trans (Kp.of_below k); clear k t0 t1 t2 t3 t4 t5 t6 r0 r1 r2 r3 r4 r5 r6)
                | (go_at_call 20; (with_reducible refine (M162.out _ Bx21.out Kx21.out).mono ?_); rintro _ x22 ⟨rfl, mm, k⟩; have kb := below_of_dN k; have Bx22 : Hid (Below W16.heap.size W16 x22) := below2 Bx21.out kb (Nat.le_refl _); have Kx22 : Hid (Kp A W14 x22) := Kx21.out.trans (Kp.of_below kb); clear k kb))
              go_ret
              exact ⟨rfl, BW.out.trans (Kx22.out.below ALO.out BW.out.size)⟩
end Go.Proofs.Ythpfgdhmpeadeaa.w6
