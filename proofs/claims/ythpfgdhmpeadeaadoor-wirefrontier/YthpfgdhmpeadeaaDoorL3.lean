import Derived.Test.YthpfgdhmpeadeaaDoorJ1
import Derived.Test.YthpfgdhmpeadeaaDoorKL
import Derived.Test.YthpfgdhmpeadeaaDoorK5
import Derived.Test.YthpfgdhmpeadeaaDoorJ5
import Derived.Test.YthpfgdhmpeadeaaDoorG6
import Derived.Test.YthpfgdhmpeadeaaDoorG5
import Derived.Test.YthpfgdhmpeadeaaDoorL1
import Derived.Test.YthpfgdhmpeadeaaDoorL2
import Derived.Test.YthpfgdhmpeadeaaDoorK6
import Derived.Deep.RegionHeldLaw
import Derived.Deep.DeepCutAuto
import Derived.Laws.Strings2
namespace Go.Proofs.YthpfgdhmpeadeaaDoor.wl
open Go.RowKit Go.PlainAid
open Go.Proofs.YthpfgdhmpeadeaaDoor.ca Go.Proofs.YthpfgdhmpeadeaaDoor.cb Go.Proofs.YthpfgdhmpeadeaaDoor.cp Go.Proofs.YthpfgdhmpeadeaaDoor.ga Go.Proofs.YthpfgdhmpeadeaaDoor.kp Go.Proofs.YthpfgdhmpeadeaaDoor.ea Go.Proofs.YthpfgdhmpeadeaaDoor.eb Go.Proofs.YthpfgdhmpeadeaaDoor.ec Go.Proofs.YthpfgdhmpeadeaaDoor.ee Go.Proofs.YthpfgdhmpeadeaaDoor.eg Go.Proofs.YthpfgdhmpeadeaaDoor.ei Go.Proofs.YthpfgdhmpeadeaaDoor.ka Go.Proofs.YthpfgdhmpeadeaaDoor.bn Go.Proofs.YthpfgdhmpeadeaaDoor.fd Go.Proofs.YthpfgdhmpeadeaaDoor.fe Go.Proofs.YthpfgdhmpeadeaaDoor.lg
set_option linter.unusedVariables false

theorem keptC (B g cp : Nat) (v : Value) (xs : List ByteArray) (w : World) (hT : Tw w B g xs.length cp xs) (hR : ReadsT w v xs) (hz : xs.length ≤ 140737488351232) :
    Calls Tryd.prog 10 #[.slice (some ⟨g, 0, none⟩) (xs.length + 1) cp, v] w fun e w' => e = .returned (.bool true) ∧ ∃ m, w' = w.drewN m := by
  obtain ⟨t1, t2, t3⟩ := hT.cell rfl
  have SC : Hid (Calls _ _ _ _ _) := same_yes (.slice (some ⟨g, 0, none⟩) xs.length cp) v xs w (hT.reads rfl) hR (by omega)
  obtain ⟨a, cap, rfl, hcap, hh⟩ := hR
  obtain ⟨n, HN⟩ : ∃ n, Hid (xs.length = n) := ⟨_, rfl⟩
  rw [HN.out] at t2 t3 SC hz hcap ⊢
  have hcp : (n : Int) ≤ cp := by omega
  have hcp0 : (n : Int) < (n : Int) + 1 := by omega
  have e1 : ((n + 1 : Nat) : Int) = (n : Int) + 1 := by omega
  have e2 : ((n : Int) + 1 == (n : Int) + 1) = true := beq_self_eq_true _
  clear t1 hh hT
  go_enter Tryd.func10, Tryd.ntmps10
  go_wp2_with (go_at_call 13; refine SC.out.mono ?_; rintro _ w1 ⟨rfl, m1, hm1⟩; have D1 : Hid (w1 = w.drewN m1) := hm1; clear hm1)
  go_ret
  exact ⟨rfl, m1, D1.out⟩
end Go.Proofs.YthpfgdhmpeadeaaDoor.wl

namespace Go.Proofs.YthpfgdhmpeadeaaDoor.e12
open Go.RowKit Go.PlainAid
open Go.Proofs.YthpfgdhmpeadeaaDoor.ca Go.Proofs.YthpfgdhmpeadeaaDoor.cb Go.Proofs.YthpfgdhmpeadeaaDoor.cp Go.Proofs.YthpfgdhmpeadeaaDoor.ga Go.Proofs.YthpfgdhmpeadeaaDoor.na Go.Proofs.YthpfgdhmpeadeaaDoor.nb Go.Proofs.YthpfgdhmpeadeaaDoor.nc Go.Proofs.YthpfgdhmpeadeaaDoor.nh Go.Proofs.YthpfgdhmpeadeaaDoor.ea Go.Proofs.YthpfgdhmpeadeaaDoor.eb Go.Proofs.YthpfgdhmpeadeaaDoor.ed Go.Proofs.YthpfgdhmpeadeaaDoor.co Go.Proofs.YthpfgdhmpeadeaaDoor.ka Go.Proofs.YthpfgdhmpeadeaaDoor.kp Go.Proofs.YthpfgdhmpeadeaaDoor.mi Go.Proofs.YthpfgdhmpeadeaaDoor.ec Go.Proofs.YthpfgdhmpeadeaaDoor.ee Go.Proofs.YthpfgdhmpeadeaaDoor.ef Go.Proofs.YthpfgdhmpeadeaaDoor.eg Go.Proofs.YthpfgdhmpeadeaaDoor.eh Go.Proofs.YthpfgdhmpeadeaaDoor.ei Go.Proofs.YthpfgdhmpeadeaaDoor.eo Go.Proofs.YthpfgdhmpeadeaaDoor.ep Go.Proofs.YthpfgdhmpeadeaaDoor.eq Go.Proofs.YthpfgdhmpeadeaaDoor.er Go.Proofs.YthpfgdhmpeadeaaDoor.es Go.Proofs.YthpfgdhmpeadeaaDoor.lg Go.Proofs.YthpfgdhmpeadeaaDoor.bn Go.Proofs.YthpfgdhmpeadeaaDoor.lh Go.Proofs.YthpfgdhmpeadeaaDoor.e1 Go.Proofs.YthpfgdhmpeadeaaDoor.e2 Go.Proofs.YthpfgdhmpeadeaaDoor.e6 Go.Proofs.YthpfgdhmpeadeaaDoor.e7
set_option linter.unusedVariables false

theorem wpList_append_twoI {ops : Array Oper} {rest : List Oper} {o : Oper} {a : Act} {Q : Exit → Act → World → Prop} (w : World) (hgd : o.guard = none) (s x : Operand)
    (ho : o.op = .call { callee := .builtin .append, args := #[s, x], argTypes := #[47, 47] })
    (B : Nat) (v : Value) (n : Nat) (xs : List Value) (hs : a.eval s = v) (hown : w.ownsRow B 3 1 v n xs) (ad : Addr) (c : Int) (hx : a.eval x = .slice (some ad) 1 1)
    (hnews : ∀ (j : Nat) (u : Value), [Value.int .i64 c][j]? = some u → w.cell? (ad.add j) = some u) (hn : n ≤ 1000000) (hB : B ≤ w.heap.size)
    (h : ∀ v' w', w'.ownsRow B 3 1 v' (n + 1) (xs ++ [Value.int .i64 c]) → ((∃ g cap, v = .slice (some ⟨g, 0, none⟩) n cap ∧ v' = .slice (some ⟨g, 0, none⟩) (n + 1) cap ∧ w.grownBy w' (some g)) ∨ (w.grownBy w' none ∧ ∀ j, v'.ownBlock = some j → w.heap.size ≤ j)) → wpList Tryd.prog ops Q rest (a.put o.dst v') w') :
    wpList Tryd.prog ops Q (o :: rest) a w := by
  obtain ⟨i9, hi, hz0, hz1, hz2⟩ := lg.info_parts ti.hiE
  have h1c : ∀ u ∈ [Value.int .i64 c], u.oneCell' = true := fun u hu => by simp only [List.mem_cons, List.not_mem_nil, or_false] at hu; subst hu; rfl
  have hmx : n + 1 ≤ maxLen := by unfold maxLen; omega
  rcases hown.2 with ⟨e, h0⟩ | ⟨g, cap, cur, e, hg, hh, hc, hcm, hcs, ht⟩
  · subst e h0
    have hx0 : xs = [] := List.length_eq_zero_iff.1 (by have := hown.1; omega)
    subst hx0
    refine wpList_append_own w hgd s x 47 ho w.heap.size 3 i9 (.int .i64 0) 1 8 Tryd.underlying47 hi hz0 hz1 hz2 rfl (by decide) (.slice none 0 0) 0 [] hs (World.ownsRow_nil _ _ _ _) ad 1 1 [.int .i64 c] hx rfl hnews h1c (by omega) (by omega) (Nat.le_refl _) ?_
    intro v' w' ho' hg' _
    exact h v' w' (own_base ho' hB) (.inr ⟨hg', fun j hj => (ho'.lt j hj).1⟩)
  · subst e
    by_cases hr : n + 1 ≤ cap
    · refine wpList_append_own_spare w hgd s x 47 ho B 3 i9 1 Tryd.underlying47 hi hz1 g n cap xs hs hown ad 1 1 [.int .i64 c] hx rfl hnews h1c hr ?_
      intro w' ho' hg'
      exact h _ w' ho' (.inl ⟨g, cap, rfl, rfl, hg'⟩)
    · refine wpList_append_arg w hgd s x 47 ho 3 i9 (.int .i64 0) 1 8 Tryd.underlying47 hi hz0 hz1 hz2 rfl (by decide) g 0 n cap xs hs hown.1 ?_ ad 1 1 [.int .i64 c] hx rfl hnews h1c (fun hr' => absurd hr' hr) hmx (by omega) (fun hr' => absurd hr' hr) ?_
      · intro j u hj
        have hjl : j < n * 1 := by have := (List.getElem?_eq_some_iff.1 hj).1; have := hown.1; omega
        rw [Nat.zero_add, hown.cellAt j hjl, hj]
      · intro _ v' w' ho' hg'
        exact h v' w' (own_base ho' hB) (.inr ⟨hg', fun j hj => (ho'.lt j hj).1⟩)

theorem mark_nextI (xs : List Int) (c : Int) (k : Nat) (hk : k < xs.length) : (List.replicate k c ++ xs.drop k).set k c = List.replicate (k + 1) c ++ xs.drop (k + 1) := by
  rw [List.set_append_right _ _ (by rw [List.length_replicate]; omega), List.length_replicate, Nat.sub_self, List.drop_eq_getElem_cons hk, List.set_cons_zero, List.replicate_succ', List.append_assoc]
  rfl
-- a list of numbers grown into another one
structure GiI (w : World) (B : Nat) (v : Value) (n : Nat) (ys : List Value) (c : Int) (k : Nat) (vm : Value) (wr : World) : Prop where
  own : wr.ownsRow B 3 1 vm (n + k) (ys ++ List.replicate k (Value.int .i64 c))
  old : wr.ownsRow B 3 1 v n ys
  kp : Kp (fun j => v.ownBlock = some j) w wr
  at_ : ∀ j, vm.ownBlock = some j → w.heap.size ≤ j ∨ ∃ cap, v = .slice (some ⟨j, 0, none⟩) n cap ∧ vm = .slice (some ⟨j, 0, none⟩) (n + k) cap
theorem GiI.start {w : World} {B : Nat} {v : Value} {n : Nat} {ys : List Value} (c : Int) (h : w.ownsRow B 3 1 v n ys) : GiI w B v n ys c 0 v w := by
  refine ⟨by simpa using h, h, Kp.refl _ _, fun j hj => ?_⟩
  rcases h.2 with ⟨rfl, _⟩ | ⟨g, cap, cur, rfl, _⟩
  · cases hj
  · injection hj with e
    subst e
    exact .inr ⟨cap, rfl, rfl⟩
theorem GiI.step {w : World} {B : Nat} {v : Value} {n : Nat} {ys : List Value} {c : Int} {k : Nat} {vm : Value} {wr : World} (hv : w.ownsRow B 3 1 v n ys) (h : GiI w B v n ys c k vm wr) (ob : Obj) (v' : Value) (w' : World)
    (ho : w'.ownsRow B 3 1 v' (n + k + 1) ((ys ++ List.replicate k (Value.int .i64 c)) ++ [Value.int .i64 c]))
    (hc : (∃ g cap, vm = .slice (some ⟨g, 0, none⟩) (n + k) cap ∧ v' = .slice (some ⟨g, 0, none⟩) (n + k + 1) cap ∧ (wr.alloc ob).grownBy w' (some g)) ∨ ((wr.alloc ob).grownBy w' none ∧ ∀ j, v'.ownBlock = some j → (wr.alloc ob).heap.size ≤ j)) :
    GiI w B v n ys c (k + 1) v' w' := by
  have hrep : (ys ++ List.replicate k (Value.int .i64 c)) ++ [Value.int .i64 c] = ys ++ List.replicate (k + 1) (Value.int .i64 c) := by rw [List.append_assoc, ← List.replicate_succ']
  rw [hrep] at ho
  have hyl : ys.length = n := by have := hv.1; omega
  have hka : Kp (fun j => v.ownBlock = some j) w (wr.alloc ob) := h.kp.trans (Kp.of_below ((Below.refl _ _).alloc (Nat.le_refl _) ob))
  have hold : (wr.alloc ob).ownsRow B 3 1 v n ys := h.old.alloc ob
  rcases hc with ⟨g, cap, rfl, rfl, hg⟩ | ⟨hg, hj⟩
  · have hat := h.at_ g rfl
    refine ⟨ho, ?_, ⟨hg.os.trans hka.os, hg.tape.trans hka.tape, hg.output.trans hka.output, Nat.le_trans hka.size hg.size, fun j hj hn => ?_⟩, fun j hj => ?_⟩
    · rcases hat with hge | ⟨cap', rfl, e⟩
      · exact own_not hold (kp_grown hg) (fun j hj he => by
          injection he with he
          have := (hv.lt j hj).2
          omega)
      · injection e with _ _ e3
        subst e3
        exact own_take ho hyl
    · have hne : some j ≠ some g := fun e => by
        injection e with e
        subst e
        rcases hat with hge | ⟨cap', rfl, e⟩
        · omega
        · exact hn rfl
      exact (hg.block j (Nat.lt_of_lt_of_le hj hka.size) hne).trans (hka.block j hj hn)
    · injection hj with hj
      subst hj
      rcases hat with hge | ⟨cap', e1, e⟩
      · exact .inl hge
      · injection e with _ _ e3
        subst e3
        exact .inr ⟨cap, e1, rfl⟩
  · refine ⟨ho, own_not hold (kp_grown hg) (fun j _ he => by cases he), hka.trans (kp_grown hg |>.mono (fun j e => by cases e)), fun j h5 => .inl (Nat.le_trans hka.size (hj j h5))⟩
theorem up_len' (b : ByteArray) : (upR b).at'.length ≤ 1024 ∧ (upR b).hs.length ≤ 70000 := by
  by_cases h : pE b = 0
  · obtain ⟨v, e⟩ := proof_only b h
    have hu : upR b = ⟨(pK b).1, (pW b).1, (pSh b).a, (pSh b).b, (pSh b).n, (pSh b).at', (pHs b).1⟩ := by unfold upR; rw [if_pos h]
    rw [hu]
    have hln : (pHs b).1.length ≤ 70000 := by rw [v.ln]; exact num_le v.rf
    refine ⟨?_, hln⟩
    obtain ⟨k1, k2, hn, _, _, hx⟩ := ref_bounds v.rf
    by_cases k4 : (pK b).1 = 4
    · exact (hx k4).1
    · have hb := v.br
      unfold bareP at hb
      rw [if_neg k4] at hb
      show (pSh b).at'.length ≤ 1024
      split at hb
      · rw [hb]; simp
      · rw [hb.2]; simp
  · have hu : upR b = ⟨0, 0, 0, 0, 0, [], []⟩ := by unfold upR; rw [if_neg h]
    rw [hu]
    exact ⟨by simp, by simp⟩
theorem ul_len' (b : ByteArray) : (unLeavesL b).length ≤ 1024 := by
  unfold unLeavesL
  split
  · rename_i h; exact (unLeaves_only b h).2.1
  · simp

theorem own_lenS {w : World} {B t s n l c : Nat} {a : Option Addr} {xs : List Value} (h : w.ownsRow B t s (.slice a l c) n xs) : n = l := by
  rcases h.2 with ⟨e, h0⟩ | ⟨g, cap, cur, e, _⟩
  · rw [h0]; exact ((Value.slice.inj e).2.1).symm
  · exact ((Value.slice.inj e).2.1).symm
theorem own_apart {w : World} {B t s n B' t' s' n' : Nat} {v v' : Value} {xs xs' : List Value} (h : w.ownsRow B t s v n xs) (h' : w.ownsRow B' t' s' v' n' xs') (ht : t ≠ t') : ∀ j, v.ownBlock = some j → ¬ v'.ownBlock = some j := fun j hj hj' => by
  rcases h'.2 with ⟨rfl, _⟩ | ⟨g, cap, cur, rfl, hg, hh, _⟩
  · cases hj'
  · injection hj' with e
    subst e
    exact own_ne h hh ht hj.symm
-- what stays while none of its blocks changes
def St (lo hi : Nat) (P : World → Prop) (w : World) : Prop := ∀ (A : Nat → Prop) (W' : World), (∀ j, A j → ¬ (lo ≤ j ∧ j < hi)) → Kp A w W' → P W'
theorem St.later {lo hi : Nat} {P : World → Prop} {w w' : World} (h : St lo hi P w) (b : Below w.heap.size w w') : St lo hi P w' := fun A W' hA k => h A W' hA ((Kp.of_below b).trans k)
def Px (bx : Nat) (k wd a b n : Int) (xs : List Int) (hs : List ByteArray) (v h : Value) (W : World) : Prop :=
  W.heap[bx]? = some (.cells #[.int .i64 k, .int .i64 wd, .int .i64 a, .int .i64 b, .int .i64 n, v, h] 49 (0, 0)) ∧ ReadsI W v xs ∧ ReadsT W h hs
theorem st_proof {w0 w1 W2 : World} {k wd a b n : Int} {xs : List Int} {hs : List ByteArray} {v h : Value} (o : w1.ownsRow w0.heap.size 3 1 v xs.length (xs.map (Value.int .i64))) (p : w1.ownsRow w0.heap.size 9 1 h hs.length (hs.map Value.string)) (B : Below w0.heap.size w0 w1) (hW : W2 = w1.alloc (.cells #[.int .i64 k, .int .i64 wd, .int .i64 a, .int .i64 b, .int .i64 n, v, h] 49)) : St w0.heap.size W2.heap.size (Px w1.heap.size k wd a b n xs hs v h) W2 := by
  intro A W' hA K
  subst hW
  have hsz : (w1.alloc (.cells #[.int .i64 k, .int .i64 wd, .int .i64 a, .int .i64 b, .int .i64 n, v, h] 49)).heap.size = w1.heap.size + 1 := by simp
  have b1 := B.size
  have al : Below w1.heap.size w1 (w1.alloc (.cells #[.int .i64 k, .int .i64 wd, .int .i64 a, .int .i64 b, .int .i64 n, v, h] 49)) := (Below.refl _ _).alloc (Nat.le_refl _) _
  rw [hsz] at hA
  refine ⟨(K.block _ (by omega) (fun a => hA _ a ⟨by omega, by omega⟩)).trans (heap_alloc_new w1 _), own_readsI (own_not (own_later o al) K (fun j hj a => hA j a ⟨(o.lt j hj).1, ?_⟩)), own_readsT (own_not (own_later p al) K (fun j hj a => hA j a ⟨(p.lt j hj).1, ?_⟩))⟩
  · have := (o.lt j hj).2; omega
  · have := (p.lt j hj).2; omega
theorem st_list {w0 w1 : World} {v : Value} {L : List ByteArray} (o : w1.ownsRow w0.heap.size 9 1 v L.length (L.map Value.string)) : St w0.heap.size w1.heap.size (fun W => ReadsT W v L) w1 :=
  fun A W' hA K => own_readsT (own_not o K (fun j hj a => hA j a (o.lt j hj)))
end Go.Proofs.YthpfgdhmpeadeaaDoor.e12

namespace Go.Proofs.YthpfgdhmpeadeaaDoor.w7
open Go.RowKit Go.PlainAid Go.Shelf
open Go.Proofs.YthpfgdhmpeadeaaDoor.ca Go.Proofs.YthpfgdhmpeadeaaDoor.cb Go.Proofs.YthpfgdhmpeadeaaDoor.cp Go.Proofs.YthpfgdhmpeadeaaDoor.cs Go.Proofs.YthpfgdhmpeadeaaDoor.xc Go.Proofs.YthpfgdhmpeadeaaDoor.cv Go.Proofs.YthpfgdhmpeadeaaDoor.ga Go.Proofs.YthpfgdhmpeadeaaDoor.kp Go.Proofs.YthpfgdhmpeadeaaDoor.mi Go.Proofs.YthpfgdhmpeadeaaDoor.co Go.Proofs.YthpfgdhmpeadeaaDoor.na Go.Proofs.YthpfgdhmpeadeaaDoor.nb Go.Proofs.YthpfgdhmpeadeaaDoor.nc Go.Proofs.YthpfgdhmpeadeaaDoor.nh Go.Proofs.YthpfgdhmpeadeaaDoor.ea Go.Proofs.YthpfgdhmpeadeaaDoor.eb Go.Proofs.YthpfgdhmpeadeaaDoor.ec Go.Proofs.YthpfgdhmpeadeaaDoor.ed Go.Proofs.YthpfgdhmpeadeaaDoor.ee Go.Proofs.YthpfgdhmpeadeaaDoor.ef Go.Proofs.YthpfgdhmpeadeaaDoor.eg Go.Proofs.YthpfgdhmpeadeaaDoor.eh Go.Proofs.YthpfgdhmpeadeaaDoor.ej Go.Proofs.YthpfgdhmpeadeaaDoor.ek Go.Proofs.YthpfgdhmpeadeaaDoor.eo Go.Proofs.YthpfgdhmpeadeaaDoor.eq Go.Proofs.YthpfgdhmpeadeaaDoor.er Go.Proofs.YthpfgdhmpeadeaaDoor.es Go.Proofs.YthpfgdhmpeadeaaDoor.ka Go.Proofs.YthpfgdhmpeadeaaDoor.bn Go.Proofs.YthpfgdhmpeadeaaDoor.lg Go.Proofs.YthpfgdhmpeadeaaDoor.lh Go.Proofs.YthpfgdhmpeadeaaDoor.wl Go.Proofs.YthpfgdhmpeadeaaDoor.e1 Go.Proofs.YthpfgdhmpeadeaaDoor.e4 Go.Proofs.YthpfgdhmpeadeaaDoor.e6 Go.Proofs.YthpfgdhmpeadeaaDoor.e7 Go.Proofs.YthpfgdhmpeadeaaDoor.e11 Go.Proofs.YthpfgdhmpeadeaaDoor.e12 Go.Proofs.YthpfgdhmpeadeaaDoor.f10 Go.Proofs.YthpfgdhmpeadeaaDoor.f11
set_option linter.unusedVariables false
theorem uf_in' (b : ByteArray) : i64 (ufR b).lo ∧ i64 (ufR b).hi ∧ (ufR b).hs.length ≤ 122 := by
  have hMX : MX = 4611686018427387904 := rfl
  unfold ufR
  split
  · have h1 := (fL_ok b).2
    have h2 := (fH_ok b).2
    have h3 := (fS_ok b).2
    exact ⟨⟨by show _ ≤ (fL b).1; omega, by show (fL b).1 ≤ _; omega⟩, ⟨by show _ ≤ (fH b).1; omega, by show (fH b).1 ≤ _; omega⟩, h3⟩
  · exact ⟨⟨by decide, by decide⟩, ⟨by decide, by decide⟩, by simp⟩
theorem tw_set {w : World} {B g n cp : Nat} {xs : List ByteArray} (h : Tw w B g n cp xs) (hn : xs.length = n) (k : Nat) (hk : k < n) (x : ByteArray) : Tw (w.setCell ⟨g, k, none⟩ (.string x)) B g n cp (xs.set k x) := by
  obtain ⟨h1, h2⟩ := World.ownsRow.stored h k (.string x)
  unfold Tw
  rw [List.set_append_left _ _ (by rw [List.length_map]; omega)] at h1
  rw [List.map_set]
  exact h1
theorem tw_frozen {w : World} {B g n cp : Nat} {xs : List ByteArray} (h : Tw w B g n cp xs) (k : Nat) : w.frozen? ⟨g, k, none⟩ = false := World.ownsRow.frozenAt h k
theorem tw_base {w : World} {B g n cp : Nat} {xs : List ByteArray} (h : Tw w B g n cp xs) : B ≤ g ∧ g < w.heap.size := World.ownsRow.lt h g rfl
theorem below_of_dN' {w w' : World} {m : Nat} (h : w' = w.drewN m) : Below w.heap.size w w' := by rw [h]; exact below_dN (Below.refl _ _) _
theorem frontV_form (wd lo hi : Int) (xs : List ByteArray) : ∃ s e, frontV wd lo hi xs = .tuple #[.string s, .int .i64 e] ∧ s.size ≤ 140737488355328 := by
  unfold frontV
  refine ⟨_, _, rfl, ?_⟩
  split
  · rename_i h
    unfold frontE at h
    by_cases hk : covE lo hi = 0
    · rw [if_pos hk] at h
      by_cases hq : xs.length = (covI lo hi).length
      · rw [if_pos hq] at h
        by_cases hal : allW (widI wd) xs = true
        · have hwi := widI_in wd
          have hcl := covI_len lo hi
          have hcat := cat_le (widI wd) xs hal hwi.2 (by omega)
          obtain ⟨o1, o2, o3⟩ := covE_zero.1 hk
          have hns := nums_size [lo, hi] (fun x hx => by
            rcases List.mem_cons.1 hx with rfl | hx
            · omega
            · rw [List.mem_singleton] at hx; subst hx; omega) (by simp)
          unfold frontT
          rw [ByteArray.size_append, ByteArray.size_append, ByteArray.size_append, str_size]
          have e1 : (⟨#[70]⟩ : ByteArray).size = 1 := rfl
          have e2 : (⟨(cat xs).toArray⟩ : ByteArray).size = (cat xs).length := by show (cat xs).toArray.size = _; rw [List.size_toArray]
          simp only [List.length_singleton]
          omega
        · rw [if_neg hal] at h; exact absurd h (by decide)
      · rw [if_neg hq] at h; exact absurd h (by decide)
    · rw [if_neg hk] at h; exact absurd h hk
  · exact Nat.zero_le _
theorem own_low {w w' : World} {B g n cp : Nat} {xs : List ByteArray} (h : Tw w B g n cp xs) (k : Below w.heap.size w w') : Tw w' B g n cp xs := h.later k
def Fx (bx : Nat) (lo hi : Int) (hs : List ByteArray) (v : Value) (W : World) : Prop :=
  W.heap[bx]? = some (.cells #[.int .i64 lo, .int .i64 hi, v] 24 (0, 0)) ∧ ReadsT W v hs
theorem st_front {w0 w1 W2 : World} {lo hi : Int} {hs : List ByteArray} {v : Value} (p : w1.ownsRow w0.heap.size 9 1 v hs.length (hs.map Value.string)) (B : Below w0.heap.size w0 w1) (hW : W2 = w1.alloc (.cells #[.int .i64 lo, .int .i64 hi, v] 24)) : St w0.heap.size W2.heap.size (Fx w1.heap.size lo hi hs v) W2 := by
  intro A W' hA K
  subst hW
  have hsz : (w1.alloc (.cells #[.int .i64 lo, .int .i64 hi, v] 24)).heap.size = w1.heap.size + 1 := by simp
  have b1 := B.size
  have al : Below w1.heap.size w1 (w1.alloc (.cells #[.int .i64 lo, .int .i64 hi, v] 24)) := (Below.refl _ _).alloc (Nat.le_refl _) _
  rw [hsz] at hA
  refine ⟨(K.block _ (by omega) (fun a => hA _ a ⟨by omega, by omega⟩)).trans (heap_alloc_new w1 _), own_readsT (own_not (own_later p al) K (fun j hj a => hA j a ⟨(p.lt j hj).1, ?_⟩))⟩
  have := (p.lt j hj).2; omega
set_option maxRecDepth 100000 in
set_option maxHeartbeats 12800000 in
theorem front_walk {w : World} (wd : Int) (hwd : (Lit.int .i64 wd).wf = true) (lo : Int) (hlo : (Lit.int .i64 lo).wf = true) (hi : Int) (hhi : (Lit.int .i64 hi).wf = true) (v : Value) (xs : List ByteArray) (hr : ReadsT w v xs) (hno : ∀ k c, v = .slice none k c → c = 0) (hs : ∀ x ∈ xs, x.size ≤ 140737488351232) (hz : xs.length * 16 ≤ 140737488351232) (b : ByteArray) (hb : b.size ≤ 140737488351232) (hTB : TabB w) :
    Calls Tryd.prog 3 #[.int .i64 wd, .agg #[.int .i64 lo, .int .i64 hi, v], .string b] w fun e w' => e = .returned (.bool true) ∧ Below w.heap.size w w' := by
  have jlo := i64_of hlo
  have jhi := i64_of hhi
  clear hwd hlo hhi
  obtain ⟨ha, hc, hv, hcap, hcc⟩ := id hr
  subst hv
  clear hcc
  have HR : Hid (ReadsT w (.slice ha xs.length hc) xs) := hr
  have HS : Hid (∀ x ∈ xs, x.size ≤ 140737488351232) := hs
  have hn : xs.length ≤ 140737488351232 := by omega
  have TB : Hid (∀ W, Below w.heap.size w W → TabB W) := fun W h => TabB.later hTB h
  obtain ⟨W1, HW1⟩ : ∃ W, Hid (W = w.alloc (.cells #[.int .i64 lo, .int .i64 hi, .slice ha xs.length hc] 24)) := ⟨_, rfl⟩
  have BW1 : Hid (Below w.heap.size w W1) := by rw [HW1.out]; exact (Below.refl _ _).alloc (Nat.le_refl _) _
  have HW1s : Hid (w.heap.size ≤ W1.heap.size) := BW1.out.size
  have HF1 : Hid (W1.heap[w.heap.size]? = some (.cells #[.int .i64 lo, .int .i64 hi, .slice ha xs.length hc] 24 (0, 0))) := by rw [HW1.out]; exact heap_alloc_new w _
  have TC : Hid (Calls _ _ _ W1 _) := twinC (.slice ha xs.length hc) xs W1 (HR.out.later BW1.out) hno hz
  have LC : Hid (∀ g cp W ys, ys.length = xs.length → ReadsT W (.slice (some ⟨g, 0, none⟩) xs.length cp) ys → TabB W → Calls _ _ _ (W : World) _) := fun g cp W ys hl h tb => frontierC wd lo hi (some ⟨g, 0, none⟩) xs.length cp ys W jlo jhi h (by omega) tb
  have LD : Hid (∀ g cp W ys, ys.length = xs.length → ReadsT W (.slice (some ⟨g, 0, none⟩) xs.length cp) ys → Calls _ _ _ (W : World) _) := fun g cp W ys hl h => rFrontier wd lo hi (some ⟨g, 0, none⟩) xs.length cp ys W jlo jhi h (by omega)
  have LR : Hid (∀ W, ReadsT W (.slice ha xs.length hc) xs → Calls _ _ _ (W : World) _) := fun W h => rFrontier wd lo hi ha xs.length hc xs W jlo jhi h (by omega)
  have KC : Hid (∀ g cp W, Tw W W1.heap.size g xs.length cp xs → ReadsT W (.slice ha xs.length hc) xs → Calls _ _ _ (W : World) _) := fun g cp W h1 h2 => keptC W1.heap.size g cp (.slice ha xs.length hc) xs W h1 h2 (by omega)
  obtain ⟨s1, e1, HV1, hs1⟩ := frontV_form wd lo hi xs
  have HV : Hid (frontV wd lo hi xs = .tuple #[.string s1, .int .i64 e1]) := HV1
  clear HV1
  have Ub : Hid (∀ W, TabB W → Calls _ _ _ (W : World) _) := fun W h => unFrontierC b W (by omega) h
  have Qb : Hid (∀ W, Calls _ _ _ (W : World) _) := fun W => rUnFrontier b W (by omega)
  have hub := (uf_in' b).2.2
  obtain ⟨blo, bhi, bwd, bhs, HRb⟩ : ∃ q1 q2 q3 q4, Hid (ufR b = ⟨q1, q2, q3, q4⟩) := ⟨_, _, _, _, rfl⟩
  obtain ⟨be, HEb⟩ : ∃ z, Hid (fE b = z) := ⟨_, rfl⟩
  rw [HRb.out, HEb.out] at Ub Qb
  rw [HRb.out] at hub
  have hlb : bhs.length ≤ 122 := hub
  obtain ⟨nb, HNb⟩ : ∃ n, Hid (bhs.length = n) := ⟨_, rfl⟩
  have hnb : nb ≤ 122 := by have := HNb.out; omega
  clear HRb HEb hub
  have Uc : Hid (∀ W, TabB W → Calls _ _ _ (W : World) _) := fun W h => unFrontierC s1 W hs1 h
  have Qc : Hid (∀ W, Calls _ _ _ (W : World) _) := fun W => rUnFrontier s1 W hs1
  have huc := (uf_in' s1).2.2
  obtain ⟨clo, chi, cwd, chs, HRc⟩ : ∃ q1 q2 q3 q4, Hid (ufR s1 = ⟨q1, q2, q3, q4⟩) := ⟨_, _, _, _, rfl⟩
  obtain ⟨ce, HEc⟩ : ∃ z, Hid (fE s1 = z) := ⟨_, rfl⟩
  rw [HRc.out, HEc.out] at Uc Qc
  rw [HRc.out] at huc
  have hlc : chs.length ≤ 122 := huc
  obtain ⟨nc, HNc⟩ : ∃ n, Hid (chs.length = n) := ⟨_, rfl⟩
  have hnc : nc ≤ 122 := by have := HNc.out; omega
  clear HRc HEc huc
  obtain ⟨n, HN⟩ : ∃ n, Hid (xs.length = n) := ⟨_, rfl⟩
  rw [HN.out] at TC HR LC LD LR KC hn hcap HW1 HF1 ⊢
  clear hr hs hz hno hTB
  have PB : Hid (∀ W, Below W1.heap.size W1 W → W.cell? ⟨w.heap.size, 0, none⟩ = some (.int .i64 lo) ∧ W.cell? ⟨w.heap.size, 1, none⟩ = some (.int .i64 hi) ∧ W.cell? ⟨w.heap.size, 2, none⟩ = some (.slice ha n hc)) := fun W h => three ((h.block _ (Array.getElem?_eq_some_iff.1 HF1.out).1).trans HF1.out)
  obtain ⟨d0, d1, d2⟩ := PB.out W1 (Below.refl _ _)
  go_enter Tryd.func3, Tryd.ntmps3
  go_upto_region 1 with fail
  rw [← HW1.out]
  clear HW1
  go_upto_region 2 with (go_at_call 6; refine TC.out.mono ?_; rintro _ w2 ⟨⟨g, cp, rfl, t1⟩, k1⟩; have T2 : Hid (Tw w2 W1.heap.size g n cp xs) := t1; have B2 : Hid (Below W1.heap.size W1 w2) := k1; have hcp := (Tw.cell T2.out HN.out).2.2; clear t1 k1)
  clear d0 d1 d2 TC
  have hcp1 : (n : Int) ≤ cp := by omega
  have BD : Hid (Below W1.heap.size W1 w2.drew) := below_dr B2.out
  have BA : Hid (∀ ob, Below W1.heap.size W1 ((w2.alloc ob).drew)) := fun ob => below_dr (B2.out.alloc B2.out.size _)
  have BS : Hid (∀ x0 x1 x2, Below W1.heap.size W1 ((((((w2.alloc (.cells #[.int .i64 0, .int .i64 0, .slice none 0 0] 24)).drew).setCell ⟨w2.heap.size, 0, none⟩ x0).setCell ⟨w2.heap.size, 1, none⟩ x1).setCell ⟨w2.heap.size, 2, none⟩ x2))) := fun x0 x1 x2 => ((((BA.out _).setCell B2.out.size _).setCell B2.out.size _).setCell B2.out.size _)
  go_cut [8] (fun q wx => q = .pointer (some ⟨w2.heap.size, 0, none⟩) ∧ Hid (wx = (w2.alloc (.cells #[.int .i64 lo, .int .i64 hi, .slice (some ⟨g, 0, none⟩) n cp] 24)).drew))
  case first =>
    go_region_held_law (fun w' => w'.cell? ⟨w.heap.size, 0, none⟩ = some (.int .i64 lo) ∧ w'.cell? ⟨w.heap.size, 1, none⟩ = some (.int .i64 hi) ∧ w'.cell? ⟨w.heap.size, 2, none⟩ = some (.slice ha n hc)) (first | exact PB.out _ BD.out | exact PB.out _ (BA.out _) | exact PB.out _ (BS.out _ _ _)) (fail)
    all_goals (
      go_wp2_with fail
      go_meet
      exact ⟨rfl, rfl⟩)
  case rest =>
  obtain ⟨rfl, HWC⟩ := hcut
  have HG3 : Hid (wc.heap[w2.heap.size]? = some (.cells #[.int .i64 lo, .int .i64 hi, .slice (some ⟨g, 0, none⟩) n cp] 24 (0, 0))) := by rw [HWC.out]; exact heap_alloc_new w2 _
  have B23 : Hid (Below w2.heap.size w2 wc) := by rw [HWC.out]; exact below_dr ((Below.refl _ _).alloc (Nat.le_refl _) _)
  obtain ⟨W3, hW3⟩ : ∃ W, W = wc := ⟨_, rfl⟩
  subst hW3
  have B3 : Hid (Below W1.heap.size W1 W3) := below2 B2.out B23.out (Nat.le_refl _)
  have T3 : Hid (Tw W3 W1.heap.size g n cp xs) := T2.out.later B23.out
  have HGN : Hid (w2.heap.size ≠ g) := fun h => by have := (tw_base T2.out).2; omega
  have BW3 : Hid (Below w.heap.size w W3) := below2 BW1.out B3.out (Nat.le_refl _)
  clear HWC BD BA BS B23 T2
  obtain ⟨d0, d1, d2⟩ := three HG3.out
  go_upto_region 4 with (go_at_call 7; refine (LC.out g cp _ xs HN.out (T3.out.reads HN.out) (TB.out _ BW3.out)).mono ?_; rintro _ w4 ⟨rfl, k4⟩; have B34 : Hid (Below W3.heap.size W3 w4) := k4; rw [HV.out]; clear k4)
  have B4 : Hid (Below W1.heap.size W1 w4) := below2 B3.out B34.out (Nat.le_refl _)
  clear d0 d1 d2
  obtain ⟨d0, d1, d2⟩ := PB.out w4 B4.out
  go_upto_region 5 with (go_at_call 8; refine (LR.out _ (HR.out.later (below2 BW1.out B4.out (Nat.le_refl _)))).mono ?_; rintro _ w5 ⟨rfl, k5⟩; have B35 : Hid (Below W3.heap.size W3 w5) := below2 B34.out k5 (Nat.le_refl _); rw [HV.out]; clear k5)
  have B5 : Hid (Below W1.heap.size W1 w5) := below2 B3.out B35.out (Nat.le_refl _)
  clear d0 d1 d2
  obtain ⟨d0, d1, d2⟩ := PB.out w5 B5.out
  have g1 : (s1.toList != s1.toList) = false := by simp
  have g1b : (s1.toList == s1.toList) = true := by simp
  have g2 : (e1 != e1) = false := by simp
  go_upto_region 7 with (first
    | (go_at_call 9; refine (num _ _).mono ?_; rintro _ wz ⟨rfl, hz⟩; rw [hz]; clear hz)
    | (go_at_call 10; refine (KC.out g cp _ (T3.out.later B35.out) (HR.out.later (below2 BW1.out B5.out (Nat.le_refl _)))).mono ?_; rintro _ V0 ⟨rfl, mm, k6⟩; have B30 : Hid (Below W3.heap.size W3 V0) := below2 B35.out (below_of_dN' k6) (Nat.le_refl _); clear k6))
  clear d0 d1 d2 g1 g1b g2 KC LR B34 B35 B4 B5
  have T0 : Hid (Tw V0 W1.heap.size g n cp xs) := T3.out.later B30.out
  have G0 : Hid (V0.heap[w2.heap.size]? = some (.cells #[.int .i64 lo, .int .i64 hi, .slice (some ⟨g, 0, none⟩) n cp] 24 (0, 0))) := (B30.out.block _ (Array.getElem?_eq_some_iff.1 HG3.out).1).trans HG3.out
  have B10 : Hid (Below W1.heap.size W1 V0) := below2 B3.out B30.out (Nat.le_refl _)
  have F0 : Hid (V0.heap[w.heap.size]? = some (.cells #[.int .i64 lo, .int .i64 hi, .slice ha n hc] 24 (0, 0))) := (B10.out.block _ (Array.getElem?_eq_some_iff.1 HF1.out).1).trans HF1.out
  have BV0 : Hid (Below w.heap.size w V0) := below2 BW1.out B10.out (Nat.le_refl _)
  clear B30 HG3 HF1 T3 B3 B2 PB BW3 B10 BW1
  have BA0 : Hid (Below V0.heap.size V0 V0) := Below.refl _ _
  go_upto_region 8 with (go_at_call 11; refine (Ub.out _ (TB.out _ (below2 BV0.out BA0.out (Nat.le_refl _)))).mono ?_; rintro _ v1 ⟨⟨a1, l1, c1, rfl, o1⟩, k1⟩; have q1 : nb = l1 := HNb.out.symm.trans (own_lenS o1); subst q1; have O1 : Hid (v1.ownsRow V0.heap.size 9 1 (.slice a1 nb c1) bhs.length (bhs.map Value.string)) := o1; have K1 : Hid (Below V0.heap.size V0 v1) := k1; clear o1 k1)
  obtain ⟨V1, HV1⟩ : ∃ W, W = v1.alloc (.cells #[.int .i64 blo, .int .i64 bhi, .slice a1 nb c1] 24) := ⟨_, rfl⟩
  have S1 : Hid (St V0.heap.size V1.heap.size (Fx v1.heap.size blo bhi bhs (.slice a1 nb c1)) V1) := st_front O1.out K1.out HV1
  have Y1 : Hid (Below v1.heap.size v1 V1) := by rw [HV1]; exact (Below.refl _ _).alloc (Nat.le_refl _) _
  have Z1 : Hid (Below V0.heap.size V0 V1) := below2 K1.out Y1.out (Nat.le_refl _)
  have BA1 : Hid (Below V0.heap.size V0 V1) := below2 BA0.out Z1.out (Nat.le_refl _)
  have SZ1 : Hid (V1.heap.size = v1.heap.size + 1) := by rw [HV1]; show _ = _; simp
  have HB1 : Hid (V1.heap[v1.heap.size]? = some (.cells #[.int .i64 blo, .int .i64 bhi, .slice a1 nb c1] 24 (0, 0))) := by rw [HV1]; exact heap_alloc_new v1 _
  have SB1 : Hid (V0.heap.size ≤ v1.heap.size) := K1.out.size
  have OX1 : Hid (V1.ownsRow V0.heap.size 9 1 (.slice a1 nb c1) nb (bhs.map Value.string) ∧ ∀ j, (Value.slice a1 nb c1).ownBlock = some j → V0.heap.size ≤ j ∧ j < v1.heap.size) := ⟨by have h := own_later O1.out Y1.out; rw [HNb.out] at h; exact h, fun j hj => O1.out.lt j hj⟩
  rw [← HV1]
  clear HV1 O1 K1 Y1
  go_upto_region 9 with (go_at_call 11; refine (Ub.out _ (TB.out _ (below2 BV0.out BA1.out (Nat.le_refl _)))).mono ?_; rintro _ v2 ⟨⟨a2, l2, c2, rfl, o2⟩, k2⟩; have q2 : nb = l2 := HNb.out.symm.trans (own_lenS o2); subst q2; have O2 : Hid (v2.ownsRow V1.heap.size 9 1 (.slice a2 nb c2) bhs.length (bhs.map Value.string)) := o2; have K2 : Hid (Below V1.heap.size V1 v2) := k2; clear o2 k2)
  obtain ⟨V2, HV2⟩ : ∃ W, W = v2.alloc (.cells #[.int .i64 blo, .int .i64 bhi, .slice a2 nb c2] 24) := ⟨_, rfl⟩
  have S2 : Hid (St V1.heap.size V2.heap.size (Fx v2.heap.size blo bhi bhs (.slice a2 nb c2)) V2) := st_front O2.out K2.out HV2
  have Y2 : Hid (Below v2.heap.size v2 V2) := by rw [HV2]; exact (Below.refl _ _).alloc (Nat.le_refl _) _
  have Z2 : Hid (Below V1.heap.size V1 V2) := below2 K2.out Y2.out (Nat.le_refl _)
  have BA2 : Hid (Below V0.heap.size V0 V2) := below2 BA1.out Z2.out (Nat.le_refl _)
  rw [← HV2]
  clear HV2 O2 K2 Y2
  go_upto_region 10 with (go_at_call 11; refine (Uc.out _ (TB.out _ (below2 BV0.out BA2.out (Nat.le_refl _)))).mono ?_; rintro _ v3 ⟨⟨a3, l3, c3, rfl, o3⟩, k3⟩; have q3 : nc = l3 := HNc.out.symm.trans (own_lenS o3); subst q3; have O3 : Hid (v3.ownsRow V2.heap.size 9 1 (.slice a3 nc c3) chs.length (chs.map Value.string)) := o3; have K3 : Hid (Below V2.heap.size V2 v3) := k3; clear o3 k3)
  obtain ⟨V3, HV3⟩ : ∃ W, W = v3.alloc (.cells #[.int .i64 clo, .int .i64 chi, .slice a3 nc c3] 24) := ⟨_, rfl⟩
  have S3 : Hid (St V2.heap.size V3.heap.size (Fx v3.heap.size clo chi chs (.slice a3 nc c3)) V3) := st_front O3.out K3.out HV3
  have Y3 : Hid (Below v3.heap.size v3 V3) := by rw [HV3]; exact (Below.refl _ _).alloc (Nat.le_refl _) _
  have Z3 : Hid (Below V2.heap.size V2 V3) := below2 K3.out Y3.out (Nat.le_refl _)
  have BA3 : Hid (Below V0.heap.size V0 V3) := below2 BA2.out Z3.out (Nat.le_refl _)
  have SZ3 : Hid (V3.heap.size = v3.heap.size + 1) := by rw [HV3]; show _ = _; simp
  have HB3 : Hid (V3.heap[v3.heap.size]? = some (.cells #[.int .i64 clo, .int .i64 chi, .slice a3 nc c3] 24 (0, 0))) := by rw [HV3]; exact heap_alloc_new v3 _
  have SB3 : Hid (V2.heap.size ≤ v3.heap.size) := K3.out.size
  have OX3 : Hid (V3.ownsRow V2.heap.size 9 1 (.slice a3 nc c3) nc (chs.map Value.string) ∧ ∀ j, (Value.slice a3 nc c3).ownBlock = some j → V2.heap.size ≤ j ∧ j < v3.heap.size) := ⟨by have h := own_later O3.out Y3.out; rw [HNc.out] at h; exact h, fun j hj => O3.out.lt j hj⟩
  rw [← HV3]
  clear HV3 O3 K3 Y3
  go_upto_region 11 with (go_at_call 11; refine (Uc.out _ (TB.out _ (below2 BV0.out BA3.out (Nat.le_refl _)))).mono ?_; rintro _ v4 ⟨⟨a4, l4, c4, rfl, o4⟩, k4⟩; have q4 : nc = l4 := HNc.out.symm.trans (own_lenS o4); subst q4; have O4 : Hid (v4.ownsRow V3.heap.size 9 1 (.slice a4 nc c4) chs.length (chs.map Value.string)) := o4; have K4 : Hid (Below V3.heap.size V3 v4) := k4; clear o4 k4)
  obtain ⟨V4, HV4⟩ : ∃ W, W = v4.alloc (.cells #[.int .i64 clo, .int .i64 chi, .slice a4 nc c4] 24) := ⟨_, rfl⟩
  have S4 : Hid (St V3.heap.size V4.heap.size (Fx v4.heap.size clo chi chs (.slice a4 nc c4)) V4) := st_front O4.out K4.out HV4
  have Y4 : Hid (Below v4.heap.size v4 V4) := by rw [HV4]; exact (Below.refl _ _).alloc (Nat.le_refl _) _
  have Z4 : Hid (Below V3.heap.size V3 V4) := below2 K4.out Y4.out (Nat.le_refl _)
  have BA4 : Hid (Below V0.heap.size V0 V4) := below2 BA3.out Z4.out (Nat.le_refl _)
  rw [← HV4]
  clear HV4 O4 K4 Y4
  go_upto_region 12 with (go_at_call 11; refine (Ub.out _ (TB.out _ (below2 BV0.out BA4.out (Nat.le_refl _)))).mono ?_; rintro _ v5 ⟨⟨a5, l5, c5, rfl, o5⟩, k5⟩; have q5 : nb = l5 := HNb.out.symm.trans (own_lenS o5); subst q5; have O5 : Hid (v5.ownsRow V4.heap.size 9 1 (.slice a5 nb c5) bhs.length (bhs.map Value.string)) := o5; have K5 : Hid (Below V4.heap.size V4 v5) := k5; clear o5 k5)
  obtain ⟨V5, HV5⟩ : ∃ W, W = v5.alloc (.cells #[.int .i64 blo, .int .i64 bhi, .slice a5 nb c5] 24) := ⟨_, rfl⟩
  have S5 : Hid (St V4.heap.size V5.heap.size (Fx v5.heap.size blo bhi bhs (.slice a5 nb c5)) V5) := st_front O5.out K5.out HV5
  have Y5 : Hid (Below v5.heap.size v5 V5) := by rw [HV5]; exact (Below.refl _ _).alloc (Nat.le_refl _) _
  have Z5 : Hid (Below V4.heap.size V4 V5) := below2 K5.out Y5.out (Nat.le_refl _)
  have BA5 : Hid (Below V0.heap.size V0 V5) := below2 BA4.out Z5.out (Nat.le_refl _)
  rw [← HV5]
  clear HV5 O5 K5 Y5
  go_upto_region 13 with (go_at_call 12; refine (Qb.out _).mono ?_; rintro _ v6 ⟨⟨a6, l6, c6, rfl, o6⟩, k6⟩; have q6 : nb = l6 := HNb.out.symm.trans (own_lenS o6); subst q6; have O6 : Hid (v6.ownsRow V5.heap.size 9 1 (.slice a6 nb c6) bhs.length (bhs.map Value.string)) := o6; have K6 : Hid (Below V5.heap.size V5 v6) := k6; clear o6 k6)
  obtain ⟨V6, HV6⟩ : ∃ W, W = v6.alloc (.cells #[.int .i64 blo, .int .i64 bhi, .slice a6 nb c6] 24) := ⟨_, rfl⟩
  have S6 : Hid (St V5.heap.size V6.heap.size (Fx v6.heap.size blo bhi bhs (.slice a6 nb c6)) V6) := st_front O6.out K6.out HV6
  have Y6 : Hid (Below v6.heap.size v6 V6) := by rw [HV6]; exact (Below.refl _ _).alloc (Nat.le_refl _) _
  have Z6 : Hid (Below V5.heap.size V5 V6) := below2 K6.out Y6.out (Nat.le_refl _)
  have BA6 : Hid (Below V0.heap.size V0 V6) := below2 BA5.out Z6.out (Nat.le_refl _)
  rw [← HV6]
  clear HV6 O6 K6 Y6
  go_upto_region 14 with (go_at_call 12; refine (Qc.out _).mono ?_; rintro _ v7 ⟨⟨a7, l7, c7, rfl, o7⟩, k7⟩; have q7 : nc = l7 := HNc.out.symm.trans (own_lenS o7); subst q7; have O7 : Hid (v7.ownsRow V6.heap.size 9 1 (.slice a7 nc c7) chs.length (chs.map Value.string)) := o7; have K7 : Hid (Below V6.heap.size V6 v7) := k7; clear o7 k7)
  obtain ⟨V7, HV7⟩ : ∃ W, W = v7.alloc (.cells #[.int .i64 clo, .int .i64 chi, .slice a7 nc c7] 24) := ⟨_, rfl⟩
  have S7 : Hid (St V6.heap.size V7.heap.size (Fx v7.heap.size clo chi chs (.slice a7 nc c7)) V7) := st_front O7.out K7.out HV7
  have Y7 : Hid (Below v7.heap.size v7 V7) := by rw [HV7]; exact (Below.refl _ _).alloc (Nat.le_refl _) _
  have Z7 : Hid (Below V6.heap.size V6 V7) := below2 K7.out Y7.out (Nat.le_refl _)
  have BA7 : Hid (Below V0.heap.size V0 V7) := below2 BA6.out Z7.out (Nat.le_refl _)
  rw [← HV7]
  clear HV7 O7 K7 Y7
  clear Ub Uc Qb Qc
  have T7 : Hid (Below V7.heap.size V7 V7) := Below.refl _ _
  have T6 : Hid (Below V6.heap.size V6 V7) := below2 Z7.out T7.out (Nat.le_refl _)
  have T5 : Hid (Below V5.heap.size V5 V7) := below2 Z6.out T6.out (Nat.le_refl _)
  have T4 : Hid (Below V4.heap.size V4 V7) := below2 Z5.out T5.out (Nat.le_refl _)
  have T3 : Hid (Below V3.heap.size V3 V7) := below2 Z4.out T4.out (Nat.le_refl _)
  have T2 : Hid (Below V2.heap.size V2 V7) := below2 Z3.out T3.out (Nat.le_refl _)
  have T1 : Hid (Below V1.heap.size V1 V7) := below2 Z2.out T2.out (Nat.le_refl _)
  obtain ⟨A, HA⟩ : ∃ A : Nat → Prop, Hid (∀ j, A j ↔ (V0.heap.size ≤ j ∧ j < v1.heap.size ∨ V2.heap.size ≤ j ∧ j < v3.heap.size)) := ⟨_, fun j => Iff.rfl⟩
  have LOW : Hid (∀ W, Kp A V7 W → Below V0.heap.size V0 W) := fun W k => BA7.out.trans (k.below (fun j a => by have h := (HA.out j).1 a; have := BA2.out.size; omega) BA7.out.size)
  have GO : Hid (∀ W, Kp A V7 W → Fx v2.heap.size blo bhi bhs (.slice a2 nb c2) W ∧ Fx v4.heap.size clo chi chs (.slice a4 nc c4) W ∧ Fx v5.heap.size blo bhi bhs (.slice a5 nb c5) W ∧ Fx v6.heap.size blo bhi bhs (.slice a6 nb c6) W ∧ Fx v7.heap.size clo chi chs (.slice a7 nc c7) W ∧ W.heap[v1.heap.size]? = some (.cells #[.int .i64 blo, .int .i64 bhi, .slice a1 nb c1] 24 (0, 0)) ∧ W.heap[v3.heap.size]? = some (.cells #[.int .i64 clo, .int .i64 chi, .slice a3 nc c3] 24 (0, 0))) := by
    have z1 := Z1.out.size
    have z2 := Z2.out.size
    have z3 := Z3.out.size
    have z4 := Z4.out.size
    have z5 := Z5.out.size
    have z6 := Z6.out.size
    have z7 := Z7.out.size
    have y1 := SZ1.out
    have x1 := SB1.out
    have y3 := SZ3.out
    have x3 := SB3.out
    intro W k
    have key : ∀ lo hi, (hi ≤ V0.heap.size ∨ v1.heap.size ≤ lo) → (hi ≤ V2.heap.size ∨ v3.heap.size ≤ lo) → ∀ j, A j → ¬ (lo ≤ j ∧ j < hi) := fun lo hi h1 h2 j a => by have := (HA.out j).1 a; omega
    refine ⟨(S2.out.later T2.out) A W (key _ _ (by omega) (by omega)) k, (S4.out.later T4.out) A W (key _ _ (by omega) (by omega)) k, (S5.out.later T5.out) A W (key _ _ (by omega) (by omega)) k, (S6.out.later T6.out) A W (key _ _ (by omega) (by omega)) k, (S7.out.later T7.out) A W (key _ _ (by omega) (by omega)) k, (k.block _ ?_ ?_).trans ((T1.out.block _ ?_).trans HB1.out), (k.block _ ?_ ?_).trans ((T3.out.block _ ?_).trans HB3.out)⟩
    · have := T1.out.size; omega
    · intro a; have := (HA.out _).1 a; omega
    · omega
    · have := T3.out.size; omega
    · intro a; have := (HA.out _).1 a; omega
    · omega
  have MA : Hid (∀ j, (Value.slice a1 nb c1).ownBlock = some j → A j) := fun j hj => (HA.out j).2 (.inl (OX1.out.2 j hj))
  have MU : Hid (∀ j, (Value.slice a3 nc c3).ownBlock = some j → A j) := fun j hj => (HA.out j).2 (.inr (OX3.out.2 j hj))
  have SEP : Hid (∀ j, (Value.slice a3 nc c3).ownBlock = some j → ¬ (Value.slice a1 nb c1).ownBlock = some j) := fun j h1 h2 => by
    have z1 := Z1.out.size
    have z2 := Z2.out.size
    have y1 := SZ1.out
    have := (OX3.out.2 j h1).1; have := (OX1.out.2 j h2).2; omega
  have SZ : Hid (V0.heap.size ≤ V7.heap.size ∧ V2.heap.size ≤ V7.heap.size) := ⟨BA7.out.size, T2.out.size⟩
  have ROW : Hid (V7.ownsRow V0.heap.size 9 1 (.slice a1 nb c1) nb (bhs.map Value.string) ∧ V7.ownsRow V2.heap.size 9 1 (.slice a3 nc c3) nc (chs.map Value.string)) := ⟨own_later OX1.out.1 T1.out, own_later OX3.out.1 T3.out⟩
  clear Z1 T1 S1 BA1 Z2 T2 S2 BA2 Z3 T3 S3 BA3 Z4 T4 S4 BA4 Z5 T5 S5 BA5 Z6 T6 S6 BA6 Z7 T7 S7 BA7 SZ1 SZ3 SB1 SB3 HB1 HB3 OX1 OX3 HA BA0
  have M16 : Hid (∀ W' : World, Below V7.heap.size V7 W' → Calls _ _ _ W' _) := fun W' h => same_yes (.slice a1 nb c1) (.slice a6 nb c6) bhs W' (own_readsT (own_later ROW.out.1 h)) (GO.out W' (Kp.of_below h)).2.2.2.1.2 (by omega)
  have M37 : Hid (∀ W' : World, Below V7.heap.size V7 W' → Calls _ _ _ W' _) := fun W' h => same_yes (.slice a3 nc c3) (.slice a7 nc c7) chs W' (own_readsT (own_later ROW.out.2 h)) (GO.out W' (Kp.of_below h)).2.2.2.2.1.2 (by omega)
  have M26 : Hid (∀ W' : World, Kp A V7 W' → Calls _ _ _ W' _) := fun W' k => same_yes (.slice a2 nb c2) (.slice a6 nb c6) bhs W' (GO.out W' k).1.2 (GO.out W' k).2.2.2.1.2 (by omega)
  have M56 : Hid (∀ W' : World, Kp A V7 W' → Calls _ _ _ W' _) := fun W' k => same_yes (.slice a5 nb c5) (.slice a6 nb c6) bhs W' (GO.out W' k).2.2.1.2 (GO.out W' k).2.2.2.1.2 (by omega)
  have M47 : Hid (∀ W' : World, Kp A V7 W' → Calls _ _ _ W' _) := fun W' k => same_yes (.slice a4 nc c4) (.slice a7 nc c7) chs W' (GO.out W' k).2.1.2 (GO.out W' k).2.2.2.2.1.2 (by omega)
  have KV7 : Hid (Kp A V7 V7) := Kp.refl _ _
  obtain ⟨s0, s1, s2⟩ := three ((GO.out V7 KV7.out).2.2.2.2.2.1)
  obtain ⟨t0, t1, t2⟩ := three ((GO.out V7 KV7.out).2.2.2.1.1)
  have g1 : (blo != blo) = false := by simp
  have g2 : (bhi != bhi) = false := by simp
  have g3 : (bwd != bwd) = false := by simp
  have g4 : (be != be) = false := by simp
  go_upto_region 16 with (first
    | (go_at_call 9; refine (num _ _).mono ?_; rintro _ wz ⟨rfl, hz⟩; rw [hz]; clear hz)
    | (go_at_call 13; (with_reducible refine (M16.out _ (Below.refl _ _)).mono ?_); rintro _ x1 ⟨rfl, mm, k⟩; have Bx1 : Hid (Below V7.heap.size V7 x1) := below_of_dN' k; have Kx1 : Hid (Kp A V7 x1) := Kp.of_below Bx1.out; clear k s0 s1 s2 t0 t1 t2; obtain ⟨s0, s1, s2⟩ := three ((GO.out x1 Kx1.out).2.2.2.2.2.2); obtain ⟨t0, t1, t2⟩ := three ((GO.out x1 Kx1.out).2.2.2.2.1.1))
    | (go_at_call 13; (with_reducible refine (M37.out _ Bx1.out).mono ?_); rintro _ x2 ⟨rfl, mm, k⟩; have Bx2 : Hid (Below V7.heap.size V7 x2) := below2 Bx1.out (below_of_dN' k) (Nat.le_refl _); have Kx2 : Hid (Kp A V7 x2) := Kp.of_below Bx2.out; clear k s0 s1 s2 t0 t1 t2; obtain ⟨s0, s1, s2⟩ := three ((GO.out x2 Kx2.out).2.2.2.2.2.1)))
  have ROW2 : Hid (x2.ownsRow V0.heap.size 9 1 (.slice a1 nb c1) nb (bhs.map Value.string) ∧ x2.ownsRow V2.heap.size 9 1 (.slice a3 nc c3) nc (chs.map Value.string)) := ⟨own_later ROW.out.1 Bx2.out, own_later ROW.out.2 Bx2.out⟩
  clear g1 g2 g3 g4 M16 M37 ROW Bx1 Kx1 Bx2 KV7
  have MC1 : Hid (Calls _ _ _ x2 _) := markC V0.heap.size (.slice a1 nb c1) bhs ⟨#[49]⟩ x2 (by rw [HNb.out]; exact ROW2.out.1) (by omega)
  rw [HNb.out] at MC1
  go_upto_region 17 with (go_at_call 14; refine MC1.out.mono ?_; rintro _ y1 ⟨rfl, oo, kk⟩; have ROW3 : Hid (y1.ownsRow V0.heap.size 9 1 (.slice a1 nb c1) nb (List.replicate nb (Value.string ⟨#[49]⟩)) ∧ y1.ownsRow V2.heap.size 9 1 (.slice a3 nc c3) nc (chs.map Value.string)) := ⟨oo, own_not ROW2.out.2 kk SEP.out⟩; have KY1 : Hid (Kp A V7 y1) := Kx2.out.trans (kk.mono MA.out); clear oo kk)
  clear MC1 ROW2 s0 s1 s2
  obtain ⟨s0, s1, s2⟩ := three ((GO.out y1 KY1.out).2.2.2.2.2.2)
  have MC2 : Hid (Calls _ _ _ y1 _) := markC V2.heap.size (.slice a3 nc c3) chs ⟨#[50]⟩ y1 (by rw [HNc.out]; exact ROW3.out.2) (by omega)
  rw [HNc.out] at MC2
  go_upto_region 18 with (go_at_call 14; refine MC2.out.mono ?_; rintro _ y2 ⟨rfl, oo, kk⟩; have ROW4 : Hid (y2.ownsRow V0.heap.size 9 1 (.slice a1 nb c1) nb (List.replicate nb (Value.string ⟨#[49]⟩)) ∧ y2.ownsRow V2.heap.size 9 1 (.slice a3 nc c3) nc (List.replicate nc (Value.string ⟨#[50]⟩))) := ⟨own_not ROW3.out.1 kk (fun j h1 h2 => SEP.out j h2 h1), oo⟩; have KY2 : Hid (Kp A V7 y2) := KY1.out.trans (kk.mono MU.out); clear oo kk)
  clear MC2 ROW3 s0 s1 s2
  have GC1 : Hid (Calls _ _ _ y2.drew _) := grownC V0.heap.size nb (.slice a1 nb c1) (List.replicate nb (Value.string ⟨#[49]⟩)) ⟨#[49]⟩ y2.drew ROW4.out.1 (by have := SZ.out.1; have := KY2.out.size; show _ ≤ y2.heap.size; omega) (by omega)
  have GC2 : Hid (∀ W, V2.heap.size ≤ W.heap.size → World.ownsRow W V2.heap.size 9 1 (.slice a3 nc c3) nc (List.replicate nc (Value.string ⟨#[50]⟩)) → Calls _ _ _ (W : World) _) := fun W h1 h2 => grownC V2.heap.size nc (.slice a3 nc c3) (List.replicate nc (Value.string ⟨#[50]⟩)) ⟨#[50]⟩ W h2 h1 (by omega)
  have KD2 : Hid (Kp A V7 y2.drew) := KY2.out.trans (Kp.of_below (below_dr (Below.refl _ _)))
  have HC : Hid (∀ W, Kp A V7 W → W.cell? ⟨v1.heap.size, 2, none⟩ = some (.slice a1 nb c1) ∧ W.cell? ⟨v3.heap.size, 2, none⟩ = some (.slice a3 nc c3)) := fun W k => ⟨(three (GO.out W k).2.2.2.2.2.1).2.2, (three (GO.out W k).2.2.2.2.2.2).2.2⟩
  go_region_held_law (fun w' => w'.cell? ⟨v1.heap.size, 2, none⟩ = some (.slice a1 nb c1) ∧ w'.cell? ⟨v3.heap.size, 2, none⟩ = some (.slice a3 nc c3)) (first | exact HC.out _ KD2.out | exact HC.out _ KY3.out | exact HC.out _ KY4.out) (first
    | (go_at_call 15; (with_reducible refine GC1.out.mono ?_); rintro _ y3 ⟨rfl, oo, kk⟩; have ROW5 : Hid (y3.ownsRow V0.heap.size 9 1 (.slice a1 nb c1) nb (List.replicate nb (Value.string ⟨#[49]⟩)) ∧ y3.ownsRow V2.heap.size 9 1 (.slice a3 nc c3) nc (List.replicate nc (Value.string ⟨#[50]⟩))) := ⟨oo, own_not (w := y2.drew) ROW4.out.2 kk SEP.out⟩; have KY3 : Hid (Kp A V7 y3) := KD2.out.trans (kk.mono MA.out); have GC3 : Hid (Calls _ _ _ y3 _) := GC2.out y3 (by have := SZ.out.2; have := KY3.out.size; omega) ROW5.out.2; clear oo kk)
    | (go_at_call 15; (with_reducible refine GC3.out.mono ?_); rintro _ y4 ⟨rfl, oo, kk⟩; have ROW6 : Hid (y4.ownsRow V0.heap.size 9 1 (.slice a1 nb c1) nb (List.replicate nb (Value.string ⟨#[49]⟩)) ∧ y4.ownsRow V2.heap.size 9 1 (.slice a3 nc c3) nc (List.replicate nc (Value.string ⟨#[50]⟩))) := ⟨own_not ROW5.out.1 kk (fun j h1 h2 => SEP.out j h2 h1), oo⟩; have KY4 : Hid (Kp A V7 y4) := KY3.out.trans (kk.mono MU.out); clear oo kk))
  clear GC1 GC2 GC3 ROW4 ROW5 KD2 KY1 KY2 KY3 MA MU SEP
  have RB : Hid (∀ W, Below y4.heap.size y4 W → Kp A V7 W ∧ W.ownsRow V0.heap.size 9 1 (.slice a1 nb c1) nb (List.replicate nb (Value.string ⟨#[49]⟩)) ∧ W.ownsRow V2.heap.size 9 1 (.slice a3 nc c3) nc (List.replicate nc (Value.string ⟨#[50]⟩))) := fun W h => ⟨KY4.out.trans (Kp.of_below h), own_later ROW6.out.1 h, own_later ROW6.out.2 h⟩
  have FC1 : Hid (∀ W', Below y4.heap.size y4 W' → Calls _ _ _ (W' : World) _) := fun W' h => fullC V0.heap.size nb (.slice a1 nb c1) ⟨#[49]⟩ W' (RB.out W' h).2.1 (by omega)
  have FC2 : Hid (∀ W', Below y4.heap.size y4 W' → Calls _ _ _ (W' : World) _) := fun W' h => fullC V2.heap.size nc (.slice a3 nc c3) ⟨#[50]⟩ W' (RB.out W' h).2.2 (by omega)
  have By4 : Hid (Below y4.heap.size y4 y4) := Below.refl _ _
  obtain ⟨s0, s1, s2⟩ := three ((GO.out y4 KY4.out).1.1)
  obtain ⟨t0, t1, t2⟩ := three ((GO.out y4 KY4.out).2.2.2.1.1)
  have g5 : ((nb : Int) + 301 + ((nc : Int) + 301) != (nb : Int) + (nc : Int) + 602) = false := by simp; omega
  go_upto_region 21 with (first
    | (go_at_call 13; (with_reducible refine (M26.out _ KY4.out).mono ?_); rintro _ x3 ⟨rfl, mm, k⟩; have Bx3 : Hid (Below y4.heap.size y4 x3) := below2 By4.out (below_of_dN' k) (Nat.le_refl _); have Kx3 : Hid (Kp A V7 x3) := (RB.out x3 Bx3.out).1; clear k s0 s1 s2 t0 t1 t2; obtain ⟨s0, s1, s2⟩ := three ((GO.out x3 Kx3.out).2.2.1.1); obtain ⟨t0, t1, t2⟩ := three ((GO.out x3 Kx3.out).2.2.2.1.1))
    | (go_at_call 13; (with_reducible refine (M56.out _ Kx3.out).mono ?_); rintro _ x4 ⟨rfl, mm, k⟩; have Bx4 : Hid (Below y4.heap.size y4 x4) := below2 Bx3.out (below_of_dN' k) (Nat.le_refl _); have Kx4 : Hid (Kp A V7 x4) := (RB.out x4 Bx4.out).1; clear k s0 s1 s2 t0 t1 t2; obtain ⟨s0, s1, s2⟩ := three ((GO.out x4 Kx4.out).2.1.1); obtain ⟨t0, t1, t2⟩ := three ((GO.out x4 Kx4.out).2.2.2.2.1.1))
    | (go_at_call 13; (with_reducible refine (M47.out _ Kx4.out).mono ?_); rintro _ x5 ⟨rfl, mm, k⟩; have Bx5 : Hid (Below y4.heap.size y4 x5) := below2 Bx4.out (below_of_dN' k) (Nat.le_refl _); have Kx5 : Hid (Kp A V7 x5) := (RB.out x5 Bx5.out).1; clear k s0 s1 s2 t0 t1 t2; obtain ⟨s0, s1, s2⟩ := three ((GO.out x5 Kx5.out).2.2.2.2.2.1))
    | (go_at_call 16; (with_reducible refine (FC1.out _ Bx5.out).mono ?_); rintro _ x6 ⟨rfl, mm, k⟩; have Bx6 : Hid (Below y4.heap.size y4 x6) := below2 Bx5.out (below_of_dN' k) (Nat.le_refl _); have Kx6 : Hid (Kp A V7 x6) := (RB.out x6 Bx6.out).1; clear k s0 s1 s2; obtain ⟨s0, s1, s2⟩ := three ((GO.out x6 Kx6.out).2.2.2.2.2.2))
    | (go_at_call 16; (with_reducible refine (FC2.out _ Bx6.out).mono ?_); rintro _ x7 ⟨rfl, mm, k⟩; have Bx7 : Hid (Below y4.heap.size y4 x7) := below2 Bx6.out (below_of_dN' k) (Nat.le_refl _); have Kx7 : Hid (Kp A V7 x7) := (RB.out x7 Bx7.out).1; clear k s0 s1 s2; obtain ⟨s0, s1, s2⟩ := three ((GO.out x7 Kx7.out).2.2.2.1.1); obtain ⟨t0, t1, t2⟩ := three ((GO.out x7 Kx7.out).2.2.2.2.1.1)))
  have B07 : Hid (Below V0.heap.size V0 x7) := LOW.out x7 Kx7.out
  have T8 : Hid (Tw x7 W1.heap.size g n cp xs) := own_low T0.out B07.out
  have BX7 : Hid (Below w.heap.size w x7) := below2 BV0.out B07.out (Nat.le_refl _)
  have HF7 : Hid (x7.heap[w.heap.size]? = some (.cells #[.int .i64 lo, .int .i64 hi, .slice ha n hc] 24 (0, 0))) := (B07.out.block _ (Array.getElem?_eq_some_iff.1 F0.out).1).trans F0.out
  have HG7 : Hid (x7.heap[w2.heap.size]? = some (.cells #[.int .i64 lo, .int .i64 hi, .slice (some ⟨g, 0, none⟩) n cp] 24 (0, 0))) := (B07.out.block _ (Array.getElem?_eq_some_iff.1 G0.out).1).trans G0.out
  clear s0 s1 s2 t0 t1 t2 g5 FC1 FC2 M26 M56 M47 RB LOW GO HC ROW6 SZ KY4 Kx2 Kx3 Kx4 Kx5 Kx6 Kx7 Bx3 Bx4 Bx5 Bx6 Bx7 By4 B07 T0 F0 G0 BV0
  obtain ⟨d0, d1, d2⟩ := three HF7.out
  by_cases h0 : n = 0
  · have h0' : ((n : Int) == 0) = true := by rw [beq_iff_eq]; omega
    clear h0
    go_wp2
    go_ret
    exact ⟨rfl, BX7.out⟩
  · have h0' : ((n : Int) == 0) = false := by rw [beq_eq_false_iff_ne]; omega
    have hn1 : (0 : Int) < (n : Int) + 1 := by omega
    obtain ⟨X, HX⟩ : ∃ X, Hid (xs.getD 0 ByteArray.empty = X) := ⟨_, rfl⟩
    have hX : X.size ≤ 140737488351232 := by
      have hml : 0 < xs.length := by rw [HN.out]; omega
      have h1 := HS.out xs[0] (List.getElem_mem hml)
      rw [← HX.out, List.getD_eq_getElem?_getD, List.getElem?_eq_getElem hml]
      exact h1
    obtain ⟨s2, e2, HV2, _⟩ := frontV_form wd lo hi (xs.set 0 (X ++ ⟨#[120]⟩))
    have HW : Hid (frontV wd lo hi (xs.set 0 (X ++ ⟨#[120]⟩)) = .tuple #[.string s2, .int .i64 e2]) := HV2
    clear HV2
    have g4 : (s2.toList == s2.toList) = true := beq_self_eq_true _
    have g5 : (e2 == e2) = true := beq_self_eq_true _
    have HN2 : Hid ((xs.set 0 (X ++ ⟨#[120]⟩)).length = n) := by show _ = _; rw [List.length_set, HN.out]
    have hn0 : 0 < n := by omega
    clear h0
    go_upto_region 23 with fail
    clear d0 d1 d2
    obtain ⟨d0, d1, d2⟩ := three HG7.out
    go_upto_region 24 with (go_at_call 7; refine (LC.out g cp _ xs HN.out (T8.out.reads HN.out) (TB.out _ BX7.out)).mono ?_; rintro _ w28 ⟨rfl, k8⟩; have T9 : Hid (Tw w28 W1.heap.size g n cp xs) := T8.out.later k8; have B8 : Hid (Below w.heap.size w w28) := below2 BX7.out k8 (Nat.le_refl _); have G8 : Hid (w28.heap[w2.heap.size]? = some (.cells #[.int .i64 lo, .int .i64 hi, .slice (some ⟨g, 0, none⟩) n cp] 24 (0, 0))) := (k8.block _ (Array.getElem?_eq_some_iff.1 HG7.out).1).trans HG7.out; rw [HV.out]; clear k8)
    clear d0 d1 d2
    have c8 : w28.cell? ⟨g, 0, none⟩ = some (.string X) := by rw [← HX.out]; exact (Tw.cell T9.out HN.out).1 0 hn0
    have f8 := tw_frozen T9.out 0
    have hsz : (X ++ (⟨#[120]⟩ : ByteArray)).size ≤ 140737488355328 := by rw [ByteArray.size_append]; have : (⟨#[120]⟩ : ByteArray).size = 1 := rfl; omega
    go_upto_region 25 with fail
    have T10 : Hid (Tw (w28.setCell ⟨g, 0, none⟩ (.string (X ++ ⟨#[120]⟩))) W1.heap.size g n cp (xs.set 0 (X ++ ⟨#[120]⟩))) := tw_set T9.out HN.out 0 hn0 _
    have B9 : Hid (Below w.heap.size w (w28.setCell ⟨g, 0, none⟩ (.string (X ++ ⟨#[120]⟩)))) := B8.out.setCell (p := ⟨g, 0, none⟩) (by have h1 := (tw_base T9.out).1; have h2 := HW1s.out; exact Nat.le_trans h2 h1) _
    have G9 : Hid ((w28.setCell ⟨g, 0, none⟩ (.string (X ++ ⟨#[120]⟩))).heap[w2.heap.size]? = some (.cells #[.int .i64 lo, .int .i64 hi, .slice (some ⟨g, 0, none⟩) n cp] 24 (0, 0))) := ((Kp.setCell (A := fun j => j = g) w28 g 0 _ rfl).block _ (Array.getElem?_eq_some_iff.1 G8.out).1 HGN.out).trans G8.out
    obtain ⟨w29, H9⟩ : ∃ w9, w9 = w28.setCell ⟨g, 0, none⟩ (.string (X ++ ⟨#[120]⟩)) := ⟨_, rfl⟩
    rw [← H9] at T10 B9 G9 ⊢
    clear H9 c8 f8 hsz
    obtain ⟨d0, d1, d2⟩ := three G9.out
    go_upto_region 26 with (go_at_call 7; refine (LC.out g cp _ _ HN2.out (T10.out.reads HN2.out) (TB.out _ B9.out)).mono ?_; rintro _ w30 ⟨rfl, k10⟩; have T11 : Hid (Tw w30 W1.heap.size g n cp _) := T10.out.later k10; have B10 : Hid (Below w.heap.size w w30) := below2 B9.out k10 (Nat.le_refl _); have G10 : Hid (w30.heap[w2.heap.size]? = some (.cells #[.int .i64 lo, .int .i64 hi, .slice (some ⟨g, 0, none⟩) n cp] 24 (0, 0))) := (k10.block _ (Array.getElem?_eq_some_iff.1 G9.out).1).trans G9.out; rw [HW.out]; clear k10)
    clear d0 d1 d2
    obtain ⟨d0, d1, d2⟩ := three G10.out
    go_wp2_with (first
      | (go_at_call 8; refine (LD.out g cp _ _ HN2.out (T11.out.reads HN2.out)).mono ?_; rintro _ w31 ⟨rfl, k11⟩; have B11 : Hid (Below w.heap.size w w31) := below2 B10.out k11 (Nat.le_refl _); rw [HW.out]; clear k11)
      | (go_at_call 9; refine (num _ _).mono ?_; rintro _ wz ⟨rfl, hz⟩; rw [hz]; clear hz))
    go_ret
    exact ⟨rfl, B11.out⟩
end Go.Proofs.YthpfgdhmpeadeaaDoor.w7
