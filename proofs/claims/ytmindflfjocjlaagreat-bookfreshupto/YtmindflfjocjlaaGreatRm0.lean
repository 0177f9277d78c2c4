import Derived.Test.YtmindflfjocjlaaGreatRj0
import Derived.Test.YtmindflfjocjlaaGreatRk0
import Derived.Test.YtmindflfjocjlaaGreatRl0
namespace Go.Proofs.YtmindflfjocjlaaGreat.fc
open Go.RowKit Go.PlainAid Go.Maps Go.Shelf
open Go.Proofs.YtmindflfjocjlaaGreat.kp Go.Proofs.YtmindflfjocjlaaGreat.ka Go.Proofs.YtmindflfjocjlaaGreat.ya Go.Proofs.YtmindflfjocjlaaGreat.yb Go.Proofs.YtmindflfjocjlaaGreat.yc Go.Proofs.YtmindflfjocjlaaGreat.yd Go.Proofs.YtmindflfjocjlaaGreat.ye Go.Proofs.YtmindflfjocjlaaGreat.yf Go.Proofs.YtmindflfjocjlaaGreat.ym
open Go.Proofs.YtmindflfjocjlaaGreat.tbd (numbersS numbersC nums_len keys_ok)
open Go.Proofs.YtmindflfjocjlaaGreat.tbe (ReadsN own_readsN sameIntsC)
open Go.Proofs.YtmindflfjocjlaaGreat.tqb (over)
open Go.Proofs.YtmindflfjocjlaaGreat.xc (Ds Rd Dt)
open Go.Proofs.YtmindflfjocjlaaGreat.jg (spacesS numbersR sps_len)
open Go.Proofs.YtmindflfjocjlaaGreat.jj Go.Proofs.YtmindflfjocjlaaGreat.jk Go.Proofs.YtmindflfjocjlaaGreat.jo
open Go.Proofs.YtmindflfjocjlaaGreat.fa Go.Proofs.YtmindflfjocjlaaGreat.fb
set_option linter.unusedVariables false
set_option linter.unusedSimpArgs false

section
variable {g bn bd g' : Nat} {s t : S} {w0 w w' : World}
theorem crashA (p : ByteArray) (h : Two g bn bd g' s t w0 w) (a1 : p.size ≤ 140737488355328) (a2 : s.age < 4398046511104) : Calls Tryz.prog 8 #[.pointer (some ⟨g, 0, none⟩), .string p] w fun e w' => e = .returned (.tuple #[]) ∧ Two g bn bd g' (crashS s p) t w0 w' := by
  obtain ⟨pv, h1, h2⟩ := h.fst
  exact (yn.crashC p h1 a1 a2).mono fun e w' ⟨q1, q2⟩ => ⟨q1, (h2 _ _ q2).1⟩
theorem crashB (p : ByteArray) (h : Two g bn bd g' s t w0 w) (a1 : p.size ≤ 140737488355328) (a2 : t.age < 4398046511104) : Calls Tryz.prog 9 #[.pointer (some ⟨g', 0, none⟩), .string p] w fun e w' => e = .returned (.tuple #[]) ∧ Two g bn bd g' s (crashS t p) w0 w' := by
  obtain ⟨dv, wv, vv, h1, h2⟩ := h.snd
  exact (xg.crashD p h1 (Nat.zero_le _) a1 a2).mono fun e w' ⟨q1, q2⟩ => ⟨q1, (h2 _ _ q2).1⟩
def Row (B : Nat) (X : World) (v : Value) (l : List Int) (e : Ending) : Prop := e = .returned v ∧ X.ownsRow B 3 1 v l.length (l.map (Value.int .i64))
theorem numA (sp k : Int) (h : Two g bn bd g' s t w0 w) (a1 : sp ≤ 9223372036854775807) : Calls Tryz.prog 12 #[.pointer (some ⟨g, 0, none⟩), .int .i64 sp, .int .i64 k] w fun e w' => ∃ v, Row w.heap.size w' v (numbersS s sp k) e ∧ Below w.heap.size w w' := by
  obtain ⟨pv, h1, h2⟩ := h.fst
  exact (numbersC sp k h1 a1).mono fun e w' ⟨v, q1, q2, q3⟩ => ⟨v, ⟨q1, q2⟩, q3⟩
theorem numB (sp k : Int) (h : Two g bn bd g' s t w0 w) (a1 : sp ≤ 9223372036854775807) : Calls Tryz.prog 10 #[.pointer (some ⟨g', 0, none⟩), .int .i64 sp, .int .i64 k] w fun e w' => ∃ v, Row w.heap.size w' v (numbersS t sp k) e ∧ Below w.heap.size w w' := by
  obtain ⟨dv, wv, vv, h1, h2⟩ := h.snd
  exact (numbersR sp k h1 a1).mono fun e w' ⟨v, q1, q2, q3⟩ => ⟨v, ⟨q1, q2⟩, q3⟩
theorem spaA (h : Two g bn bd g' s t w0 w) : Calls Tryz.prog 14 #[.pointer (some ⟨g, 0, none⟩)] w fun e w' => ∃ v, Row w.heap.size w' v (spacesS s) e ∧ Below w.heap.size w w' := by
  obtain ⟨pv, h1, h2⟩ := h.fst
  exact (jh.spacesC h1).mono fun e w' ⟨v, q1, q2, q3⟩ => ⟨v, ⟨q1, q2⟩, q3⟩
theorem spaB (h : Two g bn bd g' s t w0 w) : Calls Tryz.prog 11 #[.pointer (some ⟨g', 0, none⟩)] w fun e w' => ∃ v, Row w.heap.size w' v (spacesS t) e ∧ Below w.heap.size w w' := by
  obtain ⟨dv, wv, vv, h1, h2⟩ := h.snd
  exact (jh.spacesR h1).mono fun e w' ⟨v, q1, q2, q3⟩ => ⟨v, ⟨q1, q2⟩, q3⟩
theorem okA (h : Two g bn bd g' s t w0 w) : OkS s := by
  obtain ⟨pv, h1, h2⟩ := h.fst
  exact h1.ok
end
theorem num_small {s : S} (h : OkS s) (sp k : Int) : (numbersS s sp k).length ≤ 3518437208883 := by
  unfold numbersS
  split
  · have h1 := nums_len (keysS s (tqb.kindT sp k))
    have h2 := (keys_ok h (tqb.kindT sp k)).1
    omega
  · simp
theorem spa_small {s : S} (h : OkS s) : (spacesS s).length ≤ 3518437208883 := by
  unfold spacesS
  have h1 := sps_len (keysS s Go.Proofs.YtmindflfjocjlaaGreat.jg.mk)
  have h2 := (keys_ok h Go.Proofs.YtmindflfjocjlaaGreat.jg.mk).1
  omega
inductive SomeB (e : Ending) : Prop
  | mk (b : Bool) (h : e = .returned (.bool b))
set_option maxRecDepth 100000 in
set_option maxHeartbeats 3200000 in
theorem sameAny (v1 v2 : Value) (xs ys : List Int) (w : World) (h1 : ReadsN w v1 xs) (h2 : ReadsN w v2 ys) (hx : xs.length ≤ 140737488351232) (hy : ys.length ≤ 140737488351232) :
    Calls Tryz.prog 13 #[v1, v2] w fun e w' => SomeB e ∧ Below w.heap.size w w' := by
  by_cases he : xs.length = ys.length
  · obtain ⟨a1, c1, rfl, k1⟩ := h1
    obtain ⟨a2, c2, rfl, k2⟩ := h2
    rw [← he] at k2 hy ⊢
    have K1 : Hid _ := k1
    have K2 : Hid _ := k2
    obtain ⟨n, HN⟩ : ∃ n, Hid (xs.length = n) := ⟨_, rfl⟩
    rw [HN.out] at K1 K2 hx ⊢
    clear k1 k2 hy he
    go_enter Tryz.func13, Tryz.ntmps13
    go_wp2_with fail
    go_loopw [5] (fun iv wr => ∃ i : Nat, i ≤ n ∧ iv = .int .i64 i ∧ Hid (Below w.heap.size w wr)) (fun iv _ => (n - intOf iv).toNat)
    case atStart => exact ⟨0, by omega, rfl, Below.refl _ _⟩
    case round =>
      obtain ⟨i, hi, rfl, HB⟩ := hrel
      by_cases hlt : i < n
      · have g1 : (i : Int) < n := by omega
        rcases K1.out with h0 | ⟨b1, o1, rfl, k1⟩
        · omega
        rcases K2.out with h0 | ⟨b2, o2, rfl, k2⟩
        · omega
        have d1 := k1 i hlt
        have d2 := k2 i hlt
        have e1 : wr.cell? ⟨b1, o1 + i, none⟩ = some (.int .i64 (xs.getD i 0)) := (HB.out.cell (World.block_lt_of_cell? _ _ d1)).trans d1
        have e2 : wr.cell? ⟨b2, o2 + i, none⟩ = some (.int .i64 (ys.getD i 0)) := (HB.out.cell (World.block_lt_of_cell? _ _ d2)).trans d2
        generalize xs.getD i 0 = z at *
        generalize ys.getD i 0 = y at *
        clear k1 k2 d1 d2
        by_cases hz : z = y
        · subst hz
          go_upto_region 6 with fail
          go_region
          go_wp2
          go_roundw
          case rel => exact ⟨i + 1, by omega, by go_num, HB.out.drew⟩
          case measure => simp [intOf]; omega
        · have hzb : (z == y) = false := beq_eq_false_iff_ne.2 hz
          go_upto_region 6 with fail
          go_region
          all_goals (
            go_wp2
            go_ret
            exact ⟨⟨_, rfl⟩, HB.out.drew⟩)
      · have g1 : ¬ (i : Int) < n := by omega
        go_wp2
        go_ret
        exact ⟨⟨_, rfl⟩, HB.out⟩
  · obtain ⟨a1, c1, rfl, k1⟩ := h1
    obtain ⟨a2, c2, rfl, k2⟩ := h2
    generalize xs.length = n at *
    generalize ys.length = m at *
    have hne : ¬ (n : Int) = m := by omega
    have hnb : ((n : Int) == m) = false := beq_eq_false_iff_ne.2 hne
    have HB : Hid (Below w.heap.size w w) := Below.refl _ _
    clear k1 k2 he
    go_enter Tryz.func13, Tryz.ntmps13
    go_wp2_with fail
    go_ret
    exact ⟨⟨_, rfl⟩, HB.out⟩
-- two rows beside each other
structure Pr (w1 : World) (va vb : Value) (na nb : Nat) (ps qs : List Int) (X : World) : Prop where
  a : X.ownsRow w1.heap.size 3 1 va na (ps.map (Value.int .i64))
  b : X.ownsRow w1.heap.size 3 1 vb nb (qs.map (Value.int .i64))
  ap : ∀ j, va.ownBlock = some j → vb.ownBlock ≠ some j
  bl : Below w1.heap.size w1 X
theorem Pr.later {w1 X Y : World} {va vb : Value} {na nb : Nat} {ps qs : List Int} (h : Pr w1 va vb na nb ps qs X) (b : Below X.heap.size X Y) : Pr w1 va vb na nb ps qs Y := ⟨own_below h.a b, own_below h.b b, h.ap, h.bl.trans (b.mono h.bl.size)⟩
theorem Pr.setA {w1 X : World} {g cap na nb k : Nat} {vb : Value} {ps qs : List Int} (h : Pr w1 (.slice (some ⟨g, 0, none⟩) na cap) vb na nb ps qs X) (hk : k < na) (x : Int) : Pr w1 (.slice (some ⟨g, 0, none⟩) na cap) vb na nb (ps.set k x) qs (X.setCell ⟨g, k, none⟩ (.int .i64 x)) := by
  have hg : X.grownBy (X.setCell ⟨g, k, none⟩ (.int .i64 x)) (some g) := ⟨rfl, rfl, rfl, by simp [World.setCell], fun i _ hi => Below.heap_setCell _ _ _ _ (by intro e; exact hi (congrArg some (by first | exact e | exact e.symm)))⟩
  refine ⟨by rw [List.map_set]; exact own_put h.a hk _, h.b.kept hg ?_, h.ap, Below.setCell (p := ⟨g, k, none⟩) h.bl (h.a.lt g rfl).1 _⟩
  cases e : vb.ownBlock with
  | none => exact .inl rfl
  | some j => exact .inr (fun e2 => h.ap g rfl (by rw [e]; exact e2))
theorem Pr.setB {w1 X : World} {g cap na nb k : Nat} {va : Value} {ps qs : List Int} (h : Pr w1 va (.slice (some ⟨g, 0, none⟩) nb cap) na nb ps qs X) (hk : k < nb) (x : Int) : Pr w1 va (.slice (some ⟨g, 0, none⟩) nb cap) na nb ps (qs.set k x) (X.setCell ⟨g, k, none⟩ (.int .i64 x)) := by
  have hg : X.grownBy (X.setCell ⟨g, k, none⟩ (.int .i64 x)) (some g) := ⟨rfl, rfl, rfl, by simp [World.setCell], fun i _ hi => Below.heap_setCell _ _ _ _ (by intro e; exact hi (congrArg some (by first | exact e | exact e.symm)))⟩
  refine ⟨h.a.kept hg ?_, by rw [List.map_set]; exact own_put h.b hk _, h.ap, Below.setCell (p := ⟨g, k, none⟩) h.bl (h.b.lt g rfl).1 _⟩
  cases e : va.ownBlock with
  | none => exact .inl rfl
  | some j => exact .inr (fun e2 => h.ap j e (e2 ▸ rfl))
theorem row_at {w : World} {B n k : Nat} {a : Option Addr} {c : Nat} {l : List Int} (h : w.ownsRow B 3 1 (.slice a n c) n (l.map (Value.int .i64))) (hk : k < n) : ∃ g x, a = some ⟨g, 0, none⟩ ∧ w.cell? ⟨g, k, none⟩ = some (.int .i64 x) ∧ l[k]? = some x ∧ w.frozen? ⟨g, k, none⟩ = false := by
  have hn : l.length = n := by have := h.1; simpa using this
  rcases id h.2 with ⟨e, e0⟩ | ⟨g, cap, cur, e, _, h3, _⟩
  · omega
  · injection e with e1 _ e3
    subst e1 e3
    refine ⟨g, l[k]'(by omega), rfl, ?_, List.getElem?_eq_getElem _, frozen_of_row _ _ _ _ _ h3⟩
    rw [h.cellAt k (by omega), List.getElem?_map, List.getElem?_eq_getElem (by omega)]
    rfl
theorem row_form {w : World} {B n : Nat} {v : Value} {xs : List Value} (h : w.ownsRow B 3 1 v n xs) : ∃ a c, v = .slice a n c := by
  rcases own_shape h with ⟨h1, h2⟩ | ⟨g, c, h1, _⟩
  · exact ⟨none, 0, by rw [h1, h2]⟩
  · exact ⟨_, c, h1⟩
-- a row that is answered
def RowA (B : Nat) (X : World) (l : List Int) (n : Nat) (e : Ending) : Prop := ∃ a c, e = .returned (.slice a n c) ∧ X.ownsRow B 3 1 (.slice a n c) n (l.map (Value.int .i64))
theorem row_a {B : Nat} {X : World} {v : Value} {l : List Int} {n : Nat} {e : Ending} (h : Row B X v l e) (hn : l.length = n) : RowA B X l n e := by
  subst hn
  obtain ⟨rfl, h2⟩ := h
  obtain ⟨a, c, rfl⟩ := row_form h2
  exact ⟨a, c, rfl, h2⟩
def pk (Xs Os : List Int) (j : Nat) : List Int := if j = 2 ∨ j = 3 then Os else Xs
theorem pk_ext {xss : List (List Int)} {i : Nat} {f : Nat → List Int} (h : ∀ j, j < i → xss[j]? = some (f j)) (hl : xss.length = i) (x : List Int) (hx : x = f i) : ∀ j, j < i + 1 → (xss ++ [x])[j]? = some (f j) := by
  intro j hj
  by_cases hji : j < i
  · rw [List.getElem?_append_left (by omega)]
    exact h j hji
  · obtain rfl : j = i := by omega
    rw [List.getElem?_append_right (by omega), hl, Nat.sub_self, hx]
    rfl
theorem all_ext {xss : List (List Int)} {M : Nat} (h : ∀ xs ∈ xss, xs.length ≤ M) (x : List Int) (hx : x.length ≤ M) : ∀ xs ∈ xss ++ [x], xs.length ≤ M := by
  intro xs hxs
  rcases List.mem_append.1 hxs with h1 | h1
  · exact h xs h1
  · simp at h1
    rw [h1]
    exact hx
theorem new_3 (W : World) (a b c : Value) (t : TypeId) : ∀ (j : Nat) (u : Value), [a, b, c][j]? = some u → (W.alloc (.cells #[a, b, c] t)).cell? (Addr.add ⟨W.heap.size, 0, none⟩ j) = some u := by
  intro j y h
  have hb : (W.alloc (.cells #[a, b, c] t)).heap[W.heap.size]? = some (.cells #[a, b, c] t (0, 0)) := (Go.MapKept.heap_alloc W _).1
  have e : (Addr.add ⟨W.heap.size, 0, none⟩ j) = ⟨W.heap.size, j, none⟩ := by cases j <;> simp [Addr.add]
  rw [e, cell_of_row _ _ _ _ _ _ hb]
  simpa using h
theorem bel_alloc (w : World) (o : Obj) : Below w.heap.size w (w.alloc o) := (Below.refl _ _).alloc (Nat.le_refl _) _
theorem rep3 (n : Nat) (x : Int) : (List.replicate n x).map (Value.int .i64) ++ [.int .i64 x, .int .i64 x, .int .i64 x] = (List.replicate (n + 3) x).map (Value.int .i64) := by
  rw [List.map_replicate, List.map_replicate]
  exact List.replicate_append_replicate (n := n) (m := 3)
theorem own_none {w : World} {B n : Nat} {v : Value} {xs : List Value} (h : w.ownsRow B 3 1 v n xs) (e : v.ownBlock = none) : n = 0 := by
  rcases own_shape h with ⟨_, h0⟩ | ⟨g, c, rfl, _⟩
  · exact h0
  · cases e
theorem row_get {w : World} {B n k : Nat} {a : Option Addr} {c : Nat} {x : Int} (h : w.ownsRow B 3 1 (.slice a n c) n ((List.replicate n x).map (Value.int .i64))) (hk : k < n) : ∃ g, a = some ⟨g, 0, none⟩ ∧ w.cell? ⟨g, k, none⟩ = some (.int .i64 x) := by
  obtain ⟨g, y, e, h1, h2, _⟩ := row_at h hk
  rw [List.getElem?_replicate, if_pos hk] at h2
  obtain rfl := Option.some.inj h2
  exact ⟨g, e, h1⟩
theorem own_ne {w : World} {B n m : Nat} {v u : Value} {xs : List Value} (h : w.ownsRow B 3 1 v n xs) (ap : ∀ j, v.ownBlock = some j → u.ownBlock ≠ some j) : v.ownBlock = u.ownBlock → n ≤ m := by
  intro e
  cases hv : v.ownBlock with
  | none => have := own_none h hv; omega
  | some j => exact absurd (e.symm.trans hv) (ap j hv)
end Go.Proofs.YtmindflfjocjlaaGreat.fc

namespace Go.Proofs.YtmindflfjocjlaaGreat.fd
open Go.RowKit Go.PlainAid Go.Maps Go.Shelf
open Go.Proofs.YtmindflfjocjlaaGreat.kp Go.Proofs.YtmindflfjocjlaaGreat.ka Go.Proofs.YtmindflfjocjlaaGreat.ya Go.Proofs.YtmindflfjocjlaaGreat.yb Go.Proofs.YtmindflfjocjlaaGreat.yc Go.Proofs.YtmindflfjocjlaaGreat.yd Go.Proofs.YtmindflfjocjlaaGreat.ye Go.Proofs.YtmindflfjocjlaaGreat.yf Go.Proofs.YtmindflfjocjlaaGreat.ym
open Go.Proofs.YtmindflfjocjlaaGreat.tbd (numbersS numbersC nums_len keys_ok)
open Go.Proofs.YtmindflfjocjlaaGreat.tbe (ReadsN own_readsN sameIntsC)
open Go.Proofs.YtmindflfjocjlaaGreat.tqb (over)
open Go.Proofs.YtmindflfjocjlaaGreat.xc (Ds Rd Dt)
open Go.Proofs.YtmindflfjocjlaaGreat.jg (spacesS numbersR sps_len)
open Go.Proofs.YtmindflfjocjlaaGreat.jj Go.Proofs.YtmindflfjocjlaaGreat.jk Go.Proofs.YtmindflfjocjlaaGreat.jo
open Go.Proofs.YtmindflfjocjlaaGreat.fa Go.Proofs.YtmindflfjocjlaaGreat.fb Go.Proofs.YtmindflfjocjlaaGreat.fc
set_option linter.unusedVariables false
set_option linter.unusedSimpArgs false

set_option maxRecDepth 100000 in
set_option maxHeartbeats 25600000 in
theorem freshW (sp kd : Int) (hsp : sp ≤ 9223372036854775807) (v : Value) (l : List Stp) (w : World) (hv : ReadsS w.heap.size w v l) (hm : tS l ≤ 1048576) :
    Calls Tryz.prog 3 #[v, .int .i64 sp, .int .i64 kd] w fun e w' => e = .returned (.bool true) ∧ Below w.heap.size w w' := by
  have CN : Hid (∀ w1, Calls _ _ _ _ _) := fun w1 => yg.newC 1048576 w1 ⟨by omega, by omega⟩
  have CM : Hid (∀ w1, Calls _ _ _ _ _) := fun w1 => xc.newD 1048576 w1 ⟨by omega, by omega⟩
  obtain ⟨va, vc, rfl, _⟩ := hv.form
  have HV : Hid (ReadsS w.heap.size w (.slice va l.length vc) l) := hv
  have hn := len_tS l
  have HM : Hid (tS l ≤ 1048576 ∧ l.length ≤ 1048576) := ⟨hm, by omega⟩
  obtain ⟨N, HN⟩ : ∃ N, Hid (l.length = N) := ⟨_, rfl⟩
  rw [HN.out] at hn HV ⊢
  have hNb : (N : Int) ≤ 1048576 := by omega
  clear hv hm hn
  go_enter Tryz.func3, Tryz.ntmps3
  go_upto_region 2 with (first | (go_at_call 4; refine (CN.out _).mono ?_; rintro _ w1 ⟨g, bn, bd, rfl, h1, b1⟩; have N1 : Hid (Sr _ _ _ _ _ _ w1) := h1; have B1 : Hid (Below w.heap.size w w1) := b1; clear h1 b1) | go_in)
  go_upto_region 3 with (first | (go_at_call 5; refine (CM.out _).mono ?_; rintro _ w2 ⟨g', rfl, h2, b2⟩; have D2 : Hid (Ds _ _ _ _ _ _ w2) := h2; have B2 : Hid (Below w1.heap.size w1 w2) := b2; clear h2 b2) | go_in)
  have PR : Hid (Two g bn bd g' ⟨1048576, [], [], 0, false, 0⟩ ⟨1048576, [], [], 0, false, 0⟩ w w2) := two_new N1.out B1.out D2.out B2.out
  clear CN CM N1 D2 B1 B2
  go_wp2_with fail
  go_loopw [9] (fun iv wr => ∃ (i : Nat) (s : S), i ≤ N ∧ iv = .int .i64 i ∧ Hid (Two g bn bd g' s s w wr) ∧ Hid (Gr s (1 + 8 * tS (l.take i)) i)) (fun iv _ => (N - intOf iv).toNat)
  case atStart => exact ⟨0, _, Nat.zero_le _, rfl, PR.out, (grow0 1048576).mono (by omega) (Nat.le_refl _)⟩
  case round =>
    clear PR
    obtain ⟨i, s, hiN, rfl, HO, HB⟩ := hrel
    have htk := tS_take l i
    have hmm := HM.out
    have hnm := HB.out.nums
    have hag := HB.out.age
    have hbl := HO.out.bl
    by_cases hlt : i < N
    · have hlt' : (i : Int) < N := by omega
      have hil : i < l.length := by rw [HN.out]; exact hlt
      obtain ⟨o, ho⟩ : ∃ o, l[i]? = some o := ⟨_, List.getElem?_eq_getElem hil⟩
      have hoo := HV.out.each o (List.mem_of_getElem? ho)
      obtain ⟨va', vc', e', h0 | ⟨b, off, e2, _, hcell⟩⟩ := (HV.out.later hbl).form
      · omega
      have e3 := (Value.slice.inj e').1
      rw [e2] at e3
      clear e' e2
      subst e3
      have hb0 : b < wr.heap.size := by
        obtain ⟨d0, _⟩ := hcell i o ho
        exact World.block_lt_of_cell? _ _ d0
      have HC2 : Hid (∀ w1, Two g bn bd g' (recS s o) (recS s o) w w1 → _) := fun w1 h1 => (HV.out.later h1.bl).form
      obtain ⟨d0, d1, d2, d3, d4, d5, d6⟩ := hcell i o ho
      have htw := tS_at l i o ho
      have G1 := HB.out.recs o
      have G2 := HB.out.stp o
      have hl1 : 2 * (s.dur.length + s.pend.length) + 1 < 3518437208883 := by omega
      have hn2 := G1.1.nums
      have htk2 := tS_take l (i + 1)
      have CR : Hid (Calls _ _ _ _ _) := jl.recordsT o HO.out hoo hl1 (by omega)
      have hl2 : 2 * ((recS s o).dur.length + (recS s o).pend.length) + 1 < 3518437208883 := by omega
      have CO : Hid (∀ w1, Two g bn bd g' (recS s o) (recS s o) w w1 → Calls _ _ _ _ _) := fun w1 h1 => jm.othersT o h1 hoo hl2 (by have := G1.1.age; omega)
      have HG : Hid (Gr (stp s o) (1 + 8 * tS (l.take (i + 1))) (i + 1)) := G2.mono (by omega) (Nat.le_refl _)
      unfold stp at HG
      obtain ⟨s1, HS1⟩ : ∃ t, Hid (recS s o = t) := ⟨_, rfl⟩
      rw [HS1.out] at CR CO HG HC2
      obtain ⟨s2, HS2⟩ : ∃ t, Hid (othS s1 o = t) := ⟨_, rfl⟩
      rw [HS2.out] at CO HG
      have HO2 : Hid (l[i]? = some o) := ho
      have SC : Hid (∀ w1, Two g bn bd g' s1 s1 w w1 → w1.cell? ⟨b, off + i * 7, none⟩ = some (.int .i64 o.d) ∧ w1.cell? ⟨b, off + i * 7 + 1, none⟩ = some (.int .i64 o.sp) ∧ w1.cell? ⟨b, off + i * 7 + 2, none⟩ = some (.int .i64 o.k) ∧ w1.cell? ⟨b, off + i * 7 + 3, none⟩ = some (.int .i64 o.n) ∧ w1.cell? ⟨b, off + i * 7 + 4, none⟩ = some (.int .i64 o.m) ∧ w1.cell? ⟨b, off + i * 7 + 5, none⟩ = some (.string o.key) ∧ w1.cell? ⟨b, off + i * 7 + 6, none⟩ = some (.string o.text)) := fun w1 h1 => by
        obtain ⟨va2, vc2, e4, h0 | ⟨b2, off2, e5, _, hcell2⟩⟩ := HC2.out w1 h1
        · omega
        have e6 := (Value.slice.inj e4).1
        rw [e5] at e6
        have e7 := Option.some.inj e6
        injection e7 with e8 e9 e10
        subst e8 e9
        exact hcell2 i o ho
      obtain ⟨dd, sp2, k, n, m, key, text⟩ := o
      unfold scs at CR CO
      simp only at CR CO SC d0 d1 d2 d3 d4 d5 d6
      clear hcell ho hoo htw htk hmm hnm hag hbl HB HS1 HS2 hil HC2 G1 G2 hl1 hn2 htk2 hl2 HO2 hb0
      go_wp2_with (first | (go_at_call 6; refine CR.out.mono ?_; rintro _ w5 ⟨rfl, h5⟩; have H5 : Hid (Two _ _ _ _ _ _ _ w5) := h5; obtain ⟨a0, a1, a2, a3, a4, a5, a6⟩ := SC.out _ h5; clear h5) | (go_at_call 7; refine (CO.out _ H5.out).mono ?_; rintro _ w6 ⟨rfl, h6⟩; have H6 : Hid (Two _ _ _ _ _ _ _ w6) := h6; clear h6) | go_in)
      go_roundw
      case rel => exact ⟨i + 1, s2, by omega, by go_num, H6.out, HG.out⟩
      case measure => simp [intOf]; omega
    have hlt' : ¬ (i : Int) < N := by omega
    have hag2 : s.age < 4398046511104 := by have := HM.out.2; have := HN.out; omega
    have hs1 : (⟨#[1]⟩ : ByteArray).size ≤ 140737488355328 := by show 1 ≤ 140737488355328; omega
    have CA : Hid (∀ X, Two g bn bd g' s s w X → Calls _ _ _ _ _) := fun X h => crashA ⟨#[1]⟩ h hs1 hag2
    have CB : Hid (∀ X, Two g bn bd g' (crashS s ⟨#[1]⟩) s w X → Calls _ _ _ _ _) := fun X h => crashB ⟨#[1]⟩ h hs1 hag2
    obtain ⟨z, HZ⟩ : ∃ z, Hid (crashS s (⟨#[1]⟩ : ByteArray) = z) := ⟨_, rfl⟩
    rw [HZ.out] at CA CB
    obtain ⟨u0, rfl⟩ : ∃ x, x = wr := ⟨_, rfl⟩
    have HO0 : Hid (Two g bn bd g' s s w u0) := HO.out
    clear htk hmm hnm hag hbl HB hag2 hs1 HV HM hlt HO HZ
    go_upto_region 11 with (go_at_call 8; refine (CA.out _ HO0.out).mono ?_; rintro _ w3 ⟨rfl, h3⟩; have H3 : Hid (Two _ _ _ _ _ _ _ w3) := h3; clear h3)
    go_upto_region 12 with (go_at_call 9; refine (CB.out _ H3.out).mono ?_; rintro _ w4 ⟨rfl, h4⟩; have H4 : Hid (Two g bn bd g' z z w w4) := h4; clear h4)
    clear CA CB H3 HO0 hlt'
    have hok : OkS z := okA H4.out
    have LN : Hid (∀ kk, (numbersS z sp kk).length ≤ 3518437208883) := fun kk => num_small hok sp kk
    have LS : Hid ((spacesS z).length ≤ 3518437208883) := spa_small hok
    have NA : Hid (∀ X kk, Two g bn bd g' z z w X → Calls Tryz.prog 12 #[.pointer (some ⟨g, 0, none⟩), .int .i64 sp, .int .i64 kk] X fun e w' => ∃ v, Row X.heap.size w' v (numbersS z sp kk) e ∧ Below X.heap.size X w') := fun X kk h => numA sp kk h hsp
    have NB : Hid (∀ X kk, Two g bn bd g' z z w X → Calls Tryz.prog 10 #[.pointer (some ⟨g', 0, none⟩), .int .i64 sp, .int .i64 kk] X fun e w' => ∃ v, Row X.heap.size w' v (numbersS z sp kk) e ∧ Below X.heap.size X w') := fun X kk h => numB sp kk h hsp
    have SA : Hid (∀ X, Two g bn bd g' z z w X → Calls Tryz.prog 14 #[.pointer (some ⟨g, 0, none⟩)] X fun e w' => ∃ v, Row X.heap.size w' v (spacesS z) e ∧ Below X.heap.size X w') := fun X h => spaA h
    have SB : Hid (∀ X, Two g bn bd g' z z w X → Calls Tryz.prog 11 #[.pointer (some ⟨g', 0, none⟩)] X fun e w' => ∃ v, Row X.heap.size w' v (spacesS z) e ∧ Below X.heap.size X w') := fun X h => spaB h
    clear hok
    obtain ⟨Ys, HYs⟩ : ∃ y, Hid (spacesS z = y) := ⟨_, rfl⟩
    rw [HYs.out] at LS SA SB
    obtain ⟨nY, HNY⟩ : ∃ n, Hid (Ys.length = n) := ⟨_, rfl⟩
    go_upto_region 13 with (go_at_call 10; refine (NB.out _ _ H4.out).mono ?_; rintro _ w5 ⟨vx, ⟨rfl, h5⟩, b5⟩; have X5 : Hid (ReadsN w5 vx (numbersS z sp kd)) := own_readsN h5; have B5 : Hid (Below w4.heap.size w4 w5) := b5; clear h5 b5)
    have T5 : Hid (Two g bn bd g' z z w w5) := H4.out.later B5.out
    go_upto_region 14 with (go_at_call 11; refine (SB.out _ T5.out).mono ?_; rintro _ w6 ⟨vy, ⟨rfl, h6⟩, b6⟩; have Y6 : Hid (ReadsN w6 vy Ys) := own_readsN h6; have B6 : Hid (Below w5.heap.size w5 w6) := b6; clear h6 b6)
    have T6 : Hid (Two g bn bd g' z z w w6) := T5.out.later B6.out
    go_upto_region 15 with (go_at_call 10; refine (NB.out _ (wrap64 (kd + 1)) T6.out).mono ?_; rintro _ w7 ⟨vo, ⟨rfl, h7⟩, b7⟩; have O7 : Hid (ReadsN w7 vo (numbersS z sp (wrap64 (kd + 1)))) := own_readsN h7; have B7 : Hid (Below w6.heap.size w6 w7) := b7; clear h7 b7)
    have T7 : Hid (Two g bn bd g' z z w w7) := T6.out.later B7.out
    have RX : Hid (ReadsN w7 vx (numbersS z sp kd)) := (X5.out.later B6.out).later B7.out
    have RY : Hid (ReadsN w7 vy Ys) := Y6.out.later B7.out
    have NX : Hid (∀ X, Below w7.heap.size w7 X → _) := fun X h => NA.out X kd (T7.out.later h)
    have NO : Hid (∀ X, Below w7.heap.size w7 X → _) := fun X h => NA.out X (wrap64 (kd + 1)) (T7.out.later h)
    have SY : Hid (∀ X, Below w7.heap.size w7 X → Calls Tryz.prog 14 #[.pointer (some ⟨g, 0, none⟩)] X fun e w' => RowA X.heap.size w' Ys nY e ∧ Below X.heap.size X w') := fun X h => (SA.out X (T7.out.later h)).mono (by
      rintro e w' ⟨v, h1, h2⟩
      exact ⟨row_a h1 HNY.out, h2⟩)
    have LX := LN.out kd
    have LO := LN.out (wrap64 (kd + 1))
    have LY : Hid (nY ≤ 3518437208883) := by have := LS.out; rw [HNY.out] at this; exact this
    have BW : Hid (Below w.heap.size w w7) := T7.out.bl
    obtain ⟨Xs, HXs⟩ : ∃ y, Hid (numbersS z sp kd = y) := ⟨_, rfl⟩
    obtain ⟨Os, HOs⟩ : ∃ y, Hid (numbersS z sp (wrap64 (kd + 1)) = y) := ⟨_, rfl⟩
    rw [HXs.out] at RX NX LX
    rw [HOs.out] at O7 NO LO
    obtain ⟨nX, HNX⟩ : ∃ n, Hid (Xs.length = n) := ⟨_, rfl⟩
    obtain ⟨nO, HNO⟩ : ∃ n, Hid (Os.length = n) := ⟨_, rfl⟩
    have CX : Hid (∀ X, Below w7.heap.size w7 X → Calls Tryz.prog 12 #[.pointer (some ⟨g, 0, none⟩), .int .i64 sp, .int .i64 kd] X fun e w' => RowA X.heap.size w' Xs nX e ∧ Below X.heap.size X w') := fun X h => (NX.out X h).mono (by
      rintro e w' ⟨v, h1, h2⟩
      exact ⟨row_a h1 HNX.out, h2⟩)
    have CO : Hid (∀ X, Below w7.heap.size w7 X → Calls Tryz.prog 12 #[.pointer (some ⟨g, 0, none⟩), .int .i64 sp, .int .i64 (wrap64 (kd + 1))] X fun e w' => RowA X.heap.size w' Os nO e ∧ Below X.heap.size X w') := fun X h => (NO.out X h).mono (by
      rintro e w' ⟨v, h1, h2⟩
      exact ⟨row_a h1 HNO.out, h2⟩)
    have LXh : Hid (Xs.length ≤ 3518437208883) := LX
    have LOh : Hid (Os.length ≤ 3518437208883) := LO
    obtain ⟨w7', HW7⟩ : ∃ x, Hid (x = w7) := ⟨_, rfl⟩
    clear LX LO LN LS NA NB SA SB NX NO HXs HOs HYs T5 T6 T7 B5 B6 B7 X5 Y6 H4 HW7 w7'
    obtain ⟨iL, hi0, hz0, hz1, hz2⟩ := info_parts infoL
    have HIL : Hid (_ ∧ _ ∧ _ ∧ _) := ⟨hi0, hz0, hz1, hz2⟩
    clear hi0 hz0 hz1 hz2
    obtain ⟨i9, hi0, hz0, hz1, hz2⟩ := info_parts info_ints
    have HIN : Hid (_ ∧ _ ∧ _ ∧ _) := ⟨hi0, hz0, hz1, hz2⟩
    clear hi0 hz0 hz1 hz2
    go_wp2
    go_loopw [13, 14] (fun mv iv wr => ∃ (i : Nat) (ms : List Value) (xss : List (List Int)), i ≤ 5 ∧ iv = .int .i64 i ∧ Hid (ms.length = i) ∧ Hid (∀ j, j < i → xss[j]? = some (pk Xs Os j)) ∧ Hid (∀ xs ∈ xss, xs.length ≤ 3518437208883) ∧ Hid (Fam wr w7.heap.size mv ms xss) ∧ Hid (Below w7.heap.size w7 wr)) (fun _ iv _ => (5 - intOf iv).toNat)
    case atStart => exact ⟨0, [], [], by omega, rfl, rfl, (fun j hj => by omega), (fun xs h => by cases h), Fam.nil _ _, Below.refl _ _⟩
    case round =>
      obtain ⟨i, ms, xss, hi, rfl, HML, HXP, HXL, HF, HB⟩ := hrel
      by_cases hlt : i < 5
      · have hlt' : (i : Int) < 5 := by omega
        have hxl : Hid (xss.length = i) := by show _ = _; rw [HF.out.lx, HML.out]
        by_cases hcs : i = 2 ∨ i = 3
        · have HP : Hid (Os = pk Xs Os i) := by show _ = _; unfold pk; rw [if_pos hcs]
          have HPX : Hid (∀ j, j < i + 1 → (xss ++ [Os])[j]? = some (pk Xs Os j)) := pk_ext HXP.out hxl.out Os HP.out
          clear HP hxl
          rcases hcs with rfl | rfl
          · have hz : Hid True := trivial
            go_wp2_with (first | (go_at_call 12; refine (CO.out _ HB.out).mono ?_; rintro _ x1 ⟨⟨la, lc, rfl, h1⟩, b1⟩; have O0 : Hid (x1.ownsRow wr.heap.size 3 1 (.slice la nO lc) nO (Os.map (Value.int .i64))) := h1; have B1 : Hid (Below wr.heap.size wr x1) := b1; clear h1 b1; have BA : Hid (Below wr.heap.size wr (x1.alloc (.cells #[.slice la nO lc] 32))) := over B1.out (bel_alloc _ _); have F1 : Hid (Fam (x1.alloc (.cells #[.slice la nO lc] 32)) w7.heap.size u13 ms xss) := HF.out.later BA.out; have O1 : Hid ((x1.alloc (.cells #[.slice la nO lc] 32)).ownsRow wr.heap.size 3 1 (.slice la nO lc) Os.length (Os.map (Value.int .i64))) := (by show World.ownsRow _ _ _ _ _ _ _; rw [HNO.out]; exact O0.out.alloc _); have R1 : Hid ((x1.alloc (.cells #[.slice la nO lc] 32)).ownsRow w7.heap.size 32 1 u13 2 ms) := (by have := F1.out.row; rw [HML.out] at this; exact this); have ZS : Hid (w7.heap.size ≤ wr.heap.size) := HB.out.size; have BB : Hid (Below w7.heap.size w7 (x1.alloc (.cells #[.slice la nO lc] 32))) := over HB.out BA.out) | (at_builtin; refine wpList_append_own _ rfl _ _ 35 rfl w7.heap.size 32 iL (.slice none 0 0) 1 24 Tryz.underlying35 HIL.out.1 HIL.out.2.1 HIL.out.2.2.1 HIL.out.2.2.2 rfl (by decide) u13 2 ms rfl R1.out ⟨x1.heap.size, 0, none⟩ 1 1 [.slice la nO lc] rfl rfl (Go.Proofs.YtmindflfjocjlaaGreat.fa.new_one _ _ _) (fun u hu => by simp at hu; subst hu; rfl) (by unfold maxLen; omega) (by omega) BB.out.size ?_; intro mv' x2 ho hg hnn; have F2 : Hid (Fam x2 w7.heap.size mv' (ms ++ [.slice la nO lc]) (xss ++ [Os])) := Fam.put F1.out HML.out ZS.out (fun t v g h1 h2 => HF.out.lt t v g h1 h2) O1.out ho hg; have B2 : Hid (Below w7.heap.size w7 x2) := Below.grown BB.out hg BB.out.size (fun j hj => (R1.out.lt j hj).1); clear ho hg hnn))
            go_roundw
            case rel => exact ⟨2 + 1, _, _, by omega, by go_num, (by show _ = _; rw [List.length_append, HML.out]; rfl), HPX.out, all_ext HXL.out Os LOh.out, F2.out, B2.out⟩
            case measure => simp [intOf]
          · have hz : Hid True := trivial
            go_wp2_with (first | (go_at_call 12; refine (CO.out _ HB.out).mono ?_; rintro _ x1 ⟨⟨la, lc, rfl, h1⟩, b1⟩; have O0 : Hid (x1.ownsRow wr.heap.size 3 1 (.slice la nO lc) nO (Os.map (Value.int .i64))) := h1; have B1 : Hid (Below wr.heap.size wr x1) := b1; clear h1 b1; have BA : Hid (Below wr.heap.size wr (x1.alloc (.cells #[.slice la nO lc] 32))) := over B1.out (bel_alloc _ _); have F1 : Hid (Fam (x1.alloc (.cells #[.slice la nO lc] 32)) w7.heap.size u13 ms xss) := HF.out.later BA.out; have O1 : Hid ((x1.alloc (.cells #[.slice la nO lc] 32)).ownsRow wr.heap.size 3 1 (.slice la nO lc) Os.length (Os.map (Value.int .i64))) := (by show World.ownsRow _ _ _ _ _ _ _; rw [HNO.out]; exact O0.out.alloc _); have R1 : Hid ((x1.alloc (.cells #[.slice la nO lc] 32)).ownsRow w7.heap.size 32 1 u13 3 ms) := (by have := F1.out.row; rw [HML.out] at this; exact this); have ZS : Hid (w7.heap.size ≤ wr.heap.size) := HB.out.size; have BB : Hid (Below w7.heap.size w7 (x1.alloc (.cells #[.slice la nO lc] 32))) := over HB.out BA.out) | (at_builtin; refine wpList_append_own _ rfl _ _ 35 rfl w7.heap.size 32 iL (.slice none 0 0) 1 24 Tryz.underlying35 HIL.out.1 HIL.out.2.1 HIL.out.2.2.1 HIL.out.2.2.2 rfl (by decide) u13 3 ms rfl R1.out ⟨x1.heap.size, 0, none⟩ 1 1 [.slice la nO lc] rfl rfl (Go.Proofs.YtmindflfjocjlaaGreat.fa.new_one _ _ _) (fun u hu => by simp at hu; subst hu; rfl) (by unfold maxLen; omega) (by omega) BB.out.size ?_; intro mv' x2 ho hg hnn; have F2 : Hid (Fam x2 w7.heap.size mv' (ms ++ [.slice la nO lc]) (xss ++ [Os])) := Fam.put F1.out HML.out ZS.out (fun t v g h1 h2 => HF.out.lt t v g h1 h2) O1.out ho hg; have B2 : Hid (Below w7.heap.size w7 x2) := Below.grown BB.out hg BB.out.size (fun j hj => (R1.out.lt j hj).1); clear ho hg hnn))
            go_roundw
            case rel => exact ⟨3 + 1, _, _, by omega, by go_num, (by show _ = _; rw [List.length_append, HML.out]; rfl), HPX.out, all_ext HXL.out Os LOh.out, F2.out, B2.out⟩
            case measure => simp [intOf]
        · have HP : Hid (Xs = pk Xs Os i) := by show _ = _; unfold pk; rw [if_neg hcs]
          have HPX : Hid (∀ j, j < i + 1 → (xss ++ [Xs])[j]? = some (pk Xs Os j)) := pk_ext HXP.out hxl.out Xs HP.out
          have e2 : ((i : Int) == 2) = false := beq_eq_false_iff_ne.2 (by omega)
          have e3 : ((i : Int) == 3) = false := beq_eq_false_iff_ne.2 (by omega)
          have e2' : ¬ (i : Int) = 2 := by omega
          have e3' : ¬ (i : Int) = 3 := by omega
          clear HP hxl hcs
          go_wp2_with (first | (go_at_call 12; refine (CX.out _ HB.out).mono ?_; rintro _ x1 ⟨⟨la, lc, rfl, h1⟩, b1⟩; have O0 : Hid (x1.ownsRow wr.heap.size 3 1 (.slice la nX lc) nX (Xs.map (Value.int .i64))) := h1; have B1 : Hid (Below wr.heap.size wr x1) := b1; clear h1 b1; have BA : Hid (Below wr.heap.size wr (x1.alloc (.cells #[.slice la nX lc] 32))) := over B1.out (bel_alloc _ _); have F1 : Hid (Fam (x1.alloc (.cells #[.slice la nX lc] 32)) w7.heap.size u13 ms xss) := HF.out.later BA.out; have O1 : Hid ((x1.alloc (.cells #[.slice la nX lc] 32)).ownsRow wr.heap.size 3 1 (.slice la nX lc) Xs.length (Xs.map (Value.int .i64))) := (by show World.ownsRow _ _ _ _ _ _ _; rw [HNX.out]; exact O0.out.alloc _); have R1 : Hid ((x1.alloc (.cells #[.slice la nX lc] 32)).ownsRow w7.heap.size 32 1 u13 i ms) := (by have := F1.out.row; rw [HML.out] at this; exact this); have ZS : Hid (w7.heap.size ≤ wr.heap.size) := HB.out.size; have BB : Hid (Below w7.heap.size w7 (x1.alloc (.cells #[.slice la nX lc] 32))) := over HB.out BA.out) | (at_builtin; refine wpList_append_own _ rfl _ _ 35 rfl w7.heap.size 32 iL (.slice none 0 0) 1 24 Tryz.underlying35 HIL.out.1 HIL.out.2.1 HIL.out.2.2.1 HIL.out.2.2.2 rfl (by decide) u13 i ms rfl R1.out ⟨x1.heap.size, 0, none⟩ 1 1 [.slice la nX lc] rfl rfl (Go.Proofs.YtmindflfjocjlaaGreat.fa.new_one _ _ _) (fun u hu => by simp at hu; subst hu; rfl) (by unfold maxLen; omega) (by omega) BB.out.size ?_; intro mv' x2 ho hg hnn; have F2 : Hid (Fam x2 w7.heap.size mv' (ms ++ [.slice la nX lc]) (xss ++ [Xs])) := Fam.put F1.out HML.out ZS.out (fun t v g h1 h2 => HF.out.lt t v g h1 h2) O1.out ho hg; have B2 : Hid (Below w7.heap.size w7 x2) := Below.grown BB.out hg BB.out.size (fun j hj => (R1.out.lt j hj).1); clear ho hg hnn))
          go_roundw
          case rel => exact ⟨i + 1, _, _, by omega, by go_num, (by show _ = _; rw [List.length_append, HML.out]; rfl), HPX.out, all_ext HXL.out Xs LXh.out, F2.out, B2.out⟩
          case measure => simp [intOf]; omega
      have hlt' : ¬ (i : Int) < 5 := by omega
      obtain rfl : 5 = i := by omega
      obtain ⟨u3, rfl⟩ : ∃ x, x = wr := ⟨_, rfl⟩
      obtain ⟨gm, cm, hmv⟩ : ∃ gm cm, u13 = .slice (some ⟨gm, 0, none⟩) 5 cm := by
        have hr := HF.out.row
        rw [HML.out] at hr
        rcases own_shape hr with ⟨_, e⟩ | ⟨g, c, e, _⟩
        · omega
        · exact ⟨g, c, e⟩
      subst hmv
      have FC : Hid (∀ X, Below u3.heap.size u3 X → ∀ (t : Nat), t < 5 → ∃ v, X.cell? ⟨gm, t, none⟩ = some v ∧ ReadsN X v (pk Xs Os t)) := fun X hX t ht => by
        have hF := HF.out.later hX
        have hr := hF.row
        rw [HML.out] at hr
        have hv : ms[t]? = some (ms[t]'(by rw [HML.out]; exact ht)) := List.getElem?_eq_getElem _
        refine ⟨_, ?_, own_readsN (hF.one t _ _ hv (HXP.out t ht))⟩
        rw [hr.cellAt t (by omega)]
        exact hv
      have HB3 : Hid (Below w7.heap.size w7 u3) := HB.out
      have HF3 : Hid (Fam u3 w7.heap.size (.slice (some ⟨gm, 0, none⟩) 5 cm) ms xss) := HF.out
      clear HB HF hi hlt
      go_wp2
      go_loopw [15] (fun iv wr => ∃ (i : Nat), i ≤ 5 ∧ iv = .int .i64 i ∧ Hid (Below u3.heap.size u3 wr)) (fun iv _ => (5 - intOf iv).toNat)
      case atStart => exact ⟨0, by omega, rfl, Below.refl _ _⟩
      case round =>
        clear hlt'
        obtain ⟨i, hi, rfl, HB⟩ := hrel
        by_cases hlt : i < 5
        · have hlt' : (i : Int) < 5 := by omega
          have BU : Hid (Below w7.heap.size w7 wr) := HB3.out.trans (HB.out.mono HB3.out.size)
          obtain ⟨v, cv, rv⟩ := FC.out wr HB.out i hlt
          have RV : Hid (ReadsN wr v (pk Xs Os i)) := rv
          by_cases hcs : i = 2 ∨ i = 3
          · have hp : pk Xs Os i = Os := by unfold pk; rw [if_pos hcs]
            rw [hp] at RV
            have C1 : Hid (Calls _ _ _ _ _) := sameAny v vx Os Xs wr RV.out (RX.out.later BU.out) (by have := LOh.out; omega) (by have := LXh.out; omega)
            have C2 : Hid (∀ X, Below wr.heap.size wr X → Calls _ _ _ _ _) := fun X h => sameIntsC v vo Os Os X (RV.out.later h) (O7.out.later (over BU.out h)) (by have := LOh.out; omega) (by have := LOh.out; omega) rfl
            clear rv hp
            rcases hcs with rfl | rfl
            all_goals (
              go_upto_region 26 with (go_at_call 13; refine C1.out.mono ?_; rintro _ x1 ⟨⟨bo, rfl⟩, b1⟩; have B1 : Hid (Below wr.heap.size wr x1) := b1; clear b1)
              have cv2 := (B1.out.cell (p := ⟨gm, _, none⟩) (World.block_lt_of_cell? _ _ cv)).trans cv
              go_wp2_with (go_at_call 13; refine (C2.out _ B1.out).mono ?_; rintro _ x2 ⟨rfl, b2⟩; have B2 : Hid (Below u3.heap.size u3 x2) := over (over HB.out B1.out) b2; clear b2)
              go_roundw
              case rel => first | exact ⟨3, by omega, by go_num, B2.out⟩ | exact ⟨4, by omega, by go_num, B2.out⟩
              case measure => simp [intOf])
          · have hp : pk Xs Os i = Xs := by unfold pk; rw [if_neg hcs]
            rw [hp] at RV
            have C1 : Hid (Calls _ _ _ _ _) := sameIntsC v vx Xs Xs wr RV.out (RX.out.later BU.out) (by have := LXh.out; omega) (by have := LXh.out; omega) rfl
            have e2 : ((i : Int) == 2) = false := beq_eq_false_iff_ne.2 (by omega)
            have e3 : ((i : Int) == 3) = false := beq_eq_false_iff_ne.2 (by omega)
            have e2' : ¬ (i : Int) = 2 := by omega
            have e3' : ¬ (i : Int) = 3 := by omega
            clear rv hp hcs
            go_wp2_with (go_at_call 13; refine C1.out.mono ?_; rintro _ x1 ⟨rfl, b1⟩; have B1 : Hid (Below u3.heap.size u3 x1) := over HB.out b1; clear b1)
            go_roundw
            case rel => exact ⟨i + 1, by omega, by go_num, B1.out⟩
            case measure => simp [intOf]; omega
        have hlt' : ¬ (i : Int) < 5 := by omega
        obtain ⟨u4, rfl⟩ : ∃ x, x = wr := ⟨_, rfl⟩
        have HF4 : Hid (Fam u4 w7.heap.size (.slice (some ⟨gm, 0, none⟩) 5 cm) ms xss) := HF3.out.later HB.out
        have HB4 : Hid (Below w7.heap.size w7 u4) := HB3.out.trans (HB.out.mono HB3.out.size)
        clear FC HB HB3 HF3 HXP O7 CO hi hlt
        go_wp2
        go_loopw [13, 17] (fun mv iv wr => ∃ (i : Nat) (ms : List Value) (xss : List (List Int)), i ≤ 3 ∧ iv = .int .i64 i ∧ Hid (ms.length = 5 + i) ∧ Hid (∀ xs ∈ xss, xs.length ≤ 3518437208883) ∧ Hid (Fam wr w7.heap.size mv ms xss) ∧ Hid (Below w7.heap.size w7 wr)) (fun _ iv _ => (3 - intOf iv).toNat)
        case atStart => exact ⟨0, ms, xss, by omega, rfl, HML.out, HXL.out, HF4.out, HB4.out⟩
        case round =>
          clear hlt' HML HXL HF4 HB4 ms xss
          obtain ⟨i, ms, xss, hi, rfl, HML, HXL, HF, HB⟩ := hrel
          by_cases hlt : i < 3
          · have hlt' : (i : Int) < 3 := by omega
            go_upto_region 34 with (go_at_call 14; refine (SY.out _ HB.out).mono ?_; rintro _ x0 ⟨⟨la, lc, rfl, h1⟩, b1⟩; have O00 : Hid (x0.ownsRow wr.heap.size 3 1 (.slice la nY lc) nY (Ys.map (Value.int .i64))) := h1; have B0 : Hid (Below wr.heap.size wr x0) := b1; clear h1 b1)
            have C1 : Hid (Calls _ _ _ _ _) := sameIntsC (.slice la nY lc) vy Ys Ys x0 (own_readsN O00.out) (RY.out.later (over HB.out B0.out)) (by have := LY.out; have := HNY.out; omega) (by have := LY.out; have := HNY.out; omega) rfl
            go_upto_region 35 with (go_at_call 13; refine C1.out.mono ?_; rintro _ x1 ⟨rfl, b1⟩; have B1 : Hid (Below wr.heap.size wr x1) := over B0.out b1; have O0 : Hid (x1.ownsRow wr.heap.size 3 1 (.slice la nY lc) nY (Ys.map (Value.int .i64))) := own_below O00.out b1; clear b1)
            clear C1 O00 B0
            have BA : Hid (Below wr.heap.size wr (x1.alloc (.cells #[.slice la nY lc] 32))) := over B1.out (bel_alloc _ _)
            have F1 : Hid (Fam (x1.alloc (.cells #[.slice la nY lc] 32)) w7.heap.size u13 ms xss) := HF.out.later BA.out
            have O1 : Hid ((x1.alloc (.cells #[.slice la nY lc] 32)).ownsRow wr.heap.size 3 1 (.slice la nY lc) Ys.length (Ys.map (Value.int .i64))) := by show World.ownsRow _ _ _ _ _ _ _; rw [HNY.out]; exact O0.out.alloc _
            have R1 : Hid ((x1.alloc (.cells #[.slice la nY lc] 32)).ownsRow w7.heap.size 32 1 u13 (5 + i) ms) := by have := F1.out.row; rw [HML.out] at this; exact this
            have ZS : Hid (w7.heap.size ≤ wr.heap.size) := HB.out.size
            have BB : Hid (Below w7.heap.size w7 (x1.alloc (.cells #[.slice la nY lc] 32))) := over HB.out BA.out
            go_wp2_with (at_builtin; refine wpList_append_own _ rfl _ _ 35 rfl w7.heap.size 32 iL (.slice none 0 0) 1 24 Tryz.underlying35 HIL.out.1 HIL.out.2.1 HIL.out.2.2.1 HIL.out.2.2.2 rfl (by decide) u13 (5 + i) ms rfl R1.out ⟨x1.heap.size, 0, none⟩ 1 1 [.slice la nY lc] rfl rfl (Go.Proofs.YtmindflfjocjlaaGreat.fa.new_one _ _ _) (fun u hu => by simp at hu; subst hu; rfl) (by unfold maxLen; omega) (by omega) BB.out.size ?_; intro mv' x2 ho hg hnn; have F2 : Hid (Fam x2 w7.heap.size mv' (ms ++ [.slice la nY lc]) (xss ++ [Ys])) := Fam.put F1.out HML.out ZS.out (fun t v g h1 h2 => HF.out.lt t v g h1 h2) O1.out ho hg; have B2 : Hid (Below w7.heap.size w7 x2) := Below.grown BB.out hg BB.out.size (fun j hj => (R1.out.lt j hj).1); clear ho hg hnn)
            go_roundw
            case rel => exact ⟨i + 1, _, _, by omega, by go_num, (by show _ = _; rw [List.length_append, HML.out]; rfl), all_ext HXL.out Ys (by have := LY.out; have := HNY.out; omega), F2.out, B2.out⟩
            case measure => simp [intOf]; omega
          have hlt' : ¬ (i : Int) < 3 := by omega
          obtain rfl : 3 = i := by omega
          obtain ⟨u5, rfl⟩ : ∃ x, x = wr := ⟨_, rfl⟩
          have CP : Hid (Calls _ _ _ _ _) := apartC u5 w7.heap.size u13 ms xss HF.out (by rw [HML.out]; omega) (by rw [HML.out]; omega) HXL.out HB.out.size
          have HB5 : Hid (Below w7.heap.size w7 u5) := HB.out
          clear HML HXL HF HB hi hlt
          go_upto_region 39 with (go_at_call 15; refine CP.out.mono ?_; rintro _ u6 ⟨rfl, b6⟩; have HB6 : Hid (Below w7.heap.size w7 u6) := HB5.out.trans b6; clear b6)
          clear CP HB5 hlt'
          go_upto_region 40 with (go_at_call 12; refine (CX.out _ HB6.out).mono ?_; rintro _ y1 ⟨⟨aa, ac, rfl, h1⟩, b1⟩; have OA : Hid (y1.ownsRow u6.heap.size 3 1 (.slice aa nX ac) nX (Xs.map (Value.int .i64))) := h1; have E1 : Hid (Below w7.heap.size w7 y1) := over HB6.out b1; clear h1 b1)
          go_upto_region 41 with (go_at_call 14; refine (SY.out _ E1.out).mono ?_; rintro _ y2 ⟨⟨ba, bc, rfl, h1⟩, b1⟩; have OB : Hid (y2.ownsRow y1.heap.size 3 1 (.slice ba nY bc) nY (Ys.map (Value.int .i64))) := h1; have P2 : Hid (Pr w7 (.slice aa nX ac) (.slice ba nY bc) nX nY Xs Ys y2) := ⟨own_mono (own_below OA.out b1) HB6.out.size, own_mono h1 E1.out.size, fun j e1 e2 => (by have q1 := (OA.out.lt j e1).2; have q2 := (h1.lt j e2).1; omega), over E1.out b1⟩; clear h1 b1)
          clear OA OB E1 HB6
          have C1 : Hid (Calls _ _ _ _ _) := sameIntsC (.slice aa nX ac) vx Xs Xs y2 (own_readsN P2.out.a) (RX.out.later P2.out.bl) (by have := LXh.out; omega) (by have := LXh.out; omega) rfl
          go_upto_region 42 with (go_at_call 13; refine C1.out.mono ?_; rintro _ y3 ⟨rfl, b1⟩; have P3 : Hid (Pr w7 (.slice aa nX ac) (.slice ba nY bc) nX nY Xs Ys y3) := P2.out.later b1; clear b1)
          have C2 : Hid (Calls _ _ _ _ _) := sameIntsC (.slice ba nY bc) vy Ys Ys y3 (own_readsN P3.out.b) (RY.out.later P3.out.bl) (by have := LY.out; have := HNY.out; omega) (by have := LY.out; have := HNY.out; omega) rfl
          go_upto_region 43 with (go_at_call 13; refine C2.out.mono ?_; rintro _ y4 ⟨rfl, b1⟩; have P4 : Hid (Pr w7 (.slice aa nX ac) (.slice ba nY bc) nX nY Xs Ys y4) := P3.out.later b1; clear b1)
          clear C1 C2 P2 P3
          have hnX : (nX : Int) ≤ 3518437208883 := by have := LXh.out; have := HNX.out; omega
          have hnY : (nY : Int) ≤ 3518437208883 := by have := LY.out; omega
          go_wp2
          go_loopw [25] (fun iv wr => ∃ (i : Nat), i ≤ nX ∧ iv = .int .i64 i ∧ Hid (Pr w7 (.slice aa nX ac) (.slice ba nY bc) nX nY (fill (-1) Xs i) Ys wr)) (fun iv _ => (nX - intOf iv).toNat)
          case atStart => exact ⟨0, by omega, rfl, by rw [fill_zero]; exact P4.out⟩
          case round =>
            obtain ⟨i, hi, rfl, HP⟩ := hrel
            by_cases hlt : i < nX
            · have hlt' : (i : Int) < nX := by omega
              obtain ⟨ga, xv, rfl, c1, _, f1⟩ := row_at HP.out.a hlt
              have HQ : Hid (Pr w7 (.slice (some ⟨ga, 0, none⟩) nX ac) (.slice ba nY bc) nX nY (fill (-1) Xs (i + 1)) Ys (wr.setCell ⟨ga, i, none⟩ (.int .i64 (-1)))) := by
                have := HP.out.setA hlt (-1)
                rw [fill_set _ _ _ (by rw [HNX.out]; exact hlt)] at this
                exact this
              go_wp2
              go_roundw
              case rel => exact ⟨i + 1, by omega, by go_num, HQ.out⟩
              case measure => simp [intOf]; omega
            have hlt' : ¬ (i : Int) < nX := by omega
            obtain rfl : nX = i := by omega
            have P5 : Hid (Pr w7 (.slice aa nX ac) (.slice ba nY bc) nX nY (List.replicate nX (-1)) Ys wr) := by
              have := HP.out
              have e := fill_end (-1) Xs
              rw [HNX.out] at e
              rw [e] at this
              exact this
            obtain ⟨u7', rfl⟩ : ∃ x, x = wr := ⟨_, rfl⟩
            clear HP P4 hi hlt
            go_wp2
            go_loopw [26] (fun iv wr => ∃ (i : Nat), i ≤ nY ∧ iv = .int .i64 i ∧ Hid (Pr w7 (.slice aa nX ac) (.slice ba nY bc) nX nY (List.replicate nX (-1)) (fill (-2) Ys i) wr)) (fun iv _ => (nY - intOf iv).toNat)
            case atStart => exact ⟨0, by omega, rfl, by rw [fill_zero]; exact P5.out⟩
            case round =>
              clear hlt'
              obtain ⟨i, hi, rfl, HP⟩ := hrel
              by_cases hlt : i < nY
              · have hlt' : (i : Int) < nY := by omega
                obtain ⟨ga, xv, rfl, c1, _, f1⟩ := row_at HP.out.b hlt
                have HQ : Hid (Pr w7 (.slice aa nX ac) (.slice (some ⟨ga, 0, none⟩) nY bc) nX nY (List.replicate nX (-1)) (fill (-2) Ys (i + 1)) (wr.setCell ⟨ga, i, none⟩ (.int .i64 (-2)))) := by
                  have := HP.out.setB hlt (-2)
                  rw [fill_set _ _ _ (by rw [HNY.out]; exact hlt)] at this
                  exact this
                go_wp2
                go_roundw
                case rel => exact ⟨i + 1, by omega, by go_num, HQ.out⟩
                case measure => simp [intOf]; omega
              have hlt' : ¬ (i : Int) < nY := by omega
              obtain rfl : nY = i := by omega
              have P6 : Hid (Pr w7 (.slice aa nX ac) (.slice ba nY bc) nX nY (List.replicate nX (-1)) (List.replicate nY (-2)) wr) := by
                have := HP.out
                have e := fill_end (-2) Ys
                rw [HNY.out] at e
                rw [e] at this
                exact this
              obtain ⟨t0, rfl⟩ : ∃ x, x = wr := ⟨_, rfl⟩
              clear HP P5 hi hlt
              go_upto_region 53 with fail
              clear hlt'
              have P7 : Hid (Pr w7 (.slice aa nX ac) (.slice ba nY bc) nX nY (List.replicate nX (-1)) (List.replicate nY (-2)) (t0.alloc (.cells #[.int .i64 (-1), .int .i64 (-1), .int .i64 (-1)] 3))) := P6.out.later (bel_alloc _ _)
              have N1 : Hid (∀ u ∈ [Value.int .i64 (-1), .int .i64 (-1), .int .i64 (-1)], u.oneCell' = true) := fun u hu => by simp at hu; subst hu; rfl
              have N2 : Hid (∀ u ∈ [Value.int .i64 (-2), .int .i64 (-2), .int .i64 (-2)], u.oneCell' = true) := fun u hu => by simp at hu; subst hu; rfl
              go_upto_region 54 with (at_builtin; refine Go.Proofs.YtmindflfjocjlaaGreat.vs.wpList_appS rfl (.tmp 176) (.tmp 177) 32 rfl w7.heap.size 1 3 i9 (.int .i64 0) 8 Tryz.underlying32 HIN.out.1 HIN.out.2.1 HIN.out.2.2.1 HIN.out.2.2.2 rfl (by decide) (.slice aa nX ac) nX _ rfl P7.out.a ⟨t0.heap.size, 0, none⟩ 3 3 [.int .i64 (-1), .int .i64 (-1), .int .i64 (-1)] rfl rfl (new_3 _ _ _ _ _) N1.out (by unfold maxLen; omega) (by omega) P7.out.bl.size ?_; intro pv t1 ho hg hb hp; have RP : Hid (t1.ownsRow w7.heap.size 3 1 pv (nX + 3) ((List.replicate (nX + 3) (-1)).map (Value.int .i64))) := (by rw [← rep3]; exact ho); have P8 : Hid (Pr w7 (.slice aa nX ac) (.slice ba nY bc) nX nY (List.replicate nX (-1)) (List.replicate nY (-2)) t1) := ⟨hp _ _ _ P7.out.a (fun _ => Nat.le_refl _), hp _ _ _ P7.out.b (own_ne P7.out.b (fun j e1 e2 => P7.out.ap j e2 e1)), P7.out.ap, Below.grown P7.out.bl hg P7.out.bl.size (fun j hj => (P7.out.a.lt j hj).1)⟩; have PB : Hid (∀ j, pv.ownBlock = some j → (Value.slice ba nY bc).ownBlock ≠ some j) := (fun j e1 e2 => by rcases hb with e | e; exact P7.out.ap j (e.symm.trans e1) e2; have q := (P7.out.b.lt j e2).2; rw [e] at e1; have := Option.some.inj e1; omega); clear ho hg hb hp)
              have P9 : Hid (Pr w7 (.slice aa nX ac) (.slice ba nY bc) nX nY (List.replicate nX (-1)) (List.replicate nY (-2)) (t1.alloc (.cells #[.int .i64 (-2), .int .i64 (-2), .int .i64 (-2)] 3))) := P8.out.later (bel_alloc _ _)
              have RP1 : Hid ((t1.alloc (.cells #[.int .i64 (-2), .int .i64 (-2), .int .i64 (-2)] 3)).ownsRow w7.heap.size 3 1 pv (nX + 3) ((List.replicate (nX + 3) (-1)).map (Value.int .i64))) := RP.out.alloc _
              go_upto_region 55 with (at_builtin; refine Go.Proofs.YtmindflfjocjlaaGreat.vs.wpList_appS rfl (.tmp 179) (.tmp 180) 32 rfl w7.heap.size 1 3 i9 (.int .i64 0) 8 Tryz.underlying32 HIN.out.1 HIN.out.2.1 HIN.out.2.2.1 HIN.out.2.2.2 rfl (by decide) (.slice ba nY bc) nY _ rfl P9.out.b ⟨t1.heap.size, 0, none⟩ 3 3 [.int .i64 (-2), .int .i64 (-2), .int .i64 (-2)] rfl rfl (new_3 _ _ _ _ _) N2.out (by unfold maxLen; omega) (by omega) P9.out.bl.size ?_; intro qv t2 ho hg hb hp; have RQ : Hid (t2.ownsRow w7.heap.size 3 1 qv (nY + 3) ((List.replicate (nY + 3) (-2)).map (Value.int .i64))) := (by rw [← rep3]; exact ho); have RP2 : Hid (t2.ownsRow w7.heap.size 3 1 pv (nX + 3) ((List.replicate (nX + 3) (-1)).map (Value.int .i64))) := hp _ _ _ RP1.out (own_ne RP1.out PB.out); have PA : Hid (Pr w7 (.slice aa nX ac) (.slice ba nY bc) nX nY (List.replicate nX (-1)) (List.replicate nY (-2)) t2) := ⟨hp _ _ _ P9.out.a (own_ne P9.out.a P9.out.ap), hp _ _ _ P9.out.b (fun _ => Nat.le_refl _), P9.out.ap, Below.grown P9.out.bl hg P9.out.bl.size (fun j hj => (P9.out.b.lt j hj).1)⟩; clear ho hg hb hp)
              clear P6 P7 P8 P9 RP RP1 PB N1 N2
              obtain ⟨pa, pc, hpv⟩ := row_form RP2.out
              obtain ⟨qa, qc, hqv⟩ := row_form RQ.out
              subst hpv
              subst hqv
              have CS : Hid (∀ X a c, Below w7.heap.size w7 X → X.ownsRow t2.heap.size 3 1 (.slice a nX c) nX (Xs.map (Value.int .i64)) → Calls _ _ _ _ _) := fun X a c h h1 => sameIntsC (.slice a nX c) vx Xs Xs X (own_readsN h1) (RX.out.later h) (by have := LXh.out; omega) (by have := LXh.out; omega) rfl
              go_upto_region 56 with (first | (go_at_call 12; refine (CX.out _ PA.out.bl).mono ?_; rintro _ t3 ⟨⟨ea, ec, rfl, h1⟩, b1⟩; have OE : Hid (t3.ownsRow t2.heap.size 3 1 (.slice ea nX ec) nX (Xs.map (Value.int .i64))) := h1; have B3 : Hid (Below t2.heap.size t2 t3) := b1; clear h1 b1) | (go_at_call 13; refine (CS.out _ _ _ (over PA.out.bl B3.out) OE.out).mono ?_; rintro _ t4 ⟨rfl, b1⟩; have B4 : Hid (Below t2.heap.size t2 t4) := over B3.out b1; clear b1))
              have BW4 : Hid (Below w7.heap.size w7 t4) := over PA.out.bl B4.out
              have CT : Hid (∀ X a c, Below w7.heap.size w7 X → X.ownsRow t4.heap.size 3 1 (.slice a nY c) nY (Ys.map (Value.int .i64)) → Calls _ _ _ _ _) := fun X a c h h1 => sameIntsC (.slice a nY c) vy Ys Ys X (own_readsN h1) (RY.out.later h) (by have := LY.out; have := HNY.out; omega) (by have := LY.out; have := HNY.out; omega) rfl
              go_upto_region 57 with (first | (go_at_call 14; refine (SY.out _ BW4.out).mono ?_; rintro _ t5 ⟨⟨fa, fc, rfl, h1⟩, b1⟩; have OG : Hid (t5.ownsRow t4.heap.size 3 1 (.slice fa nY fc) nY (Ys.map (Value.int .i64))) := h1; have B5 : Hid (Below t4.heap.size t4 t5) := b1; clear h1 b1) | (go_at_call 13; refine (CT.out _ _ _ (over BW4.out B5.out) OG.out).mono ?_; rintro _ t6 ⟨rfl, b1⟩; have B6 : Hid (Below t2.heap.size t2 t6) := over (over B4.out B5.out) b1; clear b1))
              have A6 : Hid (t6.ownsRow w7.heap.size 3 1 (.slice aa nX ac) nX ((List.replicate nX (-1)).map (Value.int .i64))) := own_below PA.out.a B6.out
              have D6 : Hid (t6.ownsRow w7.heap.size 3 1 (.slice ba nY bc) nY ((List.replicate nY (-2)).map (Value.int .i64))) := own_below PA.out.b B6.out
              have G6 : Hid (t6.ownsRow w7.heap.size 3 1 (.slice pa (nX + 3) pc) (nX + 3) ((List.replicate (nX + 3) (-1)).map (Value.int .i64))) := own_below RP2.out B6.out
              have J6 : Hid (t6.ownsRow w7.heap.size 3 1 (.slice qa (nY + 3) qc) (nY + 3) ((List.replicate (nY + 3) (-2)).map (Value.int .i64))) := own_below RQ.out B6.out
              have FB : Hid (Below w.heap.size w t6) := BW.out.trans ((over PA.out.bl B6.out).mono BW.out.size)
              clear CS CT OE B3 B4 BW4 OG B5 B6 PA RP2 RQ CX SY RX RY
              have HZ0 : Hid (Below t6.heap.size t6 t6) := Below.refl _ _
              go_wp2
              go_loopw [29] (fun iv wr => ∃ (i : Nat), i ≤ nX + 3 ∧ iv = .int .i64 i ∧ Hid (Below t6.heap.size t6 wr)) (fun iv _ => (nX + 3 - intOf iv).toNat)
              case atStart => exact ⟨0, by omega, rfl, HZ0.out⟩
              case round =>
                obtain ⟨i, hi, rfl, HB⟩ := hrel
                by_cases hlt : i < nX + 3
                · have hlt' : (i : Int) < (nX : Int) + 3 := by omega
                  obtain ⟨gp, rfl, c1⟩ := row_get (own_below G6.out HB.out) hlt
                  have KN : Hid (∀ n, Below t6.heap.size t6 (wr.drewN n)) := fun n => Go.Proofs.YtmindflfjocjlaaGreat.cp.below_dN HB.out n
                  by_cases hia : i < nX
                  · have hia' : (i : Int) < nX := by omega
                    obtain ⟨gq, rfl, c2⟩ := row_get (own_below A6.out HB.out) hia
                    go_wp2
                    go_roundw
                    case rel => exact ⟨i + 1, by omega, by go_num, by first | exact HB.out | exact KN.out _⟩
                    case measure => simp [intOf]; omega
                  · have hia' : ¬ (i : Int) < nX := by omega
                    go_wp2
                    go_roundw
                    case rel => exact ⟨i + 1, by omega, by go_num, by first | exact HB.out | exact KN.out _⟩
                    case measure => simp [intOf]; omega
                have hlt' : ¬ (i : Int) < (nX : Int) + 3 := by omega
                clear hlt hi
                obtain ⟨s0, rfl⟩ : ∃ x, x = wr := ⟨_, rfl⟩
                have HZ1 : Hid (Below t6.heap.size t6 s0) := HB.out
                clear HB
                go_wp2
                clear hlt'
                go_loopw [30] (fun iv wr => ∃ (i : Nat), i ≤ nY + 3 ∧ iv = .int .i64 i ∧ Hid (Below t6.heap.size t6 wr)) (fun iv _ => (nY + 3 - intOf iv).toNat)
                case atStart => exact ⟨0, by omega, rfl, HZ1.out⟩
                case round =>
                  obtain ⟨i, hi, rfl, HB⟩ := hrel
                  by_cases hlt : i < nY + 3
                  · have hlt' : (i : Int) < (nY : Int) + 3 := by omega
                    obtain ⟨gp, rfl, c1⟩ := row_get (own_below J6.out HB.out) hlt
                    have KN : Hid (∀ n, Below t6.heap.size t6 (wr.drewN n)) := fun n => Go.Proofs.YtmindflfjocjlaaGreat.cp.below_dN HB.out n
                    by_cases hia : i < nY
                    · have hia' : (i : Int) < nY := by omega
                      obtain ⟨gq, rfl, c2⟩ := row_get (own_below D6.out HB.out) hia
                      go_wp2
                      go_roundw
                      case rel => exact ⟨i + 1, by omega, by go_num, by first | exact HB.out | exact KN.out _⟩
                      case measure => simp [intOf]; omega
                    · have hia' : ¬ (i : Int) < nY := by omega
                      go_wp2
                      go_roundw
                      case rel => exact ⟨i + 1, by omega, by go_num, by first | exact HB.out | exact KN.out _⟩
                      case measure => simp [intOf]; omega
                  have hlt' : ¬ (i : Int) < (nY : Int) + 3 := by omega
                  have FE : Hid (Below w.heap.size w wr) := over FB.out HB.out
                  go_wp2
                  go_ret
                  exact ⟨rfl, FE.out⟩
theorem fits64 (a : Int) (h : (Lit.int .i64 a).wf = true) : -9223372036854775808 ≤ a ∧ a ≤ 9223372036854775807 := by
  simp only [Lit.wf, Bool.and_eq_true, decide_eq_true_eq] at h
  have h1 : IntKind.i64.min = -9223372036854775808 := by decide +kernel
  have h2 : IntKind.i64.max = 9223372036854775807 := by decide +kernel
  omega
theorem fresh_walk {Q : Prop} (v : Value) (l : List Stp) (w : World) (hv : ReadsS w.heap.size w v l) (hm : tS l ≤ 1048576) (sp : Int) (h1 : (Lit.int .i64 sp).wf = true) (kd : Int) (h2 : Q) :
    Calls Tryz.prog 3 #[v, .int .i64 sp, .int .i64 kd] w fun e w' => e = .returned (.bool true) ∧ Below w.heap.size w w' := freshW sp kd (fits64 sp h1).2 v l w hv hm
end Go.Proofs.YtmindflfjocjlaaGreat.fd
