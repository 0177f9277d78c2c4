import Derived.Test.YtmindflfjocjlaaGreatQ03
import Derived.Test.YtmindflfjocjlaaGreatQ04
import Derived.Test.YtmindflfjocjlaaGreatQ05
import Derived.Test.YtmindflfjocjlaaGreatQ01
import Derived.Deep.DeepCutAuto
import Derived.BigQuiet
namespace Go.Proofs.YtmindflfjocjlaaGreat.yo
open Go.RowKit Go.PlainAid Go.Maps Go.Shelf
open Go.Proofs.YtmindflfjocjlaaGreat.ca Go.Proofs.YtmindflfjocjlaaGreat.cb Go.Proofs.YtmindflfjocjlaaGreat.cp Go.Proofs.YtmindflfjocjlaaGreat.kp Go.Proofs.YtmindflfjocjlaaGreat.ka Go.Proofs.YtmindflfjocjlaaGreat.ya Go.Proofs.YtmindflfjocjlaaGreat.yb Go.Proofs.YtmindflfjocjlaaGreat.yc Go.Proofs.YtmindflfjocjlaaGreat.yd Go.Proofs.YtmindflfjocjlaaGreat.ye Go.Proofs.YtmindflfjocjlaaGreat.yf Go.Proofs.YtmindflfjocjlaaGreat.sb Go.Proofs.YtmindflfjocjlaaGreat.mc Go.Proofs.YtmindflfjocjlaaGreat.na Go.Proofs.YtmindflfjocjlaaGreat.nb
set_option linter.unusedVariables false
set_option linter.unusedSimpArgs false
-- the bytes of a number, the highest first
def beN (n m : Nat) : Nat → List UInt8
  | 0 => []
  | i + 1 => beN n m i ++ [UInt8.ofNat (m / 2 ^ (8 * (n - 1 - i)))]
theorem beN_len (n m i : Nat) : (beN n m i).length = i := by
  induction i with
  | zero => rfl
  | succ i ih => simp [beN, ih]
theorem cells_app (l l' : List UInt8) : Lib.byteCells l ++ Lib.byteCells l' = Lib.byteCells (l ++ l') := by simp [Lib.byteCells]
-- the image of records
def recB (p : Rec) : List UInt8 := beN 1 p.1.size 1 ++ bs p.1 ++ (beN 4 p.2.size 4 ++ bs p.2)
def imgB (r : List Rec) : List UInt8 := 83 :: r.flatMap recB
theorem recB_len (p : Rec) : (recB p).length = p.1.size + p.2.size + 5 := by
  simp only [recB, List.length_append, beN_len, bs_len]; omega
def isz : List Rec → Nat
  | [] => 1
  | p :: r => p.1.size + p.2.size + 5 + isz r
theorem imgB_len (r : List Rec) : (imgB r).length = isz r := by
  unfold imgB
  induction r with
  | nil => rfl
  | cons p r ih => simp only [List.flatMap_cons, List.length_cons, List.length_append, recB_len, isz] at ih ⊢; omega
theorem isz_take (r : List Rec) (j : Nat) : isz (r.take j) ≤ isz r := by
  induction r generalizing j with
  | nil => simp
  | cons p r ih =>
    cases j with
    | zero => simp [isz]; have : 1 ≤ isz r := by have := ih 0; simpa [isz] using this
              omega
    | succ j => simp only [List.take_succ_cons, isz]; have := ih j; omega
theorem isz_at (r : List Rec) (j : Nat) (p : Rec) (h : r[j]? = some p) : isz (r.take (j + 1)) = isz (r.take j) + (p.1.size + p.2.size + 5) := by
  induction r generalizing j with
  | nil => simp at h
  | cons q r ih =>
    cases j with
    | zero => simp at h; subst h; simp [isz]; omega
    | succ j => simp only [List.take_succ_cons, isz]; have := ih j (by simpa using h); omega
theorem img_next (r : List Rec) (j : Nat) (p : Rec) (h : r[j]? = some p) : imgB (r.take (j + 1)) = imgB (r.take j) ++ recB p := by
  unfold imgB
  rw [List.take_add_one, h]
  simp
theorem keysL_all (r : List Rec) : keysL ⟨#[]⟩ r = r.map (·.1) := by
  unfold keysL
  congr 1
  rw [List.filter_eq_self]
  intro p _
  simp [bs, Lib.hasPrefix]
section
variable (w : World) {ops : Array Oper} {rest : List Oper} {o : Oper} {a : Act} {Q : Exit → Act → World → Prop}
theorem wpList_look1 (hg : o.guard = none) (m x : Operand) (hop : o.op = Op.lookup 44 m x false) (b : Nat) (r : List Rec) (hm : a.eval m = .map (some b)) (hown : Mp b r w) (k d : ByteArray) (hx : a.eval x = .string k) (hk : k.size ≤ maxLen) (hd : rget k r = some d)
    (hK : wpList Tryz.prog ops Q rest (a.put o.dst (.agg #[.string d])) w) : wpList Tryz.prog ops Q (o :: rest) a w := by
  refine wpList_plain hg fun K' hK' => ?_
  obtain ⟨v, ps, hrun, hv⟩ := World.ownsMap.lookup hown law Tryz.underlying44 (zeroR w) (recE_mk (s := ByteArray.empty) (by decide)) (key_is hk)
  rw [dat_at, hd] at hv
  obtain ⟨s, rfl, hy, _⟩ := recE_inv hv
  have h1 : (DataW.lit (Lit.string (bs d)) : DataW Unit) = .lit (.string (bs s)) := congrArg Prod.fst hy
  have h2 := bs_inj (Lit.string.inj (DataW.lit.inj h1))
  subst h2
  unfold Oper.wp
  simp [execOp, hop, hm, hx, hrun, Result.andThen]
  exact hK' _ _ hK
end
end Go.Proofs.YtmindflfjocjlaaGreat.yo

namespace Go.Proofs.YtmindflfjocjlaaGreat.yp
open Go.RowKit Go.PlainAid Go.Maps Go.Shelf
open Go.Proofs.YtmindflfjocjlaaGreat.ca Go.Proofs.YtmindflfjocjlaaGreat.cb Go.Proofs.YtmindflfjocjlaaGreat.cp Go.Proofs.YtmindflfjocjlaaGreat.kp Go.Proofs.YtmindflfjocjlaaGreat.ka Go.Proofs.YtmindflfjocjlaaGreat.ya Go.Proofs.YtmindflfjocjlaaGreat.yb Go.Proofs.YtmindflfjocjlaaGreat.yc Go.Proofs.YtmindflfjocjlaaGreat.yd Go.Proofs.YtmindflfjocjlaaGreat.ye Go.Proofs.YtmindflfjocjlaaGreat.yf Go.Proofs.YtmindflfjocjlaaGreat.yo Go.Proofs.YtmindflfjocjlaaGreat.sb Go.Proofs.YtmindflfjocjlaaGreat.mc
set_option linter.unusedVariables false
set_option linter.unusedSimpArgs false
theorem mp_others {b g : Nat} {r : List Rec} {w w' : World} (h : Mp b r w) (hg : b ≠ g) (o : Lib.OthersKept 5 (some g) w w') : Mp b r w' := by
  obtain ⟨es, clock, hb, rest⟩ := h
  exact ⟨es, clock, o b _ hb (fun e => hg (Option.some.inj e)) (fun c fz e => by cases e), rest⟩
theorem own_others {B n g : Nat} {v : Value} {xs : List Value} {w w' : World} (h : w.ownsRow B 9 1 v n xs) (hg : v.ownBlock ≠ some g) (o : Lib.OthersKept 5 (some g) w w') : w'.ownsRow B 9 1 v n xs := by
  refine ⟨h.1, ?_⟩
  rcases h.2 with h2 | ⟨g', cap, cur, rfl, h2, h3, h4⟩
  · exact .inl h2
  · exact .inr ⟨g', cap, cur, rfl, h2, o g' _ h3 (fun e => hg (by rw [← e]; rfl)) (fun c fz e => by injection e with _ e _; revert e; decide), h4⟩
theorem isF_later {T u B b : Nat} {l : List Value} {w w' : World} (h : Lib.IsBuilderF T u B b l w) (k : Below w.heap.size w w') : Lib.IsBuilderF T u B b l w' := by
  have key : ∀ p, Lib.BuilderAtF T u B b p l w → Lib.BuilderAtF T u B b p l w' := by
    rintro p ⟨h1, v, h2, h3, h4⟩
    have hlt := (Array.getElem?_eq_some_iff.1 h2).1
    refine ⟨h1, v, (k.block _ hlt).trans h2, h3.kept (row := none) ⟨k.os, k.tape, k.output, k.size, fun i hi _ => k.block i hi⟩ (by by_cases e : v.ownBlock = none; exact .inl e; exact .inr e), h4⟩
  exact h.imp (key _) (key _)
theorem row_s {B n : Nat} {v : Value} {xs : List Value} {w : World} (o : w.ownsRow B 9 1 v n xs) (hn : 0 < n) : ∃ g c, v = .slice (some ⟨g, 0, none⟩) n c ∧ ∀ j, j < n → w.cell? ⟨g, j, none⟩ = xs[j]? := by
  rcases o.2 with ⟨_, h0⟩ | ⟨g, cap, cur, rfl, _, h3, h4, h5, h6, h7⟩
  · omega
  · refine ⟨g, cap, rfl, fun j hj => ?_⟩
    rw [cell_of_row _ _ j _ _ _ h3]
    have e : (cur.toList.take (n * 1))[j]? = xs[j]? := by rw [h7]
    rw [List.getElem?_take_of_lt (by omega)] at e
    rw [← e]; simp
def imageT (r : List Rec) : ByteArray := ⟨(imgB r).toArray⟩
end Go.Proofs.YtmindflfjocjlaaGreat.yp

namespace Go.Proofs.YtmindflfjocjlaaGreat.yq
open Go.RowKit Go.PlainAid Go.Maps Go.Shelf
open Go.Proofs.YtmindflfjocjlaaGreat.ca Go.Proofs.YtmindflfjocjlaaGreat.cb Go.Proofs.YtmindflfjocjlaaGreat.cp Go.Proofs.YtmindflfjocjlaaGreat.kp Go.Proofs.YtmindflfjocjlaaGreat.ka Go.Proofs.YtmindflfjocjlaaGreat.ya Go.Proofs.YtmindflfjocjlaaGreat.yb Go.Proofs.YtmindflfjocjlaaGreat.yc Go.Proofs.YtmindflfjocjlaaGreat.yd Go.Proofs.YtmindflfjocjlaaGreat.ye Go.Proofs.YtmindflfjocjlaaGreat.yf Go.Proofs.YtmindflfjocjlaaGreat.yg Go.Proofs.YtmindflfjocjlaaGreat.yi Go.Proofs.YtmindflfjocjlaaGreat.yk Go.Proofs.YtmindflfjocjlaaGreat.yl Go.Proofs.YtmindflfjocjlaaGreat.yo Go.Proofs.YtmindflfjocjlaaGreat.yp Go.Proofs.YtmindflfjocjlaaGreat.sb Go.Proofs.YtmindflfjocjlaaGreat.mc
set_option linter.unusedVariables false
set_option linter.unusedSimpArgs false
def kK : ByteArray := ⟨#[107]⟩
def vV : ByteArray := ⟨#[118]⟩
def s0 : S := ⟨100, [], [], 0, false, 0⟩
def s1 : S := ⟨100, [], [⟨false, kK, vV⟩], 0, false, 0⟩
def s2 : S := ⟨100, [(kK, vV)], [], 0, false, 0⟩
theorem put_is : putS s0 kK vV = (0, s1) := by kernel_rfl
theorem sync_is : syncS s1 = (0, s2) := by kernel_rfl
theorem get_is : getS s2 kK = (vV, 0) := by kernel_rfl
theorem tot_is : tot (now s2) = 18 := by kernel_rfl
theorem img_is : imageT s2.dur = ⟨#[83, 1, 107, 0, 0, 0, 1, 118]⟩ := by kernel_rfl
end Go.Proofs.YtmindflfjocjlaaGreat.yq

namespace Go.Proofs.YtmindflfjocjlaaGreat.yr
open Go.RowKit Go.PlainAid Go.Maps Go.Shelf
open Go.Proofs.YtmindflfjocjlaaGreat.ca Go.Proofs.YtmindflfjocjlaaGreat.cb Go.Proofs.YtmindflfjocjlaaGreat.cp Go.Proofs.YtmindflfjocjlaaGreat.kp Go.Proofs.YtmindflfjocjlaaGreat.ka Go.Proofs.YtmindflfjocjlaaGreat.ya Go.Proofs.YtmindflfjocjlaaGreat.yb Go.Proofs.YtmindflfjocjlaaGreat.yc Go.Proofs.YtmindflfjocjlaaGreat.yd Go.Proofs.YtmindflfjocjlaaGreat.ye Go.Proofs.YtmindflfjocjlaaGreat.yf Go.Proofs.YtmindflfjocjlaaGreat.yg Go.Proofs.YtmindflfjocjlaaGreat.yi Go.Proofs.YtmindflfjocjlaaGreat.yj Go.Proofs.YtmindflfjocjlaaGreat.yk Go.Proofs.YtmindflfjocjlaaGreat.yl Go.Proofs.YtmindflfjocjlaaGreat.ym Go.Proofs.YtmindflfjocjlaaGreat.yn Go.Proofs.YtmindflfjocjlaaGreat.yo Go.Proofs.YtmindflfjocjlaaGreat.yp Go.Proofs.YtmindflfjocjlaaGreat.sb Go.Proofs.YtmindflfjocjlaaGreat.mc
set_option linter.unusedVariables false
set_option linter.unusedSimpArgs false
theorem kset (w : World) (p o : Nat) (v : Value) : Kp (fun q => q = p) w (w.setCell ⟨p, o, none⟩ v) := Kp.setCell _ _ _ _ rfl
theorem put8 (w : World) (p : Nat) (a0 a1 a2 a3 a4 a5 a6 a7 x0 x1 x2 x3 x4 x5 x6 x7 : Value) (t : TypeId) (h : w.heap[p]? = some (.cells #[a0, a1, a2, a3, a4, a5, a6, a7] t (0, 0))) :
    ∀ W, W = ((((((((w.setCell ⟨p, 0, none⟩ x0).setCell ⟨p, 1, none⟩ x1).setCell ⟨p, 2, none⟩ x2).setCell ⟨p, 3, none⟩ x3).setCell ⟨p, 4, none⟩ x4).setCell ⟨p, 5, none⟩ x5).setCell ⟨p, 6, none⟩ x6).setCell ⟨p, 7, none⟩ x7) → W.heap[p]? = some (.cells #[x0, x1, x2, x3, x4, x5, x6, x7] t (0, 0)) ∧ Kp (fun q => q = p) w W := by
  intro W hW
  obtain ⟨u0_, e0⟩ : ∃ v, v = w.setCell ⟨p, 0, none⟩ x0 := ⟨_, rfl⟩
  rw [← e0] at hW
  have h0 : u0_.heap[p]? = some (.cells #[x0, a1, a2, a3, a4, a5, a6, a7] t (0, 0)) := by rw [e0]; exact heap_setCell_same _ _ 0 _ _ x0 h
  have k0 : Kp (fun q => q = p) w u0_ := by rw [e0]; exact kset _ _ _ _
  clear e0
  obtain ⟨u1_, e1⟩ : ∃ v, v = u0_.setCell ⟨p, 1, none⟩ x1 := ⟨_, rfl⟩
  rw [← e1] at hW
  have h1 : u1_.heap[p]? = some (.cells #[x0, x1, a2, a3, a4, a5, a6, a7] t (0, 0)) := by rw [e1]; exact heap_setCell_same _ _ 1 _ _ x1 h0
  have k1 : Kp (fun q => q = p) u0_ u1_ := by rw [e1]; exact kset _ _ _ _
  clear e1
  obtain ⟨u2_, e2⟩ : ∃ v, v = u1_.setCell ⟨p, 2, none⟩ x2 := ⟨_, rfl⟩
  rw [← e2] at hW
  have h2 : u2_.heap[p]? = some (.cells #[x0, x1, x2, a3, a4, a5, a6, a7] t (0, 0)) := by rw [e2]; exact heap_setCell_same _ _ 2 _ _ x2 h1
  have k2 : Kp (fun q => q = p) u1_ u2_ := by rw [e2]; exact kset _ _ _ _
  clear e2
  obtain ⟨u3_, e3⟩ : ∃ v, v = u2_.setCell ⟨p, 3, none⟩ x3 := ⟨_, rfl⟩
  rw [← e3] at hW
  have h3 : u3_.heap[p]? = some (.cells #[x0, x1, x2, x3, a4, a5, a6, a7] t (0, 0)) := by rw [e3]; exact heap_setCell_same _ _ 3 _ _ x3 h2
  have k3 : Kp (fun q => q = p) u2_ u3_ := by rw [e3]; exact kset _ _ _ _
  clear e3
  obtain ⟨u4_, e4⟩ : ∃ v, v = u3_.setCell ⟨p, 4, none⟩ x4 := ⟨_, rfl⟩
  rw [← e4] at hW
  have h4 : u4_.heap[p]? = some (.cells #[x0, x1, x2, x3, x4, a5, a6, a7] t (0, 0)) := by rw [e4]; exact heap_setCell_same _ _ 4 _ _ x4 h3
  have k4 : Kp (fun q => q = p) u3_ u4_ := by rw [e4]; exact kset _ _ _ _
  clear e4
  obtain ⟨u5_, e5⟩ : ∃ v, v = u4_.setCell ⟨p, 5, none⟩ x5 := ⟨_, rfl⟩
  rw [← e5] at hW
  have h5 : u5_.heap[p]? = some (.cells #[x0, x1, x2, x3, x4, x5, a6, a7] t (0, 0)) := by rw [e5]; exact heap_setCell_same _ _ 5 _ _ x5 h4
  have k5 : Kp (fun q => q = p) u4_ u5_ := by rw [e5]; exact kset _ _ _ _
  clear e5
  obtain ⟨u6_, e6⟩ : ∃ v, v = u5_.setCell ⟨p, 6, none⟩ x6 := ⟨_, rfl⟩
  rw [← e6] at hW
  have h6 : u6_.heap[p]? = some (.cells #[x0, x1, x2, x3, x4, x5, x6, a7] t (0, 0)) := by rw [e6]; exact heap_setCell_same _ _ 6 _ _ x6 h5
  have k6 : Kp (fun q => q = p) u5_ u6_ := by rw [e6]; exact kset _ _ _ _
  clear e6
  have h7 : W.heap[p]? = some (.cells #[x0, x1, x2, x3, x4, x5, x6, x7] t (0, 0)) := by rw [hW]; exact heap_setCell_same _ _ 7 _ _ x7 h6
  have k7 : Kp (fun q => q = p) u6_ W := by rw [hW]; exact kset _ _ _ _
  exact ⟨h7, ((((((k0.trans k1).trans k2).trans k3).trans k4).trans k5).trans k6).trans k7⟩
theorem eight {w : World} {p : Nat} {x0 x1 x2 x3 x4 x5 x6 x7 : Value} {t : TypeId} (h : w.heap[p]? = some (.cells #[x0, x1, x2, x3, x4, x5, x6, x7] t (0, 0))) : w.cell? ⟨p, 0, none⟩ = some x0 ∧ w.cell? ⟨p, 1, none⟩ = some x1 ∧ w.cell? ⟨p, 2, none⟩ = some x2 ∧ w.cell? ⟨p, 3, none⟩ = some x3 ∧ w.cell? ⟨p, 4, none⟩ = some x4 ∧ w.cell? ⟨p, 5, none⟩ = some x5 ∧ w.cell? ⟨p, 6, none⟩ = some x6 ∧ w.cell? ⟨p, 7, none⟩ = some x7 :=
  ⟨cell_of_row _ _ 0 _ _ _ h, cell_of_row _ _ 1 _ _ _ h, cell_of_row _ _ 2 _ _ _ h, cell_of_row _ _ 3 _ _ _ h, cell_of_row _ _ 4 _ _ _ h, cell_of_row _ _ 5 _ _ _ h, cell_of_row _ _ 6 _ _ _ h, cell_of_row _ _ 7 _ _ _ h⟩
theorem froz8 {w : World} {p : Nat} {x0 x1 x2 x3 x4 x5 x6 x7 : Value} {t : TypeId} (h : w.heap[p]? = some (.cells #[x0, x1, x2, x3, x4, x5, x6, x7] t (0, 0))) : w.frozen? ⟨p, 0, none⟩ = false ∧ w.frozen? ⟨p, 1, none⟩ = false ∧ w.frozen? ⟨p, 2, none⟩ = false ∧ w.frozen? ⟨p, 3, none⟩ = false ∧ w.frozen? ⟨p, 4, none⟩ = false ∧ w.frozen? ⟨p, 5, none⟩ = false ∧ w.frozen? ⟨p, 6, none⟩ = false ∧ w.frozen? ⟨p, 7, none⟩ = false :=
  ⟨frozen_of_row _ _ 0 _ _ h, frozen_of_row _ _ 1 _ _ h, frozen_of_row _ _ 2 _ _ h, frozen_of_row _ _ 3 _ _ h, frozen_of_row _ _ 4 _ _ h, frozen_of_row _ _ 5 _ _ h, frozen_of_row _ _ 6 _ _ h, frozen_of_row _ _ 7 _ _ h⟩
def doS (s : S) (kind : Int) (k d : ByteArray) (n : Int) : Int × S := if kind = 1 then putS s k d else if kind = 2 then cutS s k else if kind = 3 then syncS s else if kind = 4 then (0, armS s n) else if kind = 5 then (0, crashS s d) else if kind = 6 then ((getS s k).2, s) else (0, s)
abbrev Z8 : Array Value := #[.string ⟨#[]⟩, .slice none 0 0, .int .i64 0, .int .i64 0, .int .i64 0, .int .i64 0, .bool false, .int .i64 0]
-- the law's own boxes, the call, the answer written: the store's call is what remains
theorem rn_wrap {B g bn bd p : Nat} {pv : Value} {s s' : S} {w W1 w2 W : World} (h : Sr B g bn bd pv s w) (b1 : Below w.heap.size w W1) (r : Rn B g bn bd pv s' W1 w2) (k : Kp (fun q => q = p) w2 W) (hp : w.heap.size ≤ p) (hp2 : p < W1.heap.size) : Rn B g bn bd pv s' w W := by
  obtain ⟨pv2, h2, k2, n2⟩ := r
  have key : ∀ j, Fr g bn bd pv2 j → j ≠ p := by
    rintro j (e | e | e | e) rfl
    · have := (sr_in h j (.inl e)).1; omega
    · have := (sr_in h j (.inr (.inl e))).1; omega
    · have := (sr_in h j (.inr (.inr (.inl e)))).1; omega
    · rcases n2 j e with e | e
      · have := (sr_in h j (.inr (.inr (.inr e)))).1; omega
      · omega
  refine ⟨pv2, sr_keep h2 k (fun j hj e => key j hj e), ⟨k.os.trans (k2.os.trans b1.os), k.tape.trans (k2.tape.trans b1.tape), k.output.trans (k2.output.trans b1.output), Nat.le_trans b1.size (Nat.le_trans k2.size k.size), fun j hj hn => ?_⟩, fun j hj => ?_⟩
  · have hs := b1.size
    have hs2 := k2.size
    rw [k.block j (by omega) (by omega), k2.block j (by omega) hn, b1.block j hj]
  · rcases n2 j hj with e | e
    · exact .inl e
    · exact .inr (Nat.le_trans b1.size e)
theorem rn_cells {B g bn bd p : Nat} {pv : Value} {s s' : S} {w W1 w2 : World} {o : Obj} (h : Sr B g bn bd pv s w) (r : Rn B g bn bd pv s' W1 w2) (hp : w.heap.size ≤ p) (ho : W1.heap[p]? = some o) : w2.heap[p]? = some o := by
  obtain ⟨pv2, h2, k2, n2⟩ := r
  rw [k2.block p (Array.getElem?_eq_some_iff.1 ho).1 (fun e => by have := (sr_in h p e).1; omega)]
  exact ho
end Go.Proofs.YtmindflfjocjlaaGreat.yr

namespace Go.Proofs.YtmindflfjocjlaaGreat.ys
open Go.RowKit Go.PlainAid Go.Maps Go.Shelf
open Go.Proofs.YtmindflfjocjlaaGreat.ca Go.Proofs.YtmindflfjocjlaaGreat.cb Go.Proofs.YtmindflfjocjlaaGreat.cp Go.Proofs.YtmindflfjocjlaaGreat.kp Go.Proofs.YtmindflfjocjlaaGreat.ka Go.Proofs.YtmindflfjocjlaaGreat.ya Go.Proofs.YtmindflfjocjlaaGreat.yb Go.Proofs.YtmindflfjocjlaaGreat.yc Go.Proofs.YtmindflfjocjlaaGreat.yd Go.Proofs.YtmindflfjocjlaaGreat.ye Go.Proofs.YtmindflfjocjlaaGreat.yf Go.Proofs.YtmindflfjocjlaaGreat.yg Go.Proofs.YtmindflfjocjlaaGreat.yi Go.Proofs.YtmindflfjocjlaaGreat.yj Go.Proofs.YtmindflfjocjlaaGreat.yk Go.Proofs.YtmindflfjocjlaaGreat.yl Go.Proofs.YtmindflfjocjlaaGreat.ym Go.Proofs.YtmindflfjocjlaaGreat.yn Go.Proofs.YtmindflfjocjlaaGreat.yo Go.Proofs.YtmindflfjocjlaaGreat.yp Go.Proofs.YtmindflfjocjlaaGreat.yr Go.Proofs.YtmindflfjocjlaaGreat.sb Go.Proofs.YtmindflfjocjlaaGreat.mc
set_option linter.unusedVariables false
set_option linter.unusedSimpArgs false
end Go.Proofs.YtmindflfjocjlaaGreat.ys

namespace Go.Proofs.YtmindflfjocjlaaGreat.yt
open Go.RowKit Go.PlainAid Go.Maps Go.Shelf
open Go.Proofs.YtmindflfjocjlaaGreat.ca Go.Proofs.YtmindflfjocjlaaGreat.cb Go.Proofs.YtmindflfjocjlaaGreat.cp Go.Proofs.YtmindflfjocjlaaGreat.kp Go.Proofs.YtmindflfjocjlaaGreat.ka Go.Proofs.YtmindflfjocjlaaGreat.ya Go.Proofs.YtmindflfjocjlaaGreat.yb Go.Proofs.YtmindflfjocjlaaGreat.yc Go.Proofs.YtmindflfjocjlaaGreat.yd Go.Proofs.YtmindflfjocjlaaGreat.ye Go.Proofs.YtmindflfjocjlaaGreat.yf Go.Proofs.YtmindflfjocjlaaGreat.yg Go.Proofs.YtmindflfjocjlaaGreat.yh Go.Proofs.YtmindflfjocjlaaGreat.yi Go.Proofs.YtmindflfjocjlaaGreat.yj Go.Proofs.YtmindflfjocjlaaGreat.yk Go.Proofs.YtmindflfjocjlaaGreat.yl Go.Proofs.YtmindflfjocjlaaGreat.ym Go.Proofs.YtmindflfjocjlaaGreat.yn Go.Proofs.YtmindflfjocjlaaGreat.yo Go.Proofs.YtmindflfjocjlaaGreat.yp Go.Proofs.YtmindflfjocjlaaGreat.yr Go.Proofs.YtmindflfjocjlaaGreat.ys Go.Proofs.YtmindflfjocjlaaGreat.sb Go.Proofs.YtmindflfjocjlaaGreat.mc
set_option linter.unusedVariables false
set_option linter.unusedSimpArgs false
-- what a store's records and pending writes weigh
theorem isz_ins (x : Rec) (r : List Rec) : isz (ins x r) = isz r + (x.1.size + x.2.size + 5) := by
  induction r with
  | nil => simp [ins, isz]; omega
  | cons y r ih =>
    unfold ins
    split
    · simp [isz]; omega
    · simp [isz, ih]; omega
theorem isz_del (k : ByteArray) (r : List Rec) : isz (del k r) ≤ isz r := by
  induction r with
  | nil => exact Nat.le_refl _
  | cons y r ih =>
    unfold del at ih ⊢
    rw [List.filter_cons]
    split
    · simp only [isz]; omega
    · simp only [isz]; omega
def wW (x : W) : Nat := x.key.size + x.data.size + 5
def pw : List W → Nat
  | [] => 0
  | x :: l => wW x + pw l
theorem pw_app (l l' : List W) : pw (l ++ l') = pw l + pw l' := by
  induction l with
  | nil => simp [pw]
  | cons x l ih => simp [pw, ih]; omega
theorem isz_doW (r : List Rec) (x : W) : isz (doW r x) ≤ isz r + wW x := by
  unfold doW
  split
  · have := isz_del x.key r; omega
  · have := isz_del x.key r; rw [put, isz_ins]; simp only [wW]; omega
theorem isz_do (r : List Rec) (l : List W) : isz (l.foldl doW r) ≤ isz r + pw l := by
  induction l generalizing r with
  | nil => simp [pw]
  | cons x l ih => have := ih (doW r x); have := isz_doW r x; simp only [List.foldl_cons, pw]; omega
theorem isz_kd (keep : ByteArray) (l : List W) (r : List Rec) (j : Nat) : isz (kdN keep l r j) ≤ isz r + pw (l.take j) := by
  induction j with
  | zero => simp [kdN, pw]
  | succ j ih =>
    unfold kdN
    split
    · rename_i x hx
      rw [List.take_add_one, hx, pw_app]
      have e : pw (some x).toList = wW x := by simp [pw]
      rw [e]
      split
      · have := isz_doW (kdN keep l r j) x; omega
      · omega
    · rename_i hx
      rw [List.take_add_one, hx]
      simpa using ih
def mass (s : S) : Nat := isz s.dur + pw s.pend
theorem mass_spend (s : S) : mass (spendS s).2 = mass s := by unfold mass; rw [dur_spend, pend_spend]
theorem mass_add (s : S) (x : W) : mass (addW s x) = mass s + wW x := by
  show isz s.dur + pw (s.pend ++ [x]) = _
  rw [pw_app]; simp [mass, pw]; omega
structure Opn where
  kind : Int
  key : ByteArray
  data : ByteArray
  n : Int
def doO (s : S) (o : Opn) : S := (doS s o.kind o.key o.data o.n).2
def wt (o : Opn) : Nat := o.key.size + o.data.size + 5
def nums (s : S) : Nat := s.dur.length + s.pend.length
-- one step: how a store grows
theorem grows (s : S) (o : Opn) : mass (doO s o) ≤ mass s + wt o ∧ nums (doO s o) ≤ nums s + 1 ∧ (doO s o).age ≤ s.age + 1 := by
  have same : mass s ≤ mass s + wt o ∧ nums s ≤ nums s + 1 ∧ s.age ≤ s.age + 1 := ⟨by omega, by omega, by omega⟩
  have add : ∀ x : W, wW x ≤ wt o → mass (spendS (addW s x)).2 ≤ mass s + wt o ∧ nums (spendS (addW s x)).2 ≤ nums s + 1 ∧ (spendS (addW s x)).2.age ≤ s.age + 1 := fun x hx => by
    refine ⟨by rw [mass_spend, mass_add]; omega, ?_, by rw [age_spend]; show s.age ≤ _; omega⟩
    unfold nums
    rw [dur_spend, pend_spend]
    show s.dur.length + (s.pend ++ [x]).length ≤ _
    simp
    omega
  unfold doO doS
  split
  · unfold putS
    split
    · exact same
    · split
      · split
        · exact same
        · exact add _ (Nat.le_refl _)
      · exact same
  · split
    · unfold cutS
      split
      · exact same
      · split
        · exact add _ (by simp [wW, wt])
        · exact same
    · split
      · unfold syncS
        split
        · exact same
        · split
          · refine ⟨by rw [mass_spend]; omega, by unfold nums; rw [dur_spend, pend_spend]; omega, by rw [age_spend]; omega⟩
          · refine ⟨?_, ?_, by show (spendS s).2.age ≤ _; rw [age_spend]; omega⟩
            · show isz (now s) + 0 ≤ _
              have := isz_do s.dur s.pend
              unfold now mass; omega
            · show (now s).length + 0 ≤ _
              have := len_do s.dur s.pend
              unfold now nums; omega
      · split
        · unfold armS
          split <;> exact same
        · split
          · refine ⟨?_, ?_, by show s.age + 1 ≤ _; omega⟩
            · show isz (kdN o.data s.pend s.dur s.pend.length) + 0 ≤ _
              have := isz_kd o.data s.pend s.dur s.pend.length
              rw [List.take_length] at this
              unfold mass; omega
            · show (kdN o.data s.pend s.dur s.pend.length).length + 0 ≤ _
              have := len_kd o.data s.pend s.dur s.pend.length
              unfold nums; omega
          · split <;> exact same
def tw : List Opn → Nat
  | [] => 0
  | o :: l => wt o + tw l
theorem tw_at (l : List Opn) (j : Nat) (o : Opn) (h : l[j]? = some o) : tw (l.take (j + 1)) = tw (l.take j) + wt o := by
  induction l generalizing j with
  | nil => simp at h
  | cons p l ih =>
    cases j with
    | zero => simp at h; subst h; simp [tw]
    | succ j => simp only [List.take_succ_cons, tw]; have := ih j (by simpa using h); omega
theorem tw_take (l : List Opn) (j : Nat) : tw (l.take j) ≤ tw l := by
  induction l generalizing j with
  | nil => simp
  | cons p l ih =>
    cases j with
    | zero => simp [tw]
    | succ j => simp only [List.take_succ_cons, tw]; have := ih j; omega
theorem steps (s : S) (l : List Opn) (j : Nat) : mass ((l.take j).foldl doO s) ≤ mass s + tw (l.take j) ∧ nums ((l.take j).foldl doO s) ≤ nums s + j ∧ ((l.take j).foldl doO s).age ≤ s.age + j := by
  induction j with
  | zero => simp [tw]
  | succ j ih =>
    cases hx : l[j]? with
    | none =>
      rw [List.take_add_one, hx]
      simp only [Option.toList_none, List.append_nil]
      omega
    | some o =>
      have h1 := grows ((l.take j).foldl doO s) o
      have h2 := tw_at l j o hx
      rw [h2, List.take_add_one, hx, List.foldl_append]
      show mass (doO ((l.take j).foldl doO s) o) ≤ _ ∧ nums (doO ((l.take j).foldl doO s) o) ≤ _ ∧ (doO ((l.take j).foldl doO s) o).age ≤ _
      omega
end Go.Proofs.YtmindflfjocjlaaGreat.yt

namespace Go.Proofs.YtmindflfjocjlaaGreat.yu
open Go.RowKit Go.PlainAid Go.Maps Go.Shelf
open Go.Proofs.YtmindflfjocjlaaGreat.ca Go.Proofs.YtmindflfjocjlaaGreat.cb Go.Proofs.YtmindflfjocjlaaGreat.cp Go.Proofs.YtmindflfjocjlaaGreat.kp Go.Proofs.YtmindflfjocjlaaGreat.ka Go.Proofs.YtmindflfjocjlaaGreat.ya Go.Proofs.YtmindflfjocjlaaGreat.yb Go.Proofs.YtmindflfjocjlaaGreat.yc Go.Proofs.YtmindflfjocjlaaGreat.yd Go.Proofs.YtmindflfjocjlaaGreat.ye Go.Proofs.YtmindflfjocjlaaGreat.yf Go.Proofs.YtmindflfjocjlaaGreat.yg Go.Proofs.YtmindflfjocjlaaGreat.yo Go.Proofs.YtmindflfjocjlaaGreat.yp Go.Proofs.YtmindflfjocjlaaGreat.yr Go.Proofs.YtmindflfjocjlaaGreat.ys Go.Proofs.YtmindflfjocjlaaGreat.yt Go.Proofs.YtmindflfjocjlaaGreat.sb Go.Proofs.YtmindflfjocjlaaGreat.mc
set_option linter.unusedVariables false
set_option linter.unusedSimpArgs false
-- a script in memory, in a block below B
def OkO (o : Opn) : Prop := o.key.size ≤ 140737488355328 ∧ o.data.size ≤ 140737488355328 ∧ o.n ≤ 9223372036854775807
structure ReadsO (B : Nat) (w : World) (v : Value) (l : List Opn) : Prop where
  form : ∃ a c, v = .slice a l.length c ∧ (l.length = 0 ∨ ∃ b off, a = some ⟨b, off, none⟩ ∧ b < B ∧ ∀ i o, l[i]? = some o → w.cell? ⟨b, off + i * 4, none⟩ = some (.int .i64 o.kind) ∧ w.cell? ⟨b, off + i * 4 + 1, none⟩ = some (.string o.key) ∧ w.cell? ⟨b, off + i * 4 + 2, none⟩ = some (.string o.data) ∧ w.cell? ⟨b, off + i * 4 + 3, none⟩ = some (.int .i64 o.n))
  each : ∀ o ∈ l, OkO o
theorem ReadsO.later {B : Nat} {w w' : World} {v : Value} {l : List Opn} (h : ReadsO B w v l) (hb : Below B w w') : ReadsO B w' v l := by
  obtain ⟨⟨a, c, e, h1⟩, h2⟩ := h
  refine ⟨⟨a, c, e, h1.imp id ?_⟩, h2⟩
  rintro ⟨b, off, e1, e2, h3⟩
  refine ⟨b, off, e1, e2, fun i o ho => ?_⟩
  have key : ∀ j x, w.cell? ⟨b, j, none⟩ = some x → w'.cell? ⟨b, j, none⟩ = some x := fun j x hx => by
    rw [← hx]
    unfold World.cell?
    rw [show (⟨b, j, none⟩ : Addr).block = b from rfl, hb.block b e2]
  obtain ⟨q0, q1, q2, q3⟩ := h3 i o ho
  exact ⟨key _ _ q0, key _ _ q1, key _ _ q2, key _ _ q3⟩
theorem rn_join {B g bn bd : Nat} {pv p1 : Value} {s : S} {w w1 w2 : World} (k1 : Kp (Fr g bn bd pv) w w1) (n1 : ∀ k, some k = p1.ownBlock → some k = pv.ownBlock ∨ w.heap.size ≤ k) (r : Rn B g bn bd p1 s w1 w2) : Rn B g bn bd pv s w w2 := by
  obtain ⟨p2, h2, k2, n2⟩ := r
  refine ⟨p2, h2, ⟨k2.os.trans k1.os, k2.tape.trans k1.tape, k2.output.trans k1.output, Nat.le_trans k1.size k2.size, fun j hj hn => ?_⟩, fun j hj => ?_⟩
  · refine (k2.block j (Nat.lt_of_lt_of_le hj k1.size) ?_).trans (k1.block j hj hn)
    rintro (e | e | e | e)
    · exact hn (.inl e)
    · exact hn (.inr (.inl e))
    · exact hn (.inr (.inr (.inl e)))
    · rcases n1 j e with e | e
      · exact hn (.inr (.inr (.inr e)))
      · omega
  · rcases n2 j hj with e | e
    · exact n1 j e
    · exact .inr (Nat.le_trans k1.size e)
end Go.Proofs.YtmindflfjocjlaaGreat.yu

namespace Go.Proofs.YtmindflfjocjlaaGreat.bn
open Go.RowKit Go.PlainAid
open Go.Proofs.YtmindflfjocjlaaGreat.ca Go.Proofs.YtmindflfjocjlaaGreat.cp Go.Proofs.YtmindflfjocjlaaGreat.ka
set_option linter.unusedVariables false

theorem getD_at (xs : List ByteArray) (k : Nat) (h : k < xs.length) : xs.getD k ByteArray.empty = xs[k] := by
  rw [List.getD_eq_getElem?_getD, List.getElem?_eq_getElem h]; rfl
theorem lists_eq {xs ys : List ByteArray} (hl : xs.length = ys.length) (h : ∀ j, j < xs.length → xs.getD j ByteArray.empty = ys.getD j ByteArray.empty) : xs = ys := by
  apply List.ext_getElem hl
  intro j h1 h2
  have := h j h1
  rwa [getD_at _ _ h1, getD_at _ _ h2] at this
theorem beqL (a b : ByteArray) : (a.toList == b.toList) = decide (a = b) := by
  by_cases h : a = b
  · subst h; simp
  · rw [decide_eq_false h, beq_eq_false_iff_ne, ByteArray.toList_eq, ByteArray.toList_eq]
    intro e
    exact h (ByteArray.ext (Array.ext' e))
theorem beqLit (a : ByteArray) (l : List UInt8) : (a.toList == l) = decide (a = ⟨l.toArray⟩) := by
  rw [← beqL, ByteArray.toList_eq, ByteArray.toList_eq]
end Go.Proofs.YtmindflfjocjlaaGreat.bn

namespace Go.Proofs.YtmindflfjocjlaaGreat.yv
open Go.RowKit Go.PlainAid Go.Maps Go.Shelf
open Go.Proofs.YtmindflfjocjlaaGreat.ca Go.Proofs.YtmindflfjocjlaaGreat.cb Go.Proofs.YtmindflfjocjlaaGreat.cp Go.Proofs.YtmindflfjocjlaaGreat.kp Go.Proofs.YtmindflfjocjlaaGreat.ka Go.Proofs.YtmindflfjocjlaaGreat.ya Go.Proofs.YtmindflfjocjlaaGreat.yb Go.Proofs.YtmindflfjocjlaaGreat.yc Go.Proofs.YtmindflfjocjlaaGreat.yd Go.Proofs.YtmindflfjocjlaaGreat.ye Go.Proofs.YtmindflfjocjlaaGreat.yf Go.Proofs.YtmindflfjocjlaaGreat.yg Go.Proofs.YtmindflfjocjlaaGreat.ym Go.Proofs.YtmindflfjocjlaaGreat.yn Go.Proofs.YtmindflfjocjlaaGreat.yo Go.Proofs.YtmindflfjocjlaaGreat.yp Go.Proofs.YtmindflfjocjlaaGreat.yq Go.Proofs.YtmindflfjocjlaaGreat.yr Go.Proofs.YtmindflfjocjlaaGreat.ys Go.Proofs.YtmindflfjocjlaaGreat.yt Go.Proofs.YtmindflfjocjlaaGreat.yu Go.Proofs.YtmindflfjocjlaaGreat.bn Go.Proofs.YtmindflfjocjlaaGreat.sb Go.Proofs.YtmindflfjocjlaaGreat.mc
set_option linter.unusedVariables false
set_option linter.unusedSimpArgs false
theorem ReadsO_up {B B' : Nat} {w : World} {v : Value} {l : List Opn} (h : ReadsO B w v l) (hB : B ≤ B') : ReadsO B' w v l := by
  obtain ⟨⟨a, c, e, h1⟩, h2⟩ := h
  refine ⟨⟨a, c, e, h1.imp id ?_⟩, h2⟩
  rintro ⟨b, off, e1, e2, h3⟩
  exact ⟨b, off, e1, by omega, h3⟩
theorem below_dm {B m : Nat} {a w w' : World} (h : Below B a w) (e : w' = w.drewN m) : Below B a w' := by rw [e]; exact below_dN h m
-- a store in memory, its blocks above B, behind whatever was done since w
structure At (B g bn bd : Nat) (s : S) (w w' : World) : Prop where
  ex : ∃ pv, Sr B g bn bd pv s w'
  bl : Below B w w'
theorem At.lat {B g bn bd : Nat} {s : S} {w w1 w2 : World} (h : At B g bn bd s w w1) (hb : Below w1.heap.size w1 w2) (hB : B ≤ w.heap.size) : At B g bn bd s w w2 := by
  obtain ⟨⟨pv, h1⟩, h2⟩ := h
  exact ⟨⟨pv, sr_later h1 hb⟩, h2.trans (hb.mono (Nat.le_trans hB h2.size))⟩
end Go.Proofs.YtmindflfjocjlaaGreat.yv
