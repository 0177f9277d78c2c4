import Derived.Test.YthdkbjbhjfiaiaaGreatDoorM2
import Derived.Test.YthdkbjbhjfiaiaaGreatDoorJ1
import Derived.Test.YthdkbjbhjfiaiaaGreatDoorM1
import Derived.Test.YthdkbjbhjfiaiaaGreatDoorTk
import Derived.Test.YthdkbjbhjfiaiaaGreatDoorTh
import Derived.Deep.RegionHeld3
import Derived.Deep.AppendLies
import Derived.Deep.RegionLaw
import Derived.Test.YthdkbjbhjfiaiaaGreatDoorH1
import Derived.Test.YthdkbjbhjfiaiaaGreatDoorRows
import Derived.Test.YthdkbjbhjfiaiaaGreatDoorXA
import Derived.ProofKit
import Derived.LaidMore
import Derived.OpenShut
import Derived.Stop.Joined
import Derived.Stop.LaidErr
import Derived.Lib.LaidTab
namespace Go.Proofs.YthdkbjbhjfiaiaaGreatDoor.z1
open Go.RowKit Go.PlainAid
open Go.Proofs.YthdkbjbhjfiaiaaGreatDoor.ta Go.Proofs.YthdkbjbhjfiaiaaGreatDoor.tb Go.Proofs.YthdkbjbhjfiaiaaGreatDoor.tc Go.Proofs.YthdkbjbhjfiaiaaGreatDoor.tj Go.Proofs.YthdkbjbhjfiaiaaGreatDoor.tk Go.Proofs.YthdkbjbhjfiaiaaGreatDoor.va Go.Proofs.YthdkbjbhjfiaiaaGreatDoor.vc Go.Proofs.YthdkbjbhjfiaiaaGreatDoor.vd Go.Proofs.YthdkbjbhjfiaiaaGreatDoor.wa Go.Proofs.YthdkbjbhjfiaiaaGreatDoor.wb Go.Proofs.YthdkbjbhjfiaiaaGreatDoor.n3 Go.Proofs.YthdkbjbhjfiaiaaGreatDoor.o3 Go.Proofs.YthdkbjbhjfiaiaaGreatDoor.q2 Go.Proofs.YthdkbjbhjfiaiaaGreatDoor.t3 Go.Proofs.YthdkbjbhjfiaiaaGreatDoor.yc Go.Proofs.YthdkbjbhjfiaiaaGreatDoor.u1 Go.Proofs.YthdkbjbhjfiaiaaGreatDoor.w1 Go.Proofs.YthdkbjbhjfiaiaaGreatDoor.w3 Go.Proofs.YthdkbjbhjfiaiaaGreatDoor.yta Go.Proofs.YthdkbjbhjfiaiaaGreatDoor.ytb Go.Proofs.YthdkbjbhjfiaiaaGreatDoor.ytc Go.Proofs.YthdkbjbhjfiaiaaGreatDoor.ytd
open Go.Proofs.YthdkbjbhjfiaiaaGreatDoor.y1 (linesP)
set_option linter.unusedVariables false
set_option maxRecDepth 4000

-- what a checkpoint's text says
structure Pt where
  o : ByteArray
  n : Int
  r : ByteArray
  ext : List ByteArray
theorem rows_all (s : ByteArray) : (∃ ls : List ByteArray, s = flN ls ∧ (∀ l ∈ ls, no10 l) ∧ linesP (bs s) = some (ls.map bs)) ∨ linesP (bs s) = none := by
  obtain ⟨ls, t, h1, h2, h3⟩ := lines_ex s.size s rfl
  by_cases ht : t.size = 0
  · left
    have e : t = ByteArray.empty := bs_inj (List.length_eq_zero_iff.1 (by rw [bs_length]; exact ht))
    subst e
    rw [ByteArray.append_empty] at h1
    exact ⟨ls, h1, h2, by rw [h1]; exact lines_flN ls h2⟩
  · right
    refine lines_no s (by rw [h1, ByteArray.size_append]; omega) ?_
    have e : s.size - 1 = (flN ls).size + (t.size - 1) := by rw [h1, ByteArray.size_append]; omega
    rw [e, h1, bt_right _ _ _ (by omega)]
    exact h3 _ (by omega)
open Classical in
noncomputable def flP (s : ByteArray) : Option Pt := match linesP (bs s) with
  | some (x :: y :: z :: l) => if (∃ n, I64 n ∧ decS n = str y) ∧ Acc64 (bs (str z)) then some ⟨str x, unN (str y), str (cutL (bs (str z))), l.map str⟩ else none
  | _ => none
open Classical in
noncomputable def ptP (s : ByteArray) : Option Pt := match flP s with
  | some p => if txE p.o p.n p.r p.ext = 0 ∧ txT p.o p.n p.r p.ext = s then some p else none
  | none => none
theorem flP_none (s : ByteArray) (h : linesP (bs s) = none) : flP s = none := by unfold flP; rw [h]
theorem flP_few (s : ByteArray) (ls : List ByteArray) (h : linesP (bs s) = some (ls.map bs)) (hl : ls.length < 3) : flP s = none := by
  unfold flP
  rw [h]
  match ls, hl with
  | [], _ => rfl
  | [_], _ => rfl
  | [_, _], _ => rfl
open Classical in
theorem flP_yes (s x y z : ByteArray) (l : List ByteArray) (h : linesP (bs s) = some ((x :: y :: z :: l).map bs)) (hy : ∃ n, I64 n ∧ decS n = y) (hz : Acc64 (bs z)) : flP s = some ⟨x, unN y, str (cutL (bs z)), l⟩ := by
  unfold flP
  rw [h]
  show (if (∃ n, I64 n ∧ decS n = str (bs y)) ∧ Acc64 (bs (str (bs z))) then some _ else none) = _
  rw [str_bs, str_bs, str_bs, if_pos ⟨hy, hz⟩, map_str_bs]
open Classical in
theorem flP_no (s x y z : ByteArray) (l : List ByteArray) (h : linesP (bs s) = some ((x :: y :: z :: l).map bs)) (hn : ¬ ((∃ n, I64 n ∧ decS n = y) ∧ Acc64 (bs z))) : flP s = none := by
  unfold flP
  rw [h]
  show (if (∃ n, I64 n ∧ decS n = str (bs y)) ∧ Acc64 (bs (str (bs z))) then some _ else none) = _
  rw [str_bs, str_bs, if_neg hn]
theorem flP_form (s : ByteArray) (p : Pt) (h : flP s = some p) : ∃ x y z l, s = flN (x :: y :: z :: l) ∧ (∀ t ∈ x :: y :: z :: l, no10 t) ∧ linesP (bs s) = some ((x :: y :: z :: l).map bs) ∧ (∃ n, I64 n ∧ decS n = y) ∧ Acc64 (bs z) ∧ p = ⟨x, unN y, str (cutL (bs z)), l⟩ := by
  rcases rows_all s with ⟨ls, h1, h2, h3⟩ | hn
  · match ls, h1, h2, h3 with
    | [], _, _, h3 => rw [flP_few s [] h3 (by simp)] at h; cases h
    | [a], _, _, h3 => rw [flP_few s [a] h3 (by simp)] at h; cases h
    | [a, b], _, _, h3 => rw [flP_few s [a, b] h3 (by simp)] at h; cases h
    | x :: y :: z :: l, h1, h2, h3 =>
      by_cases hc : (∃ n, I64 n ∧ decS n = y) ∧ Acc64 (bs z)
      · rw [flP_yes s x y z l h3 hc.1 hc.2] at h
        exact ⟨x, y, z, l, h1, h2, h3, hc.1, hc.2, (Option.some.inj h).symm⟩
      · rw [flP_no s x y z l h3 hc] at h
        cases h
  · rw [flP_none s hn] at h; cases h
theorem cut_size (z : ByteArray) (h : Acc64 (bs z)) : (str (cutL (bs z))).size ≤ z.size := by
  obtain ⟨h1, h2⟩ := b64_back (bs z) (bs_in z) h
  have h3 := congrArg List.length h1
  rw [b64L_length, bs_length] at h3
  rw [str_size]
  omega
theorem tk_fl (l : List ByteArray) : tk l l.length + l.length = (flN l).size := by rw [fl_size, tk_all]
theorem fl_cons (x : ByteArray) (l : List ByteArray) : (flN (x :: l)).size = x.size + 1 + (flN l).size := by
  rw [flN, ByteArray.size_append, ByteArray.size_append]; rfl
theorem fl_small (s : ByteArray) (p : Pt) (h : flP s = some p) : p.o.size ≤ s.size ∧ p.r.size ≤ s.size ∧ tk p.ext p.ext.length + p.ext.length ≤ s.size ∧ I64 p.n := by
  obtain ⟨x, y, z, l, h1, _, _, _, h5, rfl⟩ := flP_form s p h
  have h6 := cut_size z h5
  have h7 := fl_cons x (y :: z :: l)
  have h8 := fl_cons y (z :: l)
  have h9 := fl_cons z l
  rw [← h1] at h7
  refine ⟨?_, ?_, ?_, unN_in y⟩
  · show x.size ≤ _; omega
  · show (str (cutL (bs z))).size ≤ _; omega
  · show tk l l.length + l.length ≤ _; rw [tk_fl]; omega
theorem pt_some (s : ByteArray) (p : Pt) (h : flP s = some p) (h1 : txE p.o p.n p.r p.ext = 0) (h2 : txT p.o p.n p.r p.ext = s) : ptP s = some p := by
  unfold ptP
  rw [h]
  exact if_pos ⟨h1, h2⟩
theorem pt_no (s : ByteArray) (p : Pt) (h : flP s = some p) (h1 : ¬ (txE p.o p.n p.r p.ext = 0 ∧ txT p.o p.n p.r p.ext = s)) : ptP s = none := by
  unfold ptP
  rw [h]
  exact if_neg h1
theorem pt_none (s : ByteArray) (h : flP s = none) : ptP s = none := by
  unfold ptP
  rw [h]
theorem pt_form (s : ByteArray) (p : Pt) (h : ptP s = some p) : flP s = some p ∧ txE p.o p.n p.r p.ext = 0 ∧ txT p.o p.n p.r p.ext = s := by
  cases e : flP s with
  | none => rw [pt_none s e] at h; cases h
  | some q =>
    by_cases hc : txE q.o q.n q.r q.ext = 0 ∧ txT q.o q.n q.r q.ext = s
    · rw [pt_some s q e hc.1 hc.2] at h
      obtain rfl := Option.some.inj h
      exact ⟨rfl, hc.1, hc.2⟩
    · rw [pt_no s q e hc] at h; cases h
-- what is written is read
theorem no10_nl {x : ByteArray} (h : nl x = false) : no10 x := by
  intro j hj e
  have : nl x = true := (nl_iff x).2 (by
    rw [← e, ← bs_get x j hj]
    exact List.getElem_mem _)
  rw [h] at this
  cases this
theorem pt_back (o : ByteArray) (n : Int) (r : ByteArray) (ext : List ByteArray) (hn : I64 n) (h : txE o n r ext = 0) : ptP (txT o n r ext) = some ⟨o, n, r, ext⟩ := by
  have hT : txT o n r ext = flN (o :: decS n :: str (b64L (bs r)) :: ext) := by unfold txT; rw [if_pos h]; rfl
  have hU := h
  unfold txE at hU
  by_cases h1 : nm o = false
  · rw [if_pos h1] at hU; omega
  rw [if_neg h1] at hU
  by_cases h2 : n < 0 ∨ 4611686018427387904 < n
  · rw [if_pos h2] at hU; omega
  rw [if_neg h2] at hU
  by_cases h3 : r.size < 1 ∨ 32 < r.size
  · rw [if_pos h3] at hU; omega
  rw [if_neg h3] at hU
  by_cases h4 : ext.any nolB = true
  · rw [if_pos h4] at hU; omega
  have h5 : ext.any nolB = false := by simpa using h4
  have hno : ∀ l ∈ o :: decS n :: str (b64L (bs r)) :: ext, no10 l := by
    intro l hl
    simp only [List.mem_cons] at hl
    rcases hl with rfl | rfl | rfl | hl
    · exact no10_nl (nl_nm (by simpa using h1))
    · exact no10_nl (nl_dec n)
    · exact no10_nl (nl_b64 r)
    · exact no10_nl (nol_nl (by simpa using List.any_eq_false.1 h5 l hl))
  have hln := lines_flN _ hno
  have hbb := b64_there (bs r) (bs_in r)
  have hbs := bs_str _ (b64L_in _ (bs_in r))
  have hf := flP_yes _ _ _ _ _ hln ⟨n, hn, rfl⟩ (by rw [hbs]; exact hbb.1)
  rw [hbs, hbb.2, str_bs, unN_dec n hn, ← hT] at hf
  exact pt_some _ _ hf h rfl
end Go.Proofs.YthdkbjbhjfiaiaaGreatDoor.z1

namespace Go.Proofs.YthdkbjbhjfiaiaaGreatDoor.z2
open Go.RowKit Go.PlainAid Go.Shelf
open Go.Proofs.YthdkbjbhjfiaiaaGreatDoor.ta Go.Proofs.YthdkbjbhjfiaiaaGreatDoor.tb Go.Proofs.YthdkbjbhjfiaiaaGreatDoor.tc Go.Proofs.YthdkbjbhjfiaiaaGreatDoor.th Go.Proofs.YthdkbjbhjfiaiaaGreatDoor.tj Go.Proofs.YthdkbjbhjfiaiaaGreatDoor.tk Go.Proofs.YthdkbjbhjfiaiaaGreatDoor.kp Go.Proofs.YthdkbjbhjfiaiaaGreatDoor.va Go.Proofs.YthdkbjbhjfiaiaaGreatDoor.vb Go.Proofs.YthdkbjbhjfiaiaaGreatDoor.vc Go.Proofs.YthdkbjbhjfiaiaaGreatDoor.vd Go.Proofs.YthdkbjbhjfiaiaaGreatDoor.wa Go.Proofs.YthdkbjbhjfiaiaaGreatDoor.wb Go.Proofs.YthdkbjbhjfiaiaaGreatDoor.ya Go.Proofs.YthdkbjbhjfiaiaaGreatDoor.q2 Go.Proofs.YthdkbjbhjfiaiaaGreatDoor.t3 Go.Proofs.YthdkbjbhjfiaiaaGreatDoor.yc Go.Proofs.YthdkbjbhjfiaiaaGreatDoor.u1 Go.Proofs.YthdkbjbhjfiaiaaGreatDoor.ytc Go.Proofs.YthdkbjbhjfiaiaaGreatDoor.ytd Go.Proofs.YthdkbjbhjfiaiaaGreatDoor.z1
set_option linter.unusedVariables false
set_option maxRecDepth 4000

-- some lines of a list, the first three left away
def ExtOf (w : World) (B : Nat) (a : Option Addr) (c : Nat) (ext : List ByteArray) : Prop :=
  (ext = [] ∧ c = 0) ∨ (c = ext.length ∧ ∃ g x y z, a = some ⟨g, 3, none⟩ ∧ B ≤ g ∧ w.heap[g]? = some (.cells (srow (x :: y :: z :: ext)) 9 (0, 0)))
theorem ExtOf.later {w w' : World} {B : Nat} {a : Option Addr} {c : Nat} {ext : List ByteArray} (h : ExtOf w B a c ext) (hb : Below w.heap.size w w') : ExtOf w' B a c ext := by
  rcases h with h | ⟨h0, g, x, y, z, h1, h2, h3⟩
  · exact .inl h
  · exact .inr ⟨h0, g, x, y, z, h1, h2, (hb.block g (Array.getElem?_eq_some_iff.1 h3).1).trans h3⟩
theorem ExtOf.mono {w : World} {B B' : Nat} {a : Option Addr} {c : Nat} {ext : List ByteArray} (h : ExtOf w B a c ext) (hb : B' ≤ B) : ExtOf w B' a c ext := by
  rcases h with h | ⟨h0, g, x, y, z, h1, h2, h3⟩
  · exact .inl h
  · exact .inr ⟨h0, g, x, y, z, h1, Nat.le_trans hb h2, h3⟩
theorem ExtOf.other {w w' : World} {B p : Nat} {a : Option Addr} {c : Nat} {ext : List ByteArray} (h : ExtOf w B a c ext) (hp : p < B) (hk : ∀ j, j ≠ p → w'.heap[j]? = w.heap[j]?) : ExtOf w' B a c ext := by
  rcases h with h | ⟨h0, g, x, y, z, h1, h2, h3⟩
  · exact .inl h
  · exact .inr ⟨h0, g, x, y, z, h1, h2, by rw [hk g (by omega)]; exact h3⟩
theorem ExtOf.reads {w : World} {B : Nat} {a : Option Addr} {c : Nat} {ext : List ByteArray} (h : ExtOf w B a c ext) : Reads w (.slice a ext.length c) ext := by
  rcases h with ⟨rfl, rfl⟩ | ⟨rfl, g, x, y, z, rfl, _, hh⟩
  · exact ⟨a, 0, rfl, .inl rfl⟩
  · refine ⟨_, _, rfl, .inr ⟨g, 3, rfl, fun i hi => ?_⟩⟩
    rw [cell_of_row _ _ _ _ _ _ hh, srow_get, Nat.add_comm 3 i, List.getD_eq_getElem?_getD, List.getElem?_eq_getElem hi]
    show ((x :: y :: z :: ext)[i + 3]?).map _ = _
    rw [show (x :: y :: z :: ext)[i + 3]? = ext[i]? from rfl, List.getElem?_eq_getElem hi]
    rfl
theorem ExtOf.none {w : World} {B : Nat} {a : Option Addr} {c : Nat} {ext : List ByteArray} (h : ExtOf w B a c ext) : a = none → c = 0 := by
  rcases h with ⟨_, h⟩ | ⟨_, g, x, y, z, h, _⟩
  · exact fun _ => h
  · intro e; rw [h] at e; cases e
theorem texts_form {w : World} {B : Nat} {v : Value} {xs : List ByteArray} (h : Texts w B v xs) : ∃ a c, v = .slice a xs.length c := by
  rcases h with ⟨rfl, rfl⟩ | ⟨g, rfl, _⟩
  · exact ⟨_, _, rfl⟩
  · exact ⟨_, _, rfl⟩
theorem put4 (w : World) (p : Nat) (a b c d x y z u : Value) (t : TypeId) (h : w.heap[p]? = some (.cells #[a, b, c, d] t (0, 0))) : ∀ W, W = (((w.setCell ⟨p, 0, none⟩ x).setCell ⟨p, 1, none⟩ y).setCell ⟨p, 2, none⟩ z).setCell ⟨p, 3, none⟩ u → (W.cell? ⟨p, 0, none⟩ = some x ∧ W.cell? ⟨p, 1, none⟩ = some y ∧ W.cell? ⟨p, 2, none⟩ = some z ∧ W.cell? ⟨p, 3, none⟩ = some u) ∧ (∀ B, B ≤ p → Below B w W) ∧ ∀ j, j ≠ p → W.heap[j]? = w.heap[j]? := by
  intro W hW
  have h1 := heap_setCell_same _ _ 0 _ _ x h
  have h2 := heap_setCell_same _ _ 1 _ _ y h1
  have h3 := heap_setCell_same _ _ 2 _ _ z h2
  have h4 := heap_setCell_same _ _ 3 _ _ u h3
  rw [← hW] at h4
  have k : Kp (fun q => q = p) w W := by rw [hW]; exact (((Kp.setCell (A := fun q => q = p) _ _ _ _ rfl).trans (Kp.setCell (A := fun q => q = p) _ _ _ _ rfl)).trans (Kp.setCell (A := fun q => q = p) _ _ _ _ rfl)).trans (Kp.setCell (A := fun q => q = p) _ _ _ _ rfl)
  have hl := (Array.getElem?_eq_some_iff.1 h).1
  refine ⟨⟨cell_of_row _ _ 0 _ _ _ h4, cell_of_row _ _ 1 _ _ _ h4, cell_of_row _ _ 2 _ _ _ h4, cell_of_row _ _ 3 _ _ _ h4⟩, fun B hB => k.below (fun q e => by omega) (by omega), fun j hj => ?_⟩
  rw [hW, Below.heap_setCell _ _ _ _ hj, Below.heap_setCell _ _ _ _ hj, Below.heap_setCell _ _ _ _ hj, Below.heap_setCell _ _ _ _ hj]
def zP : Obj := .cells #[.string ⟨#[]⟩, .int .i64 0, .string ⟨#[]⟩, .slice none 0 0] 30
def zeroP : Value := .agg #[.string ⟨#[]⟩, .int .i64 0, .string ⟨#[]⟩, .slice none 0 0]
def frR (w w' : World) (o : Option Pt) (e : Ending) : Prop := match o with
  | some p => ∃ a c, e = .returned (.tuple #[.agg #[.string p.o, .int .i64 p.n, .string p.r, .slice a p.ext.length c], .bool true]) ∧ ExtOf w' w.heap.size a c p.ext
  | none => e = .returned (.tuple #[zeroP, .bool false])

set_option maxHeartbeats 3200000 in
theorem fromC (s : ByteArray) (hs : s.size ≤ 1900000) (w : World) (N : Hid (NumW w)) :
    Calls Tryz.prog 23 #[.string s] w fun e w' => frR w w' (flP s) e ∧ Below w.heap.size w w' := by
  obtain ⟨W, HW⟩ : ∃ W, Hid (w.alloc (.cells #[.string ⟨#[]⟩, .int .i64 0, .string ⟨#[]⟩, .slice none 0 0] 30) = W) := ⟨_, rfl⟩
  have BW : Hid (Below w.heap.size w W) := by rw [← HW.out]; exact (Below.refl _ _).alloc (Nat.le_refl _) _
  have HBK : Hid (W.heap[w.heap.size]? = some (.cells #[.string ⟨#[]⟩, .int .i64 0, .string ⟨#[]⟩, .slice none 0 0] 30 (0, 0))) := by rw [← HW.out]; exact heap_alloc_new w _
  have zW : Hid (w.heap.size + 1 ≤ W.heap.size) := by show _ ≤ _; rw [← HW.out]; simp
  have L : Hid (Calls _ _ _ _ _) := lines s (by omega) W
  have NW : Hid (∀ w', Below W.heap.size W w' → NumW w') := fun w' h => (N.out.down BW.out).down h
  obtain ⟨p, HP⟩ : ∃ p, Hid (w.heap.size = p) := ⟨_, rfl⟩
  have FIN : Hid (∀ w', Below p W w' → Below w.heap.size w w') := fun w' h => by rw [HP.out] at BW ⊢; exact BW.out.trans h
  rw [HP.out] at HBK zW
  have BK : Hid (∀ w', Below W.heap.size W w' → w'.heap[p]? = some (.cells #[.string ⟨#[]⟩, .int .i64 0, .string ⟨#[]⟩, .slice none 0 0] 30 (0, 0))) := fun w' h => (h.block p (Nat.lt_of_succ_le zW.out)).trans HBK.out
  have LO : Hid (p ≤ W.heap.size) := Nat.le_trans (Nat.le_succ p) zW.out
  rcases rows_all s with ⟨ls, h1, h2, h3⟩ | hn
  · rw [show Go.Proofs.YthdkbjbhjfiaiaaGreatDoor.ya.linesP (bs s) = some (ls.map bs) from h3] at L
    by_cases hl : ls.length < 3
    · rw [flP_few s ls h3 hl]
      obtain ⟨n, HN⟩ : ∃ n, Hid (ls.length = n) := ⟨_, rfl⟩
      have hlt : (n : Int) < 3 := by rw [← HN.out]; omega
      clear h1 h2 h3 hl
      go_enter Tryz.func23, Tryz.ntmps23
      go_wp2_with fail
      rw [HW.out]
      refine L.out.mono ?_
      rintro e w3 ⟨⟨v, rfl, ht⟩, hb⟩
      have B3 : Hid (Below W.heap.size W w3) := hb
      rw [map_str_bs] at ht
      obtain ⟨a, c, hv⟩ := texts_form ht
      rw [HN.out] at hv
      subst hv
      clear hb ht
      have hbk := BK.out w3 B3.out
      have FZ : Hid (∀ W', W' = _ → _) := put4 w3 p _ _ _ _ (.string ⟨#[]⟩) (.int .i64 0) (.string ⟨#[]⟩) (.slice none 0 0) _ hbk
      have d0 := cell_of_row _ _ 0 _ _ _ hbk
      have d1 := cell_of_row _ _ 1 _ _ _ hbk
      have d2 := cell_of_row _ _ 2 _ _ _ hbk
      have d3 := cell_of_row _ _ 3 _ _ _ hbk
      have f0 := frozen_of_row _ _ 0 _ _ hbk
      have f1 := frozen_of_row _ _ 1 _ _ hbk
      have f2 := frozen_of_row _ _ 2 _ _ hbk
      have f3 := frozen_of_row _ _ 3 _ _ hbk
      rw [HP.out]
      go_wp2
      obtain ⟨⟨d0, d1, d2, d3⟩, hbl, _⟩ := FZ.out _ rfl
      exact bodyPost_ret (v := .tuple #[.agg #[.string ⟨#[]⟩, .int .i64 0, .string ⟨#[]⟩, .slice none 0 0], .bool false]) (by simp [results, Tryz.results23, go_sem, d0, d1, d2, d3]) rfl ⟨rfl, FIN.out _ ((B3.out.mono LO.out).trans (hbl _ (Nat.le_refl _)))⟩
    · obtain ⟨x, y, z, l, rfl⟩ : ∃ x y z l, ls = x :: y :: z :: l := by
        match ls, hl with
        | x :: y :: z :: l, _ => exact ⟨x, y, z, l, rfl⟩
        | [], h => exact absurd (by simp) h
        | [_], h => exact absurd (by simp) h
        | [_, _], h => exact absurd (by simp) h
      have hsz := fl_cons x (y :: z :: l)
      have hsy := fl_cons y (z :: l)
      have hsw := fl_cons z l
      rw [← h1] at hsz
      have C1 : Hid (∀ w, NumW w → Calls _ _ _ _ _) := fun w => unDec y (by omega) w
      have C2 : Hid (∀ w, Calls _ _ _ _ _) := fun w => unb64 z (by omega) w
      obtain ⟨n, HN⟩ : ∃ n, Hid (l.length = n) := ⟨_, rfl⟩
      have HLN : Hid ((x :: y :: z :: l).length = n + 3) := by show _ = _; rw [← HN.out]; rfl
      have hzl : n ≤ 1900000 := by
        have h := fl_size l
        rw [HN.out] at h
        omega
      have hge : ¬ (((n + 3 : Nat) : Int) < 3) := by omega
      have hcases : ((∃ n, I64 n ∧ decS n = y) ∧ Acc64 (bs z)) ∨ (¬ ∃ n, I64 n ∧ decS n = y) ∨ ((∃ n, I64 n ∧ decS n = y) ∧ ¬ Acc64 (bs z)) := by
        by_cases hy : ∃ n, I64 n ∧ decS n = y
        · by_cases hz : Acc64 (bs z)
          · exact .inl ⟨hy, hz⟩
          · exact .inr (.inr ⟨hy, hz⟩)
        · exact .inr (.inl hy)
      rcases hcases with hcase | hcase | hcase
      · rw [flP_yes s x y z l h3 hcase.1 hcase.2]
        obtain ⟨m, HM⟩ : ∃ m, Hid (unN y = m) := ⟨_, rfl⟩
        obtain ⟨r, HR⟩ : ∃ r, Hid (str (cutL (bs z)) = r) := ⟨_, rfl⟩
        rw [show unDecV y = .tuple #[.int .i64 m, .int .i64 0] by unfold unDecV; rw [if_pos hcase.1, HM.out]] at C1
        rw [show un64V z = .tuple #[.string r, .int .i64 0] by unfold un64V readV; rw [if_pos hcase.2, HR.out]] at C2
        rw [HM.out, HR.out]
        clear h1 h2 h3 hl hsz hsy hsw hcase
        go_enter Tryz.func23, Tryz.ntmps23
        go_wp2_with fail
        rw [HW.out]
        refine L.out.mono ?_
        rintro e w1 ⟨⟨v, rfl, ht⟩, hb⟩
        have B1 : Hid (Below W.heap.size W w1) := hb
        rw [map_str_bs] at ht
        obtain ⟨g, hv, HG, HC⟩ : ∃ g, v = .slice (some ⟨g, 0, none⟩) (n + 3 : Nat) (n + 3) ∧ Hid (W.heap.size ≤ g) ∧ Hid (w1.heap[g]? = some (.cells (srow (x :: y :: z :: l)) 9 (0, 0))) := by
          rcases ht with ⟨_, h⟩ | ⟨g, e, h2, h3⟩
          · cases h
          · rw [HLN.out] at e
            exact ⟨g, e, h2, h3⟩
        subst hv
        have HGL : Hid (g < w1.heap.size) := (Array.getElem?_eq_some_iff.1 HC.out).1
        have CE : Hid (∀ w', Below w1.heap.size w1 w' → w'.cell? ⟨g, 0, none⟩ = some (.string x) ∧ w'.cell? ⟨g, 1, none⟩ = some (.string y) ∧ w'.cell? ⟨g, 2, none⟩ = some (.string z)) := fun w' h => by
          have hh := (h.block g HGL.out).trans HC.out
          exact ⟨by rw [cell_of_row _ _ _ _ _ _ hh]; rfl, by rw [cell_of_row _ _ _ _ _ _ hh]; rfl, by rw [cell_of_row _ _ _ _ _ _ hh]; rfl⟩
        obtain ⟨c0, c1, c2⟩ := CE.out w1 (Below.refl _ _)
        clear hb ht
        go_wp2_with fail
        refine (C1.out _ (NW.out _ B1.out)).mono ?_
        rintro e w2 ⟨rfl, hb2⟩
        have B2 : Hid (Below w1.heap.size w1 w2) := hb2
        clear c0 c1 c2
        obtain ⟨c0, c1, c2⟩ := CE.out w2 B2.out
        clear hb2
        go_wp2_with fail
        refine (C2.out _).mono ?_
        rintro e w3 ⟨rfl, hb3⟩
        have B3L : Hid (Below w1.heap.size w1 w3) := B2.out.trans (hb3.mono B2.out.size)
        have B3 : Hid (Below W.heap.size W w3) := B1.out.trans (B3L.out.mono B1.out.size)
        clear c0 c1 c2
        clear hb3
        obtain ⟨c0, c1, c2⟩ := CE.out w3 B3L.out
        have hbk : w3.drew.heap[p]? = some (.cells #[.string ⟨#[]⟩, .int .i64 0, .string ⟨#[]⟩, .slice none 0 0] 30 (0, 0)) := BK.out w3 B3.out
        have B3D : Hid (Below W.heap.size W w3.drew) := Go.Proofs.YthdkbjbhjfiaiaaGreatDoor.tj.below_dN B3.out 1
        have HCD : Hid (w3.drew.heap[g]? = some (.cells (srow (x :: y :: z :: l)) 9 (0, 0))) := (B3L.out.block g HGL.out).trans HC.out
        have HGP : Hid (p < g) := Nat.lt_of_lt_of_le (Nat.lt_of_succ_le zW.out) HG.out
        have f0 : w3.frozen? ⟨p, 0, none⟩ = false := frozen_of_row _ _ 0 _ _ hbk
        have f1 : w3.frozen? ⟨p, 1, none⟩ = false := frozen_of_row _ _ 1 _ _ hbk
        have f2 : w3.frozen? ⟨p, 2, none⟩ = false := frozen_of_row _ _ 2 _ _ hbk
        have f3 : w3.frozen? ⟨p, 3, none⟩ = false := frozen_of_row _ _ 3 _ _ hbk
        have d0 : w3.cell? ⟨p, 0, none⟩ = some (.string ⟨#[]⟩) := cell_of_row _ _ 0 _ _ _ hbk
        have d1 : w3.cell? ⟨p, 1, none⟩ = some (.int .i64 0) := cell_of_row _ _ 1 _ _ _ hbk
        have d2 : w3.cell? ⟨p, 2, none⟩ = some (.string ⟨#[]⟩) := cell_of_row _ _ 2 _ _ _ hbk
        have d3 : w3.cell? ⟨p, 3, none⟩ = some (.slice none 0 0) := cell_of_row _ _ 3 _ _ _ hbk
        have HB0 : Hid (w3.heap[p]? = some (.cells #[.string ⟨#[]⟩, .int .i64 0, .string ⟨#[]⟩, .slice none 0 0] 30 (0, 0))) := hbk
        have EE : Hid (∀ v : Value, (w3.setCell ⟨p, 0, none⟩ (.string x)).cell? ⟨p, 0, none⟩ = some (.string x) ∧ ((w3.setCell ⟨p, 0, none⟩ (.string x)).setCell ⟨p, 1, none⟩ (.int .i64 m)).cell? ⟨p, 1, none⟩ = some (.int .i64 m) ∧ (((w3.setCell ⟨p, 0, none⟩ (.string x)).setCell ⟨p, 1, none⟩ (.int .i64 m)).setCell ⟨p, 2, none⟩ (.string r)).cell? ⟨p, 2, none⟩ = some (.string r) ∧ ((((w3.setCell ⟨p, 0, none⟩ (.string x)).setCell ⟨p, 1, none⟩ (.int .i64 m)).setCell ⟨p, 2, none⟩ (.string r)).setCell ⟨p, 3, none⟩ v).cell? ⟨p, 3, none⟩ = some v) := fun v => by
          have r1 := heap_setCell_same _ _ 0 _ _ (.string x) HB0.out
          have r2 := heap_setCell_same _ _ 1 _ _ (.int .i64 m) r1
          have r3 := heap_setCell_same _ _ 2 _ _ (.string r) r2
          have r4 := heap_setCell_same _ _ 3 _ _ v r3
          exact ⟨cell_of_row _ _ 0 _ _ _ r1, cell_of_row _ _ 1 _ _ _ r2, cell_of_row _ _ 2 _ _ _ r3, cell_of_row _ _ 3 _ _ _ r4⟩
        have s1 : (3 : Int) ≤ ((n + 3 : Nat) : Int) := by omega
        rw [HP.out]
        rcases Nat.eq_zero_or_pos n with h0 | h0
        · have HL0 : Hid (l = []) := List.length_eq_zero_iff.1 (by rw [HN.out]; exact h0)
          subst h0
          have FZ : Hid (∀ W', W' = _ → _) := put4 w3.drew p _ _ _ _ (.string x) (.int .i64 m) (.string r) (.slice (some ⟨g, 0, none⟩) 0 0) _ hbk
          have E1 : Hid _ := EE.out (.slice (some ⟨g, 0, none⟩) 0 0)
          clear hbk
          go_wp2_with fail
          go_region
          all_goals (
            go_wp2
            obtain ⟨⟨k0, k1, k2, k3⟩, hbl, hoth⟩ := FZ.out _ rfl
            obtain ⟨e0, e1, e2, e3⟩ := E1.out
            refine bodyPost_ret (v := .tuple #[.agg #[.string x, .int .i64 m, .string r, .slice (some ⟨g, 0, none⟩) 0 0], .bool true]) (by simp [results, Tryz.results23, go_sem, e0, e1, e2, e3]) rfl ⟨⟨some ⟨g, 0, none⟩, 0, by rw [HL0.out]; rfl, .inl ⟨HL0.out, rfl⟩⟩, FIN.out _ ((B3D.out.mono LO.out).trans (hbl _ (Nat.le_refl _)))⟩)
        · have s2 : ¬ (n + 3 = 3) := by omega
          have FZ : Hid (∀ W', W' = _ → _) := put4 w3.drew p _ _ _ _ (.string x) (.int .i64 m) (.string r) (.slice (some ⟨g, 3, none⟩) n n) _ hbk
          have E1 : Hid _ := EE.out (.slice (some ⟨g, 3, none⟩) n n)
          clear hbk
          go_wp2_with fail
          go_region
          all_goals (
            go_wp2
            obtain ⟨⟨k0, k1, k2, k3⟩, hbl, hoth⟩ := FZ.out _ rfl
            obtain ⟨e0, e1, e2, e3⟩ := E1.out
            refine bodyPost_ret (v := .tuple #[.agg #[.string x, .int .i64 m, .string r, .slice (some ⟨g, 3, none⟩) n n], .bool true]) (by simp [results, Tryz.results23, go_sem, e0, e1, e2, e3]) rfl ⟨⟨some ⟨g, 3, none⟩, n, by rw [HN.out], .inr ⟨HN.out.symm, g, x, y, z, rfl, Nat.le_trans (by rw [HP.out]; exact LO.out) HG.out, (hoth g (Nat.ne_of_gt HGP.out)).trans HCD.out⟩⟩, FIN.out _ ((B3D.out.mono LO.out).trans (hbl _ (Nat.le_refl _)))⟩)
      · rw [flP_no s x y z l h3 (fun h => hcase h.1)]
        rw [show unDecV y = .tuple #[.int .i64 0, .int .i64 42] by unfold unDecV; rw [if_neg hcase]] at C1
        obtain ⟨r, e2, H2⟩ : ∃ r e2, un64V z = .tuple #[.string r, .int .i64 e2] := by
          unfold un64V
          split
          · exact ⟨_, _, rfl⟩
          · exact ⟨_, _, rfl⟩
        rw [H2] at C2
        clear H2
        clear h1 h2 h3 hl hsz hsy hsw hcase
        go_enter Tryz.func23, Tryz.ntmps23
        go_wp2_with fail
        rw [HW.out]
        refine L.out.mono ?_
        rintro e w1 ⟨⟨v, rfl, ht⟩, hb⟩
        have B1 : Hid (Below W.heap.size W w1) := hb
        rw [map_str_bs] at ht
        obtain ⟨g, hv, HG, HC⟩ : ∃ g, v = .slice (some ⟨g, 0, none⟩) (n + 3 : Nat) (n + 3) ∧ Hid (W.heap.size ≤ g) ∧ Hid (w1.heap[g]? = some (.cells (srow (x :: y :: z :: l)) 9 (0, 0))) := by
          rcases ht with ⟨_, h⟩ | ⟨g, e, h2, h3⟩
          · cases h
          · rw [HLN.out] at e
            exact ⟨g, e, h2, h3⟩
        subst hv
        have HGL : Hid (g < w1.heap.size) := (Array.getElem?_eq_some_iff.1 HC.out).1
        have CE : Hid (∀ w', Below w1.heap.size w1 w' → w'.cell? ⟨g, 0, none⟩ = some (.string x) ∧ w'.cell? ⟨g, 1, none⟩ = some (.string y) ∧ w'.cell? ⟨g, 2, none⟩ = some (.string z)) := fun w' h => by
          have hh := (h.block g HGL.out).trans HC.out
          exact ⟨by rw [cell_of_row _ _ _ _ _ _ hh]; rfl, by rw [cell_of_row _ _ _ _ _ _ hh]; rfl, by rw [cell_of_row _ _ _ _ _ _ hh]; rfl⟩
        obtain ⟨c0, c1, c2⟩ := CE.out w1 (Below.refl _ _)
        clear hb ht
        go_wp2_with fail
        refine (C1.out _ (NW.out _ B1.out)).mono ?_
        rintro e w2 ⟨rfl, hb2⟩
        have B2 : Hid (Below w1.heap.size w1 w2) := hb2
        clear c0 c1 c2
        obtain ⟨c0, c1, c2⟩ := CE.out w2 B2.out
        clear hb2
        go_wp2_with fail
        refine (C2.out _).mono ?_
        rintro e w3 ⟨rfl, hb3⟩
        have B3L : Hid (Below w1.heap.size w1 w3) := B2.out.trans (hb3.mono B2.out.size)
        have B3 : Hid (Below W.heap.size W w3) := B1.out.trans (B3L.out.mono B1.out.size)
        clear c0 c1 c2
        clear hb3
        have hbk := BK.out w3 B3.out
        have FZ : Hid (∀ W', W' = _ → _) := put4 w3 p _ _ _ _ (.string ⟨#[]⟩) (.int .i64 0) (.string ⟨#[]⟩) (.slice none 0 0) _ hbk
        have d0 := cell_of_row _ _ 0 _ _ _ hbk
        have d1 := cell_of_row _ _ 1 _ _ _ hbk
        have d2 := cell_of_row _ _ 2 _ _ _ hbk
        have d3 := cell_of_row _ _ 3 _ _ _ hbk
        have f0 := frozen_of_row _ _ 0 _ _ hbk
        have f1 := frozen_of_row _ _ 1 _ _ hbk
        have f2 := frozen_of_row _ _ 2 _ _ hbk
        have f3 := frozen_of_row _ _ 3 _ _ hbk
        rw [HP.out]
        go_wp2
        obtain ⟨⟨d0, d1, d2, d3⟩, hbl, _⟩ := FZ.out _ rfl
        exact bodyPost_ret (v := .tuple #[.agg #[.string ⟨#[]⟩, .int .i64 0, .string ⟨#[]⟩, .slice none 0 0], .bool false]) (by simp [results, Tryz.results23, go_sem, d0, d1, d2, d3]) rfl ⟨rfl, FIN.out _ ((B3.out.mono LO.out).trans (hbl _ (Nat.le_refl _)))⟩
      · rw [flP_no s x y z l h3 (fun h => hcase.2 h.2)]
        obtain ⟨m, HM⟩ : ∃ m, Hid (unN y = m) := ⟨_, rfl⟩
        rw [show unDecV y = .tuple #[.int .i64 m, .int .i64 0] by unfold unDecV; rw [if_pos hcase.1, HM.out]] at C1
        rw [show un64V z = .tuple #[.string ByteArray.empty, .int .i64 40] by unfold un64V failV; rw [if_neg hcase.2]] at C2
        clear h1 h2 h3 hl hsz hsy hsw hcase
        go_enter Tryz.func23, Tryz.ntmps23
        go_wp2_with fail
        rw [HW.out]
        refine L.out.mono ?_
        rintro e w1 ⟨⟨v, rfl, ht⟩, hb⟩
        have B1 : Hid (Below W.heap.size W w1) := hb
        rw [map_str_bs] at ht
        obtain ⟨g, hv, HG, HC⟩ : ∃ g, v = .slice (some ⟨g, 0, none⟩) (n + 3 : Nat) (n + 3) ∧ Hid (W.heap.size ≤ g) ∧ Hid (w1.heap[g]? = some (.cells (srow (x :: y :: z :: l)) 9 (0, 0))) := by
          rcases ht with ⟨_, h⟩ | ⟨g, e, h2, h3⟩
          · cases h
          · rw [HLN.out] at e
            exact ⟨g, e, h2, h3⟩
        subst hv
        have HGL : Hid (g < w1.heap.size) := (Array.getElem?_eq_some_iff.1 HC.out).1
        have CE : Hid (∀ w', Below w1.heap.size w1 w' → w'.cell? ⟨g, 0, none⟩ = some (.string x) ∧ w'.cell? ⟨g, 1, none⟩ = some (.string y) ∧ w'.cell? ⟨g, 2, none⟩ = some (.string z)) := fun w' h => by
          have hh := (h.block g HGL.out).trans HC.out
          exact ⟨by rw [cell_of_row _ _ _ _ _ _ hh]; rfl, by rw [cell_of_row _ _ _ _ _ _ hh]; rfl, by rw [cell_of_row _ _ _ _ _ _ hh]; rfl⟩
        obtain ⟨c0, c1, c2⟩ := CE.out w1 (Below.refl _ _)
        clear hb ht
        go_wp2_with fail
        refine (C1.out _ (NW.out _ B1.out)).mono ?_
        rintro e w2 ⟨rfl, hb2⟩
        have B2 : Hid (Below w1.heap.size w1 w2) := hb2
        clear c0 c1 c2
        obtain ⟨c0, c1, c2⟩ := CE.out w2 B2.out
        clear hb2
        go_wp2_with fail
        refine (C2.out _).mono ?_
        rintro e w3 ⟨rfl, hb3⟩
        have B3L : Hid (Below w1.heap.size w1 w3) := B2.out.trans (hb3.mono B2.out.size)
        have B3 : Hid (Below W.heap.size W w3) := B1.out.trans (B3L.out.mono B1.out.size)
        clear c0 c1 c2
        clear hb3
        have hbk := BK.out w3 B3.out
        have FZ : Hid (∀ W', W' = _ → _) := put4 w3 p _ _ _ _ (.string ⟨#[]⟩) (.int .i64 0) (.string ⟨#[]⟩) (.slice none 0 0) _ hbk
        have d0 := cell_of_row _ _ 0 _ _ _ hbk
        have d1 := cell_of_row _ _ 1 _ _ _ hbk
        have d2 := cell_of_row _ _ 2 _ _ _ hbk
        have d3 := cell_of_row _ _ 3 _ _ _ hbk
        have f0 := frozen_of_row _ _ 0 _ _ hbk
        have f1 := frozen_of_row _ _ 1 _ _ hbk
        have f2 := frozen_of_row _ _ 2 _ _ hbk
        have f3 := frozen_of_row _ _ 3 _ _ hbk
        rw [HP.out]
        go_wp2
        obtain ⟨⟨d0, d1, d2, d3⟩, hbl, _⟩ := FZ.out _ rfl
        exact bodyPost_ret (v := .tuple #[.agg #[.string ⟨#[]⟩, .int .i64 0, .string ⟨#[]⟩, .slice none 0 0], .bool false]) (by simp [results, Tryz.results23, go_sem, d0, d1, d2, d3]) rfl ⟨rfl, FIN.out _ ((B3.out.mono LO.out).trans (hbl _ (Nat.le_refl _)))⟩
  · rw [show Go.Proofs.YthdkbjbhjfiaiaaGreatDoor.ya.linesP (bs s) = none from hn] at L
    rw [flP_none s hn]
    clear hn
    go_enter Tryz.func23, Tryz.ntmps23
    go_wp2_with fail
    rw [HW.out]
    refine L.out.mono ?_
    rintro e w3 ⟨rfl, hb⟩
    have B3 : Hid (Below W.heap.size W w3) := hb
    clear hb
    have hbk := BK.out w3 B3.out
    have FZ : Hid (∀ W', W' = _ → _) := put4 w3 p _ _ _ _ (.string ⟨#[]⟩) (.int .i64 0) (.string ⟨#[]⟩) (.slice none 0 0) _ hbk
    have d0 := cell_of_row _ _ 0 _ _ _ hbk
    have d1 := cell_of_row _ _ 1 _ _ _ hbk
    have d2 := cell_of_row _ _ 2 _ _ _ hbk
    have d3 := cell_of_row _ _ 3 _ _ _ hbk
    have f0 := frozen_of_row _ _ 0 _ _ hbk
    have f1 := frozen_of_row _ _ 1 _ _ hbk
    have f2 := frozen_of_row _ _ 2 _ _ hbk
    have f3 := frozen_of_row _ _ 3 _ _ hbk
    rw [HP.out]
    go_wp2
    obtain ⟨⟨d0, d1, d2, d3⟩, hbl, _⟩ := FZ.out _ rfl
    exact bodyPost_ret (v := .tuple #[.agg #[.string ⟨#[]⟩, .int .i64 0, .string ⟨#[]⟩, .slice none 0 0], .bool false]) (by simp [results, Tryz.results23, go_sem, d0, d1, d2, d3]) rfl ⟨rfl, FIN.out _ ((B3.out.mono LO.out).trans (hbl _ (Nat.le_refl _)))⟩
end Go.Proofs.YthdkbjbhjfiaiaaGreatDoor.z2

namespace Go.Proofs.YthdkbjbhjfiaiaaGreatDoor.z3
open Go.RowKit Go.PlainAid Go.Shelf
open Go.Proofs.YthdkbjbhjfiaiaaGreatDoor.ta Go.Proofs.YthdkbjbhjfiaiaaGreatDoor.tb Go.Proofs.YthdkbjbhjfiaiaaGreatDoor.tc Go.Proofs.YthdkbjbhjfiaiaaGreatDoor.th Go.Proofs.YthdkbjbhjfiaiaaGreatDoor.tj Go.Proofs.YthdkbjbhjfiaiaaGreatDoor.tk Go.Proofs.YthdkbjbhjfiaiaaGreatDoor.kp Go.Proofs.YthdkbjbhjfiaiaaGreatDoor.va Go.Proofs.YthdkbjbhjfiaiaaGreatDoor.vb Go.Proofs.YthdkbjbhjfiaiaaGreatDoor.vc Go.Proofs.YthdkbjbhjfiaiaaGreatDoor.vd Go.Proofs.YthdkbjbhjfiaiaaGreatDoor.wa Go.Proofs.YthdkbjbhjfiaiaaGreatDoor.wb Go.Proofs.YthdkbjbhjfiaiaaGreatDoor.ya Go.Proofs.YthdkbjbhjfiaiaaGreatDoor.q2 Go.Proofs.YthdkbjbhjfiaiaaGreatDoor.t3 Go.Proofs.YthdkbjbhjfiaiaaGreatDoor.yc Go.Proofs.YthdkbjbhjfiaiaaGreatDoor.u1 Go.Proofs.YthdkbjbhjfiaiaaGreatDoor.ytc Go.Proofs.YthdkbjbhjfiaiaaGreatDoor.ytd Go.Proofs.YthdkbjbhjfiaiaaGreatDoor.z1 Go.Proofs.YthdkbjbhjfiaiaaGreatDoor.z2
set_option linter.unusedVariables false
set_option maxRecDepth 4000

def ptR (w w' : World) (o : Option Pt) (e : Ending) : Prop := match o with
  | some p => ∃ a c, e = .returned (.tuple #[.agg #[.string p.o, .int .i64 p.n, .string p.r, .slice a p.ext.length c], .int .i64 0]) ∧ ExtOf w' w.heap.size a c p.ext
  | none => e = .returned (.tuple #[zeroP, .int .i64 204])
set_option maxHeartbeats 3200000 in
theorem parseC (s : ByteArray) (hs : s.size ≤ 1900000) (w : World) (N : Hid (NumW w)) :
    Calls Tryz.prog 7 #[.string s] w fun e w' => ptR w w' (ptP s) e ∧ Below w.heap.size w w' := by
  obtain ⟨W, HW⟩ : ∃ W, Hid (w.alloc (.cells #[.string ⟨#[]⟩, .int .i64 0, .string ⟨#[]⟩, .slice none 0 0] 30) = W) := ⟨_, rfl⟩
  have BW : Hid (Below w.heap.size w W) := by rw [← HW.out]; exact (Below.refl _ _).alloc (Nat.le_refl _) _
  have HBK : Hid (W.heap[w.heap.size]? = some (.cells #[.string ⟨#[]⟩, .int .i64 0, .string ⟨#[]⟩, .slice none 0 0] 30 (0, 0))) := by rw [← HW.out]; exact heap_alloc_new w _
  have zW : Hid (w.heap.size + 1 ≤ W.heap.size) := by show _ ≤ _; rw [← HW.out]; simp
  have C1 : Hid (Calls _ _ _ _ _) := fromC s hs W (N.out.down BW.out)
  obtain ⟨p, HP⟩ : ∃ p, Hid (w.heap.size = p) := ⟨_, rfl⟩
  have FIN : Hid (∀ w', Below p W w' → Below w.heap.size w w') := fun w' h => by rw [HP.out] at BW ⊢; exact BW.out.trans h
  rw [HP.out] at HBK zW
  have NW : Hid (∀ w', Below (p + 1) W w' → NumW w') := fun w' h => N.out.down (FIN.out w' (h.mono (Nat.le_succ p)))
  have BK : Hid (∀ w', Below (p + 1) W w' → w'.heap[p]? = some (.cells #[.string ⟨#[]⟩, .int .i64 0, .string ⟨#[]⟩, .slice none 0 0] 30 (0, 0))) := fun w' h => (h.block p (Nat.lt_succ_self _)).trans HBK.out
  cases hf : flP s with
  | none =>
    rw [pt_none s hf]
    rw [hf] at C1
    clear hf
    go_enter Tryz.func7, Tryz.ntmps7
    go_wp2_with fail
    rw [HW.out]
    go_wp2_with fail
    refine C1.out.mono ?_
    rintro e w3 ⟨rfl, hb1⟩
    have B3 : Hid (Below (p + 1) W w3) := hb1.mono zW.out
    have B4 : Hid (Below (p + 1) W (w3.alloc (.cells #[.string ⟨#[]⟩, .int .i64 0, .string ⟨#[]⟩, .slice none 0 0] 30))) := B3.out.alloc (Nat.le_trans zW.out hb1.size) _
    clear hb1
    unfold zeroP
    have hbk := BK.out _ B4.out
    have FZ : Hid (∀ W', W' = _ → _) := put4 (w3.alloc (.cells #[.string ⟨#[]⟩, .int .i64 0, .string ⟨#[]⟩, .slice none 0 0] 30)) p _ _ _ _ (.string ⟨#[]⟩) (.int .i64 0) (.string ⟨#[]⟩) (.slice none 0 0) _ hbk
    have c0 := cell_of_row _ _ 0 _ _ _ hbk
    have c1 := cell_of_row _ _ 1 _ _ _ hbk
    have c2 := cell_of_row _ _ 2 _ _ _ hbk
    have c3 := cell_of_row _ _ 3 _ _ _ hbk
    have f0 := frozen_of_row _ _ 0 _ _ hbk
    have f1 := frozen_of_row _ _ 1 _ _ hbk
    have f2 := frozen_of_row _ _ 2 _ _ hbk
    have f3 := frozen_of_row _ _ 3 _ _ hbk
    rw [HP.out]
    go_wp2
    obtain ⟨⟨d0, d1, d2, d3⟩, hbl, _⟩ := FZ.out _ rfl
    exact bodyPost_ret (v := .tuple #[.agg #[.string ⟨#[]⟩, .int .i64 0, .string ⟨#[]⟩, .slice none 0 0], .int .i64 204]) (by simp [results, Tryz.results7, go_sem, d0, d1, d2, d3]) rfl ⟨rfl, FIN.out _ ((B4.out.mono (Nat.le_succ p)).trans (hbl _ (Nat.le_refl _)))⟩
  | some r =>
    obtain ⟨zo, zr, zl, hI⟩ := fl_small s r hf
    have HYES : Hid (txE r.o r.n r.r r.ext = 0 → txT r.o r.n r.r r.ext = s → ptP s = some r) := fun h1 h2 => pt_some s r hf h1 h2
    have HNO : Hid (¬ (txE r.o r.n r.r r.ext = 0 ∧ txT r.o r.n r.r r.ext = s) → ptP s = none) := fun h => pt_no s r hf h
    rw [hf] at C1
    obtain ⟨o, num, r, ext⟩ := r
    simp only at zo zr zl hI HYES HNO
    obtain ⟨E, HE⟩ : ∃ E, Hid (txE o num r ext = E) := ⟨_, rfl⟩
    obtain ⟨T, HT⟩ : ∃ T, Hid (txT o num r ext = T) := ⟨_, rfl⟩
    obtain ⟨R, HR⟩ : ∃ R, Hid (ptP s = R) := ⟨_, rfl⟩
    rw [HE.out, HT.out, HR.out] at HYES HNO
    rw [HR.out]
    have C2 : Hid (∀ w a c, Hid (PowT w) → Reads w (.slice a ext.length c) ext → (a = none → c = 0) → Calls Tryz.prog 24 #[.agg #[.string o, .int .i64 num, .string r, .slice a ext.length c]] w fun e w' => e = .returned (.tuple #[.string T, .int .i64 E]) ∧ Below w.heap.size w w') := fun w a c h1 h2 h3 => by
      have h := textC o num r ext a c w hI (by omega) (by omega) h2 h3 (by omega) h1
      unfold txV at h
      rw [HE.out, HT.out] at h
      exact h
    obtain ⟨n, HN⟩ : ∃ n, Hid (ext.length = n) := ⟨_, rfl⟩
    have HQT := toList_bs T s
    clear hf hI zo zr zl hs
    have hcs : (E = 0 ∧ T = s) ∨ E ≠ 0 ∨ (E = 0 ∧ T ≠ s) := by
      by_cases h1 : E = 0
      · by_cases h2 : T = s
        · exact .inl ⟨h1, h2⟩
        · exact .inr (.inr ⟨h1, h2⟩)
      · exact .inr (.inl h1)
    rcases hcs with ⟨h1, h2⟩ | h1 | ⟨h1, h2⟩
    · have HRR : Hid (R = some ⟨o, num, r, ext⟩) := HYES.out h1 h2
      rw [decide_eq_true h2] at HQT
      subst h1
      clear h2
      go_enter Tryz.func7, Tryz.ntmps7
      go_wp2_with fail
      rw [HW.out]
      go_wp2_with fail
      refine C1.out.mono ?_
      rintro e w1 ⟨⟨a, c, rfl, ho⟩, hb1⟩
      have O1 : Hid (ExtOf w1 W.heap.size a c ext) := ho
      have B1 : Hid (Below W.heap.size W w1) := hb1
      clear hb1 ho
      obtain ⟨V, HV⟩ : ∃ V, Hid (w1.alloc (.cells #[.string o, .int .i64 num, .string r, .slice a ext.length c] 30) = V) := ⟨_, rfl⟩
      have BV : Hid (Below w1.heap.size w1 V) := by rw [← HV.out]; exact (Below.refl _ _).alloc (Nat.le_refl _) _
      have SV : Hid (∀ w', Below (w1.heap.size + 1) V w' → w'.cell? ⟨w1.heap.size, 0, none⟩ = some (.string o) ∧ w'.cell? ⟨w1.heap.size, 1, none⟩ = some (.int .i64 num) ∧ w'.cell? ⟨w1.heap.size, 2, none⟩ = some (.string r) ∧ w'.cell? ⟨w1.heap.size, 3, none⟩ = some (.slice a ext.length c)) := by
        rw [← HV.out]; exact fun w' h => box4 w1 w' _ _ _ _ _ h
      have zV : Hid (w1.heap.size + 1 ≤ V.heap.size) := by show _ ≤ _; rw [← HV.out]; simp
      have BVW : Hid (Below (p + 1) W V) := (B1.out.mono zW.out).trans (BV.out.mono (Nat.le_trans zW.out B1.out.size))
      have OV : Hid (ExtOf V W.heap.size a c ext) := O1.out.later BV.out
      have CA : Hid (Calls _ _ _ _ _) := C2.out V a c (NW.out V BVW.out).tab OV.out.reads OV.out.none
      have zqW : Hid (p + 1 ≤ w1.heap.size) := Nat.le_trans zW.out B1.out.size
      obtain ⟨q, HQ⟩ : ∃ q, Hid (w1.heap.size = q) := ⟨_, rfl⟩
      rw [HQ.out] at SV zV zqW
      rw [HN.out] at SV CA HV
      obtain ⟨v0, v1, v2, v3⟩ := SV.out V (Below.refl _ _)
      rw [← HV.out] at v0 v1 v2 v3
      rw [HN.out, HP.out]
      go_wp2_with fail
      rw [HV.out]
      clear v0 v1 v2 v3
      refine CA.out.mono ?_
      rintro e w4 ⟨rfl, hb4⟩
      have B4 : Hid (Below (p + 1) W w4) := BVW.out.trans (hb4.mono (Nat.le_trans zqW.out (Nat.le_trans (Nat.le_succ q) zV.out)))
      have O4 : Hid (ExtOf w4 W.heap.size a c ext) := OV.out.later hb4
      obtain ⟨v0, v1, v2, v3⟩ := SV.out w4 (hb4.mono zV.out)
      rw [HQ.out]
      clear hb4
      have hbk := BK.out w4 B4.out
      have FZ : Hid (∀ W', W' = _ → _) := put4 w4 p _ _ _ _ (.string o) (.int .i64 num) (.string r) (.slice a n c) _ hbk
      have c0 := cell_of_row _ _ 0 _ _ _ hbk
      have c1 := cell_of_row _ _ 1 _ _ _ hbk
      have c2 := cell_of_row _ _ 2 _ _ _ hbk
      have c3 := cell_of_row _ _ 3 _ _ _ hbk
      have f0 := frozen_of_row _ _ 0 _ _ hbk
      have f1 := frozen_of_row _ _ 1 _ _ hbk
      have f2 := frozen_of_row _ _ 2 _ _ hbk
      have f3 := frozen_of_row _ _ 3 _ _ hbk
      go_wp2
      obtain ⟨⟨d0, d1, d2, d3⟩, hbl, hoth⟩ := FZ.out _ rfl
      refine bodyPost_ret (v := .tuple #[.agg #[.string o, .int .i64 num, .string r, .slice a n c], .int .i64 0]) (by simp [results, Tryz.results7, go_sem, d0, d1, d2, d3]) rfl ⟨?_, FIN.out _ ((B4.out.mono (Nat.le_succ p)).trans (hbl _ (Nat.le_refl _)))⟩
      rw [HRR.out]
      exact ⟨a, c, by rw [HN.out], by rw [HP.out]; exact (O4.out.other (Nat.lt_of_succ_le zW.out) hoth).mono (Nat.le_trans (Nat.le_succ p) zW.out)⟩
    · have HRR : Hid (R = none) := HNO.out (fun h => h1 h.1)
      clear HQT
      go_enter Tryz.func7, Tryz.ntmps7
      go_wp2_with fail
      rw [HW.out]
      go_wp2_with fail
      refine C1.out.mono ?_
      rintro e w1 ⟨⟨a, c, rfl, ho⟩, hb1⟩
      have O1 : Hid (ExtOf w1 W.heap.size a c ext) := ho
      have B1 : Hid (Below W.heap.size W w1) := hb1
      clear hb1 ho
      obtain ⟨V, HV⟩ : ∃ V, Hid (w1.alloc (.cells #[.string o, .int .i64 num, .string r, .slice a ext.length c] 30) = V) := ⟨_, rfl⟩
      have BV : Hid (Below w1.heap.size w1 V) := by rw [← HV.out]; exact (Below.refl _ _).alloc (Nat.le_refl _) _
      have SV : Hid (∀ w', Below (w1.heap.size + 1) V w' → w'.cell? ⟨w1.heap.size, 0, none⟩ = some (.string o) ∧ w'.cell? ⟨w1.heap.size, 1, none⟩ = some (.int .i64 num) ∧ w'.cell? ⟨w1.heap.size, 2, none⟩ = some (.string r) ∧ w'.cell? ⟨w1.heap.size, 3, none⟩ = some (.slice a ext.length c)) := by
        rw [← HV.out]; exact fun w' h => box4 w1 w' _ _ _ _ _ h
      have zV : Hid (w1.heap.size + 1 ≤ V.heap.size) := by show _ ≤ _; rw [← HV.out]; simp
      have BVW : Hid (Below (p + 1) W V) := (B1.out.mono zW.out).trans (BV.out.mono (Nat.le_trans zW.out B1.out.size))
      have OV : Hid (ExtOf V W.heap.size a c ext) := O1.out.later BV.out
      have CA : Hid (Calls _ _ _ _ _) := C2.out V a c (NW.out V BVW.out).tab OV.out.reads OV.out.none
      have zqW : Hid (p + 1 ≤ w1.heap.size) := Nat.le_trans zW.out B1.out.size
      obtain ⟨q, HQ⟩ : ∃ q, Hid (w1.heap.size = q) := ⟨_, rfl⟩
      rw [HQ.out] at SV zV zqW
      rw [HN.out] at SV CA HV
      obtain ⟨v0, v1, v2, v3⟩ := SV.out V (Below.refl _ _)
      rw [← HV.out] at v0 v1 v2 v3
      rw [HN.out, HP.out]
      go_wp2_with fail
      rw [HV.out]
      clear v0 v1 v2 v3
      refine CA.out.mono ?_
      rintro e w4 ⟨rfl, hb4⟩
      have B4 : Hid (Below (p + 1) W w4) := BVW.out.trans (hb4.mono (Nat.le_trans zqW.out (Nat.le_trans (Nat.le_succ q) zV.out)))
      have O4 : Hid (ExtOf w4 W.heap.size a c ext) := OV.out.later hb4
      obtain ⟨v0, v1, v2, v3⟩ := SV.out w4 (hb4.mono zV.out)
      rw [HQ.out]
      clear hb4
      have hbk := BK.out w4 B4.out
      have FZ : Hid (∀ W', W' = _ → _) := put4 w4 p _ _ _ _ (.string ⟨#[]⟩) (.int .i64 0) (.string ⟨#[]⟩) (.slice none 0 0) _ hbk
      have c0 := cell_of_row _ _ 0 _ _ _ hbk
      have c1 := cell_of_row _ _ 1 _ _ _ hbk
      have c2 := cell_of_row _ _ 2 _ _ _ hbk
      have c3 := cell_of_row _ _ 3 _ _ _ hbk
      have f0 := frozen_of_row _ _ 0 _ _ hbk
      have f1 := frozen_of_row _ _ 1 _ _ hbk
      have f2 := frozen_of_row _ _ 2 _ _ hbk
      have f3 := frozen_of_row _ _ 3 _ _ hbk
      go_wp2
      obtain ⟨⟨d0, d1, d2, d3⟩, hbl, _⟩ := FZ.out _ rfl
      exact bodyPost_ret (v := .tuple #[.agg #[.string ⟨#[]⟩, .int .i64 0, .string ⟨#[]⟩, .slice none 0 0], .int .i64 204]) (by simp [results, Tryz.results7, go_sem, d0, d1, d2, d3]) rfl ⟨by rw [HRR.out]; rfl, FIN.out _ ((B4.out.mono (Nat.le_succ p)).trans (hbl _ (Nat.le_refl _)))⟩
    · have HRR : Hid (R = none) := HNO.out (fun h => h2 h.2)
      rw [decide_eq_false h2] at HQT
      subst h1
      clear h2
      go_enter Tryz.func7, Tryz.ntmps7
      go_wp2_with fail
      rw [HW.out]
      go_wp2_with fail
      refine C1.out.mono ?_
      rintro e w1 ⟨⟨a, c, rfl, ho⟩, hb1⟩
      have O1 : Hid (ExtOf w1 W.heap.size a c ext) := ho
      have B1 : Hid (Below W.heap.size W w1) := hb1
      clear hb1 ho
      obtain ⟨V, HV⟩ : ∃ V, Hid (w1.alloc (.cells #[.string o, .int .i64 num, .string r, .slice a ext.length c] 30) = V) := ⟨_, rfl⟩
      have BV : Hid (Below w1.heap.size w1 V) := by rw [← HV.out]; exact (Below.refl _ _).alloc (Nat.le_refl _) _
      have SV : Hid (∀ w', Below (w1.heap.size + 1) V w' → w'.cell? ⟨w1.heap.size, 0, none⟩ = some (.string o) ∧ w'.cell? ⟨w1.heap.size, 1, none⟩ = some (.int .i64 num) ∧ w'.cell? ⟨w1.heap.size, 2, none⟩ = some (.string r) ∧ w'.cell? ⟨w1.heap.size, 3, none⟩ = some (.slice a ext.length c)) := by
        rw [← HV.out]; exact fun w' h => box4 w1 w' _ _ _ _ _ h
      have zV : Hid (w1.heap.size + 1 ≤ V.heap.size) := by show _ ≤ _; rw [← HV.out]; simp
      have BVW : Hid (Below (p + 1) W V) := (B1.out.mono zW.out).trans (BV.out.mono (Nat.le_trans zW.out B1.out.size))
      have OV : Hid (ExtOf V W.heap.size a c ext) := O1.out.later BV.out
      have CA : Hid (Calls _ _ _ _ _) := C2.out V a c (NW.out V BVW.out).tab OV.out.reads OV.out.none
      have zqW : Hid (p + 1 ≤ w1.heap.size) := Nat.le_trans zW.out B1.out.size
      obtain ⟨q, HQ⟩ : ∃ q, Hid (w1.heap.size = q) := ⟨_, rfl⟩
      rw [HQ.out] at SV zV zqW
      rw [HN.out] at SV CA HV
      obtain ⟨v0, v1, v2, v3⟩ := SV.out V (Below.refl _ _)
      rw [← HV.out] at v0 v1 v2 v3
      rw [HN.out, HP.out]
      go_wp2_with fail
      rw [HV.out]
      clear v0 v1 v2 v3
      refine CA.out.mono ?_
      rintro e w4 ⟨rfl, hb4⟩
      have B4 : Hid (Below (p + 1) W w4) := BVW.out.trans (hb4.mono (Nat.le_trans zqW.out (Nat.le_trans (Nat.le_succ q) zV.out)))
      have O4 : Hid (ExtOf w4 W.heap.size a c ext) := OV.out.later hb4
      obtain ⟨v0, v1, v2, v3⟩ := SV.out w4 (hb4.mono zV.out)
      rw [HQ.out]
      clear hb4
      have hbk := BK.out w4 B4.out
      have FZ : Hid (∀ W', W' = _ → _) := put4 w4 p _ _ _ _ (.string ⟨#[]⟩) (.int .i64 0) (.string ⟨#[]⟩) (.slice none 0 0) _ hbk
      have c0 := cell_of_row _ _ 0 _ _ _ hbk
      have c1 := cell_of_row _ _ 1 _ _ _ hbk
      have c2 := cell_of_row _ _ 2 _ _ _ hbk
      have c3 := cell_of_row _ _ 3 _ _ _ hbk
      have f0 := frozen_of_row _ _ 0 _ _ hbk
      have f1 := frozen_of_row _ _ 1 _ _ hbk
      have f2 := frozen_of_row _ _ 2 _ _ hbk
      have f3 := frozen_of_row _ _ 3 _ _ hbk
      go_wp2
      obtain ⟨⟨d0, d1, d2, d3⟩, hbl, _⟩ := FZ.out _ rfl
      exact bodyPost_ret (v := .tuple #[.agg #[.string ⟨#[]⟩, .int .i64 0, .string ⟨#[]⟩, .slice none 0 0], .int .i64 204]) (by simp [results, Tryz.results7, go_sem, d0, d1, d2, d3]) rfl ⟨by rw [HRR.out]; rfl, FIN.out _ ((B4.out.mono (Nat.le_succ p)).trans (hbl _ (Nat.le_refl _)))⟩
end Go.Proofs.YthdkbjbhjfiaiaaGreatDoor.z3

namespace Go.Proofs.YthdkbjbhjfiaiaaGreatDoor.z4
open Go.RowKit Go.PlainAid
open Go.Proofs.YthdkbjbhjfiaiaaGreatDoor.ta Go.Proofs.YthdkbjbhjfiaiaaGreatDoor.tb Go.Proofs.YthdkbjbhjfiaiaaGreatDoor.tc Go.Proofs.YthdkbjbhjfiaiaaGreatDoor.td Go.Proofs.YthdkbjbhjfiaiaaGreatDoor.te Go.Proofs.YthdkbjbhjfiaiaaGreatDoor.tg Go.Proofs.YthdkbjbhjfiaiaaGreatDoor.tj Go.Proofs.YthdkbjbhjfiaiaaGreatDoor.ub Go.Proofs.YthdkbjbhjfiaiaaGreatDoor.uc Go.Proofs.YthdkbjbhjfiaiaaGreatDoor.ud Go.Proofs.YthdkbjbhjfiaiaaGreatDoor.va Go.Proofs.YthdkbjbhjfiaiaaGreatDoor.vb Go.Proofs.YthdkbjbhjfiaiaaGreatDoor.vc Go.Proofs.YthdkbjbhjfiaiaaGreatDoor.y1
set_option linter.unusedVariables false
set_option maxRecDepth 4000

-- the document's lines, in a list of its own
def linesO (w w' : World) (o : Option (List (List Int))) (e : Ending) : Prop :=
  match o with
  | some xs => ∃ v, e = .returned (.tuple #[v, .int .i64 0]) ∧ w'.ownsRow w.heap.size 9 1 v (xs.map str).length ((xs.map str).map Value.string)
  | none => e = .returned (.tuple #[.slice none 0 0, .int .i64 43])
set_option maxHeartbeats 3200000 in
theorem rLinesO (s : ByteArray) (hs : s.size ≤ 1900000) (w : World) :
    Calls Tryz.prog 15 #[.string s] w fun e w' => linesO w w' (linesP (bs s)) e ∧ Below w.heap.size w w' := by
  obtain ⟨i9, hi, hz0, hz1, hz2⟩ := info_parts hi9
  have HIN : Hid (_ ∧ _ ∧ _ ∧ _) := ⟨hi, hz0, hz1, hz2⟩
  clear hi hz0 hz1 hz2
  have hgb := get_bt s
  obtain ⟨R, HR⟩ : ∃ R, Hid (linesP (bs s) = R) := ⟨_, rfl⟩
  rw [HR.out]
  go_enter Tryz.func15, Tryz.ntmps15
  go_wp2
  go_loopw [4, 5, 6] (fun o f i wr => ∃ (k j : Nat) (done : List (List Int)), k ≤ s.size ∧ i = .int .i64 k ∧ f = .int .i64 j ∧ Hid (LInv s j k done) ∧ Hid (wr.ownsRow w.heap.size 9 1 o (done.map str).length ((done.map str).map Value.string)) ∧ Hid (Below w.heap.size w wr)) (fun _ _ i _ => (s.size + 1 - intOf i).toNat)
  case atStart => exact ⟨0, 0, [], by omega, rfl, rfl, ⟨Nat.le_refl _, fun j h1 h2 => by omega, rfl, by simp⟩, World.ownsRow_nil _ _ _ _, Below.refl _ _⟩
  case round =>
    obtain ⟨k, j, done, hk, rfl, rfl, HI, HO, HB⟩ := hrel
    have hbase := HB.out.size
    have hjk := HI.out.le
    by_cases hlt : k < s.size
    · have hlt' : (k : Int) < s.size := by omega
      by_cases hbe : bt s k = 10
      · have hga : ∀ (h : k < s.size), ((s[k]'h).toNat : Int) = 10 := fun h => (hgb k h).trans hbe
        have e1 : (j : Int) ≤ k := by omega
        have e2 : (k : Int) ≤ s.size := by omega
        have HI2 : Hid (LInv s (k + 1) (k + 1) (done ++ [bs (s.extract j k)])) := by
          refine ⟨Nat.le_refl _, fun y y1 y2 => by omega, ?_, by have := HI.out.len; simp; omega⟩
          rw [HI.out.ps, cut10 s j k hjk hlt hbe, parts_at _ _ _ (no10 s j k hjk hk HI.out.no)]
          simp
        have hdl : (done.map str).length ≤ k := by rw [List.length_map]; exact HI.out.len
        have hdl2 : (done.map str).length + 1 ≤ 1900001 := by omega
        obtain ⟨m, HM⟩ : ∃ m, Hid ((done.map str).length = m) := ⟨_, rfl⟩
        rw [HM.out] at HO hdl2 hdl
        obtain ⟨Z, HZ⟩ : ∃ Z, Hid (s.extract j k = Z) := ⟨_, rfl⟩
        have hxe := HZ.out
        have HX2 : Hid ((done ++ [bs (s.extract j k)]).map str = done.map str ++ [Z]) := by show _ = _; rw [HZ.out]; simp [str_bs]
        clear hgb hbe
        have hbase1 := hbase
        go_wp2_with (at_builtin; refine wpList_append_own _ rfl _ _ 28 rfl w.heap.size 9 i9 (.string ByteArray.empty) 1 16 Tryz.underlying28 HIN.out.1 HIN.out.2.1 HIN.out.2.2.1 HIN.out.2.2.2 rfl (by decide) _ m _ rfl (HO.out.alloc _) ⟨wr.heap.size, 0, none⟩ 1 1 [.string Z] rfl rfl (fun i u hu => by cases i with | zero => (simp at hu; rw [← hu]; exact new_cell _ _ _) | succ i => simp at hu) (fun u hu => by simp at hu; subst hu; rfl) (by unfold maxLen; omega) (by omega) (by simp; omega) ?_; intro v' w3 hown' hgrow3 hnil3; have HO3 : Hid (World.ownsRow _ _ _ _ _ _ _) := hown'; have HB3 : Hid (Below w.heap.size w w3) := Below.grown (HB.out.alloc HB.out.size _) hgrow3 (by simp; omega) (fun j hj => (HO.out.lt _ hj).1); clear hown' hgrow3 hnil3)
        go_roundw
        case rel =>
          refine ⟨k + 1, k + 1, done ++ [bs (s.extract j k)], by omega, by go_num, by go_num, HI2.out, ?_, HB3.out⟩
          rw [HX2.out, List.length_append, HM.out, List.map_append]
          exact HO3.out
        case measure => simp [intOf]; omega
      · obtain ⟨a, HA⟩ : ∃ a, Hid (bt s k = a) := ⟨_, rfl⟩
        have hga : ∀ (h : k < s.size), ((s[k]'h).toNat : Int) = a := fun h => (hgb k h).trans HA.out
        have hab : (a == 10) = false := beq_eq_false_iff_ne.2 (by rw [← HA.out]; exact hbe)
        have HI2 : Hid (LInv s j (k + 1) done) := by
          refine ⟨by omega, fun x x1 x2 => ?_, HI.out.ps, by have := HI.out.len; omega⟩
          rcases Nat.lt_or_ge x k with g | g
          · exact HI.out.no x x1 g
          · obtain rfl : x = k := by omega
            exact hbe
        clear hgb hbe
        go_wp2
        go_roundw
        case rel => exact ⟨k + 1, j, done, by omega, by go_num, rfl, HI2.out, HO.out, HB.out⟩
        case measure => simp [intOf]; omega
    · have hlt' : ¬ (k : Int) < s.size := by omega
      have hke : k = s.size := by omega
      have hrest : (bs s).drop j = bs (s.extract j k) := by
        rw [bs_extract s j k hjk hk, List.take_of_length_le (by rw [bs_length]; omega)]
      have hl := lines_parts (bs s) done ((bs s).drop j) (by rw [HI.out.ps, hrest, parts_none _ _ (no10 s j k hjk hk HI.out.no)])
      rw [HR.out] at hl
      have HL : Hid (R = if (bs s).drop j = [] then some done else none) := hl
      obtain ⟨hrd, hone⟩ := own_reads' HO.out
      have HRD : Hid (Reads wr u4 (done.map str)) := hrd
      clear hl hrest hrd hgb
      by_cases hj : j < s.size
      · have hj' : (j : Int) < s.size := by omega
        have HE : Hid (R = none) := by
          show _ = _
          rw [HL.out, if_neg]
          intro h
          have := congrArg List.length h
          rw [List.length_drop, bs_length] at this
          simp at this
          omega
        clear hke
        go_wp2
        go_ret2
        refine ⟨?_, HB.out⟩
        rw [HE.out]
        exact rfl
      · have hj' : ¬ (j : Int) < s.size := by omega
        have HE : Hid (R = some done) := by
          show _ = _
          rw [HL.out, if_pos (List.drop_of_length_le (by rw [bs_length]; omega))]
        clear hke
        go_wp2
        go_ret2
        refine ⟨?_, HB.out⟩
        rw [HE.out]
        exact ⟨_, rfl, HO.out⟩
end Go.Proofs.YthdkbjbhjfiaiaaGreatDoor.z4

namespace Go.Proofs.YthdkbjbhjfiaiaaGreatDoor.z5
open Go.RowKit Go.PlainAid Go.Shelf
open Go.Proofs.YthdkbjbhjfiaiaaGreatDoor.ta Go.Proofs.YthdkbjbhjfiaiaaGreatDoor.tb Go.Proofs.YthdkbjbhjfiaiaaGreatDoor.tc Go.Proofs.YthdkbjbhjfiaiaaGreatDoor.th Go.Proofs.YthdkbjbhjfiaiaaGreatDoor.tj Go.Proofs.YthdkbjbhjfiaiaaGreatDoor.tk Go.Proofs.YthdkbjbhjfiaiaaGreatDoor.tq Go.Proofs.YthdkbjbhjfiaiaaGreatDoor.kp Go.Proofs.YthdkbjbhjfiaiaaGreatDoor.va Go.Proofs.YthdkbjbhjfiaiaaGreatDoor.vb Go.Proofs.YthdkbjbhjfiaiaaGreatDoor.vc Go.Proofs.YthdkbjbhjfiaiaaGreatDoor.vd Go.Proofs.YthdkbjbhjfiaiaaGreatDoor.wa Go.Proofs.YthdkbjbhjfiaiaaGreatDoor.wb Go.Proofs.YthdkbjbhjfiaiaaGreatDoor.wc Go.Proofs.YthdkbjbhjfiaiaaGreatDoor.q2 Go.Proofs.YthdkbjbhjfiaiaaGreatDoor.t3 Go.Proofs.YthdkbjbhjfiaiaaGreatDoor.yc Go.Proofs.YthdkbjbhjfiaiaaGreatDoor.u1 Go.Proofs.YthdkbjbhjfiaiaaGreatDoor.ytb Go.Proofs.YthdkbjbhjfiaiaaGreatDoor.ytc Go.Proofs.YthdkbjbhjfiaiaaGreatDoor.ytd Go.Proofs.YthdkbjbhjfiaiaaGreatDoor.yte Go.Proofs.YthdkbjbhjfiaiaaGreatDoor.z1 Go.Proofs.YthdkbjbhjfiaiaaGreatDoor.z2 Go.Proofs.YthdkbjbhjfiaiaaGreatDoor.z4
open Go.Proofs.YthdkbjbhjfiaiaaGreatDoor.yta (infoS)
open Go.Proofs.YthdkbjbhjfiaiaaGreatDoor.y1 (linesP)
set_option linter.unusedVariables false
set_option maxRecDepth 4000

def pdR (w w' : World) (o : Option Pt) (e : Ending) : Prop := match o with
  | some p => ∃ a c, e = .returned (.tuple #[.agg #[.string p.o, .int .i64 p.n, .string p.r, .slice a p.ext.length c], .int .i64 0]) ∧ Reads w' (.slice a p.ext.length c) p.ext
  | none => e = .returned (.tuple #[zeroP, .int .i64 204])
-- a list of one's own, by its block
theorem own_lies {w : World} {B n : Nat} {v : Value} {xs : List ByteArray} (h : w.ownsRow B 9 1 v n (xs.map Value.string)) (hl : xs.length = n) (h0 : 0 < n) : ∃ g cap, v = .slice (some ⟨g, 0, none⟩) n cap ∧ n ≤ cap ∧ B ≤ g ∧ g < w.heap.size ∧ ∀ i x, xs[i]? = some x → w.cell? ⟨g, i, none⟩ = some (.string x) := by
  rcases h.2 with ⟨rfl, h1⟩ | ⟨g, cap, cur, e, h2, h3, h4, h5, h6, h7⟩
  · omega
  · refine ⟨g, cap, e, ?_, h2, (Array.getElem?_eq_some_iff.1 h3).1, fun i x hx => ?_⟩
    · have := h.2
      have e2 := congrArg List.length h7
      rw [List.length_take, List.length_map] at e2
      omega
    · subst e
      have := h.cells (g := g) rfl i (.string x) (by rw [List.getElem?_map, hx]; rfl)
      rwa [Addr.add_mid, Nat.zero_add] at this
theorem own_mono {w : World} {B B' t z n : Nat} {v : Value} {xs : List Value} (o : w.ownsRow B t z v n xs) (h : B' ≤ B) : w.ownsRow B' t z v n xs := by
  refine ⟨o.1, ?_⟩
  rcases o.2 with h2 | ⟨g, cap, cur, e, h2, h3⟩
  · exact .inl h2
  · exact .inr ⟨g, cap, cur, e, Nat.le_trans h h2, h3⟩
theorem kp4 (w : World) (p : Nat) (x y z u : Value) : Kp (fun j => j = p) w ((((w.setCell ⟨p, 0, none⟩ x).setCell ⟨p, 1, none⟩ y).setCell ⟨p, 2, none⟩ z).setCell ⟨p, 3, none⟩ u) :=
  (((Kp.setCell (A := fun q => q = p) _ _ _ _ rfl).trans (Kp.setCell (A := fun q => q = p) _ _ _ _ rfl)).trans (Kp.setCell (A := fun q => q = p) _ _ _ _ rfl)).trans (Kp.setCell (A := fun q => q = p) _ _ _ _ rfl)
set_option maxHeartbeats 6400000 in
theorem parseD (s : ByteArray) (hs : s.size ≤ 1900000) (w : World) :
    Calls Tryz.prog 5 #[.string s] w fun e w' => pdR w w' (ptP s) e ∧ Below w.heap.size w w' := by
  obtain ⟨i0, hi, hz0, hz1, hz2⟩ := info_parts infoS
  have HIN : Hid (_ ∧ _ ∧ _ ∧ _) := ⟨hi, hz0, hz1, hz2⟩
  clear hi hz0 hz1 hz2
  obtain ⟨W, HW⟩ : ∃ W, Hid (w.alloc (.cells #[.string ⟨#[]⟩, .int .i64 0, .string ⟨#[]⟩, .slice none 0 0] 30) = W) := ⟨_, rfl⟩
  have BW : Hid (Below w.heap.size w W) := by rw [← HW.out]; exact (Below.refl _ _).alloc (Nat.le_refl _) _
  have HBK : Hid (W.heap[w.heap.size]? = some (.cells #[.string ⟨#[]⟩, .int .i64 0, .string ⟨#[]⟩, .slice none 0 0] 30 (0, 0))) := by rw [← HW.out]; exact heap_alloc_new w _
  have zW : Hid (w.heap.size + 1 ≤ W.heap.size) := by show _ ≤ _; rw [← HW.out]; simp
  have L : Hid (Calls _ _ _ _ _) := rLinesO s (by omega) W
  obtain ⟨p, HP⟩ : ∃ p, Hid (w.heap.size = p) := ⟨_, rfl⟩
  have FIN : Hid (∀ w', Below p W w' → Below w.heap.size w w') := fun w' h => by rw [HP.out] at BW ⊢; exact BW.out.trans h
  rw [HP.out] at HBK zW
  have BK : Hid (∀ w', Below (p + 1) W w' → w'.heap[p]? = some (.cells #[.string ⟨#[]⟩, .int .i64 0, .string ⟨#[]⟩, .slice none 0 0] 30 (0, 0))) := fun w' h => (h.block p (Nat.lt_succ_self _)).trans HBK.out
  rcases rows_all s with ⟨ls, h1, h2, h3⟩ | hn
  · rw [h3] at L
    by_cases hl : ls.length < 3
    · rw [pt_none s (flP_few s ls h3 hl)]
      obtain ⟨n, HN⟩ : ∃ n, Hid (ls.length = n) := ⟨_, rfl⟩
      have hlt : (n : Int) < 3 := by rw [← HN.out]; omega
      clear h1 h2 h3 hl
      go_enter Tryz.func5, Tryz.ntmps5
      go_wp2_with fail
      rw [HW.out]
      refine L.out.mono ?_
      rintro e w3 ⟨⟨v, rfl, ht⟩, hb⟩
      have B3 : Hid (Below (p + 1) W w3) := hb.mono zW.out
      rw [map_str_bs] at ht
      obtain ⟨a, c, hv⟩ := Go.Proofs.YthdkbjbhjfiaiaaGreatDoor.w3.own_form ht
      rw [HN.out] at hv
      subst hv
      clear hb ht
      have hbk := BK.out w3 B3.out
      have FZ : Hid (∀ W', W' = _ → _) := put4 w3 p _ _ _ _ (.string ⟨#[]⟩) (.int .i64 0) (.string ⟨#[]⟩) (.slice none 0 0) _ hbk
      have d0 := cell_of_row _ _ 0 _ _ _ hbk
      have d1 := cell_of_row _ _ 1 _ _ _ hbk
      have d2 := cell_of_row _ _ 2 _ _ _ hbk
      have d3 := cell_of_row _ _ 3 _ _ _ hbk
      have f0 := frozen_of_row _ _ 0 _ _ hbk
      have f1 := frozen_of_row _ _ 1 _ _ hbk
      have f2 := frozen_of_row _ _ 2 _ _ hbk
      have f3 := frozen_of_row _ _ 3 _ _ hbk
      rw [HP.out]
      go_wp2
      obtain ⟨⟨d0, d1, d2, d3⟩, hbl, _⟩ := FZ.out _ rfl
      exact bodyPost_ret (v := .tuple #[.agg #[.string ⟨#[]⟩, .int .i64 0, .string ⟨#[]⟩, .slice none 0 0], .int .i64 204]) (by simp [results, Tryz.results5, go_sem, d0, d1, d2, d3]) rfl ⟨rfl, FIN.out _ ((B3.out.mono (Nat.le_succ p)).trans (hbl _ (Nat.le_refl _)))⟩
    · obtain ⟨x, y, z, l, rfl⟩ : ∃ x y z l, ls = x :: y :: z :: l := by
        match ls, hl with
        | x :: y :: z :: l, _ => exact ⟨x, y, z, l, rfl⟩
        | [], h => exact absurd (by simp) h
        | [_], h => exact absurd (by simp) h
        | [_, _], h => exact absurd (by simp) h
      have hsz := fl_cons x (y :: z :: l)
      have hsy := fl_cons y (z :: l)
      have hsw := fl_cons z l
      rw [← h1] at hsz
      have C1 : Hid (∀ w, Calls _ _ _ _ _) := fun w => rUnDec y (by omega) w
      have C2 : Hid (∀ w, Calls _ _ _ _ _) := fun w => rUn64 z (by omega) w
      obtain ⟨n, HN⟩ : ∃ n, Hid (l.length = n) := ⟨_, rfl⟩
      have HLN : Hid ((x :: y :: z :: l).length = n + 3) := by show _ = _; rw [← HN.out]; rfl
      have hzl : n ≤ 1900000 := by
        have h := fl_size l
        rw [HN.out] at h
        omega
      have hge : ¬ (((n + 3 : Nat) : Int) < 3) := by omega
      have hcases : ((∃ n, I64 n ∧ decS n = y) ∧ Acc64 (bs z)) ∨ (¬ ∃ n, I64 n ∧ decS n = y) ∨ ((∃ n, I64 n ∧ decS n = y) ∧ ¬ Acc64 (bs z)) := by
        by_cases hy : ∃ n, I64 n ∧ decS n = y
        · by_cases hz : Acc64 (bs z)
          · exact .inl ⟨hy, hz⟩
          · exact .inr (.inr ⟨hy, hz⟩)
        · exact .inr (.inl hy)
      rcases hcases with hcase | hcase | hcase
      · have hf := flP_yes s x y z l h3 hcase.1 hcase.2
        obtain ⟨zo, zr, zl, hI⟩ := fl_small s _ hf
        have HYES : Hid (txE x (unN y) (str (cutL (bs z))) l = 0 → txT x (unN y) (str (cutL (bs z))) l = s → ptP s = some ⟨x, unN y, str (cutL (bs z)), l⟩) := fun h1 h2 => pt_some s _ hf h1 h2
        have HNO : Hid (¬ (txE x (unN y) (str (cutL (bs z))) l = 0 ∧ txT x (unN y) (str (cutL (bs z))) l = s) → ptP s = none) := fun h => pt_no s _ hf h
        simp only at zo zr zl hI
        obtain ⟨m, HM⟩ : ∃ m, Hid (unN y = m) := ⟨_, rfl⟩
        obtain ⟨r, HR⟩ : ∃ r, Hid (str (cutL (bs z)) = r) := ⟨_, rfl⟩
        rw [show unDecV y = .tuple #[.int .i64 m, .int .i64 0] by unfold unDecV; rw [if_pos hcase.1, HM.out]] at C1
        rw [show un64V z = .tuple #[.string r, .int .i64 0] by unfold un64V readV; rw [if_pos hcase.2, HR.out]] at C2
        rw [HM.out, HR.out] at HYES HNO
        rw [HM.out] at hI
        rw [HR.out] at zr
        obtain ⟨E, HE⟩ : ∃ E, Hid (txE x m r l = E) := ⟨_, rfl⟩
        obtain ⟨T, HT⟩ : ∃ T, Hid (txT x m r l = T) := ⟨_, rfl⟩
        obtain ⟨R, HRR⟩ : ∃ R, Hid (ptP s = R) := ⟨_, rfl⟩
        rw [HE.out, HT.out, HRR.out] at HYES HNO
        rw [HRR.out]
        have C3 : Hid (∀ w a c, Reads w (.slice a l.length c) l → Calls Tryz.prog 18 #[.agg #[.string x, .int .i64 m, .string r, .slice a l.length c]] w fun e w' => e = .returned (.tuple #[.string T, .int .i64 E]) ∧ Below w.heap.size w w') := fun w a c h2 => by
          have h := textD x m r l a c w hI (by omega) (by omega) h2 (by omega)
          unfold txV at h
          rw [HE.out, HT.out] at h
          exact h
        rw [HN.out] at C3
        have HQT := toList_bs T s
        clear hf hI zo zr zl
        clear h1 h2 h3 hl hsz hsy hsw hcase
        go_enter Tryz.func5, Tryz.ntmps5
        go_wp2_with fail
        rw [HW.out]
        refine L.out.mono ?_
        rintro e w1 ⟨⟨v, rfl, ht⟩, hb⟩
        have B1 : Hid (Below W.heap.size W w1) := hb
        rw [map_str_bs, HLN.out] at ht
        obtain ⟨g, cap, hv, hcap, HG, HGL, HC⟩ : ∃ g cap, v = .slice (some ⟨g, 0, none⟩) (n + 3 : Nat) cap ∧ (n + 3 ≤ cap) ∧ Hid (W.heap.size ≤ g) ∧ Hid (g < w1.heap.size) ∧ Hid (∀ i t, (x :: y :: z :: l)[i]? = some t → w1.cell? ⟨g, i, none⟩ = some (.string t)) := by
          obtain ⟨g, cap, e, a1, a2, a3, a4⟩ := own_lies ht HLN.out (by omega)
          exact ⟨g, cap, e, a1, a2, a3, a4⟩
        subst hv
        have CE : Hid (∀ w', Below w1.heap.size w1 w' → w'.cell? ⟨g, 0, none⟩ = some (.string x) ∧ w'.cell? ⟨g, 1, none⟩ = some (.string y) ∧ w'.cell? ⟨g, 2, none⟩ = some (.string z)) := fun w' h =>
          ⟨(h.cell (p := ⟨g, 0, none⟩) HGL.out).trans (HC.out 0 x rfl), (h.cell (p := ⟨g, 1, none⟩) HGL.out).trans (HC.out 1 y rfl), (h.cell (p := ⟨g, 2, none⟩) HGL.out).trans (HC.out 2 z rfl)⟩
        obtain ⟨c0, c1, c2⟩ := CE.out w1 (Below.refl _ _)
        clear hb ht
        go_wp2_with fail
        refine (C1.out _).mono ?_
        rintro e w2 ⟨rfl, hw2⟩
        subst hw2
        go_wp2_with fail
        refine (C2.out _).mono ?_
        rintro e w3 ⟨rfl, hb3⟩
        have B3L : Hid (Below w2.heap.size w2 w3) := hb3
        have B3 : Hid (Below W.heap.size W w3) := B1.out.trans (B3L.out.mono B1.out.size)
        have B3P : Hid (Below (p + 1) W w3) := B3.out.mono zW.out
        clear hb3
        clear c0 c1 c2
        obtain ⟨c0, c1, c2⟩ := CE.out w3 B3L.out
        obtain ⟨V, HV⟩ : ∃ V, Hid (w3.alloc (.cells #[.string x, .int .i64 m, .string r, .slice none 0 0] 30) = V) := ⟨_, rfl⟩
        have BV : Hid (Below w3.heap.size w3 V) := by rw [← HV.out]; exact (Below.refl _ _).alloc (Nat.le_refl _) _
        have QV : Hid (V.heap[w3.heap.size]? = some (.cells #[.string x, .int .i64 m, .string r, .slice none 0 0] 30 (0, 0))) := by rw [← HV.out]; exact heap_alloc_new w3 _
        have zV : Hid (w3.heap.size + 1 ≤ V.heap.size) := by show _ ≤ _; rw [← HV.out]; simp
        have BVP : Hid (Below (p + 1) W V) := B3P.out.trans (BV.out.mono (Nat.le_trans zW.out B3.out.size))
        have CV : Hid (∀ i t, (x :: y :: z :: l)[i]? = some t → V.cell? ⟨g, i, none⟩ = some (.string t)) := fun i t hi => ((B3L.out.trans (BV.out.mono B3L.out.size)).cell (p := ⟨g, i, none⟩) HGL.out).trans (HC.out i t hi)
        have zqW : Hid (p + 1 ≤ w3.heap.size) := Nat.le_trans zW.out B3.out.size
        obtain ⟨q, HQ⟩ : ∃ q, Hid (w3.heap.size = q) := ⟨_, rfl⟩
        rw [HQ.out] at QV zV zqW
        rw [HP.out]
        go_wp2_with fail
        rw [HV.out, HQ.out]
        go_cut [57] (fun cc wx => ∃ a6 c6, cc = .slice a6 n c6 ∧ Hid (wx.heap[q]? = some (.cells #[.string x, .int .i64 m, .string r, .slice a6 n c6] 30 (0, 0)) ∧ Below (p + 1) W wx ∧ wx.ownsRow (q + 1) 9 1 (.slice a6 n c6) n (l.map Value.string) ∧ q < wx.heap.size))
        case first =>
          have q3 := cell_of_row _ _ 3 _ _ _ QV.out
          have fq3 := frozen_of_row _ _ 3 _ _ QV.out
          have s1 : (3 : Int) ≤ ((n + 3 : Nat) : Int) := by omega
          have BVD : Hid (Below (p + 1) W V.drew) := Go.Proofs.YthdkbjbhjfiaiaaGreatDoor.tj.below_dN BVP.out 1
          have QVD : Hid (V.drew.heap[q]? = some (.cells #[.string x, .int .i64 m, .string r, .slice none 0 0] 30 (0, 0))) := QV.out
          have HPQ : Hid (p + 1 ≤ q) := zqW.out
          rcases Nat.eq_zero_or_pos n with h0 | h0
          · have HL0 : Hid (l = []) := List.length_eq_zero_iff.1 (by rw [HN.out]; exact h0)
            subst h0
            have FI : Hid (∀ X : World, X.heap[q]? = some (.cells #[.string x, .int .i64 m, .string r, .slice none 0 0] 30 (0, 0)) → Below (p + 1) W X → ∃ a6 c6, Value.slice none 0 0 = .slice a6 0 c6 ∧ Hid ((X.setCell ⟨q, 3, none⟩ (.slice none 0 0)).heap[q]? = some (.cells #[.string x, .int .i64 m, .string r, .slice a6 0 c6] 30 (0, 0)) ∧ Below (p + 1) W (X.setCell ⟨q, 3, none⟩ (.slice none 0 0)) ∧ (X.setCell ⟨q, 3, none⟩ (.slice none 0 0)).ownsRow (q + 1) 9 1 (.slice a6 0 c6) 0 (l.map Value.string) ∧ q < (X.setCell ⟨q, 3, none⟩ (.slice none 0 0)).heap.size)) := fun X h1 h2 => by
              have hh := heap_setCell_same _ _ 3 _ _ (.slice none 0 0) h1
              exact ⟨none, 0, rfl, hh, h2.setCell HPQ.out _, by rw [HL0.out]; exact World.ownsRow_nil _ _ _ _, (Array.getElem?_eq_some_iff.1 hh).1⟩
            by_cases hc3 : cap = 3
            · subst hc3
              go_region
              all_goals (
                go_wp2
                go_meet
                exact FI.out V.drew QVD.out BVD.out)
            · go_region
              all_goals (
                go_wp2
                go_meet
                exact FI.out V.drew QVD.out BVD.out)
          · have hc3 : ¬ cap = 3 := by omega
            have HNEW : Hid (∀ j u, (l.map Value.string)[j]? = some u → V.drew.cell? ((⟨g, 3, none⟩ : Addr).add j) = some u) := by
              intro j u hj
              rw [List.getElem?_map] at hj
              cases ht : l[j]? with
              | none => rw [ht] at hj; cases hj
              | some t =>
                rw [ht] at hj
                obtain rfl := Option.some.inj hj
                have := CV.out (j + 3) t (by show l[j]? = _; exact ht)
                rw [Addr.add_mid, Nat.add_comm 3 j]
                exact this
            have HLM : Hid ((l.map Value.string).length = n * 1) := by show _ = _; rw [List.length_map, HN.out, Nat.mul_one]
            have HZV : Hid (V.heap.size ≤ V.drew.heap.size) := Nat.le_refl _
            have FI : Hid (∀ g6 c6 (w7 : World), w7.ownsRow V.heap.size 9 1 (.slice (some ⟨g6, 0, none⟩) (0 + n) c6) (0 + n) ([] ++ l.map Value.string) → V.drew.grownBy w7 (Value.slice none 0 0).ownBlock → (w7.cell? ⟨q, 3, none⟩ = some (.slice none 0 0) ∧ w7.frozen? ⟨q, 3, none⟩ = false) ∧ ∃ a6' c6', Value.slice (some ⟨g6, 0, none⟩) n c6 = .slice a6' n c6' ∧ Hid ((w7.setCell ⟨q, 3, none⟩ (.slice (some ⟨g6, 0, none⟩) n c6)).heap[q]? = some (.cells #[.string x, .int .i64 m, .string r, .slice a6' n c6'] 30 (0, 0)) ∧ Below (p + 1) W (w7.setCell ⟨q, 3, none⟩ (.slice (some ⟨g6, 0, none⟩) n c6)) ∧ (w7.setCell ⟨q, 3, none⟩ (.slice (some ⟨g6, 0, none⟩) n c6)).ownsRow (q + 1) 9 1 (.slice a6' n c6') n (l.map Value.string) ∧ q < (w7.setCell ⟨q, 3, none⟩ (.slice (some ⟨g6, 0, none⟩) n c6)).heap.size)) := fun g6 c6 w7 ho hg => by
              rw [Nat.zero_add, List.nil_append] at ho
              have hB : Below V.heap.size V.drew w7 := (Below.refl _ _).grown hg HZV.out (fun j hj => by cases hj)
              have h1 := (hB.block q zV.out).trans QVD.out
              have hh := heap_setCell_same _ _ 3 _ _ (.slice (some ⟨g6, 0, none⟩) n c6) h1
              have hown := Go.Proofs.YthdkbjbhjfiaiaaGreatDoor.o1.own_kp ho (Kp.setCell (A := fun j => j = q) w7 q 3 (.slice (some ⟨g6, 0, none⟩) n c6) rfl) (fun j hj e => by have h3 := (ho.lt j hj.symm).1; have h4 := zV.out; omega)
              refine ⟨⟨cell_of_row _ _ 3 _ _ _ h1, frozen_of_row _ _ 3 _ _ h1⟩, _, _, rfl, hh, ?_, ?_, (Array.getElem?_eq_some_iff.1 hh).1⟩
              · exact (BVD.out.trans (hB.mono (Nat.le_trans HPQ.out (Nat.le_trans (Nat.le_succ q) zV.out)))).setCell HPQ.out _
              · exact own_mono hown zV.out
            have hbb : (0 + n) * 16 ≤ 140737488355328 := by omega
            have HNIL : Hid (V.drew.ownsRow V.heap.size 9 1 (.slice none 0 0) 0 []) := World.ownsRow_nil _ _ _ _
            go_region_law ((refine step_append_lies _ (by rfl) (.tmp 54) (.tmp 56) 28 (by rfl) V.heap.size 9 i0 (.string ⟨#[]⟩) 1 16 Tryz.underlying28 HIN.out.1 HIN.out.2.1 HIN.out.2.2.1 HIN.out.2.2.2 rfl (by decide) (.slice none 0 0) 0 _ (by simp [Act.eval]) HNIL.out ⟨g, 3, none⟩ n (cap - 3) (l.map Value.string) (by simp [Act.eval]) HLM.out HNEW.out (one_texts _) h0 (by unfold maxLen; omega) hbb HZV.out V.heap.size rfl ?_; intro g6 c6 w7 ho7 hg7 hl7 hlt7; have A7 : Hid _ := FI.out g6 c6 w7 ho7 hg7; have cz := A7.out.1.1; have fz := A7.out.1.2; clear ho7 hg7 hl7))
            all_goals (
              go_wp2
              go_meet
              exact A7.out.2)
        case rest =>
          obtain ⟨a6, c6, rfl, HH⟩ := hcut
          have hq := HH.out.1
          have BC : Hid (Below (p + 1) W wc) := HH.out.2.1
          have OC : Hid (wc.ownsRow (q + 1) 9 1 (.slice a6 n c6) n (l.map Value.string)) := HH.out.2.2.1
          have RC : Hid (Reads wc (.slice a6 n c6) l) := own_texts OC.out HN.out
          have CA : Hid (Calls _ _ _ _ _) := C3.out wc a6 c6 RC.out
          have HQ4 : Hid (∀ w', Below (q + 1) wc w' → w'.heap[q]? = some (.cells #[.string x, .int .i64 m, .string r, .slice a6 n c6] 30 (0, 0))) := fun w' h => (h.block q (Nat.lt_succ_self q)).trans HH.out.1
          have HQZ : Hid (q + 1 ≤ wc.heap.size) := HH.out.2.2.2
          have e0 := cell_of_row _ _ 0 _ _ _ hq
          have e1 := cell_of_row _ _ 1 _ _ _ hq
          have e2 := cell_of_row _ _ 2 _ _ _ hq
          have e3 := cell_of_row _ _ 3 _ _ _ hq
          have HNL : Hid (l.length = n) := HN
          clear hq c0 c1 c2
          have hcs : (E = 0 ∧ T = s) ∨ E ≠ 0 ∨ (E = 0 ∧ T ≠ s) := by
            by_cases h1 : E = 0
            · by_cases h2 : T = s
              · exact .inl ⟨h1, h2⟩
              · exact .inr (.inr ⟨h1, h2⟩)
            · exact .inr (.inl h1)
          go_wp2_with fail
          refine CA.out.mono ?_
          rintro e w4 ⟨rfl, hb4⟩
          have B4 : Hid (Below (p + 1) W w4) := BC.out.trans (hb4.mono (Nat.le_trans zqW.out (Nat.le_trans (Nat.le_succ q) HQZ.out)))
          have O4 : Hid (w4.ownsRow (q + 1) 9 1 (.slice a6 n c6) n (l.map Value.string)) := Go.Proofs.YthdkbjbhjfiaiaaGreatDoor.o1.own_kp OC.out (Kp.of_below (A := fun _ => False) hb4) (fun _ _ e => e)
          have hq4 := HQ4.out w4 (hb4.mono HQZ.out)
          clear e0 e1 e2 e3 hb4
          have e0 := cell_of_row _ _ 0 _ _ _ hq4
          have e1 := cell_of_row _ _ 1 _ _ _ hq4
          have e2 := cell_of_row _ _ 2 _ _ _ hq4
          have e3 := cell_of_row _ _ 3 _ _ _ hq4
          clear hq4
          have hbk := BK.out w4 B4.out
          rcases hcs with ⟨h1, h2⟩ | h1 | ⟨h1, h2⟩
          · have HRS : Hid (R = some ⟨x, m, r, l⟩) := HYES.out h1 h2
            rw [decide_eq_true h2] at HQT
            subst h1
            clear h2
            have FZ : Hid (∀ W', W' = _ → _) := put4 w4 p _ _ _ _ (.string x) (.int .i64 m) (.string r) (.slice a6 n c6) _ hbk
            have RP : Hid (∀ W', W' = (((w4.setCell ⟨p, 0, none⟩ (.string x)).setCell ⟨p, 1, none⟩ (.int .i64 m)).setCell ⟨p, 2, none⟩ (.string r)).setCell ⟨p, 3, none⟩ (.slice a6 n c6) → Reads W' (.slice a6 n c6) l) := by
              rintro _ rfl
              exact own_texts (Go.Proofs.YthdkbjbhjfiaiaaGreatDoor.o1.own_kp O4.out (kp4 w4 p _ _ _ _) (fun j hj e => by have h3 := (O4.out.lt j hj.symm).1; have h4 := zqW.out; omega)) HNL.out
            have c0 := cell_of_row _ _ 0 _ _ _ hbk
            have c1 := cell_of_row _ _ 1 _ _ _ hbk
            have c2 := cell_of_row _ _ 2 _ _ _ hbk
            have c3 := cell_of_row _ _ 3 _ _ _ hbk
            have f0 := frozen_of_row _ _ 0 _ _ hbk
            have f1 := frozen_of_row _ _ 1 _ _ hbk
            have f2 := frozen_of_row _ _ 2 _ _ hbk
            have f3 := frozen_of_row _ _ 3 _ _ hbk
            go_wp2
            have hrp := RP.out _ rfl
            obtain ⟨⟨d0, d1, d2, d3⟩, hbl, hoth⟩ := FZ.out _ rfl
            refine bodyPost_ret (v := .tuple #[.agg #[.string x, .int .i64 m, .string r, .slice a6 n c6], .int .i64 0]) (by simp [results, Tryz.results5, go_sem, d0, d1, d2, d3]) rfl ⟨?_, FIN.out _ ((B4.out.mono (Nat.le_succ p)).trans (hbl _ (Nat.le_refl _)))⟩
            rw [HRS.out]
            exact ⟨a6, c6, by rw [HNL.out], by rw [HNL.out]; exact hrp⟩
          · have HRS : Hid (R = none) := HNO.out (fun h => h1 h.1)
            clear HQT
            have FZ : Hid (∀ W', W' = _ → _) := put4 w4 p _ _ _ _ (.string ⟨#[]⟩) (.int .i64 0) (.string ⟨#[]⟩) (.slice none 0 0) _ hbk
            have d0 := cell_of_row _ _ 0 _ _ _ hbk
            have d1 := cell_of_row _ _ 1 _ _ _ hbk
            have d2 := cell_of_row _ _ 2 _ _ _ hbk
            have d3 := cell_of_row _ _ 3 _ _ _ hbk
            have f0 := frozen_of_row _ _ 0 _ _ hbk
            have f1 := frozen_of_row _ _ 1 _ _ hbk
            have f2 := frozen_of_row _ _ 2 _ _ hbk
            have f3 := frozen_of_row _ _ 3 _ _ hbk
            go_wp2
            obtain ⟨⟨d0, d1, d2, d3⟩, hbl, _⟩ := FZ.out _ rfl
            exact bodyPost_ret (v := .tuple #[.agg #[.string ⟨#[]⟩, .int .i64 0, .string ⟨#[]⟩, .slice none 0 0], .int .i64 204]) (by simp [results, Tryz.results5, go_sem, d0, d1, d2, d3]) rfl ⟨by rw [HRS.out]; rfl, FIN.out _ ((B4.out.mono (Nat.le_succ p)).trans (hbl _ (Nat.le_refl _)))⟩
          · have HRS : Hid (R = none) := HNO.out (fun h => h2 h.2)
            rw [decide_eq_false h2] at HQT
            subst h1
            clear h2
            have FZ : Hid (∀ W', W' = _ → _) := put4 w4 p _ _ _ _ (.string ⟨#[]⟩) (.int .i64 0) (.string ⟨#[]⟩) (.slice none 0 0) _ hbk
            have d0 := cell_of_row _ _ 0 _ _ _ hbk
            have d1 := cell_of_row _ _ 1 _ _ _ hbk
            have d2 := cell_of_row _ _ 2 _ _ _ hbk
            have d3 := cell_of_row _ _ 3 _ _ _ hbk
            have f0 := frozen_of_row _ _ 0 _ _ hbk
            have f1 := frozen_of_row _ _ 1 _ _ hbk
            have f2 := frozen_of_row _ _ 2 _ _ hbk
            have f3 := frozen_of_row _ _ 3 _ _ hbk
            go_wp2
            obtain ⟨⟨d0, d1, d2, d3⟩, hbl, _⟩ := FZ.out _ rfl
            exact bodyPost_ret (v := .tuple #[.agg #[.string ⟨#[]⟩, .int .i64 0, .string ⟨#[]⟩, .slice none 0 0], .int .i64 204]) (by simp [results, Tryz.results5, go_sem, d0, d1, d2, d3]) rfl ⟨by rw [HRS.out]; rfl, FIN.out _ ((B4.out.mono (Nat.le_succ p)).trans (hbl _ (Nat.le_refl _)))⟩
      · rw [pt_none s (flP_no s x y z l h3 (fun h => hcase h.1))]
        rw [show unDecV y = .tuple #[.int .i64 0, .int .i64 42] by unfold unDecV; rw [if_neg hcase]] at C1
        obtain ⟨r, e2, H2⟩ : ∃ r e2, un64V z = .tuple #[.string r, .int .i64 e2] := by
          unfold un64V
          split
          · exact ⟨_, _, rfl⟩
          · exact ⟨_, _, rfl⟩
        rw [H2] at C2
        clear H2
        clear h1 h2 h3 hl hsz hsy hsw hcase
        go_enter Tryz.func5, Tryz.ntmps5
        go_wp2_with fail
        rw [HW.out]
        refine L.out.mono ?_
        rintro e w1 ⟨⟨v, rfl, ht⟩, hb⟩
        have B1 : Hid (Below W.heap.size W w1) := hb
        rw [map_str_bs, HLN.out] at ht
        obtain ⟨g, cap, hv, hcap, HG, HGL, HC⟩ : ∃ g cap, v = .slice (some ⟨g, 0, none⟩) (n + 3 : Nat) cap ∧ (n + 3 ≤ cap) ∧ Hid (W.heap.size ≤ g) ∧ Hid (g < w1.heap.size) ∧ Hid (∀ i t, (x :: y :: z :: l)[i]? = some t → w1.cell? ⟨g, i, none⟩ = some (.string t)) := by
          obtain ⟨g, cap, e, a1, a2, a3, a4⟩ := own_lies ht HLN.out (by omega)
          exact ⟨g, cap, e, a1, a2, a3, a4⟩
        subst hv
        have CE : Hid (∀ w', Below w1.heap.size w1 w' → w'.cell? ⟨g, 0, none⟩ = some (.string x) ∧ w'.cell? ⟨g, 1, none⟩ = some (.string y) ∧ w'.cell? ⟨g, 2, none⟩ = some (.string z)) := fun w' h =>
          ⟨(h.cell (p := ⟨g, 0, none⟩) HGL.out).trans (HC.out 0 x rfl), (h.cell (p := ⟨g, 1, none⟩) HGL.out).trans (HC.out 1 y rfl), (h.cell (p := ⟨g, 2, none⟩) HGL.out).trans (HC.out 2 z rfl)⟩
        obtain ⟨c0, c1, c2⟩ := CE.out w1 (Below.refl _ _)
        clear hb ht
        go_wp2_with fail
        refine (C1.out _).mono ?_
        rintro e w2 ⟨rfl, hw2⟩
        subst hw2
        go_wp2_with fail
        refine (C2.out _).mono ?_
        rintro e w3 ⟨rfl, hb3⟩
        have B3L : Hid (Below w2.heap.size w2 w3) := hb3
        have B3 : Hid (Below W.heap.size W w3) := B1.out.trans (B3L.out.mono B1.out.size)
        have B3P : Hid (Below (p + 1) W w3) := B3.out.mono zW.out
        clear hb3
        have B3 : Hid (Below (p + 1) W w3) := B3P.out
        have hbk := BK.out w3 B3.out
        have FZ : Hid (∀ W', W' = _ → _) := put4 w3 p _ _ _ _ (.string ⟨#[]⟩) (.int .i64 0) (.string ⟨#[]⟩) (.slice none 0 0) _ hbk
        have d0 := cell_of_row _ _ 0 _ _ _ hbk
        have d1 := cell_of_row _ _ 1 _ _ _ hbk
        have d2 := cell_of_row _ _ 2 _ _ _ hbk
        have d3 := cell_of_row _ _ 3 _ _ _ hbk
        have f0 := frozen_of_row _ _ 0 _ _ hbk
        have f1 := frozen_of_row _ _ 1 _ _ hbk
        have f2 := frozen_of_row _ _ 2 _ _ hbk
        have f3 := frozen_of_row _ _ 3 _ _ hbk
        rw [HP.out]
        go_wp2
        obtain ⟨⟨d0, d1, d2, d3⟩, hbl, _⟩ := FZ.out _ rfl
        exact bodyPost_ret (v := .tuple #[.agg #[.string ⟨#[]⟩, .int .i64 0, .string ⟨#[]⟩, .slice none 0 0], .int .i64 204]) (by simp [results, Tryz.results5, go_sem, d0, d1, d2, d3]) rfl ⟨rfl, FIN.out _ ((B3.out.mono (Nat.le_succ p)).trans (hbl _ (Nat.le_refl _)))⟩
      · rw [pt_none s (flP_no s x y z l h3 (fun h => hcase.2 h.2))]
        obtain ⟨m, HM⟩ : ∃ m, Hid (unN y = m) := ⟨_, rfl⟩
        rw [show unDecV y = .tuple #[.int .i64 m, .int .i64 0] by unfold unDecV; rw [if_pos hcase.1, HM.out]] at C1
        rw [show un64V z = .tuple #[.string ByteArray.empty, .int .i64 40] by unfold un64V failV; rw [if_neg hcase.2]] at C2
        clear h1 h2 h3 hl hsz hsy hsw hcase
        go_enter Tryz.func5, Tryz.ntmps5
        go_wp2_with fail
        rw [HW.out]
        refine L.out.mono ?_
        rintro e w1 ⟨⟨v, rfl, ht⟩, hb⟩
        have B1 : Hid (Below W.heap.size W w1) := hb
        rw [map_str_bs, HLN.out] at ht
        obtain ⟨g, cap, hv, hcap, HG, HGL, HC⟩ : ∃ g cap, v = .slice (some ⟨g, 0, none⟩) (n + 3 : Nat) cap ∧ (n + 3 ≤ cap) ∧ Hid (W.heap.size ≤ g) ∧ Hid (g < w1.heap.size) ∧ Hid (∀ i t, (x :: y :: z :: l)[i]? = some t → w1.cell? ⟨g, i, none⟩ = some (.string t)) := by
          obtain ⟨g, cap, e, a1, a2, a3, a4⟩ := own_lies ht HLN.out (by omega)
          exact ⟨g, cap, e, a1, a2, a3, a4⟩
        subst hv
        have CE : Hid (∀ w', Below w1.heap.size w1 w' → w'.cell? ⟨g, 0, none⟩ = some (.string x) ∧ w'.cell? ⟨g, 1, none⟩ = some (.string y) ∧ w'.cell? ⟨g, 2, none⟩ = some (.string z)) := fun w' h =>
          ⟨(h.cell (p := ⟨g, 0, none⟩) HGL.out).trans (HC.out 0 x rfl), (h.cell (p := ⟨g, 1, none⟩) HGL.out).trans (HC.out 1 y rfl), (h.cell (p := ⟨g, 2, none⟩) HGL.out).trans (HC.out 2 z rfl)⟩
        obtain ⟨c0, c1, c2⟩ := CE.out w1 (Below.refl _ _)
        clear hb ht
        go_wp2_with fail
        refine (C1.out _).mono ?_
        rintro e w2 ⟨rfl, hw2⟩
        subst hw2
        go_wp2_with fail
        refine (C2.out _).mono ?_
        rintro e w3 ⟨rfl, hb3⟩
        have B3L : Hid (Below w2.heap.size w2 w3) := hb3
        have B3 : Hid (Below W.heap.size W w3) := B1.out.trans (B3L.out.mono B1.out.size)
        have B3P : Hid (Below (p + 1) W w3) := B3.out.mono zW.out
        clear hb3
        have B3 : Hid (Below (p + 1) W w3) := B3P.out
        have hbk := BK.out w3 B3.out
        have FZ : Hid (∀ W', W' = _ → _) := put4 w3 p _ _ _ _ (.string ⟨#[]⟩) (.int .i64 0) (.string ⟨#[]⟩) (.slice none 0 0) _ hbk
        have d0 := cell_of_row _ _ 0 _ _ _ hbk
        have d1 := cell_of_row _ _ 1 _ _ _ hbk
        have d2 := cell_of_row _ _ 2 _ _ _ hbk
        have d3 := cell_of_row _ _ 3 _ _ _ hbk
        have f0 := frozen_of_row _ _ 0 _ _ hbk
        have f1 := frozen_of_row _ _ 1 _ _ hbk
        have f2 := frozen_of_row _ _ 2 _ _ hbk
        have f3 := frozen_of_row _ _ 3 _ _ hbk
        rw [HP.out]
        go_wp2
        obtain ⟨⟨d0, d1, d2, d3⟩, hbl, _⟩ := FZ.out _ rfl
        exact bodyPost_ret (v := .tuple #[.agg #[.string ⟨#[]⟩, .int .i64 0, .string ⟨#[]⟩, .slice none 0 0], .int .i64 204]) (by simp [results, Tryz.results5, go_sem, d0, d1, d2, d3]) rfl ⟨rfl, FIN.out _ ((B3.out.mono (Nat.le_succ p)).trans (hbl _ (Nat.le_refl _)))⟩
  · rw [hn] at L
    rw [pt_none s (flP_none s hn)]
    clear hn
    go_enter Tryz.func5, Tryz.ntmps5
    go_wp2_with fail
    rw [HW.out]
    refine L.out.mono ?_
    rintro e w3 ⟨rfl, hb⟩
    have B3 : Hid (Below (p + 1) W w3) := hb.mono zW.out
    clear hb
    have hbk := BK.out w3 B3.out
    have FZ : Hid (∀ W', W' = _ → _) := put4 w3 p _ _ _ _ (.string ⟨#[]⟩) (.int .i64 0) (.string ⟨#[]⟩) (.slice none 0 0) _ hbk
    have d0 := cell_of_row _ _ 0 _ _ _ hbk
    have d1 := cell_of_row _ _ 1 _ _ _ hbk
    have d2 := cell_of_row _ _ 2 _ _ _ hbk
    have d3 := cell_of_row _ _ 3 _ _ _ hbk
    have f0 := frozen_of_row _ _ 0 _ _ hbk
    have f1 := frozen_of_row _ _ 1 _ _ hbk
    have f2 := frozen_of_row _ _ 2 _ _ hbk
    have f3 := frozen_of_row _ _ 3 _ _ hbk
    rw [HP.out]
    go_wp2
    obtain ⟨⟨d0, d1, d2, d3⟩, hbl, _⟩ := FZ.out _ rfl
    exact bodyPost_ret (v := .tuple #[.agg #[.string ⟨#[]⟩, .int .i64 0, .string ⟨#[]⟩, .slice none 0 0], .int .i64 204]) (by simp [results, Tryz.results5, go_sem, d0, d1, d2, d3]) rfl ⟨rfl, FIN.out _ ((B3.out.mono (Nat.le_succ p)).trans (hbl _ (Nat.le_refl _)))⟩
end Go.Proofs.YthdkbjbhjfiaiaaGreatDoor.z5

namespace Go.Proofs.YthdkbjbhjfiaiaaGreatDoor.z6
open Go.RowKit Go.PlainAid Go.Shelf
open Go.Proofs.YthdkbjbhjfiaiaaGreatDoor.ta Go.Proofs.YthdkbjbhjfiaiaaGreatDoor.tb Go.Proofs.YthdkbjbhjfiaiaaGreatDoor.tc Go.Proofs.YthdkbjbhjfiaiaaGreatDoor.th Go.Proofs.YthdkbjbhjfiaiaaGreatDoor.tj Go.Proofs.YthdkbjbhjfiaiaaGreatDoor.tk Go.Proofs.YthdkbjbhjfiaiaaGreatDoor.kp Go.Proofs.YthdkbjbhjfiaiaaGreatDoor.va Go.Proofs.YthdkbjbhjfiaiaaGreatDoor.vb Go.Proofs.YthdkbjbhjfiaiaaGreatDoor.vc Go.Proofs.YthdkbjbhjfiaiaaGreatDoor.vd Go.Proofs.YthdkbjbhjfiaiaaGreatDoor.wa Go.Proofs.YthdkbjbhjfiaiaaGreatDoor.wb Go.Proofs.YthdkbjbhjfiaiaaGreatDoor.n4 Go.Proofs.YthdkbjbhjfiaiaaGreatDoor.yc Go.Proofs.YthdkbjbhjfiaiaaGreatDoor.u1 Go.Proofs.YthdkbjbhjfiaiaaGreatDoor.ytc Go.Proofs.YthdkbjbhjfiaiaaGreatDoor.ytf Go.Proofs.YthdkbjbhjfiaiaaGreatDoor.z1 Go.Proofs.YthdkbjbhjfiaiaaGreatDoor.z2 Go.Proofs.YthdkbjbhjfiaiaaGreatDoor.z3 Go.Proofs.YthdkbjbhjfiaiaaGreatDoor.z5
set_option linter.unusedVariables false
set_option maxRecDepth 4000

-- what Parse answers of any text
noncomputable def pv (s : ByteArray) : Pt := (ptP s).getD ⟨⟨#[]⟩, 0, ⟨#[]⟩, []⟩
noncomputable def pvF (s : ByteArray) : Int := if (ptP s).isSome then 0 else 204
theorem parseC2 (s : ByteArray) (hs : s.size ≤ 1900000) (w : World) (N : Hid (NumW w)) :
    Calls Tryz.prog 7 #[.string s] w fun e w' => (∃ a c, e = .returned (.tuple #[.agg #[.string (pv s).o, .int .i64 (pv s).n, .string (pv s).r, .slice a (pv s).ext.length c], .int .i64 (pvF s)]) ∧ ExtOf w' w.heap.size a c (pv s).ext) ∧ Below w.heap.size w w' := by
  refine (parseC s hs w N).mono ?_
  rintro e w' ⟨h, hb⟩
  refine ⟨?_, hb⟩
  unfold pv pvF
  cases hp : ptP s with
  | none => rw [hp] at h; exact ⟨none, 0, h, .inl ⟨rfl, rfl⟩⟩
  | some p => rw [hp] at h; exact h
theorem parseD2 (s : ByteArray) (hs : s.size ≤ 1900000) (w : World) :
    Calls Tryz.prog 5 #[.string s] w fun e w' => (∃ a c, e = .returned (.tuple #[.agg #[.string (pv s).o, .int .i64 (pv s).n, .string (pv s).r, .slice a (pv s).ext.length c], .int .i64 (pvF s)]) ∧ Reads w' (.slice a (pv s).ext.length c) (pv s).ext) ∧ Below w.heap.size w w' := by
  refine (parseD s hs w).mono ?_
  rintro e w' ⟨h, hb⟩
  refine ⟨?_, hb⟩
  unfold pv pvF
  cases hp : ptP s with
  | none => rw [hp] at h; exact ⟨none, 0, h, ⟨none, 0, rfl, .inl rfl⟩⟩
  | some p => rw [hp] at h; exact h
theorem pv_len (s : ByteArray) : (pv s).ext.length ≤ s.size := by
  unfold pv
  cases hp : ptP s with
  | none => exact Nat.zero_le _
  | some p =>
    have := (fl_small s p (pt_form s p hp).1).2.2.1
    show p.ext.length ≤ _
    omega
theorem box44 (w w' : World) (a b c d e f g h : Value) (t u : TypeId) (hb : Below (w.heap.size + 2) ((w.alloc (.cells #[a, b, c, d] t)).alloc (.cells #[e, f, g, h] u)) w') : (w'.cell? ⟨w.heap.size, 0, none⟩ = some a ∧ w'.cell? ⟨w.heap.size, 1, none⟩ = some b ∧ w'.cell? ⟨w.heap.size, 2, none⟩ = some c ∧ w'.cell? ⟨w.heap.size, 3, none⟩ = some d) ∧ w'.cell? ⟨w.heap.size + 1, 0, none⟩ = some e ∧ w'.cell? ⟨w.heap.size + 1, 1, none⟩ = some f ∧ w'.cell? ⟨w.heap.size + 1, 2, none⟩ = some g ∧ w'.cell? ⟨w.heap.size + 1, 3, none⟩ = some h := by
  have z1 : (w.alloc (.cells #[a, b, c, d] t)).heap.size = w.heap.size + 1 := by simp
  have hA := heap_alloc_new w (.cells #[a, b, c, d] t)
  have hB := heap_alloc_new (w.alloc (.cells #[a, b, c, d] t)) (.cells #[e, f, g, h] u)
  rw [z1] at hB
  have BB : Below (w.alloc (.cells #[a, b, c, d] t)).heap.size (w.alloc (.cells #[a, b, c, d] t)) ((w.alloc (.cells #[a, b, c, d] t)).alloc (.cells #[e, f, g, h] u)) := (Below.refl _ _).alloc (Nat.le_refl _) _
  have hA2 := (hb.block w.heap.size (by omega)).trans ((BB.block w.heap.size (by omega)).trans hA)
  have hB2 := (hb.block (w.heap.size + 1) (by omega)).trans hB
  exact ⟨⟨by rw [cell_of_row _ _ 0 _ _ _ hA2]; rfl, by rw [cell_of_row _ _ 1 _ _ _ hA2]; rfl, by rw [cell_of_row _ _ 2 _ _ _ hA2]; rfl, by rw [cell_of_row _ _ 3 _ _ _ hA2]; rfl⟩, by rw [cell_of_row _ _ 0 _ _ _ hB2]; rfl, by rw [cell_of_row _ _ 1 _ _ _ hB2]; rfl, by rw [cell_of_row _ _ 2 _ _ _ hB2]; rfl, by rw [cell_of_row _ _ 3 _ _ _ hB2]; rfl⟩
set_option maxHeartbeats 3200000 in
theorem alikeC (o : ByteArray) (m : Int) (r : ByteArray) (l : List ByteArray) (a a' : Option Addr) (c c' : Nat) (w : World) (h1 : Reads w (.slice a l.length c) l) (h2 : Reads w (.slice a' l.length c') l) (hz : l.length ≤ 1000000000) :
    Calls Tryz.prog 11 #[.agg #[.string o, .int .i64 m, .string r, .slice a l.length c], .agg #[.string o, .int .i64 m, .string r, .slice a' l.length c']] w fun e w' => e = .returned (.bool true) ∧ Below w.heap.size w w' := by
  obtain ⟨W, HW⟩ : ∃ W, Hid ((w.alloc (.cells #[.string o, .int .i64 m, .string r, .slice a l.length c] 30)).alloc (.cells #[.string o, .int .i64 m, .string r, .slice a' l.length c'] 30) = W) := ⟨_, rfl⟩
  have BW : Hid (Below w.heap.size w W) := by rw [← HW.out]; exact ((Below.refl _ _).alloc (Nat.le_refl _) _).alloc (by simp) _
  have SX := box44 w W (.string o) (.int .i64 m) (.string r) (.slice a l.length c) (.string o) (.int .i64 m) (.string r) (.slice a' l.length c') 30 30 (by rw [HW.out]; exact Below.refl _ _)
  have C : Hid (Calls _ _ _ _ _) := textsY a a' c c' l W (h1.later BW.out) (h2.later BW.out) hz
  obtain ⟨n, HN⟩ : ∃ n, Hid (l.length = n) := ⟨_, rfl⟩
  rw [HN.out] at SX C HW
  rw [HN.out]
  have g1 : (o.toList == o.toList) = true := beq_self_eq_true _
  have g2 : (m == m) = true := beq_iff_eq.2 rfl
  have g3 : (r.toList == r.toList) = true := beq_self_eq_true _
  obtain ⟨⟨p0, p1, p2, p3⟩, r0, r1, r2, r3⟩ := SX
  clear h1 h2 hz
  go_enter Tryz.func11, Tryz.ntmps11
  go_wp2_with fail
  rw [HW.out]
  go_wp2_with fail
  refine C.out.mono ?_
  rintro e w1 ⟨rfl, hb⟩
  have B1 : Hid (Below w.heap.size w w1) := BW.out.trans (hb.mono BW.out.size)
  clear hb
  go_wp2
  go_ret
  exact ⟨rfl, B1.out⟩
end Go.Proofs.YthdkbjbhjfiaiaaGreatDoor.z6

namespace Go.Proofs.YthdkbjbhjfiaiaaGreatDoor.f8
open Go.ChangeShapes Go.WideShapes Go.ChangeAt Go.WideMaps Go.WideElems Go.RowKit
open Go.Proofs.YthdkbjbhjfiaiaaGreatDoor.wb Go.Proofs.YthdkbjbhjfiaiaaGreatDoor.ft Go.Proofs.YthdkbjbhjfiaiaaGreatDoor.fu
set_option linter.unusedVariables false
set_option maxRecDepth 4000

theorem gP : Tryz.prog.globalNamed "internal/strconv.uint64pow10" = some 7 := by kernel_rfl
theorem gES : Tryz.prog.globalNamed "strconv.ErrSyntax" = some 5 := by kernel_rfl
theorem gER : Tryz.prog.globalNamed "strconv.ErrRange" = some 6 := by kernel_rfl
theorem tP : (Tryz.prog.globals[7]?).map (·.type) = some 191 := by kernel_rfl
theorem tES : (Tryz.prog.globals[5]?).map (·.type) = some 120 := by kernel_rfl
theorem tER : (Tryz.prog.globals[6]?).map (·.type) = some 120 := by kernel_rfl
theorem c20 : Tryz.prog.cellsOf 191 = 20 := by kernel_rfl
theorem cu1 : Tryz.prog.cellsOf 134 = 1 := by kernel_rfl
theorem cE : Tryz.prog.cellsOf 189 = 1 := by kernel_rfl
theorem cS : Tryz.prog.cellsOf 9 = 1 := by kernel_rfl
theorem star : "*errors.errorString" = "*" ++ "errors.errorString" := by decide
theorem rowE (u : TypeId) (h : Tryz.prog.typeName? 3 u = some "*errors.errorString") : u = 187 :=
  typeName_ptr_named (nm := "errors.errorString") (by rw [← star]; kernel_rfl) (by kernel_rfl) (by decide) u (by rw [← star]; exact h)

def laidP : List (String × DataW Unit) := [("math/bits.deBruijn32tab", Rows.laid_math_bits_deBruijn32tab), ("math/bits.deBruijn64tab", Rows.laid_math_bits_deBruijn64tab), ("internal/strconv.uint64pow10", Rows.laid_internal_strconv_uint64pow10), ("unicode/utf8.acceptRanges", Rows.laid_unicode_utf8_acceptRanges), ("strconv.ErrRange", Rows.laid_strconv_ErrRange), ("strconv.ErrSyntax", Rows.laid_strconv_ErrSyntax), ("unicode/utf8.first", Rows.laid_unicode_utf8_first)]
def laidQ : List (String × DataW Unit) := [("math/bits.deBruijn32tab", Rows.laid_math_bits_deBruijn32tab), ("math/bits.deBruijn64tab", Rows.laid_math_bits_deBruijn64tab), ("annals/sha.starts", Rows.laid_annals_sha_starts), ("annals/sha.rounds", Rows.laid_annals_sha_rounds), ("internal/strconv.uint64pow10", Rows.laid_internal_strconv_uint64pow10), ("unicode/utf8.acceptRanges", Rows.laid_unicode_utf8_acceptRanges), ("strconv.ErrRange", Rows.laid_strconv_ErrRange), ("strconv.ErrSyntax", Rows.laid_strconv_ErrSyntax), ("unicode/utf8.first", Rows.laid_unicode_utf8_first)]
def laidR : List (String × DataW Unit) := [("annals/annalsref2.first", Rows.laid_annals_annalsref2_first), ("annals/annalsref2.table", Rows.laid_annals_annalsref2_table), ("math/bits.deBruijn32tab", Rows.laid_math_bits_deBruijn32tab), ("math/bits.deBruijn64tab", Rows.laid_math_bits_deBruijn64tab), ("annals/sha.starts", Rows.laid_annals_sha_starts), ("annals/sha.rounds", Rows.laid_annals_sha_rounds), ("internal/strconv.uint64pow10", Rows.laid_internal_strconv_uint64pow10), ("unicode/utf8.acceptRanges", Rows.laid_unicode_utf8_acceptRanges), ("strconv.ErrRange", Rows.laid_strconv_ErrRange), ("strconv.ErrSyntax", Rows.laid_strconv_ErrSyntax), ("unicode/utf8.first", Rows.laid_unicode_utf8_first)]
theorem pData : (Rows.laid_internal_strconv_uint64pow10 : DataW Unit) = Lib.tabData .u64 Lib.pow10Tab := by kernel_rfl
theorem of_laidP {W : World} (h : laidMetH Tryz.prog laidP W) : NumW W := by
  rw [MakeChecks.laidMetH_plain _ _ _ (by kernel_rfl)] at h
  have h3 := h.tail.tail
  have h4 := h3.tail.tail
  have h5 := h4.tail
  have HN : NumW W := by
    obtain ⟨a1, s1, v1, _⟩ := laid_sentinel h4 gER tER Tryz.underlying120 rowE Tryz.underlying187 Tryz.underlying189 rfl rfl Tryz.underlying9 cE cS
    obtain ⟨a0, s0, v0, _⟩ := laid_sentinel h5 gES tES Tryz.underlying120 rowE Tryz.underlying187 Tryz.underlying189 rfl rfl Tryz.underlying9 cE cS
    refine ⟨?_, ⟨_, _, v0⟩, ⟨_, _, v1⟩⟩
    obtain ⟨ps, ⟨g1, t1, cs1, f1, p1, q1, hg1, ht1, hv1, hd1, _, _⟩, _, _⟩ := h3
    obtain rfl := Option.some.inj (gP.symm.trans hg1)
    obtain rfl := Option.some.inj (tP.symm.trans ht1)
    rw [pData] at hd1
    have e1 := Lib.cells_of_tab Tryz.underlying191 Tryz.underlying134 cu1 c20 hd1
    show W.var? Tryz.prog _ = _
    rw [hv1, ← e1]
  exact HN
theorem of_laidQ {W : World} (h : laidMetH Tryz.prog laidQ W) : (St8 W 2 ∧ K64 W 4) ∧ NumW W := by
  rw [MakeChecks.laidMetH_plain _ _ _ (by kernel_rfl)] at h
  have hS := h.tail.tail
  have hR := hS.tail
  have h3 := hR.tail
  have h4 := h3.tail.tail
  have h5 := h4.tail
  have HN : NumW W := by
    obtain ⟨a1, s1, v1, _⟩ := laid_sentinel h4 gER tER Tryz.underlying120 rowE Tryz.underlying187 Tryz.underlying189 rfl rfl Tryz.underlying9 cE cS
    obtain ⟨a0, s0, v0, _⟩ := laid_sentinel h5 gES tES Tryz.underlying120 rowE Tryz.underlying187 Tryz.underlying189 rfl rfl Tryz.underlying9 cE cS
    refine ⟨?_, ⟨_, _, v0⟩, ⟨_, _, v1⟩⟩
    obtain ⟨ps, ⟨g1, t1, cs1, f1, p1, q1, hg1, ht1, hv1, hd1, _, _⟩, _, _⟩ := h3
    obtain rfl := Option.some.inj (gP.symm.trans hg1)
    obtain rfl := Option.some.inj (tP.symm.trans ht1)
    rw [pData] at hd1
    have e1 := Lib.cells_of_tab Tryz.underlying191 Tryz.underlying134 cu1 c20 hd1
    show W.var? Tryz.prog _ = _
    rw [hv1, ← e1]
  obtain ⟨psb, ⟨gb, tb, csb, fb, pb, qb, hgb, htb, hvb, hdb, _, _⟩, _, _⟩ := hS
  obtain ⟨psa, ⟨ga, ta, csa, fa, pa, qa, hga, hta, hva, hda, _, _⟩, _, _⟩ := hR
  obtain rfl := Option.some.inj (gS.symm.trans hgb)
  obtain rfl := Option.some.inj (gR.symm.trans hga)
  obtain rfl := Option.some.inj (tS.symm.trans htb)
  obtain rfl := Option.some.inj (tR.symm.trans hta)
  rw [sData] at hdb
  rw [rData] at hda
  have e1 := Lib.cells_of_tab Tryz.underlying142 Tryz.underlying102 Go.Proofs.YthdkbjbhjfiaiaaGreatDoor.ft.c1 cW hdb
  have e0 := Lib.cells_of_tab Tryz.underlying135 Tryz.underlying102 Go.Proofs.YthdkbjbhjfiaiaaGreatDoor.ft.c1 c64 hda
  exact ⟨⟨at8 e1 (World.var?_cell hgb hvb), at64 e0 (World.var?_cell hga hva)⟩, HN⟩
theorem of_laidR {W : World} (h : laidMetH Tryz.prog laidR W) : (St8 W 2 ∧ K64 W 4 ∧ St8 W 0 ∧ K64 W 1) ∧ NumW W := by
  rw [MakeChecks.laidMetH_plain _ _ _ (by kernel_rfl)] at h
  have hT := h.tail
  have hS := hT.tail.tail.tail
  have hR := hS.tail
  have h3 := hR.tail
  have h4 := h3.tail.tail
  have h5 := h4.tail
  have HN : NumW W := by
    obtain ⟨a1, s1, v1, _⟩ := laid_sentinel h4 gER tER Tryz.underlying120 rowE Tryz.underlying187 Tryz.underlying189 rfl rfl Tryz.underlying9 cE cS
    obtain ⟨a0, s0, v0, _⟩ := laid_sentinel h5 gES tES Tryz.underlying120 rowE Tryz.underlying187 Tryz.underlying189 rfl rfl Tryz.underlying9 cE cS
    refine ⟨?_, ⟨_, _, v0⟩, ⟨_, _, v1⟩⟩
    obtain ⟨ps, ⟨g1, t1, cs1, f1, p1, q1, hg1, ht1, hv1, hd1, _, _⟩, _, _⟩ := h3
    obtain rfl := Option.some.inj (gP.symm.trans hg1)
    obtain rfl := Option.some.inj (tP.symm.trans ht1)
    rw [pData] at hd1
    have e1 := Lib.cells_of_tab Tryz.underlying191 Tryz.underlying134 cu1 c20 hd1
    show W.var? Tryz.prog _ = _
    rw [hv1, ← e1]
  obtain ⟨psb, ⟨gb, tb, csb, fb, pb, qb, hgb, htb, hvb, hdb, _, _⟩, _, _⟩ := hS
  obtain ⟨psa, ⟨ga, ta, csa, fa, pa, qa, hga, hta, hva, hda, _, _⟩, _, _⟩ := hR
  obtain rfl := Option.some.inj (gS.symm.trans hgb)
  obtain rfl := Option.some.inj (gR.symm.trans hga)
  obtain rfl := Option.some.inj (tS.symm.trans htb)
  obtain rfl := Option.some.inj (tR.symm.trans hta)
  rw [sData] at hdb
  rw [rData] at hda
  have e1 := Lib.cells_of_tab Tryz.underlying142 Tryz.underlying102 Go.Proofs.YthdkbjbhjfiaiaaGreatDoor.ft.c1 cW hdb
  have e0 := Lib.cells_of_tab Tryz.underlying135 Tryz.underlying102 Go.Proofs.YthdkbjbhjfiaiaaGreatDoor.ft.c1 c64 hda
  obtain ⟨ps3, ⟨g3, t3, cs3, f3, p3, q3, hg3, ht3, hv3, hd3, _, _⟩, _, _⟩ := h
  obtain ⟨ps2, ⟨g2, t2, cs2, f2, p2, q2, hg2, ht2, hv2, hd2, _, _⟩, _, _⟩ := hT
  obtain rfl := Option.some.inj (gF.symm.trans hg3)
  obtain rfl := Option.some.inj (gT.symm.trans hg2)
  obtain rfl := Option.some.inj (tF.symm.trans ht3)
  obtain rfl := Option.some.inj (tT.symm.trans ht2)
  rw [fData] at hd3
  rw [tData] at hd2
  have e3 := Lib.cells_of_tab Tryz.underlying103 Tryz.underlying102 Go.Proofs.YthdkbjbhjfiaiaaGreatDoor.ft.c1 c8 hd3
  have e2 := Lib.cells_of_tab Tryz.underlying135 Tryz.underlying102 Go.Proofs.YthdkbjbhjfiaiaaGreatDoor.ft.c1 c64 hd2
  exact ⟨⟨at8 e1 (World.var?_cell hgb hvb), at64 e0 (World.var?_cell hga hva), at8 e3 (World.var?_cell hg3 hv3), at64 e2 (World.var?_cell hg2 hv2)⟩, HN⟩
end Go.Proofs.YthdkbjbhjfiaiaaGreatDoor.f8
