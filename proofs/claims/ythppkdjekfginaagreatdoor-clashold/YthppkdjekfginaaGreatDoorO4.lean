import Derived.Test.YthppkdjekfginaaGreatDoorO2
import Derived.Test.YthppkdjekfginaaGreatDoorY1
import Derived.Test.YthppkdjekfginaaGreatDoorO1
import Derived.Test.YthppkdjekfginaaGreatDoorO3
import Derived.Test.YthppkdjekfginaaGreatDoorG4
namespace Go.Proofs.YthppkdjekfginaaGreatDoor.jk
open Go.RowKit Go.PlainAid
open Go.Proofs.YthppkdjekfginaaGreatDoor.pl Go.Proofs.YthppkdjekfginaaGreatDoor.pi Go.Proofs.YthppkdjekfginaaGreatDoor.pj Go.Proofs.YthppkdjekfginaaGreatDoor.ca Go.Proofs.YthppkdjekfginaaGreatDoor.cb Go.Proofs.YthppkdjekfginaaGreatDoor.cp Go.Proofs.YthppkdjekfginaaGreatDoor.ga Go.Proofs.YthppkdjekfginaaGreatDoor.gb Go.Proofs.YthppkdjekfginaaGreatDoor.aa Go.Proofs.YthppkdjekfginaaGreatDoor.ka Go.Proofs.YthppkdjekfginaaGreatDoor.kb Go.Proofs.YthppkdjekfginaaGreatDoor.kc Go.Proofs.YthppkdjekfginaaGreatDoor.kp Go.Proofs.YthppkdjekfginaaGreatDoor.lk Go.Proofs.YthppkdjekfginaaGreatDoor.qb Go.Proofs.YthppkdjekfginaaGreatDoor.qc Go.Proofs.YthppkdjekfginaaGreatDoor.qj Go.Proofs.YthppkdjekfginaaGreatDoor.ta Go.Proofs.YthppkdjekfginaaGreatDoor.tb Go.Proofs.YthppkdjekfginaaGreatDoor.tc Go.Proofs.YthppkdjekfginaaGreatDoor.ua Go.Proofs.YthppkdjekfginaaGreatDoor.oa Go.Proofs.YthppkdjekfginaaGreatDoor.ye
set_option linter.unusedVariables false

section
variable {wd : Int} {M a b : Nat} {old : ByteArray} {x : List ByteArray} {xs : List ByteArray}
def clO (wd : Int) (M : Nat) (old : ByteArray) (x : List ByteArray) (a b : Nat) : Pt := (gw (HH wd) (lkO M) (fun _ => ByteArray.empty) (nxO M old) x a b).1
def owO (wd : Int) (M : Nat) (xs : List ByteArray) (a b : Nat) : Pt := (gw (HH wd) (lkO M) (fun p => xs.getD p ByteArray.empty) (ow (RR wd xs)) () a b).1
def LO (M a b : Nat) : Nat := (WL (lkC M) a b).length
theorem LO_low (h1 : a < M) (h2 : M < b) (g : M ≤ a + half (b - a)) : LO M a b = LO M a (a + half (b - a)) + 1 := by
  have h3 : 2 ≤ b - a := by omega
  have hh := half_lt h3
  have e := lkC_in h1 h2
  rw [if_pos g] at e
  unfold LO
  rw [WL_left e h3, List.length_append, WL_take (lkC_out (m := M) (a := a + half (b - a)) (b := b) (by omega) (by omega))]
  rfl
theorem LO_high (h1 : a < M) (h2 : M < b) (g : ¬ M ≤ a + half (b - a)) : LO M a b = LO M (a + half (b - a)) b + 1 := by
  have h3 : 2 ≤ b - a := by omega
  have hh := half_lt h3
  have e := lkC_in h1 h2
  rw [if_neg g] at e
  unfold LO
  rw [WL_right (by omega) h3, List.length_append, WL_take (lkC_out (m := M) (a := a) (b := a + half (b - a)) (by omega) (by omega))]
  rfl
theorem LO_whole : LO M 0 M = 0 := by unfold LO; rw [WL_pass (by unfold lkC; rw [if_pos ⟨rfl, rfl⟩])]; rfl
theorem LO_part (h1 : a < M) (h0 : a ≠ 0) : LO M a M = 1 := by unfold LO; rw [WL_take (lkC_out (m := M) (a := a) (b := M) (by omega) (by omega))]; rfl
theorem clO_low (h1 : a < M) (h2 : M < b) (g : M ≤ a + half (b - a)) : clO wd M old x a b = ab (HH wd) (clO wd M old x a (a + half (b - a))) (.bare (x.getD (LO M a (a + half (b - a))) ByteArray.empty)) := by
  have h3 : 2 ≤ b - a := by omega
  have hh := half_lt h3
  have e := lkO_in h1 h2
  rw [if_pos g] at e
  unfold clO
  rw [gw_left e h3, gwO_state _ _ _ _ _ rfl (by omega), gw_bare (lkO_out (m := M) (a := a + half (b - a)) (b := b) (by omega))]
  show ab _ _ (.bare (nxO M old _ _ _).1) = _
  unfold nxO
  rw [if_neg (by omega)]
  show ab _ _ (.bare ((x.drop _).headD ByteArray.empty)) = _
  rw [headD_drop]
  rfl
theorem clO_high (h1 : a < M) (h2 : M < b) (g : ¬ M ≤ a + half (b - a)) : clO wd M old x a b = ab (HH wd) (.bare (x.getD (LO M (a + half (b - a)) b) ByteArray.empty)) (clO wd M old x (a + half (b - a)) b) := by
  have h3 : 2 ≤ b - a := by omega
  have hh := half_lt h3
  have e := lkO_in h1 h2
  rw [if_neg g] at e
  unfold clO
  rw [gw_right (by omega) (by omega) h3, gwO_state _ _ _ _ _ rfl (by omega), gw_bare (lkO_out (m := M) (a := a) (b := a + half (b - a)) (by omega))]
  show ab _ (.bare (nxO M old _ _ _).1) _ = _
  unfold nxO
  rw [if_neg (by omega)]
  show ab _ (.bare ((x.drop _).headD ByteArray.empty)) _ = _
  rw [headD_drop]
  rfl
theorem clO_bare (h : ¬ (a < M ∧ M < b)) : clO wd M old x a b = .bare (nxO M old x a b).1 := by unfold clO; rw [gw_bare (lkO_out h)]
theorem owO_low (h1 : a < M) (h2 : M < b) (g : M ≤ a + half (b - a)) : owO wd M xs a b = ab (HH wd) (owO wd M xs a (a + half (b - a))) (.bare (RR wd xs (a + half (b - a)) b)) := by
  have h3 : 2 ≤ b - a := by omega
  have hh := half_lt h3
  have e := lkO_in h1 h2
  rw [if_pos g] at e
  unfold owO
  rw [gw_left e h3, gw_bare (lkO_out (m := M) (a := a + half (b - a)) (b := b) (by omega))]
  rfl
theorem owO_high (h1 : a < M) (h2 : M < b) (g : ¬ M ≤ a + half (b - a)) : owO wd M xs a b = ab (HH wd) (.bare (RR wd xs a (a + half (b - a)))) (owO wd M xs (a + half (b - a)) b) := by
  have h3 : 2 ≤ b - a := by omega
  have hh := half_lt h3
  have e := lkO_in h1 h2
  rw [if_neg g] at e
  unfold owO
  rw [gw_right (by omega) (by omega) h3, gw_bare (lkO_out (m := M) (a := a) (b := a + half (b - a)) (by omega))]
  rfl
theorem owO_sum (hab : a < b) (hb : b ≤ xs.length) : (owO wd M xs a b).sum = RR wd xs a b := own_sum wd (lkO M) xs a b hab hb
end
-- what a part hangs on
theorem clO_take (wd : Int) (M : Nat) (old : ByteArray) (n : Nat) : ∀ (a b : Nat) (x y : List ByteArray), b - a = n → a < b → x.take (LO M a b) = y.take (LO M a b) → clO wd M old x a b = clO wd M old y a b := by
  have two : ∀ (l : Nat) (x y : List ByteArray), x.take (l + 1) = y.take (l + 1) → x.take l = y.take l ∧ x.getD l ByteArray.empty = y.getD l ByteArray.empty := by
    intro l x y h
    refine ⟨?_, ?_⟩
    · have := congrArg (List.take l) h
      rw [List.take_take, List.take_take, Nat.min_eq_left (by omega)] at this
      exact this
    · have : (x.take (l + 1))[l]? = (y.take (l + 1))[l]? := by rw [h]
      rw [List.getElem?_take, List.getElem?_take, if_pos (by omega), if_pos (by omega)] at this
      rw [List.getD_eq_getElem?_getD, List.getD_eq_getElem?_getD, this]
  induction n using Nat.strongRecOn with
  | ind n ih =>
    intro a b x y hn hab h
    by_cases hm : a < M ∧ M < b
    · have h3 : 2 ≤ b - a := by omega
      have hh := half_lt h3
      by_cases g : M ≤ a + half (b - a)
      · rw [LO_low hm.1 hm.2 g] at h
        obtain ⟨g1, g2⟩ := two _ _ _ h
        rw [clO_low hm.1 hm.2 g, clO_low hm.1 hm.2 g, g2, ih (half (b - a)) (by omega) a (a + half (b - a)) x y (by omega) (by omega) g1]
      · rw [LO_high hm.1 hm.2 g] at h
        obtain ⟨g1, g2⟩ := two _ _ _ h
        rw [clO_high hm.1 hm.2 g, clO_high hm.1 hm.2 g, g2, ih (b - (a + half (b - a))) (by omega) (a + half (b - a)) b x y rfl (by omega) g1]
    · rw [clO_bare hm, clO_bare hm]
      unfold nxO
      by_cases h0 : a = 0 ∧ b = M
      · rw [if_pos h0, if_pos h0]
      · rw [if_neg h0, if_neg h0]
        have hl : LO M a b = 1 := by unfold LO; rw [WL_take (lkC_out hm h0)]; rfl
        rw [hl] at h
        obtain ⟨_, g2⟩ := two 0 _ _ h
        have e : ∀ z : List ByteArray, z.headD ByteArray.empty = z.getD 0 ByteArray.empty := fun z => by cases z <;> rfl
        show Pt.bare (x.headD _) = Pt.bare (y.headD _)
        rw [e, e, g2]
theorem clO_pre (wd : Int) (M : Nat) (old : ByteArray) {a b k : Nat} (x : List ByteArray) (hab : a < b) (hk : LO M a b ≤ k) : clO wd M old (x.take k) a b = clO wd M old x a b :=
  clO_take wd M old _ a b _ _ rfl hab (by rw [List.take_take, Nat.min_eq_left hk])
theorem clO_size {wd : Int} {M : Nat} {old : ByteArray} (ho : old.size = wid wd) {a b : Nat} {x : List ByteArray} (hab : a < b) (hl : LO M a b ≤ x.length) (hw : Wide wd x) : (clO wd M old x a b).sum.size = wid wd :=
  Right.size (HH_size wd) (gwO_right (lf := fun _ => ByteArray.empty) ho _ a b x rfl hab hl hw)
-- one round of the document's loop
theorem round_low {wd : Int} {M a b : Nat} {old : ByteArray} {x xs : List ByteArray} (h1 : a < M) (h2 : M < b) (g : M ≤ a + half (b - a)) (hb : b ≤ xs.length) :
    fst1 (clO wd M old x a b) (owO wd M xs a b) = if tx1 (clO wd M old x a (a + half (b - a))).sum (x.getD (LO M a (a + half (b - a))) ByteArray.empty) = tx1 (RR wd xs a (a + half (b - a))) (RR wd xs (a + half (b - a)) b) then fst1 (clO wd M old x a (a + half (b - a))) (owO wd M xs a (a + half (b - a))) else some (tx1 (clO wd M old x a (a + half (b - a))).sum (x.getD (LO M a (a + half (b - a))) ByteArray.empty), tx1 (RR wd xs a (a + half (b - a))) (RR wd xs (a + half (b - a)) b)) := by
  have hh := half_lt (show 2 ≤ b - a by omega)
  rw [clO_low h1 h2 g, owO_low h1 h2 g, fst_low, owO_sum (by omega) (by omega)]
theorem round_high {wd : Int} {M a b : Nat} {old : ByteArray} {x xs : List ByteArray} (h1 : a < M) (h2 : M < b) (g : ¬ M ≤ a + half (b - a)) (hb : b ≤ xs.length) :
    fst1 (clO wd M old x a b) (owO wd M xs a b) = if tx1 (x.getD (LO M (a + half (b - a)) b) ByteArray.empty) (clO wd M old x (a + half (b - a)) b).sum = tx1 (RR wd xs a (a + half (b - a))) (RR wd xs (a + half (b - a)) b) then fst1 (clO wd M old x (a + half (b - a)) b) (owO wd M xs (a + half (b - a)) b) else some (tx1 (x.getD (LO M (a + half (b - a)) b) ByteArray.empty) (clO wd M old x (a + half (b - a)) b).sum, tx1 (RR wd xs a (a + half (b - a))) (RR wd xs (a + half (b - a)) b)) := by
  have hh := half_lt (show 2 ≤ b - a by omega)
  rw [clO_high h1 h2 g, owO_high h1 h2 g, fst_high, owO_sum (by omega) hb]
theorem round_end {wd : Int} {M a : Nat} {old : ByteArray} {x xs : List ByteArray} : fst1 (clO wd M old x a M) (owO wd M xs a M) = none := by
  rw [clO_bare (by omega)]; rfl
end Go.Proofs.YthppkdjekfginaaGreatDoor.jk

namespace Go.Proofs.YthppkdjekfginaaGreatDoor.jh
open Go.RowKit Go.PlainAid
open Go.Proofs.YthppkdjekfginaaGreatDoor.pl Go.Proofs.YthppkdjekfginaaGreatDoor.pi Go.Proofs.YthppkdjekfginaaGreatDoor.pj Go.Proofs.YthppkdjekfginaaGreatDoor.ca Go.Proofs.YthppkdjekfginaaGreatDoor.cb Go.Proofs.YthppkdjekfginaaGreatDoor.cp Go.Proofs.YthppkdjekfginaaGreatDoor.ga Go.Proofs.YthppkdjekfginaaGreatDoor.gb Go.Proofs.YthppkdjekfginaaGreatDoor.aa Go.Proofs.YthppkdjekfginaaGreatDoor.ba Go.Proofs.YthppkdjekfginaaGreatDoor.bb Go.Proofs.YthppkdjekfginaaGreatDoor.ka Go.Proofs.YthppkdjekfginaaGreatDoor.kb Go.Proofs.YthppkdjekfginaaGreatDoor.kc Go.Proofs.YthppkdjekfginaaGreatDoor.kp Go.Proofs.YthppkdjekfginaaGreatDoor.lk Go.Proofs.YthppkdjekfginaaGreatDoor.dc Go.Proofs.YthppkdjekfginaaGreatDoor.qa Go.Proofs.YthppkdjekfginaaGreatDoor.qb Go.Proofs.YthppkdjekfginaaGreatDoor.qc Go.Proofs.YthppkdjekfginaaGreatDoor.ta Go.Proofs.YthppkdjekfginaaGreatDoor.tb Go.Proofs.YthppkdjekfginaaGreatDoor.td Go.Proofs.YthppkdjekfginaaGreatDoor.tc Go.Proofs.YthppkdjekfginaaGreatDoor.ua Go.Proofs.YthppkdjekfginaaGreatDoor.ub Go.Proofs.YthppkdjekfginaaGreatDoor.ma Go.Proofs.YthppkdjekfginaaGreatDoor.uh Go.Proofs.YthppkdjekfginaaGreatDoor.ui Go.Proofs.YthppkdjekfginaaGreatDoor.uj Go.Proofs.YthppkdjekfginaaGreatDoor.uk Go.Proofs.YthppkdjekfginaaGreatDoor.ul Go.Proofs.YthppkdjekfginaaGreatDoor.um Go.Proofs.YthppkdjekfginaaGreatDoor.un Go.Proofs.YthppkdjekfginaaGreatDoor.uo Go.Proofs.YthppkdjekfginaaGreatDoor.uq Go.Proofs.YthppkdjekfginaaGreatDoor.qj Go.Proofs.YthppkdjekfginaaGreatDoor.oa Go.Proofs.YthppkdjekfginaaGreatDoor.oc Go.Proofs.YthppkdjekfginaaGreatDoor.ye Go.Proofs.YthppkdjekfginaaGreatDoor.ya Go.Proofs.YthppkdjekfginaaGreatDoor.jk Go.Proofs.YthppkdjekfginaaGreatDoor.rf
set_option linter.unusedVariables false

def slLen : Value → Nat
  | .slice _ n _ => n
  | _ => 0
theorem wide_take {wd : Int} {x : List ByteArray} (h : Wide wd x) (k : Nat) : Wide wd (x.take k) := fun y hy => h y (List.mem_of_mem_take hy)
theorem clO_part {wd : Int} {M a : Nat} {old : ByteArray} {x : List ByteArray} (h1 : a < M) (h0 : a ≠ 0) : (clO wd M old x a M).sum = x.getD 0 ByteArray.empty := by
  rw [clO_bare (by omega)]
  show (nxO M old x a M).1 = _
  unfold nxO
  rw [if_neg (by omega)]
  cases x <;> rfl
theorem clO_whole {wd : Int} {M : Nat} {old : ByteArray} {x : List ByteArray} : (clO wd M old x 0 M).sum = old := by
  rw [clO_bare (by omega)]
  show (nxO M old x 0 M).1 = _
  unfold nxO
  rw [if_pos ⟨rfl, rfl⟩]
set_option maxRecDepth 100000 in
set_option maxHeartbeats 6400000 in
theorem xBoth (wd : Int) (M : Nat) (old : ByteArray) (ho : old.size = wid wd) (n : Nat) : ∀ (a b : Nat) (v : Value) (ps : List ByteArray) (w : World), b - a = n → a < M → M ≤ b → b ≤ 4611686018427387904 → ps.length = LO M a b → Wide wd ps → ReadsT w v ps → ps.length ≤ 140737488355328 → Tab4 w →
    Calls Tryz.prog 26 #[.int .i64 wd, .int .i64 (M - a : Nat), .int .i64 (b - a : Nat), .string old, v, .bool (decide (a = 0))] w fun e w' => (∃ y : ByteArray, e = .returned (.tuple #[.string (clO wd M old ps a b).sum, .string y]) ∧ y.size = wid wd) ∧ Below w.heap.size w w' := by
  induction n using Nat.strongRecOn with
  | ind n ih =>
    intro a b v ps w hn ha hmb hb hl hw hR hz hT
    have h32 := qb.wid_le wd
    by_cases hm : M = b
    · subst hm
      by_cases h0 : a = 0
      · subst h0
        rw [clO_whole]
        obtain ⟨pa, pc, rfl, _⟩ := hR
        have HO : Hid (old.size = wid wd) := ho
        rw [show decide (0 = 0) = true from rfl]
        obtain ⟨L, HL⟩ : ∃ L, Hid (M - 0 = L) := ⟨_, rfl⟩
        rw [HL.out]
        clear ih hT hl ho hn ha hmb hb hw hz
        go_enter Tryz.func26, Tryz.ntmps26
        go_wp2
        go_returns
        exact ⟨⟨_, rfl, HO.out⟩, Below.refl _ _⟩
      · have hl1 := LO_part ha h0
        rw [hl1] at hl
        have AC : Hid (Calls _ _ _ _ _) := xat v ps 0 w hR (by omega) hz
        rw [clO_part ha h0, decide_eq_false h0]
        rw [hl] at AC
        have hs : (ps.getD 0 ByteArray.empty).size = wid wd := by
          rw [List.getD_eq_getElem?_getD, List.getElem?_eq_getElem (by omega)]
          exact hw _ (List.getElem_mem _)
        have HS : Hid ((ps.getD 0 ByteArray.empty).size = wid wd) := hs
        have AC2 : Hid (Calls Tryz.prog 25 #[v, .int .i64 0] w fun e w' => e = .returned (.string (ps.getD 0 ByteArray.empty)) ∧ w' = w) := AC.out
        obtain ⟨y, HY⟩ : ∃ y, Hid (ps.getD 0 ByteArray.empty = y) := ⟨_, rfl⟩
        rw [HY.out] at AC2 HS ⊢
        obtain ⟨pa, pc, rfl, _⟩ := hR
        obtain ⟨L, HL⟩ : ∃ L, Hid (M - a = L) := ⟨_, rfl⟩
        rw [HL.out]
        obtain ⟨q, HQ⟩ : ∃ q, Hid (ps.length = q) := ⟨_, rfl⟩
        rw [HQ.out] at AC2 ⊢
        clear ih hT hl ho hn ha hmb hb hw hz AC hs hl1 h0
        go_enter Tryz.func26, Tryz.ntmps26
        go_wp2_with fail
        refine AC2.out.mono ?_
        rintro e w1 ⟨rfl, hw1⟩
        rw [hw1]
        clear hw1
        go_wp2
        go_returns
        exact ⟨⟨_, rfl, HS.out⟩, Below.refl _ _⟩
    · have h2 : 2 ≤ b - a := by omega
      have hh := half_lt h2
      have hMb : M < b := by omega
      have IH : Hid (∀ m', m' < n → _) := ih
      have HG : Hid (ReadsT w v ps ∧ Tab4 w ∧ Wide wd ps) := ⟨hR, hT, hw⟩
      have HC : Hid (∀ w, Calls _ _ _ _ _) := fun w => xhalf (b - a) h2 (by omega) w
      have hl1 : 1 ≤ ps.length := by
        by_cases g : M ≤ a + half (b - a)
        · rw [hl, LO_low ha hMb g]; omega
        · rw [hl, LO_high ha hMb g]; omega
      have AC : Hid (Calls Tryz.prog 25 #[v, .int .i64 0] w fun e w' => e = .returned (.string (ps.getD (ps.length - 1) ByteArray.empty)) ∧ w' = w) := xat v ps 0 w hR (by omega) hz
      have hs : (ps.getD (ps.length - 1) ByteArray.empty).size = wid wd := by
        rw [List.getD_eq_getElem?_getD, List.getElem?_eq_getElem (by omega)]
        exact hw _ (List.getElem_mem _)
      obtain ⟨pa, pc, hv, hpc, _⟩ := id hR
      subst hv
      have HPC : Hid (ps.length ≤ pc) := hpc
      obtain ⟨v', hv'⟩ : ∃ v', v' = Value.slice pa (ps.length - 1) pc := ⟨_, rfl⟩
      have HV : Hid (∀ w', Below w.heap.size w w' → ReadsT w' v' (ps.take (ps.length - 1))) := fun w' bb => by rw [hv']; exact zk.preT (HG.out.1.later bb) (by omega)
      clear hpc
      by_cases g : M ≤ a + half (b - a)
      · have hlo := LO_low ha hMb g
        have hc := clO_low (wd := wd) (old := old) (x := ps) ha hMb g
        have hlen : (ps.take (ps.length - 1)).length = LO M a (a + half (b - a)) := by rw [List.length_take]; omega
        have BC : Hid (∀ w', Below w.heap.size w w' → Calls _ _ _ _ _) := fun w' bb => IH.out (half (b - a)) (by omega) a (a + half (b - a)) v' (ps.take (ps.length - 1)) w' (by omega) ha g (by omega) hlen (wide_take HG.out.2.2 _) (HV.out w' bb) (by rw [List.length_take]; omega) (HG.out.2.1.down bb)
        rw [show ps.length - 1 = LO M a (a + half (b - a)) by omega] at AC hs BC
        rw [clO_pre wd M old ps (show a < a + half (b - a) by omega) (Nat.le_refl _), Nat.add_sub_cancel_left] at BC
        rw [hc]
        have zx : (clO wd M old ps a (a + half (b - a))).sum.size = wid wd := clO_size ho (by omega) (by omega) hw
        show Calls _ _ _ _ fun e w' => (∃ y : ByteArray, e = .returned (.tuple #[.string (NF wd (clO wd M old ps a (a + half (b - a))).sum (ps.getD (LO M a (a + half (b - a))) ByteArray.empty)), .string y]) ∧ y.size = wid wd) ∧ _
        obtain ⟨x, HX⟩ : ∃ x, Hid ((clO wd M old ps a (a + half (b - a))).sum = x) := ⟨_, rfl⟩
        obtain ⟨s, HS⟩ : ∃ x, Hid (ps.getD (LO M a (a + half (b - a))) ByteArray.empty = x) := ⟨_, rfl⟩
        rw [HX.out] at BC zx ⊢
        rw [HS.out] at AC hs ⊢
        have NC : Hid (∀ w', Tab4 w' → Calls _ _ _ _ _) := fun w' h => rNode wd x s (by omega) w' h
        obtain ⟨z, HZ⟩ : ∃ z, Hid (NF wd x s = z) := ⟨_, rfl⟩
        rw [HZ.out] at NC ⊢
        obtain ⟨k, HK⟩ : ∃ k, Hid (half (b - a) = k) := ⟨_, rfl⟩
        have g1 : M - a ≤ half (b - a) := by omega
        have g2 : M - a < b - a := by omega
        have g3 : b - a ≤ 4611686018427387904 := by omega
        rw [HK.out] at HC BC g1
        obtain ⟨m, HM⟩ : ∃ k, Hid (M - a = k) := ⟨_, rfl⟩
        obtain ⟨L, HL⟩ : ∃ k, Hid (b - a = k) := ⟨_, rfl⟩
        rw [HM.out] at BC g1 g2 ⊢
        rw [HL.out] at HC g2 g3 ⊢
        obtain ⟨t, HT⟩ : ∃ t, Hid (decide (a = 0) = t) := ⟨_, rfl⟩
        rw [HT.out] at BC ⊢
        have q1 : ((m : Int) == L) = false := by rw [beq_eq_false_iff_ne]; omega
        have q2 : (m : Int) ≤ k := by omega
        obtain ⟨l, HLL⟩ : ∃ l, Hid (ps.length = l) := ⟨_, rfl⟩
        have r1 : (0 : Int) < l := by have := HLL.out; omega
        have r2 : IntKind.i64.wrap ((l : Int) - 1) = (l : Int) - 1 := by rw [IntKind.wrap_i64]; have := HLL.out; omega
        have r3 : (l : Int) - 1 ≤ pc := by have := HLL.out; have := HPC.out; omega
        have r4 : ((l : Int) - 1).toNat = l - 1 := by omega
        have r5 : (0 : Int) ≤ (l : Int) - 1 := by omega
        have r6 : 1 ≤ l := by omega
        have r7 : l - 1 ≤ pc := by omega
        subst hv'
        rw [HLL.out] at BC AC ⊢
        clear HLL HPC hl1 HV
        clear ih hT hl hw hz hm h2 hh hlen hlo hc zx hs HX HS HZ HK HM HL HT ho hn ha hmb hb hMb hR IH g g1 g2 h32
        go_enter Tryz.func26, Tryz.ntmps26
        go_wp2_with fail
        refine (HC.out _).mono ?_
        rintro e w1 ⟨rfl, hw1⟩
        rw [hw1]
        clear hw1
        go_wp2_with fail
        refine AC.out.mono ?_
        rintro e w1 ⟨rfl, hw1⟩
        rw [hw1]
        clear hw1
        go_wp2_with fail
        refine (BC.out _ (Below.refl _ _)).mono ?_
        rintro e w3 ⟨⟨y, rfl, hy⟩, hb3⟩
        have B3 : Hid (Below _ _ w3) := hb3
        have HY : Hid (y.size = wid wd) := hy
        clear hb3 hy
        go_wp2_with fail
        refine (NC.out _ (HG.out.2.1.down B3.out)).mono ?_
        rintro e w4 ⟨rfl, hb4⟩
        have B4 : Hid (Below _ _ w4) := over B3.out hb4
        clear hb4
        go_wp2
        go_returns
        exact ⟨⟨_, rfl, HY.out⟩, B4.out⟩
      · have hlo := LO_high ha hMb g
        have hc := clO_high (wd := wd) (old := old) (x := ps) ha hMb g
        have hlen : (ps.take (ps.length - 1)).length = LO M (a + half (b - a)) b := by rw [List.length_take]; omega
        have BC : Hid (∀ w', Below w.heap.size w w' → Calls _ _ _ _ _) := fun w' bb => IH.out (b - (a + half (b - a))) (by omega) (a + half (b - a)) b v' (ps.take (ps.length - 1)) w' rfl (by omega) hmb hb hlen (wide_take HG.out.2.2 _) (HV.out w' bb) (by rw [List.length_take]; omega) (HG.out.2.1.down bb)
        rw [show ps.length - 1 = LO M (a + half (b - a)) b by omega] at AC hs BC
        rw [clO_pre wd M old ps (show a + half (b - a) < b by omega) (Nat.le_refl _)] at BC
        rw [decide_eq_false (show ¬ a + half (b - a) = 0 by omega)] at BC
        rw [hc]
        have zx : (clO wd M old ps (a + half (b - a)) b).sum.size = wid wd := clO_size ho (by omega) (by omega) hw
        show Calls _ _ _ _ fun e w' => (∃ y : ByteArray, e = .returned (.tuple #[.string (NF wd (ps.getD (LO M (a + half (b - a)) b) ByteArray.empty) (clO wd M old ps (a + half (b - a)) b).sum), .string y]) ∧ y.size = wid wd) ∧ _
        obtain ⟨x, HX⟩ : ∃ x, Hid ((clO wd M old ps (a + half (b - a)) b).sum = x) := ⟨_, rfl⟩
        obtain ⟨s, HS⟩ : ∃ x, Hid (ps.getD (LO M (a + half (b - a)) b) ByteArray.empty = x) := ⟨_, rfl⟩
        rw [HX.out] at BC zx ⊢
        rw [HS.out] at AC hs ⊢
        have NC : Hid (∀ w', Tab4 w' → Calls _ _ _ _ _) := fun w' h => rNode wd s x (by omega) w' h
        have ND : Hid (∀ y : ByteArray, y.size = wid wd → ∀ w', Tab4 w' → Calls _ _ _ _ _) := fun y hy w' h => rNode wd s y (by omega) w' h
        have NZ : Hid (∀ y, (NF wd s y).size = wid wd) := fun y => NF_size wd s y
        obtain ⟨z, HZ⟩ : ∃ z, Hid (NF wd s x = z) := ⟨_, rfl⟩
        rw [HZ.out] at NC ⊢
        obtain ⟨k, HK⟩ : ∃ k, Hid (half (b - a) = k) := ⟨_, rfl⟩
        have g1 : ¬ M - a ≤ half (b - a) := by omega
        have g2 : M - a < b - a := by omega
        have g3 : b - a ≤ 4611686018427387904 := by omega
        have e1 : ((M - (a + half (b - a)) : Nat) : Int) = ((M - a : Nat) : Int) - (half (b - a) : Nat) := by omega
        have e2 : ((b - (a + half (b - a)) : Nat) : Int) = ((b - a : Nat) : Int) - (half (b - a) : Nat) := by omega
        rw [e1, e2] at BC
        rw [HK.out] at HC BC g1 hh
        obtain ⟨m, HM⟩ : ∃ k, Hid (M - a = k) := ⟨_, rfl⟩
        obtain ⟨L, HL⟩ : ∃ k, Hid (b - a = k) := ⟨_, rfl⟩
        rw [HM.out] at BC g1 g2 ⊢
        rw [HL.out] at HC BC g2 g3 hh ⊢
        obtain ⟨t, HT⟩ : ∃ t, Hid (decide (a = 0) = t) := ⟨_, rfl⟩
        rw [HT.out]
        have q1 : ((m : Int) == L) = false := by rw [beq_eq_false_iff_ne]; omega
        have q2 : ¬ (m : Int) ≤ k := by omega
        have q3 : IntKind.i64.wrap ((m : Int) - k) = (m : Int) - k := by rw [IntKind.wrap_i64]; omega
        have q4 : IntKind.i64.wrap ((L : Int) - k) = (L : Int) - k := by rw [IntKind.wrap_i64]; omega
        obtain ⟨l, HLL⟩ : ∃ l, Hid (ps.length = l) := ⟨_, rfl⟩
        have r1 : (0 : Int) < l := by have := HLL.out; omega
        have r2 : IntKind.i64.wrap ((l : Int) - 1) = (l : Int) - 1 := by rw [IntKind.wrap_i64]; have := HLL.out; omega
        have r3 : (l : Int) - 1 ≤ pc := by have := HLL.out; have := HPC.out; omega
        have r4 : ((l : Int) - 1).toNat = l - 1 := by omega
        have r5 : (0 : Int) ≤ (l : Int) - 1 := by omega
        have r6 : 1 ≤ l := by omega
        have r7 : l - 1 ≤ pc := by omega
        subst hv'
        rw [HLL.out] at BC AC ⊢
        clear HLL HPC hl1 HV
        clear ih hT hl hw hz hm h2 hh hlen hlo hc zx hs HX HS HZ HK HM HL HT ho hn ha hmb hb hMb hR IH g g1 g2 h32 e1 e2
        go_enter Tryz.func26, Tryz.ntmps26
        go_wp2_with fail
        refine (HC.out _).mono ?_
        rintro e w1 ⟨rfl, hw1⟩
        rw [hw1]
        clear hw1
        go_wp2_with fail
        refine AC.out.mono ?_
        rintro e w1 ⟨rfl, hw1⟩
        rw [hw1]
        clear hw1
        go_wp2_with fail
        refine (BC.out _ (Below.refl _ _)).mono ?_
        rintro e w3 ⟨⟨y, rfl, hy⟩, hb3⟩
        have B3 : Hid (Below _ _ w3) := hb3
        have HY : Hid (y.size = wid wd) := hy
        clear hb3 hy
        go_wp2_with fail
        refine (NC.out _ (HG.out.2.1.down B3.out)).mono ?_
        rintro e w4 ⟨rfl, hb4⟩
        have B4 : Hid (Below _ _ w4) := over B3.out hb4
        clear hb4
        go_wp2_with fail
        refine (ND.out y HY.out _ (HG.out.2.1.down B4.out)).mono ?_
        rintro e w5 ⟨rfl, hb5⟩
        have B5 : Hid (Below _ _ w5) := over B4.out hb5
        clear hb5
        go_wp2
        go_returns
        exact ⟨⟨_, rfl, NZ.out _⟩, B5.out⟩
end Go.Proofs.YthppkdjekfginaaGreatDoor.jh
