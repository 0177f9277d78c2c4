import Derived.Test.YtpcllegjnbeppaaGreatG3
import Derived.Test.YtpcllegjnbeppaaGreatG4
import Derived.Test.YtpcllegjnbeppaaGreatG1
import Derived.Deep.DeepCutAuto
import Derived.BigQuiet
import Derived.Laws.Cover1
import Derived.Deep.QuietTactic
import Derived.Shelf.Small.Wraps
import Derived.Deep.AppendLies
namespace Go.Proofs.YtpcllegjnbeppaaGreat.yq
open Go.RowKit Go.PlainAid Go.Maps Go.Shelf
open Go.Proofs.YtpcllegjnbeppaaGreat.ca Go.Proofs.YtpcllegjnbeppaaGreat.cb Go.Proofs.YtpcllegjnbeppaaGreat.cp Go.Proofs.YtpcllegjnbeppaaGreat.kp Go.Proofs.YtpcllegjnbeppaaGreat.ka Go.Proofs.YtpcllegjnbeppaaGreat.ya Go.Proofs.YtpcllegjnbeppaaGreat.yb Go.Proofs.YtpcllegjnbeppaaGreat.yc Go.Proofs.YtpcllegjnbeppaaGreat.yd Go.Proofs.YtpcllegjnbeppaaGreat.ye Go.Proofs.YtpcllegjnbeppaaGreat.yf Go.Proofs.YtpcllegjnbeppaaGreat.yg Go.Proofs.YtpcllegjnbeppaaGreat.yi Go.Proofs.YtpcllegjnbeppaaGreat.yk Go.Proofs.YtpcllegjnbeppaaGreat.yl Go.Proofs.YtpcllegjnbeppaaGreat.yo Go.Proofs.YtpcllegjnbeppaaGreat.yp Go.Proofs.YtpcllegjnbeppaaGreat.sb Go.Proofs.YtpcllegjnbeppaaGreat.mc
set_option linter.unusedVariables false
set_option linter.unusedSimpArgs false
def kK : ByteArray := ⟨#[107]⟩
def vV : ByteArray := ⟨#[118]⟩
def s0 : S := ⟨100, [], [], 0, false, 0⟩
def s1 : S := ⟨100, [], [⟨false, kK, vV⟩], 0, false, 0⟩
def s2 : S := ⟨100, [(kK, vV)], [], 0, false, 0⟩
theorem put_is : putS s0 kK vV = (0, s1) := by kernel_rfl
theorem sync_is : syncS s1 = (0, s2) := by kernel_rfl
theorem get_is : getS s2 kK = (vV, 0) := by kernel_rfl
theorem tot_is : tot (now s2) = 18 := by kernel_rfl
theorem img_is : imageT s2.dur = ⟨#[83, 1, 107, 0, 0, 0, 1, 118]⟩ := by kernel_rfl
end Go.Proofs.YtpcllegjnbeppaaGreat.yq

namespace Go.Proofs.YtpcllegjnbeppaaGreat.ym
open Go.RowKit Go.PlainAid Go.Maps Go.Shelf
open Go.Proofs.YtpcllegjnbeppaaGreat.ca Go.Proofs.YtpcllegjnbeppaaGreat.cb Go.Proofs.YtpcllegjnbeppaaGreat.cp Go.Proofs.YtpcllegjnbeppaaGreat.kp Go.Proofs.YtpcllegjnbeppaaGreat.ka Go.Proofs.YtpcllegjnbeppaaGreat.ya Go.Proofs.YtpcllegjnbeppaaGreat.yb Go.Proofs.YtpcllegjnbeppaaGreat.yc Go.Proofs.YtpcllegjnbeppaaGreat.yd Go.Proofs.YtpcllegjnbeppaaGreat.ye Go.Proofs.YtpcllegjnbeppaaGreat.yf Go.Proofs.YtpcllegjnbeppaaGreat.yg Go.Proofs.YtpcllegjnbeppaaGreat.yh Go.Proofs.YtpcllegjnbeppaaGreat.yi Go.Proofs.YtpcllegjnbeppaaGreat.yl Go.Proofs.YtpcllegjnbeppaaGreat.sb Go.Proofs.YtpcllegjnbeppaaGreat.mc Go.Proofs.YtpcllegjnbeppaaGreat.na Go.Proofs.YtpcllegjnbeppaaGreat.nb
set_option linter.unusedVariables false
set_option linter.unusedSimpArgs false
-- what is left of the pending writes
def surv (keep : ByteArray) (i : Nat) : Bool := decide (keep.size ≠ 0 ∧ bt keep (i % keep.size) % 2 = 1)
def kdN (keep : ByteArray) (l : List W) (r : List Rec) : Nat → List Rec
  | 0 => r
  | j + 1 => match l[j]? with
    | some x => if surv keep j then doW (kdN keep l r j) x else kdN keep l r j
    | none => kdN keep l r j
def tbN (rd : List Rec) (l : List W) (rn : List Rec) : Nat → List Rec
  | 0 => rn
  | j + 1 => match l[j]? with
    | some x => tb rd (tbN rd l rn j) x.key
    | none => tbN rd l rn j
theorem ok_kd {keep : ByteArray} {l : List W} {r : List Rec} (h : OkR r) (hl : ∀ x ∈ l, OkW x) (j : Nat) : OkR (kdN keep l r j) := by
  induction j with
  | zero => exact h
  | succ j ih =>
    unfold kdN
    split
    · rename_i x hx
      split
      · exact ok_doW ih (hl x (List.mem_of_getElem? hx))
      · exact ih
    · exact ih
theorem srt_kd {keep : ByteArray} {l : List W} {r : List Rec} (h : Srt r) (j : Nat) : Srt (kdN keep l r j) := by
  induction j with
  | zero => exact h
  | succ j ih =>
    unfold kdN
    split
    · split
      · exact srt_doW ih
      · exact ih
    · exact ih
theorem len_kd (keep : ByteArray) (l : List W) (r : List Rec) (j : Nat) : (kdN keep l r j).length ≤ r.length + j := by
  induction j with
  | zero => exact Nat.le_refl _
  | succ j ih =>
    unfold kdN
    split
    · split
      · rename_i x _ _; have := len_doW (kdN keep l r j) x; omega
      · omega
    · omega
theorem ok_tb {rd rn : List Rec} {k : ByteArray} (h : OkR rd) (hn : OkR rn) : OkR (tb rd rn k) := by
  unfold tb
  split
  · rename_i d hd; have := h.get hd; exact hn.put this.1 this.2.1 this.2.2
  · exact hn.del
theorem srt_tb {rd rn : List Rec} {k : ByteArray} (hn : Srt rn) : Srt (tb rd rn k) := by
  unfold tb
  split
  · exact srt_put hn
  · exact srt_del hn
theorem len_tb (rd rn : List Rec) (k : ByteArray) : (tb rd rn k).length ≤ rn.length + 1 := by
  unfold tb
  split
  · exact len_put _ _ _
  · have := len_del k rn; omega
theorem ok_tbN {rd rn : List Rec} {l : List W} (h : OkR rd) (hn : OkR rn) (j : Nat) : OkR (tbN rd l rn j) := by
  induction j with
  | zero => exact hn
  | succ j ih => unfold tbN; split; exact ok_tb h ih; exact ih
theorem srt_tbN {rd rn : List Rec} {l : List W} (hn : Srt rn) (j : Nat) : Srt (tbN rd l rn j) := by
  induction j with
  | zero => exact hn
  | succ j ih => unfold tbN; split; exact srt_tb ih; exact ih
theorem len_tbN (rd rn : List Rec) (l : List W) (j : Nat) : (tbN rd l rn j).length ≤ rn.length + j := by
  induction j with
  | zero => exact Nat.le_refl _
  | succ j ih => unfold tbN; split; (rename_i x _; have := len_tb rd (tbN rd l rn j) x.key; omega); omega
theorem get_doW {r : List Rec} {x : W} {k : ByteArray} (h : Srt r) (hn : x.key ≠ k) : rget k (doW r x) = rget k r := by
  unfold doW
  split
  · exact get_del_other h (fun e => hn e.symm)
  · exact get_put_other h (fun e => hn e.symm)
theorem get_do {l : List W} {r : List Rec} {k : ByteArray} (h : Srt r) (hn : ∀ x ∈ l, x.key ≠ k) : rget k (l.foldl doW r) = rget k r := by
  induction l generalizing r with
  | nil => rfl
  | cons x l ih => rw [List.foldl_cons, ih (srt_doW h) (fun y hy => hn y (by simp [hy])), get_doW h (hn x (by simp))]
theorem get_kd {keep : ByteArray} {l : List W} {r : List Rec} {k : ByteArray} (h : Srt r) (hn : ∀ x ∈ l, x.key ≠ k) (j : Nat) : rget k (kdN keep l r j) = rget k r := by
  induction j with
  | zero => rfl
  | succ j ih =>
    unfold kdN
    split
    · rename_i x hx
      split
      · rw [get_doW (srt_kd h j) (hn x (List.mem_of_getElem? hx)), ih]
      · exact ih
    · exact ih
theorem get_tb_same {rd rn : List Rec} {k : ByteArray} (hn : Srt rn) : rget k (tb rd rn k) = rget k rd := by
  unfold tb
  split
  · rename_i d hd; rw [get_put_same hn, hd]
  · rename_i hd; rw [get_del_same, hd]
theorem get_tb_other {rd rn : List Rec} {k k' : ByteArray} (hn : Srt rn) (h : k' ≠ k) : rget k' (tb rd rn k) = rget k' rn := by
  unfold tb
  split
  · exact get_put_other hn h
  · exact get_del_other hn h
theorem get_tbN {rd rn : List Rec} {l : List W} {k : ByteArray} (hn : Srt rn) (j : Nat) : rget k (tbN rd l rn j) = if (∃ x ∈ l.take j, x.key = k) then rget k rd else rget k rn := by
  induction j with
  | zero => simp [tbN]
  | succ j ih =>
    unfold tbN
    split
    · rename_i x hx
      rw [List.take_add_one, hx]
      by_cases e : x.key = k
      · rw [if_pos ⟨x, by simp, e⟩, ← e, get_tb_same (srt_tbN hn j)]
      · rw [get_tb_other (srt_tbN hn j) (fun h => e h.symm), ih]
        congr 1
        simp only [eq_iff_iff]
        constructor
        · rintro ⟨y, h1, h2⟩; exact ⟨y, by simp [h1], h2⟩
        · rintro ⟨y, h1, h2⟩
          rcases List.mem_append.1 h1 with h1 | h1
          · exact ⟨y, h1, h2⟩
          · simp at h1; subst h1; exact absurd h2 e
    · rename_i hx
      rw [ih, List.take_add_one, hx]
      simp
-- behind the taking back what is there is what is durable
theorem tb_all {keep : ByteArray} {l : List W} {r : List Rec} (h : Srt r) : tbN (kdN keep l r l.length) l (l.foldl doW r) l.length = kdN keep l r l.length := by
  refine ext_get (srt_tbN (srt_do h) _) (srt_kd h _) fun k => ?_
  rw [get_tbN (srt_do h), List.take_length]
  split
  · rfl
  · rename_i hn
    have hn : ∀ x ∈ l, x.key ≠ k := fun x hx e => hn ⟨x, hx, e⟩
    rw [get_do h hn, get_kd h hn]
def crashS (s : S) (keep : ByteArray) : S := ⟨s.cap, kdN keep s.pend s.dur s.pend.length, [], 0, false, s.age + 1⟩
theorem survC (keep : ByteArray) (i : Nat) (w : World) (hk : keep.size ≤ 140737488355328) (hi : i ≤ 4398046511104) : Calls Tryz.prog 84 #[.string keep, .int .i64 i] w fun e w' => e = .returned (.bool (surv keep i)) ∧ w' = w := by
  have hbt := get_bt keep
  by_cases h0 : keep.size = 0
  · have hk0 : keep = ⟨#[]⟩ := by
      cases keep with
      | mk d => simp only [ByteArray.size] at h0; rw [Array.eq_empty_of_size_eq_zero h0]
    subst hk0
    go_enter Tryz.func84, Tryz.ntmps84
    go_wp2
    go_ret
    exact ⟨congrArg (fun b => Ending.returned (.bool b)) (decide_eq_false (fun h => h.1 rfl)).symm, rfl⟩
  · have hne : (keep.toList == []) = false := by
      rw [beq_eq_false_iff_ne, ByteArray.toList_eq]
      intro e
      have := congrArg List.length e
      have e2 : keep.data.toList.length = 0 := this
      rw [Array.length_toList] at e2
      exact h0 e2
    have hne' : (keep.toList != []) = true := by rw [bne, hne]; rfl
    obtain ⟨n, hn⟩ : ∃ n, keep.size = n := ⟨_, rfl⟩
    obtain ⟨r, hr⟩ : ∃ r, i % n = r := ⟨_, rfl⟩
    have hrn : r < n := by rw [← hr]; exact Nat.mod_lt _ (by omega)
    have hm : Int.tmod (i : Int) (n : Int) = (r : Int) := by rw [← hr]; rfl
    have hn0 : ((n : Int) == 0) = false := by rw [beq_eq_false_iff_ne]; omega
    have hw1 : IntKind.i64.wrap (r : Int) = r := wrap_is _ (by omega)
    have hrs : r < keep.size := by omega
    have hb0 := bt_nonneg keep r
    have hb1 := bt_le keep r
    have HSV : Hid (surv keep i = decide (bt keep r % 2 = 1)) := by
      show _ = _
      unfold surv
      rw [hn, hr]
      simp [show n ≠ 0 by omega]
    have hlt2 : (r : Int) < (n : Int) := by omega
    obtain ⟨y, hy⟩ : ∃ y, bt keep r = y := ⟨_, rfl⟩
    rw [hy] at hb0 hb1
    have hy' : ∀ h, ((keep[r]'h).toNat : Int) = y := fun h => by rw [← hy]; exact hbt r h
    have ht : Int.tmod y 2 = y % 2 := Int.tmod_eq_emod_of_nonneg hb0
    have hw2 : IntKind.u8.wrap (y % 2) = y % 2 := by
      have : 0 ≤ y % 2 ∧ y % 2 < 256 := by omega
      rcases (show y % 2 = 0 ∨ y % 2 = 1 by omega) with e | e <;> rw [e] <;> decide
    rw [HSV.out, hy]
    clear hr hbt hy h0 HSV
    go_enter Tryz.func84, Tryz.ntmps84
    go_wp2
    go_ret
    exact ⟨rfl, rfl⟩
end Go.Proofs.YtpcllegjnbeppaaGreat.ym

namespace Go.Proofs.YtpcllegjnbeppaaGreat.yn
open Go.RowKit Go.PlainAid Go.Maps Go.Shelf
open Go.Proofs.YtpcllegjnbeppaaGreat.ca Go.Proofs.YtpcllegjnbeppaaGreat.cb Go.Proofs.YtpcllegjnbeppaaGreat.cp Go.Proofs.YtpcllegjnbeppaaGreat.kp Go.Proofs.YtpcllegjnbeppaaGreat.ka Go.Proofs.YtpcllegjnbeppaaGreat.ya Go.Proofs.YtpcllegjnbeppaaGreat.yb Go.Proofs.YtpcllegjnbeppaaGreat.yc Go.Proofs.YtpcllegjnbeppaaGreat.yd Go.Proofs.YtpcllegjnbeppaaGreat.ye Go.Proofs.YtpcllegjnbeppaaGreat.yf Go.Proofs.YtpcllegjnbeppaaGreat.yg Go.Proofs.YtpcllegjnbeppaaGreat.yh Go.Proofs.YtpcllegjnbeppaaGreat.yi Go.Proofs.YtpcllegjnbeppaaGreat.yl Go.Proofs.YtpcllegjnbeppaaGreat.ym Go.Proofs.YtpcllegjnbeppaaGreat.sb Go.Proofs.YtpcllegjnbeppaaGreat.mc
set_option linter.unusedVariables false
set_option linter.unusedSimpArgs false
theorem kd_yes {keep : ByteArray} {l : List W} {r : List Rec} {j : Nat} {x : W} (hx : l[j]? = some x) (h : surv keep j = true) : kdN keep l r (j + 1) = doW (kdN keep l r j) x := by rw [kdN, hx]; simp only; rw [if_pos h]
theorem kd_no {keep : ByteArray} {l : List W} {r : List Rec} {j : Nat} {x : W} (hx : l[j]? = some x) (h : surv keep j = false) : kdN keep l r (j + 1) = kdN keep l r j := by rw [kdN, hx]; simp only; rw [if_neg (by rw [h]; decide)]
theorem tb_next {rd rn : List Rec} {l : List W} {j : Nat} {x : W} (hx : l[j]? = some x) : tbN rd l rn (j + 1) = tb rd (tbN rd l rn j) x.key := by rw [tbN, hx]
set_option maxRecDepth 20000 in
set_option maxHeartbeats 12800000 in
theorem crashC {B g bn bd : Nat} {pv : Value} {s : S} {w : World} (keep : ByteArray) (h : Sr B g bn bd pv s w) (hk : keep.size ≤ 140737488355328) (ha : s.age < 4398046511104) :
    Calls Tryz.prog 41 #[.pointer (some ⟨g, 0, none⟩), .string keep] w fun e w' => e = .returned (.tuple #[]) ∧ Rn B g bn bd pv (crashS s keep) w w' := by
  have OK : Hid (OkS s) := h.ok
  obtain ⟨l, HLL⟩ : ∃ l, Hid (s.pend = l) := ⟨_, rfl⟩
  have G1 : Hid (Sq B g bn bd pv (tot (now s)) (now s) s.dur l.length (wcs bd l) s w) := by have := sq_of h; rw [HLL.out] at this; exact this
  have hfm : ∃ a c, pv = .slice a l.length c := own_formS G1.out.pr
  obtain ⟨pa, pc, rfl⟩ := hfm
  have c2 := G1.out.row.c2
  have hll : s.dur.length + l.length < 3518437208883 := by have := OK.out.len; rw [HLL.out] at this; exact this
  have hll2 : l.length < 3518437208883 := by omega
  have HPW : Hid (∀ x ∈ l, OkW x) := by have := OK.out.pend; rw [HLL.out] at this; exact this
  have CO : Hid (∀ w, Calls _ _ _ _ _) := fun w => orNoneC g w
  clear h
  go_enter Tryz.func41, Tryz.ntmps41
  go_wp2_with (first | (go_at_call 43; refine (CO.out _).mono ?_; rintro _ _ ⟨rfl, hw⟩; rw [hw]; clear hw) | go_in)
  go_loopw [15] (fun i wr => ∃ j : Nat, i = .int .i64 j ∧ j ≤ l.length ∧ Hid (Sq B g bn bd (.slice pa l.length pc) (tot (now s)) (now s) (kdN keep l s.dur j) l.length (wcs bd l) s wr ∧ Kp (Fr g bn bd (.slice pa l.length pc)) w wr)) (fun i _ => (l.length - intOf i).toNat)
  case atStart => exact ⟨0, rfl, Nat.zero_le _, G1.out, Kp.refl _ _⟩
  case round =>
    obtain ⟨j, rfl, hj, HH⟩ := hrel
    by_cases hlt : j < l.length
    · have hlt' : (j : Int) < l.length := by omega
      obtain ⟨x, hx⟩ : ∃ x, l[j]? = some x := ⟨_, List.getElem?_eq_getElem hlt⟩
      obtain ⟨q, c, e, d0, d1, d2⟩ := pend_cells HH.out.1 j x hx
      injection e with e1 _ e2
      subst e1 e2
      have hok : OkW x := HPW.out x (List.mem_of_getElem? hx)
      have HL : Hid (∀ w1, Below wr.heap.size wr w1 → Calls _ _ _ _ _) := fun w1 b1 => landC bd (kdN keep l s.dur j) x w1 ((HH.out.1.later b1).md) hok (by have := len_kd keep l s.dur j; unfold maxLen; omega)
      have HNX : Hid (surv keep j = true → ∀ w1 w2, Below wr.heap.size wr w1 → Mp bd (doW (kdN keep l s.dur j) x) w2 → Kp (fun k => k = bd) w1 w2 → Sq B g bn bd (.slice (some ⟨q, 0, none⟩) l.length pc) (tot (now s)) (now s) (kdN keep l s.dur (j + 1)) l.length (wcs bd l) s w2 ∧ Kp (Fr g bn bd (.slice (some ⟨q, 0, none⟩) l.length pc)) w w2) := fun hs w1 w2 b1 m2 k2 => by
        rw [kd_yes hx hs]
        exact ⟨(HH.out.1.later b1).dm m2 k2, (HH.out.2.trans (Kp.of_below b1)).trans (fr_d k2)⟩
      have HNO : Hid (surv keep j = false → ∀ w1, Below wr.heap.size wr w1 → Sq B g bn bd (.slice (some ⟨q, 0, none⟩) l.length pc) (tot (now s)) (now s) (kdN keep l s.dur (j + 1)) l.length (wcs bd l) s w1 ∧ Kp (Fr g bn bd (.slice (some ⟨q, 0, none⟩) l.length pc)) w w1) := fun hs w1 b1 => by
        rw [kd_no hx hs]
        exact ⟨HH.out.1.later b1, HH.out.2.trans (Kp.of_below b1)⟩
      obtain ⟨f, hf⟩ : ∃ f, fnV bd x.cut = .func (.func f) #[.map (some bd)] #[] := ⟨_, rfl⟩
      obtain ⟨xk, hxk⟩ : ∃ xk, x.key = xk := ⟨_, rfl⟩
      obtain ⟨xd, hxd⟩ : ∃ xd, x.data = xd := ⟨_, rfl⟩
      rw [hf] at d0 HL
      rw [hxk] at d1 HL
      rw [hxd] at d2 HL
      have HB : Hid (∀ o, Below wr.heap.size wr (wr.alloc o)) := fun o => (Below.refl _ wr).alloc (Nat.le_refl _) _
      have CV : Hid (∀ w, Calls _ _ _ _ _) := fun w => survC keep j w hk (by omega)
      clear HH hok hx hf hxk hxd
      rw [Nat.mul_comm] at d0 d1 d2
      cases hs : surv keep j with
      | true =>
        rw [hs] at CV
        go_wp2_with (first | (go_at_call 84; refine (CV.out _).mono ?_; rintro _ _ ⟨rfl, hw⟩; rw [hw]; clear hw) | (go_at_call 50; refine (HL.out _ (HB.out _)).mono ?_; rintro _ w3 ⟨rfl, m3, k3⟩; have F3 : Hid _ := HNX.out hs _ _ (HB.out _) m3 k3; clear m3 k3) | go_in)
        go_roundw
        case rel => exact ⟨j + 1, by go_num, by omega, F3.out⟩
        case measure => simp [intOf]; omega
      | false =>
        rw [hs] at CV
        go_wp2_with (first | (go_at_call 84; refine (CV.out _).mono ?_; rintro _ _ ⟨rfl, hw⟩; rw [hw]; clear hw) | go_in)
        go_roundw
        case rel => exact ⟨j + 1, by go_num, by omega, HNO.out hs _ (HB.out _)⟩
        case measure => simp [intOf]; omega
    · have hlt' : ¬ (j : Int) < l.length := by omega
      have hjl : j = l.length := by omega
      subst hjl
      obtain ⟨rd, HRD⟩ : ∃ rd, Hid (kdN keep l s.dur l.length = rd) := ⟨_, rfl⟩
      have G2 : Hid (Sq B g bn bd (.slice pa l.length pc) (tot (now s)) (now s) rd l.length (wcs bd l) s wr ∧ Kp (Fr g bn bd (.slice pa l.length pc)) w wr) := by rw [← HRD.out]; exact HH.out
      have OD : Hid (OkR rd ∧ Srt rd ∧ rd.length < 3518437208883) := by rw [← HRD.out]; exact ⟨ok_kd OK.out.dur HPW.out _, srt_kd OK.out.srt _, by have := len_kd keep l s.dur l.length; omega⟩
      have c22 := G2.out.1.row.c2
      clear HH
      go_wp2_with fail
      go_loopw [31] (fun i wr => ∃ j : Nat, i = .int .i64 j ∧ j ≤ l.length ∧ Hid (Sq B g bn bd (.slice pa l.length pc) (tot (tbN rd l (now s) j)) (tbN rd l (now s) j) rd l.length (wcs bd l) s wr ∧ Kp (Fr g bn bd (.slice pa l.length pc)) w wr)) (fun i _ => (l.length - intOf i).toNat)
      case atStart => exact ⟨0, rfl, Nat.zero_le _, G2.out⟩
      case round =>
        clear c22 G2
        obtain ⟨j, rfl, hj, HH⟩ := hrel
        by_cases hlt : j < l.length
        · have hlt' : (j : Int) < l.length := by omega
          obtain ⟨x, hx⟩ : ∃ x, l[j]? = some x := ⟨_, List.getElem?_eq_getElem hlt⟩
          obtain ⟨q, c, e, d0, d1, d2⟩ := pend_cells HH.out.1 j x hx
          injection e with e1 _ e2
          subst e1 e2
          have hok : OkW x := HPW.out x (List.mem_of_getElem? hx)
          have HT : Hid (∀ w1, Below wr.heap.size wr w1 → Calls _ _ _ _ _) := fun w1 b1 => takeBackC (HH.out.1.later b1) x.key (by have := hok.2.1; omega) (ok_tbN OD.out.1 OK.out.now j) OD.out.1 (by have := len_tbN rd (now s) l j; have := len_do s.dur s.pend; rw [HLL.out] at this; unfold now; rw [HLL.out]; unfold now at *; rw [HLL.out] at *; omega)
          have HNX : Hid (∀ w1 w2, Below wr.heap.size wr w1 → Sq B g bn bd (.slice (some ⟨q, 0, none⟩) l.length pc) (tot (tb rd (tbN rd l (now s) j) x.key)) (tb rd (tbN rd l (now s) j) x.key) rd l.length (wcs bd l) s w2 → Kp (Fr g bn bd (.slice (some ⟨q, 0, none⟩) l.length pc)) w1 w2 → Sq B g bn bd (.slice (some ⟨q, 0, none⟩) l.length pc) (tot (tbN rd l (now s) (j + 1))) (tbN rd l (now s) (j + 1)) rd l.length (wcs bd l) s w2 ∧ Kp (Fr g bn bd (.slice (some ⟨q, 0, none⟩) l.length pc)) w w2) := fun w1 w2 b1 m2 k2 => by
            rw [tb_next hx]
            exact ⟨m2, (HH.out.2.trans (Kp.of_below b1)).trans k2⟩
          obtain ⟨f, hf⟩ : ∃ f, fnV bd x.cut = .func (.func f) #[.map (some bd)] #[] := ⟨_, rfl⟩
          obtain ⟨xk, hxk⟩ : ∃ xk, x.key = xk := ⟨_, rfl⟩
          obtain ⟨xd, hxd⟩ : ∃ xd, x.data = xd := ⟨_, rfl⟩
          rw [hf] at d0
          rw [hxk] at d1 HT HNX
          rw [hxd] at d2
          have HB : Hid (∀ o, Below wr.heap.size wr (wr.alloc o)) := fun o => (Below.refl _ wr).alloc (Nat.le_refl _) _
          clear HH hok hx hf hxk hxd
          rw [Nat.mul_comm] at d0 d1 d2
          go_wp2_with (first | (go_at_call 85; refine (HT.out _ (HB.out _)).mono ?_; rintro _ w3 ⟨rfl, m3, k3⟩; have F3 : Hid _ := HNX.out _ _ (HB.out _) m3 k3; clear m3 k3) | go_in)
          go_roundw
          case rel => exact ⟨j + 1, by go_num, by omega, F3.out⟩
          case measure => simp [intOf]; omega
        · have hlt' : ¬ (j : Int) < l.length := by omega
          have hjl : j = l.length := by omega
          subst hjl
          have G3 : Hid (Sq B g bn bd (.slice pa l.length pc) (tot rd) rd rd l.length (wcs bd l) s wr ∧ Kp (Fr g bn bd (.slice pa l.length pc)) w wr) := by
            have h1 := tb_all (keep := keep) (l := l) OK.out.srt
            rw [HRD.out] at h1
            have h2 := HH.out
            have e : now s = l.foldl doW s.dur := by unfold now; rw [HLL.out]
            rw [e, h1] at h2
            exact h2
          have c2 := G3.out.1.row.c2
          have f2 := G3.out.1.row.fz 2
          have Q1 : Hid (Sq B g bn bd (.slice none 0 0) (tot rd) rd rd 0 [] s (wr.setCell ⟨g, 2, none⟩ (.slice none 0 0))) := G3.out.1.pv (World.ownsRow_nil _ _ _ _)
          have f5 := Q1.out.row.fz 5
          have c5 := Q1.out.row.c5
          have Q2 : Hid (Sq B g bn bd (.slice none 0 0) (tot rd) rd rd 0 [] { s with armed := 0 } ((wr.setCell ⟨g, 2, none⟩ (.slice none 0 0)).setCell ⟨g, 5, none⟩ (.int .i64 0))) := Q1.out.st (Q1.out.row.set5 0) (Kp.setCell _ _ _ _ rfl)
          have f6 := Q2.out.row.fz 6
          have c6 := Q2.out.row.c6
          have Q3 : Hid (Sq B g bn bd (.slice none 0 0) (tot rd) rd rd 0 [] { s with armed := 0, off := false } (((wr.setCell ⟨g, 2, none⟩ (.slice none 0 0)).setCell ⟨g, 5, none⟩ (.int .i64 0)).setCell ⟨g, 6, none⟩ (.bool false))) := Q2.out.st (Q2.out.row.set6 false) (Kp.setCell _ _ _ _ rfl)
          have f7 := Q3.out.row.fz 7
          have c7 := Q3.out.row.c7
          have ea : ((s.age + 1 : Nat) : Int) = (s.age : Int) + 1 := by omega
          have Q4 : Hid (Sq B g bn bd (.slice none 0 0) (tot rd) rd rd 0 [] { s with armed := 0, off := false, age := s.age + 1 } ((((wr.setCell ⟨g, 2, none⟩ (.slice none 0 0)).setCell ⟨g, 5, none⟩ (.int .i64 0)).setCell ⟨g, 6, none⟩ (.bool false)).setCell ⟨g, 7, none⟩ (.int .i64 ((s.age : Int) + 1)))) := by
            have := Q3.out.st (Q3.out.row.set7 (s.age + 1)) (Kp.setCell _ _ _ _ rfl)
            rw [ea] at this
            exact this
          have Q5 : Hid (Rn B g bn bd (.slice pa l.length pc) (crashS s keep) w ((((wr.setCell ⟨g, 2, none⟩ (.slice none 0 0)).setCell ⟨g, 5, none⟩ (.int .i64 0)).setCell ⟨g, 6, none⟩ (.bool false)).setCell ⟨g, 7, none⟩ (.int .i64 ((s.age : Int) + 1)))) := by
            have e : crashS s keep = { ({ s with armed := 0, off := false, age := s.age + 1 } : S) with dur := rd, pend := [] } := by unfold crashS; rw [HLL.out, HRD.out]
            rw [e]
            refine ⟨.slice none 0 0, sq_settled Q4.out ?_, (((G3.out.2.trans (fr_g (Kp.setCell _ _ _ _ rfl))).trans (fr_g (Kp.setCell _ _ _ _ rfl))).trans (fr_g (Kp.setCell _ _ _ _ rfl))).trans (fr_g (Kp.setCell _ _ _ _ rfl)), fun k hk => absurd hk (by simp [Value.ownBlock])⟩
            exact ⟨OD.out.1, OD.out.2.1, (by intro x hx; cases hx), OK.out.cap0, OK.out.cap1, Nat.zero_le _, by show s.age + 1 ≤ _; omega, by have := OD.out.2.2; simpa using this⟩
          have hwa : IntKind.i64.wrap ((s.age : Int) + 1) = (s.age : Int) + 1 := by rw [← ea]; exact wrap_is _ (by omega)
          clear HH G3 Q1 Q2 Q3 Q4 ea
          go_wp2
          go_end0
          exact ⟨rfl, Q5.out⟩
end Go.Proofs.YtpcllegjnbeppaaGreat.yn

namespace Go.Proofs.YtpcllegjnbeppaaGreat.yr
open Go.RowKit Go.PlainAid Go.Maps Go.Shelf
open Go.Proofs.YtpcllegjnbeppaaGreat.ca Go.Proofs.YtpcllegjnbeppaaGreat.cb Go.Proofs.YtpcllegjnbeppaaGreat.cp Go.Proofs.YtpcllegjnbeppaaGreat.kp Go.Proofs.YtpcllegjnbeppaaGreat.ka Go.Proofs.YtpcllegjnbeppaaGreat.ya Go.Proofs.YtpcllegjnbeppaaGreat.yb Go.Proofs.YtpcllegjnbeppaaGreat.yc Go.Proofs.YtpcllegjnbeppaaGreat.yd Go.Proofs.YtpcllegjnbeppaaGreat.ye Go.Proofs.YtpcllegjnbeppaaGreat.yf Go.Proofs.YtpcllegjnbeppaaGreat.yg Go.Proofs.YtpcllegjnbeppaaGreat.yi Go.Proofs.YtpcllegjnbeppaaGreat.yj Go.Proofs.YtpcllegjnbeppaaGreat.yk Go.Proofs.YtpcllegjnbeppaaGreat.yl Go.Proofs.YtpcllegjnbeppaaGreat.ym Go.Proofs.YtpcllegjnbeppaaGreat.yn Go.Proofs.YtpcllegjnbeppaaGreat.yo Go.Proofs.YtpcllegjnbeppaaGreat.yp Go.Proofs.YtpcllegjnbeppaaGreat.sb Go.Proofs.YtpcllegjnbeppaaGreat.mc
set_option linter.unusedVariables false
set_option linter.unusedSimpArgs false
theorem kset (w : World) (p o : Nat) (v : Value) : Kp (fun q => q = p) w (w.setCell ⟨p, o, none⟩ v) := Kp.setCell _ _ _ _ rfl
theorem put8 (w : World) (p : Nat) (a0 a1 a2 a3 a4 a5 a6 a7 x0 x1 x2 x3 x4 x5 x6 x7 : Value) (t : TypeId) (h : w.heap[p]? = some (.cells #[a0, a1, a2, a3, a4, a5, a6, a7] t (0, 0))) :
    ∀ W, W = ((((((((w.setCell ⟨p, 0, none⟩ x0).setCell ⟨p, 1, none⟩ x1).setCell ⟨p, 2, none⟩ x2).setCell ⟨p, 3, none⟩ x3).setCell ⟨p, 4, none⟩ x4).setCell ⟨p, 5, none⟩ x5).setCell ⟨p, 6, none⟩ x6).setCell ⟨p, 7, none⟩ x7) → W.heap[p]? = some (.cells #[x0, x1, x2, x3, x4, x5, x6, x7] t (0, 0)) ∧ Kp (fun q => q = p) w W := by
  intro W hW
  obtain ⟨u0_, e0⟩ : ∃ v, v = w.setCell ⟨p, 0, none⟩ x0 := ⟨_, rfl⟩
  rw [← e0] at hW
  have h0 : u0_.heap[p]? = some (.cells #[x0, a1, a2, a3, a4, a5, a6, a7] t (0, 0)) := by rw [e0]; exact heap_setCell_same _ _ 0 _ _ x0 h
  have k0 : Kp (fun q => q = p) w u0_ := by rw [e0]; exact kset _ _ _ _
  clear e0
  obtain ⟨u1_, e1⟩ : ∃ v, v = u0_.setCell ⟨p, 1, none⟩ x1 := ⟨_, rfl⟩
  rw [← e1] at hW
  have h1 : u1_.heap[p]? = some (.cells #[x0, x1, a2, a3, a4, a5, a6, a7] t (0, 0)) := by rw [e1]; exact heap_setCell_same _ _ 1 _ _ x1 h0
  have k1 : Kp (fun q => q = p) u0_ u1_ := by rw [e1]; exact kset _ _ _ _
  clear e1
  obtain ⟨u2_, e2⟩ : ∃ v, v = u1_.setCell ⟨p, 2, none⟩ x2 := ⟨_, rfl⟩
  rw [← e2] at hW
  have h2 : u2_.heap[p]? = some (.cells #[x0, x1, x2, a3, a4, a5, a6, a7] t (0, 0)) := by rw [e2]; exact heap_setCell_same _ _ 2 _ _ x2 h1
  have k2 : Kp (fun q => q = p) u1_ u2_ := by rw [e2]; exact kset _ _ _ _
  clear e2
  obtain ⟨u3_, e3⟩ : ∃ v, v = u2_.setCell ⟨p, 3, none⟩ x3 := ⟨_, rfl⟩
  rw [← e3] at hW
  have h3 : u3_.heap[p]? = some (.cells #[x0, x1, x2, x3, a4, a5, a6, a7] t (0, 0)) := by rw [e3]; exact heap_setCell_same _ _ 3 _ _ x3 h2
  have k3 : Kp (fun q => q = p) u2_ u3_ := by rw [e3]; exact kset _ _ _ _
  clear e3
  obtain ⟨u4_, e4⟩ : ∃ v, v = u3_.setCell ⟨p, 4, none⟩ x4 := ⟨_, rfl⟩
  rw [← e4] at hW
  have h4 : u4_.heap[p]? = some (.cells #[x0, x1, x2, x3, x4, a5, a6, a7] t (0, 0)) := by rw [e4]; exact heap_setCell_same _ _ 4 _ _ x4 h3
  have k4 : Kp (fun q => q = p) u3_ u4_ := by rw [e4]; exact kset _ _ _ _
  clear e4
  obtain ⟨u5_, e5⟩ : ∃ v, v = u4_.setCell ⟨p, 5, none⟩ x5 := ⟨_, rfl⟩
  rw [← e5] at hW
  have h5 : u5_.heap[p]? = some (.cells #[x0, x1, x2, x3, x4, x5, a6, a7] t (0, 0)) := by rw [e5]; exact heap_setCell_same _ _ 5 _ _ x5 h4
  have k5 : Kp (fun q => q = p) u4_ u5_ := by rw [e5]; exact kset _ _ _ _
  clear e5
  obtain ⟨u6_, e6⟩ : ∃ v, v = u5_.setCell ⟨p, 6, none⟩ x6 := ⟨_, rfl⟩
  rw [← e6] at hW
  have h6 : u6_.heap[p]? = some (.cells #[x0, x1, x2, x3, x4, x5, x6, a7] t (0, 0)) := by rw [e6]; exact heap_setCell_same _ _ 6 _ _ x6 h5
  have k6 : Kp (fun q => q = p) u5_ u6_ := by rw [e6]; exact kset _ _ _ _
  clear e6
  have h7 : W.heap[p]? = some (.cells #[x0, x1, x2, x3, x4, x5, x6, x7] t (0, 0)) := by rw [hW]; exact heap_setCell_same _ _ 7 _ _ x7 h6
  have k7 : Kp (fun q => q = p) u6_ W := by rw [hW]; exact kset _ _ _ _
  exact ⟨h7, ((((((k0.trans k1).trans k2).trans k3).trans k4).trans k5).trans k6).trans k7⟩
theorem eight {w : World} {p : Nat} {x0 x1 x2 x3 x4 x5 x6 x7 : Value} {t : TypeId} (h : w.heap[p]? = some (.cells #[x0, x1, x2, x3, x4, x5, x6, x7] t (0, 0))) : w.cell? ⟨p, 0, none⟩ = some x0 ∧ w.cell? ⟨p, 1, none⟩ = some x1 ∧ w.cell? ⟨p, 2, none⟩ = some x2 ∧ w.cell? ⟨p, 3, none⟩ = some x3 ∧ w.cell? ⟨p, 4, none⟩ = some x4 ∧ w.cell? ⟨p, 5, none⟩ = some x5 ∧ w.cell? ⟨p, 6, none⟩ = some x6 ∧ w.cell? ⟨p, 7, none⟩ = some x7 :=
  ⟨cell_of_row _ _ 0 _ _ _ h, cell_of_row _ _ 1 _ _ _ h, cell_of_row _ _ 2 _ _ _ h, cell_of_row _ _ 3 _ _ _ h, cell_of_row _ _ 4 _ _ _ h, cell_of_row _ _ 5 _ _ _ h, cell_of_row _ _ 6 _ _ _ h, cell_of_row _ _ 7 _ _ _ h⟩
theorem froz8 {w : World} {p : Nat} {x0 x1 x2 x3 x4 x5 x6 x7 : Value} {t : TypeId} (h : w.heap[p]? = some (.cells #[x0, x1, x2, x3, x4, x5, x6, x7] t (0, 0))) : w.frozen? ⟨p, 0, none⟩ = false ∧ w.frozen? ⟨p, 1, none⟩ = false ∧ w.frozen? ⟨p, 2, none⟩ = false ∧ w.frozen? ⟨p, 3, none⟩ = false ∧ w.frozen? ⟨p, 4, none⟩ = false ∧ w.frozen? ⟨p, 5, none⟩ = false ∧ w.frozen? ⟨p, 6, none⟩ = false ∧ w.frozen? ⟨p, 7, none⟩ = false :=
  ⟨frozen_of_row _ _ 0 _ _ h, frozen_of_row _ _ 1 _ _ h, frozen_of_row _ _ 2 _ _ h, frozen_of_row _ _ 3 _ _ h, frozen_of_row _ _ 4 _ _ h, frozen_of_row _ _ 5 _ _ h, frozen_of_row _ _ 6 _ _ h, frozen_of_row _ _ 7 _ _ h⟩
def doS (s : S) (kind : Int) (k d : ByteArray) (n : Int) : Int × S := if kind = 1 then putS s k d else if kind = 2 then cutS s k else if kind = 3 then syncS s else if kind = 4 then (0, armS s n) else if kind = 5 then (0, crashS s d) else if kind = 6 then ((getS s k).2, s) else (0, s)
abbrev Z8 : Array Value := #[.string ⟨#[]⟩, .slice none 0 0, .int .i64 0, .int .i64 0, .int .i64 0, .int .i64 0, .bool false, .int .i64 0]
-- the law's own boxes, the call, the answer written: the store's call is what remains
theorem rn_wrap {B g bn bd p : Nat} {pv : Value} {s s' : S} {w W1 w2 W : World} (h : Sr B g bn bd pv s w) (b1 : Below w.heap.size w W1) (r : Rn B g bn bd pv s' W1 w2) (k : Kp (fun q => q = p) w2 W) (hp : w.heap.size ≤ p) (hp2 : p < W1.heap.size) : Rn B g bn bd pv s' w W := by
  obtain ⟨pv2, h2, k2, n2⟩ := r
  have key : ∀ j, Fr g bn bd pv2 j → j ≠ p := by
    rintro j (e | e | e | e) rfl
    · have := (sr_in h j (.inl e)).1; omega
    · have := (sr_in h j (.inr (.inl e))).1; omega
    · have := (sr_in h j (.inr (.inr (.inl e)))).1; omega
    · rcases n2 j e with e | e
      · have := (sr_in h j (.inr (.inr (.inr e)))).1; omega
      · omega
  refine ⟨pv2, sr_keep h2 k (fun j hj e => key j hj e), ⟨k.os.trans (k2.os.trans b1.os), k.tape.trans (k2.tape.trans b1.tape), k.output.trans (k2.output.trans b1.output), Nat.le_trans b1.size (Nat.le_trans k2.size k.size), fun j hj hn => ?_⟩, fun j hj => ?_⟩
  · have hs := b1.size
    have hs2 := k2.size
    rw [k.block j (by omega) (by omega), k2.block j (by omega) hn, b1.block j hj]
  · rcases n2 j hj with e | e
    · exact .inl e
    · exact .inr (Nat.le_trans b1.size e)
theorem rn_cells {B g bn bd p : Nat} {pv : Value} {s s' : S} {w W1 w2 : World} {o : Obj} (h : Sr B g bn bd pv s w) (r : Rn B g bn bd pv s' W1 w2) (hp : w.heap.size ≤ p) (ho : W1.heap[p]? = some o) : w2.heap[p]? = some o := by
  obtain ⟨pv2, h2, k2, n2⟩ := r
  rw [k2.block p (Array.getElem?_eq_some_iff.1 ho).1 (fun e => by have := (sr_in h p e).1; omega)]
  exact ho
end Go.Proofs.YtpcllegjnbeppaaGreat.yr

namespace Go.Proofs.YtpcllegjnbeppaaGreat.ys
open Go.RowKit Go.PlainAid Go.Maps Go.Shelf
open Go.Proofs.YtpcllegjnbeppaaGreat.ca Go.Proofs.YtpcllegjnbeppaaGreat.cb Go.Proofs.YtpcllegjnbeppaaGreat.cp Go.Proofs.YtpcllegjnbeppaaGreat.kp Go.Proofs.YtpcllegjnbeppaaGreat.ka Go.Proofs.YtpcllegjnbeppaaGreat.ya Go.Proofs.YtpcllegjnbeppaaGreat.yb Go.Proofs.YtpcllegjnbeppaaGreat.yc Go.Proofs.YtpcllegjnbeppaaGreat.yd Go.Proofs.YtpcllegjnbeppaaGreat.ye Go.Proofs.YtpcllegjnbeppaaGreat.yf Go.Proofs.YtpcllegjnbeppaaGreat.yg Go.Proofs.YtpcllegjnbeppaaGreat.yi Go.Proofs.YtpcllegjnbeppaaGreat.yj Go.Proofs.YtpcllegjnbeppaaGreat.yk Go.Proofs.YtpcllegjnbeppaaGreat.yl Go.Proofs.YtpcllegjnbeppaaGreat.ym Go.Proofs.YtpcllegjnbeppaaGreat.yn Go.Proofs.YtpcllegjnbeppaaGreat.yo Go.Proofs.YtpcllegjnbeppaaGreat.yp Go.Proofs.YtpcllegjnbeppaaGreat.yr Go.Proofs.YtpcllegjnbeppaaGreat.sb Go.Proofs.YtpcllegjnbeppaaGreat.mc
set_option linter.unusedVariables false
set_option linter.unusedSimpArgs false
end Go.Proofs.YtpcllegjnbeppaaGreat.ys

namespace Go.Proofs.YtpcllegjnbeppaaGreat.yt
open Go.RowKit Go.PlainAid Go.Maps Go.Shelf
open Go.Proofs.YtpcllegjnbeppaaGreat.ca Go.Proofs.YtpcllegjnbeppaaGreat.cb Go.Proofs.YtpcllegjnbeppaaGreat.cp Go.Proofs.YtpcllegjnbeppaaGreat.kp Go.Proofs.YtpcllegjnbeppaaGreat.ka Go.Proofs.YtpcllegjnbeppaaGreat.ya Go.Proofs.YtpcllegjnbeppaaGreat.yb Go.Proofs.YtpcllegjnbeppaaGreat.yc Go.Proofs.YtpcllegjnbeppaaGreat.yd Go.Proofs.YtpcllegjnbeppaaGreat.ye Go.Proofs.YtpcllegjnbeppaaGreat.yf Go.Proofs.YtpcllegjnbeppaaGreat.yg Go.Proofs.YtpcllegjnbeppaaGreat.yh Go.Proofs.YtpcllegjnbeppaaGreat.yi Go.Proofs.YtpcllegjnbeppaaGreat.yj Go.Proofs.YtpcllegjnbeppaaGreat.yk Go.Proofs.YtpcllegjnbeppaaGreat.yl Go.Proofs.YtpcllegjnbeppaaGreat.ym Go.Proofs.YtpcllegjnbeppaaGreat.yn Go.Proofs.YtpcllegjnbeppaaGreat.yo Go.Proofs.YtpcllegjnbeppaaGreat.yp Go.Proofs.YtpcllegjnbeppaaGreat.yr Go.Proofs.YtpcllegjnbeppaaGreat.ys Go.Proofs.YtpcllegjnbeppaaGreat.sb Go.Proofs.YtpcllegjnbeppaaGreat.mc
set_option linter.unusedVariables false
set_option linter.unusedSimpArgs false
-- what a store's records and pending writes weigh
theorem isz_ins (x : Rec) (r : List Rec) : isz (ins x r) = isz r + (x.1.size + x.2.size + 5) := by
  induction r with
  | nil => simp [ins, isz]; omega
  | cons y r ih =>
    unfold ins
    split
    · simp [isz]; omega
    · simp [isz, ih]; omega
theorem isz_del (k : ByteArray) (r : List Rec) : isz (del k r) ≤ isz r := by
  induction r with
  | nil => exact Nat.le_refl _
  | cons y r ih =>
    unfold del at ih ⊢
    rw [List.filter_cons]
    split
    · simp only [isz]; omega
    · simp only [isz]; omega
def wW (x : W) : Nat := x.key.size + x.data.size + 5
def pw : List W → Nat
  | [] => 0
  | x :: l => wW x + pw l
theorem pw_app (l l' : List W) : pw (l ++ l') = pw l + pw l' := by
  induction l with
  | nil => simp [pw]
  | cons x l ih => simp [pw, ih]; omega
theorem isz_doW (r : List Rec) (x : W) : isz (doW r x) ≤ isz r + wW x := by
  unfold doW
  split
  · have := isz_del x.key r; omega
  · have := isz_del x.key r; rw [put, isz_ins]; simp only [wW]; omega
theorem isz_do (r : List Rec) (l : List W) : isz (l.foldl doW r) ≤ isz r + pw l := by
  induction l generalizing r with
  | nil => simp [pw]
  | cons x l ih => have := ih (doW r x); have := isz_doW r x; simp only [List.foldl_cons, pw]; omega
theorem isz_kd (keep : ByteArray) (l : List W) (r : List Rec) (j : Nat) : isz (kdN keep l r j) ≤ isz r + pw (l.take j) := by
  induction j with
  | zero => simp [kdN, pw]
  | succ j ih =>
    unfold kdN
    split
    · rename_i x hx
      rw [List.take_add_one, hx, pw_app]
      have e : pw (some x).toList = wW x := by simp [pw]
      rw [e]
      split
      · have := isz_doW (kdN keep l r j) x; omega
      · omega
    · rename_i hx
      rw [List.take_add_one, hx]
      simpa using ih
def mass (s : S) : Nat := isz s.dur + pw s.pend
theorem mass_spend (s : S) : mass (spendS s).2 = mass s := by unfold mass; rw [dur_spend, pend_spend]
theorem mass_add (s : S) (x : W) : mass (addW s x) = mass s + wW x := by
  show isz s.dur + pw (s.pend ++ [x]) = _
  rw [pw_app]; simp [mass, pw]; omega
structure Opn where
  kind : Int
  key : ByteArray
  data : ByteArray
  n : Int
def doO (s : S) (o : Opn) : S := (doS s o.kind o.key o.data o.n).2
def wt (o : Opn) : Nat := o.key.size + o.data.size + 5
def nums (s : S) : Nat := s.dur.length + s.pend.length
-- one step: how a store grows
theorem grows (s : S) (o : Opn) : mass (doO s o) ≤ mass s + wt o ∧ nums (doO s o) ≤ nums s + 1 ∧ (doO s o).age ≤ s.age + 1 := by
  have same : mass s ≤ mass s + wt o ∧ nums s ≤ nums s + 1 ∧ s.age ≤ s.age + 1 := ⟨by omega, by omega, by omega⟩
  have add : ∀ x : W, wW x ≤ wt o → mass (spendS (addW s x)).2 ≤ mass s + wt o ∧ nums (spendS (addW s x)).2 ≤ nums s + 1 ∧ (spendS (addW s x)).2.age ≤ s.age + 1 := fun x hx => by
    refine ⟨by rw [mass_spend, mass_add]; omega, ?_, by rw [age_spend]; show s.age ≤ _; omega⟩
    unfold nums
    rw [dur_spend, pend_spend]
    show s.dur.length + (s.pend ++ [x]).length ≤ _
    simp
    omega
  unfold doO doS
  split
  · unfold putS
    split
    · exact same
    · split
      · split
        · exact same
        · exact add _ (Nat.le_refl _)
      · exact same
  · split
    · unfold cutS
      split
      · exact same
      · split
        · exact add _ (by simp [wW, wt])
        · exact same
    · split
      · unfold syncS
        split
        · exact same
        · split
          · refine ⟨by rw [mass_spend]; omega, by unfold nums; rw [dur_spend, pend_spend]; omega, by rw [age_spend]; omega⟩
          · refine ⟨?_, ?_, by show (spendS s).2.age ≤ _; rw [age_spend]; omega⟩
            · show isz (now s) + 0 ≤ _
              have := isz_do s.dur s.pend
              unfold now mass; omega
            · show (now s).length + 0 ≤ _
              have := len_do s.dur s.pend
              unfold now nums; omega
      · split
        · unfold armS
          split <;> exact same
        · split
          · refine ⟨?_, ?_, by show s.age + 1 ≤ _; omega⟩
            · show isz (kdN o.data s.pend s.dur s.pend.length) + 0 ≤ _
              have := isz_kd o.data s.pend s.dur s.pend.length
              rw [List.take_length] at this
              unfold mass; omega
            · show (kdN o.data s.pend s.dur s.pend.length).length + 0 ≤ _
              have := len_kd o.data s.pend s.dur s.pend.length
              unfold nums; omega
          · split <;> exact same
def tw : List Opn → Nat
  | [] => 0
  | o :: l => wt o + tw l
theorem tw_at (l : List Opn) (j : Nat) (o : Opn) (h : l[j]? = some o) : tw (l.take (j + 1)) = tw (l.take j) + wt o := by
  induction l generalizing j with
  | nil => simp at h
  | cons p l ih =>
    cases j with
    | zero => simp at h; subst h; simp [tw]
    | succ j => simp only [List.take_succ_cons, tw]; have := ih j (by simpa using h); omega
theorem tw_take (l : List Opn) (j : Nat) : tw (l.take j) ≤ tw l := by
  induction l generalizing j with
  | nil => simp
  | cons p l ih =>
    cases j with
    | zero => simp [tw]
    | succ j => simp only [List.take_succ_cons, tw]; have := ih j; omega
theorem steps (s : S) (l : List Opn) (j : Nat) : mass ((l.take j).foldl doO s) ≤ mass s + tw (l.take j) ∧ nums ((l.take j).foldl doO s) ≤ nums s + j ∧ ((l.take j).foldl doO s).age ≤ s.age + j := by
  induction j with
  | zero => simp [tw]
  | succ j ih =>
    cases hx : l[j]? with
    | none =>
      rw [List.take_add_one, hx]
      simp only [Option.toList_none, List.append_nil]
      omega
    | some o =>
      have h1 := grows ((l.take j).foldl doO s) o
      have h2 := tw_at l j o hx
      rw [h2, List.take_add_one, hx, List.foldl_append]
      show mass (doO ((l.take j).foldl doO s) o) ≤ _ ∧ nums (doO ((l.take j).foldl doO s) o) ≤ _ ∧ (doO ((l.take j).foldl doO s) o).age ≤ _
      omega
end Go.Proofs.YtpcllegjnbeppaaGreat.yt

namespace Go.Proofs.YtpcllegjnbeppaaGreat.yu
open Go.RowKit Go.PlainAid Go.Maps Go.Shelf
open Go.Proofs.YtpcllegjnbeppaaGreat.ca Go.Proofs.YtpcllegjnbeppaaGreat.cb Go.Proofs.YtpcllegjnbeppaaGreat.cp Go.Proofs.YtpcllegjnbeppaaGreat.kp Go.Proofs.YtpcllegjnbeppaaGreat.ka Go.Proofs.YtpcllegjnbeppaaGreat.ya Go.Proofs.YtpcllegjnbeppaaGreat.yb Go.Proofs.YtpcllegjnbeppaaGreat.yc Go.Proofs.YtpcllegjnbeppaaGreat.yd Go.Proofs.YtpcllegjnbeppaaGreat.ye Go.Proofs.YtpcllegjnbeppaaGreat.yf Go.Proofs.YtpcllegjnbeppaaGreat.yg Go.Proofs.YtpcllegjnbeppaaGreat.yo Go.Proofs.YtpcllegjnbeppaaGreat.yp Go.Proofs.YtpcllegjnbeppaaGreat.yr Go.Proofs.YtpcllegjnbeppaaGreat.ys Go.Proofs.YtpcllegjnbeppaaGreat.yt Go.Proofs.YtpcllegjnbeppaaGreat.sb Go.Proofs.YtpcllegjnbeppaaGreat.mc
set_option linter.unusedVariables false
set_option linter.unusedSimpArgs false
-- a script in memory, in a block below B
def OkO (o : Opn) : Prop := o.key.size ≤ 140737488355328 ∧ o.data.size ≤ 140737488355328 ∧ o.n ≤ 9223372036854775807
structure ReadsO (B : Nat) (w : World) (v : Value) (l : List Opn) : Prop where
  form : ∃ a c, v = .slice a l.length c ∧ (l.length = 0 ∨ ∃ b off, a = some ⟨b, off, none⟩ ∧ b < B ∧ ∀ i o, l[i]? = some o → w.cell? ⟨b, off + i * 4, none⟩ = some (.int .i64 o.kind) ∧ w.cell? ⟨b, off + i * 4 + 1, none⟩ = some (.string o.key) ∧ w.cell? ⟨b, off + i * 4 + 2, none⟩ = some (.string o.data) ∧ w.cell? ⟨b, off + i * 4 + 3, none⟩ = some (.int .i64 o.n))
  each : ∀ o ∈ l, OkO o
theorem ReadsO.later {B : Nat} {w w' : World} {v : Value} {l : List Opn} (h : ReadsO B w v l) (hb : Below B w w') : ReadsO B w' v l := by
  obtain ⟨⟨a, c, e, h1⟩, h2⟩ := h
  refine ⟨⟨a, c, e, h1.imp id ?_⟩, h2⟩
  rintro ⟨b, off, e1, e2, h3⟩
  refine ⟨b, off, e1, e2, fun i o ho => ?_⟩
  have key : ∀ j x, w.cell? ⟨b, j, none⟩ = some x → w'.cell? ⟨b, j, none⟩ = some x := fun j x hx => by
    rw [← hx]
    unfold World.cell?
    rw [show (⟨b, j, none⟩ : Addr).block = b from rfl, hb.block b e2]
  obtain ⟨q0, q1, q2, q3⟩ := h3 i o ho
  exact ⟨key _ _ q0, key _ _ q1, key _ _ q2, key _ _ q3⟩
theorem rn_join {B g bn bd : Nat} {pv p1 : Value} {s : S} {w w1 w2 : World} (k1 : Kp (Fr g bn bd pv) w w1) (n1 : ∀ k, some k = p1.ownBlock → some k = pv.ownBlock ∨ w.heap.size ≤ k) (r : Rn B g bn bd p1 s w1 w2) : Rn B g bn bd pv s w w2 := by
  obtain ⟨p2, h2, k2, n2⟩ := r
  refine ⟨p2, h2, ⟨k2.os.trans k1.os, k2.tape.trans k1.tape, k2.output.trans k1.output, Nat.le_trans k1.size k2.size, fun j hj hn => ?_⟩, fun j hj => ?_⟩
  · refine (k2.block j (Nat.lt_of_lt_of_le hj k1.size) ?_).trans (k1.block j hj hn)
    rintro (e | e | e | e)
    · exact hn (.inl e)
    · exact hn (.inr (.inl e))
    · exact hn (.inr (.inr (.inl e)))
    · rcases n1 j e with e | e
      · exact hn (.inr (.inr (.inr e)))
      · omega
  · rcases n2 j hj with e | e
    · exact n1 j e
    · exact .inr (Nat.le_trans k1.size e)
end Go.Proofs.YtpcllegjnbeppaaGreat.yu

namespace Go.Proofs.YtpcllegjnbeppaaGreat.bn
open Go.RowKit Go.PlainAid
open Go.Proofs.YtpcllegjnbeppaaGreat.ca Go.Proofs.YtpcllegjnbeppaaGreat.cp Go.Proofs.YtpcllegjnbeppaaGreat.ka
set_option linter.unusedVariables false

theorem getD_at (xs : List ByteArray) (k : Nat) (h : k < xs.length) : xs.getD k ByteArray.empty = xs[k] := by
  rw [List.getD_eq_getElem?_getD, List.getElem?_eq_getElem h]; rfl
theorem lists_eq {xs ys : List ByteArray} (hl : xs.length = ys.length) (h : ∀ j, j < xs.length → xs.getD j ByteArray.empty = ys.getD j ByteArray.empty) : xs = ys := by
  apply List.ext_getElem hl
  intro j h1 h2
  have := h j h1
  rwa [getD_at _ _ h1, getD_at _ _ h2] at this
theorem beqL (a b : ByteArray) : (a.toList == b.toList) = decide (a = b) := by
  by_cases h : a = b
  · subst h; simp
  · rw [decide_eq_false h, beq_eq_false_iff_ne, ByteArray.toList_eq, ByteArray.toList_eq]
    intro e
    exact h (ByteArray.ext (Array.ext' e))
theorem beqLit (a : ByteArray) (l : List UInt8) : (a.toList == l) = decide (a = ⟨l.toArray⟩) := by
  rw [← beqL, ByteArray.toList_eq, ByteArray.toList_eq]
end Go.Proofs.YtpcllegjnbeppaaGreat.bn

namespace Go.Proofs.YtpcllegjnbeppaaGreat.yv
open Go.RowKit Go.PlainAid Go.Maps Go.Shelf
open Go.Proofs.YtpcllegjnbeppaaGreat.ca Go.Proofs.YtpcllegjnbeppaaGreat.cb Go.Proofs.YtpcllegjnbeppaaGreat.cp Go.Proofs.YtpcllegjnbeppaaGreat.kp Go.Proofs.YtpcllegjnbeppaaGreat.ka Go.Proofs.YtpcllegjnbeppaaGreat.ya Go.Proofs.YtpcllegjnbeppaaGreat.yb Go.Proofs.YtpcllegjnbeppaaGreat.yc Go.Proofs.YtpcllegjnbeppaaGreat.yd Go.Proofs.YtpcllegjnbeppaaGreat.ye Go.Proofs.YtpcllegjnbeppaaGreat.yf Go.Proofs.YtpcllegjnbeppaaGreat.yg Go.Proofs.YtpcllegjnbeppaaGreat.ym Go.Proofs.YtpcllegjnbeppaaGreat.yn Go.Proofs.YtpcllegjnbeppaaGreat.yo Go.Proofs.YtpcllegjnbeppaaGreat.yp Go.Proofs.YtpcllegjnbeppaaGreat.yq Go.Proofs.YtpcllegjnbeppaaGreat.yr Go.Proofs.YtpcllegjnbeppaaGreat.ys Go.Proofs.YtpcllegjnbeppaaGreat.yt Go.Proofs.YtpcllegjnbeppaaGreat.yu Go.Proofs.YtpcllegjnbeppaaGreat.bn Go.Proofs.YtpcllegjnbeppaaGreat.sb Go.Proofs.YtpcllegjnbeppaaGreat.mc
set_option linter.unusedVariables false
set_option linter.unusedSimpArgs false
theorem ReadsO_up {B B' : Nat} {w : World} {v : Value} {l : List Opn} (h : ReadsO B w v l) (hB : B ≤ B') : ReadsO B' w v l := by
  obtain ⟨⟨a, c, e, h1⟩, h2⟩ := h
  refine ⟨⟨a, c, e, h1.imp id ?_⟩, h2⟩
  rintro ⟨b, off, e1, e2, h3⟩
  exact ⟨b, off, e1, by omega, h3⟩
theorem below_dm {B m : Nat} {a w w' : World} (h : Below B a w) (e : w' = w.drewN m) : Below B a w' := by rw [e]; exact below_dN h m
-- a store in memory, its blocks above B, behind whatever was done since w
structure At (B g bn bd : Nat) (s : S) (w w' : World) : Prop where
  ex : ∃ pv, Sr B g bn bd pv s w'
  bl : Below B w w'
theorem At.lat {B g bn bd : Nat} {s : S} {w w1 w2 : World} (h : At B g bn bd s w w1) (hb : Below w1.heap.size w1 w2) (hB : B ≤ w.heap.size) : At B g bn bd s w w2 := by
  obtain ⟨⟨pv, h1⟩, h2⟩ := h
  exact ⟨⟨pv, sr_later h1 hb⟩, h2.trans (hb.mono (Nat.le_trans hB h2.size))⟩
end Go.Proofs.YtpcllegjnbeppaaGreat.yv

namespace Go.Proofs.YtpcllegjnbeppaaGreat.yw
open Go.Maps
open Go.Proofs.YtpcllegjnbeppaaGreat.ya Go.Proofs.YtpcllegjnbeppaaGreat.yb Go.Proofs.YtpcllegjnbeppaaGreat.yc Go.Proofs.YtpcllegjnbeppaaGreat.yd Go.Proofs.YtpcllegjnbeppaaGreat.ye Go.Proofs.YtpcllegjnbeppaaGreat.yf Go.Proofs.YtpcllegjnbeppaaGreat.yi Go.Proofs.YtpcllegjnbeppaaGreat.yk Go.Proofs.YtpcllegjnbeppaaGreat.yl Go.Proofs.YtpcllegjnbeppaaGreat.ym Go.Proofs.YtpcllegjnbeppaaGreat.yr Go.Proofs.YtpcllegjnbeppaaGreat.yt
set_option linter.unusedVariables false
set_option linter.unusedSimpArgs false
-- a record that is durable, and that no pending write touches
structure Held (k d : ByteArray) (s : S) : Prop where
  dur : rget k s.dur = some d
  pend : ∀ x ∈ s.pend, x.key ≠ k
  srt : Srt s.dur
theorem Held.now {k d : ByteArray} {s : S} (h : Held k d s) : rget k (now s) = some d := by
  unfold ye.now
  rw [get_do h.srt h.pend]
  exact h.dur
theorem held_spend {k d : ByteArray} {s : S} (h : Held k d s) : Held k d (spendS s).2 := ⟨by rw [dur_spend]; exact h.dur, by rw [pend_spend]; exact h.pend, by rw [dur_spend]; exact h.srt⟩
theorem held_add {k d : ByteArray} {s : S} {x : W} (h : Held k d s) (hx : x.key ≠ k) : Held k d (addW s x) := by
  refine ⟨h.dur, fun y hy => ?_, h.srt⟩
  rcases List.mem_append.1 hy with hy | hy
  · exact h.pend y hy
  · rw [List.mem_singleton.1 hy]; exact hx
theorem held_do {k d : ByteArray} {s : S} (o : Opn) (h : Held k d s) (hn : (o.kind = 1 ∨ o.kind = 2) → o.key ≠ k) : Held k d (doO s o) := by
  unfold doO doS
  split
  · rename_i e
    unfold putS
    split
    · exact h
    · split
      · split
        · exact h
        · exact held_spend (held_add h (hn (.inl e)))
      · exact h
  · split
    · rename_i e
      unfold cutS
      split
      · exact h
      · split
        · exact held_spend (held_add h (hn (.inr e)))
        · exact h
    · split
      · unfold syncS
        split
        · exact h
        · split
          · exact held_spend h
          · exact ⟨h.now, fun x hx => (by cases hx), srt_do h.srt⟩
      · split
        · unfold armS
          split
          · exact h
          · exact ⟨h.dur, h.pend, h.srt⟩
        · split
          · exact ⟨(get_kd h.srt h.pend _).trans h.dur, fun x hx => (by cases hx), srt_kd h.srt _⟩
          · split <;> exact h
-- what was put and synced is held
theorem held_put {k d : ByteArray} {s : S} (hp : s.pend = []) (hs : Srt s.dur) (h1 : (putS s k d).1 = 0) (h2 : (syncS (putS s k d).2).1 = 0) : Held k d (syncS (putS s k d).2).2 := by
  have e : putS s k d = spendS (addW s ⟨false, k, d⟩) := by
    unfold putS at h1 ⊢
    split
    · rename_i h; rw [if_pos h] at h1; exact absurd h1 h
    · rename_i h
      rw [if_neg h] at h1
      split
      · rename_i h'
        rw [if_pos h'] at h1
        split
        · rename_i h''; rw [if_pos h''] at h1; exact absurd h1 (by simp)
        · rfl
      · rename_i h'; rw [if_neg h'] at h1; exact absurd h1 (by simp)
  rw [e] at h2 ⊢
  have hnow : ye.now (spendS (addW s ⟨false, k, d⟩)).2 = put k d s.dur := by
    rw [now_spend, now_add]
    unfold ye.now
    rw [hp]
    rfl
  unfold syncS at h2 ⊢
  split
  · rename_i h; rw [if_pos h] at h2; exact absurd h2 (by simp)
  · rename_i h
    rw [if_neg h] at h2
    split
    · rename_i h'; rw [if_pos h'] at h2; exact absurd h2 h'
    · exact ⟨by show rget k (ye.now (spendS (addW s ⟨false, k, d⟩)).2) = _; rw [hnow]; exact get_put_same hs, fun x hx => (by cases hx), by show Srt (ye.now (spendS (addW s ⟨false, k, d⟩)).2); rw [hnow]; exact srt_put hs⟩
end Go.Proofs.YtpcllegjnbeppaaGreat.yw

namespace Go.Proofs.YtpcllegjnbeppaaGreat.yx
open Go.RowKit Go.PlainAid Go.Maps Go.Shelf
open Go.Proofs.YtpcllegjnbeppaaGreat.ca Go.Proofs.YtpcllegjnbeppaaGreat.cb Go.Proofs.YtpcllegjnbeppaaGreat.cp Go.Proofs.YtpcllegjnbeppaaGreat.kp Go.Proofs.YtpcllegjnbeppaaGreat.ka Go.Proofs.YtpcllegjnbeppaaGreat.ya Go.Proofs.YtpcllegjnbeppaaGreat.yb Go.Proofs.YtpcllegjnbeppaaGreat.yc Go.Proofs.YtpcllegjnbeppaaGreat.yd Go.Proofs.YtpcllegjnbeppaaGreat.ye Go.Proofs.YtpcllegjnbeppaaGreat.yf Go.Proofs.YtpcllegjnbeppaaGreat.yg Go.Proofs.YtpcllegjnbeppaaGreat.yk Go.Proofs.YtpcllegjnbeppaaGreat.yl Go.Proofs.YtpcllegjnbeppaaGreat.ym Go.Proofs.YtpcllegjnbeppaaGreat.yn Go.Proofs.YtpcllegjnbeppaaGreat.yo Go.Proofs.YtpcllegjnbeppaaGreat.yp Go.Proofs.YtpcllegjnbeppaaGreat.yq Go.Proofs.YtpcllegjnbeppaaGreat.yr Go.Proofs.YtpcllegjnbeppaaGreat.ys Go.Proofs.YtpcllegjnbeppaaGreat.yt Go.Proofs.YtpcllegjnbeppaaGreat.yu Go.Proofs.YtpcllegjnbeppaaGreat.yv Go.Proofs.YtpcllegjnbeppaaGreat.yw Go.Proofs.YtpcllegjnbeppaaGreat.bn Go.Proofs.YtpcllegjnbeppaaGreat.sb Go.Proofs.YtpcllegjnbeppaaGreat.mc
set_option linter.unusedVariables false
set_option linter.unusedSimpArgs false
theorem at_rn {B g bn bd : Nat} {s s' : S} {pv : Value} {w0 w1 w2 : World} (h : At B g bn bd s w0 w1) (h5 : Sr B g bn bd pv s w1) (hB : B ≤ w0.heap.size) (r : Rn B g bn bd pv s' w1 w2) : At B g bn bd s' w0 w2 := by
  have hb := Rn.below h5 r (Nat.le_trans hB h.bl.size)
  obtain ⟨p, h7, _, _⟩ := r
  exact ⟨⟨p, h7⟩, h.bl.trans hb⟩
theorem aCrash {B g bn bd : Nat} {s : S} {w0 w1 : World} (k : ByteArray) (h : At B g bn bd s w0 w1) (hB : B ≤ w0.heap.size) (hk : k.size ≤ 140737488355328) (ha : s.age < 4398046511104) : Calls Tryz.prog 41 #[.pointer (some ⟨g, 0, none⟩), .string k] w1 fun e w' => e = .returned (.tuple #[]) ∧ At B g bn bd (crashS s k) w0 w' := by
  obtain ⟨pv, h5⟩ := h.ex
  refine (crashC k h5 hk ha).mono ?_
  rintro e w' ⟨rfl, r⟩
  exact ⟨rfl, at_rn h h5 hB r⟩
theorem aPut {B g bn bd : Nat} {s : S} {w0 w1 : World} (k d : ByteArray) (h : At B g bn bd s w0 w1) (hB : B ≤ w0.heap.size) (hk : k.size ≤ 140737488355328) (hd : d.size ≤ 140737488355328) (hn : nums s + 1 < 3518437208883) : Calls Tryz.prog 37 #[.pointer (some ⟨g, 0, none⟩), .string k, .string d] w1 fun e w' => e = .returned (.int .i64 (putS s k d).1) ∧ At B g bn bd (putS s k d).2 w0 w' := by
  obtain ⟨pv, h5⟩ := h.ex
  refine (putC k d h5 hk hd hn (Nat.le_trans hB h.bl.size)).mono ?_
  rintro e w' ⟨rfl, r⟩
  exact ⟨rfl, at_rn h h5 hB r⟩
theorem aSync {B g bn bd : Nat} {s : S} {w0 w1 : World} (h : At B g bn bd s w0 w1) (hB : B ≤ w0.heap.size) : Calls Tryz.prog 19 #[.pointer (some ⟨g, 0, none⟩)] w1 fun e w' => e = .returned (.int .i64 (syncS s).1) ∧ At B g bn bd (syncS s).2 w0 w' := by
  obtain ⟨pv, h5⟩ := h.ex
  refine (syncC h5 (Nat.le_trans hB h.bl.size)).mono ?_
  rintro e w' ⟨rfl, r⟩
  exact ⟨rfl, at_rn h h5 hB r⟩
-- a record that is held is answered, unless the power is off
theorem aGet {B g bn bd : Nat} {s : S} {w0 w1 : World} {k d : ByteArray} (h : At B g bn bd s w0 w1) (hB : B ≤ w0.heap.size) (hh : Held k d s) : Calls Tryz.prog 60 #[.pointer (some ⟨g, 0, none⟩), .string k] w1 fun e w' => e = .returned (.tuple #[.string (if s.off then ByteArray.empty else d), .int .i64 (if s.off then 124 else 0)]) ∧ At B g bn bd s w0 w' := by
  obtain ⟨pv, h5⟩ := h.ex
  have h6 := h5.ok.dur.get hh.dur
  have e : getS s k = (if s.off then ByteArray.empty else d, if s.off then 124 else 0) := by
    unfold getS refS
    cases s.off with
    | true => rfl
    | false =>
      simp only [Bool.false_eq_true, if_false]
      have e0 : (if 1 ≤ k.size ∧ k.size ≤ 64 then (0 : Int) else 120) = 0 := if_pos ⟨h6.1, h6.2.1⟩
      rw [e0, if_neg (by simp), hh.now]
      rfl
  have C := getC k h5 (by omega)
  rw [e] at C
  refine C.mono ?_
  rintro e w' ⟨rfl, b⟩
  exact ⟨rfl, h.lat b hB⟩
theorem aDown {B g bn bd : Nat} {s : S} {w0 w1 : World} (h : At B g bn bd s w0 w1) : Calls Tryz.prog 13 #[.pointer (some ⟨g, 0, none⟩)] w1 fun e w' => e = .returned (.bool s.off) ∧ w' = w1 := by
  obtain ⟨pv, h5⟩ := h.ex
  exact downC h5.row
end Go.Proofs.YtpcllegjnbeppaaGreat.yx

namespace Go.Proofs.YtpcllegjnbeppaaGreat.za
open Go.RowKit Go.PlainAid Go.Maps Go.Shelf
open Go.Proofs.YtpcllegjnbeppaaGreat.ca Go.Proofs.YtpcllegjnbeppaaGreat.cb Go.Proofs.YtpcllegjnbeppaaGreat.cp Go.Proofs.YtpcllegjnbeppaaGreat.kp Go.Proofs.YtpcllegjnbeppaaGreat.ka Go.Proofs.YtpcllegjnbeppaaGreat.ya Go.Proofs.YtpcllegjnbeppaaGreat.yb Go.Proofs.YtpcllegjnbeppaaGreat.yc Go.Proofs.YtpcllegjnbeppaaGreat.yd Go.Proofs.YtpcllegjnbeppaaGreat.ye Go.Proofs.YtpcllegjnbeppaaGreat.yf Go.Proofs.YtpcllegjnbeppaaGreat.yg Go.Proofs.YtpcllegjnbeppaaGreat.yi Go.Proofs.YtpcllegjnbeppaaGreat.yk Go.Proofs.YtpcllegjnbeppaaGreat.yl Go.Proofs.YtpcllegjnbeppaaGreat.ym Go.Proofs.YtpcllegjnbeppaaGreat.yn Go.Proofs.YtpcllegjnbeppaaGreat.yo Go.Proofs.YtpcllegjnbeppaaGreat.yp Go.Proofs.YtpcllegjnbeppaaGreat.yq Go.Proofs.YtpcllegjnbeppaaGreat.yr Go.Proofs.YtpcllegjnbeppaaGreat.ys Go.Proofs.YtpcllegjnbeppaaGreat.yt Go.Proofs.YtpcllegjnbeppaaGreat.yu Go.Proofs.YtpcllegjnbeppaaGreat.yv Go.Proofs.YtpcllegjnbeppaaGreat.yw Go.Proofs.YtpcllegjnbeppaaGreat.yx Go.Proofs.YtpcllegjnbeppaaGreat.sb Go.Proofs.YtpcllegjnbeppaaGreat.mc
set_option linter.unusedVariables false
set_option linter.unusedSimpArgs false
theorem isz_tot (r : List Rec) : isz r ≤ 1 + tot r := by
  induction r with
  | nil => simp [isz, tot]
  | cons p r ih => simp only [isz, tot, cnt]; omega
-- as long as no power is cut
structure Rm (c : Int) (s : S) : Prop where
  off : s.off = false
  arm : s.armed = 0
  cap : s.cap = c
  tn : (tot (now s) : Int) ≤ c
  td : (tot s.dur : Int) ≤ c
theorem spend_not {s : S} (h : s.armed = 0) : spendS s = (0, s) := by unfold spendS; rw [if_pos h]
theorem rm_do {c : Int} {s : S} (h : Rm c s) (hs : Srt s.dur) (kind : Int) (k d : ByteArray) (n : Int) (h4 : kind ≠ 4) (h5 : kind ≠ 5) : Rm c (doS s kind k d n).2 ∧ ((doS s kind k d n).1 ≠ 0 → tot (now (doS s kind k d n).2) = tot (now s)) := by
  have hsn : Srt (now s) := srt_do hs
  unfold doS
  by_cases h1 : kind = 1
  · rw [if_pos h1]
    unfold putS
    split
    · exact ⟨h, fun _ => rfl⟩
    · split
      · split
        · exact ⟨h, fun _ => rfl⟩
        · rename_i hx
          rw [spend_not (show (addW s ⟨false, k, d⟩).armed = 0 from h.arm)]
          refine ⟨⟨h.off, h.arm, h.cap, ?_, h.td⟩, fun e => absurd rfl e⟩
          rw [now_add]
          show ((tot (put k d (now s)) : Nat) : Int) ≤ c
          have h6 := h.tn
          have h7 := h.cap
          have h8 : ¬ (s.cap < (tot (put k d (now s)) : Nat) ∧ tot (now s) < tot (put k d (now s))) := hx
          omega
      · exact ⟨h, fun _ => rfl⟩
  · rw [if_neg h1]
    by_cases h2 : kind = 2
    · rw [if_pos h2]
      unfold cutS
      split
      · exact ⟨h, fun _ => rfl⟩
      · split
        · rw [spend_not (show (addW s ⟨true, k, ByteArray.empty⟩).armed = 0 from h.arm)]
          refine ⟨⟨h.off, h.arm, h.cap, ?_, h.td⟩, fun e => absurd rfl e⟩
          rw [now_add]
          show ((tot (del k (now s)) : Nat) : Int) ≤ c
          have h6 := tot_del k (now s) hsn
          have h7 := h.tn
          omega
        · exact ⟨h, fun _ => rfl⟩
    · rw [if_neg h2]
      by_cases h3 : kind = 3
      · rw [if_pos h3]
        unfold syncS
        rw [if_neg (by simp [h.off]), if_neg (by simp [spend_not h.arm]), spend_not h.arm]
        exact ⟨⟨h.off, h.arm, h.cap, h.tn, h.tn⟩, fun e => absurd rfl e⟩
      · rw [if_neg h3, if_neg h4, if_neg h5]
        split
        · exact ⟨h, fun _ => rfl⟩
        · exact ⟨h, fun _ => rfl⟩
theorem keys_all (r : List Rec) : keysL ⟨#[]⟩ r = r.map (·.1) := by
  unfold keysL
  have : (fun p : Rec => Lib.hasPrefix (bs p.1) (bs ⟨#[]⟩)) = fun _ => true := by
    funext p
    show List.isPrefixOf [] _ = true
    simp
  rw [this, List.filter_eq_self.2 (fun _ _ => rfl)]
theorem tot_take (r : List Rec) (j : Nat) (p : Rec) (h : r[j]? = some p) : tot (r.take (j + 1)) = tot (r.take j) + cnt p := by
  induction r generalizing j with
  | nil => simp at h
  | cons q r ih =>
    cases j with
    | zero => simp at h; subst h; simp [tot]
    | succ j =>
      simp at h
      simp only [List.take_succ_cons, tot]
      rw [ih j h]; omega
theorem tot_take_le (r : List Rec) (j : Nat) : tot (r.take j) ≤ tot r := by
  induction r generalizing j with
  | nil => simp
  | cons q r ih =>
    cases j with
    | zero => simp [tot]
    | succ j => simp only [List.take_succ_cons, tot]; have := ih j; omega
theorem bytes_is (l m : List UInt8) : Op.bytesLess l m = bytesBefore l m := by
  induction l generalizing m with
  | nil => cases m <;> rfl
  | cons x l ih =>
    cases m with
    | nil => rfl
    | cons y m => show (decide (x < y) || (x == y && Op.bytesLess l m)) = _; rw [ih]; rfl
theorem less_of {a b : ByteArray} (h : lt a b = true) : Op.bytesLess a.toList b.toList = true ∧ (b.toList == a.toList) = false ∧ Op.bytesLess b.toList a.toList = false := by
  refine ⟨?_, ?_, ?_⟩
  · rw [bytes_is, ByteArray.toList_eq, ByteArray.toList_eq]; exact h
  · rw [ByteArray.toList_eq, ByteArray.toList_eq, beq_eq_false_iff_ne]
    intro e
    exact lt_ne h (bs_inj e).symm
  · rw [bytes_is, ByteArray.toList_eq, ByteArray.toList_eq]; exact lt_asym h
theorem below_dN {B : Nat} {w w' : World} (h : Below B w w') (n : Nat) : Below B w (w'.drewN n) := ⟨h.os, h.tape, h.output, h.size, h.block⟩
theorem ops_at {B : Nat} {w : World} {va : Option Addr} {vc : Nat} {l : List Opn} (h : ReadsO B w (.slice va l.length vc) l) (j : Nat) (o : Opn) (ho : l[j]? = some o) (hj : j < l.length) : ∃ b off, va = some ⟨b, off, none⟩ ∧ w.cell? ⟨b, off + j * 4, none⟩ = some (.int .i64 o.kind) ∧ w.cell? ⟨b, off + j * 4 + 1, none⟩ = some (.string o.key) ∧ w.cell? ⟨b, off + j * 4 + 2, none⟩ = some (.string o.data) ∧ w.cell? ⟨b, off + j * 4 + 3, none⟩ = some (.int .i64 o.n) ∧ OkO o := by
  obtain ⟨⟨a', c', e', h1⟩, hev⟩ := h
  injection e' with e1 _ e2
  subst e1 e2
  rcases h1 with h1 | ⟨b, off, rfl, _, hc⟩
  · omega
  · obtain ⟨d0, d1, d2, d3⟩ := hc j o ho
    exact ⟨b, off, rfl, d0, d1, d2, d3, hev o (List.mem_of_getElem? ho)⟩
end Go.Proofs.YtpcllegjnbeppaaGreat.za

namespace Go.Proofs.YtpcllegjnbeppaaGreat.ze
open Go.RowKit Go.PlainAid Go.Maps Go.Shelf
open Go.Proofs.YtpcllegjnbeppaaGreat.na Go.Proofs.YtpcllegjnbeppaaGreat.ya Go.Proofs.YtpcllegjnbeppaaGreat.yb Go.Proofs.YtpcllegjnbeppaaGreat.yc Go.Proofs.YtpcllegjnbeppaaGreat.yo Go.Proofs.YtpcllegjnbeppaaGreat.yp Go.Proofs.YtpcllegjnbeppaaGreat.za
set_option linter.unusedVariables false
set_option linter.unusedSimpArgs false
theorem or_i64 (v c : Int) (h0 : 0 ≤ v) (h1 : v < 16777216) (c0 : 0 ≤ c) (c1 : c ≤ 255) : bits .or .i64 (v * 256) c = v * 256 + c := by
  obtain ⟨A, rfl⟩ := Int.eq_ofNat_of_zero_le h0
  obtain ⟨C, rfl⟩ := Int.eq_ofNat_of_zero_le c0
  have e1 : ((A : Int) * 256) = ((A * 256 : Nat) : Int) := by omega
  rw [e1]
  show IntKind.i64.wrap ((BitVec.ofInt 64 ((A * 256 : Nat) : Int) ||| BitVec.ofInt 64 (C : Int)).toNat : Nat) = _
  have h : A * 256 ||| C = 2 ^ 8 * A + C := by
    rw [Nat.two_pow_add_eq_or_of_lt (by omega)]
    congr 1
    omega
  rw [BitVec.toNat_or, ofInt_u64 (A * 256) (by omega), ofInt_u64 C (by omega), h, IntKind.wrap_i64]
  omega
-- pieces of texts
theorem bs_ext (t : ByteArray) (i j : Nat) : bs (t.extract i j) = ((bs t).drop i).take (j - i) := by
  unfold bs
  rw [ByteArray.data_extract]
  simp [List.extract_eq_take_drop]
theorem bt_bs (t : ByteArray) (k : Nat) (u : UInt8) (h : (bs t)[k]? = some u) : bt t k = u.toNat := by
  unfold bs at h
  have hk : k < t.size := by
    have := (List.getElem?_eq_some_iff.1 h).1
    simpa using this
  rw [← get_bt t k hk]
  have : t[k] = u := by
    obtain ⟨h1, h2⟩ := List.getElem?_eq_some_iff.1 h
    rw [← h2]; rfl
  rw [this]
def rp (t : ByteArray) (nb : Nat) : ByteArray × ByteArray × Bool :=
  if t.size < nb then (ByteArray.empty, ByteArray.empty, false)
  else if ((t.extract nb t.size).size : Int) < beR t 0 nb then (ByteArray.empty, ByteArray.empty, false)
  else ((t.extract nb t.size).extract 0 (beR t 0 nb).toNat, (t.extract nb t.size).extract (beR t 0 nb).toNat (t.extract nb t.size).size, true)
end Go.Proofs.YtpcllegjnbeppaaGreat.ze

namespace Go.Proofs.YtpcllegjnbeppaaGreat.zf
open Go.RowKit Go.PlainAid Go.Maps Go.Shelf
open Go.Proofs.YtpcllegjnbeppaaGreat.sh Go.Proofs.YtpcllegjnbeppaaGreat.ca Go.Proofs.YtpcllegjnbeppaaGreat.cb Go.Proofs.YtpcllegjnbeppaaGreat.cp Go.Proofs.YtpcllegjnbeppaaGreat.ka Go.Proofs.YtpcllegjnbeppaaGreat.kp Go.Proofs.YtpcllegjnbeppaaGreat.na Go.Proofs.YtpcllegjnbeppaaGreat.ya Go.Proofs.YtpcllegjnbeppaaGreat.yb Go.Proofs.YtpcllegjnbeppaaGreat.yc Go.Proofs.YtpcllegjnbeppaaGreat.ye Go.Proofs.YtpcllegjnbeppaaGreat.yf Go.Proofs.YtpcllegjnbeppaaGreat.yg Go.Proofs.YtpcllegjnbeppaaGreat.yi Go.Proofs.YtpcllegjnbeppaaGreat.yo Go.Proofs.YtpcllegjnbeppaaGreat.yp Go.Proofs.YtpcllegjnbeppaaGreat.za Go.Proofs.YtpcllegjnbeppaaGreat.ze
set_option linter.unusedVariables false
set_option linter.unusedSimpArgs false
def tx (l : List UInt8) : ByteArray := ⟨l.toArray⟩
theorem bs_tx (l : List UInt8) : bs (tx l) = l := by simp [bs, tx]
theorem tx_bs (a : ByteArray) : tx (bs a) = a := bs_inj (bs_tx _)
theorem tx_size (l : List UInt8) : (tx l).size = l.length := by rw [← bs_len, bs_tx]
theorem beR_one (t : ByteArray) : beR t 0 1 = bt t 0 := by show 0 * 256 + bt t (0 + 0) = _; simp
theorem beR_four (t : ByteArray) : beR t 0 4 = ((bt t 0 * 256 + bt t 1) * 256 + bt t 2) * 256 + bt t 3 := by
  show (((0 * 256 + bt t (0 + 0)) * 256 + bt t (0 + 1)) * 256 + bt t (0 + 2)) * 256 + bt t (0 + 3) = _
  simp
theorem rp_of (T x : ByteArray) (nb : Nat) (Y : List UInt8) (pre : List UInt8) (hp : pre.length = nb) (h : bs T = pre ++ (bs x ++ Y)) (hv : beR T 0 nb = (x.size : Int)) : rp T nb = (x, tx Y, true) := by
  have hz : T.size = nb + (x.size + Y.length) := by rw [← bs_len, h]; simp [hp, bs_len]
  have hu : T.extract nb T.size = tx (bs x ++ Y) := by
    apply bs_inj
    rw [bs_ext, h, bs_tx, hz, List.drop_append_of_le_length (by omega), ← hp, List.drop_length]
    rw [List.take_of_length_le]
    · simp
    · simp [bs_len]
  unfold rp
  rw [if_neg (by omega), hu, hv, tx_size]
  have hl : (bs x ++ Y).length = x.size + Y.length := by simp [bs_len]
  rw [if_neg (by rw [hl]; omega), hl]
  have h1 : (tx (bs x ++ Y)).extract 0 ((x.size : Int)).toNat = x := by
    apply bs_inj
    rw [bs_ext, bs_tx]
    have : ((x.size : Int)).toNat - 0 = (bs x).length := by rw [bs_len]; omega
    rw [this, List.drop_zero, List.take_left]
  have h2 : (tx (bs x ++ Y)).extract ((x.size : Int)).toNat (x.size + Y.length) = tx Y := by
    apply bs_inj
    rw [bs_ext, bs_tx, bs_tx]
    have : ((x.size : Int)).toNat = (bs x).length := by rw [bs_len]; omega
    rw [this, List.drop_left, bs_len, List.take_of_length_le (by omega)]
  rw [h1, h2]
theorem rp1 (T x : ByteArray) (Y : List UInt8) (hx : x.size < 256) (h : bs T = beN 1 x.size 1 ++ (bs x ++ Y)) : rp T 1 = (x, tx Y, true) := by
  refine rp_of T x 1 Y _ (beN_len _ _ _) h ?_
  have e : beN 1 x.size 1 = [UInt8.ofNat x.size] := by simp [beN]
  have h0 := bt_bs T 0 (UInt8.ofNat x.size) (by rw [h, e]; rfl)
  rw [beR_one, h0]
  simp
  omega
theorem rp4 (T x : ByteArray) (Y : List UInt8) (hx : x.size < 4294967296) (h : bs T = beN 4 x.size 4 ++ (bs x ++ Y)) : rp T 4 = (x, tx Y, true) := by
  refine rp_of T x 4 Y _ (beN_len _ _ _) h ?_
  have e : beN 4 x.size 4 = [UInt8.ofNat (x.size / 16777216), UInt8.ofNat (x.size / 65536), UInt8.ofNat (x.size / 256), UInt8.ofNat x.size] := by simp [beN]
  have h0 := bt_bs T 0 (UInt8.ofNat (x.size / 16777216)) (by rw [h, e]; rfl)
  have h1 := bt_bs T 1 (UInt8.ofNat (x.size / 65536)) (by rw [h, e]; rfl)
  have h2 := bt_bs T 2 (UInt8.ofNat (x.size / 256)) (by rw [h, e]; rfl)
  have h3 := bt_bs T 3 (UInt8.ofNat x.size) (by rw [h, e]; rfl)
  rw [beR_four, h0, h1, h2, h3]
  simp
  omega
-- the records of an image, one behind the other
theorem ins_last (x : Rec) (l : List Rec) (h : ∀ y ∈ l, lt y.1 x.1 = true) : ins x l = l ++ [x] := by
  induction l with
  | nil => rfl
  | cons y l ih =>
    have h1 := h y (by simp)
    have h2 : lt x.1 y.1 = false := lt_asym h1
    unfold ins
    rw [h2, ih (fun z hz => h z (by simp [hz]))]
    rfl
theorem srt_before {r : List Rec} (h : Srt r) {j : Nat} {p : Rec} (hp : r[j]? = some p) : ∀ y ∈ r.take j, lt y.1 p.1 = true := by
  intro y hy
  obtain ⟨i, hi, e⟩ := List.mem_iff_getElem.1 hy
  obtain ⟨hj, e2⟩ := List.getElem?_eq_some_iff.1 hp
  simp only [List.length_take] at hi
  rw [List.getElem_take] at e
  have := List.pairwise_iff_getElem.1 h i j (by omega) hj (by omega)
  rw [e, e2] at this
  exact this
theorem put_take {r : List Rec} (h : Srt r) {j : Nat} {p : Rec} (hp : r[j]? = some p) : put p.1 p.2 (r.take j) = r.take (j + 1) := by
  have hb := srt_before h hp
  have hd : del p.1 (r.take j) = r.take j := del_none (get_none.2 (fun y hy => lt_ne (hb y hy)))
  unfold put
  rw [hd, ins_last _ _ hb, List.take_add_one, hp]
  rfl
def recsB (r : List Rec) : List UInt8 := r.flatMap recB
theorem recs_at {r : List Rec} {j : Nat} {p : Rec} (hp : r[j]? = some p) : recsB (r.drop j) = beN 1 p.1.size 1 ++ (bs p.1 ++ (beN 4 p.2.size 4 ++ (bs p.2 ++ recsB (r.drop (j + 1))))) := by
  obtain ⟨hj, e⟩ := List.getElem?_eq_some_iff.1 hp
  rw [List.drop_eq_getElem_cons hj, e]
  simp [recsB, recB, List.append_assoc]
theorem recs_len (r : List Rec) (j : Nat) : (recsB (r.drop j)).length ≤ isz r := by
  induction r generalizing j with
  | nil => simp [recsB]
  | cons p r ih =>
    cases j with
    | zero =>
      have := ih 0
      simp only [List.drop_zero, recsB, List.flatMap_cons, List.length_append, recB_len, isz] at this ⊢
      omega
    | succ j => have := ih j; simp only [List.drop_succ_cons, isz]; omega
theorem len_isz (r : List Rec) : r.length < isz r := by
  induction r with
  | nil => simp [isz]
  | cons p r ih => simp only [List.length_cons, isz]; omega
def lastK (r : List Rec) : Nat → ByteArray
  | 0 => ⟨#[]⟩
  | j + 1 => ((r[j]?).map (·.1)).getD ⟨#[]⟩
def lenV : Value → Nat
  | .string s => s.size
  | _ => 0
theorem above_last {r : List Rec} (h : Srt r) (hok : OkR r) {j : Nat} {p : Rec} (hp : r[j]? = some p) : Op.bytesLess p.1.toList (lastK r j).toList = false ∧ (p.1.toList == (lastK r j).toList) = false := by
  cases j with
  | zero =>
    have hz := hok p (List.mem_of_getElem? hp)
    have he : (lastK r 0).toList = [] := by show (⟨#[]⟩ : ByteArray).toList = []; rw [ByteArray.toList_eq]
    have hn : p.1.toList ≠ [] := by
      intro e
      have : (bs p.1).length = 0 := by unfold bs; rw [← ByteArray.toList_eq, e]; rfl
      rw [bs_len] at this
      omega
    rw [he]
    refine ⟨?_, ?_⟩
    · cases p.1.toList <;> rfl
    · rw [beq_eq_false_iff_ne]; exact hn
  | succ j =>
    obtain ⟨hj, e⟩ := List.getElem?_eq_some_iff.1 hp
    have hq : r[j]? = some r[j] := List.getElem?_eq_getElem (by omega)
    have hl : lastK r (j + 1) = r[j].1 := by show ((r[j]?).map (·.1)).getD ⟨#[]⟩ = _; rw [hq]; rfl
    have := List.pairwise_iff_getElem.1 h j (j + 1) (by omega) hj (by omega)
    rw [e] at this
    rw [hl]
    obtain ⟨_, h2, h3⟩ := less_of this
    exact ⟨h3, h2⟩
end Go.Proofs.YtpcllegjnbeppaaGreat.zf

namespace Go.Proofs.YtpcllegjnbeppaaGreat.xa
open Go.RowKit Go.PlainAid Go.Maps Go.Shelf
open Go.Proofs.YtpcllegjnbeppaaGreat.ca Go.Proofs.YtpcllegjnbeppaaGreat.cb Go.Proofs.YtpcllegjnbeppaaGreat.cp Go.Proofs.YtpcllegjnbeppaaGreat.kp Go.Proofs.YtpcllegjnbeppaaGreat.ka Go.Proofs.YtpcllegjnbeppaaGreat.ya Go.Proofs.YtpcllegjnbeppaaGreat.yb Go.Proofs.YtpcllegjnbeppaaGreat.yc Go.Proofs.YtpcllegjnbeppaaGreat.ye Go.Proofs.YtpcllegjnbeppaaGreat.yf Go.Proofs.YtpcllegjnbeppaaGreat.za Go.Proofs.YtpcllegjnbeppaaGreat.zf
set_option linter.unusedVariables false
set_option linter.unusedSimpArgs false
-- the document's lists of records
def rc (p : Rec) : List Value := [.string p.1, .string p.2]
def rcs (l : List Rec) : List Value := l.flatMap rc
theorem rcs_app (l l' : List Rec) : rcs (l ++ l') = rcs l ++ rcs l' := by simp [rcs]
theorem rcs_len (l : List Rec) : (rcs l).length = l.length * 2 := by
  induction l with
  | nil => rfl
  | cons p l ih => simp only [rcs, List.flatMap_cons, List.length_append, List.length_cons] at ih ⊢; rw [ih]; simp [rc]; omega
theorem rcs_at (l : List Rec) (j : Nat) (p : Rec) (h : l[j]? = some p) : (rcs l)[j * 2]? = some (.string p.1) ∧ (rcs l)[j * 2 + 1]? = some (.string p.2) := by
  induction l generalizing j with
  | nil => simp at h
  | cons q l ih =>
    cases j with
    | zero =>
      simp at h
      subst h
      exact ⟨rfl, rfl⟩
    | succ j =>
      have := ih j (by simpa using h)
      have e1 : (j + 1) * 2 = j * 2 + 2 := by omega
      rw [e1]
      exact this
abbrev Lr (B : Nat) (v : Value) (r : List Rec) (w : World) : Prop := w.ownsRow B 97 2 v r.length (rcs r)
theorem lr_form {B : Nat} {v : Value} {r : List Rec} {w : World} (o : Lr B v r w) : ∃ a c, v = .slice a r.length c := by
  rcases o.2 with ⟨rfl, h0⟩ | ⟨g, cap, cur, rfl, _⟩
  · exact ⟨none, 0, by rw [h0]⟩
  · exact ⟨_, cap, rfl⟩
theorem lr_at {B : Nat} {a : Option Addr} {c : Nat} {r : List Rec} {w : World} (o : Lr B (.slice a r.length c) r w) (j : Nat) (p : Rec) (hj : r[j]? = some p) : ∃ g, a = some ⟨g, 0, none⟩ ∧ g < w.heap.size ∧ w.cell? ⟨g, j * 2, none⟩ = some (.string p.1) ∧ w.cell? ⟨g, j * 2 + 1, none⟩ = some (.string p.2) := by
  have hjl := (List.getElem?_eq_some_iff.1 hj).1
  rcases o.2 with ⟨_, h0⟩ | ⟨g, cap, cur, e, _, h3, h4, h5, h6, h7⟩
  · omega
  · injection e with e1 _ _
    obtain ⟨s1, s2⟩ := rcs_at r j p hj
    rw [← h7, List.getElem?_take_of_lt (by omega)] at s1 s2
    refine ⟨g, e1, (Array.getElem?_eq_some_iff.1 h3).1, ?_, ?_⟩
    · rw [cell_of_row _ _ _ _ _ _ h3]; simpa using s1
    · rw [cell_of_row _ _ _ _ _ _ h3]; simpa using s2
theorem Lr.later {B : Nat} {v : Value} {r : List Rec} {w w' : World} (h : Lr B v r w) (b : Below w.heap.size w w') : Lr B v r w' := own_kp h (Kp.of_below (A := fun _ => False) b) (fun _ _ e => e)
theorem text_ne {a b : ByteArray} (h : a ≠ b) : (a.toList == b.toList) = false := by
  rw [beq_eq_false_iff_ne]
  intro e
  rw [ByteArray.toList_eq, ByteArray.toList_eq] at e
  exact h (ByteArray.ext (Array.toList_inj.1 e))
-- find
def Fnd (k : ByteArray) (r : List Rec) (i : Int) : Prop := (rget k r = none ∧ i = -1) ∨ ∃ (n : Nat) (d : ByteArray), i = n ∧ r[n]? = some (k, d) ∧ rget k r = some d
set_option maxRecDepth 20000 in
set_option maxHeartbeats 3200000 in
theorem findC {B : Nat} (v : Value) (r : List Rec) (k : ByteArray) (w : World) (h : Lr B v r w) (hs : Srt r) (hl : r.length ≤ 140737488355328) :
    Calls Tryz.prog 107 #[v, .string k] w fun e w' => (∃ i, e = .returned (.int .i64 i) ∧ Fnd k r i) ∧ w' = w := by
  obtain ⟨a, c, rfl⟩ := lr_form h
  have H : Hid _ := h
  have HS : Hid _ := hs
  clear h hs
  go_enter Tryz.func107, Tryz.ntmps107
  go_wp2_with fail
  go_loop [5] (fun iv => ∃ j : Nat, j ≤ r.length ∧ iv = .int .i64 j ∧ Hid (∀ y ∈ r.take j, y.1 ≠ k)) (fun iv => (r.length - intOf iv).toNat)
  case atStart => exact ⟨0, Nat.zero_le _, rfl, fun y hy => by cases hy⟩
  case round =>
    obtain ⟨j, hj, rfl, HJ⟩ := hrel
    by_cases hlt : j < r.length
    · have hlt' : (j : Int) < r.length := by omega
      obtain ⟨p, hp⟩ : ∃ p, r[j]? = some p := ⟨_, List.getElem?_eq_getElem hlt⟩
      obtain ⟨g, rfl, _, c0, c1⟩ := lr_at H.out j p hp
      have HP : Hid _ := hp
      clear hp
      obtain ⟨pk, pd⟩ := p
      by_cases e : pk = k
      · subst e
        have t1 : (pk.toList == pk.toList) = true := by simp
        go_wp2
        go_ret
        exact ⟨⟨j, rfl, .inr ⟨j, pd, rfl, HP.out, (get_some HS.out).2 (List.mem_of_getElem? HP.out)⟩⟩, rfl⟩
      · have t1 : (pk.toList == k.toList) = false := text_ne e
        have HE : Hid _ := e
        clear e
        go_wp2
        go_round
        case rel => exact ⟨j + 1, by omega, by go_num, fun y hy => by
          rw [List.take_add_one, HP.out] at hy
          rcases List.mem_append.1 hy with h | h
          · exact HJ.out y h
          · simp at h; subst h; exact HE.out⟩
        case measure => simp [intOf]; omega
    · have hlt' : ¬ (j : Int) < r.length := by omega
      have HN : Hid (rget k r = none) := get_none.2 (by have h := HJ.out; rw [List.take_of_length_le (by omega)] at h; exact h)
      go_wp2
      go_ret
      exact ⟨⟨-1, rfl, .inl ⟨HN.out, rfl⟩⟩, rfl⟩
-- counts
set_option maxRecDepth 20000 in
set_option maxHeartbeats 3200000 in
theorem cntsC {B : Nat} (v : Value) (r : List Rec) (w : World) (h : Lr B v r w) (hok : OkR r) (hl : r.length < 3518437208883) :
    Calls Tryz.prog 44 #[v] w fun e w' => e = .returned (.int .i64 (tot r : Nat)) ∧ ∃ n, w' = w.drewN n := by
  obtain ⟨a, c, rfl⟩ := lr_form h
  have htot := hok.tot
  have H : Hid _ := h
  have HK : Hid _ := hok
  clear h hok
  go_enter Tryz.func44, Tryz.ntmps44
  go_wp2_with fail
  go_loopw [3, 4] (fun nv iv wr => ∃ j : Nat, j ≤ r.length ∧ iv = .int .i64 j ∧ nv = .int .i64 ((tot (r.take j) : Nat) : Int) ∧ Hid (∃ n, wr = w.drewN n)) (fun _ iv _ => (r.length - intOf iv).toNat)
  case atStart => exact ⟨0, Nat.zero_le _, rfl, rfl, ⟨0, rfl⟩⟩
  case round =>
    obtain ⟨j, hj, rfl, rfl, HW⟩ := hrel
    have hle := tot_take_le r j
    by_cases hlt : j < r.length
    · have hlt' : (j : Int) < r.length := by omega
      obtain ⟨p, hp⟩ : ∃ p, r[j]? = some p := ⟨_, List.getElem?_eq_getElem hlt⟩
      have hz := HK.out p (List.mem_of_getElem? hp)
      have htk := tot_take r j p hp
      have hr : Lr B (.slice a r.length c) r wr := by obtain ⟨n, hn⟩ := HW.out; rw [hn]; exact Lr.later H.out (za.below_dN (Below.refl _ _) n)
      obtain ⟨g, rfl, _, c0, c1⟩ := lr_at hr j p hp
      clear hp hr
      obtain ⟨pk, pd⟩ := p
      simp only at c0 c1 hz htk
      obtain ⟨T, HT⟩ : ∃ T : Nat, Hid (tot (r.take j) = T) := ⟨_, rfl⟩
      rw [HT.out] at htk hle ⊢
      have HTK : Hid _ := htk
      have hT : (T : Int) ≤ 4000000000000000000 := by omega
      have hz1 : (pk.size : Int) ≤ 64 := by omega
      have hz2 : (pd.size : Int) ≤ 1048576 := by omega
      clear htk hz htot
      go_upto_region 5 with fail
      go_quiet (fail)
      obtain ⟨wd, HWD⟩ : ∃ wd, wd = wr.drewN nq := ⟨_, rfl⟩
      have HWD2 : Hid (∃ n, wd = w.drewN n) := by
        obtain ⟨n, hn⟩ := HW.out
        rw [HWD, hn]
        exact ⟨n + nq, by rw [World.drewN_drewN]⟩
      rw [← HWD]
      clear HWD
      go_wp2
      go_roundw
      case rel => exact ⟨j + 1, by omega, by go_num, by rw [HTK.out]; simp only [cnt]; go_num, HWD2.out⟩
      case measure => simp [intOf]; omega
    · have hlt' : ¬ (j : Int) < r.length := by omega
      obtain rfl : j = r.length := by omega
      have HTL : Hid (r.take r.length = r) := List.take_length
      rw [HTL.out]
      go_wp2
      go_ret
      exact ⟨rfl, HW.out⟩
end Go.Proofs.YtpcllegjnbeppaaGreat.xa

namespace Go.Proofs.YtpcllegjnbeppaaGreat.zb
open Go.RowKit Go.PlainAid Go.Maps Go.Shelf
open Go.Proofs.YtpcllegjnbeppaaGreat.ya Go.Proofs.YtpcllegjnbeppaaGreat.yb Go.Proofs.YtpcllegjnbeppaaGreat.yc Go.Proofs.YtpcllegjnbeppaaGreat.yd Go.Proofs.YtpcllegjnbeppaaGreat.ye Go.Proofs.YtpcllegjnbeppaaGreat.yf Go.Proofs.YtpcllegjnbeppaaGreat.yi Go.Proofs.YtpcllegjnbeppaaGreat.yk Go.Proofs.YtpcllegjnbeppaaGreat.yl Go.Proofs.YtpcllegjnbeppaaGreat.ym Go.Proofs.YtpcllegjnbeppaaGreat.yr Go.Proofs.YtpcllegjnbeppaaGreat.yt
set_option linter.unusedVariables false
set_option linter.unusedSimpArgs false
-- what a key has, and what it may have behind a Crash
abbrev Sn := Bool × ByteArray
def sn (k : ByteArray) (r : List Rec) : Sn := ((rget k r).isSome, (rget k r).getD ByteArray.empty)
def wsn (x : W) : Sn := (!x.cut, if x.cut then ByteArray.empty else x.data)
def onK (k : ByteArray) (l : List W) : List Sn := (l.filter fun x => decide (x.key = k)).map wsn
def canL (k : ByteArray) (s : S) : List Sn := sn k s.dur :: onK k s.pend
theorem sn_same {k : ByteArray} {r : List Rec} {x : W} (h : Srt r) (hk : x.key = k) : sn k (doW r x) = wsn x := by
  subst hk
  unfold doW wsn
  cases x.cut with
  | true => simp [sn, get_del_same]
  | false => simp [sn, get_put_same h]
theorem sn_other {k : ByteArray} {r : List Rec} {x : W} (h : Srt r) (hk : x.key ≠ k) : sn k (doW r x) = sn k r := by
  unfold sn
  rw [get_doW h hk]
theorem onK_app (k : ByteArray) (l l' : List W) : onK k (l ++ l') = onK k l ++ onK k l' := by simp [onK]
theorem onK_one (k : ByteArray) (x : W) : onK k [x] = if x.key = k then [wsn x] else [] := by
  unfold onK
  by_cases h : x.key = k <;> simp [h]
theorem onK_cons (k : ByteArray) (x : W) (l : List W) : onK k (x :: l) = (if x.key = k then [wsn x] else []) ++ onK k l := by
  rw [← onK_one, ← onK_app]; rfl
theorem kd_can (keep k : ByteArray) (l : List W) {r : List Rec} (h : Srt r) (j : Nat) : sn k (kdN keep l r j) ∈ sn k r :: onK k l := by
  induction j with
  | zero => exact List.mem_cons_self
  | succ j ih =>
    unfold kdN
    split
    · rename_i x hx
      split
      · by_cases e : x.key = k
        · rw [sn_same (srt_kd h _) e]
          refine List.mem_cons_of_mem _ ?_
          unfold onK
          exact List.mem_map.2 ⟨x, List.mem_filter.2 ⟨List.mem_of_getElem? hx, by simp [e]⟩, rfl⟩
        · rw [sn_other (srt_kd h _) e]; exact ih
      · exact ih
    · exact ih
theorem kd_no {keep : ByteArray} (hk : keep.size = 0) (l : List W) (r : List Rec) (j : Nat) : kdN keep l r j = r := by
  have hs : ∀ i, surv keep i = false := fun i => by unfold surv; exact decide_eq_false (fun h => h.1 hk)
  induction j with
  | zero => rfl
  | succ j ih =>
    unfold kdN
    rw [hs, ih]
    split <;> simp
def one : ByteArray := ⟨#[1]⟩
theorem surv_one (i : Nat) : surv one i = true := by
  unfold surv
  have h1 : one.size = 1 := rfl
  rw [h1, Nat.mod_one]
  exact decide_eq_true ⟨by omega, by rfl⟩
theorem kd_all (l : List W) (r : List Rec) (j : Nat) (hj : j ≤ l.length) : kdN one l r j = (l.take j).foldl doW r := by
  induction j with
  | zero => rfl
  | succ j ih =>
    have hx : l[j]? = some l[j] := List.getElem?_eq_getElem (by omega)
    have ht : l.take (j + 1) = l.take j ++ [l[j]] := by rw [List.take_add_one, hx]; rfl
    rw [ht, List.foldl_append]
    unfold kdN
    rw [hx, surv_one, ih (by omega)]
    rfl
theorem sn_last (k : ByteArray) (l : List W) : ∀ {r : List Rec}, Srt r → some (sn k (l.foldl doW r)) = (sn k r :: onK k l)[(onK k l).length]? := by
  induction l with
  | nil => intro r h; rfl
  | cons x l ih =>
    intro r h
    rw [List.foldl_cons, ih (srt_doW h), onK_cons]
    by_cases e : x.key = k
    · rw [sn_same h e, if_pos e]; rfl
    · rw [sn_other h e, if_neg e]; rfl
-- behind a Crash
theorem can_crash (keep k : ByteArray) {s : S} (h : Srt s.dur) : sn k (now (crashS s keep)) ∈ canL k s ∧ (keep.size = 0 → (canL k s)[0]? = some (sn k (now (crashS s keep)))) ∧ (keep = one → (canL k s)[(canL k s).length - 1]? = some (sn k (now (crashS s keep)))) := by
  have e : now (crashS s keep) = kdN keep s.pend s.dur s.pend.length := rfl
  rw [e]
  refine ⟨kd_can _ _ _ h _, fun h0 => by rw [kd_no h0]; rfl, ?_⟩
  rintro rfl
  rw [kd_all _ _ _ (Nat.le_refl _), List.take_length, sn_last k s.pend h]
  show (sn k s.dur :: onK k s.pend)[(sn k s.dur :: onK k s.pend).length - 1]? = _
  simp
theorem can_spend (k : ByteArray) (s : S) : canL k (spendS s).2 = canL k s := by unfold canL; rw [dur_spend, pend_spend]
theorem can_add (k : ByteArray) (s : S) (x : W) : canL k (addW s x) = canL k s ++ (if x.key = k then [wsn x] else []) := by
  unfold canL addW
  rw [onK_app, onK_one]
  rfl
-- one call: it settles, it writes, or it leaves all that may be
def settles (s : S) (o : Opn) : Prop := (o.kind = 3 ∧ (doS s o.kind o.key o.data o.n).1 = 0) ∨ o.kind = 5
def wrote (k : ByteArray) (s : S) (o : Opn) : Prop := (o.kind = 1 ∨ o.kind = 2) ∧ o.key = k ∧ s.off = false ∧ ((doS s o.kind o.key o.data o.n).1 = 0 ∨ (doS s o.kind o.key o.data o.n).1 = 124)
theorem spend_off (s : S) (h : s.off = false) (h0 : (spendS s).1 = 0) : (spendS s).2.off = false := by
  unfold spendS at h0 ⊢
  split
  · exact h
  · rename_i h1
    rw [if_neg h1] at h0
    split
    · rename_i h2; rw [if_pos h2] at h0; cases h0
    · exact h
theorem spend_e (s : S) : (spendS s).1 = 0 ∨ (spendS s).1 = 124 := by
  unfold spendS
  split
  · exact .inl rfl
  · split
    · exact .inr rfl
    · exact .inl rfl
theorem can_settle (k : ByteArray) (s : S) (o : Opn) (h : settles s o) : canL k (doO s o) = [sn k (now (doO s o))] ∧ (doO s o).off = false := by
  rcases h with ⟨h3, h0⟩ | h5
  · unfold doO
    unfold doS at h0 ⊢
    rw [h3] at h0 ⊢
    simp only [show ¬ ((3 : Int) = 1) by omega, show ¬ ((3 : Int) = 2) by omega, if_false, if_true] at h0 ⊢
    unfold syncS at h0 ⊢
    split
    · rename_i ho; rw [if_pos ho] at h0; cases h0
    · rename_i ho
      rw [if_neg ho] at h0
      split
      · rename_i hz; rw [if_pos hz] at h0; exact absurd h0 hz
      · rename_i hz
        exact ⟨rfl, spend_off s (by simpa using ho) (by simpa using hz)⟩
  · unfold doO doS
    rw [h5]
    simp only [show ¬ ((5 : Int) = 1) by omega, show ¬ ((5 : Int) = 2) by omega, show ¬ ((5 : Int) = 3) by omega, show ¬ ((5 : Int) = 4) by omega, if_false, if_true]
    exact ⟨rfl, rfl⟩
theorem ref_off {s : S} {k : ByteArray} (h : ¬ refS s k ≠ 0) : s.off = false := by
  cases e : s.off with
  | false => rfl
  | true => exact absurd (by unfold refS; rw [e]; simp) h
theorem ref_e {s : S} {k : ByteArray} (h : s.off = false) : refS s k = 0 ∨ refS s k = 120 := by
  unfold refS
  rw [h]
  simp only [Bool.false_eq_true, if_false]
  split
  · exact .inl rfl
  · exact .inr rfl
theorem can_wrote (k : ByteArray) (s : S) (o : Opn) (h : wrote k s o) : canL k (doO s o) = canL k s ++ [(decide (o.kind = 1), if o.kind = 1 then o.data else ByteArray.empty)] := by
  obtain ⟨hk, rfl, hoff, hE⟩ := h
  have hr := ref_e (k := o.key) hoff
  unfold doO
  unfold doS at hE ⊢
  rcases hk with h1 | h2
  · rw [h1] at hE ⊢
    simp only [if_true] at hE ⊢
    unfold putS at hE ⊢
    split
    · rename_i hz
      rw [if_pos hz] at hE
      rcases hr with hr | hr
      · exact absurd hr hz
      · rw [hr] at hE; simp at hE
    · rename_i hz
      rw [if_neg hz] at hE
      split
      · rename_i hd
        rw [if_pos hd] at hE
        split
        · rename_i hf; rw [if_pos hf] at hE; simp at hE
        · rw [can_spend, can_add]; simp [wsn]
      · rename_i hd; rw [if_neg hd] at hE; simp at hE
  · rw [h2] at hE ⊢
    simp only [show ¬ ((2 : Int) = 1) by omega, if_false, if_true] at hE ⊢
    unfold cutS at hE ⊢
    split
    · rename_i hz
      rw [if_pos hz] at hE
      rcases hr with hr | hr
      · exact absurd hr hz
      · rw [hr] at hE; simp at hE
    · rename_i hz
      rw [if_neg hz] at hE
      split
      · rw [can_spend, can_add]; simp [wsn]
      · rename_i hd; rw [if_neg hd] at hE; simp at hE
theorem can_else (k : ByteArray) (s : S) (o : Opn) (h1 : ¬ settles s o) (h2 : ¬ wrote k s o) : canL k (doO s o) = canL k s := by
  unfold settles at h1
  unfold wrote at h2
  unfold doO
  unfold doS at h1 h2 ⊢
  split
  · rename_i e
    simp only [if_pos e] at h2
    unfold putS at h2 ⊢
    split
    · rfl
    · rename_i hz
      simp only [if_neg hz] at h2
      split
      · rename_i hd
        simp only [if_pos hd] at h2
        split
        · rfl
        · rename_i hf
          simp only [if_neg hf] at h2
          rw [can_spend, can_add, if_neg (fun ek => h2 ⟨.inl e, ek, ref_off hz, spend_e _⟩)]
          simp
      · rfl
  · rename_i e1
    split
    · rename_i e
      simp only [if_neg e1, if_pos e] at h2
      unfold cutS at h2 ⊢
      split
      · rfl
      · rename_i hz
        simp only [if_neg hz] at h2
        split
        · rename_i hf
          simp only [if_pos hf] at h2
          rw [can_spend, can_add, if_neg (fun ek => h2 ⟨.inr e, ek, ref_off hz, spend_e _⟩)]
          simp
        · rfl
    · rename_i e2
      split
      · rename_i e3
        simp only [if_neg e1, if_neg e2, if_pos e3] at h1
        unfold syncS at h1 ⊢
        split
        · rfl
        · rename_i ho
          simp only [if_neg ho] at h1
          split
          · exact can_spend k s
          · rename_i hz
            simp only [if_neg hz] at h1
            exact absurd (.inl ⟨e3, by trivial⟩) h1
      · split
        · unfold armS
          split <;> rfl
        · rename_i e4
          split
          · rename_i e5; exact absurd (.inr e5) h1
          · split <;> rfl
-- what is asked of a key
theorem get_sn {s : S} (h : OkS s) (ho : s.off = false) (k : ByteArray) : (((getS s k).2 == 0), (getS s k).1) = sn k (now s) := by
  unfold getS refS
  rw [ho]
  simp only [Bool.false_eq_true, if_false]
  by_cases hk : 1 ≤ k.size ∧ k.size ≤ 64
  · rw [if_pos hk, if_neg (by simp)]
    unfold sn
    cases rget k (now s) <;> simp
  · rw [if_neg hk, if_pos (by simp)]
    have : rget k (now s) = none := by
      cases e : rget k (now s) with
      | none => rfl
      | some d => exact absurd ⟨(h.now.get e).1, (h.now.get e).2.1⟩ hk
    simp [sn, this]
end Go.Proofs.YtpcllegjnbeppaaGreat.zb

namespace Go.Proofs.YtpcllegjnbeppaaGreat.zc
open Go.RowKit Go.PlainAid Go.Maps Go.Shelf
open Go.Proofs.YtpcllegjnbeppaaGreat.kp Go.Proofs.YtpcllegjnbeppaaGreat.ka Go.Proofs.YtpcllegjnbeppaaGreat.ya Go.Proofs.YtpcllegjnbeppaaGreat.yb Go.Proofs.YtpcllegjnbeppaaGreat.yc Go.Proofs.YtpcllegjnbeppaaGreat.yd Go.Proofs.YtpcllegjnbeppaaGreat.ye Go.Proofs.YtpcllegjnbeppaaGreat.yf Go.Proofs.YtpcllegjnbeppaaGreat.yg Go.Proofs.YtpcllegjnbeppaaGreat.yi Go.Proofs.YtpcllegjnbeppaaGreat.yk Go.Proofs.YtpcllegjnbeppaaGreat.yl Go.Proofs.YtpcllegjnbeppaaGreat.ym Go.Proofs.YtpcllegjnbeppaaGreat.yn Go.Proofs.YtpcllegjnbeppaaGreat.yr Go.Proofs.YtpcllegjnbeppaaGreat.ys Go.Proofs.YtpcllegjnbeppaaGreat.yt Go.Proofs.YtpcllegjnbeppaaGreat.yu Go.Proofs.YtpcllegjnbeppaaGreat.zb
set_option linter.unusedVariables false
set_option linter.unusedSimpArgs false
-- a row beside a store
theorem row_apart {T z B B' g bn bd n : Nat} {pv v : Value} {s : S} {xs : List Value} {w : World} (h1 : T ≠ 80) (h2 : T ≠ 100) (h : Sr B g bn bd pv s w) (o : w.ownsRow B' T z v n xs) : ∀ j, Fr g bn bd pv j → some j ≠ v.ownBlock := by
  rintro j (rfl | rfl | rfl | hj)
  · exact own_tag o h.row h1
  · exact own_map o h.mn
  · exact own_map o h.md
  · rcases h.pr.2 with ⟨rfl, _⟩ | ⟨g', cap, cur, rfl, _, hh, _⟩
    · cases hj
    · have : j = g' := Option.some.inj hj
      subst this
      exact own_tag o hh h2
structure Mt (T z B g bn bd : Nat) (s : S) (v : Value) (n : Nat) (xs : List Value) (w w' : World) : Prop where
  ex : ∃ pv, Sr B g bn bd pv s w'
  row : w'.ownsRow B T z v n xs
  bl : Below B w w'
theorem Mt.later {T z B g bn bd n : Nat} {s : S} {v : Value} {xs : List Value} {w w1 w2 : World} (h : Mt T z B g bn bd s v n xs w w1) (b : Below w1.heap.size w1 w2) (hB : B ≤ w.heap.size) : Mt T z B g bn bd s v n xs w w2 := by
  obtain ⟨⟨pv, h1⟩, h2, h3⟩ := h
  exact ⟨⟨pv, sr_later h1 b⟩, own_kp h2 (Kp.of_below (A := fun _ => False) b) (fun _ _ e => e), h3.trans (b.mono (Nat.le_trans hB h3.size))⟩
theorem Mt.rn {T z B g bn bd n : Nat} {pv : Value} {s s' : S} {v : Value} {xs : List Value} {w w1 w2 : World} (h1 : T ≠ 80) (h2 : T ≠ 100) (h : Mt T z B g bn bd s v n xs w w1) (hp : Sr B g bn bd pv s w1) (r : Rn B g bn bd pv s' w1 w2) (hB : B ≤ w.heap.size) : Mt T z B g bn bd s' v n xs w w2 := by
  have hb := Rn.below hp r (Nat.le_trans hB h.bl.size)
  obtain ⟨p, h7, k, _⟩ := r
  exact ⟨⟨p, h7⟩, own_kp h.row k (fun j hj hF => row_apart h1 h2 hp h.row j hF hj), h.bl.trans hb⟩
theorem Mt.grown {T z B g bn bd n n' : Nat} {s : S} {v v' : Value} {xs xs' : List Value} {w w1 w2 : World} (h1 : T ≠ 80) (h2 : T ≠ 100) (h : Mt T z B g bn bd s v n xs w w1) (o : w2.ownsRow B T z v' n' xs') (hg : w1.grownBy w2 v.ownBlock) (hB : B ≤ w.heap.size) : Mt T z B g bn bd s v' n' xs' w w2 := by
  obtain ⟨⟨pv, hp⟩, hr, hb⟩ := h
  have k : Kp (fun k => some k = v.ownBlock) w1 w2 := ⟨hg.os, hg.tape, hg.output, hg.size, fun j hj hn => hg.block j hj (fun e => hn e)⟩
  exact ⟨⟨pv, sr_keep hp k (fun j hj e => row_apart h1 h2 hp hr j hj e)⟩, o, hb.grown hg (Nat.le_trans hB hb.size) (fun j hj => (hr.lt _ hj).1)⟩
theorem Mt.nil {T z B g bn bd n : Nat} {s : S} {v : Value} {xs : List Value} {w w1 : World} (h : Mt T z B g bn bd s v n xs w w1) : Mt T z B g bn bd s (.slice none 0 0) 0 [] w w1 := ⟨h.ex, World.ownsRow_nil _ _ _ _, h.bl⟩
-- the cells of a list of Seen
def sc (p : Sn) : List Value := [.bool p.1, .string p.2]
def scs (l : List Sn) : List Value := l.flatMap sc
theorem scs_app (l l' : List Sn) : scs (l ++ l') = scs l ++ scs l' := by simp [scs]
theorem scs_len (l : List Sn) : (scs l).length = l.length * 2 := by
  induction l with
  | nil => rfl
  | cons p l ih => simp only [scs, List.flatMap_cons, List.length_append, List.length_cons] at ih ⊢; rw [ih]; simp [sc]; omega
theorem scs_at (l : List Sn) (j : Nat) (p : Sn) (h : l[j]? = some p) : (scs l)[j * 2]? = some (.bool p.1) ∧ (scs l)[j * 2 + 1]? = some (.string p.2) := by
  induction l generalizing j with
  | nil => simp at h
  | cons q l ih =>
    cases j with
    | zero =>
      simp at h
      subst h
      exact ⟨rfl, rfl⟩
    | succ j =>
      have := ih j (by simpa using h)
      have e1 : (j + 1) * 2 = j * 2 + 2 := by omega
      rw [e1]
      exact this
theorem new_two (W : World) (u v : Value) (t : TypeId) : ∀ (j : Nat) (y : Value), [u, v][j]? = some y → (W.alloc (.cells #[u, v] t)).cell? (Addr.add ⟨W.heap.size, 0, none⟩ j) = some y := by
  intro j y h
  have hb : (W.alloc (.cells #[u, v] t)).heap[W.heap.size]? = some (.cells #[u, v] t (0, 0)) := (MapKept.heap_alloc W _).1
  have e : (Addr.add ⟨W.heap.size, 0, none⟩ j) = ⟨W.heap.size, j, none⟩ := by simp [Addr.add]; omega
  rw [e, cell_of_row _ _ j _ _ _ hb]
  simpa using h
theorem one_sn (b : Bool) (d : ByteArray) : ∀ u ∈ [Value.bool b, .string d], u.oneCell' = true := by
  intro u hu; simp only [List.mem_cons, List.not_mem_nil, or_false] at hu; rcases hu with rfl | rfl <;> rfl
-- see
theorem put2 (w : World) (p : Nat) (a0 a1 x0 x1 : Value) (t : TypeId) (h : w.heap[p]? = some (.cells #[a0, a1] t (0, 0))) :
    ∀ W, W = ((w.setCell ⟨p, 0, none⟩ x0).setCell ⟨p, 1, none⟩ x1) → W.heap[p]? = some (.cells #[x0, x1] t (0, 0)) ∧ Kp (fun q => q = p) w W := by
  intro W hW
  have h0 : (w.setCell ⟨p, 0, none⟩ x0).heap[p]? = some (.cells #[x0, a1] t (0, 0)) := heap_setCell_same _ _ 0 _ _ x0 h
  rw [hW]
  exact ⟨heap_setCell_same _ _ 1 _ _ x1 h0, (kset _ _ _ _).trans (kset _ _ _ _)⟩
theorem two {w : World} {p : Nat} {x0 x1 : Value} {t : TypeId} (h : w.heap[p]? = some (.cells #[x0, x1] t (0, 0))) : w.cell? ⟨p, 0, none⟩ = some x0 ∧ w.cell? ⟨p, 1, none⟩ = some x1 ∧ w.frozen? ⟨p, 0, none⟩ = false ∧ w.frozen? ⟨p, 1, none⟩ = false :=
  ⟨cell_of_row _ _ 0 _ _ _ h, cell_of_row _ _ 1 _ _ _ h, frozen_of_row _ _ 0 _ _ h, frozen_of_row _ _ 1 _ _ h⟩
theorem four {w : World} {p : Nat} {x0 x1 x2 x3 : Value} {t : TypeId} (h : w.heap[p]? = some (.cells #[x0, x1, x2, x3] t (0, 0))) : w.cell? ⟨p, 0, none⟩ = some x0 ∧ w.cell? ⟨p, 1, none⟩ = some x1 ∧ w.cell? ⟨p, 2, none⟩ = some x2 ∧ w.cell? ⟨p, 3, none⟩ = some x3 :=
  ⟨cell_of_row _ _ 0 _ _ _ h, cell_of_row _ _ 1 _ _ _ h, cell_of_row _ _ 2 _ _ _ h, cell_of_row _ _ 3 _ _ _ h⟩
theorem below_kset {w w2 W : World} {p : Nat} (h : Below w.heap.size w w2) (k : Kp (fun q => q = p) w2 W) (hp : w.heap.size ≤ p) : Below w.heap.size w W :=
  ⟨k.os.trans h.os, k.tape.trans h.tape, k.output.trans h.output, Nat.le_trans h.size k.size, fun j hj => (k.block j (Nat.lt_of_lt_of_le hj h.size) (by omega)).trans (h.block j hj)⟩
-- kept
def kpt (kd : Int) (dt : ByteArray) : ByteArray := if kd = 1 then dt else ByteArray.empty
end Go.Proofs.YtpcllegjnbeppaaGreat.zc

namespace Go.Proofs.YtpcllegjnbeppaaGreat.zg
open Go.RowKit Go.PlainAid Go.Maps Go.Shelf
open Go.Proofs.YtpcllegjnbeppaaGreat.ca Go.Proofs.YtpcllegjnbeppaaGreat.cb Go.Proofs.YtpcllegjnbeppaaGreat.cp Go.Proofs.YtpcllegjnbeppaaGreat.kp Go.Proofs.YtpcllegjnbeppaaGreat.ka Go.Proofs.YtpcllegjnbeppaaGreat.ya Go.Proofs.YtpcllegjnbeppaaGreat.yb Go.Proofs.YtpcllegjnbeppaaGreat.yc Go.Proofs.YtpcllegjnbeppaaGreat.yd Go.Proofs.YtpcllegjnbeppaaGreat.ye Go.Proofs.YtpcllegjnbeppaaGreat.yf Go.Proofs.YtpcllegjnbeppaaGreat.yg Go.Proofs.YtpcllegjnbeppaaGreat.yi Go.Proofs.YtpcllegjnbeppaaGreat.yj Go.Proofs.YtpcllegjnbeppaaGreat.yk Go.Proofs.YtpcllegjnbeppaaGreat.yl Go.Proofs.YtpcllegjnbeppaaGreat.ym Go.Proofs.YtpcllegjnbeppaaGreat.yn Go.Proofs.YtpcllegjnbeppaaGreat.yo Go.Proofs.YtpcllegjnbeppaaGreat.yp Go.Proofs.YtpcllegjnbeppaaGreat.yr Go.Proofs.YtpcllegjnbeppaaGreat.sb Go.Proofs.YtpcllegjnbeppaaGreat.mc
set_option linter.unusedVariables false
set_option linter.unusedSimpArgs false
-- what the law's do answers, field by field
def aT (s : S) (kind : Int) (k : ByteArray) : ByteArray := if kind = 6 then (getS s k).1 else if kind = 8 then imageT s.dur else ⟨#[]⟩
def aN (s : S) (kind : Int) (k : ByteArray) : List ByteArray := if kind = 7 then keysS s k else []
def aA (s : S) (kind : Int) : Int := if kind = 9 then s.pend.length else 0
def aB (s : S) (kind : Int) : Int := if kind = 9 then (tot (now s) : Nat) else 0
def aC (s : S) (kind : Int) : Int := if kind = 9 then s.cap else 0
def aD (s : S) (kind : Int) : Bool := if kind = 9 then s.off else false
def aG (s : S) (kind : Int) : Int := if kind = 9 then s.age else 0
theorem own_low {w : World} {B B' t z n : Nat} {v : Value} {xs : List Value} (o : w.ownsRow B t z v n xs) (h : B' ≤ B) : w.ownsRow B' t z v n xs := by
  obtain ⟨o1, o2⟩ := o
  refine ⟨o1, ?_⟩
  rcases o2 with h0 | ⟨g, cap, cur, e1, e2, rest⟩
  · exact .inl h0
  · exact .inr ⟨g, cap, cur, e1, Nat.le_trans h e2, rest⟩
end Go.Proofs.YtpcllegjnbeppaaGreat.zg

namespace Go.Proofs.YtpcllegjnbeppaaGreat.zh
open Go.RowKit Go.PlainAid Go.Maps Go.Shelf
open Go.Proofs.YtpcllegjnbeppaaGreat.ca Go.Proofs.YtpcllegjnbeppaaGreat.cb Go.Proofs.YtpcllegjnbeppaaGreat.cp Go.Proofs.YtpcllegjnbeppaaGreat.kp Go.Proofs.YtpcllegjnbeppaaGreat.ka Go.Proofs.YtpcllegjnbeppaaGreat.ya Go.Proofs.YtpcllegjnbeppaaGreat.yb Go.Proofs.YtpcllegjnbeppaaGreat.yc Go.Proofs.YtpcllegjnbeppaaGreat.yd Go.Proofs.YtpcllegjnbeppaaGreat.ye Go.Proofs.YtpcllegjnbeppaaGreat.yf Go.Proofs.YtpcllegjnbeppaaGreat.yg Go.Proofs.YtpcllegjnbeppaaGreat.yi Go.Proofs.YtpcllegjnbeppaaGreat.yk Go.Proofs.YtpcllegjnbeppaaGreat.yl Go.Proofs.YtpcllegjnbeppaaGreat.ym Go.Proofs.YtpcllegjnbeppaaGreat.yn Go.Proofs.YtpcllegjnbeppaaGreat.yo Go.Proofs.YtpcllegjnbeppaaGreat.yp Go.Proofs.YtpcllegjnbeppaaGreat.yr Go.Proofs.YtpcllegjnbeppaaGreat.yt Go.Proofs.YtpcllegjnbeppaaGreat.yu Go.Proofs.YtpcllegjnbeppaaGreat.zg
set_option linter.unusedVariables false
set_option linter.unusedSimpArgs false
theorem below_dN {B : Nat} {w w' : World} (h : Below B w w') (n : Nat) : Below B w (w'.drewN n) := ⟨h.os, h.tape, h.output, h.size, h.block⟩
theorem two_new {w w1 : World} {o1 o2 : Obj} (b : Below ((w.alloc o1).alloc o2).heap.size ((w.alloc o1).alloc o2) w1) : w1.heap[w.heap.size]? = some o1 ∧ w1.heap[w.heap.size + 1]? = some o2 := by
  have h2 := (MapKept.heap_alloc (w.alloc o1) o2).1
  have e : (w.alloc o1).heap.size = w.heap.size + 1 := by simp
  rw [e] at h2
  refine ⟨(b.block _ (by simp; omega)).trans ?_, (b.block _ (by simp)).trans h2⟩
  rw [heap_alloc_old _ _ (by simp)]; exact heap_alloc_new w _
-- two stores beside each other
structure Tw (B g bn bd g' bn' bd' : Nat) (s t : S) (w w' : World) : Prop where
  ex : ∃ pv pv', Sr B g bn bd pv s w' ∧ Sr B g' bn' bd' pv' t w' ∧ ∀ j, Fr g bn bd pv j → ¬ Fr g' bn' bd' pv' j
  bl : Below B w w'
theorem Tw.symm {B g bn bd g' bn' bd' : Nat} {s t : S} {w w' : World} (h : Tw B g bn bd g' bn' bd' s t w w') : Tw B g' bn' bd' g bn bd t s w w' := by
  obtain ⟨⟨pv, pv', h1, h2, h3⟩, hb⟩ := h
  exact ⟨⟨pv', pv, h2, h1, fun j hj hF => h3 j hF hj⟩, hb⟩
theorem Tw.later {B g bn bd g' bn' bd' : Nat} {s t : S} {w w1 w2 : World} (h : Tw B g bn bd g' bn' bd' s t w w1) (b : Below w1.heap.size w1 w2) (hB : B ≤ w.heap.size) : Tw B g bn bd g' bn' bd' s t w w2 := by
  obtain ⟨⟨pv, pv', h1, h2, h3⟩, hb⟩ := h
  exact ⟨⟨pv, pv', sr_later h1 b, sr_later h2 b, h3⟩, hb.trans (b.mono (Nat.le_trans hB hb.size))⟩
theorem dj_new {g bn bd g' bn' bd' : Nat} {pv pv' pv2 : Value} {w1 : World} (dj : ∀ j, Fr g bn bd pv j → ¬ Fr g' bn' bd' pv' j) (ht : ∀ j, Fr g' bn' bd' pv' j → j < w1.heap.size) (n : ∀ k, some k = pv2.ownBlock → some k = pv.ownBlock ∨ w1.heap.size ≤ k) : ∀ j, Fr g bn bd pv2 j → ¬ Fr g' bn' bd' pv' j := by
  rintro j (h | h | h | h) hF
  · exact dj j (.inl h) hF
  · exact dj j (.inr (.inl h)) hF
  · exact dj j (.inr (.inr (.inl h))) hF
  · rcases n j h with h | h
    · exact dj j (.inr (.inr (.inr h))) hF
    · have := ht j hF; omega
theorem Tw.left {B g bn bd g' bn' bd' : Nat} {pv pv' : Value} {s t s2 : S} {w w1 w2 : World} (hs : Sr B g bn bd pv s w1) (ht : Sr B g' bn' bd' pv' t w1) (dj : ∀ j, Fr g bn bd pv j → ¬ Fr g' bn' bd' pv' j) (hb : Below B w w1) (hB : B ≤ w.heap.size) (r : Rn B g bn bd pv s2 w1 w2) : Tw B g bn bd g' bn' bd' s2 t w w2 := by
  have bb := Rn.below hs r (Nat.le_trans hB hb.size)
  obtain ⟨pv2, h2, k, n⟩ := r
  exact ⟨⟨pv2, pv', h2, sr_keep ht k (fun j hj hF => dj j hF hj), dj_new dj (fun j hj => (sr_in ht j hj).1) n⟩, hb.trans bb⟩
abbrev gotV (s : S) (o : Opn) (na : Option Addr) (nl nc : Nat) : Array Value := #[.string (aT s o.kind o.key), .slice na nl nc, .int .i64 (doS s o.kind o.key o.data o.n).1, .int .i64 (aA s o.kind), .int .i64 (aB s o.kind), .int .i64 (aC s o.kind), .bool (aD s o.kind), .int .i64 (aG s o.kind)]
-- the first call: on the left store, the block ob just made
def Fst (B g bn bd : Nat) (pv : Value) (s : S) (o : Opn) (ob : Obj) (na : Option Addr) (nl nc : Nat) (w w5 : World) : Prop :=
  w5.ownsRow (w.heap.size + 1) 9 1 (.slice na nl nc) (aN s o.kind o.key).length ((aN s o.kind o.key).map Value.string) ∧ Rn B g bn bd pv (doO s o) (w.alloc ob) w5 ∧ w5.heap[w.heap.size]? = some ob
-- the second: on the right one, the left one's answer kept in a block
def Snd (B g bn bd g' bn' bd' : Nat) (s t : S) (o : Opn) (ga : Obj) (na nb : Option Addr) (nl nc ml mc p : Nat) (w0 w7 : World) : Prop :=
  w7.heap[p]? = some ga ∧ p < w7.heap.size ∧ ∀ W, Kp (fun q => q = p) w7 W → Tw B g bn bd g' bn' bd' (doO s o) (doO t o) w0 W ∧ ReadsT W (.slice na nl nc) (aN s o.kind o.key) ∧ ReadsT W (.slice nb ml mc) (aN t o.kind o.key)
end Go.Proofs.YtpcllegjnbeppaaGreat.zh
