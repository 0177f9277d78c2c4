import Derived.Test.YtlkkibiedlakfaaGreatZf
import Derived.BigQuiet
import Derived.Deep.QuietTactic
import Derived.Test.YtlkkibiedlakfaaGreatZc
import Derived.Test.YtlkkibiedlakfaaGreatZh
import Derived.Deep.AppendLies
namespace Go.Proofs.YtlkkibiedlakfaaGreat.xa
open Go.RowKit Go.PlainAid Go.Maps Go.Shelf
open Go.Proofs.YtlkkibiedlakfaaGreat.ca Go.Proofs.YtlkkibiedlakfaaGreat.cb Go.Proofs.YtlkkibiedlakfaaGreat.cp Go.Proofs.YtlkkibiedlakfaaGreat.kp Go.Proofs.YtlkkibiedlakfaaGreat.ka Go.Proofs.YtlkkibiedlakfaaGreat.ya Go.Proofs.YtlkkibiedlakfaaGreat.yb Go.Proofs.YtlkkibiedlakfaaGreat.yc Go.Proofs.YtlkkibiedlakfaaGreat.ye Go.Proofs.YtlkkibiedlakfaaGreat.yf Go.Proofs.YtlkkibiedlakfaaGreat.za Go.Proofs.YtlkkibiedlakfaaGreat.zf
set_option linter.unusedVariables false
set_option linter.unusedSimpArgs false
-- the document's lists of records
def rc (p : Rec) : List Value := [.string p.1, .string p.2]
def rcs (l : List Rec) : List Value := l.flatMap rc
theorem rcs_app (l l' : List Rec) : rcs (l ++ l') = rcs l ++ rcs l' := by simp [rcs]
theorem rcs_len (l : List Rec) : (rcs l).length = l.length * 2 := by
  induction l with
  | nil => rfl
  | cons p l ih => simp only [rcs, List.flatMap_cons, List.length_append, List.length_cons] at ih ⊢; rw [ih]; simp [rc]; omega
theorem rcs_at (l : List Rec) (j : Nat) (p : Rec) (h : l[j]? = some p) : (rcs l)[j * 2]? = some (.string p.1) ∧ (rcs l)[j * 2 + 1]? = some (.string p.2) := by
  induction l generalizing j with
  | nil => simp at h
  | cons q l ih =>
    cases j with
    | zero =>
      simp at h
      subst h
      exact ⟨rfl, rfl⟩
    | succ j =>
      have := ih j (by simpa using h)
      have e1 : (j + 1) * 2 = j * 2 + 2 := by omega
      rw [e1]
      exact this
abbrev Lr (B : Nat) (v : Value) (r : List Rec) (w : World) : Prop := w.ownsRow B 82 2 v r.length (rcs r)
theorem lr_form {B : Nat} {v : Value} {r : List Rec} {w : World} (o : Lr B v r w) : ∃ a c, v = .slice a r.length c := by
  rcases o.2 with ⟨rfl, h0⟩ | ⟨g, cap, cur, rfl, _⟩
  · exact ⟨none, 0, by rw [h0]⟩
  · exact ⟨_, cap, rfl⟩
theorem lr_at {B : Nat} {a : Option Addr} {c : Nat} {r : List Rec} {w : World} (o : Lr B (.slice a r.length c) r w) (j : Nat) (p : Rec) (hj : r[j]? = some p) : ∃ g, a = some ⟨g, 0, none⟩ ∧ g < w.heap.size ∧ w.cell? ⟨g, j * 2, none⟩ = some (.string p.1) ∧ w.cell? ⟨g, j * 2 + 1, none⟩ = some (.string p.2) := by
  have hjl := (List.getElem?_eq_some_iff.1 hj).1
  rcases o.2 with ⟨_, h0⟩ | ⟨g, cap, cur, e, _, h3, h4, h5, h6, h7⟩
  · omega
  · injection e with e1 _ _
    obtain ⟨s1, s2⟩ := rcs_at r j p hj
    rw [← h7, List.getElem?_take_of_lt (by omega)] at s1 s2
    refine ⟨g, e1, (Array.getElem?_eq_some_iff.1 h3).1, ?_, ?_⟩
    · rw [cell_of_row _ _ _ _ _ _ h3]; simpa using s1
    · rw [cell_of_row _ _ _ _ _ _ h3]; simpa using s2
theorem Lr.later {B : Nat} {v : Value} {r : List Rec} {w w' : World} (h : Lr B v r w) (b : Below w.heap.size w w') : Lr B v r w' := own_kp h (Kp.of_below (A := fun _ => False) b) (fun _ _ e => e)
theorem text_ne {a b : ByteArray} (h : a ≠ b) : (a.toList == b.toList) = false := by
  rw [beq_eq_false_iff_ne]
  intro e
  rw [ByteArray.toList_eq, ByteArray.toList_eq] at e
  exact h (ByteArray.ext (Array.toList_inj.1 e))
-- find
def Fnd (k : ByteArray) (r : List Rec) (i : Int) : Prop := (rget k r = none ∧ i = -1) ∨ ∃ (n : Nat) (d : ByteArray), i = n ∧ r[n]? = some (k, d) ∧ rget k r = some d
set_option maxRecDepth 20000 in
set_option maxHeartbeats 3200000 in
theorem findC {B : Nat} (v : Value) (r : List Rec) (k : ByteArray) (w : World) (h : Lr B v r w) (hs : Srt r) (hl : r.length ≤ 140737488355328) :
    Calls Tryz.prog 107 #[v, .string k] w fun e w' => (∃ i, e = .returned (.int .i64 i) ∧ Fnd k r i) ∧ w' = w := by
  obtain ⟨a, c, rfl⟩ := lr_form h
  have H : Hid _ := h
  have HS : Hid _ := hs
  clear h hs
  go_enter Tryz.func107, Tryz.ntmps107
  go_wp2_with fail
  go_loop [5] (fun iv => ∃ j : Nat, j ≤ r.length ∧ iv = .int .i64 j ∧ Hid (∀ y ∈ r.take j, y.1 ≠ k)) (fun iv => (r.length - intOf iv).toNat)
  case atStart => exact ⟨0, Nat.zero_le _, rfl, fun y hy => by cases hy⟩
  case round =>
    obtain ⟨j, hj, rfl, HJ⟩ := hrel
    by_cases hlt : j < r.length
    · have hlt' : (j : Int) < r.length := by omega
      obtain ⟨p, hp⟩ : ∃ p, r[j]? = some p := ⟨_, List.getElem?_eq_getElem hlt⟩
      obtain ⟨g, rfl, _, c0, c1⟩ := lr_at H.out j p hp
      have HP : Hid _ := hp
      clear hp
      obtain ⟨pk, pd⟩ := p
      by_cases e : pk = k
      · subst e
        have t1 : (pk.toList == pk.toList) = true := by simp
        go_wp2
        go_ret
        exact ⟨⟨j, rfl, .inr ⟨j, pd, rfl, HP.out, (get_some HS.out).2 (List.mem_of_getElem? HP.out)⟩⟩, rfl⟩
      · have t1 : (pk.toList == k.toList) = false := text_ne e
        have HE : Hid _ := e
        clear e
        go_wp2
        go_round
        case rel => exact ⟨j + 1, by omega, by go_num, fun y hy => by
          rw [List.take_add_one, HP.out] at hy
          rcases List.mem_append.1 hy with h | h
          · exact HJ.out y h
          · simp at h; subst h; exact HE.out⟩
        case measure => simp [intOf]; omega
    · have hlt' : ¬ (j : Int) < r.length := by omega
      have HN : Hid (rget k r = none) := get_none.2 (by have h := HJ.out; rw [List.take_of_length_le (by omega)] at h; exact h)
      go_wp2
      go_ret
      exact ⟨⟨-1, rfl, .inl ⟨HN.out, rfl⟩⟩, rfl⟩
-- counts
set_option maxRecDepth 20000 in
set_option maxHeartbeats 3200000 in
theorem cntsC {B : Nat} (v : Value) (r : List Rec) (w : World) (h : Lr B v r w) (hok : OkR r) (hl : r.length < 3518437208883) :
    Calls Tryz.prog 96 #[v] w fun e w' => e = .returned (.int .i64 (tot r : Nat)) ∧ ∃ n, w' = w.drewN n := by
  obtain ⟨a, c, rfl⟩ := lr_form h
  have htot := hok.tot
  have H : Hid _ := h
  have HK : Hid _ := hok
  clear h hok
  go_enter Tryz.func96, Tryz.ntmps96
  go_wp2_with fail
  go_loopw [3, 4] (fun nv iv wr => ∃ j : Nat, j ≤ r.length ∧ iv = .int .i64 j ∧ nv = .int .i64 ((tot (r.take j) : Nat) : Int) ∧ Hid (∃ n, wr = w.drewN n)) (fun _ iv _ => (r.length - intOf iv).toNat)
  case atStart => exact ⟨0, Nat.zero_le _, rfl, rfl, ⟨0, rfl⟩⟩
  case round =>
    obtain ⟨j, hj, rfl, rfl, HW⟩ := hrel
    have hle := tot_take_le r j
    by_cases hlt : j < r.length
    · have hlt' : (j : Int) < r.length := by omega
      obtain ⟨p, hp⟩ : ∃ p, r[j]? = some p := ⟨_, List.getElem?_eq_getElem hlt⟩
      have hz := HK.out p (List.mem_of_getElem? hp)
      have htk := tot_take r j p hp
      have hr : Lr B (.slice a r.length c) r wr := by obtain ⟨n, hn⟩ := HW.out; rw [hn]; exact Lr.later H.out (za.below_dN (Below.refl _ _) n)
      obtain ⟨g, rfl, _, c0, c1⟩ := lr_at hr j p hp
      clear hp hr
      obtain ⟨pk, pd⟩ := p
      simp only at c0 c1 hz htk
      obtain ⟨T, HT⟩ : ∃ T : Nat, Hid (tot (r.take j) = T) := ⟨_, rfl⟩
      rw [HT.out] at htk hle ⊢
      have HTK : Hid _ := htk
      have hT : (T : Int) ≤ 4000000000000000000 := by omega
      have hz1 : (pk.size : Int) ≤ 64 := by omega
      have hz2 : (pd.size : Int) ≤ 1048576 := by omega
      clear htk hz htot
      go_upto_region 5 with fail
      go_quiet (fail)
      obtain ⟨wd, HWD⟩ : ∃ wd, wd = wr.drewN nq := ⟨_, rfl⟩
      have HWD2 : Hid (∃ n, wd = w.drewN n) := by
        obtain ⟨n, hn⟩ := HW.out
        rw [HWD, hn]
        exact ⟨n + nq, by rw [World.drewN_drewN]⟩
      rw [← HWD]
      clear HWD
      go_wp2
      go_roundw
      case rel => exact ⟨j + 1, by omega, by go_num, by rw [HTK.out]; simp only [cnt]; go_num, HWD2.out⟩
      case measure => simp [intOf]; omega
    · have hlt' : ¬ (j : Int) < r.length := by omega
      obtain rfl : j = r.length := by omega
      have HTL : Hid (r.take r.length = r) := List.take_length
      rw [HTL.out]
      go_wp2
      go_ret
      exact ⟨rfl, HW.out⟩
end Go.Proofs.YtlkkibiedlakfaaGreat.xa

namespace Go.Proofs.YtlkkibiedlakfaaGreat.xb
open Go.RowKit Go.PlainAid Go.Maps Go.Shelf
open Go.Proofs.YtlkkibiedlakfaaGreat.ca Go.Proofs.YtlkkibiedlakfaaGreat.cb Go.Proofs.YtlkkibiedlakfaaGreat.cp Go.Proofs.YtlkkibiedlakfaaGreat.kp Go.Proofs.YtlkkibiedlakfaaGreat.ka Go.Proofs.YtlkkibiedlakfaaGreat.ya Go.Proofs.YtlkkibiedlakfaaGreat.yb Go.Proofs.YtlkkibiedlakfaaGreat.yc Go.Proofs.YtlkkibiedlakfaaGreat.ye Go.Proofs.YtlkkibiedlakfaaGreat.yf Go.Proofs.YtlkkibiedlakfaaGreat.yo Go.Proofs.YtlkkibiedlakfaaGreat.zf Go.Proofs.YtlkkibiedlakfaaGreat.xa
set_option linter.unusedVariables false
set_option linter.unusedSimpArgs false
theorem info_R : (Tryz.prog.info? 82).map (fun i => (i.zero, i.size, i.bytes)) = some (some (.agg #[.string ByteArray.empty, .string ByteArray.empty]), 2, 32) := by kernel_rfl
theorem info_W : (Tryz.prog.info? 109).map (fun i => (i.zero, i.size, i.bytes)) = some (some (.agg #[.string ByteArray.empty, .string ByteArray.empty, .bool false]), 3, 40) := by kernel_rfl
-- one write done to a list
def dn (k d : ByteArray) : List Rec → Bool → List Rec
  | [], put => if put then [] else [(k, d)]
  | y :: l, put => (if !put && !(lt y.1 k) then [(k, d)] else []) ++ ((if y.1 = k then [] else [y]) ++ dn k d l (put || !(lt y.1 k)))
theorem dn_true (k d : ByteArray) (l : List Rec) : dn k d l true = del k l := by
  induction l with
  | nil => rfl
  | cons y l ih =>
    unfold dn
    simp only [Bool.not_true, Bool.false_and, Bool.false_eq_true, if_false, List.nil_append, Bool.true_or, ih]
    unfold del
    by_cases e : y.1 = k <;> simp [e]
theorem ins_first (x : Rec) (l : List Rec) (h : ∀ y ∈ l, lt x.1 y.1 = true) : ins x l = x :: l := by
  cases l with
  | nil => rfl
  | cons y l => unfold ins; rw [if_pos (h y (by simp))]
theorem dn_false (k d : ByteArray) (l : List Rec) (hs : Srt l) : dn k d l false = put k d l := by
  induction l with
  | nil => rfl
  | cons y l ih =>
    have hs2 := List.pairwise_cons.1 hs
    unfold dn
    cases h : lt y.1 k with
    | true =>
      have hne : y.1 ≠ k := lt_ne h
      have hd : del k (y :: l) = y :: del k l := by unfold del; simp [hne]
      simp only [Bool.not_true, Bool.and_false, Bool.false_eq_true, if_false, List.nil_append, Bool.or_false, hne]
      rw [ih hs2.2]
      unfold put
      rw [hd]
      show _ = ins (k, d) (y :: del k l)
      rw [ins, if_neg (by simp [lt_asym h])]
      rfl
    | false =>
      simp only [Bool.not_false, Bool.and_true, if_true, Bool.or_true, dn_true]
      unfold put
      by_cases e : y.1 = k
      · have hd : del k (y :: l) = del k l := by unfold del; simp [e]
        rw [if_pos e, hd, ins_first (k, d) (del k l) (fun z hz => by rw [← e]; exact hs2.1 z (mem_del.1 hz).1)]
        rfl
      · have hd : del k (y :: l) = y :: del k l := by unfold del; simp [e]
        have hk : lt k y.1 = true := by
          rcases lt_tot y.1 k e with h2 | h2
          · rw [h2] at h; cases h
          · exact h2
        rw [if_neg e, hd]
        show _ = ins (k, d) (y :: del k l)
        rw [ins, if_pos hk]
        rfl
theorem dn_doW (x : W) (l : List Rec) (hs : Srt l) : dn x.key x.data l x.cut = doW l x := by
  unfold doW
  cases x.cut with
  | true => exact dn_true _ _ _
  | false => exact dn_false _ _ _ hs
theorem dn_at (k d : ByteArray) {r : List Rec} {j : Nat} {p : Rec} (hp : r[j]? = some p) (put : Bool) : dn k d (r.drop j) put = (if !put && !(lt p.1 k) then [(k, d)] else []) ++ ((if p.1 = k then [] else [p]) ++ dn k d (r.drop (j + 1)) (put || !(lt p.1 k))) := by
  obtain ⟨hj, e⟩ := List.getElem?_eq_some_iff.1 hp
  rw [List.drop_eq_getElem_cons hj, e]
  rfl
theorem less_is (a b : ByteArray) : Op.bytesLess a.toList b.toList = lt a b := by
  rw [za.bytes_is, ByteArray.toList_eq, ByteArray.toList_eq]; rfl
-- a row of records of the call's own grows by one
structure Gr (B : Nat) (w : World) (v : Value) (l : List Rec) (w' : World) : Prop where
  own : Lr B v l w'
  bl : Below B w w'
theorem one_rc (k d : ByteArray) : ∀ u ∈ [Value.string k, .string d], u.oneCell' = true := by
  intro u hu; simp only [List.mem_cons, List.not_mem_nil, or_false] at hu; rcases hu with rfl | rfl <;> rfl
theorem Gr.later {B : Nat} {w w1 w2 : World} {v : Value} {l : List Rec} (h : Gr B w v l w1) (b : Below w1.heap.size w1 w2) (hB : B ≤ w.heap.size) : Gr B w v l w2 := ⟨Lr.later h.own b, h.bl.trans (b.mono (Nat.le_trans hB h.bl.size))⟩
theorem Gr.grown {B : Nat} {w w1 w2 : World} {v v' : Value} {l : List Rec} {k d : ByteArray} (h : Gr B w v l w1) (hB : B ≤ w.heap.size) (o : w2.ownsRow B 82 2 v' (l.length + 1) (rcs l ++ [.string k, .string d])) (hg : w1.grownBy w2 v.ownBlock) : Gr B w v' (l ++ [(k, d)]) w2 := by
  refine ⟨?_, h.bl.grown hg (Nat.le_trans hB h.bl.size) (fun j hj => (h.own.lt _ hj).1)⟩
  have e : (l ++ [(k, d)]).length = l.length + 1 := by simp
  show w2.ownsRow B 82 2 v' (l ++ [(k, d)]).length (rcs (l ++ [(k, d)]))
  rw [e, rcs_app]
  exact o
theorem tw1 : (82 : Nat) ≠ 109 := by decide
structure Dn (k d : ByteArray) (cut : Bool) (w : World) (ov : Value) (out : List Rec) (wr : World) : Prop where
  gr : Gr w.heap.size w ov out wr
  box : wr.heap[w.heap.size]? = some (.cells #[.string k, .string d, .bool cut] 109 (0, 0))
theorem Dn.later {k d : ByteArray} {cut : Bool} {w w1 w2 : World} {ov : Value} {out : List Rec} (h : Dn k d cut w ov out w1) (b : Below w1.heap.size w1 w2) : Dn k d cut w ov out w2 :=
  ⟨h.gr.later b (Nat.le_refl _), (b.block _ (Array.getElem?_eq_some_iff.1 h.box).1).trans h.box⟩
theorem Dn.grown {k d : ByteArray} {cut : Bool} {w w1 w2 : World} {v v' : Value} {l : List Rec} {x y : ByteArray} (h : Dn k d cut w v l w1) (o : w2.ownsRow w.heap.size 82 2 v' (l.length + 1) (rcs l ++ [.string x, .string y])) (hg : w1.grownBy w2 v.ownBlock) : Dn k d cut w v' (l ++ [(x, y)]) w2 :=
  ⟨h.gr.grown (Nat.le_refl _) o hg, (hg.block _ (Array.getElem?_eq_some_iff.1 h.box).1 (own_tag h.gr.own h.box tw1)).trans h.box⟩
theorem Dn.cells {k d : ByteArray} {cut : Bool} {w w1 : World} {ov : Value} {out : List Rec} (h : Dn k d cut w ov out w1) : w1.cell? ⟨w.heap.size, 0, none⟩ = some (.string k) ∧ w1.cell? ⟨w.heap.size, 1, none⟩ = some (.string d) ∧ w1.cell? ⟨w.heap.size, 2, none⟩ = some (.bool cut) :=
  ⟨cell_of_row _ _ 0 _ _ _ h.box, cell_of_row _ _ 1 _ _ _ h.box, cell_of_row _ _ 2 _ _ _ h.box⟩
set_option maxRecDepth 40000 in
set_option maxHeartbeats 12800000 in
theorem doneC0 {B : Nat} (v : Value) (r : List Rec) (k d : ByteArray) (cut : Bool) (R : List Rec) (w : World) (h : Lr B v r w) (HR : Hid (dn k d r cut = R)) (hl : r.length < 3518437208883) :
    Calls Tryz.prog 55 #[v, .agg #[.string k, .string d, .bool cut]] w fun e w' => ∃ v', e = .returned v' ∧ Gr w.heap.size w v' R w' := by
  obtain ⟨a, c, rfl⟩ := lr_form h
  obtain ⟨i0, hi0, hz0, hz1, hz2⟩ := info_parts info_R
  have HIN : Hid (_ ∧ _ ∧ _ ∧ _) := ⟨hi0, hz0, hz1, hz2⟩
  clear hi0 hz0 hz1 hz2
  have H0 : Hid (Lr B (.slice a r.length c) r w) := h
  have D0 : Hid (Dn k d cut w (.slice none 0 0) [] (w.alloc (.cells #[.string k, .string d, .bool cut] 109))) := ⟨⟨World.ownsRow_nil _ _ _ _, (Below.refl _ w).alloc (Nat.le_refl _) _⟩, heap_alloc_new w _⟩
  have HIC : Hid (∀ (j : Nat) (p : Rec), r[j]? = some p → ∃ g, a = some ⟨g, 0, none⟩ ∧ ∀ wx, Below w.heap.size w wx → wx.cell? ⟨g, j * 2, none⟩ = some (.string p.1) ∧ wx.cell? ⟨g, j * 2 + 1, none⟩ = some (.string p.2)) := fun j p hp => by
    obtain ⟨g, e, hg, c0, c1⟩ := lr_at H0.out j p hp
    exact ⟨g, e, fun wx b => ⟨(b.cell hg).trans c0, (b.cell hg).trans c1⟩⟩
  clear h
  obtain ⟨pb, hpb⟩ : ∃ x, w.heap.size = x := ⟨_, rfl⟩
  go_enter Tryz.func55, Tryz.ntmps55
  go_wp2_with fail
  go_loopw [5, 6, 7] (fun ov qv iv wr => ∃ (j : Nat) (out : List Rec) (put : Bool), iv = .int .i64 j ∧ j ≤ r.length ∧ qv = .bool put ∧ Hid (out ++ dn k d (r.drop j) put = R) ∧ Hid (out.length + (if put then 0 else 1) ≤ j + 1) ∧ Hid (Dn k d cut w ov out wr)) (fun _ _ iv _ => (r.length - intOf iv).toNat)
  case atStart => exact ⟨0, [], cut, rfl, Nat.zero_le _, rfl, by rw [List.drop_zero]; exact HR.out, by show _ ≤ _; cases cut <;> simp, D0.out⟩
  case round =>
    clear D0
    obtain ⟨j, out, put, rfl, hj, rfl, HD, HL, HN⟩ := hrel
    obtain ⟨oa, oc, rfl⟩ := lr_form HN.out.gr.own
    obtain ⟨n, Hn⟩ : ∃ n, Hid (out.length = n) := ⟨_, rfl⟩
    have hnb : n ≤ j + 1 := by have h1 := Hn.out; have h2 := HL.out; omega
    rw [Hn.out] at HN ⊢
    by_cases hlt : j < r.length
    · have hlt' : (j : Int) < r.length := by omega
      obtain ⟨p, hp⟩ : ∃ p, r[j]? = some p := ⟨_, List.getElem?_eq_getElem hlt⟩
      obtain ⟨g, rfl, hic⟩ := HIC.out j p hp
      have HC : Hid _ := hic
      have hd := dn_at k d hp put
      rw [hd] at HD
      obtain ⟨pk, pd⟩ := p
      simp only at HC HD
      have HDD : Hid _ := HD.out
      clear hic hd hp HD
      obtain ⟨c0, c1⟩ := HC.out wr HN.out.gr.bl
      obtain ⟨x0, x1, x2⟩ := HN.out.cells
      rw [hpb] at x0 x1 x2
--ROUND
      have hways : ((put = false ∧ lt pk k = false) ∧ pk ≠ k) ∨ ((put = false ∧ lt pk k = false) ∧ pk = k) ∨ ((put = false ∧ lt pk k = true) ∧ pk ≠ k) ∨ (put = true ∧ pk ≠ k) ∨ (put = true ∧ pk = k) := by
        cases put with
        | true => by_cases e : pk = k <;> simp [e]
        | false =>
          cases h : lt pk k with
          | true => simp [lt_ne h]
          | false => by_cases e : pk = k <;> simp [e]
      rcases hways with ⟨hA, hE⟩ | ⟨hA, hE⟩ | ⟨hA, hE⟩ | ⟨hA, hE⟩ | ⟨hA, hE⟩
      · -- A E
        have hlt2 : Op.bytesLess pk.toList k.toList = false := by rw [less_is]; exact hA.2
        obtain rfl : put = false := hA.1
        have hne : (pk.toList == k.toList) = false := text_ne hE
        have HEND : Hid ((out ++ [(k, d)] ++ [(pk, pd)]) ++ dn k d (r.drop (j + 1)) true = R) := by
          have h := HDD.out
          rw [hA.2] at h
          show _ = _
          simpa [hE] using h
        clear HDD hE hA
        have HL2 : n + 1 ≤ j + 1 := by have h1 := Hn.out; have h2 := HL.out; simp at h2; omega
        go_upto_region 6 with fail
        go_quiet (fail)
        obtain ⟨wd, Hwd⟩ : ∃ x, x = wr.drewN nq := ⟨_, rfl⟩
        have N1 : Hid (Dn k d cut w (.slice oa n oc) out wd) := by rw [Hwd]; exact HN.out.later (za.below_dN (Below.refl _ _) nq)
        try rw [← Hwd]
        clear Hwd
        obtain ⟨c0wd, c1wd⟩ := HC.out wd N1.out.gr.bl
        obtain ⟨x0wd, x1wd, x2wd⟩ := N1.out.cells
        rw [hpb] at x0wd x1wd x2wd
        have hswd : pb ≤ wd.heap.size := by rw [← hpb]; exact N1.out.gr.bl.size
        have MN2 : Hid (Dn k d cut w (.slice oa n oc) out (wd.alloc (.cells #[.string k, .string d] 82))) := N1.out.later ((Below.refl _ wd).alloc (Nat.le_refl _) _)
        have RN2 : Hid (World.ownsRow (wd.alloc (.cells #[.string k, .string d] 82)) w.heap.size 82 2 (.slice oa n oc) (n) (rcs out)) := by have this : World.ownsRow (wd.alloc (.cells #[.string k, .string d] 82)) w.heap.size 82 2 (.slice oa n oc) (out).length (rcs out) := MN2.out.gr.own; simp only [List.length_append, List.length_cons, List.length_nil, Nat.zero_add, Hn.out] at this; exact this
        go_upto_region 9 with (first | (at_builtin; (refine wpList_append_own _ rfl _ _ 60 rfl w.heap.size 82 i0 (.agg #[.string ByteArray.empty, .string ByteArray.empty]) 2 32 Tryz.underlying60 HIN.out.1 HIN.out.2.1 HIN.out.2.2.1 HIN.out.2.2.2 rfl (by decide) _ (n) _ rfl RN2.out ⟨wd.heap.size, 0, none⟩ 1 1 [.string k, .string d] rfl rfl (zc.new_two _ _ _ _) (one_rc _ _) (by unfold maxLen; omega) (by omega) (by simp; omega) ?_; intro v5 w5 ho hg hnn; have HON2 : Hid (World.ownsRow _ _ _ _ _ _ _) := ho; have HGN2 : Hid (World.grownBy _ _ _) := hg; clear ho hg hnn)) | go_in)
        have N2 : Hid (Dn k d cut w v5 (out ++ [(k, d)]) w5) := MN2.out.grown (by have := HON2.out; simp only [List.length_append, List.length_cons, List.length_nil, Nat.zero_add, Hn.out]; exact this) HGN2.out
        clear MN2 RN2 HON2 HGN2
        obtain ⟨c0w5, c1w5⟩ := HC.out w5 N2.out.gr.bl
        obtain ⟨x0w5, x1w5, x2w5⟩ := N2.out.cells
        rw [hpb] at x0w5 x1w5 x2w5
        go_upto_region 9 with fail
        go_quiet (fail)
        obtain ⟨we, Hwe⟩ : ∃ x, x = w5.drewN nq := ⟨_, rfl⟩
        have N3 : Hid (Dn k d cut w v5 (out ++ [(k, d)]) we) := by rw [Hwe]; exact N2.out.later (za.below_dN (Below.refl _ _) nq)
        try rw [← Hwe]
        clear Hwe
        obtain ⟨c0we, c1we⟩ := HC.out we N3.out.gr.bl
        obtain ⟨x0we, x1we, x2we⟩ := N3.out.cells
        rw [hpb] at x0we x1we x2we
        have hswe : pb ≤ we.heap.size := by rw [← hpb]; exact N3.out.gr.bl.size
        have MN4 : Hid (Dn k d cut w v5 (out ++ [(k, d)]) (we.alloc (.cells #[.string pk, .string pd] 82))) := N3.out.later ((Below.refl _ we).alloc (Nat.le_refl _) _)
        have RN4 : Hid (World.ownsRow (we.alloc (.cells #[.string pk, .string pd] 82)) w.heap.size 82 2 v5 (n + 1) (rcs (out ++ [(k, d)]))) := by have this : World.ownsRow (we.alloc (.cells #[.string pk, .string pd] 82)) w.heap.size 82 2 v5 ((out ++ [(k, d)])).length (rcs (out ++ [(k, d)])) := MN4.out.gr.own; simp only [List.length_append, List.length_cons, List.length_nil, Nat.zero_add, Hn.out] at this; exact this
        go_wp2_with (first | (at_builtin; (refine wpList_append_own _ rfl _ _ 60 rfl w.heap.size 82 i0 (.agg #[.string ByteArray.empty, .string ByteArray.empty]) 2 32 Tryz.underlying60 HIN.out.1 HIN.out.2.1 HIN.out.2.2.1 HIN.out.2.2.2 rfl (by decide) _ (n + 1) _ rfl RN4.out ⟨we.heap.size, 0, none⟩ 1 1 [.string pk, .string pd] rfl rfl (zc.new_two _ _ _ _) (one_rc _ _) (by unfold maxLen; omega) (by omega) (by simp; omega) ?_; intro v6 w6 ho hg hnn; have HON4 : Hid (World.ownsRow _ _ _ _ _ _ _) := ho; have HGN4 : Hid (World.grownBy _ _ _) := hg; clear ho hg hnn)) | go_in)
        have N4 : Hid (Dn k d cut w v6 ((out ++ [(k, d)]) ++ [(pk, pd)]) w6) := MN4.out.grown (by have := HON4.out; simp only [List.length_append, List.length_cons, List.length_nil, Nat.zero_add, Hn.out]; exact this) HGN4.out
        clear MN4 RN4 HON4 HGN4
        go_roundw
        case rel => exact ⟨j + 1, ((out ++ [(k, d)]) ++ [(pk, pd)]), true, by go_num, by omega, rfl, HEND.out, by have h1 := Hn.out; have h2 := HL2; show _ ≤ _; simp; omega, N4.out⟩
        case measure => simp [intOf]; omega
      · -- A D
        have hlt2 : Op.bytesLess pk.toList k.toList = false := by rw [less_is]; exact hA.2
        obtain rfl : put = false := hA.1
        subst hE
        have hne : (pk.toList == pk.toList) = true := by simp
        have HEND : Hid ((out ++ [(pk, d)]) ++ dn pk d (r.drop (j + 1)) true = R) := by
          have h := HDD.out
          rw [hA.2] at h
          show _ = _
          simpa using h
        clear HDD hA
        have HL2 : n + 1 ≤ j + 1 := by have h1 := Hn.out; have h2 := HL.out; simp at h2; omega
        go_upto_region 6 with fail
        go_quiet (fail)
        obtain ⟨wd, Hwd⟩ : ∃ x, x = wr.drewN nq := ⟨_, rfl⟩
        have N1 : Hid (Dn pk d cut w (.slice oa n oc) out wd) := by rw [Hwd]; exact HN.out.later (za.below_dN (Below.refl _ _) nq)
        try rw [← Hwd]
        clear Hwd
        obtain ⟨c0wd, c1wd⟩ := HC.out wd N1.out.gr.bl
        obtain ⟨x0wd, x1wd, x2wd⟩ := N1.out.cells
        rw [hpb] at x0wd x1wd x2wd
        have hswd : pb ≤ wd.heap.size := by rw [← hpb]; exact N1.out.gr.bl.size
        have MN2 : Hid (Dn pk d cut w (.slice oa n oc) out (wd.alloc (.cells #[.string pk, .string d] 82))) := N1.out.later ((Below.refl _ wd).alloc (Nat.le_refl _) _)
        have RN2 : Hid (World.ownsRow (wd.alloc (.cells #[.string pk, .string d] 82)) w.heap.size 82 2 (.slice oa n oc) (n) (rcs out)) := by have this : World.ownsRow (wd.alloc (.cells #[.string pk, .string d] 82)) w.heap.size 82 2 (.slice oa n oc) (out).length (rcs out) := MN2.out.gr.own; simp only [List.length_append, List.length_cons, List.length_nil, Nat.zero_add, Hn.out] at this; exact this
        go_upto_region 9 with (first | (at_builtin; (refine wpList_append_own _ rfl _ _ 60 rfl w.heap.size 82 i0 (.agg #[.string ByteArray.empty, .string ByteArray.empty]) 2 32 Tryz.underlying60 HIN.out.1 HIN.out.2.1 HIN.out.2.2.1 HIN.out.2.2.2 rfl (by decide) _ (n) _ rfl RN2.out ⟨wd.heap.size, 0, none⟩ 1 1 [.string pk, .string d] rfl rfl (zc.new_two _ _ _ _) (one_rc _ _) (by unfold maxLen; omega) (by omega) (by simp; omega) ?_; intro v5 w5 ho hg hnn; have HON2 : Hid (World.ownsRow _ _ _ _ _ _ _) := ho; have HGN2 : Hid (World.grownBy _ _ _) := hg; clear ho hg hnn)) | go_in)
        have N2 : Hid (Dn pk d cut w v5 (out ++ [(pk, d)]) w5) := MN2.out.grown (by have := HON2.out; simp only [List.length_append, List.length_cons, List.length_nil, Nat.zero_add, Hn.out]; exact this) HGN2.out
        clear MN2 RN2 HON2 HGN2
        obtain ⟨c0w5, c1w5⟩ := HC.out w5 N2.out.gr.bl
        obtain ⟨x0w5, x1w5, x2w5⟩ := N2.out.cells
        rw [hpb] at x0w5 x1w5 x2w5
        go_upto_region 9 with fail
        go_quiet (fail)
        obtain ⟨we, Hwe⟩ : ∃ x, x = w5.drewN nq := ⟨_, rfl⟩
        have N3 : Hid (Dn pk d cut w v5 (out ++ [(pk, d)]) we) := by rw [Hwe]; exact N2.out.later (za.below_dN (Below.refl _ _) nq)
        try rw [← Hwe]
        clear Hwe
        obtain ⟨c0we, c1we⟩ := HC.out we N3.out.gr.bl
        obtain ⟨x0we, x1we, x2we⟩ := N3.out.cells
        rw [hpb] at x0we x1we x2we
        have hswe : pb ≤ we.heap.size := by rw [← hpb]; exact N3.out.gr.bl.size
        go_wp2
        go_roundw
        case rel => exact ⟨j + 1, (out ++ [(pk, d)]), true, by go_num, by omega, rfl, HEND.out, by have h1 := Hn.out; have h2 := HL2; show _ ≤ _; simp; omega, N3.out⟩
        case measure => simp [intOf]; omega
      · -- B E
        have hlt2 : Op.bytesLess pk.toList k.toList = true := by rw [less_is]; exact hA.2
        obtain rfl : put = false := hA.1
        have hne : (pk.toList == k.toList) = false := text_ne hE
        have HEND : Hid ((out ++ [(pk, pd)]) ++ dn k d (r.drop (j + 1)) false = R) := by
          have h := HDD.out
          rw [hA.2] at h
          show _ = _
          simpa [hE] using h
        clear HDD hE hA
        have HL2 : n + 1 ≤ j + 1 := by have h1 := Hn.out; have h2 := HL.out; simp at h2; omega
        go_upto_region 6 with fail
        go_quiet (fail)
        obtain ⟨wd, Hwd⟩ : ∃ x, x = wr.drewN nq := ⟨_, rfl⟩
        have N1 : Hid (Dn k d cut w (.slice oa n oc) out wd) := by rw [Hwd]; exact HN.out.later (za.below_dN (Below.refl _ _) nq)
        try rw [← Hwd]
        clear Hwd
        obtain ⟨c0wd, c1wd⟩ := HC.out wd N1.out.gr.bl
        obtain ⟨x0wd, x1wd, x2wd⟩ := N1.out.cells
        rw [hpb] at x0wd x1wd x2wd
        have hswd : pb ≤ wd.heap.size := by rw [← hpb]; exact N1.out.gr.bl.size
        go_upto_region 9 with fail
        go_quiet (fail)
        obtain ⟨we, Hwe⟩ : ∃ x, x = wd.drewN nq := ⟨_, rfl⟩
        have N3 : Hid (Dn k d cut w (.slice oa n oc) out we) := by rw [Hwe]; exact N1.out.later (za.below_dN (Below.refl _ _) nq)
        try rw [← Hwe]
        clear Hwe
        obtain ⟨c0we, c1we⟩ := HC.out we N3.out.gr.bl
        obtain ⟨x0we, x1we, x2we⟩ := N3.out.cells
        rw [hpb] at x0we x1we x2we
        have hswe : pb ≤ we.heap.size := by rw [← hpb]; exact N3.out.gr.bl.size
        have MN4 : Hid (Dn k d cut w (.slice oa n oc) out (we.alloc (.cells #[.string pk, .string pd] 82))) := N3.out.later ((Below.refl _ we).alloc (Nat.le_refl _) _)
        have RN4 : Hid (World.ownsRow (we.alloc (.cells #[.string pk, .string pd] 82)) w.heap.size 82 2 (.slice oa n oc) (n) (rcs out)) := by have this : World.ownsRow (we.alloc (.cells #[.string pk, .string pd] 82)) w.heap.size 82 2 (.slice oa n oc) (out).length (rcs out) := MN4.out.gr.own; simp only [List.length_append, List.length_cons, List.length_nil, Nat.zero_add, Hn.out] at this; exact this
        go_wp2_with (first | (at_builtin; (refine wpList_append_own _ rfl _ _ 60 rfl w.heap.size 82 i0 (.agg #[.string ByteArray.empty, .string ByteArray.empty]) 2 32 Tryz.underlying60 HIN.out.1 HIN.out.2.1 HIN.out.2.2.1 HIN.out.2.2.2 rfl (by decide) _ (n) _ rfl RN4.out ⟨we.heap.size, 0, none⟩ 1 1 [.string pk, .string pd] rfl rfl (zc.new_two _ _ _ _) (one_rc _ _) (by unfold maxLen; omega) (by omega) (by simp; omega) ?_; intro v6 w6 ho hg hnn; have HON4 : Hid (World.ownsRow _ _ _ _ _ _ _) := ho; have HGN4 : Hid (World.grownBy _ _ _) := hg; clear ho hg hnn)) | go_in)
        have N4 : Hid (Dn k d cut w v6 (out ++ [(pk, pd)]) w6) := MN4.out.grown (by have := HON4.out; simp only [List.length_append, List.length_cons, List.length_nil, Nat.zero_add, Hn.out]; exact this) HGN4.out
        clear MN4 RN4 HON4 HGN4
        go_roundw
        case rel => exact ⟨j + 1, (out ++ [(pk, pd)]), false, by go_num, by omega, rfl, HEND.out, by have h1 := Hn.out; have h2 := HL2; show _ ≤ _; simp; omega, N4.out⟩
        case measure => simp [intOf]; omega
      · -- C E
        skip
        obtain rfl : put = true := hA
        have hne : (pk.toList == k.toList) = false := text_ne hE
        have HEND : Hid ((out ++ [(pk, pd)]) ++ dn k d (r.drop (j + 1)) true = R) := by
          have h := HDD.out
          show _ = _
          simpa [hE] using h
        clear HDD hE
        have HL2 : n + 0 ≤ j + 1 := by have h1 := Hn.out; have h2 := HL.out; simp at h2; omega
        go_upto_region 6 with fail
        go_quiet (fail)
        obtain ⟨wd, Hwd⟩ : ∃ x, x = wr.drewN nq := ⟨_, rfl⟩
        have N1 : Hid (Dn k d cut w (.slice oa n oc) out wd) := by rw [Hwd]; exact HN.out.later (za.below_dN (Below.refl _ _) nq)
        try rw [← Hwd]
        clear Hwd
        obtain ⟨c0wd, c1wd⟩ := HC.out wd N1.out.gr.bl
        obtain ⟨x0wd, x1wd, x2wd⟩ := N1.out.cells
        rw [hpb] at x0wd x1wd x2wd
        have hswd : pb ≤ wd.heap.size := by rw [← hpb]; exact N1.out.gr.bl.size
        go_upto_region 9 with fail
        go_quiet (fail)
        obtain ⟨we, Hwe⟩ : ∃ x, x = wd.drewN nq := ⟨_, rfl⟩
        have N3 : Hid (Dn k d cut w (.slice oa n oc) out we) := by rw [Hwe]; exact N1.out.later (za.below_dN (Below.refl _ _) nq)
        try rw [← Hwe]
        clear Hwe
        obtain ⟨c0we, c1we⟩ := HC.out we N3.out.gr.bl
        obtain ⟨x0we, x1we, x2we⟩ := N3.out.cells
        rw [hpb] at x0we x1we x2we
        have hswe : pb ≤ we.heap.size := by rw [← hpb]; exact N3.out.gr.bl.size
        have MN4 : Hid (Dn k d cut w (.slice oa n oc) out (we.alloc (.cells #[.string pk, .string pd] 82))) := N3.out.later ((Below.refl _ we).alloc (Nat.le_refl _) _)
        have RN4 : Hid (World.ownsRow (we.alloc (.cells #[.string pk, .string pd] 82)) w.heap.size 82 2 (.slice oa n oc) (n) (rcs out)) := by have this : World.ownsRow (we.alloc (.cells #[.string pk, .string pd] 82)) w.heap.size 82 2 (.slice oa n oc) (out).length (rcs out) := MN4.out.gr.own; simp only [List.length_append, List.length_cons, List.length_nil, Nat.zero_add, Hn.out] at this; exact this
        go_wp2_with (first | (at_builtin; (refine wpList_append_own _ rfl _ _ 60 rfl w.heap.size 82 i0 (.agg #[.string ByteArray.empty, .string ByteArray.empty]) 2 32 Tryz.underlying60 HIN.out.1 HIN.out.2.1 HIN.out.2.2.1 HIN.out.2.2.2 rfl (by decide) _ (n) _ rfl RN4.out ⟨we.heap.size, 0, none⟩ 1 1 [.string pk, .string pd] rfl rfl (zc.new_two _ _ _ _) (one_rc _ _) (by unfold maxLen; omega) (by omega) (by simp; omega) ?_; intro v6 w6 ho hg hnn; have HON4 : Hid (World.ownsRow _ _ _ _ _ _ _) := ho; have HGN4 : Hid (World.grownBy _ _ _) := hg; clear ho hg hnn)) | go_in)
        have N4 : Hid (Dn k d cut w v6 (out ++ [(pk, pd)]) w6) := MN4.out.grown (by have := HON4.out; simp only [List.length_append, List.length_cons, List.length_nil, Nat.zero_add, Hn.out]; exact this) HGN4.out
        clear MN4 RN4 HON4 HGN4
        go_roundw
        case rel => exact ⟨j + 1, (out ++ [(pk, pd)]), true, by go_num, by omega, rfl, HEND.out, by have h1 := Hn.out; have h2 := HL2; show _ ≤ _; simp; omega, N4.out⟩
        case measure => simp [intOf]; omega
      · -- C D
        skip
        obtain rfl : put = true := hA
        subst hE
        have hne : (pk.toList == pk.toList) = true := by simp
        have HEND : Hid ((out) ++ dn pk d (r.drop (j + 1)) true = R) := by
          have h := HDD.out
          show _ = _
          simpa using h
        clear HDD
        have HL2 : n + 0 ≤ j + 1 := by have h1 := Hn.out; have h2 := HL.out; simp at h2; omega
        go_upto_region 6 with fail
        go_quiet (fail)
        obtain ⟨wd, Hwd⟩ : ∃ x, x = wr.drewN nq := ⟨_, rfl⟩
        have N1 : Hid (Dn pk d cut w (.slice oa n oc) out wd) := by rw [Hwd]; exact HN.out.later (za.below_dN (Below.refl _ _) nq)
        try rw [← Hwd]
        clear Hwd
        obtain ⟨c0wd, c1wd⟩ := HC.out wd N1.out.gr.bl
        obtain ⟨x0wd, x1wd, x2wd⟩ := N1.out.cells
        rw [hpb] at x0wd x1wd x2wd
        have hswd : pb ≤ wd.heap.size := by rw [← hpb]; exact N1.out.gr.bl.size
        go_upto_region 9 with fail
        go_quiet (fail)
        obtain ⟨we, Hwe⟩ : ∃ x, x = wd.drewN nq := ⟨_, rfl⟩
        have N3 : Hid (Dn pk d cut w (.slice oa n oc) out we) := by rw [Hwe]; exact N1.out.later (za.below_dN (Below.refl _ _) nq)
        try rw [← Hwe]
        clear Hwe
        obtain ⟨c0we, c1we⟩ := HC.out we N3.out.gr.bl
        obtain ⟨x0we, x1we, x2we⟩ := N3.out.cells
        rw [hpb] at x0we x1we x2we
        have hswe : pb ≤ we.heap.size := by rw [← hpb]; exact N3.out.gr.bl.size
        go_wp2
        go_roundw
        case rel => exact ⟨j + 1, out, true, by go_num, by omega, rfl, HEND.out, by have h1 := Hn.out; have h2 := HL2; show _ ≤ _; simp; omega, N3.out⟩
        case measure => simp [intOf]; omega
--END
--TAIL
    · have hlt' : ¬ (j : Int) < r.length := by omega
      have hdr : r.drop j = [] := List.drop_eq_nil_of_le (by omega)
      have HD2 := HD.out
      rw [hdr] at HD2
      have HDD : Hid (out ++ (if put then [] else [(k, d)]) = R) := HD2
      clear HD HD2 hdr
      obtain ⟨x0, x1, x2⟩ := HN.out.cells
      rw [hpb] at x0 x1 x2
      have hswr : pb ≤ wr.heap.size := by rw [← hpb]; exact HN.out.gr.bl.size
      cases put with
      | true =>
        have HE2 : Hid (out = R) := by have := HDD.out; show _ = _; simpa using this
        go_wp2
        go_ret
        exact ⟨_, rfl, by have h := HN.out.gr; rw [HE2.out, hpb] at h; exact h⟩
      | false =>
        have HE2 : Hid (out ++ [(k, d)] = R) := by have := HDD.out; show _ = _; simpa using this
        have MN2 : Hid (Dn k d cut w (.slice oa n oc) out (wr.alloc (.cells #[.string k, .string d] 82))) := HN.out.later ((Below.refl _ wr).alloc (Nat.le_refl _) _)
        have RN2 : Hid (World.ownsRow (wr.alloc (.cells #[.string k, .string d] 82)) w.heap.size 82 2 (.slice oa n oc) (n) (rcs out)) := by have this : World.ownsRow (wr.alloc (.cells #[.string k, .string d] 82)) w.heap.size 82 2 (.slice oa n oc) (out).length (rcs out) := MN2.out.gr.own; simp only [List.length_append, List.length_cons, List.length_nil, Nat.zero_add, Hn.out] at this; exact this
        go_wp2_with (first | (at_builtin; (refine wpList_append_own _ rfl _ _ 60 rfl w.heap.size 82 i0 (.agg #[.string ByteArray.empty, .string ByteArray.empty]) 2 32 Tryz.underlying60 HIN.out.1 HIN.out.2.1 HIN.out.2.2.1 HIN.out.2.2.2 rfl (by decide) _ (n) _ rfl RN2.out ⟨wr.heap.size, 0, none⟩ 1 1 [.string k, .string d] rfl rfl (zc.new_two _ _ _ _) (one_rc _ _) (by unfold maxLen; omega) (by omega) (by simp; omega) ?_; intro v5 w5 ho hg hnn; have HON2 : Hid (World.ownsRow _ _ _ _ _ _ _) := ho; have HGN2 : Hid (World.grownBy _ _ _) := hg; clear ho hg hnn)) | go_in)
        have N2 : Hid (Dn k d cut w v5 (out ++ [(k, d)]) w5) := MN2.out.grown (by have := HON2.out; simp only [List.length_append, List.length_cons, List.length_nil, Nat.zero_add, Hn.out]; exact this) HGN2.out
        clear MN2 RN2 HON2 HGN2
        go_ret
        exact ⟨_, rfl, by have h := N2.out.gr; rw [HE2.out, hpb] at h; exact h⟩
--TAILEND
theorem doneC {B : Nat} (v : Value) (r : List Rec) (x : W) (w : World) (h : Lr B v r w) (hs : Srt r) (hl : r.length < 3518437208883) :
    Calls Tryz.prog 55 #[v, .agg #[.string x.key, .string x.data, .bool x.cut]] w fun e w' => ∃ v', e = .returned v' ∧ Gr w.heap.size w v' (doW r x) w' :=
  doneC0 v r x.key x.data x.cut (doW r x) w h (dn_doW x r hs) hl
end Go.Proofs.YtlkkibiedlakfaaGreat.xb

namespace Go.Proofs.YtlkkibiedlakfaaGreat.xc
open Go.RowKit Go.PlainAid Go.Maps Go.Shelf
open Go.Proofs.YtlkkibiedlakfaaGreat.ca Go.Proofs.YtlkkibiedlakfaaGreat.cb Go.Proofs.YtlkkibiedlakfaaGreat.cp Go.Proofs.YtlkkibiedlakfaaGreat.kp Go.Proofs.YtlkkibiedlakfaaGreat.ka Go.Proofs.YtlkkibiedlakfaaGreat.ya Go.Proofs.YtlkkibiedlakfaaGreat.yb Go.Proofs.YtlkkibiedlakfaaGreat.yc Go.Proofs.YtlkkibiedlakfaaGreat.ye Go.Proofs.YtlkkibiedlakfaaGreat.yf Go.Proofs.YtlkkibiedlakfaaGreat.yi Go.Proofs.YtlkkibiedlakfaaGreat.yk Go.Proofs.YtlkkibiedlakfaaGreat.yl Go.Proofs.YtlkkibiedlakfaaGreat.zf Go.Proofs.YtlkkibiedlakfaaGreat.zg Go.Proofs.YtlkkibiedlakfaaGreat.xa Go.Proofs.YtlkkibiedlakfaaGreat.xb
set_option linter.unusedVariables false
set_option linter.unusedSimpArgs false
-- the document's store in memory, its state the program's own S
def ww (x : W) : List Value := [.string x.key, .string x.data, .bool x.cut]
def wws (l : List W) : List Value := l.flatMap ww
def dcells (dv wv vv : Value) (s : S) : List Value := [.int .i64 s.cap, dv, wv, .bool s.off, .int .i64 s.armed, .int .i64 s.age, vv]
def Dt (g : Nat) (dv wv vv : Value) (s : S) (w : World) : Prop := w.heap[g]? = some (.cells (dcells dv wv vv s).toArray 63 (0, 0))
structure Ds (B g : Nat) (dv wv vv : Value) (s : S) (w : World) : Prop where
  row : Dt g dv wv vv s w
  dl : Lr B dv s.dur w
  vl : Lr B vv (now s) w
  wl : w.ownsRow B 109 3 wv s.pend.length (wws s.pend)
  low : B ≤ g
  ok : OkS s
theorem Dt.lt {g : Nat} {dv wv vv : Value} {s : S} {w : World} (h : Dt g dv wv vv s w) : g < w.heap.size := (Array.getElem?_eq_some_iff.1 h).1
theorem Dt.c0 {g : Nat} {dv wv vv : Value} {s : S} {w : World} (h : Dt g dv wv vv s w) : w.cell? ⟨g, 0, none⟩ = some (.int .i64 s.cap) := cell_of_row _ _ 0 _ _ _ h
theorem Dt.c1 {g : Nat} {dv wv vv : Value} {s : S} {w : World} (h : Dt g dv wv vv s w) : w.cell? ⟨g, 1, none⟩ = some dv := cell_of_row _ _ 1 _ _ _ h
theorem Dt.c2 {g : Nat} {dv wv vv : Value} {s : S} {w : World} (h : Dt g dv wv vv s w) : w.cell? ⟨g, 2, none⟩ = some wv := cell_of_row _ _ 2 _ _ _ h
theorem Dt.c3 {g : Nat} {dv wv vv : Value} {s : S} {w : World} (h : Dt g dv wv vv s w) : w.cell? ⟨g, 3, none⟩ = some (.bool s.off) := cell_of_row _ _ 3 _ _ _ h
theorem Dt.c4 {g : Nat} {dv wv vv : Value} {s : S} {w : World} (h : Dt g dv wv vv s w) : w.cell? ⟨g, 4, none⟩ = some (.int .i64 s.armed) := cell_of_row _ _ 4 _ _ _ h
theorem Dt.c5 {g : Nat} {dv wv vv : Value} {s : S} {w : World} (h : Dt g dv wv vv s w) : w.cell? ⟨g, 5, none⟩ = some (.int .i64 s.age) := cell_of_row _ _ 5 _ _ _ h
theorem Dt.c6 {g : Nat} {dv wv vv : Value} {s : S} {w : World} (h : Dt g dv wv vv s w) : w.cell? ⟨g, 6, none⟩ = some vv := cell_of_row _ _ 6 _ _ _ h
theorem Dt.fz {g : Nat} {dv wv vv : Value} {s : S} {w : World} (h : Dt g dv wv vv s w) (i : Nat) : w.frozen? ⟨g, i, none⟩ = false := frozen_of_row _ _ i _ _ h
theorem Dt.set1 {g : Nat} {dv wv vv : Value} {s : S} {w : World} (h : Dt g dv wv vv s w) (v : Value) : Dt g v wv vv s (w.setCell ⟨g, 1, none⟩ v) := heap_setCell_same _ _ 1 _ _ _ h
theorem Dt.set2 {g : Nat} {dv wv vv : Value} {s : S} {w : World} (h : Dt g dv wv vv s w) (v : Value) : Dt g dv v vv s (w.setCell ⟨g, 2, none⟩ v) := heap_setCell_same _ _ 2 _ _ _ h
theorem Dt.set3 {g : Nat} {dv wv vv : Value} {s : S} {w : World} (h : Dt g dv wv vv s w) (v : Bool) : Dt g dv wv vv { s with off := v } (w.setCell ⟨g, 3, none⟩ (.bool v)) := heap_setCell_same _ _ 3 _ _ _ h
theorem Dt.set4 {g : Nat} {dv wv vv : Value} {s : S} {w : World} (h : Dt g dv wv vv s w) (v : Nat) : Dt g dv wv vv { s with armed := v } (w.setCell ⟨g, 4, none⟩ (.int .i64 v)) := heap_setCell_same _ _ 4 _ _ _ h
theorem Dt.set5 {g : Nat} {dv wv vv : Value} {s : S} {w : World} (h : Dt g dv wv vv s w) (v : Nat) : Dt g dv wv vv { s with age := v } (w.setCell ⟨g, 5, none⟩ (.int .i64 v)) := heap_setCell_same _ _ 5 _ _ _ h
theorem Dt.set6 {g : Nat} {dv wv vv : Value} {s : S} {w : World} (h : Dt g dv wv vv s w) (v : Value) : Dt g dv wv v s (w.setCell ⟨g, 6, none⟩ v) := heap_setCell_same _ _ 6 _ _ _ h
theorem dr1 : (82 : Nat) ≠ 63 := by decide
theorem dr2 : (109 : Nat) ≠ 63 := by decide
-- what a call writes to in place: the store's own block, and the row of writes
def Fd (g : Nat) (wv : Value) (k : Nat) : Prop := k = g ∨ some k = wv.ownBlock
def Rd (B g : Nat) (wv : Value) (s : S) (w w' : World) : Prop := ∃ dv' wv' vv', Ds B g dv' wv' vv' s w' ∧ Kp (Fd g wv) w w' ∧ ∀ k, some k = wv'.ownBlock → some k = wv.ownBlock ∨ w.heap.size ≤ k
theorem Ds.keep {A : Nat → Prop} {B g : Nat} {dv wv vv : Value} {s : S} {w w' : World} (h : Ds B g dv wv vv s w) (k : Kp A w w') (h1 : ¬ A g) (h2 : ∀ j, some j = wv.ownBlock → ¬ A j) (h3 : ∀ j, some j = dv.ownBlock → ¬ A j) (h4 : ∀ j, some j = vv.ownBlock → ¬ A j) : Ds B g dv wv vv s w' :=
  ⟨(k.block _ h.row.lt h1).trans h.row, own_kp h.dl k h3, own_kp h.vl k h4, own_kp h.wl k h2, h.low, h.ok⟩
theorem Ds.later {B g : Nat} {dv wv vv : Value} {s : S} {w w' : World} (h : Ds B g dv wv vv s w) (b : Below w.heap.size w w') : Ds B g dv wv vv s w' := h.keep (Kp.of_below (A := fun _ => False) b) (fun e => e) (fun _ _ e => e) (fun _ _ e => e) (fun _ _ e => e)
theorem Rd.refl {B g : Nat} {dv wv vv : Value} {s : S} {w w' : World} (h : Ds B g dv wv vv s w) (b : Below w.heap.size w w') : Rd B g wv s w w' := ⟨dv, wv, vv, h.later b, Kp.of_below b, fun k hk => .inl hk⟩
-- the store's own block turned: the rows stay
theorem ds_row {B g : Nat} {dv wv vv : Value} {s s' : S} {w w' : World} (h : Ds B g dv wv vv s w) (hr : Dt g dv wv vv s' w') (k : Kp (fun q => q = g) w w') (e1 : s'.dur = s.dur) (e2 : s'.pend = s.pend) (ok : OkS s') : Ds B g dv wv vv s' w' := by
  have en : now s' = now s := by unfold now; rw [e1, e2]
  refine ⟨hr, ?_, ?_, ?_, h.low, ok⟩
  · rw [e1]; exact own_kp h.dl k (fun j hj e => own_tag h.dl h.row dr1 (by rw [← e]; exact hj))
  · rw [en]; exact own_kp h.vl k (fun j hj e => own_tag h.vl h.row dr1 (by rw [← e]; exact hj))
  · rw [e2]; exact own_kp h.wl k (fun j hj e => own_tag h.wl h.row dr2 (by rw [← e]; exact hj))
theorem rd_row {B g : Nat} {dv wv vv : Value} {s s' : S} {w w' : World} (h : Ds B g dv wv vv s w) (hr : Dt g dv wv vv s' w') (k : Kp (fun q => q = g) w w') (e1 : s'.dur = s.dur) (e2 : s'.pend = s.pend) (ok : OkS s') : Rd B g wv s' w w' :=
  ⟨dv, wv, vv, ds_row h hr k e1 e2 ok, k.mono (fun _ e => .inl e), fun k hk => .inl hk⟩
-- its answers that only read
theorem roomD {B g : Nat} {dv wv vv : Value} {s : S} {w : World} (h : Ds B g dv wv vv s w) : Calls Tryz.prog 72 #[.pointer (some ⟨g, 0, none⟩)] w fun e w' => e = .returned (.int .i64 s.cap) ∧ w' = w := by
  have c0 := h.row.c0
  clear h
  go_enter Tryz.func72, Tryz.ntmps72
  go_wp2
  go_ret
  exact ⟨rfl, rfl⟩
theorem downD {B g : Nat} {dv wv vv : Value} {s : S} {w : World} (h : Ds B g dv wv vv s w) : Calls Tryz.prog 73 #[.pointer (some ⟨g, 0, none⟩)] w fun e w' => e = .returned (.bool s.off) ∧ w' = w := by
  have c0 := h.row.c3
  clear h
  go_enter Tryz.func73, Tryz.ntmps73
  go_wp2
  go_ret
  exact ⟨rfl, rfl⟩
theorem ageD {B g : Nat} {dv wv vv : Value} {s : S} {w : World} (h : Ds B g dv wv vv s w) : Calls Tryz.prog 74 #[.pointer (some ⟨g, 0, none⟩)] w fun e w' => e = .returned (.int .i64 s.age) ∧ w' = w := by
  have c0 := h.row.c5
  clear h
  go_enter Tryz.func74, Tryz.ntmps74
  go_wp2
  go_ret
  exact ⟨rfl, rfl⟩
theorem pendD {B g : Nat} {dv wv vv : Value} {s : S} {w : World} (h : Ds B g dv wv vv s w) : Calls Tryz.prog 70 #[.pointer (some ⟨g, 0, none⟩)] w fun e w' => e = .returned (.int .i64 s.pend.length) ∧ w' = w := by
  have c0 := h.row.c2
  obtain ⟨a, c, rfl⟩ := own_formS h.wl
  clear h
  go_enter Tryz.func70, Tryz.ntmps70
  go_wp2
  go_ret
  exact ⟨rfl, rfl⟩
theorem usedD {B g : Nat} {dv wv vv : Value} {s : S} {w : World} (h : Ds B g dv wv vv s w) : Calls Tryz.prog 71 #[.pointer (some ⟨g, 0, none⟩)] w fun e w' => e = .returned (.int .i64 (tot (now s) : Nat)) ∧ Below w.heap.size w w' := by
  have c0 := h.row.c6
  have CC : Hid (Calls _ _ _ _ _) := cntsC vv (now s) w h.vl h.ok.now h.ok.lnow
  obtain ⟨a, c, rfl⟩ := lr_form h.vl
  obtain ⟨T, HT⟩ : ∃ T, Hid (tot (now s) = T) := ⟨_, rfl⟩
  rw [HT.out] at CC ⊢
  generalize (now s).length = n at *
  clear h
  go_enter Tryz.func71, Tryz.ntmps71
  go_wp2_with fail
  refine CC.out.mono ?_
  rintro _ w1 ⟨rfl, hw⟩
  have B1 : Hid (Below w.heap.size w w1) := by
    obtain ⟨m, hm⟩ := hw
    rw [hm]
    exact zh.below_dN (Below.refl _ _) m
  clear hw
  go_wp2
  go_ret
  exact ⟨rfl, B1.out⟩
theorem goesD (k : ByteArray) (w : World) : Calls Tryz.prog 95 #[.string k] w fun e w' => e = .returned (.bool (decide (1 ≤ k.size ∧ k.size ≤ 64))) ∧ w' = w := by
  by_cases h1 : 1 ≤ k.size
  · have d1 : decide (1 ≤ (k.size : Int)) = true := decide_eq_true (by omega)
    have d1' : decide (1 ≤ k.size) = true := decide_eq_true h1
    by_cases h2 : k.size ≤ 64
    · have d2 : decide ((k.size : Int) ≤ 64) = true := decide_eq_true (by omega)
      have d2' : decide (k.size ≤ 64) = true := decide_eq_true h2
      rw [decide_eq_true (show 1 ≤ k.size ∧ k.size ≤ 64 from ⟨h1, h2⟩)]
      go_enter Tryz.func95, Tryz.ntmps95
      go_wp2
      go_ret
      exact ⟨rfl, rfl⟩
    · have d2 : decide ((k.size : Int) ≤ 64) = false := decide_eq_false (by omega)
      have d2' : decide (k.size ≤ 64) = false := decide_eq_false h2
      rw [decide_eq_false (fun h : 1 ≤ k.size ∧ k.size ≤ 64 => h2 h.2)]
      go_enter Tryz.func95, Tryz.ntmps95
      go_wp2
      go_ret
      exact ⟨rfl, rfl⟩
  · have d1 : decide (1 ≤ (k.size : Int)) = false := decide_eq_false (by omega)
    have d1' : decide (1 ≤ k.size) = false := decide_eq_false h1
    rw [decide_eq_false (fun h : 1 ≤ k.size ∧ k.size ≤ 64 => h1 h.1)]
    go_enter Tryz.func95, Tryz.ntmps95
    go_wp2
    go_ret
    exact ⟨rfl, rfl⟩
-- New
theorem newD (c : Int) (w : World) (hc : 0 ≤ c ∧ c ≤ 1073741824) : Calls Tryz.prog 6 #[.int .i64 c] w fun e w' => ∃ g, e = .returned (.pointer (some ⟨g, 0, none⟩)) ∧ Ds w.heap.size g (.slice none 0 0) (.slice none 0 0) (.slice none 0 0) ⟨c, [], [], 0, false, 0⟩ w' ∧ Below w.heap.size w w' := by
  have q1 : decide (c < 0) = false := decide_eq_false (by omega)
  have q2 : decide (1073741824 < c) = false := decide_eq_false (by omega)
  have HC : Hid _ := hc
  clear hc
  go_enter Tryz.func6, Tryz.ntmps6
  go_wp2
  go_ret
  refine ⟨_, rfl, ⟨(MapKept.heap_alloc w _).1, World.ownsRow_nil _ _ _ _, World.ownsRow_nil _ _ _ _, World.ownsRow_nil _ _ _ _, Nat.le_refl _, ?_⟩, (Below.refl _ w).alloc (Nat.le_refl _) _⟩
  exact ⟨(by intro p hp; cases hp), List.Pairwise.nil, (by intro x hx; cases hx), HC.out.1, HC.out.2, by simp, by simp, by simp⟩
theorem newDNo (c : Int) (w : World) (hc : ¬ (0 ≤ c ∧ c ≤ 1073741824)) : Calls Tryz.prog 6 #[.int .i64 c] w fun e w' => e = .returned (.pointer none) ∧ w' = w := by
  rcases (show c < 0 ∨ (¬ c < 0 ∧ 1073741824 < c) by omega) with h | ⟨h, h2⟩
  · have q1 : decide (c < 0) = true := decide_eq_true h
    clear hc h
    go_enter Tryz.func6, Tryz.ntmps6
    go_wp2
    go_ret
    exact ⟨rfl, rfl⟩
  · have q1 : decide (c < 0) = false := decide_eq_false h
    have q2 : decide (1073741824 < c) = true := decide_eq_true h2
    clear hc h h2
    go_enter Tryz.func6, Tryz.ntmps6
    go_wp2
    go_ret
    exact ⟨rfl, rfl⟩
-- Get
theorem getD {B g : Nat} {dv wv vv : Value} {s : S} {w : World} (k : ByteArray) (h : Ds B g dv wv vv s w) : Calls Tryz.prog 69 #[.pointer (some ⟨g, 0, none⟩), .string k] w fun e w' => e = .returned (.tuple #[.string (getS s k).1, .int .i64 (getS s k).2]) ∧ w' = w := by
  have c3 := h.row.c3
  have c6 := h.row.c6
  have CG : Hid (∀ w, Calls _ _ _ _ _) := fun w => goesD k w
  have CF : Hid (Calls _ _ _ _ _) := findC vv (now s) k w h.vl h.ok.snow (by have := h.ok.lnow; omega)
  obtain ⟨a, c, rfl⟩ := lr_form h.vl
  have HVL : Hid _ := h.vl
  unfold getS refS
  cases ho : s.off with
  | true =>
    rw [ho] at c3
    simp only [if_true]
    rw [if_pos (by simp)]
    clear h CG CF HVL
    go_enter Tryz.func69, Tryz.ntmps69
    go_wp2
    go_ret2
    exact ⟨rfl, rfl⟩
  | false =>
    rw [ho] at c3
    simp only [Bool.false_eq_true, if_false]
    by_cases hk : 1 ≤ k.size ∧ k.size ≤ 64
    · rw [if_pos hk, if_neg (by simp)]
      rw [decide_eq_true hk] at CG
      clear hk
      have HG : ∀ i, Fnd k (now s) i → (i = -1 ∧ rget k (now s) = none) ∨ ∃ (n : Nat) (d : ByteArray) (g2 : Nat), i = n ∧ n < (now s).length ∧ rget k (now s) = some d ∧ a = some ⟨g2, 0, none⟩ ∧ w.cell? ⟨g2, n * 2 + 1, none⟩ = some (.string d) := fun i hi => by
        rcases hi with ⟨h1, h2⟩ | ⟨n, d, h1, h2, h3⟩
        · exact .inl ⟨h2, h1⟩
        · obtain ⟨g2, e1, _, _, e2⟩ := lr_at HVL.out n (k, d) h2
          exact .inr ⟨n, d, g2, h1, (List.getElem?_eq_some_iff.1 h2).1, h3, e1, e2⟩
      have HHG : Hid _ := HG
      clear HG h HVL ho
      generalize (now s).length = L at *
      generalize rget k (now s) = o at *
      go_enter Tryz.func69, Tryz.ntmps69
      go_wp2_with fail
      refine (CG.out _).mono ?_
      rintro _ _ ⟨rfl, hw⟩; rw [hw]; clear hw
      go_wp2_with fail
      refine CF.out.mono ?_
      rintro _ _ ⟨⟨i, rfl, hi⟩, hw⟩; rw [hw]; clear hw CF
      rcases HHG.out i hi with ⟨rfl, rfl⟩ | ⟨n, d, g2, rfl, hn, rfl, rfl, c7⟩
      · clear hi HHG
        go_wp2
        go_ret2
        exact ⟨rfl, rfl⟩
      · have hn' : (n : Int) < L := by omega
        have hn0 : ¬ (n : Int) < 0 := by omega
        clear hi HHG
        go_wp2
        go_ret2
        exact ⟨rfl, rfl⟩
    · rw [if_neg hk, if_pos (by simp)]
      rw [decide_eq_false hk] at CG
      clear hk h CF HVL
      go_enter Tryz.func69, Tryz.ntmps69
      go_wp2_with fail
      refine (CG.out _).mono ?_
      rintro _ _ ⟨rfl, hw⟩; rw [hw]; clear hw
      go_wp2
      go_ret2
      exact ⟨rfl, rfl⟩
end Go.Proofs.YtlkkibiedlakfaaGreat.xc

namespace Go.Proofs.YtlkkibiedlakfaaGreat.xd
open Go.RowKit Go.PlainAid Go.Maps Go.Shelf
open Go.Proofs.YtlkkibiedlakfaaGreat.ca Go.Proofs.YtlkkibiedlakfaaGreat.cb Go.Proofs.YtlkkibiedlakfaaGreat.cp Go.Proofs.YtlkkibiedlakfaaGreat.kp Go.Proofs.YtlkkibiedlakfaaGreat.ka Go.Proofs.YtlkkibiedlakfaaGreat.ya Go.Proofs.YtlkkibiedlakfaaGreat.yb Go.Proofs.YtlkkibiedlakfaaGreat.yc Go.Proofs.YtlkkibiedlakfaaGreat.ye Go.Proofs.YtlkkibiedlakfaaGreat.yf Go.Proofs.YtlkkibiedlakfaaGreat.yi Go.Proofs.YtlkkibiedlakfaaGreat.yk Go.Proofs.YtlkkibiedlakfaaGreat.yl Go.Proofs.YtlkkibiedlakfaaGreat.zf Go.Proofs.YtlkkibiedlakfaaGreat.zg Go.Proofs.YtlkkibiedlakfaaGreat.xa Go.Proofs.YtlkkibiedlakfaaGreat.xb Go.Proofs.YtlkkibiedlakfaaGreat.xc
set_option linter.unusedVariables false
set_option linter.unusedSimpArgs false
theorem diesD {g : Nat} {dv wv vv : Value} {s : S} {w : World} (h : Dt g dv wv vv s w) (ha : s.armed ≤ 9223372036854775807) (ho : s.off = false) : Calls Tryz.prog 99 #[.pointer (some ⟨g, 0, none⟩)] w fun e w' => e = .returned (.bool (decide ((spendS s).1 ≠ 0))) ∧ Dt g dv wv vv (spendS s).2 w' ∧ Kp (fun k => k = g) w w' := by
  have c := h.c4
  have f4 := h.fz 4
  have f3 := h.fz 3
  unfold spendS
  by_cases h0 : s.armed = 0
  · rw [if_pos h0]
    have H : Hid (Dt g dv wv vv s w) := h
    have h0' : ((s.armed : Int) == 0) = true := by rw [h0]; rfl
    clear h h0
    go_enter Tryz.func99, Tryz.ntmps99
    go_wp2
    go_ret
    exact ⟨rfl, H.out, Kp.refl _ _⟩
  · rw [if_neg h0]
    have h0' : ((s.armed : Int) == 0) = false := by rw [beq_eq_false_iff_ne]; omega
    obtain ⟨q, hq⟩ : ∃ q : Nat, s.armed - 1 = q := ⟨_, rfl⟩
    have HS : Hid (Dt g dv wv vv { s with armed := q } (w.setCell ⟨g, 4, none⟩ (.int .i64 (q : Int)))) := h.set4 q
    have hw1 : IntKind.i64.wrap ((s.armed : Int) - 1) = (q : Int) := by
      rw [show (s.armed : Int) - 1 = (q : Int) by omega]
      exact wrap_is _ (by omega)
    have hw2 : (s.armed : Int) - 1 = (q : Int) := by omega
    have K1 : Hid (Kp (fun k => k = g) w (w.setCell ⟨g, 4, none⟩ (.int .i64 (q : Int)))) := Kp.setCell _ _ _ _ rfl
    rw [hq]
    by_cases h1 : s.armed = 1
    · rw [if_pos h1]
      have hd : q = 0 := by omega
      subst hd
      have f3' := HS.out.fz 3
      have c4' : (w.setCell ⟨g, 4, none⟩ (.int .i64 (0 : Int))).cell? ⟨g, 4, none⟩ = some (.int .i64 0) := HS.out.c4
      have H2 : Hid (Dt g dv wv vv { s with armed := 0, off := true } ((w.setCell ⟨g, 4, none⟩ (.int .i64 (0 : Int))).setCell ⟨g, 3, none⟩ (.bool true))) := HS.out.set3 true
      have c3 : (w.setCell ⟨g, 4, none⟩ (.int .i64 (0 : Int))).cell? ⟨g, 3, none⟩ = some (.bool s.off) := HS.out.c3
      have c3' : ((w.setCell ⟨g, 4, none⟩ (.int .i64 (0 : Int))).setCell ⟨g, 3, none⟩ (.bool true)).cell? ⟨g, 3, none⟩ = some (.bool true) := H2.out.c3
      clear h h0 h1 hq
      go_enter Tryz.func99, Tryz.ntmps99
      go_wp2
      go_ret
      exact ⟨rfl, H2.out, K1.out.trans (Kp.setCell _ _ _ _ rfl)⟩
    · rw [if_neg h1]
      have hq0 : ((q : Int) == 0) = false := by rw [beq_eq_false_iff_ne]; omega
      have f3' := HS.out.fz 3
      have c4' : (w.setCell ⟨g, 4, none⟩ (.int .i64 (q : Int))).cell? ⟨g, 4, none⟩ = some (.int .i64 q) := HS.out.c4
      have H2 : Hid (Dt g dv wv vv { s with armed := q } ((w.setCell ⟨g, 4, none⟩ (.int .i64 (q : Int))).setCell ⟨g, 3, none⟩ (.bool false))) := by
        have := HS.out.set3 false
        rw [← ho] at this ⊢
        exact this
      have c3 : (w.setCell ⟨g, 4, none⟩ (.int .i64 (q : Int))).cell? ⟨g, 3, none⟩ = some (.bool s.off) := HS.out.c3
      have c3' : ((w.setCell ⟨g, 4, none⟩ (.int .i64 (q : Int))).setCell ⟨g, 3, none⟩ (.bool false)).cell? ⟨g, 3, none⟩ = some (.bool false) := by rw [H2.out.c3]; show some (Value.bool s.off) = _; rw [ho]
      clear h h0 h1 hq
      go_enter Tryz.func99, Tryz.ntmps99
      go_wp2
      go_ret
      exact ⟨rfl, H2.out, K1.out.trans (Kp.setCell _ _ _ _ rfl)⟩
theorem armD {B g : Nat} {dv wv vv : Value} {s : S} {w : World} (n : Int) (h : Ds B g dv wv vv s w) (hn : n ≤ 9223372036854775807) : Calls Tryz.prog 50 #[.pointer (some ⟨g, 0, none⟩), .int .i64 n] w fun e w' => e = .returned (.tuple #[]) ∧ Rd B g wv (armS s n) w w' := by
  have c3 := h.row.c3
  have f4 := h.row.fz 4
  have c4 := h.row.c4
  have H : Hid (Ds B g dv wv vv s w) := h
  unfold armS
  clear h
  cases ho : s.off with
  | true =>
    rw [ho] at c3
    simp only [if_true]
    go_enter Tryz.func50, Tryz.ntmps50
    go_wp2
    (try simp only [Exit.inBlock, Exit.then]); refine bodyPost_ret (results_none rfl _ _ _) rfl ?_
    exact ⟨rfl, Rd.refl H.out (Below.refl _ _)⟩
  | false =>
    rw [ho] at c3
    simp only [Bool.false_eq_true, if_false]
    obtain ⟨m, hm⟩ : ∃ m : Nat, n.toNat = m := ⟨_, rfl⟩
    rw [hm]
    have H0 : Hid (Dt g dv wv vv { s with armed := 0 } (w.setCell ⟨g, 4, none⟩ (.int .i64 (0 : Int)))) := H.out.row.set4 0
    have f4' := H0.out.fz 4
    have c4' : (w.setCell ⟨g, 4, none⟩ (.int .i64 (0 : Int))).cell? ⟨g, 4, none⟩ = some (.int .i64 0) := H0.out.c4
    have OK : Hid (∀ m : Nat, m ≤ 9223372036854775807 → OkS { s with armed := m }) := fun m hm => ⟨H.out.ok.dur, H.out.ok.srt, H.out.ok.pend, H.out.ok.cap0, H.out.ok.cap1, hm, H.out.ok.age, H.out.ok.len⟩
    have FN : Hid (∀ (m : Nat) W, m ≤ 9223372036854775807 → Dt g dv wv vv { s with armed := m } W → Kp (fun k => k = g) w W → Rd B g wv { s with armed := m } w W) := fun m W hm hr k => rd_row H.out hr k rfl rfl (OK.out m hm)
    rw [ho] at H0 FN
    by_cases hn0 : 0 < n
    · have hm0 : n = m := by omega
      subst hm0
      have H1 : Hid (Dt g dv wv vv { s with off := false, armed := m } ((w.setCell ⟨g, 4, none⟩ (.int .i64 (0 : Int))).setCell ⟨g, 4, none⟩ (.int .i64 (m : Int)))) := H0.out.set4 m
      clear hm
      go_enter Tryz.func50, Tryz.ntmps50
      go_wp2
      go_end0
      refine ⟨rfl, FN.out m _ (by omega) ?_ ?_⟩
      · first | exact H1.out | (have := H1.out; simpa using this)
      · first | exact Kp.trans (A := fun k => k = g) (Kp.setCell w g 4 (.int .i64 0) rfl) (Kp.setCell _ _ _ _ rfl) | exact Kp.setCell _ _ _ _ rfl
    · have hm0 : m = 0 := by omega
      subst hm0
      have hn1 : ¬ (0 : Int) < n := hn0
      go_enter Tryz.func50, Tryz.ntmps50
      go_wp2
      go_end0
      exact ⟨rfl, FN.out 0 _ (by omega) H0.out (Kp.setCell _ _ _ _ rfl)⟩
-- Sync
theorem ok_spendD {s : S} (h : OkS s) : OkS (spendS s).2 := ok_spend h
theorem syncD {B g : Nat} {dv wv vv : Value} {s : S} {w : World} (h : Ds B g dv wv vv s w) : Calls Tryz.prog 48 #[.pointer (some ⟨g, 0, none⟩)] w fun e w' => e = .returned (.int .i64 (syncS s).1) ∧ Rd B g wv (syncS s).2 w w' := by
  have c3 := h.row.c3
  have H : Hid (Ds B g dv wv vv s w) := h
  unfold syncS
  cases ho : s.off with
  | true =>
    rw [ho] at c3
    simp only [if_true]
    clear h
    go_enter Tryz.func48, Tryz.ntmps48
    go_wp2
    go_ret
    exact ⟨rfl, Rd.refl H.out (Below.refl _ _)⟩
  | false =>
    rw [ho] at c3
    simp only [Bool.false_eq_true, if_false]
    have CD : Hid (Calls _ _ _ _ _) := diesD h.row h.ok.arm ho
    obtain ⟨p, hp⟩ : ∃ p, (spendS s).1 = p := ⟨_, rfl⟩
    rw [hp] at CD ⊢
    have hP2 : (spendS s).2.dur = s.dur := dur_spend s
    have hP3 : (spendS s).2.pend = s.pend := pend_spend s
    have FN : Hid (∀ W, Dt g dv wv vv (spendS s).2 W → Kp (fun k => k = g) w W → Ds B g dv wv vv (spendS s).2 W) := fun W hr k => ds_row H.out hr k hP2 hP3 (ok_spend H.out.ok)
    by_cases hz : p ≠ 0
    · rw [if_pos hz]
      have e : spendS s = (p, (spendS s).2) := by rw [← hp]
      rw [e]
      have hp124 : p = 124 := by
        have := zb.spend_e s
        rw [hp] at this
        rcases this with h | h
        · exact absurd h hz
        · exact h
      rw [decide_eq_true hz] at CD
      subst hp124
      clear h
      go_enter Tryz.func48, Tryz.ntmps48
      go_wp2_with fail
      refine CD.out.mono ?_
      rintro _ w1 ⟨rfl, r1, k1⟩
      have D1 : Hid (Rd B g wv (spendS s).2 w w1) := rd_row H.out r1 k1 hP2 hP3 (ok_spend H.out.ok)
      clear r1 k1
      go_wp2
      go_ret
      exact ⟨rfl, D1.out⟩
    · rw [if_neg hz]
      rw [decide_eq_false hz] at CD
      have FIN : Hid (∀ w1, Dt g dv wv vv (spendS s).2 w1 → Kp (fun k => k = g) w w1 → Rd B g wv { (spendS s).2 with dur := now s, pend := [] } w ((w1.setCell ⟨g, 1, none⟩ vv).setCell ⟨g, 2, none⟩ (.slice none 0 0))) := fun w1 r1 k1 => by
        have d1 := FN.out w1 r1 k1
        have r2 := (r1.set1 vv).set2 (.slice none 0 0)
        have k2 : Kp (fun k => k = g) w1 ((w1.setCell ⟨g, 1, none⟩ vv).setCell ⟨g, 2, none⟩ (.slice none 0 0)) := Kp.trans (A := fun k => k = g) (Kp.setCell w1 g 1 vv rfl) (Kp.setCell _ _ _ _ rfl)
        have hv : Lr B vv (now s) ((w1.setCell ⟨g, 1, none⟩ vv).setCell ⟨g, 2, none⟩ (.slice none 0 0)) := by
          have h1 := d1.vl
          rw [now_spend] at h1
          exact own_kp h1 k2 (fun j hj e => own_tag h1 r1 dr1 (by rw [← e]; exact hj))
        have oks := ok_spend H.out.ok
        refine ⟨vv, .slice none 0 0, vv, ⟨r2, hv, hv, World.ownsRow_nil _ _ _ _, H.out.low, ?_⟩, (k1.trans k2).mono (fun _ e => .inl e), fun k hk => by cases hk⟩
        exact ⟨H.out.ok.now, H.out.ok.snow, (by intro x hx; cases hx), oks.cap0, oks.cap1, oks.arm, oks.age, by have := H.out.ok.lnow; show (now s).length + 0 < _; omega⟩
      obtain ⟨va, vc, hvv⟩ := lr_form h.vl
      have HVV : Hid _ := hvv
      generalize (now s).length = L at *
      clear h hz hp hP2 hP3
      subst hvv
      go_enter Tryz.func48, Tryz.ntmps48
      go_wp2_with fail
      refine CD.out.mono ?_
      rintro _ w1 ⟨rfl, r1, k1⟩
      have F1 : Hid _ := FIN.out w1 r1 k1
      have c6 := r1.c6
      have c1 := r1.c1
      have f1 := r1.fz 1
      have f2 := (r1.set1 (.slice va L vc)).fz 2
      have c2 := (r1.set1 (.slice va L vc)).c2
      have f2' := r1.fz 2
      have c2' := r1.c2
      clear r1 k1 FIN
      go_wp2
      go_ret
      exact ⟨rfl, F1.out⟩
end Go.Proofs.YtlkkibiedlakfaaGreat.xd

namespace Go.Proofs.YtlkkibiedlakfaaGreat.xe
open Go.RowKit Go.PlainAid Go.Maps Go.Shelf
open Go.Proofs.YtlkkibiedlakfaaGreat.ca Go.Proofs.YtlkkibiedlakfaaGreat.cb Go.Proofs.YtlkkibiedlakfaaGreat.cp Go.Proofs.YtlkkibiedlakfaaGreat.kp Go.Proofs.YtlkkibiedlakfaaGreat.ka Go.Proofs.YtlkkibiedlakfaaGreat.ya Go.Proofs.YtlkkibiedlakfaaGreat.yb Go.Proofs.YtlkkibiedlakfaaGreat.yc Go.Proofs.YtlkkibiedlakfaaGreat.ye Go.Proofs.YtlkkibiedlakfaaGreat.yf Go.Proofs.YtlkkibiedlakfaaGreat.yi Go.Proofs.YtlkkibiedlakfaaGreat.yk Go.Proofs.YtlkkibiedlakfaaGreat.yl Go.Proofs.YtlkkibiedlakfaaGreat.zf Go.Proofs.YtlkkibiedlakfaaGreat.zg Go.Proofs.YtlkkibiedlakfaaGreat.xa Go.Proofs.YtlkkibiedlakfaaGreat.xb Go.Proofs.YtlkkibiedlakfaaGreat.xc Go.Proofs.YtlkkibiedlakfaaGreat.xd
set_option linter.unusedVariables false
set_option linter.unusedSimpArgs false
theorem step_done {ops : Array Oper} {o : Oper} {a : Act} {w : World} {K : Act → World → Prop} {Q : Exit → Act → World → Prop} {E : Prop} (hg : o.guard = none) (i j dd : Nat)
    (hop : o.op = .call { callee := .value (.func 55), args := #[.tmp i, .tmp j], argTypes := #[60, 109] }) (hd : o.dst = some dd) (B : Nat) (v : Value) (r R : List Rec) (k d : ByteArray) (cut : Bool)
    (hy : a.tmps[i]?.getD undef = v) (hy2 : a.tmps[j]?.getD undef = .agg #[.string k, .string d, .bool cut]) (HR : Hid (Lr B v r w ∧ dn k d r cut = R ∧ r.length < 3518437208883))
    (hK : ∀ a' c' w', Gr w.heap.size w (.slice a' R.length c') R w' → K { tmps := a.tmps.setIfInBounds dd (.slice a' R.length c'), defers := a.defers } w') :
    if Region.wanted o (yielded ops a.tmps) = true then Oper.wp Tryz.prog o a w K Q else E := by
  have hw : Region.wanted o (yielded ops a.tmps) = true := by simp [Region.wanted, hg]
  rw [if_pos hw]
  have C := doneC0 v r k d cut R w HR.out.1 HR.out.2.1 HR.out.2.2
  have HKK : Hid _ := hK
  clear hK HR
  unfold Oper.wp execOp
  simp only [hop]
  go_simp
  refine C.mono ?_
  rintro e w' ⟨v', rfl, h1⟩
  obtain ⟨a', c', rfl⟩ := lr_form h1.own
  exact HKK.out _ _ _ h1
theorem new_wr (W : World) (u v x : Value) (t : TypeId) : ∀ (j : Nat) (y : Value), [u, v, x][j]? = some y → (W.alloc (.cells #[u, v, x] t)).cell? (Addr.add ⟨W.heap.size, 0, none⟩ j) = some y := new_three W u v x t
theorem one_wr (k d : ByteArray) (c : Bool) : ∀ u ∈ [Value.string k, .string d, .bool c], u.oneCell' = true := by
  intro u hu; simp only [List.mem_cons, List.not_mem_nil, or_false] at hu; rcases hu with rfl | rfl | rfl <;> rfl
theorem box3 {w : World} {p : Nat} {x0 x1 x2 : Value} {t : TypeId} (h : w.heap[p]? = some (.cells #[x0, x1, x2] t (0, 0))) : w.cell? ⟨p, 0, none⟩ = some x0 ∧ w.cell? ⟨p, 1, none⟩ = some x1 ∧ w.cell? ⟨p, 2, none⟩ = some x2 :=
  ⟨cell_of_row _ _ 0 _ _ _ h, cell_of_row _ _ 1 _ _ _ h, cell_of_row _ _ 2 _ _ _ h⟩
-- behind the first line: what is there now is turned
structure P1 (B g : Nat) (dv wv : Value) (s : S) (R : List Rec) (bx : Obj) (w wx : World) : Prop where
  ex : ∃ v', Dt g dv wv v' s wx ∧ Lr B v' R wx
  dl : Lr B dv s.dur wx
  wl : wx.ownsRow B 109 3 wv s.pend.length (wws s.pend)
  box : wx.heap[w.heap.size]? = some bx
  kp : Kp (fun k => k = g) w wx
theorem p1_of {B g : Nat} {dv wv vv v' : Value} {s : S} {R : List Rec} {bx : Obj} {w w5 : World} (h : Ds B g dv wv vv s w) (hB : B ≤ w.heap.size) (gr : Gr (w.alloc bx).heap.size (w.alloc bx) v' R w5) : Dt g dv wv vv s w5 ∧ P1 B g dv wv s R bx w (w5.setCell ⟨g, 6, none⟩ v') := by
  have b1 : Below w.heap.size w (w.alloc bx) := (Below.refl _ w).alloc (Nat.le_refl _) _
  have hz : (w.alloc bx).heap.size = w.heap.size + 1 := by simp
  have b5 : Below w.heap.size w w5 := b1.trans (gr.bl.mono (by omega))
  have h5 := h.later b5
  have k6 : Kp (fun k => k = g) w5 (w5.setCell ⟨g, 6, none⟩ v') := Kp.setCell _ _ _ _ rfl
  have hgl := h.row.lt
  refine ⟨h5.row, ⟨v', h5.row.set6 v', ?_⟩, ?_, ?_, ?_, (Kp.of_below b5).trans k6⟩
  · exact own_kp (own_low gr.own (by omega)) k6 (fun j hj e => own_tag gr.own h5.row dr1 (by rw [← e]; exact hj))
  · exact own_kp h5.dl k6 (fun j hj e => own_tag h5.dl h5.row dr1 (by rw [← e]; exact hj))
  · exact own_kp h5.wl k6 (fun j hj e => own_tag h5.wl h5.row dr2 (by rw [← e]; exact hj))
  · rw [k6.block _ (by have := gr.bl.size; omega) (by omega), gr.bl.block _ (by omega)]
    exact heap_alloc_new w bx
-- behind the second: the write is pending
theorem p2_of {B g : Nat} {dv wv vv : Value} {s : S} {x : W} {bx o : Obj} {w wx w7 : World} {g5 c5 : Nat} (h : Ds B g dv wv vv s w) (hx : OkW x) (hl : s.dur.length + s.pend.length + 1 < 3518437208883) (p : P1 B g dv wv s (doW (now s) x) bx w wx)
    (ho : w7.ownsRow B 109 3 (.slice (some ⟨g5, 0, none⟩) (s.pend.length + 1) c5) (s.pend.length + 1) (wws s.pend ++ ww x)) (hg : (wx.alloc o).grownBy w7 wv.ownBlock) (hlies : wv.ownBlock = some g5 ∨ g5 = wx.heap.size + 1) :
    ∃ v', Dt g dv wv v' s w7 ∧ Ds B g dv (.slice (some ⟨g5, 0, none⟩) (s.pend.length + 1) c5) v' (addW s x) (w7.setCell ⟨g, 2, none⟩ (.slice (some ⟨g5, 0, none⟩) (s.pend.length + 1) c5)) ∧ Kp (xc.Fd g wv) w (w7.setCell ⟨g, 2, none⟩ (.slice (some ⟨g5, 0, none⟩) (s.pend.length + 1) c5)) ∧ ∀ k, some k = Value.ownBlock (.slice (some ⟨g5, 0, none⟩) (s.pend.length + 1) c5) → some k = wv.ownBlock ∨ w.heap.size ≤ k := by
  obtain ⟨⟨v', hr, hv⟩, hd, hw, hb, kx⟩ := p
  have b1 : Below wx.heap.size wx (wx.alloc o) := (Below.refl _ wx).alloc (Nat.le_refl _) _
  have k1 : Kp (fun _ => False) wx (wx.alloc o) := Kp.of_below b1
  have k2 : Kp (fun k => some k = wv.ownBlock) (wx.alloc o) w7 := ⟨hg.os, hg.tape, hg.output, hg.size, fun k hk hn => hg.block k hk hn⟩
  have hw1 := own_kp hw k1 (fun _ _ e => e)
  have hr1 : Dt g dv wv v' s (wx.alloc o) := (k1.block _ hr.lt (fun e => e)).trans hr
  have hr7 : Dt g dv wv v' s w7 := (k2.block _ hr1.lt (own_tag hw1 hr1 dr2)).trans hr1
  have apart : ∀ {u : Value} {r : List Rec}, Lr B u r (wx.alloc o) → ∀ j, some j = u.ownBlock → ¬ some j = wv.ownBlock := fun {u r} hu j hj e => by
    rcases hu.2 with ⟨rfl, _⟩ | ⟨g', cap, cur, rfl, _, hh, _⟩
    · cases hj
    · have : j = g' := Option.some.inj hj
      subst this
      exact own_tag hw1 hh (by decide) e
  have hd7 : Lr B dv s.dur w7 := own_kp (own_kp hd k1 (fun _ _ e => e)) k2 (apart (own_kp hd k1 (fun _ _ e => e)))
  have hv7 : Lr B v' (doW (now s) x) w7 := own_kp (own_kp hv k1 (fun _ _ e => e)) k2 (apart (own_kp hv k1 (fun _ _ e => e)))
  have k3 : Kp (fun k => k = g) w7 (w7.setCell ⟨g, 2, none⟩ (.slice (some ⟨g5, 0, none⟩) (s.pend.length + 1) c5)) := Kp.setCell _ _ _ _ rfl
  refine ⟨v', hr7, ⟨hr7.set2 _, own_kp hd7 k3 (fun j hj e => own_tag hd7 hr7 dr1 (by rw [← e]; exact hj)), ?_, ?_, h.low, ok_add h.ok hx hl⟩, ?_, ?_⟩
  · rw [now_add]
    exact own_kp hv7 k3 (fun j hj e => own_tag hv7 hr7 dr1 (by rw [← e]; exact hj))
  · have e1 : (addW s x).pend.length = s.pend.length + 1 := by simp [addW]
    have e2 : wws (addW s x).pend = wws s.pend ++ ww x := by simp [wws, addW]
    rw [e1, e2]
    exact own_kp ho k3 (fun j hj e => own_tag ho hr7 dr2 (by rw [← e]; exact hj))
  · exact (((kx.mono (fun _ e => .inl e)).trans (Kp.of_below b1)).trans (k2.mono (fun _ e => .inr e))).trans (k3.mono (fun _ e => .inl e))
  · intro k hk
    have hk : k = g5 := Option.some.inj hk
    subst hk
    rcases hlies with e | e
    · exact .inl e.symm
    · exact .inr (by have := kx.size; omega)
set_option maxRecDepth 40000 in
set_option maxHeartbeats 12800000 in
theorem writeD {B g : Nat} {dv wv vv : Value} {s : S} {w : World} (x : W) (h : Ds B g dv wv vv s w) (hB : B ≤ w.heap.size) (ho : s.off = false) (hx : OkW x) (hl : s.dur.length + s.pend.length + 1 < 3518437208883) :
    Calls Tryz.prog 97 #[.pointer (some ⟨g, 0, none⟩), .agg #[.string x.key, .string x.data, .bool x.cut]] w fun e w' => e = .returned (.int .i64 (spendS (addW s x)).1) ∧ Rd B g wv (spendS (addW s x)).2 w w' := by
  have H : Hid (Ds B g dv wv vv s w) := h
  have HDW : Hid (dn x.key x.data (now s) x.cut = doW (now s) x) := dn_doW x (now s) h.ok.snow
  have hln := h.ok.lnow
  obtain ⟨va, vc, hvv⟩ := lr_form h.vl
  have hgl := h.row.lt
  obtain ⟨i0, hi0, hz0, hz1, hz2⟩ := info_parts info_W
  have HIN : Hid (_ ∧ _ ∧ _ ∧ _) := ⟨hi0, hz0, hz1, hz2⟩
  clear hi0 hz0 hz1 hz2
  obtain ⟨bx, HBX⟩ : ∃ bx, bx = Obj.cells #[.string x.key, .string x.data, .bool x.cut] 109 (0, 0) := ⟨_, rfl⟩
  have b1 : Below w.heap.size w (w.alloc bx) := (Below.refl _ w).alloc (Nat.le_refl _) _
  have h1 := h.later b1
  have HLR : Hid (Lr B vv (now s) (w.alloc bx).drew ∧ dn x.key x.data (now s) x.cut = doW (now s) x ∧ (now s).length < 3518437208883) := ⟨h1.vl, HDW.out, hln⟩
  have c6 := h1.row.c6
  have f6 := h1.row.fz 6
  have P1F : Hid (∀ v' w5, Gr (w.alloc bx).heap.size (w.alloc bx) v' (doW (now s) x) w5 → Dt g dv wv vv s w5 ∧ P1 B g dv wv s (doW (now s) x) bx w (w5.setCell ⟨g, 6, none⟩ v')) := fun v' w5 gr => p1_of H.out hB gr
  obtain ⟨k, hk⟩ : ∃ k, x.key = k := ⟨_, rfl⟩
  obtain ⟨d, hd⟩ : ∃ d, x.data = d := ⟨_, rfl⟩
  obtain ⟨cut, hcut⟩ : ∃ c, x.cut = c := ⟨_, rfl⟩
  have HX : Hid (x = ⟨cut, k, d⟩) := by show _ = _; rw [← hk, ← hd, ← hcut]
  rw [hk, hd, hcut] at HBX HLR ⊢
  rw [HBX] at c6 f6 HLR
  obtain ⟨R, HRR⟩ : ∃ R, Hid (doW (now s) x = R) := ⟨_, rfl⟩
  rw [HRR.out] at HLR P1F
  subst hvv
  subst HBX
  have hnp : (s.pend.length + 1) * 40 ≤ 140737488355328 := by omega
  have HSP : Hid ((spendS (addW s x)).1 = 0 ∨ (spendS (addW s x)).1 = 124) := zb.spend_e _
  clear h h1 b1 hk hd hcut HDW hln
  go_enter Tryz.func97, Tryz.ntmps97
  go_upto_region 1 with fail
  go_cut [12] (fun cc wx => Hid (P1 B g dv wv s R (.cells #[.string k, .string d, .bool cut] 109 (0, 0)) w wx))
  case first =>
    go_region_law ((first | (have zz := HLR.out; refine step_done (by rfl) 10 11 12 (by rfl) (by rfl) B (.slice va (now s).length vc) (now s) R k d cut (by simp [Act.put]) (by simp [Act.put]) HLR ?_; intro a' c' w5 gr; have A5 : Hid _ := P1F.out _ w5 ⟨gr.own, ⟨gr.bl.os, gr.bl.tape, gr.bl.output, gr.bl.size, gr.bl.block⟩⟩; have c65 := A5.out.1.c6; have f65 := A5.out.1.fz 6; clear gr zz HLR)))
    all_goals (go_wp2; go_meet; exact A5.out.2)
  case rest =>
    have PX : Hid (P1 _ _ _ _ _ _ _ _ _) := hcut
    clear hcut HLR P1F c6 f6
    obtain ⟨v1, hr1, hv1⟩ := PX.out.ex
    obtain ⟨wa, wcp, hwv⟩ := own_formS PX.out.wl
    obtain ⟨n, HNN⟩ : ∃ n, Hid (s.pend.length = n) := ⟨_, rfl⟩
    have c2 := hr1.c2
    have f2 := hr1.fz 2
    have c2a : (wc.alloc (.cells #[.string k, .string d, .bool cut] 109)).cell? ⟨g, 2, none⟩ = some wv := (World.cell?_alloc_lt _ _ _ hr1.lt).trans c2
    obtain ⟨x0, x1, x2⟩ := box3 PX.out.box
    have O4 : Hid ((wc.alloc (.cells #[.string k, .string d, .bool cut] 109)).drew.ownsRow B 109 3 wv n (wws s.pend)) := by have := PX.out.wl; rw [HNN.out] at this; exact this.alloc _
    have hBc : B ≤ wc.heap.size := Nat.le_trans hB PX.out.kp.size
    have AR : Hid (∀ w7 g5 c5, w7.ownsRow B 109 3 (.slice (some ⟨g5, 0, none⟩) (n + 1) c5) (n + 1) (wws s.pend ++ [.string k, .string d, .bool cut]) → (wc.alloc (.cells #[.string k, .string d, .bool cut] 109)).grownBy w7 wv.ownBlock → (wv.ownBlock = some g5 ∨ g5 = wc.heap.size + 1) → ∃ v', Dt g dv wv v' s w7 ∧ Ds B g dv (.slice (some ⟨g5, 0, none⟩) (n + 1) c5) v' (addW s x) (w7.setCell ⟨g, 2, none⟩ (.slice (some ⟨g5, 0, none⟩) (n + 1) c5)) ∧ Kp (xc.Fd g wv) w (w7.setCell ⟨g, 2, none⟩ (.slice (some ⟨g5, 0, none⟩) (n + 1) c5)) ∧ ∀ k, some k = Value.ownBlock (.slice (some ⟨g5, 0, none⟩) (n + 1) c5) → some k = wv.ownBlock ∨ w.heap.size ≤ k) := fun w7 g5 c5 ho7 hg7 hl7 => by
      have hp := PX.out
      rw [← HRR.out] at hp
      rw [← HNN.out] at ho7 ⊢
      exact p2_of H.out hx hl hp (by rw [HX.out]; exact ho7) hg7 hl7
    rw [HNN.out] at hwv hnp
    have hn1 : (n + 1) * 40 ≤ 140737488355328 := hnp
    clear hr1 hv1
    subst hwv
    go_upto_region 2 with fail
    go_cut [22] (fun cc wx => Hid (∃ wv' v', Ds B g dv wv' v' (addW s x) wx ∧ Kp (xc.Fd g (.slice wa n wcp)) w wx ∧ ∀ k, some k = wv'.ownBlock → some k = Value.ownBlock (.slice wa n wcp) ∨ w.heap.size ≤ k))
    case first =>
      go_region_law ((first | (have zz := O4.out; refine step_append_lies _ (by rfl) (.tmp 19) (.tmp 21) 61 (by rfl) B 109 i0 (.agg #[.string ByteArray.empty, .string ByteArray.empty, .bool false]) 3 40 Tryz.underlying61 HIN.out.1 HIN.out.2.1 HIN.out.2.2.1 HIN.out.2.2.2 rfl (by decide) (.slice wa n wcp) n _ (by simp [Act.eval]) O4.out ⟨wc.heap.size, 0, none⟩ 1 1 [.string k, .string d, .bool cut] (by simp [Act.eval]) rfl (new_wr wc _ _ _ _) (one_wr _ _ _) (by omega) (by unfold maxLen; omega) hn1 (by simp; omega) (wc.heap.size + 1) (by simp) ?_; intro g5 c5 w7 ho7 hg7 hl7 hlt7; have A7 : Hid _ := AR.out w7 g5 c5 ho7 ⟨hg7.os, hg7.tape, hg7.output, hg7.size, hg7.block⟩ hl7; obtain ⟨v7, hr7, hd7, hk7, hn7⟩ := A7.out; have c27 := hr7.c2; have f27 := hr7.fz 2; have D7 : Hid _ := hd7; have K7 : Hid _ := hk7; have N7 : Hid _ := hn7; clear ho7 hg7 hl7 zz hr7 hd7 hk7 hn7 A7)))
      all_goals (go_wp2; go_meet; exact ⟨_, v7, D7.out, K7.out, N7.out⟩)
    case rest =>
      obtain ⟨wv2, v2, hd2, hk2, hn2⟩ := hcut.out
      have CD : Hid (Calls _ _ _ _ _) := diesD hd2.row hd2.ok.arm ho
      have FIN : Hid (∀ W, Dt g dv wv2 v2 (spendS (addW s x)).2 W → Kp (fun k => k = g) wc W → Rd B g (.slice wa n wcp) (spendS (addW s x)).2 w W) := fun W hr k => ⟨dv, wv2, v2, ds_row hd2 hr k (dur_spend _) (pend_spend _) (ok_spend hd2.ok), hk2.trans (k.mono (fun _ e => .inl e)), hn2⟩
      clear hcut hd2 hk2 hn2 AR O4 c2 f2 c2a x0 x1 x2
      rcases HSP.out with hz | hz
      · rw [hz] at CD
        have HZ : Hid _ := hz
        clear hz
        have hdc : decide ((0 : Int) ≠ 0) = false := by decide
        rw [hdc] at CD
        go_wp2_with fail
        refine CD.out.mono ?_
        rintro _ w9 ⟨rfl, r9, k9⟩
        have F9 : Hid _ := FIN.out w9 r9 k9
        clear r9 k9
        go_wp2
        go_ret
        exact ⟨by rw [HZ.out]; rfl, F9.out⟩
      · rw [hz] at CD
        have HZ : Hid _ := hz
        clear hz
        have hdc : decide ((124 : Int) ≠ 0) = true := by decide
        rw [hdc] at CD
        go_wp2_with fail
        refine CD.out.mono ?_
        rintro _ w9 ⟨rfl, r9, k9⟩
        have F9 : Hid _ := FIN.out w9 r9 k9
        clear r9 k9
        go_wp2
        go_ret
        exact ⟨by rw [HZ.out]; rfl, F9.out⟩
end Go.Proofs.YtlkkibiedlakfaaGreat.xe

namespace Go.Proofs.YtlkkibiedlakfaaGreat.xf
open Go.RowKit Go.PlainAid Go.Maps Go.Shelf
open Go.Proofs.YtlkkibiedlakfaaGreat.ca Go.Proofs.YtlkkibiedlakfaaGreat.cb Go.Proofs.YtlkkibiedlakfaaGreat.cp Go.Proofs.YtlkkibiedlakfaaGreat.kp Go.Proofs.YtlkkibiedlakfaaGreat.ka Go.Proofs.YtlkkibiedlakfaaGreat.ya Go.Proofs.YtlkkibiedlakfaaGreat.yb Go.Proofs.YtlkkibiedlakfaaGreat.yc Go.Proofs.YtlkkibiedlakfaaGreat.ye Go.Proofs.YtlkkibiedlakfaaGreat.yf Go.Proofs.YtlkkibiedlakfaaGreat.yi Go.Proofs.YtlkkibiedlakfaaGreat.yk Go.Proofs.YtlkkibiedlakfaaGreat.yl Go.Proofs.YtlkkibiedlakfaaGreat.zf Go.Proofs.YtlkkibiedlakfaaGreat.zg Go.Proofs.YtlkkibiedlakfaaGreat.xa Go.Proofs.YtlkkibiedlakfaaGreat.xb Go.Proofs.YtlkkibiedlakfaaGreat.xc Go.Proofs.YtlkkibiedlakfaaGreat.xd Go.Proofs.YtlkkibiedlakfaaGreat.xe
set_option linter.unusedVariables false
set_option linter.unusedSimpArgs false
theorem rd_pre {B g : Nat} {wv : Value} {s' : S} {w w1 w2 : World} (b : Below w.heap.size w w1) (r : Rd B g wv s' w1 w2) : Rd B g wv s' w w2 := by
  obtain ⟨dv, wv', vv, h, k, n⟩ := r
  refine ⟨dv, wv', vv, h, (Kp.of_below b).trans k, fun j hj => ?_⟩
  rcases n j hj with e | e
  · exact .inl e
  · exact .inr (Nat.le_trans b.size e)
set_option maxRecDepth 40000 in
set_option maxHeartbeats 6400000 in
theorem cutD {B g : Nat} {dv wv vv : Value} {s : S} {w : World} (k : ByteArray) (h : Ds B g dv wv vv s w) (hB : B ≤ w.heap.size) (hl : s.dur.length + s.pend.length + 1 < 3518437208883) :
    Calls Tryz.prog 68 #[.pointer (some ⟨g, 0, none⟩), .string k] w fun e w' => e = .returned (.int .i64 (cutS s k).1) ∧ Rd B g wv (cutS s k).2 w w' := by
  have c3 := h.row.c3
  have c6 := h.row.c6
  have H : Hid (Ds B g dv wv vv s w) := h
  have CG : Hid (∀ w, Calls _ _ _ _ _) := fun w => goesD k w
  have CF : Hid (Calls _ _ _ _ _) := findC vv (now s) k w h.vl h.ok.snow (by have := h.ok.lnow; omega)
  have FS : Hid (∀ i, Fnd k (now s) i → (i = -1 ∧ rget k (now s) = none) ∨ (¬ i < 0 ∧ (rget k (now s)).isSome = true)) := fun i hi => by
    rcases hi with ⟨h1, h2⟩ | ⟨n, d, h1, h2, h3⟩
    · exact .inl ⟨h2, h1⟩
    · exact .inr ⟨by omega, by rw [h3]; rfl⟩
  obtain ⟨a, c, hvv⟩ := lr_form h.vl
  unfold cutS refS
  cases ho : s.off with
  | true =>
    rw [ho] at c3
    simp only [if_true]
    rw [if_pos (by simp)]
    clear h CG CF
    go_enter Tryz.func68, Tryz.ntmps68
    go_wp2
    go_ret
    exact ⟨rfl, Rd.refl H.out (Below.refl _ _)⟩
  | false =>
    rw [ho] at c3
    simp only [Bool.false_eq_true, if_false]
    by_cases hk : 1 ≤ k.size ∧ k.size ≤ 64
    · rw [if_pos hk, if_neg (by simp)]
      have CW : Hid (Calls _ _ _ _ _) := writeD ⟨true, k, ⟨#[]⟩⟩ h hB ho ⟨hk.1, hk.2, by show 0 ≤ _; omega⟩ hl
      rw [decide_eq_true hk] at CG
      obtain ⟨o, HO⟩ : ∃ o, Hid (rget k (now s) = o) := ⟨_, rfl⟩
      rw [HO.out] at FS ⊢
      clear hk h ho
      subst hvv
      obtain ⟨L, hL⟩ : ∃ L, (now s).length = L := ⟨_, rfl⟩
      rw [hL] at c6 CF
      clear hL
      go_enter Tryz.func68, Tryz.ntmps68
      go_wp2_with fail
      refine (CG.out _).mono ?_
      rintro _ _ ⟨rfl, hw⟩; rw [hw]; clear hw
      go_wp2_with fail
      refine CF.out.mono ?_
      rintro _ _ ⟨⟨i, rfl, hi⟩, hw⟩; rw [hw]; clear hw CF
      rcases FS.out i hi with ⟨rfl, rfl⟩ | ⟨hi0, hsm⟩
      · clear hi FS
        go_wp2
        go_ret
        exact ⟨rfl, Rd.refl H.out (Below.refl _ _)⟩
      · obtain ⟨dd, rfl⟩ := Option.isSome_iff_exists.1 hsm
        clear hi FS hsm
        go_wp2_with fail
        refine CW.out.mono ?_
        rintro _ w2 ⟨rfl, r2⟩
        have R2 : Hid (Rd _ _ _ _ _ _) := r2
        clear r2
        go_wp2
        go_ret
        exact ⟨rfl, R2.out⟩
    · rw [if_neg hk, if_pos (by simp)]
      rw [decide_eq_false hk] at CG
      clear hk h CF
      go_enter Tryz.func68, Tryz.ntmps68
      go_wp2_with fail
      refine (CG.out _).mono ?_
      rintro _ _ ⟨rfl, hw⟩; rw [hw]; clear hw
      go_wp2
      go_ret
      exact ⟨rfl, Rd.refl H.out (Below.refl _ _)⟩
theorem step_cnts {ops : Array Oper} {o : Oper} {a : Act} {w : World} {K : Act → World → Prop} {Q : Exit → Act → World → Prop} {E : Prop} (hg : o.guard = none) (i dd : Nat)
    (hop : o.op = .call { callee := .value (.func 96), args := #[.tmp i], argTypes := #[60] }) (hd : o.dst = some dd) (B : Nat) (v : Value) (r : List Rec)
    (hy : a.tmps[i]?.getD undef = v) (HR : Hid (Lr B v r w ∧ OkR r ∧ r.length < 3518437208883)) (T : Nat) (HT : Hid (tot r = T))
    (hK : ∀ w', Below w.heap.size w w' → K { tmps := a.tmps.setIfInBounds dd (.int .i64 (T : Int)), defers := a.defers } w') :
    if Region.wanted o (yielded ops a.tmps) = true then Oper.wp Tryz.prog o a w K Q else E := by
  have hw : Region.wanted o (yielded ops a.tmps) = true := by simp [Region.wanted, hg]
  rw [if_pos hw]
  have C := cntsC v r w HR.out.1 HR.out.2.1 HR.out.2.2
  rw [HT.out] at C
  have HKK : Hid _ := hK
  clear hK HR
  unfold Oper.wp execOp
  simp only [hop]
  go_simp
  refine C.mono ?_
  rintro e w' ⟨rfl, n, hn⟩
  exact HKK.out _ (by rw [hn]; exact zh.below_dN (Below.refl _ _) n)
set_option maxRecDepth 40000 in
set_option maxHeartbeats 12800000 in
theorem putD {B g : Nat} {dv wv vv : Value} {s : S} {w : World} (k d : ByteArray) (h : Ds B g dv wv vv s w) (hB : B ≤ w.heap.size) (hl : s.dur.length + s.pend.length + 1 < 3518437208883) (hd : d.size ≤ 140737488355328) :
    Calls Tryz.prog 44 #[.pointer (some ⟨g, 0, none⟩), .string k, .string d] w fun e w' => e = .returned (.int .i64 (putS s k d).1) ∧ Rd B g wv (putS s k d).2 w w' := by
  have c3 := h.row.c3
  have H : Hid (Ds B g dv wv vv s w) := h
  have CG : Hid (∀ w, Calls _ _ _ _ _) := fun w => goesD k w
  unfold putS refS
  cases ho : s.off with
  | true =>
    rw [ho] at c3
    simp only [if_true]
    rw [if_pos (by simp)]
    clear h CG
    go_enter Tryz.func44, Tryz.ntmps44
    go_wp2
    go_ret
    exact ⟨rfl, Rd.refl H.out (Below.refl _ _)⟩
  | false =>
    rw [ho] at c3
    simp only [Bool.false_eq_true, if_false]
    by_cases hk : 1 ≤ k.size ∧ k.size ≤ 64
    · rw [if_pos hk, if_neg (by simp)]
      rw [decide_eq_true hk] at CG
      by_cases hz : d.size ≤ 1048576
      · rw [if_pos hz]
        have hz1 : ¬ (1048576 : Int) < (d.size : Int) := by omega
        have hxx : OkW ⟨false, k, d⟩ := ⟨hk.1, hk.2, hz⟩
        have HXX : Hid _ := hxx
        obtain ⟨w0, HW0⟩ : ∃ w0, w0 = w.alloc (.cells #[.string k, .string d, .bool false] 109) := ⟨_, rfl⟩
        have b0 : Below w.heap.size w w0 := by rw [HW0]; exact (Below.refl _ w).alloc (Nat.le_refl _) _
        have hbx : w0.heap[w.heap.size]? = some (.cells #[.string k, .string d, .bool false] 109 (0, 0)) := by rw [HW0]; exact heap_alloc_new w _
        have h0 := h.later b0
        have hln := h.ok.lnow
        have hrl := len_doW (now s) ⟨false, k, d⟩
        have hln2 : (now s).length + 1 < 3518437208883 := by have := len_do s.dur s.pend; show (s.pend.foldl doW s.dur).length + 1 < _; omega
        have HOR : Hid (OkR (put k d (now s)) ∧ (put k d (now s)).length < 3518437208883) := ⟨ok_doW (x := ⟨false, k, d⟩) h.ok.now hxx, by have := len_put k d (now s); omega⟩
        have C1 : Hid (Calls _ _ _ _ _) := cntsC vv (now s) w0 h0.vl h.ok.now hln
        obtain ⟨T1, HT1⟩ : ∃ T, Hid (tot (now s) = T) := ⟨_, rfl⟩
        obtain ⟨T2, HT2⟩ : ∃ T, Hid (tot (put k d (now s)) = T) := ⟨_, rfl⟩
        rw [HT1.out] at C1
        rw [HT1.out, HT2.out]
        have c60 := h0.row.c6
        obtain ⟨va, vc, hvv⟩ := lr_form h.vl
        subst hvv
        have HDN : Hid (dn k d (now s) false = put k d (now s)) := dn_false k d _ h.ok.snow
        obtain ⟨R, HR⟩ : ∃ R, Hid (put k d (now s) = R) := ⟨_, rfl⟩
        rw [HR.out] at HDN HOR HT2
        have HB0 : Hid (Below w.heap.size w w0) := b0
        have HBX : Hid _ := hbx
        have CW : Hid (∀ wx, Below w.heap.size w wx → Calls Tryz.prog 97 #[.pointer (some ⟨g, 0, none⟩), .agg #[.string k, .string d, .bool false]] wx fun e w' => e = .returned (.int .i64 (spendS (addW s ⟨false, k, d⟩)).1) ∧ Rd B g wv (spendS (addW s ⟨false, k, d⟩)).2 w w') := fun wx b => by
          refine (writeD ⟨false, k, d⟩ (H.out.later b) (Nat.le_trans hB b.size) ho HXX.out hl).mono ?_
          rintro _ w' ⟨rfl, r⟩
          exact ⟨rfl, rd_pre b r⟩
        clear h h0 hk b0 hbx hxx hrl
        go_enter Tryz.func44, Tryz.ntmps44
        go_wp2_with fail
        refine (CG.out _).mono ?_
        rintro _ _ ⟨rfl, hw⟩; rw [hw]; clear hw
        go_upto_region 9 with fail
        rw [← HW0]
        clear HW0
        go_wp2_with fail
        refine C1.out.mono ?_
        rintro _ w1 ⟨rfl, hw⟩
        have b1 : Below w0.heap.size w0 w1 := by
          obtain ⟨m, hm⟩ := hw
          rw [hm]
          exact zh.below_dN (Below.refl _ _) m
        have HB1 : Hid (Below w.heap.size w w1) := HB0.out.trans (b1.mono HB0.out.size)
        have hb1 : w1.heap[w.heap.size]? = some (.cells #[.string k, .string d, .bool false] 109 (0, 0)) := (b1.block _ (Array.getElem?_eq_some_iff.1 HBX.out).1).trans HBX.out
        obtain ⟨x0, x1, x2⟩ := box3 hb1
        have HX1 : Hid _ := hb1
        have h1 := H.out.later HB1.out
        have c61 := h1.row.c6
        have HLR : Hid (Lr B (.slice va (now s).length vc) (now s) w1.drew ∧ dn k d (now s) false = R ∧ (now s).length < 3518437208883) := ⟨h1.vl, HDN.out, hln⟩
        have HGR : Hid (∀ a' c' w5, Gr w1.heap.size w1 (.slice a' R.length c') R w5 → (Lr w1.heap.size (.slice a' R.length c') R w5 ∧ OkR R ∧ R.length < 3518437208883) ∧ Below w1.heap.size w1 w5) := fun a' c' w5 gr => ⟨⟨gr.own, HOR.out.1, HOR.out.2⟩, gr.bl⟩
        clear hw b1 hb1 h1 c60 C1 HB0 HBX
        go_upto_region 10 with fail
        go_cut [10] (fun cc wx => cc = .int .i64 (T2 : Int) ∧ Hid (Below w1.heap.size w1 wx))
        case first =>
          go_region_law ((first
            | (have zz := HLR.out; refine step_done (by rfl) 34 35 36 (by rfl) (by rfl) B (.slice va (now s).length vc) (now s) R k d false (by simp [Act.put]) (by simp [Act.put]) HLR ?_; intro a' c' w5 gr; have A5 : Hid _ := HGR.out a' c' w5 ⟨gr.own, ⟨gr.bl.os, gr.bl.tape, gr.bl.output, gr.bl.size, gr.bl.block⟩⟩; have L5 : Hid (Lr w1.heap.size (.slice a' R.length c') R w5 ∧ OkR R ∧ R.length < 3518437208883) := A5.out.1; clear gr zz HLR)
            | (have zz := L5.out; refine step_cnts (by rfl) 36 37 (by rfl) (by rfl) w1.heap.size (.slice a' R.length c') R (by simp [Act.put]) L5 T2 HT2 ?_; intro w6 b6; have B6 : Hid (Below w1.heap.size w1 w6) := A5.out.2.trans (Below.mono (⟨b6.os, b6.tape, b6.output, b6.size, b6.block⟩ : Below w5.heap.size w5 w6) A5.out.2.size); clear b6 zz L5)))
          all_goals (go_wp2; go_meet; exact ⟨rfl, B6.out⟩)
        case rest =>
          obtain ⟨rfl, HBC⟩ := hcut
          have HB2 : Hid (Below w.heap.size w wc) := HB1.out.trans (HBC.out.mono HB1.out.size)
          obtain ⟨y0, y1, y2⟩ := box3 ((HBC.out.block _ (Array.getElem?_eq_some_iff.1 HX1.out).1).trans HX1.out)
          have cc0 := (H.out.later HB2.out).row.c0
          clear x0 x1 x2 c61 HLR HGR
          by_cases hf : s.cap < (T2 : Int) ∧ T1 < T2
          · have q1 : decide (s.cap < (T2 : Int)) = true := decide_eq_true hf.1
            have q2 : decide ((T1 : Int) < (T2 : Int)) = true := decide_eq_true (by omega)
            have q3 : decide (T1 < T2) = true := decide_eq_true hf.2
            have HFF : Hid _ := hf
            clear hf
            go_wp2
            go_ret
            all_goals first | exact ⟨rfl, Rd.refl H.out HB2.out⟩ | (exfalso; rename_i hc; exact hc HFF.out)
          · have hff : (decide (s.cap < (T2 : Int)) = false) ∨ (decide (s.cap < (T2 : Int)) = true ∧ decide ((T1 : Int) < (T2 : Int)) = false ∧ decide (T1 < T2) = false) := by
              by_cases q : s.cap < (T2 : Int)
              · exact .inr ⟨decide_eq_true q, decide_eq_false (fun e => hf ⟨q, by omega⟩), decide_eq_false (fun e => hf ⟨q, e⟩)⟩
              · exact .inl (decide_eq_false q)
            have HFF : Hid _ := hf
            clear hf
            rcases hff with q1 | ⟨q1, q2, q3⟩
            all_goals
              go_wp2_with fail
              refine (CW.out _ HB2.out).mono ?_
              rintro _ w9 ⟨rfl, r9⟩
              have R9 : Hid (Rd _ _ _ _ _ _) := r9
              clear r9
              go_wp2
              go_ret
              all_goals first | exact ⟨rfl, R9.out⟩ | (exfalso; rename_i hc; exact HFF.out hc)
      · rw [if_neg hz]
        have hz1 : (1048576 : Int) < (d.size : Int) := by omega
        clear hk h
        go_enter Tryz.func44, Tryz.ntmps44
        go_wp2_with fail
        refine (CG.out _).mono ?_
        rintro _ _ ⟨rfl, hw⟩; rw [hw]; clear hw
        go_wp2
        go_ret
        exact ⟨rfl, Rd.refl H.out (Below.refl _ _)⟩
    · rw [if_neg hk, if_pos (by simp)]
      rw [decide_eq_false hk] at CG
      clear hk h
      go_enter Tryz.func44, Tryz.ntmps44
      go_wp2_with fail
      refine (CG.out _).mono ?_
      rintro _ _ ⟨rfl, hw⟩; rw [hw]; clear hw
      go_wp2
      go_ret
      exact ⟨rfl, Rd.refl H.out (Below.refl _ _)⟩
end Go.Proofs.YtlkkibiedlakfaaGreat.xf

namespace Go.Proofs.YtlkkibiedlakfaaGreat.xg
open Go.RowKit Go.PlainAid Go.Maps Go.Shelf
open Go.Proofs.YtlkkibiedlakfaaGreat.ca Go.Proofs.YtlkkibiedlakfaaGreat.cb Go.Proofs.YtlkkibiedlakfaaGreat.cp Go.Proofs.YtlkkibiedlakfaaGreat.kp Go.Proofs.YtlkkibiedlakfaaGreat.ka Go.Proofs.YtlkkibiedlakfaaGreat.ya Go.Proofs.YtlkkibiedlakfaaGreat.yb Go.Proofs.YtlkkibiedlakfaaGreat.yc Go.Proofs.YtlkkibiedlakfaaGreat.ye Go.Proofs.YtlkkibiedlakfaaGreat.yf Go.Proofs.YtlkkibiedlakfaaGreat.yi Go.Proofs.YtlkkibiedlakfaaGreat.yk Go.Proofs.YtlkkibiedlakfaaGreat.yl Go.Proofs.YtlkkibiedlakfaaGreat.ym Go.Proofs.YtlkkibiedlakfaaGreat.zf Go.Proofs.YtlkkibiedlakfaaGreat.zg Go.Proofs.YtlkkibiedlakfaaGreat.xa Go.Proofs.YtlkkibiedlakfaaGreat.xb Go.Proofs.YtlkkibiedlakfaaGreat.xc Go.Proofs.YtlkkibiedlakfaaGreat.xd Go.Proofs.YtlkkibiedlakfaaGreat.xe Go.Proofs.YtlkkibiedlakfaaGreat.xf
set_option linter.unusedVariables false
set_option linter.unusedSimpArgs false
theorem wws_at (l : List W) (j : Nat) (x : W) (h : l[j]? = some x) : (wws l)[j * 3]? = some (.string x.key) ∧ (wws l)[j * 3 + 1]? = some (.string x.data) ∧ (wws l)[j * 3 + 2]? = some (.bool x.cut) := by
  induction l generalizing j with
  | nil => simp at h
  | cons q l ih =>
    cases j with
    | zero =>
      simp at h
      subst h
      exact ⟨rfl, rfl, rfl⟩
    | succ j =>
      have := ih j (by simpa using h)
      have e1 : (j + 1) * 3 = j * 3 + 3 := by omega
      rw [e1]
      exact this
theorem wl_at {B : Nat} {a : Option Addr} {c : Nat} {l : List W} {w : World} (o : w.ownsRow B 109 3 (.slice a l.length c) l.length (wws l)) (j : Nat) (x : W) (hj : l[j]? = some x) : ∃ g, a = some ⟨g, 0, none⟩ ∧ g < w.heap.size ∧ w.cell? ⟨g, j * 3, none⟩ = some (.string x.key) ∧ w.cell? ⟨g, j * 3 + 1, none⟩ = some (.string x.data) ∧ w.cell? ⟨g, j * 3 + 2, none⟩ = some (.bool x.cut) := by
  have hjl := (List.getElem?_eq_some_iff.1 hj).1
  rcases o.2 with ⟨_, h0⟩ | ⟨g, cap, cur, e, _, h3, h4, h5, h6, h7⟩
  · omega
  · injection e with e1 _ _
    obtain ⟨s1, s2, s3⟩ := wws_at l j x hj
    rw [← h7, List.getElem?_take_of_lt (by omega)] at s1 s2 s3
    refine ⟨g, e1, (Array.getElem?_eq_some_iff.1 h3).1, ?_, ?_, ?_⟩
    · rw [cell_of_row _ _ _ _ _ _ h3]; simpa using s1
    · rw [cell_of_row _ _ _ _ _ _ h3]; simpa using s2
    · rw [cell_of_row _ _ _ _ _ _ h3]; simpa using s3
theorem ok_crash {s : S} (keep : ByteArray) (h : OkS s) (ha : s.age < 4398046511104) : OkS (crashS s keep) := by
  refine ⟨?_, srt_kd h.srt _, (by intro x hx; cases hx), h.cap0, h.cap1, by show 0 ≤ _; omega, by show s.age + 1 ≤ _; omega, ?_⟩
  · exact ok_kd h.dur h.pend _
  · have := len_kd keep s.pend s.dur s.pend.length
    have h2 := h.len
    show (kdN keep s.pend s.dur s.pend.length).length + 0 < _
    omega
-- behind the loop: the six fields written
theorem crash_fin {B g : Nat} {dv wv vv lv : Value} {s : S} {w wr : World} (keep : ByteArray) (h : Ds B g dv wv vv s w) (ha : s.age < 4398046511104) (b : Below w.heap.size w wr) (hl : Lr B lv (kdN keep s.pend s.dur s.pend.length) wr) :
    Rd B g wv (crashS s keep) w ((((((wr.setCell ⟨g, 1, none⟩ lv).setCell ⟨g, 6, none⟩ lv).setCell ⟨g, 2, none⟩ (.slice none 0 0)).setCell ⟨g, 3, none⟩ (.bool false)).setCell ⟨g, 4, none⟩ (.int .i64 0)).setCell ⟨g, 5, none⟩ (.int .i64 ((s.age + 1 : Nat) : Int))) := by
  have h5 := h.later b
  have r2 := (((((h5.row.set1 lv).set6 lv).set2 (.slice none 0 0)).set3 false).set4 0).set5 (s.age + 1)
  have kk : Kp (fun k => k = g) wr ((((((wr.setCell ⟨g, 1, none⟩ lv).setCell ⟨g, 6, none⟩ lv).setCell ⟨g, 2, none⟩ (.slice none 0 0)).setCell ⟨g, 3, none⟩ (.bool false)).setCell ⟨g, 4, none⟩ (.int .i64 0)).setCell ⟨g, 5, none⟩ (.int .i64 ((s.age + 1 : Nat) : Int))) :=
    Kp.trans (A := fun k => k = g) (Kp.trans (A := fun k => k = g) (Kp.trans (A := fun k => k = g) (Kp.trans (A := fun k => k = g) (Kp.trans (A := fun k => k = g) (Kp.setCell _ g _ _ rfl) (Kp.setCell _ g _ _ rfl)) (Kp.setCell _ g _ _ rfl)) (Kp.setCell _ g _ _ rfl)) (Kp.setCell _ g _ _ rfl)) (Kp.setCell _ g _ _ rfl)
  have hl2 := own_kp hl kk (fun j hj e => own_tag hl h5.row dr1 (by rw [← e]; exact hj))
  exact ⟨lv, .slice none 0 0, lv, ⟨r2, hl2, hl2, World.ownsRow_nil _ _ _ _, h.low, ok_crash keep h.ok ha⟩, (Kp.of_below b).trans (kk.mono (fun _ e => .inl e)), fun k hk => by cases hk⟩
set_option maxRecDepth 40000 in
set_option maxHeartbeats 12800000 in
theorem crashD {B g : Nat} {dv wv vv : Value} {s : S} {w : World} (keep : ByteArray) (h : Ds B g dv wv vv s w) (hB : B ≤ w.heap.size) (hk : keep.size ≤ 140737488355328) (ha : s.age < 4398046511104) :
    Calls Tryz.prog 16 #[.pointer (some ⟨g, 0, none⟩), .string keep] w fun e w' => e = .returned (.tuple #[]) ∧ Rd B g wv (crashS s keep) w w' := by
  have H : Hid (Ds B g dv wv vv s w) := h
  have hbt := get_bt keep
  have hlen := h.ok.len
  obtain ⟨wa, wcp, hwv⟩ := own_formS h.wl
  subst hwv
  obtain ⟨P, HP⟩ : ∃ P, Hid (s.pend = P) := ⟨_, rfl⟩
  obtain ⟨da, dc, hdv⟩ := lr_form h.dl
  have FIN : Hid (∀ lv wr, Below w.heap.size w wr → Lr B lv (kdN keep P s.dur P.length) wr → Rd B g (.slice wa s.pend.length wcp) (crashS s keep) w _) := fun lv wr b hl => crash_fin keep H.out ha b (by rw [HP.out]; exact hl)
  have CX : Hid (∀ wr, Below w.heap.size w wr → Ds B g dv (.slice wa s.pend.length wcp) vv s wr) := fun wr b => H.out.later b
  have WL : Hid (∀ (j : Nat) (x : W), P[j]? = some x → ∃ gw, wa = some ⟨gw, 0, none⟩ ∧ ∀ wr, Below w.heap.size w wr → wr.cell? ⟨gw, j * 3, none⟩ = some (.string x.key) ∧ wr.cell? ⟨gw, j * 3 + 1, none⟩ = some (.string x.data) ∧ wr.cell? ⟨gw, j * 3 + 2, none⟩ = some (.bool x.cut)) := fun j x hx => by
    obtain ⟨gw, e, hg, q1, q2, q3⟩ := wl_at H.out.wl j x (by rw [HP.out]; exact hx)
    exact ⟨gw, e, fun wr b => ⟨(b.cell hg).trans q1, (b.cell hg).trans q2, (b.cell hg).trans q3⟩⟩
  have HDL : Hid (Lr B dv s.dur w) := h.dl
  have HSD : Hid (Srt s.dur) := h.ok.srt
  have c1 := h.row.c1
  rw [HP.out] at CX FIN hlen
  obtain ⟨n, hn⟩ : ∃ n, P.length = n := ⟨_, rfl⟩
  have HNN : Hid _ := hn
  have HNL : Hid (s.pend.length = n) := by rw [HP.out]; exact hn
  rw [hn] at CX FIN hlen
  subst hdv
  have SV : Hid (∀ j x, P[j]? = some x → kdN keep P s.dur (j + 1) = if surv keep j then doW (kdN keep P s.dur j) x else kdN keep P s.dur j) := fun j x hx => by
    show (match P[j]? with | some x => _ | none => _) = _
    rw [hx]
  clear h hn
  go_enter Tryz.func16, Tryz.ntmps16
  go_wp2_with fail
  go_loopw [4, 5] (fun lv iv wr => ∃ j : Nat, j ≤ n ∧ iv = .int .i64 j ∧ Hid (Lr B lv (kdN keep P s.dur j) wr ∧ Below w.heap.size w wr)) (fun _ iv _ => (n - intOf iv).toNat)
  case atStart => exact ⟨0, Nat.zero_le _, rfl, HDL.out, Below.refl _ _⟩
  case round =>
    obtain ⟨j, hj, rfl, HH⟩ := hrel
    have hc2 := (CX.out wr HH.out.2).row.c2
    have hlk := len_kd keep P s.dur j
    obtain ⟨la, lc, hlv⟩ := lr_form HH.out.1
    subst hlv
    obtain ⟨kl, HKL⟩ : ∃ kl, Hid ((kdN keep P s.dur j).length = kl) := ⟨_, rfl⟩
    by_cases hgo : j < n ∧ 0 < keep.size
    · have g1 : (j : Int) < n := by omega
      have g2 : decide ((0 : Int) < (keep.size : Int)) = true := decide_eq_true (by omega)
      have g3 : decide (0 < keep.size) = true := decide_eq_true hgo.2
      have hk0 := hgo.2
      obtain ⟨x, hx⟩ : ∃ x, P[j]? = some x := ⟨_, List.getElem?_eq_getElem (by have := HNN.out; omega)⟩
      obtain ⟨gw, hwa, hcx⟩ := WL.out j x hx
      have hsv := SV.out j x hx
      obtain ⟨x0, x1, x2⟩ := hcx wr HH.out.2
      obtain ⟨m, hm0⟩ : ∃ m, keep.size = m := ⟨_, rfl⟩
      obtain ⟨r, hr⟩ : ∃ r, j % m = r := ⟨_, rfl⟩
      have hrn : r < m := by rw [← hr]; exact Nat.mod_lt _ (by omega)
      have hm : Int.tmod (j : Int) (m : Int) = (r : Int) := by rw [← hr]; rfl
      have hn0 : ((m : Int) == 0) = false := by rw [beq_eq_false_iff_ne]; omega
      have hw1 : IntKind.i64.wrap (r : Int) = r := wrap_is _ (by omega)
      have hrs : r < keep.size := by omega
      have hb0 := bt_nonneg keep r
      have hb1 := bt_le keep r
      have HSV : Hid (surv keep j = decide (bt keep r % 2 = 1)) := by
        show _ = _
        unfold surv
        rw [hm0, hr]
        simp [show m ≠ 0 by omega]
      have hlt2 : (r : Int) < (m : Int) := by omega
      obtain ⟨y, hy⟩ : ∃ y, bt keep r = y := ⟨_, rfl⟩
      rw [hy] at hb0 hb1 HSV
      have hy' : ∀ h, ((keep[r]'h).toNat : Int) = y := fun h => by rw [← hy]; exact hbt r h
      have ht : Int.tmod y 2 = y % 2 := Int.tmod_eq_emod_of_nonneg hb0
      have hw2 : IntKind.u8.wrap (y % 2) = y % 2 := by
        rcases (show y % 2 = 0 ∨ y % 2 = 1 by omega) with e | e <;> rw [e] <;> decide
      subst hwa
      by_cases ho : y % 2 = 1
      · have t1 : (y % 2 == 1) = true := by rw [ho]; rfl
        rw [HSV.out, decide_eq_true ho, if_pos rfl] at hsv
        have HKD : Hid _ := hsv
        have CD : Hid (Calls _ _ _ _ _) := doneC (.slice la (kdN keep P s.dur j).length lc) (kdN keep P s.dur j) x wr HH.out.1 (srt_kd HSD.out _) (by omega)
        obtain ⟨xk, hxk⟩ : ∃ q, x.key = q := ⟨_, rfl⟩
        obtain ⟨xd, hxd⟩ : ∃ q, x.data = q := ⟨_, rfl⟩
        obtain ⟨xc', hxc⟩ : ∃ q, x.cut = q := ⟨_, rfl⟩
        rw [hxk, hxd, hxc] at CD
        rw [hxk] at x0
        rw [hxd] at x1
        rw [hxc] at x2
        rw [HKL.out] at CD ⊢
        clear hx hsv hxk hxd hxc hr hy hcx HSV hbt hgo
        go_wp2_with fail
        refine CD.out.mono ?_
        rintro _ w5 ⟨v5, rfl, gr⟩
        have H5 : Hid (Lr B v5 (kdN keep P s.dur (j + 1)) w5 ∧ Below w.heap.size w w5) := by
          rw [HKD.out]
          exact ⟨own_low gr.own (Nat.le_trans hB HH.out.2.size), over HH.out.2 gr.bl⟩
        clear gr
        go_wp2
        go_roundw
        case rel => exact ⟨j + 1, by omega, by go_num, H5.out⟩
        case measure => simp [intOf]; omega
      · have t1 : (y % 2 == 1) = false := by rw [beq_eq_false_iff_ne]; exact ho
        rw [HSV.out, decide_eq_false ho, if_neg (by simp)] at hsv
        have HKD : Hid _ := hsv
        clear hx hsv hr hy hcx HSV hbt hgo x0 x1 x2
        go_wp2
        go_roundw
        case rel => exact ⟨j + 1, by omega, by go_num, by rw [HKD.out]; exact HH.out⟩
        case measure => simp [intOf]; omega
    · have HF : Hid (Lr B (.slice la (kdN keep P s.dur j).length lc) (kdN keep P s.dur n) wr ∧ Below w.heap.size w wr) := by
        refine ⟨?_, HH.out.2⟩
        rcases Nat.lt_or_ge j n with h1 | h1
        · have h2 : keep.size = 0 := by omega
          have := HH.out.1
          rw [zb.kd_no h2 P s.dur j] at this
          rw [zb.kd_no h2 P s.dur j, zb.kd_no h2 P s.dur n]
          exact this
        · have e : j = n := by omega
          rw [← e]; exact HH.out.1
      have hgs : (¬ (j : Int) < n) ∨ ((j : Int) < n ∧ decide ((0 : Int) < (keep.size : Int)) = false ∧ decide (0 < keep.size) = false) := by
        rcases Nat.lt_or_ge j n with h1 | h1
        · exact .inr ⟨by omega, decide_eq_false (by omega), decide_eq_false (by omega)⟩
        · exact .inl (by omega)
      have d := CX.out wr HH.out.2
      have c1 := d.row.c1
      have c6 := d.row.c6
      have c3 := d.row.c3
      have c4 := d.row.c4
      have c5 := d.row.c5
      have f1 := d.row.fz 1
      have f2 := d.row.fz 2
      have f3 := d.row.fz 3
      have f4 := d.row.fz 4
      have f5 := d.row.fz 5
      have f6 := d.row.fz 6
      have FF : Hid _ := FIN.out _ wr HF.out.2 HF.out.1
      rw [HKL.out] at FF ⊢
      obtain ⟨A, hA⟩ : ∃ A, s.age + 1 = A := ⟨_, rfl⟩
      rw [hA] at FF
      have hag2 : (s.age : Int) + 1 = (A : Int) := by omega
      have hag : IntKind.i64.wrap (A : Int) = (A : Int) := wrap_is _ (by omega)
      have hag3 : IntKind.i64.wrap ((s.age : Int) + 1) = (A : Int) := by rw [hag2]; exact hag
      clear hA
      clear d hgo hbt
      rcases hgs with g1 | ⟨g1, g2, g3⟩
      all_goals
        go_wp2
        go_end0
        exact ⟨rfl, by rw [HNL.out]; exact FF.out⟩
end Go.Proofs.YtlkkibiedlakfaaGreat.xg

namespace Go.Proofs.YtlkkibiedlakfaaGreat.xh
open Go.RowKit Go.PlainAid Go.Maps Go.Shelf
open Go.Proofs.YtlkkibiedlakfaaGreat.ca Go.Proofs.YtlkkibiedlakfaaGreat.cb Go.Proofs.YtlkkibiedlakfaaGreat.cp Go.Proofs.YtlkkibiedlakfaaGreat.kp Go.Proofs.YtlkkibiedlakfaaGreat.ka Go.Proofs.YtlkkibiedlakfaaGreat.ya Go.Proofs.YtlkkibiedlakfaaGreat.yb Go.Proofs.YtlkkibiedlakfaaGreat.yc Go.Proofs.YtlkkibiedlakfaaGreat.yd Go.Proofs.YtlkkibiedlakfaaGreat.ye Go.Proofs.YtlkkibiedlakfaaGreat.yf Go.Proofs.YtlkkibiedlakfaaGreat.yi Go.Proofs.YtlkkibiedlakfaaGreat.zf Go.Proofs.YtlkkibiedlakfaaGreat.zg Go.Proofs.YtlkkibiedlakfaaGreat.xa Go.Proofs.YtlkkibiedlakfaaGreat.xb Go.Proofs.YtlkkibiedlakfaaGreat.xc
set_option linter.unusedVariables false
set_option linter.unusedSimpArgs false
theorem keysL_next (pre : ByteArray) (r : List Rec) (j : Nat) (p : Rec) (h : r[j]? = some p) : keysL pre (r.take (j + 1)) = keysL pre (r.take j) ++ (if Lib.hasPrefix (bs p.1) (bs pre) then [p.1] else []) := by
  unfold keysL
  rw [List.take_add_one, h]
  simp only [Option.toList_some, List.filter_append, List.map_append]
  cases hb : Lib.hasPrefix (bs p.1) (bs pre) <;> simp [hb]
theorem keysL_len (pre : ByteArray) (r : List Rec) : (keysL pre r).length ≤ r.length := by
  unfold keysL
  rw [List.length_map]
  exact List.length_filter_le _ _
set_option maxRecDepth 40000 in
set_option maxHeartbeats 6400000 in
theorem keysD {B g : Nat} {dv wv vv : Value} {s : S} {w : World} (pre : ByteArray) (h : Ds B g dv wv vv s w) :
    Calls Tryz.prog 11 #[.pointer (some ⟨g, 0, none⟩), .string pre] w fun e w' => ∃ v, e = .returned v ∧ w'.ownsRow w.heap.size 9 1 v (keysS s pre).length ((keysS s pre).map Value.string) ∧ Below w.heap.size w w' := by
  have c3 := h.row.c3
  have H : Hid (Ds B g dv wv vv s w) := h
  unfold keysS
  cases ho : s.off with
  | true =>
    rw [ho] at c3
    simp only [if_true]
    clear h
    go_enter Tryz.func11, Tryz.ntmps11
    go_wp2
    go_ret
    exact ⟨_, rfl, World.ownsRow_nil _ _ _ _, Below.refl _ _⟩
  | false =>
    rw [ho] at c3
    simp only [Bool.false_eq_true, if_false]
    obtain ⟨va, vc, hvv⟩ := lr_form h.vl
    subst hvv
    have hln := h.ok.lnow
    obtain ⟨i9, hi, hz0, hz1, hz2⟩ := ka.info_parts ka.hi9
    have HIN : Hid (_ ∧ _ ∧ _ ∧ _) := ⟨hi, hz0, hz1, hz2⟩
    clear hi hz0 hz1 hz2
    have VC : Hid (∀ (j : Nat) (p : Rec), (now s)[j]? = some p → ∃ gv, va = some ⟨gv, 0, none⟩ ∧ ∀ wr, Below w.heap.size w wr → wr.cell? ⟨gv, j * 2, none⟩ = some (.string p.1)) := fun j p hp => by
      obtain ⟨gv, e, hg, q1, _⟩ := lr_at H.out.vl j p hp
      exact ⟨gv, e, fun wr b => (b.cell hg).trans q1⟩
    have C6 : Hid (∀ wr, Below w.heap.size w wr → wr.cell? ⟨g, 6, none⟩ = some (.slice va (now s).length vc)) := fun wr b => (H.out.later b).row.c6
    obtain ⟨N, HN⟩ : ∃ N, Hid (now s = N) := ⟨_, rfl⟩
    have c60 := C6.out w (Below.refl _ _)
    rw [HN.out] at VC C6 hln c60 ⊢
    obtain ⟨L, hL⟩ : ∃ L, N.length = L := ⟨_, rfl⟩
    have HLL : Hid _ := hL
    rw [hL] at C6 hln c60
    clear h hL
    go_enter Tryz.func11, Tryz.ntmps11
    go_wp2_with fail
    go_loopw [5, 6] (fun ov iv wr => ∃ j : Nat, j ≤ L ∧ iv = .int .i64 j ∧ Hid (wr.ownsRow w.heap.size 9 1 ov (keysL pre (N.take j)).length ((keysL pre (N.take j)).map Value.string) ∧ Below w.heap.size w wr)) (fun _ iv _ => (L - intOf iv).toNat)
    case atStart => exact ⟨0, Nat.zero_le _, rfl, World.ownsRow_nil _ _ _ _, Below.refl _ _⟩
    case round =>
      clear c60 c3
      obtain ⟨j, hj, rfl, HH⟩ := hrel
      obtain ⟨oa, oc, hov⟩ := own_formS HH.out.1
      subst hov
      have c6 := C6.out wr HH.out.2
      by_cases hlt : j < L
      · have hlt' : (j : Int) < L := by omega
        obtain ⟨p, hp⟩ : ∃ p, N[j]? = some p := ⟨_, List.getElem?_eq_getElem (by have := HLL.out; omega)⟩
        obtain ⟨gv, hva, hcx⟩ := VC.out j p hp
        have cp := hcx wr HH.out.2
        have hnx := keysL_next pre N j p hp
        have hkl := keysL_len pre (N.take j)
        have hkl2 : (N.take j).length ≤ j := by rw [List.length_take]; omega
        obtain ⟨K, HK⟩ : ∃ K, Hid (keysL pre (N.take j) = K) := ⟨_, rfl⟩
        rw [HK.out] at hnx HH hkl ⊢
        obtain ⟨pk, pd⟩ := p
        simp only at hnx cp
        obtain ⟨m, HM⟩ : ∃ m, Hid (K.length = m) := ⟨_, rfl⟩
        have hmb : m ≤ j := by have := HM.out; omega
        rw [HM.out] at HH ⊢
        subst hva
        by_cases hpx : pre.size ≤ pk.size ∧ (pk.extract 0 pre.size).toList = pre.toList
        · have q1 : decide ((pre.size : Int) ≤ (pk.size : Int)) = true := decide_eq_true (by omega)
          have q1' : decide (pre.size ≤ pk.size) = true := decide_eq_true hpx.1
          have q2 : ((pk.extract 0 pre.size).toList == pre.toList) = true := by rw [hpx.2]; simp
          have q3 : (pre.size : Int) ≤ (pk.size : Int) := by omega
          have hh : Lib.hasPrefix (bs pk) (bs pre) = true := by
            have e := Lib.hasPrefix_raw pk pre
            rw [q2] at e
            simp [hpx.1] at e
            exact e
          rw [hh, if_pos rfl] at hnx
          have HNX : Hid _ := hnx
          have A1 : Hid (World.ownsRow (wr.alloc (.cells #[.string pk] 9)) w.heap.size 9 1 (.slice oa m oc) m (K.map Value.string)) := HH.out.1.alloc _
          have hsz : w.heap.size ≤ wr.heap.size := HH.out.2.size
          have b1 : Hid (Below w.heap.size w (wr.alloc (.cells #[.string pk] 9))) := over HH.out.2 ((Below.refl _ wr).alloc (Nat.le_refl _) _)
          clear hpx hp hcx hnx hh
          go_wp2_with (first | (at_builtin; (refine wpList_append_own _ rfl _ _ 31 rfl w.heap.size 9 i9 (.string ByteArray.empty) 1 16 Tryz.underlying31 HIN.out.1 HIN.out.2.1 HIN.out.2.2.1 HIN.out.2.2.2 rfl (by decide) _ m _ rfl A1.out ⟨wr.heap.size, 0, none⟩ 1 1 [.string pk] rfl rfl (new_text _ _ _) (one_text _) (by unfold maxLen; omega) (by omega) (by simp; omega) ?_; intro v' w7 ho hg hnn; have HO3 : Hid (World.ownsRow _ _ _ _ _ _ _) := ho; have HG3 : Hid (World.grownBy _ _ _) := hg; clear ho hg hnn)) | go_in)
          go_roundw
          case rel =>
            refine ⟨j + 1, by omega, by go_num, ?_, ?_⟩
            · rw [HNX.out, List.length_append, List.map_append, HM.out]; exact HO3.out
            · exact below_grownBy b1.out HG3.out (Nat.le_refl _) (fun i hi => (A1.out.lt _ hi).1)
          case measure => simp [intOf]; omega
        · have hcs : (decide ((pre.size : Int) ≤ (pk.size : Int)) = false ∧ decide (pre.size ≤ pk.size) = false) ∨ (decide ((pre.size : Int) ≤ (pk.size : Int)) = true ∧ decide (pre.size ≤ pk.size) = true ∧ (pre.size : Int) ≤ (pk.size : Int) ∧ ((pk.extract 0 pre.size).toList == pre.toList) = false) := by
            by_cases q : pre.size ≤ pk.size
            · exact .inr ⟨decide_eq_true (by omega), decide_eq_true q, by omega, by rw [beq_eq_false_iff_ne]; exact fun e => hpx ⟨q, e⟩⟩
            · exact .inl ⟨decide_eq_false (by omega), decide_eq_false q⟩
          have hh : Lib.hasPrefix (bs pk) (bs pre) = false := by
            have e := Lib.hasPrefix_raw pk pre
            rcases hcs with ⟨_, q⟩ | ⟨_, _, _, q⟩
            · simp at q
              rw [show Lib.hasPrefix (bs pk) (bs pre) = _ from e.symm]; simp; omega
            · rw [q] at e
              simp at e
              exact e.symm ▸ rfl
          rw [hh, if_neg (by simp), List.append_nil] at hnx
          have HNX : Hid _ := hnx
          clear hpx hp hcx hnx hh
          rcases hcs with ⟨q1, q2⟩ | ⟨q1, q2, q3, q4⟩
          all_goals
            go_wp2
            go_roundw
            case rel => exact ⟨j + 1, by omega, by go_num, by rw [HNX.out, HM.out]; exact HH.out⟩
            case measure => simp [intOf]; omega
      · have hlt' : ¬ (j : Int) < L := by omega
        have HF : Hid (wr.ownsRow w.heap.size 9 1 (.slice oa (keysL pre (N.take j)).length oc) (keysL pre N).length ((keysL pre N).map Value.string) ∧ Below w.heap.size w wr) := by
          have h1 := HH.out
          have e : N.take j = N := List.take_of_length_le (by have := HLL.out; omega)
          rw [e] at h1 ⊢
          exact h1
        go_wp2
        go_ret
        exact ⟨_, rfl, HF.out⟩
end Go.Proofs.YtlkkibiedlakfaaGreat.xh
