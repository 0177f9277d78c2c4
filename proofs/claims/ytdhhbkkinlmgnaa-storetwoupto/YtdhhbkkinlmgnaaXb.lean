import Derived.Test.YtdhhbkkinlmgnaaXa
import Derived.Test.YtdhhbkkinlmgnaaZc
namespace Go.Proofs.Ytdhhbkkinlmgnaa.xb
open Go.RowKit Go.PlainAid Go.Maps Go.Shelf
open Go.Proofs.Ytdhhbkkinlmgnaa.ca Go.Proofs.Ytdhhbkkinlmgnaa.cb Go.Proofs.Ytdhhbkkinlmgnaa.cp Go.Proofs.Ytdhhbkkinlmgnaa.kp Go.Proofs.Ytdhhbkkinlmgnaa.ka Go.Proofs.Ytdhhbkkinlmgnaa.ya Go.Proofs.Ytdhhbkkinlmgnaa.yb Go.Proofs.Ytdhhbkkinlmgnaa.yc Go.Proofs.Ytdhhbkkinlmgnaa.ye Go.Proofs.Ytdhhbkkinlmgnaa.yf Go.Proofs.Ytdhhbkkinlmgnaa.yo Go.Proofs.Ytdhhbkkinlmgnaa.zf Go.Proofs.Ytdhhbkkinlmgnaa.xa
set_option linter.unusedVariables false
set_option linter.unusedSimpArgs false
theorem info_R : (Try.prog.info? 71).map (fun i => (i.zero, i.size, i.bytes)) = some (some (.agg #[.string ByteArray.empty, .string ByteArray.empty]), 2, 32) := by kernel_rfl
theorem info_W : (Try.prog.info? 104).map (fun i => (i.zero, i.size, i.bytes)) = some (some (.agg #[.string ByteArray.empty, .string ByteArray.empty, .bool false]), 3, 40) := by kernel_rfl
-- one write done to a list
def dn (k d : ByteArray) : List Rec → Bool → List Rec
  | [], put => if put then [] else [(k, d)]
  | y :: l, put => (if !put && !(lt y.1 k) then [(k, d)] else []) ++ ((if y.1 = k then [] else [y]) ++ dn k d l (put || !(lt y.1 k)))
theorem dn_true (k d : ByteArray) (l : List Rec) : dn k d l true = del k l := by
  induction l with
  | nil => rfl
  | cons y l ih =>
    unfold dn
    simp only [Bool.not_true, Bool.false_and, Bool.false_eq_true, if_false, List.nil_append, Bool.true_or, ih]
    unfold del
    by_cases e : y.1 = k <;> simp [e]
theorem ins_first (x : Rec) (l : List Rec) (h : ∀ y ∈ l, lt x.1 y.1 = true) : ins x l = x :: l := by
  cases l with
  | nil => rfl
  | cons y l => unfold ins; rw [if_pos (h y (by simp))]
theorem dn_false (k d : ByteArray) (l : List Rec) (hs : Srt l) : dn k d l false = put k d l := by
  induction l with
  | nil => rfl
  | cons y l ih =>
    have hs2 := List.pairwise_cons.1 hs
    unfold dn
    cases h : lt y.1 k with
    | true =>
      have hne : y.1 ≠ k := lt_ne h
      have hd : del k (y :: l) = y :: del k l := by unfold del; simp [hne]
      simp only [Bool.not_true, Bool.and_false, Bool.false_eq_true, if_false, List.nil_append, Bool.or_false, hne]
      rw [ih hs2.2]
      unfold put
      rw [hd]
      show _ = ins (k, d) (y :: del k l)
      rw [ins, if_neg (by simp [lt_asym h])]
      rfl
    | false =>
      simp only [Bool.not_false, Bool.and_true, if_true, Bool.or_true, dn_true]
      unfold put
      by_cases e : y.1 = k
      · have hd : del k (y :: l) = del k l := by unfold del; simp [e]
        rw [if_pos e, hd, ins_first (k, d) (del k l) (fun z hz => by rw [← e]; exact hs2.1 z (mem_del.1 hz).1)]
        rfl
      · have hd : del k (y :: l) = y :: del k l := by unfold del; simp [e]
        have hk : lt k y.1 = true := by
          rcases lt_tot y.1 k e with h2 | h2
          · rw [h2] at h; cases h
          · exact h2
        rw [if_neg e, hd]
        show _ = ins (k, d) (y :: del k l)
        rw [ins, if_pos hk]
        rfl
theorem dn_doW (x : W) (l : List Rec) (hs : Srt l) : dn x.key x.data l x.cut = doW l x := by
  unfold doW
  cases x.cut with
  | true => exact dn_true _ _ _
  | false => exact dn_false _ _ _ hs
theorem dn_at (k d : ByteArray) {r : List Rec} {j : Nat} {p : Rec} (hp : r[j]? = some p) (put : Bool) : dn k d (r.drop j) put = (if !put && !(lt p.1 k) then [(k, d)] else []) ++ ((if p.1 = k then [] else [p]) ++ dn k d (r.drop (j + 1)) (put || !(lt p.1 k))) := by
  obtain ⟨hj, e⟩ := List.getElem?_eq_some_iff.1 hp
  rw [List.drop_eq_getElem_cons hj, e]
  rfl
theorem less_is (a b : ByteArray) : Op.bytesLess a.toList b.toList = lt a b := by
  rw [za.bytes_is, ByteArray.toList_eq, ByteArray.toList_eq]; rfl
-- a row of records of the call's own grows by one
structure Gr (B : Nat) (w : World) (v : Value) (l : List Rec) (w' : World) : Prop where
  own : Lr B v l w'
  bl : Below B w w'
theorem one_rc (k d : ByteArray) : ∀ u ∈ [Value.string k, .string d], u.oneCell' = true := by
  intro u hu; simp only [List.mem_cons, List.not_mem_nil, or_false] at hu; rcases hu with rfl | rfl <;> rfl
theorem Gr.later {B : Nat} {w w1 w2 : World} {v : Value} {l : List Rec} (h : Gr B w v l w1) (b : Below w1.heap.size w1 w2) (hB : B ≤ w.heap.size) : Gr B w v l w2 := ⟨Lr.later h.own b, h.bl.trans (b.mono (Nat.le_trans hB h.bl.size))⟩
theorem Gr.grown {B : Nat} {w w1 w2 : World} {v v' : Value} {l : List Rec} {k d : ByteArray} (h : Gr B w v l w1) (hB : B ≤ w.heap.size) (o : w2.ownsRow B 71 2 v' (l.length + 1) (rcs l ++ [.string k, .string d])) (hg : w1.grownBy w2 v.ownBlock) : Gr B w v' (l ++ [(k, d)]) w2 := by
  refine ⟨?_, h.bl.grown hg (Nat.le_trans hB h.bl.size) (fun j hj => (h.own.lt _ hj).1)⟩
  have e : (l ++ [(k, d)]).length = l.length + 1 := by simp
  show w2.ownsRow B 71 2 v' (l ++ [(k, d)]).length (rcs (l ++ [(k, d)]))
  rw [e, rcs_app]
  exact o
theorem tw1 : (71 : Nat) ≠ 104 := by decide
structure Dn (k d : ByteArray) (cut : Bool) (w : World) (ov : Value) (out : List Rec) (wr : World) : Prop where
  gr : Gr w.heap.size w ov out wr
  box : wr.heap[w.heap.size]? = some (.cells #[.string k, .string d, .bool cut] 104 (0, 0))
theorem Dn.later {k d : ByteArray} {cut : Bool} {w w1 w2 : World} {ov : Value} {out : List Rec} (h : Dn k d cut w ov out w1) (b : Below w1.heap.size w1 w2) : Dn k d cut w ov out w2 :=
  ⟨h.gr.later b (Nat.le_refl _), (b.block _ (Array.getElem?_eq_some_iff.1 h.box).1).trans h.box⟩
theorem Dn.grown {k d : ByteArray} {cut : Bool} {w w1 w2 : World} {v v' : Value} {l : List Rec} {x y : ByteArray} (h : Dn k d cut w v l w1) (o : w2.ownsRow w.heap.size 71 2 v' (l.length + 1) (rcs l ++ [.string x, .string y])) (hg : w1.grownBy w2 v.ownBlock) : Dn k d cut w v' (l ++ [(x, y)]) w2 :=
  ⟨h.gr.grown (Nat.le_refl _) o hg, (hg.block _ (Array.getElem?_eq_some_iff.1 h.box).1 (own_tag h.gr.own h.box tw1)).trans h.box⟩
theorem Dn.cells {k d : ByteArray} {cut : Bool} {w w1 : World} {ov : Value} {out : List Rec} (h : Dn k d cut w ov out w1) : w1.cell? ⟨w.heap.size, 0, none⟩ = some (.string k) ∧ w1.cell? ⟨w.heap.size, 1, none⟩ = some (.string d) ∧ w1.cell? ⟨w.heap.size, 2, none⟩ = some (.bool cut) :=
  ⟨cell_of_row _ _ 0 _ _ _ h.box, cell_of_row _ _ 1 _ _ _ h.box, cell_of_row _ _ 2 _ _ _ h.box⟩
set_option maxRecDepth 40000 in
set_option maxHeartbeats 12800000 in
theorem doneC0 {B : Nat} (v : Value) (r : List Rec) (k d : ByteArray) (cut : Bool) (R : List Rec) (w : World) (h : Lr B v r w) (HR : Hid (dn k d r cut = R)) (hl : r.length < 3518437208883) :
    Calls Try.prog 68 #[v, .agg #[.string k, .string d, .bool cut]] w fun e w' => ∃ v', e = .returned v' ∧ Gr w.heap.size w v' R w' := by
  obtain ⟨a, c, rfl⟩ := lr_form h
  obtain ⟨i0, hi0, hz0, hz1, hz2⟩ := info_parts info_R
  have HIN : Hid (_ ∧ _ ∧ _ ∧ _) := ⟨hi0, hz0, hz1, hz2⟩
  clear hi0 hz0 hz1 hz2
  have H0 : Hid (Lr B (.slice a r.length c) r w) := h
  have D0 : Hid (Dn k d cut w (.slice none 0 0) [] (w.alloc (.cells #[.string k, .string d, .bool cut] 104))) := ⟨⟨World.ownsRow_nil _ _ _ _, (Below.refl _ w).alloc (Nat.le_refl _) _⟩, heap_alloc_new w _⟩
  have HIC : Hid (∀ (j : Nat) (p : Rec), r[j]? = some p → ∃ g, a = some ⟨g, 0, none⟩ ∧ ∀ wx, Below w.heap.size w wx → wx.cell? ⟨g, j * 2, none⟩ = some (.string p.1) ∧ wx.cell? ⟨g, j * 2 + 1, none⟩ = some (.string p.2)) := fun j p hp => by
    obtain ⟨g, e, hg, c0, c1⟩ := lr_at H0.out j p hp
    exact ⟨g, e, fun wx b => ⟨(b.cell hg).trans c0, (b.cell hg).trans c1⟩⟩
  clear h
  obtain ⟨pb, hpb⟩ : ∃ x, w.heap.size = x := ⟨_, rfl⟩
  go_enter Try.func68, Try.ntmps68
  go_wp2_with fail
  go_loopw [5, 6, 7] (fun ov qv iv wr => ∃ (j : Nat) (out : List Rec) (put : Bool), iv = .int .i64 j ∧ j ≤ r.length ∧ qv = .bool put ∧ Hid (out ++ dn k d (r.drop j) put = R) ∧ Hid (out.length + (if put then 0 else 1) ≤ j + 1) ∧ Hid (Dn k d cut w ov out wr)) (fun _ _ iv _ => (r.length - intOf iv).toNat)
  case atStart => exact ⟨0, [], cut, rfl, Nat.zero_le _, rfl, by rw [List.drop_zero]; exact HR.out, by show _ ≤ _; cases cut <;> simp, D0.out⟩
  case round =>
    clear D0
    obtain ⟨j, out, put, rfl, hj, rfl, HD, HL, HN⟩ := hrel
    obtain ⟨oa, oc, rfl⟩ := lr_form HN.out.gr.own
    obtain ⟨n, Hn⟩ : ∃ n, Hid (out.length = n) := ⟨_, rfl⟩
    have hnb : n ≤ j + 1 := by have h1 := Hn.out; have h2 := HL.out; omega
    rw [Hn.out] at HN ⊢
    by_cases hlt : j < r.length
    · have hlt' : (j : Int) < r.length := by omega
      obtain ⟨p, hp⟩ : ∃ p, r[j]? = some p := ⟨_, List.getElem?_eq_getElem hlt⟩
      obtain ⟨g, rfl, hic⟩ := HIC.out j p hp
      have HC : Hid _ := hic
      have hd := dn_at k d hp put
      rw [hd] at HD
      obtain ⟨pk, pd⟩ := p
      simp only at HC HD
      have HDD : Hid _ := HD.out
      clear hic hd hp HD
      obtain ⟨c0, c1⟩ := HC.out wr HN.out.gr.bl
      obtain ⟨x0, x1, x2⟩ := HN.out.cells
      rw [hpb] at x0 x1 x2
--ROUND
      have hways : ((put = false ∧ lt pk k = false) ∧ pk ≠ k) ∨ ((put = false ∧ lt pk k = false) ∧ pk = k) ∨ ((put = false ∧ lt pk k = true) ∧ pk ≠ k) ∨ (put = true ∧ pk ≠ k) ∨ (put = true ∧ pk = k) := by
        cases put with
        | true => by_cases e : pk = k <;> simp [e]
        | false =>
          cases h : lt pk k with
          | true => simp [lt_ne h]
          | false => by_cases e : pk = k <;> simp [e]
      rcases hways with ⟨hA, hE⟩ | ⟨hA, hE⟩ | ⟨hA, hE⟩ | ⟨hA, hE⟩ | ⟨hA, hE⟩
      · -- A E
        have hlt2 : Op.bytesLess pk.toList k.toList = false := by rw [less_is]; exact hA.2
        obtain rfl : put = false := hA.1
        have hne : (pk.toList == k.toList) = false := text_ne hE
        have HEND : Hid ((out ++ [(k, d)] ++ [(pk, pd)]) ++ dn k d (r.drop (j + 1)) true = R) := by
          have h := HDD.out
          rw [hA.2] at h
          show _ = _
          simpa [hE] using h
        clear HDD hE hA
        have HL2 : n + 1 ≤ j + 1 := by have h1 := Hn.out; have h2 := HL.out; simp at h2; omega
        go_upto_region 6 with fail
        go_quiet (fail)
        obtain ⟨wd, Hwd⟩ : ∃ x, x = wr.drewN nq := ⟨_, rfl⟩
        have N1 : Hid (Dn k d cut w (.slice oa n oc) out wd) := by rw [Hwd]; exact HN.out.later (za.below_dN (Below.refl _ _) nq)
        try rw [← Hwd]
        clear Hwd
        obtain ⟨c0wd, c1wd⟩ := HC.out wd N1.out.gr.bl
        obtain ⟨x0wd, x1wd, x2wd⟩ := N1.out.cells
        rw [hpb] at x0wd x1wd x2wd
        have hswd : pb ≤ wd.heap.size := by rw [← hpb]; exact N1.out.gr.bl.size
        have MN2 : Hid (Dn k d cut w (.slice oa n oc) out (wd.alloc (.cells #[.string k, .string d] 71))) := N1.out.later ((Below.refl _ wd).alloc (Nat.le_refl _) _)
        have RN2 : Hid (World.ownsRow (wd.alloc (.cells #[.string k, .string d] 71)) w.heap.size 71 2 (.slice oa n oc) (n) (rcs out)) := by have this : World.ownsRow (wd.alloc (.cells #[.string k, .string d] 71)) w.heap.size 71 2 (.slice oa n oc) (out).length (rcs out) := MN2.out.gr.own; simp only [List.length_append, List.length_cons, List.length_nil, Nat.zero_add, Hn.out] at this; exact this
        go_upto_region 9 with (first | (at_builtin; (refine wpList_append_own _ rfl _ _ 39 rfl w.heap.size 71 i0 (.agg #[.string ByteArray.empty, .string ByteArray.empty]) 2 32 Try.underlying39 HIN.out.1 HIN.out.2.1 HIN.out.2.2.1 HIN.out.2.2.2 rfl (by decide) _ (n) _ rfl RN2.out ⟨wd.heap.size, 0, none⟩ 1 1 [.string k, .string d] rfl rfl (zc.new_two _ _ _ _) (one_rc _ _) (by unfold maxLen; omega) (by omega) (by simp; omega) ?_; intro v5 w5 ho hg hnn; have HON2 : Hid (World.ownsRow _ _ _ _ _ _ _) := ho; have HGN2 : Hid (World.grownBy _ _ _) := hg; clear ho hg hnn)) | go_in)
        have N2 : Hid (Dn k d cut w v5 (out ++ [(k, d)]) w5) := MN2.out.grown (by have := HON2.out; simp only [List.length_append, List.length_cons, List.length_nil, Nat.zero_add, Hn.out]; exact this) HGN2.out
        clear MN2 RN2 HON2 HGN2
        obtain ⟨c0w5, c1w5⟩ := HC.out w5 N2.out.gr.bl
        obtain ⟨x0w5, x1w5, x2w5⟩ := N2.out.cells
        rw [hpb] at x0w5 x1w5 x2w5
        go_upto_region 9 with fail
        go_quiet (fail)
        obtain ⟨we, Hwe⟩ : ∃ x, x = w5.drewN nq := ⟨_, rfl⟩
        have N3 : Hid (Dn k d cut w v5 (out ++ [(k, d)]) we) := by rw [Hwe]; exact N2.out.later (za.below_dN (Below.refl _ _) nq)
        try rw [← Hwe]
        clear Hwe
        obtain ⟨c0we, c1we⟩ := HC.out we N3.out.gr.bl
        obtain ⟨x0we, x1we, x2we⟩ := N3.out.cells
        rw [hpb] at x0we x1we x2we
        have hswe : pb ≤ we.heap.size := by rw [← hpb]; exact N3.out.gr.bl.size
        have MN4 : Hid (Dn k d cut w v5 (out ++ [(k, d)]) (we.alloc (.cells #[.string pk, .string pd] 71))) := N3.out.later ((Below.refl _ we).alloc (Nat.le_refl _) _)
        have RN4 : Hid (World.ownsRow (we.alloc (.cells #[.string pk, .string pd] 71)) w.heap.size 71 2 v5 (n + 1) (rcs (out ++ [(k, d)]))) := by have this : World.ownsRow (we.alloc (.cells #[.string pk, .string pd] 71)) w.heap.size 71 2 v5 ((out ++ [(k, d)])).length (rcs (out ++ [(k, d)])) := MN4.out.gr.own; simp only [List.length_append, List.length_cons, List.length_nil, Nat.zero_add, Hn.out] at this; exact this
        go_wp2_with (first | (at_builtin; (refine wpList_append_own _ rfl _ _ 39 rfl w.heap.size 71 i0 (.agg #[.string ByteArray.empty, .string ByteArray.empty]) 2 32 Try.underlying39 HIN.out.1 HIN.out.2.1 HIN.out.2.2.1 HIN.out.2.2.2 rfl (by decide) _ (n + 1) _ rfl RN4.out ⟨we.heap.size, 0, none⟩ 1 1 [.string pk, .string pd] rfl rfl (zc.new_two _ _ _ _) (one_rc _ _) (by unfold maxLen; omega) (by omega) (by simp; omega) ?_; intro v6 w6 ho hg hnn; have HON4 : Hid (World.ownsRow _ _ _ _ _ _ _) := ho; have HGN4 : Hid (World.grownBy _ _ _) := hg; clear ho hg hnn)) | go_in)
        have N4 : Hid (Dn k d cut w v6 ((out ++ [(k, d)]) ++ [(pk, pd)]) w6) := MN4.out.grown (by have := HON4.out; simp only [List.length_append, List.length_cons, List.length_nil, Nat.zero_add, Hn.out]; exact this) HGN4.out
        clear MN4 RN4 HON4 HGN4
        go_roundw
        case rel => exact ⟨j + 1, ((out ++ [(k, d)]) ++ [(pk, pd)]), true, by go_num, by omega, rfl, HEND.out, by have h1 := Hn.out; have h2 := HL2; show _ ≤ _; simp; omega, N4.out⟩
        case measure => simp [intOf]; omega
      · -- A D
        have hlt2 : Op.bytesLess pk.toList k.toList = false := by rw [less_is]; exact hA.2
        obtain rfl : put = false := hA.1
        subst hE
        have hne : (pk.toList == pk.toList) = true := by simp
        have HEND : Hid ((out ++ [(pk, d)]) ++ dn pk d (r.drop (j + 1)) true = R) := by
          have h := HDD.out
          rw [hA.2] at h
          show _ = _
          simpa using h
        clear HDD hA
        have HL2 : n + 1 ≤ j + 1 := by have h1 := Hn.out; have h2 := HL.out; simp at h2; omega
        go_upto_region 6 with fail
        go_quiet (fail)
        obtain ⟨wd, Hwd⟩ : ∃ x, x = wr.drewN nq := ⟨_, rfl⟩
        have N1 : Hid (Dn pk d cut w (.slice oa n oc) out wd) := by rw [Hwd]; exact HN.out.later (za.below_dN (Below.refl _ _) nq)
        try rw [← Hwd]
        clear Hwd
        obtain ⟨c0wd, c1wd⟩ := HC.out wd N1.out.gr.bl
        obtain ⟨x0wd, x1wd, x2wd⟩ := N1.out.cells
        rw [hpb] at x0wd x1wd x2wd
        have hswd : pb ≤ wd.heap.size := by rw [← hpb]; exact N1.out.gr.bl.size
        have MN2 : Hid (Dn pk d cut w (.slice oa n oc) out (wd.alloc (.cells #[.string pk, .string d] 71))) := N1.out.later ((Below.refl _ wd).alloc (Nat.le_refl _) _)
        have RN2 : Hid (World.ownsRow (wd.alloc (.cells #[.string pk, .string d] 71)) w.heap.size 71 2 (.slice oa n oc) (n) (rcs out)) := by have this : World.ownsRow (wd.alloc (.cells #[.string pk, .string d] 71)) w.heap.size 71 2 (.slice oa n oc) (out).length (rcs out) := MN2.out.gr.own; simp only [List.length_append, List.length_cons, List.length_nil, Nat.zero_add, Hn.out] at this; exact this
        go_upto_region 9 with (first | (at_builtin; (refine wpList_append_own _ rfl _ _ 39 rfl w.heap.size 71 i0 (.agg #[.string ByteArray.empty, .string ByteArray.empty]) 2 32 Try.underlying39 HIN.out.1 HIN.out.2.1 HIN.out.2.2.1 HIN.out.2.2.2 rfl (by decide) _ (n) _ rfl RN2.out ⟨wd.heap.size, 0, none⟩ 1 1 [.string pk, .string d] rfl rfl (zc.new_two _ _ _ _) (one_rc _ _) (by unfold maxLen; omega) (by omega) (by simp; omega) ?_; intro v5 w5 ho hg hnn; have HON2 : Hid (World.ownsRow _ _ _ _ _ _ _) := ho; have HGN2 : Hid (World.grownBy _ _ _) := hg; clear ho hg hnn)) | go_in)
        have N2 : Hid (Dn pk d cut w v5 (out ++ [(pk, d)]) w5) := MN2.out.grown (by have := HON2.out; simp only [List.length_append, List.length_cons, List.length_nil, Nat.zero_add, Hn.out]; exact this) HGN2.out
        clear MN2 RN2 HON2 HGN2
        obtain ⟨c0w5, c1w5⟩ := HC.out w5 N2.out.gr.bl
        obtain ⟨x0w5, x1w5, x2w5⟩ := N2.out.cells
        rw [hpb] at x0w5 x1w5 x2w5
        go_upto_region 9 with fail
        go_quiet (fail)
        obtain ⟨we, Hwe⟩ : ∃ x, x = w5.drewN nq := ⟨_, rfl⟩
        have N3 : Hid (Dn pk d cut w v5 (out ++ [(pk, d)]) we) := by rw [Hwe]; exact N2.out.later (za.below_dN (Below.refl _ _) nq)
        try rw [← Hwe]
        clear Hwe
        obtain ⟨c0we, c1we⟩ := HC.out we N3.out.gr.bl
        obtain ⟨x0we, x1we, x2we⟩ := N3.out.cells
        rw [hpb] at x0we x1we x2we
        have hswe : pb ≤ we.heap.size := by rw [← hpb]; exact N3.out.gr.bl.size
        go_wp2
        go_roundw
        case rel => exact ⟨j + 1, (out ++ [(pk, d)]), true, by go_num, by omega, rfl, HEND.out, by have h1 := Hn.out; have h2 := HL2; show _ ≤ _; simp; omega, N3.out⟩
        case measure => simp [intOf]; omega
      · -- B E
        have hlt2 : Op.bytesLess pk.toList k.toList = true := by rw [less_is]; exact hA.2
        obtain rfl : put = false := hA.1
        have hne : (pk.toList == k.toList) = false := text_ne hE
        have HEND : Hid ((out ++ [(pk, pd)]) ++ dn k d (r.drop (j + 1)) false = R) := by
          have h := HDD.out
          rw [hA.2] at h
          show _ = _
          simpa [hE] using h
        clear HDD hE hA
        have HL2 : n + 1 ≤ j + 1 := by have h1 := Hn.out; have h2 := HL.out; simp at h2; omega
        go_upto_region 6 with fail
        go_quiet (fail)
        obtain ⟨wd, Hwd⟩ : ∃ x, x = wr.drewN nq := ⟨_, rfl⟩
        have N1 : Hid (Dn k d cut w (.slice oa n oc) out wd) := by rw [Hwd]; exact HN.out.later (za.below_dN (Below.refl _ _) nq)
        try rw [← Hwd]
        clear Hwd
        obtain ⟨c0wd, c1wd⟩ := HC.out wd N1.out.gr.bl
        obtain ⟨x0wd, x1wd, x2wd⟩ := N1.out.cells
        rw [hpb] at x0wd x1wd x2wd
        have hswd : pb ≤ wd.heap.size := by rw [← hpb]; exact N1.out.gr.bl.size
        go_upto_region 9 with fail
        go_quiet (fail)
        obtain ⟨we, Hwe⟩ : ∃ x, x = wd.drewN nq := ⟨_, rfl⟩
        have N3 : Hid (Dn k d cut w (.slice oa n oc) out we) := by rw [Hwe]; exact N1.out.later (za.below_dN (Below.refl _ _) nq)
        try rw [← Hwe]
        clear Hwe
        obtain ⟨c0we, c1we⟩ := HC.out we N3.out.gr.bl
        obtain ⟨x0we, x1we, x2we⟩ := N3.out.cells
        rw [hpb] at x0we x1we x2we
        have hswe : pb ≤ we.heap.size := by rw [← hpb]; exact N3.out.gr.bl.size
        have MN4 : Hid (Dn k d cut w (.slice oa n oc) out (we.alloc (.cells #[.string pk, .string pd] 71))) := N3.out.later ((Below.refl _ we).alloc (Nat.le_refl _) _)
        have RN4 : Hid (World.ownsRow (we.alloc (.cells #[.string pk, .string pd] 71)) w.heap.size 71 2 (.slice oa n oc) (n) (rcs out)) := by have this : World.ownsRow (we.alloc (.cells #[.string pk, .string pd] 71)) w.heap.size 71 2 (.slice oa n oc) (out).length (rcs out) := MN4.out.gr.own; simp only [List.length_append, List.length_cons, List.length_nil, Nat.zero_add, Hn.out] at this; exact this
        go_wp2_with (first | (at_builtin; (refine wpList_append_own _ rfl _ _ 39 rfl w.heap.size 71 i0 (.agg #[.string ByteArray.empty, .string ByteArray.empty]) 2 32 Try.underlying39 HIN.out.1 HIN.out.2.1 HIN.out.2.2.1 HIN.out.2.2.2 rfl (by decide) _ (n) _ rfl RN4.out ⟨we.heap.size, 0, none⟩ 1 1 [.string pk, .string pd] rfl rfl (zc.new_two _ _ _ _) (one_rc _ _) (by unfold maxLen; omega) (by omega) (by simp; omega) ?_; intro v6 w6 ho hg hnn; have HON4 : Hid (World.ownsRow _ _ _ _ _ _ _) := ho; have HGN4 : Hid (World.grownBy _ _ _) := hg; clear ho hg hnn)) | go_in)
        have N4 : Hid (Dn k d cut w v6 (out ++ [(pk, pd)]) w6) := MN4.out.grown (by have := HON4.out; simp only [List.length_append, List.length_cons, List.length_nil, Nat.zero_add, Hn.out]; exact this) HGN4.out
        clear MN4 RN4 HON4 HGN4
        go_roundw
        case rel => exact ⟨j + 1, (out ++ [(pk, pd)]), false, by go_num, by omega, rfl, HEND.out, by have h1 := Hn.out; have h2 := HL2; show _ ≤ _; simp; omega, N4.out⟩
        case measure => simp [intOf]; omega
      · -- C E
        skip
        obtain rfl : put = true := hA
        have hne : (pk.toList == k.toList) = false := text_ne hE
        have HEND : Hid ((out ++ [(pk, pd)]) ++ dn k d (r.drop (j + 1)) true = R) := by
          have h := HDD.out
          show _ = _
          simpa [hE] using h
        clear HDD hE
        have HL2 : n + 0 ≤ j + 1 := by have h1 := Hn.out; have h2 := HL.out; simp at h2; omega
        go_upto_region 6 with fail
        go_quiet (fail)
        obtain ⟨wd, Hwd⟩ : ∃ x, x = wr.drewN nq := ⟨_, rfl⟩
        have N1 : Hid (Dn k d cut w (.slice oa n oc) out wd) := by rw [Hwd]; exact HN.out.later (za.below_dN (Below.refl _ _) nq)
        try rw [← Hwd]
        clear Hwd
        obtain ⟨c0wd, c1wd⟩ := HC.out wd N1.out.gr.bl
        obtain ⟨x0wd, x1wd, x2wd⟩ := N1.out.cells
        rw [hpb] at x0wd x1wd x2wd
        have hswd : pb ≤ wd.heap.size := by rw [← hpb]; exact N1.out.gr.bl.size
        go_upto_region 9 with fail
        go_quiet (fail)
        obtain ⟨we, Hwe⟩ : ∃ x, x = wd.drewN nq := ⟨_, rfl⟩
        have N3 : Hid (Dn k d cut w (.slice oa n oc) out we) := by rw [Hwe]; exact N1.out.later (za.below_dN (Below.refl _ _) nq)
        try rw [← Hwe]
        clear Hwe
        obtain ⟨c0we, c1we⟩ := HC.out we N3.out.gr.bl
        obtain ⟨x0we, x1we, x2we⟩ := N3.out.cells
        rw [hpb] at x0we x1we x2we
        have hswe : pb ≤ we.heap.size := by rw [← hpb]; exact N3.out.gr.bl.size
        have MN4 : Hid (Dn k d cut w (.slice oa n oc) out (we.alloc (.cells #[.string pk, .string pd] 71))) := N3.out.later ((Below.refl _ we).alloc (Nat.le_refl _) _)
        have RN4 : Hid (World.ownsRow (we.alloc (.cells #[.string pk, .string pd] 71)) w.heap.size 71 2 (.slice oa n oc) (n) (rcs out)) := by have this : World.ownsRow (we.alloc (.cells #[.string pk, .string pd] 71)) w.heap.size 71 2 (.slice oa n oc) (out).length (rcs out) := MN4.out.gr.own; simp only [List.length_append, List.length_cons, List.length_nil, Nat.zero_add, Hn.out] at this; exact this
        go_wp2_with (first | (at_builtin; (refine wpList_append_own _ rfl _ _ 39 rfl w.heap.size 71 i0 (.agg #[.string ByteArray.empty, .string ByteArray.empty]) 2 32 Try.underlying39 HIN.out.1 HIN.out.2.1 HIN.out.2.2.1 HIN.out.2.2.2 rfl (by decide) _ (n) _ rfl RN4.out ⟨we.heap.size, 0, none⟩ 1 1 [.string pk, .string pd] rfl rfl (zc.new_two _ _ _ _) (one_rc _ _) (by unfold maxLen; omega) (by omega) (by simp; omega) ?_; intro v6 w6 ho hg hnn; have HON4 : Hid (World.ownsRow _ _ _ _ _ _ _) := ho; have HGN4 : Hid (World.grownBy _ _ _) := hg; clear ho hg hnn)) | go_in)
        have N4 : Hid (Dn k d cut w v6 (out ++ [(pk, pd)]) w6) := MN4.out.grown (by have := HON4.out; simp only [List.length_append, List.length_cons, List.length_nil, Nat.zero_add, Hn.out]; exact this) HGN4.out
        clear MN4 RN4 HON4 HGN4
        go_roundw
        case rel => exact ⟨j + 1, (out ++ [(pk, pd)]), true, by go_num, by omega, rfl, HEND.out, by have h1 := Hn.out; have h2 := HL2; show _ ≤ _; simp; omega, N4.out⟩
        case measure => simp [intOf]; omega
      · -- C D
        skip
        obtain rfl : put = true := hA
        subst hE
        have hne : (pk.toList == pk.toList) = true := by simp
        have HEND : Hid ((out) ++ dn pk d (r.drop (j + 1)) true = R) := by
          have h := HDD.out
          show _ = _
          simpa using h
        clear HDD
        have HL2 : n + 0 ≤ j + 1 := by have h1 := Hn.out; have h2 := HL.out; simp at h2; omega
        go_upto_region 6 with fail
        go_quiet (fail)
        obtain ⟨wd, Hwd⟩ : ∃ x, x = wr.drewN nq := ⟨_, rfl⟩
        have N1 : Hid (Dn pk d cut w (.slice oa n oc) out wd) := by rw [Hwd]; exact HN.out.later (za.below_dN (Below.refl _ _) nq)
        try rw [← Hwd]
        clear Hwd
        obtain ⟨c0wd, c1wd⟩ := HC.out wd N1.out.gr.bl
        obtain ⟨x0wd, x1wd, x2wd⟩ := N1.out.cells
        rw [hpb] at x0wd x1wd x2wd
        have hswd : pb ≤ wd.heap.size := by rw [← hpb]; exact N1.out.gr.bl.size
        go_upto_region 9 with fail
        go_quiet (fail)
        obtain ⟨we, Hwe⟩ : ∃ x, x = wd.drewN nq := ⟨_, rfl⟩
        have N3 : Hid (Dn pk d cut w (.slice oa n oc) out we) := by rw [Hwe]; exact N1.out.later (za.below_dN (Below.refl _ _) nq)
        try rw [← Hwe]
        clear Hwe
        obtain ⟨c0we, c1we⟩ := HC.out we N3.out.gr.bl
        obtain ⟨x0we, x1we, x2we⟩ := N3.out.cells
        rw [hpb] at x0we x1we x2we
        have hswe : pb ≤ we.heap.size := by rw [← hpb]; exact N3.out.gr.bl.size
        go_wp2
        go_roundw
        case rel => exact ⟨j + 1, out, true, by go_num, by omega, rfl, HEND.out, by have h1 := Hn.out; have h2 := HL2; show _ ≤ _; simp; omega, N3.out⟩
        case measure => simp [intOf]; omega
--END
--TAIL
    · have hlt' : ¬ (j : Int) < r.length := by omega
      have hdr : r.drop j = [] := List.drop_eq_nil_of_le (by omega)
      have HD2 := HD.out
      rw [hdr] at HD2
      have HDD : Hid (out ++ (if put then [] else [(k, d)]) = R) := HD2
      clear HD HD2 hdr
      obtain ⟨x0, x1, x2⟩ := HN.out.cells
      rw [hpb] at x0 x1 x2
      have hswr : pb ≤ wr.heap.size := by rw [← hpb]; exact HN.out.gr.bl.size
      cases put with
      | true =>
        have HE2 : Hid (out = R) := by have := HDD.out; show _ = _; simpa using this
        go_wp2
        go_ret
        exact ⟨_, rfl, by have h := HN.out.gr; rw [HE2.out, hpb] at h; exact h⟩
      | false =>
        have HE2 : Hid (out ++ [(k, d)] = R) := by have := HDD.out; show _ = _; simpa using this
        have MN2 : Hid (Dn k d cut w (.slice oa n oc) out (wr.alloc (.cells #[.string k, .string d] 71))) := HN.out.later ((Below.refl _ wr).alloc (Nat.le_refl _) _)
        have RN2 : Hid (World.ownsRow (wr.alloc (.cells #[.string k, .string d] 71)) w.heap.size 71 2 (.slice oa n oc) (n) (rcs out)) := by have this : World.ownsRow (wr.alloc (.cells #[.string k, .string d] 71)) w.heap.size 71 2 (.slice oa n oc) (out).length (rcs out) := MN2.out.gr.own; simp only [List.length_append, List.length_cons, List.length_nil, Nat.zero_add, Hn.out] at this; exact this
        go_wp2_with (first | (at_builtin; (refine wpList_append_own _ rfl _ _ 39 rfl w.heap.size 71 i0 (.agg #[.string ByteArray.empty, .string ByteArray.empty]) 2 32 Try.underlying39 HIN.out.1 HIN.out.2.1 HIN.out.2.2.1 HIN.out.2.2.2 rfl (by decide) _ (n) _ rfl RN2.out ⟨wr.heap.size, 0, none⟩ 1 1 [.string k, .string d] rfl rfl (zc.new_two _ _ _ _) (one_rc _ _) (by unfold maxLen; omega) (by omega) (by simp; omega) ?_; intro v5 w5 ho hg hnn; have HON2 : Hid (World.ownsRow _ _ _ _ _ _ _) := ho; have HGN2 : Hid (World.grownBy _ _ _) := hg; clear ho hg hnn)) | go_in)
        have N2 : Hid (Dn k d cut w v5 (out ++ [(k, d)]) w5) := MN2.out.grown (by have := HON2.out; simp only [List.length_append, List.length_cons, List.length_nil, Nat.zero_add, Hn.out]; exact this) HGN2.out
        clear MN2 RN2 HON2 HGN2
        go_ret
        exact ⟨_, rfl, by have h := N2.out.gr; rw [HE2.out, hpb] at h; exact h⟩
--TAILEND
theorem doneC {B : Nat} (v : Value) (r : List Rec) (x : W) (w : World) (h : Lr B v r w) (hs : Srt r) (hl : r.length < 3518437208883) :
    Calls Try.prog 68 #[v, .agg #[.string x.key, .string x.data, .bool x.cut]] w fun e w' => ∃ v', e = .returned v' ∧ Gr w.heap.size w v' (doW r x) w' :=
  doneC0 v r x.key x.data x.cut (doW r x) w h (dn_doW x r hs) hl
end Go.Proofs.Ytdhhbkkinlmgnaa.xb
