import Derived.Test.YtpcllegjnbeppaaGreatG5
namespace Go.Proofs.YtpcllegjnbeppaaGreat.xb
open Go.RowKit Go.PlainAid Go.Maps Go.Shelf
open Go.Proofs.YtpcllegjnbeppaaGreat.ca Go.Proofs.YtpcllegjnbeppaaGreat.cb Go.Proofs.YtpcllegjnbeppaaGreat.cp Go.Proofs.YtpcllegjnbeppaaGreat.kp Go.Proofs.YtpcllegjnbeppaaGreat.ka Go.Proofs.YtpcllegjnbeppaaGreat.ya Go.Proofs.YtpcllegjnbeppaaGreat.yb Go.Proofs.YtpcllegjnbeppaaGreat.yc Go.Proofs.YtpcllegjnbeppaaGreat.ye Go.Proofs.YtpcllegjnbeppaaGreat.yf Go.Proofs.YtpcllegjnbeppaaGreat.yo Go.Proofs.YtpcllegjnbeppaaGreat.zf Go.Proofs.YtpcllegjnbeppaaGreat.xa
set_option linter.unusedVariables false
set_option linter.unusedSimpArgs false
theorem info_R : (Tryz.prog.info? 97).map (fun i => (i.zero, i.size, i.bytes)) = some (some (.agg #[.string ByteArray.empty, .string ByteArray.empty]), 2, 32) := by kernel_rfl
theorem info_W : (Tryz.prog.info? 127).map (fun i => (i.zero, i.size, i.bytes)) = some (some (.agg #[.string ByteArray.empty, .string ByteArray.empty, .bool false]), 3, 40) := by kernel_rfl
-- one write done to a list
def dn (k d : ByteArray) : List Rec → Bool → List Rec
  | [], put => if put then [] else [(k, d)]
  | y :: l, put => (if !put && !(lt y.1 k) then [(k, d)] else []) ++ ((if y.1 = k then [] else [y]) ++ dn k d l (put || !(lt y.1 k)))
theorem dn_true (k d : ByteArray) (l : List Rec) : dn k d l true = del k l := by
  induction l with
  | nil => rfl
  | cons y l ih =>
    unfold dn
    simp only [Bool.not_true, Bool.false_and, Bool.false_eq_true, if_false, List.nil_append, Bool.true_or, ih]
    unfold del
    by_cases e : y.1 = k <;> simp [e]
theorem ins_first (x : Rec) (l : List Rec) (h : ∀ y ∈ l, lt x.1 y.1 = true) : ins x l = x :: l := by
  cases l with
  | nil => rfl
  | cons y l => unfold ins; rw [if_pos (h y (by simp))]
theorem dn_false (k d : ByteArray) (l : List Rec) (hs : Srt l) : dn k d l false = put k d l := by
  induction l with
  | nil => rfl
  | cons y l ih =>
    have hs2 := List.pairwise_cons.1 hs
    unfold dn
    cases h : lt y.1 k with
    | true =>
      have hne : y.1 ≠ k := lt_ne h
      have hd : del k (y :: l) = y :: del k l := by unfold del; simp [hne]
      simp only [Bool.not_true, Bool.and_false, Bool.false_eq_true, if_false, List.nil_append, Bool.or_false, hne]
      rw [ih hs2.2]
      unfold put
      rw [hd]
      show _ = ins (k, d) (y :: del k l)
      rw [ins, if_neg (by simp [lt_asym h])]
      rfl
    | false =>
      simp only [Bool.not_false, Bool.and_true, if_true, Bool.or_true, dn_true]
      unfold put
      by_cases e : y.1 = k
      · have hd : del k (y :: l) = del k l := by unfold del; simp [e]
        rw [if_pos e, hd, ins_first (k, d) (del k l) (fun z hz => by rw [← e]; exact hs2.1 z (mem_del.1 hz).1)]
        rfl
      · have hd : del k (y :: l) = y :: del k l := by unfold del; simp [e]
        have hk : lt k y.1 = true := by
          rcases lt_tot y.1 k e with h2 | h2
          · rw [h2] at h; cases h
          · exact h2
        rw [if_neg e, hd]
        show _ = ins (k, d) (y :: del k l)
        rw [ins, if_pos hk]
        rfl
theorem dn_doW (x : W) (l : List Rec) (hs : Srt l) : dn x.key x.data l x.cut = doW l x := by
  unfold doW
  cases x.cut with
  | true => exact dn_true _ _ _
  | false => exact dn_false _ _ _ hs
theorem dn_at (k d : ByteArray) {r : List Rec} {j : Nat} {p : Rec} (hp : r[j]? = some p) (put : Bool) : dn k d (r.drop j) put = (if !put && !(lt p.1 k) then [(k, d)] else []) ++ ((if p.1 = k then [] else [p]) ++ dn k d (r.drop (j + 1)) (put || !(lt p.1 k))) := by
  obtain ⟨hj, e⟩ := List.getElem?_eq_some_iff.1 hp
  rw [List.drop_eq_getElem_cons hj, e]
  rfl
theorem less_is (a b : ByteArray) : Op.bytesLess a.toList b.toList = lt a b := by
  rw [za.bytes_is, ByteArray.toList_eq, ByteArray.toList_eq]; rfl
-- a row of records of the call's own grows by one
structure Gr (B : Nat) (w : World) (v : Value) (l : List Rec) (w' : World) : Prop where
  own : Lr B v l w'
  bl : Below B w w'
theorem one_rc (k d : ByteArray) : ∀ u ∈ [Value.string k, .string d], u.oneCell' = true := by
  intro u hu; simp only [List.mem_cons, List.not_mem_nil, or_false] at hu; rcases hu with rfl | rfl <;> rfl
theorem Gr.later {B : Nat} {w w1 w2 : World} {v : Value} {l : List Rec} (h : Gr B w v l w1) (b : Below w1.heap.size w1 w2) (hB : B ≤ w.heap.size) : Gr B w v l w2 := ⟨Lr.later h.own b, h.bl.trans (b.mono (Nat.le_trans hB h.bl.size))⟩
theorem Gr.grown {B : Nat} {w w1 w2 : World} {v v' : Value} {l : List Rec} {k d : ByteArray} (h : Gr B w v l w1) (hB : B ≤ w.heap.size) (o : w2.ownsRow B 97 2 v' (l.length + 1) (rcs l ++ [.string k, .string d])) (hg : w1.grownBy w2 v.ownBlock) : Gr B w v' (l ++ [(k, d)]) w2 := by
  refine ⟨?_, h.bl.grown hg (Nat.le_trans hB h.bl.size) (fun j hj => (h.own.lt _ hj).1)⟩
  have e : (l ++ [(k, d)]).length = l.length + 1 := by simp
  show w2.ownsRow B 97 2 v' (l ++ [(k, d)]).length (rcs (l ++ [(k, d)]))
  rw [e, rcs_app]
  exact o
theorem tw1 : (97 : Nat) ≠ 127 := by decide
structure Dn (k d : ByteArray) (cut : Bool) (w : World) (ov : Value) (out : List Rec) (wr : World) : Prop where
  gr : Gr w.heap.size w ov out wr
  box : wr.heap[w.heap.size]? = some (.cells #[.string k, .string d, .bool cut] 127 (0, 0))
theorem Dn.later {k d : ByteArray} {cut : Bool} {w w1 w2 : World} {ov : Value} {out : List Rec} (h : Dn k d cut w ov out w1) (b : Below w1.heap.size w1 w2) : Dn k d cut w ov out w2 :=
  ⟨h.gr.later b (Nat.le_refl _), (b.block _ (Array.getElem?_eq_some_iff.1 h.box).1).trans h.box⟩
theorem Dn.grown {k d : ByteArray} {cut : Bool} {w w1 w2 : World} {v v' : Value} {l : List Rec} {x y : ByteArray} (h : Dn k d cut w v l w1) (o : w2.ownsRow w.heap.size 97 2 v' (l.length + 1) (rcs l ++ [.string x, .string y])) (hg : w1.grownBy w2 v.ownBlock) : Dn k d cut w v' (l ++ [(x, y)]) w2 :=
  ⟨h.gr.grown (Nat.le_refl _) o hg, (hg.block _ (Array.getElem?_eq_some_iff.1 h.box).1 (own_tag h.gr.own h.box tw1)).trans h.box⟩
theorem Dn.cells {k d : ByteArray} {cut : Bool} {w w1 : World} {ov : Value} {out : List Rec} (h : Dn k d cut w ov out w1) : w1.cell? ⟨w.heap.size, 0, none⟩ = some (.string k) ∧ w1.cell? ⟨w.heap.size, 1, none⟩ = some (.string d) ∧ w1.cell? ⟨w.heap.size, 2, none⟩ = some (.bool cut) :=
  ⟨cell_of_row _ _ 0 _ _ _ h.box, cell_of_row _ _ 1 _ _ _ h.box, cell_of_row _ _ 2 _ _ _ h.box⟩
set_option maxRecDepth 40000 in
set_option maxHeartbeats 12800000 in
theorem doneC0 {B : Nat} (v : Value) (r : List Rec) (k d : ByteArray) (cut : Bool) (R : List Rec) (w : World) (h : Lr B v r w) (HR : Hid (dn k d r cut = R)) (hl : r.length < 3518437208883) :
    Calls Tryz.prog 81 #[v, .agg #[.string k, .string d, .bool cut]] w fun e w' => ∃ v', e = .returned v' ∧ Gr w.heap.size w v' R w' := by
  obtain ⟨a, c, rfl⟩ := lr_form h
  obtain ⟨i0, hi0, hz0, hz1, hz2⟩ := info_parts info_R
  have HIN : Hid (_ ∧ _ ∧ _ ∧ _) := ⟨hi0, hz0, hz1, hz2⟩
  clear hi0 hz0 hz1 hz2
  have H0 : Hid (Lr B (.slice a r.length c) r w) := h
  have D0 : Hid (Dn k d cut w (.slice none 0 0) [] (w.alloc (.cells #[.string k, .string d, .bool cut] 127))) := ⟨⟨World.ownsRow_nil _ _ _ _, (Below.refl _ w).alloc (Nat.le_refl _) _⟩, heap_alloc_new w _⟩
  have HIC : Hid (∀ (j : Nat) (p : Rec), r[j]? = some p → ∃ g, a = some ⟨g, 0, none⟩ ∧ ∀ wx, Below w.heap.size w wx → wx.cell? ⟨g, j * 2, none⟩ = some (.string p.1) ∧ wx.cell? ⟨g, j * 2 + 1, none⟩ = some (.string p.2)) := fun j p hp => by
    obtain ⟨g, e, hg, c0, c1⟩ := lr_at H0.out j p hp
    exact ⟨g, e, fun wx b => ⟨(b.cell hg).trans c0, (b.cell hg).trans c1⟩⟩
  clear h
  obtain ⟨pb, hpb⟩ : ∃ x, w.heap.size = x := ⟨_, rfl⟩
  go_enter Tryz.func81, Tryz.ntmps81
  go_wp2_with fail
  go_loopw [5, 6, 7] (fun ov qv iv wr => ∃ (j : Nat) (out : List Rec) (put : Bool), iv = .int .i64 j ∧ j ≤ r.length ∧ qv = .bool put ∧ Hid (out ++ dn k d (r.drop j) put = R) ∧ Hid (out.length + (if put then 0 else 1) ≤ j + 1) ∧ Hid (Dn k d cut w ov out wr)) (fun _ _ iv _ => (r.length - intOf iv).toNat)
  case atStart => exact ⟨0, [], cut, rfl, Nat.zero_le _, rfl, by rw [List.drop_zero]; exact HR.out, by show _ ≤ _; cases cut <;> simp, D0.out⟩
  case round =>
    clear D0
    obtain ⟨j, out, put, rfl, hj, rfl, HD, HL, HN⟩ := hrel
    obtain ⟨oa, oc, rfl⟩ := lr_form HN.out.gr.own
    obtain ⟨n, Hn⟩ : ∃ n, Hid (out.length = n) := ⟨_, rfl⟩
    have hnb : n ≤ j + 1 := by have h1 := Hn.out; have h2 := HL.out; omega
    rw [Hn.out] at HN ⊢
    by_cases hlt : j < r.length
    · have hlt' : (j : Int) < r.length := by omega
      obtain ⟨p, hp⟩ : ∃ p, r[j]? = some p := ⟨_, List.getElem?_eq_getElem hlt⟩
      obtain ⟨g, rfl, hic⟩ := HIC.out j p hp
      have HC : Hid _ := hic
      have hd := dn_at k d hp put
      rw [hd] at HD
      obtain ⟨pk, pd⟩ := p
      simp only at HC HD
      have HDD : Hid _ := HD.out
      clear hic hd hp HD
      obtain ⟨c0, c1⟩ := HC.out wr HN.out.gr.bl
      obtain ⟨x0, x1, x2⟩ := HN.out.cells
      rw [hpb] at x0 x1 x2
--ROUND
      have hways : ((put = false ∧ lt pk k = false) ∧ pk ≠ k) ∨ ((put = false ∧ lt pk k = false) ∧ pk = k) ∨ ((put = false ∧ lt pk k = true) ∧ pk ≠ k) ∨ (put = true ∧ pk ≠ k) ∨ (put = true ∧ pk = k) := by
        cases put with
        | true => by_cases e : pk = k <;> simp [e]
        | false =>
          cases h : lt pk k with
          | true => simp [lt_ne h]
          | false => by_cases e : pk = k <;> simp [e]
      rcases hways with ⟨hA, hE⟩ | ⟨hA, hE⟩ | ⟨hA, hE⟩ | ⟨hA, hE⟩ | ⟨hA, hE⟩
      · -- A E
        have hlt2 : Op.bytesLess pk.toList k.toList = false := by rw [less_is]; exact hA.2
        obtain rfl : put = false := hA.1
        have hne : (pk.toList == k.toList) = false := text_ne hE
        have HEND : Hid ((out ++ [(k, d)] ++ [(pk, pd)]) ++ dn k d (r.drop (j + 1)) true = R) := by
          have h := HDD.out
          rw [hA.2] at h
          show _ = _
          simpa [hE] using h
        clear HDD hE hA
        have HL2 : n + 1 ≤ j + 1 := by have h1 := Hn.out; have h2 := HL.out; simp at h2; omega
        go_upto_region 6 with fail
        go_quiet (fail)
        obtain ⟨wd, Hwd⟩ : ∃ x, x = wr.drewN nq := ⟨_, rfl⟩
        have N1 : Hid (Dn k d cut w (.slice oa n oc) out wd) := by rw [Hwd]; exact HN.out.later (za.below_dN (Below.refl _ _) nq)
        try rw [← Hwd]
        clear Hwd
        obtain ⟨c0wd, c1wd⟩ := HC.out wd N1.out.gr.bl
        obtain ⟨x0wd, x1wd, x2wd⟩ := N1.out.cells
        rw [hpb] at x0wd x1wd x2wd
        have hswd : pb ≤ wd.heap.size := by rw [← hpb]; exact N1.out.gr.bl.size
        have MN2 : Hid (Dn k d cut w (.slice oa n oc) out (wd.alloc (.cells #[.string k, .string d] 97))) := N1.out.later ((Below.refl _ wd).alloc (Nat.le_refl _) _)
        have RN2 : Hid (World.ownsRow (wd.alloc (.cells #[.string k, .string d] 97)) w.heap.size 97 2 (.slice oa n oc) (n) (rcs out)) := by have this : World.ownsRow (wd.alloc (.cells #[.string k, .string d] 97)) w.heap.size 97 2 (.slice oa n oc) (out).length (rcs out) := MN2.out.gr.own; simp only [List.length_append, List.length_cons, List.length_nil, Nat.zero_add, Hn.out] at this; exact this
        go_upto_region 9 with (first | (at_builtin; (refine wpList_append_own _ rfl _ _ 51 rfl w.heap.size 97 i0 (.agg #[.string ByteArray.empty, .string ByteArray.empty]) 2 32 Tryz.underlying51 HIN.out.1 HIN.out.2.1 HIN.out.2.2.1 HIN.out.2.2.2 rfl (by decide) _ (n) _ rfl RN2.out ⟨wd.heap.size, 0, none⟩ 1 1 [.string k, .string d] rfl rfl (zc.new_two _ _ _ _) (one_rc _ _) (by unfold maxLen; omega) (by omega) (by simp; omega) ?_; intro v5 w5 ho hg hnn; have HON2 : Hid (World.ownsRow _ _ _ _ _ _ _) := ho; have HGN2 : Hid (World.grownBy _ _ _) := hg; clear ho hg hnn)) | go_in)
        have N2 : Hid (Dn k d cut w v5 (out ++ [(k, d)]) w5) := MN2.out.grown (by have := HON2.out; simp only [List.length_append, List.length_cons, List.length_nil, Nat.zero_add, Hn.out]; exact this) HGN2.out
        clear MN2 RN2 HON2 HGN2
        obtain ⟨c0w5, c1w5⟩ := HC.out w5 N2.out.gr.bl
        obtain ⟨x0w5, x1w5, x2w5⟩ := N2.out.cells
        rw [hpb] at x0w5 x1w5 x2w5
        go_upto_region 9 with fail
        go_quiet (fail)
        obtain ⟨we, Hwe⟩ : ∃ x, x = w5.drewN nq := ⟨_, rfl⟩
        have N3 : Hid (Dn k d cut w v5 (out ++ [(k, d)]) we) := by rw [Hwe]; exact N2.out.later (za.below_dN (Below.refl _ _) nq)
        try rw [← Hwe]
        clear Hwe
        obtain ⟨c0we, c1we⟩ := HC.out we N3.out.gr.bl
        obtain ⟨x0we, x1we, x2we⟩ := N3.out.cells
        rw [hpb] at x0we x1we x2we
        have hswe : pb ≤ we.heap.size := by rw [← hpb]; exact N3.out.gr.bl.size
        have MN4 : Hid (Dn k d cut w v5 (out ++ [(k, d)]) (we.alloc (.cells #[.string pk, .string pd] 97))) := N3.out.later ((Below.refl _ we).alloc (Nat.le_refl _) _)
        have RN4 : Hid (World.ownsRow (we.alloc (.cells #[.string pk, .string pd] 97)) w.heap.size 97 2 v5 (n + 1) (rcs (out ++ [(k, d)]))) := by have this : World.ownsRow (we.alloc (.cells #[.string pk, .string pd] 97)) w.heap.size 97 2 v5 ((out ++ [(k, d)])).length (rcs (out ++ [(k, d)])) := MN4.out.gr.own; simp only [List.length_append, List.length_cons, List.length_nil, Nat.zero_add, Hn.out] at this; exact this
        go_wp2_with (first | (at_builtin; (refine wpList_append_own _ rfl _ _ 51 rfl w.heap.size 97 i0 (.agg #[.string ByteArray.empty, .string ByteArray.empty]) 2 32 Tryz.underlying51 HIN.out.1 HIN.out.2.1 HIN.out.2.2.1 HIN.out.2.2.2 rfl (by decide) _ (n + 1) _ rfl RN4.out ⟨we.heap.size, 0, none⟩ 1 1 [.string pk, .string pd] rfl rfl (zc.new_two _ _ _ _) (one_rc _ _) (by unfold maxLen; omega) (by omega) (by simp; omega) ?_; intro v6 w6 ho hg hnn; have HON4 : Hid (World.ownsRow _ _ _ _ _ _ _) := ho; have HGN4 : Hid (World.grownBy _ _ _) := hg; clear ho hg hnn)) | go_in)
        have N4 : Hid (Dn k d cut w v6 ((out ++ [(k, d)]) ++ [(pk, pd)]) w6) := MN4.out.grown (by have := HON4.out; simp only [List.length_append, List.length_cons, List.length_nil, Nat.zero_add, Hn.out]; exact this) HGN4.out
        clear MN4 RN4 HON4 HGN4
        go_roundw
        case rel => exact ⟨j + 1, ((out ++ [(k, d)]) ++ [(pk, pd)]), true, by go_num, by omega, rfl, HEND.out, by have h1 := Hn.out; have h2 := HL2; show _ ≤ _; simp; omega, N4.out⟩
        case measure => simp [intOf]; omega
      · -- A D
        have hlt2 : Op.bytesLess pk.toList k.toList = false := by rw [less_is]; exact hA.2
        obtain rfl : put = false := hA.1
        subst hE
        have hne : (pk.toList == pk.toList) = true := by simp
        have HEND : Hid ((out ++ [(pk, d)]) ++ dn pk d (r.drop (j + 1)) true = R) := by
          have h := HDD.out
          rw [hA.2] at h
          show _ = _
          simpa using h
        clear HDD hA
        have HL2 : n + 1 ≤ j + 1 := by have h1 := Hn.out; have h2 := HL.out; simp at h2; omega
        go_upto_region 6 with fail
        go_quiet (fail)
        obtain ⟨wd, Hwd⟩ : ∃ x, x = wr.drewN nq := ⟨_, rfl⟩
        have N1 : Hid (Dn pk d cut w (.slice oa n oc) out wd) := by rw [Hwd]; exact HN.out.later (za.below_dN (Below.refl _ _) nq)
        try rw [← Hwd]
        clear Hwd
        obtain ⟨c0wd, c1wd⟩ := HC.out wd N1.out.gr.bl
        obtain ⟨x0wd, x1wd, x2wd⟩ := N1.out.cells
        rw [hpb] at x0wd x1wd x2wd
        have hswd : pb ≤ wd.heap.size := by rw [← hpb]; exact N1.out.gr.bl.size
        have MN2 : Hid (Dn pk d cut w (.slice oa n oc) out (wd.alloc (.cells #[.string pk, .string d] 97))) := N1.out.later ((Below.refl _ wd).alloc (Nat.le_refl _) _)
        have RN2 : Hid (World.ownsRow (wd.alloc (.cells #[.string pk, .string d] 97)) w.heap.size 97 2 (.slice oa n oc) (n) (rcs out)) := by have this : World.ownsRow (wd.alloc (.cells #[.string pk, .string d] 97)) w.heap.size 97 2 (.slice oa n oc) (out).length (rcs out) := MN2.out.gr.own; simp only [List.length_append, List.length_cons, List.length_nil, Nat.zero_add, Hn.out] at this; exact this
        go_upto_region 9 with (first | (at_builtin; (refine wpList_append_own _ rfl _ _ 51 rfl w.heap.size 97 i0 (.agg #[.string ByteArray.empty, .string ByteArray.empty]) 2 32 Tryz.underlying51 HIN.out.1 HIN.out.2.1 HIN.out.2.2.1 HIN.out.2.2.2 rfl (by decide) _ (n) _ rfl RN2.out ⟨wd.heap.size, 0, none⟩ 1 1 [.string pk, .string d] rfl rfl (zc.new_two _ _ _ _) (one_rc _ _) (by unfold maxLen; omega) (by omega) (by simp; omega) ?_; intro v5 w5 ho hg hnn; have HON2 : Hid (World.ownsRow _ _ _ _ _ _ _) := ho; have HGN2 : Hid (World.grownBy _ _ _) := hg; clear ho hg hnn)) | go_in)
        have N2 : Hid (Dn pk d cut w v5 (out ++ [(pk, d)]) w5) := MN2.out.grown (by have := HON2.out; simp only [List.length_append, List.length_cons, List.length_nil, Nat.zero_add, Hn.out]; exact this) HGN2.out
        clear MN2 RN2 HON2 HGN2
        obtain ⟨c0w5, c1w5⟩ := HC.out w5 N2.out.gr.bl
        obtain ⟨x0w5, x1w5, x2w5⟩ := N2.out.cells
        rw [hpb] at x0w5 x1w5 x2w5
        go_upto_region 9 with fail
        go_quiet (fail)
        obtain ⟨we, Hwe⟩ : ∃ x, x = w5.drewN nq := ⟨_, rfl⟩
        have N3 : Hid (Dn pk d cut w v5 (out ++ [(pk, d)]) we) := by rw [Hwe]; exact N2.out.later (za.below_dN (Below.refl _ _) nq)
        try rw [← Hwe]
        clear Hwe
        obtain ⟨c0we, c1we⟩ := HC.out we N3.out.gr.bl
        obtain ⟨x0we, x1we, x2we⟩ := N3.out.cells
        rw [hpb] at x0we x1we x2we
        have hswe : pb ≤ we.heap.size := by rw [← hpb]; exact N3.out.gr.bl.size
        go_wp2
        go_roundw
        case rel => exact ⟨j + 1, (out ++ [(pk, d)]), true, by go_num, by omega, rfl, HEND.out, by have h1 := Hn.out; have h2 := HL2; show _ ≤ _; simp; omega, N3.out⟩
        case measure => simp [intOf]; omega
      · -- B E
        have hlt2 : Op.bytesLess pk.toList k.toList = true := by rw [less_is]; exact hA.2
        obtain rfl : put = false := hA.1
        have hne : (pk.toList == k.toList) = false := text_ne hE
        have HEND : Hid ((out ++ [(pk, pd)]) ++ dn k d (r.drop (j + 1)) false = R) := by
          have h := HDD.out
          rw [hA.2] at h
          show _ = _
          simpa [hE] using h
        clear HDD hE hA
        have HL2 : n + 1 ≤ j + 1 := by have h1 := Hn.out; have h2 := HL.out; simp at h2; omega
        go_upto_region 6 with fail
        go_quiet (fail)
        obtain ⟨wd, Hwd⟩ : ∃ x, x = wr.drewN nq := ⟨_, rfl⟩
        have N1 : Hid (Dn k d cut w (.slice oa n oc) out wd) := by rw [Hwd]; exact HN.out.later (za.below_dN (Below.refl _ _) nq)
        try rw [← Hwd]
        clear Hwd
        obtain ⟨c0wd, c1wd⟩ := HC.out wd N1.out.gr.bl
        obtain ⟨x0wd, x1wd, x2wd⟩ := N1.out.cells
        rw [hpb] at x0wd x1wd x2wd
        have hswd : pb ≤ wd.heap.size := by rw [← hpb]; exact N1.out.gr.bl.size
        go_upto_region 9 with fail
        go_quiet (fail)
        obtain ⟨we, Hwe⟩ : ∃ x, x = wd.drewN nq := ⟨_, rfl⟩
        have N3 : Hid (Dn k d cut w (.slice oa n oc) out we) := by rw [Hwe]; exact N1.out.later (za.below_dN (Below.refl _ _) nq)
        try rw [← Hwe]
        clear Hwe
        obtain ⟨c0we, c1we⟩ := HC.out we N3.out.gr.bl
        obtain ⟨x0we, x1we, x2we⟩ := N3.out.cells
        rw [hpb] at x0we x1we x2we
        have hswe : pb ≤ we.heap.size := by rw [← hpb]; exact N3.out.gr.bl.size
        have MN4 : Hid (Dn k d cut w (.slice oa n oc) out (we.alloc (.cells #[.string pk, .string pd] 97))) := N3.out.later ((Below.refl _ we).alloc (Nat.le_refl _) _)
        have RN4 : Hid (World.ownsRow (we.alloc (.cells #[.string pk, .string pd] 97)) w.heap.size 97 2 (.slice oa n oc) (n) (rcs out)) := by have this : World.ownsRow (we.alloc (.cells #[.string pk, .string pd] 97)) w.heap.size 97 2 (.slice oa n oc) (out).length (rcs out) := MN4.out.gr.own; simp only [List.length_append, List.length_cons, List.length_nil, Nat.zero_add, Hn.out] at this; exact this
        go_wp2_with (first | (at_builtin; (refine wpList_append_own _ rfl _ _ 51 rfl w.heap.size 97 i0 (.agg #[.string ByteArray.empty, .string ByteArray.empty]) 2 32 Tryz.underlying51 HIN.out.1 HIN.out.2.1 HIN.out.2.2.1 HIN.out.2.2.2 rfl (by decide) _ (n) _ rfl RN4.out ⟨we.heap.size, 0, none⟩ 1 1 [.string pk, .string pd] rfl rfl (zc.new_two _ _ _ _) (one_rc _ _) (by unfold maxLen; omega) (by omega) (by simp; omega) ?_; intro v6 w6 ho hg hnn; have HON4 : Hid (World.ownsRow _ _ _ _ _ _ _) := ho; have HGN4 : Hid (World.grownBy _ _ _) := hg; clear ho hg hnn)) | go_in)
        have N4 : Hid (Dn k d cut w v6 (out ++ [(pk, pd)]) w6) := MN4.out.grown (by have := HON4.out; simp only [List.length_append, List.length_cons, List.length_nil, Nat.zero_add, Hn.out]; exact this) HGN4.out
        clear MN4 RN4 HON4 HGN4
        go_roundw
        case rel => exact ⟨j + 1, (out ++ [(pk, pd)]), false, by go_num, by omega, rfl, HEND.out, by have h1 := Hn.out; have h2 := HL2; show _ ≤ _; simp; omega, N4.out⟩
        case measure => simp [intOf]; omega
      · -- C E
        skip
        obtain rfl : put = true := hA
        have hne : (pk.toList == k.toList) = false := text_ne hE
        have HEND : Hid ((out ++ [(pk, pd)]) ++ dn k d (r.drop (j + 1)) true = R) := by
          have h := HDD.out
          show _ = _
          simpa [hE] using h
        clear HDD hE
        have HL2 : n + 0 ≤ j + 1 := by have h1 := Hn.out; have h2 := HL.out; simp at h2; omega
        go_upto_region 6 with fail
        go_quiet (fail)
        obtain ⟨wd, Hwd⟩ : ∃ x, x = wr.drewN nq := ⟨_, rfl⟩
        have N1 : Hid (Dn k d cut w (.slice oa n oc) out wd) := by rw [Hwd]; exact HN.out.later (za.below_dN (Below.refl _ _) nq)
        try rw [← Hwd]
        clear Hwd
        obtain ⟨c0wd, c1wd⟩ := HC.out wd N1.out.gr.bl
        obtain ⟨x0wd, x1wd, x2wd⟩ := N1.out.cells
        rw [hpb] at x0wd x1wd x2wd
        have hswd : pb ≤ wd.heap.size := by rw [← hpb]; exact N1.out.gr.bl.size
        go_upto_region 9 with fail
        go_quiet (fail)
        obtain ⟨we, Hwe⟩ : ∃ x, x = wd.drewN nq := ⟨_, rfl⟩
        have N3 : Hid (Dn k d cut w (.slice oa n oc) out we) := by rw [Hwe]; exact N1.out.later (za.below_dN (Below.refl _ _) nq)
        try rw [← Hwe]
        clear Hwe
        obtain ⟨c0we, c1we⟩ := HC.out we N3.out.gr.bl
        obtain ⟨x0we, x1we, x2we⟩ := N3.out.cells
        rw [hpb] at x0we x1we x2we
        have hswe : pb ≤ we.heap.size := by rw [← hpb]; exact N3.out.gr.bl.size
        have MN4 : Hid (Dn k d cut w (.slice oa n oc) out (we.alloc (.cells #[.string pk, .string pd] 97))) := N3.out.later ((Below.refl _ we).alloc (Nat.le_refl _) _)
        have RN4 : Hid (World.ownsRow (we.alloc (.cells #[.string pk, .string pd] 97)) w.heap.size 97 2 (.slice oa n oc) (n) (rcs out)) := by have this : World.ownsRow (we.alloc (.cells #[.string pk, .string pd] 97)) w.heap.size 97 2 (.slice oa n oc) (out).length (rcs out) := MN4.out.gr.own; simp only [List.length_append, List.length_cons, List.length_nil, Nat.zero_add, Hn.out] at this; exact this
        go_wp2_with (first | (at_builtin; (refine wpList_append_own _ rfl _ _ 51 rfl w.heap.size 97 i0 (.agg #[.string ByteArray.empty, .string ByteArray.empty]) 2 32 Tryz.underlying51 HIN.out.1 HIN.out.2.1 HIN.out.2.2.1 HIN.out.2.2.2 rfl (by decide) _ (n) _ rfl RN4.out ⟨we.heap.size, 0, none⟩ 1 1 [.string pk, .string pd] rfl rfl (zc.new_two _ _ _ _) (one_rc _ _) (by unfold maxLen; omega) (by omega) (by simp; omega) ?_; intro v6 w6 ho hg hnn; have HON4 : Hid (World.ownsRow _ _ _ _ _ _ _) := ho; have HGN4 : Hid (World.grownBy _ _ _) := hg; clear ho hg hnn)) | go_in)
        have N4 : Hid (Dn k d cut w v6 (out ++ [(pk, pd)]) w6) := MN4.out.grown (by have := HON4.out; simp only [List.length_append, List.length_cons, List.length_nil, Nat.zero_add, Hn.out]; exact this) HGN4.out
        clear MN4 RN4 HON4 HGN4
        go_roundw
        case rel => exact ⟨j + 1, (out ++ [(pk, pd)]), true, by go_num, by omega, rfl, HEND.out, by have h1 := Hn.out; have h2 := HL2; show _ ≤ _; simp; omega, N4.out⟩
        case measure => simp [intOf]; omega
      · -- C D
        skip
        obtain rfl : put = true := hA
        subst hE
        have hne : (pk.toList == pk.toList) = true := by simp
        have HEND : Hid ((out) ++ dn pk d (r.drop (j + 1)) true = R) := by
          have h := HDD.out
          show _ = _
          simpa using h
        clear HDD
        have HL2 : n + 0 ≤ j + 1 := by have h1 := Hn.out; have h2 := HL.out; simp at h2; omega
        go_upto_region 6 with fail
        go_quiet (fail)
        obtain ⟨wd, Hwd⟩ : ∃ x, x = wr.drewN nq := ⟨_, rfl⟩
        have N1 : Hid (Dn pk d cut w (.slice oa n oc) out wd) := by rw [Hwd]; exact HN.out.later (za.below_dN (Below.refl _ _) nq)
        try rw [← Hwd]
        clear Hwd
        obtain ⟨c0wd, c1wd⟩ := HC.out wd N1.out.gr.bl
        obtain ⟨x0wd, x1wd, x2wd⟩ := N1.out.cells
        rw [hpb] at x0wd x1wd x2wd
        have hswd : pb ≤ wd.heap.size := by rw [← hpb]; exact N1.out.gr.bl.size
        go_upto_region 9 with fail
        go_quiet (fail)
        obtain ⟨we, Hwe⟩ : ∃ x, x = wd.drewN nq := ⟨_, rfl⟩
        have N3 : Hid (Dn pk d cut w (.slice oa n oc) out we) := by rw [Hwe]; exact N1.out.later (za.below_dN (Below.refl _ _) nq)
        try rw [← Hwe]
        clear Hwe
        obtain ⟨c0we, c1we⟩ := HC.out we N3.out.gr.bl
        obtain ⟨x0we, x1we, x2we⟩ := N3.out.cells
        rw [hpb] at x0we x1we x2we
        have hswe : pb ≤ we.heap.size := by rw [← hpb]; exact N3.out.gr.bl.size
        go_wp2
        go_roundw
        case rel => exact ⟨j + 1, out, true, by go_num, by omega, rfl, HEND.out, by have h1 := Hn.out; have h2 := HL2; show _ ≤ _; simp; omega, N3.out⟩
        case measure => simp [intOf]; omega
--END
--TAIL
    · have hlt' : ¬ (j : Int) < r.length := by omega
      have hdr : r.drop j = [] := List.drop_eq_nil_of_le (by omega)
      have HD2 := HD.out
      rw [hdr] at HD2
      have HDD : Hid (out ++ (if put then [] else [(k, d)]) = R) := HD2
      clear HD HD2 hdr
      obtain ⟨x0, x1, x2⟩ := HN.out.cells
      rw [hpb] at x0 x1 x2
      have hswr : pb ≤ wr.heap.size := by rw [← hpb]; exact HN.out.gr.bl.size
      cases put with
      | true =>
        have HE2 : Hid (out = R) := by have := HDD.out; show _ = _; simpa using this
        go_wp2
        go_ret
        exact ⟨_, rfl, by have h := HN.out.gr; rw [HE2.out, hpb] at h; exact h⟩
      | false =>
        have HE2 : Hid (out ++ [(k, d)] = R) := by have := HDD.out; show _ = _; simpa using this
        have MN2 : Hid (Dn k d cut w (.slice oa n oc) out (wr.alloc (.cells #[.string k, .string d] 97))) := HN.out.later ((Below.refl _ wr).alloc (Nat.le_refl _) _)
        have RN2 : Hid (World.ownsRow (wr.alloc (.cells #[.string k, .string d] 97)) w.heap.size 97 2 (.slice oa n oc) (n) (rcs out)) := by have this : World.ownsRow (wr.alloc (.cells #[.string k, .string d] 97)) w.heap.size 97 2 (.slice oa n oc) (out).length (rcs out) := MN2.out.gr.own; simp only [List.length_append, List.length_cons, List.length_nil, Nat.zero_add, Hn.out] at this; exact this
        go_wp2_with (first | (at_builtin; (refine wpList_append_own _ rfl _ _ 51 rfl w.heap.size 97 i0 (.agg #[.string ByteArray.empty, .string ByteArray.empty]) 2 32 Tryz.underlying51 HIN.out.1 HIN.out.2.1 HIN.out.2.2.1 HIN.out.2.2.2 rfl (by decide) _ (n) _ rfl RN2.out ⟨wr.heap.size, 0, none⟩ 1 1 [.string k, .string d] rfl rfl (zc.new_two _ _ _ _) (one_rc _ _) (by unfold maxLen; omega) (by omega) (by simp; omega) ?_; intro v5 w5 ho hg hnn; have HON2 : Hid (World.ownsRow _ _ _ _ _ _ _) := ho; have HGN2 : Hid (World.grownBy _ _ _) := hg; clear ho hg hnn)) | go_in)
        have N2 : Hid (Dn k d cut w v5 (out ++ [(k, d)]) w5) := MN2.out.grown (by have := HON2.out; simp only [List.length_append, List.length_cons, List.length_nil, Nat.zero_add, Hn.out]; exact this) HGN2.out
        clear MN2 RN2 HON2 HGN2
        go_ret
        exact ⟨_, rfl, by have h := N2.out.gr; rw [HE2.out, hpb] at h; exact h⟩
--TAILEND
theorem doneC {B : Nat} (v : Value) (r : List Rec) (x : W) (w : World) (h : Lr B v r w) (hs : Srt r) (hl : r.length < 3518437208883) :
    Calls Tryz.prog 81 #[v, .agg #[.string x.key, .string x.data, .bool x.cut]] w fun e w' => ∃ v', e = .returned v' ∧ Gr w.heap.size w v' (doW r x) w' :=
  doneC0 v r x.key x.data x.cut (doW r x) w h (dn_doW x r hs) hl
end Go.Proofs.YtpcllegjnbeppaaGreat.xb

namespace Go.Proofs.YtpcllegjnbeppaaGreat.xc
open Go.RowKit Go.PlainAid Go.Maps Go.Shelf
open Go.Proofs.YtpcllegjnbeppaaGreat.ca Go.Proofs.YtpcllegjnbeppaaGreat.cb Go.Proofs.YtpcllegjnbeppaaGreat.cp Go.Proofs.YtpcllegjnbeppaaGreat.kp Go.Proofs.YtpcllegjnbeppaaGreat.ka Go.Proofs.YtpcllegjnbeppaaGreat.ya Go.Proofs.YtpcllegjnbeppaaGreat.yb Go.Proofs.YtpcllegjnbeppaaGreat.yc Go.Proofs.YtpcllegjnbeppaaGreat.ye Go.Proofs.YtpcllegjnbeppaaGreat.yf Go.Proofs.YtpcllegjnbeppaaGreat.yi Go.Proofs.YtpcllegjnbeppaaGreat.yk Go.Proofs.YtpcllegjnbeppaaGreat.yl Go.Proofs.YtpcllegjnbeppaaGreat.zf Go.Proofs.YtpcllegjnbeppaaGreat.zg Go.Proofs.YtpcllegjnbeppaaGreat.xa Go.Proofs.YtpcllegjnbeppaaGreat.xb
set_option linter.unusedVariables false
set_option linter.unusedSimpArgs false
-- the document's store in memory, its state the program's own S
def ww (x : W) : List Value := [.string x.key, .string x.data, .bool x.cut]
def wws (l : List W) : List Value := l.flatMap ww
def dcells (dv wv vv : Value) (s : S) : List Value := [.int .i64 s.cap, dv, wv, .bool s.off, .int .i64 s.armed, .int .i64 s.age, vv]
def Dt (g : Nat) (dv wv vv : Value) (s : S) (w : World) : Prop := w.heap[g]? = some (.cells (dcells dv wv vv s).toArray 54 (0, 0))
structure Ds (B g : Nat) (dv wv vv : Value) (s : S) (w : World) : Prop where
  row : Dt g dv wv vv s w
  dl : Lr B dv s.dur w
  vl : Lr B vv (now s) w
  wl : w.ownsRow B 127 3 wv s.pend.length (wws s.pend)
  low : B ≤ g
  ok : OkS s
theorem Dt.lt {g : Nat} {dv wv vv : Value} {s : S} {w : World} (h : Dt g dv wv vv s w) : g < w.heap.size := (Array.getElem?_eq_some_iff.1 h).1
theorem Dt.c0 {g : Nat} {dv wv vv : Value} {s : S} {w : World} (h : Dt g dv wv vv s w) : w.cell? ⟨g, 0, none⟩ = some (.int .i64 s.cap) := cell_of_row _ _ 0 _ _ _ h
theorem Dt.c1 {g : Nat} {dv wv vv : Value} {s : S} {w : World} (h : Dt g dv wv vv s w) : w.cell? ⟨g, 1, none⟩ = some dv := cell_of_row _ _ 1 _ _ _ h
theorem Dt.c2 {g : Nat} {dv wv vv : Value} {s : S} {w : World} (h : Dt g dv wv vv s w) : w.cell? ⟨g, 2, none⟩ = some wv := cell_of_row _ _ 2 _ _ _ h
theorem Dt.c3 {g : Nat} {dv wv vv : Value} {s : S} {w : World} (h : Dt g dv wv vv s w) : w.cell? ⟨g, 3, none⟩ = some (.bool s.off) := cell_of_row _ _ 3 _ _ _ h
theorem Dt.c4 {g : Nat} {dv wv vv : Value} {s : S} {w : World} (h : Dt g dv wv vv s w) : w.cell? ⟨g, 4, none⟩ = some (.int .i64 s.armed) := cell_of_row _ _ 4 _ _ _ h
theorem Dt.c5 {g : Nat} {dv wv vv : Value} {s : S} {w : World} (h : Dt g dv wv vv s w) : w.cell? ⟨g, 5, none⟩ = some (.int .i64 s.age) := cell_of_row _ _ 5 _ _ _ h
theorem Dt.c6 {g : Nat} {dv wv vv : Value} {s : S} {w : World} (h : Dt g dv wv vv s w) : w.cell? ⟨g, 6, none⟩ = some vv := cell_of_row _ _ 6 _ _ _ h
theorem Dt.fz {g : Nat} {dv wv vv : Value} {s : S} {w : World} (h : Dt g dv wv vv s w) (i : Nat) : w.frozen? ⟨g, i, none⟩ = false := frozen_of_row _ _ i _ _ h
theorem Dt.set1 {g : Nat} {dv wv vv : Value} {s : S} {w : World} (h : Dt g dv wv vv s w) (v : Value) : Dt g v wv vv s (w.setCell ⟨g, 1, none⟩ v) := heap_setCell_same _ _ 1 _ _ _ h
theorem Dt.set2 {g : Nat} {dv wv vv : Value} {s : S} {w : World} (h : Dt g dv wv vv s w) (v : Value) : Dt g dv v vv s (w.setCell ⟨g, 2, none⟩ v) := heap_setCell_same _ _ 2 _ _ _ h
theorem Dt.set3 {g : Nat} {dv wv vv : Value} {s : S} {w : World} (h : Dt g dv wv vv s w) (v : Bool) : Dt g dv wv vv { s with off := v } (w.setCell ⟨g, 3, none⟩ (.bool v)) := heap_setCell_same _ _ 3 _ _ _ h
theorem Dt.set4 {g : Nat} {dv wv vv : Value} {s : S} {w : World} (h : Dt g dv wv vv s w) (v : Nat) : Dt g dv wv vv { s with armed := v } (w.setCell ⟨g, 4, none⟩ (.int .i64 v)) := heap_setCell_same _ _ 4 _ _ _ h
theorem Dt.set5 {g : Nat} {dv wv vv : Value} {s : S} {w : World} (h : Dt g dv wv vv s w) (v : Nat) : Dt g dv wv vv { s with age := v } (w.setCell ⟨g, 5, none⟩ (.int .i64 v)) := heap_setCell_same _ _ 5 _ _ _ h
theorem Dt.set6 {g : Nat} {dv wv vv : Value} {s : S} {w : World} (h : Dt g dv wv vv s w) (v : Value) : Dt g dv wv v s (w.setCell ⟨g, 6, none⟩ v) := heap_setCell_same _ _ 6 _ _ _ h
theorem dr1 : (97 : Nat) ≠ 54 := by decide
theorem dr2 : (127 : Nat) ≠ 54 := by decide
-- what a call writes to in place: the store's own block, and the row of writes
def Fd (g : Nat) (wv : Value) (k : Nat) : Prop := k = g ∨ some k = wv.ownBlock
def Rd (B g : Nat) (wv : Value) (s : S) (w w' : World) : Prop := ∃ dv' wv' vv', Ds B g dv' wv' vv' s w' ∧ Kp (Fd g wv) w w' ∧ ∀ k, some k = wv'.ownBlock → some k = wv.ownBlock ∨ w.heap.size ≤ k
theorem Ds.keep {A : Nat → Prop} {B g : Nat} {dv wv vv : Value} {s : S} {w w' : World} (h : Ds B g dv wv vv s w) (k : Kp A w w') (h1 : ¬ A g) (h2 : ∀ j, some j = wv.ownBlock → ¬ A j) (h3 : ∀ j, some j = dv.ownBlock → ¬ A j) (h4 : ∀ j, some j = vv.ownBlock → ¬ A j) : Ds B g dv wv vv s w' :=
  ⟨(k.block _ h.row.lt h1).trans h.row, own_kp h.dl k h3, own_kp h.vl k h4, own_kp h.wl k h2, h.low, h.ok⟩
theorem Ds.later {B g : Nat} {dv wv vv : Value} {s : S} {w w' : World} (h : Ds B g dv wv vv s w) (b : Below w.heap.size w w') : Ds B g dv wv vv s w' := h.keep (Kp.of_below (A := fun _ => False) b) (fun e => e) (fun _ _ e => e) (fun _ _ e => e) (fun _ _ e => e)
theorem Rd.refl {B g : Nat} {dv wv vv : Value} {s : S} {w w' : World} (h : Ds B g dv wv vv s w) (b : Below w.heap.size w w') : Rd B g wv s w w' := ⟨dv, wv, vv, h.later b, Kp.of_below b, fun k hk => .inl hk⟩
-- the store's own block turned: the rows stay
theorem ds_row {B g : Nat} {dv wv vv : Value} {s s' : S} {w w' : World} (h : Ds B g dv wv vv s w) (hr : Dt g dv wv vv s' w') (k : Kp (fun q => q = g) w w') (e1 : s'.dur = s.dur) (e2 : s'.pend = s.pend) (ok : OkS s') : Ds B g dv wv vv s' w' := by
  have en : now s' = now s := by unfold now; rw [e1, e2]
  refine ⟨hr, ?_, ?_, ?_, h.low, ok⟩
  · rw [e1]; exact own_kp h.dl k (fun j hj e => own_tag h.dl h.row dr1 (by rw [← e]; exact hj))
  · rw [en]; exact own_kp h.vl k (fun j hj e => own_tag h.vl h.row dr1 (by rw [← e]; exact hj))
  · rw [e2]; exact own_kp h.wl k (fun j hj e => own_tag h.wl h.row dr2 (by rw [← e]; exact hj))
theorem rd_row {B g : Nat} {dv wv vv : Value} {s s' : S} {w w' : World} (h : Ds B g dv wv vv s w) (hr : Dt g dv wv vv s' w') (k : Kp (fun q => q = g) w w') (e1 : s'.dur = s.dur) (e2 : s'.pend = s.pend) (ok : OkS s') : Rd B g wv s' w w' :=
  ⟨dv, wv, vv, ds_row h hr k e1 e2 ok, k.mono (fun _ e => .inl e), fun k hk => .inl hk⟩
theorem downD {B g : Nat} {dv wv vv : Value} {s : S} {w : World} (h : Ds B g dv wv vv s w) : Calls Tryz.prog 14 #[.pointer (some ⟨g, 0, none⟩)] w fun e w' => e = .returned (.bool s.off) ∧ w' = w := by
  have c0 := h.row.c3
  clear h
  go_enter Tryz.func14, Tryz.ntmps14
  go_wp2
  go_ret
  exact ⟨rfl, rfl⟩
theorem pendD {B g : Nat} {dv wv vv : Value} {s : S} {w : World} (h : Ds B g dv wv vv s w) : Calls Tryz.prog 12 #[.pointer (some ⟨g, 0, none⟩)] w fun e w' => e = .returned (.int .i64 s.pend.length) ∧ w' = w := by
  have c0 := h.row.c2
  obtain ⟨a, c, rfl⟩ := own_formS h.wl
  clear h
  go_enter Tryz.func12, Tryz.ntmps12
  go_wp2
  go_ret
  exact ⟨rfl, rfl⟩
theorem usedD {B g : Nat} {dv wv vv : Value} {s : S} {w : World} (h : Ds B g dv wv vv s w) : Calls Tryz.prog 10 #[.pointer (some ⟨g, 0, none⟩)] w fun e w' => e = .returned (.int .i64 (tot (now s) : Nat)) ∧ Below w.heap.size w w' := by
  have c0 := h.row.c6
  have CC : Hid (Calls _ _ _ _ _) := cntsC vv (now s) w h.vl h.ok.now h.ok.lnow
  obtain ⟨a, c, rfl⟩ := lr_form h.vl
  obtain ⟨T, HT⟩ : ∃ T, Hid (tot (now s) = T) := ⟨_, rfl⟩
  rw [HT.out] at CC ⊢
  generalize (now s).length = n at *
  clear h
  go_enter Tryz.func10, Tryz.ntmps10
  go_wp2_with fail
  refine CC.out.mono ?_
  rintro _ w1 ⟨rfl, hw⟩
  have B1 : Hid (Below w.heap.size w w1) := by
    obtain ⟨m, hm⟩ := hw
    rw [hm]
    exact zh.below_dN (Below.refl _ _) m
  clear hw
  go_wp2
  go_ret
  exact ⟨rfl, B1.out⟩
theorem goesD (k : ByteArray) (w : World) : Calls Tryz.prog 80 #[.string k] w fun e w' => e = .returned (.bool (decide (1 ≤ k.size ∧ k.size ≤ 64))) ∧ w' = w := by
  by_cases h1 : 1 ≤ k.size
  · have d1 : decide (1 ≤ (k.size : Int)) = true := decide_eq_true (by omega)
    have d1' : decide (1 ≤ k.size) = true := decide_eq_true h1
    by_cases h2 : k.size ≤ 64
    · have d2 : decide ((k.size : Int) ≤ 64) = true := decide_eq_true (by omega)
      have d2' : decide (k.size ≤ 64) = true := decide_eq_true h2
      rw [decide_eq_true (show 1 ≤ k.size ∧ k.size ≤ 64 from ⟨h1, h2⟩)]
      go_enter Tryz.func80, Tryz.ntmps80
      go_wp2
      go_ret
      exact ⟨rfl, rfl⟩
    · have d2 : decide ((k.size : Int) ≤ 64) = false := decide_eq_false (by omega)
      have d2' : decide (k.size ≤ 64) = false := decide_eq_false h2
      rw [decide_eq_false (fun h : 1 ≤ k.size ∧ k.size ≤ 64 => h2 h.2)]
      go_enter Tryz.func80, Tryz.ntmps80
      go_wp2
      go_ret
      exact ⟨rfl, rfl⟩
  · have d1 : decide (1 ≤ (k.size : Int)) = false := decide_eq_false (by omega)
    have d1' : decide (1 ≤ k.size) = false := decide_eq_false h1
    rw [decide_eq_false (fun h : 1 ≤ k.size ∧ k.size ≤ 64 => h1 h.1)]
    go_enter Tryz.func80, Tryz.ntmps80
    go_wp2
    go_ret
    exact ⟨rfl, rfl⟩
-- New
theorem newD (c : Int) (w : World) (hc : 0 ≤ c ∧ c ≤ 1073741824) : Calls Tryz.prog 6 #[.int .i64 c] w fun e w' => ∃ g, e = .returned (.pointer (some ⟨g, 0, none⟩)) ∧ Ds w.heap.size g (.slice none 0 0) (.slice none 0 0) (.slice none 0 0) ⟨c, [], [], 0, false, 0⟩ w' ∧ Below w.heap.size w w' := by
  have q1 : decide (c < 0) = false := decide_eq_false (by omega)
  have q2 : decide (1073741824 < c) = false := decide_eq_false (by omega)
  have HC : Hid _ := hc
  clear hc
  go_enter Tryz.func6, Tryz.ntmps6
  go_wp2
  go_ret
  refine ⟨_, rfl, ⟨(MapKept.heap_alloc w _).1, World.ownsRow_nil _ _ _ _, World.ownsRow_nil _ _ _ _, World.ownsRow_nil _ _ _ _, Nat.le_refl _, ?_⟩, (Below.refl _ w).alloc (Nat.le_refl _) _⟩
  exact ⟨(by intro p hp; cases hp), List.Pairwise.nil, (by intro x hx; cases hx), HC.out.1, HC.out.2, by simp, by simp, by simp⟩
theorem newDNo (c : Int) (w : World) (hc : ¬ (0 ≤ c ∧ c ≤ 1073741824)) : Calls Tryz.prog 6 #[.int .i64 c] w fun e w' => e = .returned (.pointer none) ∧ w' = w := by
  rcases (show c < 0 ∨ (¬ c < 0 ∧ 1073741824 < c) by omega) with h | ⟨h, h2⟩
  · have q1 : decide (c < 0) = true := decide_eq_true h
    clear hc h
    go_enter Tryz.func6, Tryz.ntmps6
    go_wp2
    go_ret
    exact ⟨rfl, rfl⟩
  · have q1 : decide (c < 0) = false := decide_eq_false h
    have q2 : decide (1073741824 < c) = true := decide_eq_true h2
    clear hc h h2
    go_enter Tryz.func6, Tryz.ntmps6
    go_wp2
    go_ret
    exact ⟨rfl, rfl⟩
-- Get
theorem getD {B g : Nat} {dv wv vv : Value} {s : S} {w : World} (k : ByteArray) (h : Ds B g dv wv vv s w) : Calls Tryz.prog 62 #[.pointer (some ⟨g, 0, none⟩), .string k] w fun e w' => e = .returned (.tuple #[.string (getS s k).1, .int .i64 (getS s k).2]) ∧ w' = w := by
  have c3 := h.row.c3
  have c6 := h.row.c6
  have CG : Hid (∀ w, Calls _ _ _ _ _) := fun w => goesD k w
  have CF : Hid (Calls _ _ _ _ _) := findC vv (now s) k w h.vl h.ok.snow (by have := h.ok.lnow; omega)
  obtain ⟨a, c, rfl⟩ := lr_form h.vl
  have HVL : Hid _ := h.vl
  unfold getS refS
  cases ho : s.off with
  | true =>
    rw [ho] at c3
    simp only [if_true]
    rw [if_pos (by simp)]
    clear h CG CF HVL
    go_enter Tryz.func62, Tryz.ntmps62
    go_wp2
    go_ret2
    exact ⟨rfl, rfl⟩
  | false =>
    rw [ho] at c3
    simp only [Bool.false_eq_true, if_false]
    by_cases hk : 1 ≤ k.size ∧ k.size ≤ 64
    · rw [if_pos hk, if_neg (by simp)]
      rw [decide_eq_true hk] at CG
      clear hk
      have HG : ∀ i, Fnd k (now s) i → (i = -1 ∧ rget k (now s) = none) ∨ ∃ (n : Nat) (d : ByteArray) (g2 : Nat), i = n ∧ n < (now s).length ∧ rget k (now s) = some d ∧ a = some ⟨g2, 0, none⟩ ∧ w.cell? ⟨g2, n * 2 + 1, none⟩ = some (.string d) := fun i hi => by
        rcases hi with ⟨h1, h2⟩ | ⟨n, d, h1, h2, h3⟩
        · exact .inl ⟨h2, h1⟩
        · obtain ⟨g2, e1, _, _, e2⟩ := lr_at HVL.out n (k, d) h2
          exact .inr ⟨n, d, g2, h1, (List.getElem?_eq_some_iff.1 h2).1, h3, e1, e2⟩
      have HHG : Hid _ := HG
      clear HG h HVL ho
      generalize (now s).length = L at *
      generalize rget k (now s) = o at *
      go_enter Tryz.func62, Tryz.ntmps62
      go_wp2_with fail
      refine (CG.out _).mono ?_
      rintro _ _ ⟨rfl, hw⟩; rw [hw]; clear hw
      go_wp2_with fail
      refine CF.out.mono ?_
      rintro _ _ ⟨⟨i, rfl, hi⟩, hw⟩; rw [hw]; clear hw CF
      rcases HHG.out i hi with ⟨rfl, rfl⟩ | ⟨n, d, g2, rfl, hn, rfl, rfl, c7⟩
      · clear hi HHG
        go_wp2
        go_ret2
        exact ⟨rfl, rfl⟩
      · have hn' : (n : Int) < L := by omega
        have hn0 : ¬ (n : Int) < 0 := by omega
        clear hi HHG
        go_wp2
        go_ret2
        exact ⟨rfl, rfl⟩
    · rw [if_neg hk, if_pos (by simp)]
      rw [decide_eq_false hk] at CG
      clear hk h CF HVL
      go_enter Tryz.func62, Tryz.ntmps62
      go_wp2_with fail
      refine (CG.out _).mono ?_
      rintro _ _ ⟨rfl, hw⟩; rw [hw]; clear hw
      go_wp2
      go_ret2
      exact ⟨rfl, rfl⟩
end Go.Proofs.YtpcllegjnbeppaaGreat.xc

namespace Go.Proofs.YtpcllegjnbeppaaGreat.xd
open Go.RowKit Go.PlainAid Go.Maps Go.Shelf
open Go.Proofs.YtpcllegjnbeppaaGreat.ca Go.Proofs.YtpcllegjnbeppaaGreat.cb Go.Proofs.YtpcllegjnbeppaaGreat.cp Go.Proofs.YtpcllegjnbeppaaGreat.kp Go.Proofs.YtpcllegjnbeppaaGreat.ka Go.Proofs.YtpcllegjnbeppaaGreat.ya Go.Proofs.YtpcllegjnbeppaaGreat.yb Go.Proofs.YtpcllegjnbeppaaGreat.yc Go.Proofs.YtpcllegjnbeppaaGreat.ye Go.Proofs.YtpcllegjnbeppaaGreat.yf Go.Proofs.YtpcllegjnbeppaaGreat.yi Go.Proofs.YtpcllegjnbeppaaGreat.yk Go.Proofs.YtpcllegjnbeppaaGreat.yl Go.Proofs.YtpcllegjnbeppaaGreat.zf Go.Proofs.YtpcllegjnbeppaaGreat.zg Go.Proofs.YtpcllegjnbeppaaGreat.xa Go.Proofs.YtpcllegjnbeppaaGreat.xb Go.Proofs.YtpcllegjnbeppaaGreat.xc
set_option linter.unusedVariables false
set_option linter.unusedSimpArgs false
theorem diesD {g : Nat} {dv wv vv : Value} {s : S} {w : World} (h : Dt g dv wv vv s w) (ha : s.armed ≤ 9223372036854775807) (ho : s.off = false) : Calls Tryz.prog 51 #[.pointer (some ⟨g, 0, none⟩)] w fun e w' => e = .returned (.bool (decide ((spendS s).1 ≠ 0))) ∧ Dt g dv wv vv (spendS s).2 w' ∧ Kp (fun k => k = g) w w' := by
  have c := h.c4
  have f4 := h.fz 4
  have f3 := h.fz 3
  unfold spendS
  by_cases h0 : s.armed = 0
  · rw [if_pos h0]
    have H : Hid (Dt g dv wv vv s w) := h
    have h0' : ((s.armed : Int) == 0) = true := by rw [h0]; rfl
    clear h h0
    go_enter Tryz.func51, Tryz.ntmps51
    go_wp2
    go_ret
    exact ⟨rfl, H.out, Kp.refl _ _⟩
  · rw [if_neg h0]
    have h0' : ((s.armed : Int) == 0) = false := by rw [beq_eq_false_iff_ne]; omega
    obtain ⟨q, hq⟩ : ∃ q : Nat, s.armed - 1 = q := ⟨_, rfl⟩
    have HS : Hid (Dt g dv wv vv { s with armed := q } (w.setCell ⟨g, 4, none⟩ (.int .i64 (q : Int)))) := h.set4 q
    have hw1 : IntKind.i64.wrap ((s.armed : Int) - 1) = (q : Int) := by
      rw [show (s.armed : Int) - 1 = (q : Int) by omega]
      exact wrap_is _ (by omega)
    have hw2 : (s.armed : Int) - 1 = (q : Int) := by omega
    have K1 : Hid (Kp (fun k => k = g) w (w.setCell ⟨g, 4, none⟩ (.int .i64 (q : Int)))) := Kp.setCell _ _ _ _ rfl
    rw [hq]
    by_cases h1 : s.armed = 1
    · rw [if_pos h1]
      have hd : q = 0 := by omega
      subst hd
      have f3' := HS.out.fz 3
      have c4' : (w.setCell ⟨g, 4, none⟩ (.int .i64 (0 : Int))).cell? ⟨g, 4, none⟩ = some (.int .i64 0) := HS.out.c4
      have H2 : Hid (Dt g dv wv vv { s with armed := 0, off := true } ((w.setCell ⟨g, 4, none⟩ (.int .i64 (0 : Int))).setCell ⟨g, 3, none⟩ (.bool true))) := HS.out.set3 true
      have c3 : (w.setCell ⟨g, 4, none⟩ (.int .i64 (0 : Int))).cell? ⟨g, 3, none⟩ = some (.bool s.off) := HS.out.c3
      have c3' : ((w.setCell ⟨g, 4, none⟩ (.int .i64 (0 : Int))).setCell ⟨g, 3, none⟩ (.bool true)).cell? ⟨g, 3, none⟩ = some (.bool true) := H2.out.c3
      clear h h0 h1 hq
      go_enter Tryz.func51, Tryz.ntmps51
      go_wp2
      go_ret
      exact ⟨rfl, H2.out, K1.out.trans (Kp.setCell _ _ _ _ rfl)⟩
    · rw [if_neg h1]
      have hq0 : ((q : Int) == 0) = false := by rw [beq_eq_false_iff_ne]; omega
      have f3' := HS.out.fz 3
      have c4' : (w.setCell ⟨g, 4, none⟩ (.int .i64 (q : Int))).cell? ⟨g, 4, none⟩ = some (.int .i64 q) := HS.out.c4
      have H2 : Hid (Dt g dv wv vv { s with armed := q } ((w.setCell ⟨g, 4, none⟩ (.int .i64 (q : Int))).setCell ⟨g, 3, none⟩ (.bool false))) := by
        have := HS.out.set3 false
        rw [← ho] at this ⊢
        exact this
      have c3 : (w.setCell ⟨g, 4, none⟩ (.int .i64 (q : Int))).cell? ⟨g, 3, none⟩ = some (.bool s.off) := HS.out.c3
      have c3' : ((w.setCell ⟨g, 4, none⟩ (.int .i64 (q : Int))).setCell ⟨g, 3, none⟩ (.bool false)).cell? ⟨g, 3, none⟩ = some (.bool false) := by rw [H2.out.c3]; show some (Value.bool s.off) = _; rw [ho]
      clear h h0 h1 hq
      go_enter Tryz.func51, Tryz.ntmps51
      go_wp2
      go_ret
      exact ⟨rfl, H2.out, K1.out.trans (Kp.setCell _ _ _ _ rfl)⟩
theorem armD {B g : Nat} {dv wv vv : Value} {s : S} {w : World} (n : Int) (h : Ds B g dv wv vv s w) (hn : n ≤ 9223372036854775807) : Calls Tryz.prog 18 #[.pointer (some ⟨g, 0, none⟩), .int .i64 n] w fun e w' => e = .returned (.tuple #[]) ∧ Rd B g wv (armS s n) w w' := by
  have c3 := h.row.c3
  have f4 := h.row.fz 4
  have c4 := h.row.c4
  have H : Hid (Ds B g dv wv vv s w) := h
  unfold armS
  clear h
  cases ho : s.off with
  | true =>
    rw [ho] at c3
    simp only [if_true]
    go_enter Tryz.func18, Tryz.ntmps18
    go_wp2
    (try simp only [Exit.inBlock, Exit.then]); refine bodyPost_ret (results_none rfl _ _ _) rfl ?_
    exact ⟨rfl, Rd.refl H.out (Below.refl _ _)⟩
  | false =>
    rw [ho] at c3
    simp only [Bool.false_eq_true, if_false]
    obtain ⟨m, hm⟩ : ∃ m : Nat, n.toNat = m := ⟨_, rfl⟩
    rw [hm]
    have H0 : Hid (Dt g dv wv vv { s with armed := 0 } (w.setCell ⟨g, 4, none⟩ (.int .i64 (0 : Int)))) := H.out.row.set4 0
    have f4' := H0.out.fz 4
    have c4' : (w.setCell ⟨g, 4, none⟩ (.int .i64 (0 : Int))).cell? ⟨g, 4, none⟩ = some (.int .i64 0) := H0.out.c4
    have OK : Hid (∀ m : Nat, m ≤ 9223372036854775807 → OkS { s with armed := m }) := fun m hm => ⟨H.out.ok.dur, H.out.ok.srt, H.out.ok.pend, H.out.ok.cap0, H.out.ok.cap1, hm, H.out.ok.age, H.out.ok.len⟩
    have FN : Hid (∀ (m : Nat) W, m ≤ 9223372036854775807 → Dt g dv wv vv { s with armed := m } W → Kp (fun k => k = g) w W → Rd B g wv { s with armed := m } w W) := fun m W hm hr k => rd_row H.out hr k rfl rfl (OK.out m hm)
    rw [ho] at H0 FN
    by_cases hn0 : 0 < n
    · have hm0 : n = m := by omega
      subst hm0
      have H1 : Hid (Dt g dv wv vv { s with off := false, armed := m } ((w.setCell ⟨g, 4, none⟩ (.int .i64 (0 : Int))).setCell ⟨g, 4, none⟩ (.int .i64 (m : Int)))) := H0.out.set4 m
      clear hm
      go_enter Tryz.func18, Tryz.ntmps18
      go_wp2
      go_end0
      refine ⟨rfl, FN.out m _ (by omega) ?_ ?_⟩
      · first | exact H1.out | (have := H1.out; simpa using this)
      · first | exact Kp.trans (A := fun k => k = g) (Kp.setCell w g 4 (.int .i64 0) rfl) (Kp.setCell _ _ _ _ rfl) | exact Kp.setCell _ _ _ _ rfl
    · have hm0 : m = 0 := by omega
      subst hm0
      have hn1 : ¬ (0 : Int) < n := hn0
      go_enter Tryz.func18, Tryz.ntmps18
      go_wp2
      go_end0
      exact ⟨rfl, FN.out 0 _ (by omega) H0.out (Kp.setCell _ _ _ _ rfl)⟩
-- Sync
theorem ok_spendD {s : S} (h : OkS s) : OkS (spendS s).2 := ok_spend h
theorem syncD {B g : Nat} {dv wv vv : Value} {s : S} {w : World} (h : Ds B g dv wv vv s w) : Calls Tryz.prog 20 #[.pointer (some ⟨g, 0, none⟩)] w fun e w' => e = .returned (.int .i64 (syncS s).1) ∧ Rd B g wv (syncS s).2 w w' := by
  have c3 := h.row.c3
  have H : Hid (Ds B g dv wv vv s w) := h
  unfold syncS
  cases ho : s.off with
  | true =>
    rw [ho] at c3
    simp only [if_true]
    clear h
    go_enter Tryz.func20, Tryz.ntmps20
    go_wp2
    go_ret
    exact ⟨rfl, Rd.refl H.out (Below.refl _ _)⟩
  | false =>
    rw [ho] at c3
    simp only [Bool.false_eq_true, if_false]
    have CD : Hid (Calls _ _ _ _ _) := diesD h.row h.ok.arm ho
    obtain ⟨p, hp⟩ : ∃ p, (spendS s).1 = p := ⟨_, rfl⟩
    rw [hp] at CD ⊢
    have hP2 : (spendS s).2.dur = s.dur := dur_spend s
    have hP3 : (spendS s).2.pend = s.pend := pend_spend s
    have FN : Hid (∀ W, Dt g dv wv vv (spendS s).2 W → Kp (fun k => k = g) w W → Ds B g dv wv vv (spendS s).2 W) := fun W hr k => ds_row H.out hr k hP2 hP3 (ok_spend H.out.ok)
    by_cases hz : p ≠ 0
    · rw [if_pos hz]
      have e : spendS s = (p, (spendS s).2) := by rw [← hp]
      rw [e]
      have hp124 : p = 124 := by
        have := zb.spend_e s
        rw [hp] at this
        rcases this with h | h
        · exact absurd h hz
        · exact h
      rw [decide_eq_true hz] at CD
      subst hp124
      clear h
      go_enter Tryz.func20, Tryz.ntmps20
      go_wp2_with fail
      refine CD.out.mono ?_
      rintro _ w1 ⟨rfl, r1, k1⟩
      have D1 : Hid (Rd B g wv (spendS s).2 w w1) := rd_row H.out r1 k1 hP2 hP3 (ok_spend H.out.ok)
      clear r1 k1
      go_wp2
      go_ret
      exact ⟨rfl, D1.out⟩
    · rw [if_neg hz]
      rw [decide_eq_false hz] at CD
      have FIN : Hid (∀ w1, Dt g dv wv vv (spendS s).2 w1 → Kp (fun k => k = g) w w1 → Rd B g wv { (spendS s).2 with dur := now s, pend := [] } w ((w1.setCell ⟨g, 1, none⟩ vv).setCell ⟨g, 2, none⟩ (.slice none 0 0))) := fun w1 r1 k1 => by
        have d1 := FN.out w1 r1 k1
        have r2 := (r1.set1 vv).set2 (.slice none 0 0)
        have k2 : Kp (fun k => k = g) w1 ((w1.setCell ⟨g, 1, none⟩ vv).setCell ⟨g, 2, none⟩ (.slice none 0 0)) := Kp.trans (A := fun k => k = g) (Kp.setCell w1 g 1 vv rfl) (Kp.setCell _ _ _ _ rfl)
        have hv : Lr B vv (now s) ((w1.setCell ⟨g, 1, none⟩ vv).setCell ⟨g, 2, none⟩ (.slice none 0 0)) := by
          have h1 := d1.vl
          rw [now_spend] at h1
          exact own_kp h1 k2 (fun j hj e => own_tag h1 r1 dr1 (by rw [← e]; exact hj))
        have oks := ok_spend H.out.ok
        refine ⟨vv, .slice none 0 0, vv, ⟨r2, hv, hv, World.ownsRow_nil _ _ _ _, H.out.low, ?_⟩, (k1.trans k2).mono (fun _ e => .inl e), fun k hk => by cases hk⟩
        exact ⟨H.out.ok.now, H.out.ok.snow, (by intro x hx; cases hx), oks.cap0, oks.cap1, oks.arm, oks.age, by have := H.out.ok.lnow; show (now s).length + 0 < _; omega⟩
      obtain ⟨va, vc, hvv⟩ := lr_form h.vl
      have HVV : Hid _ := hvv
      generalize (now s).length = L at *
      clear h hz hp hP2 hP3
      subst hvv
      go_enter Tryz.func20, Tryz.ntmps20
      go_wp2_with fail
      refine CD.out.mono ?_
      rintro _ w1 ⟨rfl, r1, k1⟩
      have F1 : Hid _ := FIN.out w1 r1 k1
      have c6 := r1.c6
      have c1 := r1.c1
      have f1 := r1.fz 1
      have f2 := (r1.set1 (.slice va L vc)).fz 2
      have c2 := (r1.set1 (.slice va L vc)).c2
      have f2' := r1.fz 2
      have c2' := r1.c2
      clear r1 k1 FIN
      go_wp2
      go_ret
      exact ⟨rfl, F1.out⟩
end Go.Proofs.YtpcllegjnbeppaaGreat.xd
