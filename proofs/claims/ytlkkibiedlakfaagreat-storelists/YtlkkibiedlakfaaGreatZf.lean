import Derived.Test.YtlkkibiedlakfaaGreatZe
namespace Go.Proofs.YtlkkibiedlakfaaGreat.zf
open Go.RowKit Go.PlainAid Go.Maps Go.Shelf
open Go.Proofs.YtlkkibiedlakfaaGreat.sh Go.Proofs.YtlkkibiedlakfaaGreat.ca Go.Proofs.YtlkkibiedlakfaaGreat.cb Go.Proofs.YtlkkibiedlakfaaGreat.cp Go.Proofs.YtlkkibiedlakfaaGreat.ka Go.Proofs.YtlkkibiedlakfaaGreat.kp Go.Proofs.YtlkkibiedlakfaaGreat.na Go.Proofs.YtlkkibiedlakfaaGreat.ya Go.Proofs.YtlkkibiedlakfaaGreat.yb Go.Proofs.YtlkkibiedlakfaaGreat.yc Go.Proofs.YtlkkibiedlakfaaGreat.ye Go.Proofs.YtlkkibiedlakfaaGreat.yf Go.Proofs.YtlkkibiedlakfaaGreat.yg Go.Proofs.YtlkkibiedlakfaaGreat.yi Go.Proofs.YtlkkibiedlakfaaGreat.yo Go.Proofs.YtlkkibiedlakfaaGreat.yp Go.Proofs.YtlkkibiedlakfaaGreat.za Go.Proofs.YtlkkibiedlakfaaGreat.ze
set_option linter.unusedVariables false
set_option linter.unusedSimpArgs false
def tx (l : List UInt8) : ByteArray := ⟨l.toArray⟩
theorem bs_tx (l : List UInt8) : bs (tx l) = l := by simp [bs, tx]
theorem tx_bs (a : ByteArray) : tx (bs a) = a := bs_inj (bs_tx _)
theorem tx_size (l : List UInt8) : (tx l).size = l.length := by rw [← bs_len, bs_tx]
theorem beR_one (t : ByteArray) : beR t 0 1 = bt t 0 := by show 0 * 256 + bt t (0 + 0) = _; simp
theorem beR_four (t : ByteArray) : beR t 0 4 = ((bt t 0 * 256 + bt t 1) * 256 + bt t 2) * 256 + bt t 3 := by
  show (((0 * 256 + bt t (0 + 0)) * 256 + bt t (0 + 1)) * 256 + bt t (0 + 2)) * 256 + bt t (0 + 3) = _
  simp
theorem rp_of (T x : ByteArray) (nb : Nat) (Y : List UInt8) (pre : List UInt8) (hp : pre.length = nb) (h : bs T = pre ++ (bs x ++ Y)) (hv : beR T 0 nb = (x.size : Int)) : rp T nb = (x, tx Y, true) := by
  have hz : T.size = nb + (x.size + Y.length) := by rw [← bs_len, h]; simp [hp, bs_len]
  have hu : T.extract nb T.size = tx (bs x ++ Y) := by
    apply bs_inj
    rw [bs_ext, h, bs_tx, hz, List.drop_append_of_le_length (by omega), ← hp, List.drop_length]
    rw [List.take_of_length_le]
    · simp
    · simp [bs_len]
  unfold rp
  rw [if_neg (by omega), hu, hv, tx_size]
  have hl : (bs x ++ Y).length = x.size + Y.length := by simp [bs_len]
  rw [if_neg (by rw [hl]; omega), hl]
  have h1 : (tx (bs x ++ Y)).extract 0 ((x.size : Int)).toNat = x := by
    apply bs_inj
    rw [bs_ext, bs_tx]
    have : ((x.size : Int)).toNat - 0 = (bs x).length := by rw [bs_len]; omega
    rw [this, List.drop_zero, List.take_left]
  have h2 : (tx (bs x ++ Y)).extract ((x.size : Int)).toNat (x.size + Y.length) = tx Y := by
    apply bs_inj
    rw [bs_ext, bs_tx, bs_tx]
    have : ((x.size : Int)).toNat = (bs x).length := by rw [bs_len]; omega
    rw [this, List.drop_left, bs_len, List.take_of_length_le (by omega)]
  rw [h1, h2]
theorem rp1 (T x : ByteArray) (Y : List UInt8) (hx : x.size < 256) (h : bs T = beN 1 x.size 1 ++ (bs x ++ Y)) : rp T 1 = (x, tx Y, true) := by
  refine rp_of T x 1 Y _ (beN_len _ _ _) h ?_
  have e : beN 1 x.size 1 = [UInt8.ofNat x.size] := by simp [beN]
  have h0 := bt_bs T 0 (UInt8.ofNat x.size) (by rw [h, e]; rfl)
  rw [beR_one, h0]
  simp
  omega
theorem rp4 (T x : ByteArray) (Y : List UInt8) (hx : x.size < 4294967296) (h : bs T = beN 4 x.size 4 ++ (bs x ++ Y)) : rp T 4 = (x, tx Y, true) := by
  refine rp_of T x 4 Y _ (beN_len _ _ _) h ?_
  have e : beN 4 x.size 4 = [UInt8.ofNat (x.size / 16777216), UInt8.ofNat (x.size / 65536), UInt8.ofNat (x.size / 256), UInt8.ofNat x.size] := by simp [beN]
  have h0 := bt_bs T 0 (UInt8.ofNat (x.size / 16777216)) (by rw [h, e]; rfl)
  have h1 := bt_bs T 1 (UInt8.ofNat (x.size / 65536)) (by rw [h, e]; rfl)
  have h2 := bt_bs T 2 (UInt8.ofNat (x.size / 256)) (by rw [h, e]; rfl)
  have h3 := bt_bs T 3 (UInt8.ofNat x.size) (by rw [h, e]; rfl)
  rw [beR_four, h0, h1, h2, h3]
  simp
  omega
set_option maxRecDepth 20000 in
set_option maxHeartbeats 3200000 in
theorem readRecordC (t k r1 d r2 : ByteArray) (w : World) (hs : t.size ≤ 140737488355328) (h1 : rp t 1 = (k, r1, true)) (hk : 1 ≤ k.size ∧ k.size ≤ 64) (h2 : rp r1 4 = (d, r2, true)) (hd : d.size ≤ 1048576) (hs1 : r1.size ≤ 140737488355328) :
    Calls Tryz.prog 109 #[.string t] w fun e w' => e = .returned (.tuple #[.string k, .string d, .string r2, .bool true]) ∧ Below w.heap.size w w' := by
  have C1 : Hid (∀ w, Calls _ _ _ _ _) := fun w => readPieceC t 1 w (by omega) (by omega) hs
  have C2 : Hid (∀ w, Calls _ _ _ _ _) := fun w => readPieceC r1 4 w (by omega) (by omega) hs1
  have CK : Hid (∀ w, Calls _ _ _ _ _) := fun w => keyGoesC k w
  have CD : Hid (∀ w, Calls _ _ _ _ _) := fun w => dataGoC d w
  rw [h1] at C1
  rw [h2] at C2
  rw [decide_eq_true hk] at CK
  rw [decide_eq_true hd] at CD
  clear h1 h2 hk hd hs hs1
  go_enter Tryz.func109, Tryz.ntmps109
  go_wp2_with fail
  refine (C1.out _).mono ?_
  rintro _ w1 ⟨rfl, b1⟩
  have B1 : Hid (Below w.heap.size w w1) := b1
  clear b1
  go_wp2_with fail
  refine (CK.out _).mono ?_
  rintro _ _ ⟨rfl, hw⟩; rw [hw]; clear hw
  go_wp2_with fail
  refine (C2.out _).mono ?_
  rintro _ w2 ⟨rfl, b2⟩
  have B2 : Hid (Below w.heap.size w w2) := over B1.out b2
  clear b2
  go_wp2_with fail
  refine (CD.out _).mono ?_
  rintro _ _ ⟨rfl, hw⟩; rw [hw]; clear hw
  go_wp2
  refine bodyPost_ret (by simp [results, Tryz.results109, go_sem]; try rfl) rfl ?_
  exact ⟨rfl, B2.out⟩
-- the records of an image, one behind the other
theorem ins_last (x : Rec) (l : List Rec) (h : ∀ y ∈ l, lt y.1 x.1 = true) : ins x l = l ++ [x] := by
  induction l with
  | nil => rfl
  | cons y l ih =>
    have h1 := h y (by simp)
    have h2 : lt x.1 y.1 = false := lt_asym h1
    unfold ins
    rw [h2, ih (fun z hz => h z (by simp [hz]))]
    rfl
theorem srt_before {r : List Rec} (h : Srt r) {j : Nat} {p : Rec} (hp : r[j]? = some p) : ∀ y ∈ r.take j, lt y.1 p.1 = true := by
  intro y hy
  obtain ⟨i, hi, e⟩ := List.mem_iff_getElem.1 hy
  obtain ⟨hj, e2⟩ := List.getElem?_eq_some_iff.1 hp
  simp only [List.length_take] at hi
  rw [List.getElem_take] at e
  have := List.pairwise_iff_getElem.1 h i j (by omega) hj (by omega)
  rw [e, e2] at this
  exact this
theorem put_take {r : List Rec} (h : Srt r) {j : Nat} {p : Rec} (hp : r[j]? = some p) : put p.1 p.2 (r.take j) = r.take (j + 1) := by
  have hb := srt_before h hp
  have hd : del p.1 (r.take j) = r.take j := del_none (get_none.2 (fun y hy => lt_ne (hb y hy)))
  unfold put
  rw [hd, ins_last _ _ hb, List.take_add_one, hp]
  rfl
def recsB (r : List Rec) : List UInt8 := r.flatMap recB
theorem recs_at {r : List Rec} {j : Nat} {p : Rec} (hp : r[j]? = some p) : recsB (r.drop j) = beN 1 p.1.size 1 ++ (bs p.1 ++ (beN 4 p.2.size 4 ++ (bs p.2 ++ recsB (r.drop (j + 1))))) := by
  obtain ⟨hj, e⟩ := List.getElem?_eq_some_iff.1 hp
  rw [List.drop_eq_getElem_cons hj, e]
  simp [recsB, recB, List.append_assoc]
theorem recs_len (r : List Rec) (j : Nat) : (recsB (r.drop j)).length ≤ isz r := by
  induction r generalizing j with
  | nil => simp [recsB]
  | cons p r ih =>
    cases j with
    | zero =>
      have := ih 0
      simp only [List.drop_zero, recsB, List.flatMap_cons, List.length_append, recB_len, isz] at this ⊢
      omega
    | succ j => have := ih j; simp only [List.drop_succ_cons, isz]; omega
theorem len_isz (r : List Rec) : r.length < isz r := by
  induction r with
  | nil => simp [isz]
  | cons p r ih => simp only [List.length_cons, isz]; omega
def lastK (r : List Rec) : Nat → ByteArray
  | 0 => ⟨#[]⟩
  | j + 1 => ((r[j]?).map (·.1)).getD ⟨#[]⟩
def lenV : Value → Nat
  | .string s => s.size
  | _ => 0
theorem above_last {r : List Rec} (h : Srt r) (hok : OkR r) {j : Nat} {p : Rec} (hp : r[j]? = some p) : Op.bytesLess p.1.toList (lastK r j).toList = false ∧ (p.1.toList == (lastK r j).toList) = false := by
  cases j with
  | zero =>
    have hz := hok p (List.mem_of_getElem? hp)
    have he : (lastK r 0).toList = [] := by show (⟨#[]⟩ : ByteArray).toList = []; rw [ByteArray.toList_eq]
    have hn : p.1.toList ≠ [] := by
      intro e
      have : (bs p.1).length = 0 := by unfold bs; rw [← ByteArray.toList_eq, e]; rfl
      rw [bs_len] at this
      omega
    rw [he]
    refine ⟨?_, ?_⟩
    · cases p.1.toList <;> rfl
    · rw [beq_eq_false_iff_ne]; exact hn
  | succ j =>
    obtain ⟨hj, e⟩ := List.getElem?_eq_some_iff.1 hp
    have hq : r[j]? = some r[j] := List.getElem?_eq_getElem (by omega)
    have hl : lastK r (j + 1) = r[j].1 := by show ((r[j]?).map (·.1)).getD ⟨#[]⟩ = _; rw [hq]; rfl
    have := List.pairwise_iff_getElem.1 h j (j + 1) (by omega) hj (by omega)
    rw [e] at this
    rw [hl]
    obtain ⟨_, h2, h3⟩ := less_of this
    exact ⟨h3, h2⟩
set_option maxRecDepth 20000 in
set_option maxHeartbeats 6400000 in
theorem readImageC (r : List Rec) (w : World) (hs : Srt r) (hok : OkR r) (hz : isz r ≤ 140737488355000) :
    Calls Tryz.prog 75 #[.string (imageT r)] w fun e w' => e = .returned (.tuple #[.map (some w.heap.size), .bool true]) ∧ Mp w.heap.size r w' ∧ Below w.heap.size w w' := by
  have hlr := len_isz r
  have CP : Hid (∀ w, Calls Tryz.prog 108 #[.string (imageT r), .string ⟨#[83]⟩] w fun e w' => e = .returned (.tuple #[.string (tx (recsB r)), .bool true]) ∧ w' = w) := fun w => by
    have h := Any.strings_CutPrefix lays103 (imageT r) ⟨#[83]⟩ w
    have e1 : Lib.hasPrefix (imageT r).data.toList (⟨#[83]⟩ : ByteArray).data.toList = true := by simp [imageT, imgB, Lib.hasPrefix]
    have e2 : Lib.trimPrefix (imageT r).data.toList (⟨#[83]⟩ : ByteArray).data.toList = recsB r := by
      unfold Lib.trimPrefix
      simp [imageT, imgB, Lib.hasPrefix, recsB]
    rw [e1, e2] at h
    exact h
  have hmm := @run_makeMap Tryz.prog
  have hM : Hid (Mp w.heap.size (r.take 0) (w.alloc (.map #[] 0))) := World.ownsMap_made _ _ _ _
  have HB0 : Hid (Below w.heap.size w (w.alloc (.map #[] 0))) := (Below.refl _ w).alloc (Nat.le_refl _) _
  have HSR : Hid _ := hs
  have HOK : Hid _ := hok
  clear hs hok
  generalize imageT r = im at *
  go_enter Tryz.func75, Tryz.ntmps75
  go_wp2_with fail
  refine (CP.out _).mono ?_
  rintro _ _ ⟨rfl, hw⟩; rw [hw]; clear hw CP
  go_wp2_with fail
  go_loopw [4, 7] (fun rv lv wr => ∃ (j : Nat) (R : ByteArray), j ≤ r.length ∧ rv = .string R ∧ Hid (R = tx (recsB (r.drop j))) ∧ lv = .string (lastK r j) ∧ Hid (Mp w.heap.size (r.take j) wr ∧ Below w.heap.size w wr)) (fun rv _ _ => lenV rv)
  case atStart => exact ⟨0, _, Nat.zero_le _, rfl, rfl, rfl, hM.out, HB0.out⟩
  case round =>
    clear hM HB0
    obtain ⟨j, R, hj, rfl, HR, rfl, HH⟩ := hrel
    by_cases hlt : j < r.length
    · obtain ⟨p, hp⟩ : ∃ p, r[j]? = some p := ⟨_, List.getElem?_eq_getElem hlt⟩
      have hpz := HOK.out p (List.mem_of_getElem? hp)
      obtain ⟨t1, t2⟩ := above_last HSR.out HOK.out hp
      have hrl := recs_len r j
      have hzR : R.size ≤ 140737488355000 := by rw [HR.out, tx_size]; omega
      have hrc := recs_at hp
      have q1 := rp1 R p.1 _ (by omega) (by rw [HR.out, bs_tx]; exact hrc)
      have q2 := rp4 _ p.2 (recsB (r.drop (j + 1))) (by omega) (bs_tx _)
      have hR1 : (tx (beN 4 p.2.size 4 ++ (bs p.2 ++ recsB (r.drop (j + 1))))).size + 2 ≤ R.size := by
        rw [HR.out, tx_size, tx_size, hrc]; simp [beN_len, bs_len]; omega
      have hR2 : (tx (recsB (r.drop (j + 1)))).size < R.size := by
        rw [HR.out, tx_size, tx_size, hrc]; simp [beN_len, bs_len]; omega
      have CR : Hid (∀ w, Calls _ _ _ _ _) := fun w => readRecordC R p.1 _ p.2 _ w (by omega) q1 ⟨hpz.1, hpz.2.1⟩ q2 hpz.2.2 (by omega)
      have hne : (R.toList == []) = false := by
        rw [beq_eq_false_iff_ne]
        intro e
        have : (bs R).length = 0 := by unfold bs; rw [← ByteArray.toList_eq, e]; rfl
        rw [bs_len] at this
        omega
      have hne2 : R.toList.isEmpty = false := by
        cases h : R.toList with
        | nil => rw [h] at hne; cases hne
        | cons _ _ => rfl
      have C1 : Hid (∀ w, Calls _ _ _ _ _) := fun w => cloneC p.1 w (by omega)
      have C2 : Hid (∀ w, Calls _ _ _ _ _) := fun w => cloneC p.2 w (by omega)
      have CU : Hid (∀ w1, Mp w.heap.size (r.take j) w1 → Calls Tryz.prog 93 #[.map (some w.heap.size), .string p.1, .string p.2] w1 fun e w' => e = .returned (.tuple #[]) ∧ Mp w.heap.size (r.take (j + 1)) w' ∧ Kp (fun k => k = w.heap.size) w1 w') := fun w1 h => by
        have := putM w.heap.size (r.take j) p.1 p.2 w1 h (by unfold maxLen; omega) (by unfold maxLen; omega) (by rw [List.length_take]; unfold maxLen; omega)
        rw [put_take HSR.out hp] at this
        exact this
      have hla : lastK r (j + 1) = p.1 := by show ((r[j]?).map (·.1)).getD ⟨#[]⟩ = _; rw [hp]; rfl
      have HLA : Hid _ := hla
      obtain ⟨R2, HR2⟩ : ∃ R2, Hid (tx (recsB (r.drop (j + 1))) = R2) := ⟨_, rfl⟩
      rw [HR2.out] at CR hR2
      obtain ⟨la, HL⟩ : ∃ la, Hid (lastK r j = la) := ⟨_, rfl⟩
      rw [HL.out] at t1 t2 ⊢
      obtain ⟨pk, pd⟩ := p
      simp only at CR C1 C2 CU t1 t2 HLA
      clear hp hpz hrl hzR hrc q1 q2 hR1 hla
      go_wp2_with fail
      refine (CR.out _).mono ?_
      rintro _ w2 ⟨rfl, b2⟩
      have H2 : Hid (Mp w.heap.size (r.take j) w2 ∧ Below w.heap.size w w2) := ⟨HH.out.1.keep (Kp.of_below (A := fun _ => False) b2) (fun e => e), over HH.out.2 b2⟩
      clear b2
      go_wp2_with fail
      refine (C1.out _).mono ?_
      rintro _ w3 ⟨rfl, b3⟩
      have H3 : Hid (Mp w.heap.size (r.take j) w3 ∧ Below w.heap.size w w3) := ⟨H2.out.1.keep (Kp.of_below (A := fun _ => False) b3) (fun e => e), over H2.out.2 b3⟩
      clear b3
      go_wp2_with fail
      refine (C2.out _).mono ?_
      rintro _ w4 ⟨rfl, b4⟩
      have H4 : Hid (Mp w.heap.size (r.take j) w4 ∧ Below w.heap.size w w4) := ⟨H3.out.1.keep (Kp.of_below (A := fun _ => False) b4) (fun e => e), over H3.out.2 b4⟩
      clear b4
      go_wp2_with fail
      refine (CU.out _ H4.out.1).mono ?_
      rintro _ w5 ⟨rfl, m5, k5⟩
      have H5 : Hid (Mp w.heap.size (r.take (j + 1)) w5 ∧ Below w.heap.size w w5) := ⟨m5, ⟨k5.os.trans H4.out.2.os, k5.tape.trans H4.out.2.tape, k5.output.trans H4.out.2.output, Nat.le_trans H4.out.2.size k5.size, fun i hi => (k5.block i (Nat.lt_of_lt_of_le hi H4.out.2.size) (by omega)).trans (H4.out.2.block i hi)⟩⟩
      clear m5 k5
      go_wp2
      go_roundw
      case rel => exact ⟨j + 1, R2, by omega, rfl, HR2.out.symm, by rw [HLA.out], H5.out⟩
      case measure => simp [lenV]; omega
    · obtain rfl : j = r.length := by omega
      have hR0 : R = ⟨#[]⟩ := by
        rw [HR.out, List.drop_length]; rfl
      have hne : (R.toList == []) = true := by rw [hR0, ByteArray.toList_eq]; rfl
      have hne2 : R.toList.isEmpty = true := by rw [hR0, ByteArray.toList_eq]; rfl
      have HF : Hid (Mp w.heap.size r wr ∧ Below w.heap.size w wr) := by have := HH.out; rw [List.take_length] at this; exact this
      clear hR0 HR
      go_wp2
      go_ret2
      exact ⟨rfl, HF.out⟩
-- Open on an image
theorem openC (r : List Rec) (c : Int) (w : World) (hc : 0 ≤ c ∧ c ≤ 1073741824) (hs : Srt r) (hok : OkR r) (hz : isz r ≤ 140737488355000) (hl : r.length < 3518437208883) :
    Calls Tryz.prog 28 #[.string (imageT r), .int .i64 c] w fun e w' => ∃ g bn bd, e = .returned (.tuple #[.pointer (some ⟨g, 0, none⟩), .int .i64 0]) ∧ Sr w.heap.size g bn bd (.slice none 0 0) ⟨c, r, [], 0, false, 0⟩ w' ∧ Below w.heap.size w w' := by
  have CC : Hid (∀ w, Calls _ _ _ _ _) := fun w => capC c w
  rw [decide_eq_true hc] at CC
  have CI : Hid (Calls _ _ _ _ _) := readImageC r w hs hok hz
  have CS : Hid (∀ w1, Mp w.heap.size r w1 → Calls _ _ _ _ _) := fun w1 h => storeOfC w.heap.size w.heap.size r c w1 h hok hl hc.1 hc.2 (Nat.le_refl _)
  clear hc hs hok hz
  generalize imageT r = im at *
  go_enter Tryz.func28, Tryz.ntmps28
  go_wp2_with fail
  refine (CC.out _).mono ?_
  rintro _ _ ⟨rfl, hw⟩; rw [hw]; clear hw
  go_wp2_with fail
  refine CI.out.mono ?_
  rintro _ w1 ⟨rfl, m1, b1⟩
  have M1 : Hid (Mp w.heap.size r w1 ∧ Below w.heap.size w w1) := ⟨m1, b1⟩
  clear m1 b1
  go_wp2_with fail
  refine (CS.out _ M1.out.1).mono ?_
  rintro _ w2 ⟨g, bn, rfl, h2, b2, _, _⟩
  have H2 : Hid (Sr _ _ _ _ _ _ _) := h2
  have B2 : Hid (Below w.heap.size w w2) := over M1.out.2 b2
  clear h2 b2
  go_wp2
  go_ret2
  exact ⟨g, bn, w.heap.size, rfl, H2.out, B2.out⟩
end Go.Proofs.YtlkkibiedlakfaaGreat.zf
