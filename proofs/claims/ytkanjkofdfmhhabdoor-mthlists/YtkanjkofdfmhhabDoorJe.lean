import Derived.Test.YtkanjkofdfmhhabDoorJd
import Derived.Test.YtkanjkofdfmhhabDoorGd
import Derived.Test.YtkanjkofdfmhhabDoorGe
import Derived.Test.YtkanjkofdfmhhabDoorGr
import Derived.Test.YtkanjkofdfmhhabDoorGp
import Derived.Test.YtkanjkofdfmhhabDoorGq
namespace Go.Proofs.YtkanjkofdfmhhabDoor.je
open Go.RowKit Go.PlainAid
open Go.Proofs.YtkanjkofdfmhhabDoor.pl Go.Proofs.YtkanjkofdfmhhabDoor.pi Go.Proofs.YtkanjkofdfmhhabDoor.pj Go.Proofs.YtkanjkofdfmhhabDoor.rf Go.Proofs.YtkanjkofdfmhhabDoor.ca Go.Proofs.YtkanjkofdfmhhabDoor.cb Go.Proofs.YtkanjkofdfmhhabDoor.cp Go.Proofs.YtkanjkofdfmhhabDoor.ka Go.Proofs.YtkanjkofdfmhhabDoor.kb Go.Proofs.YtkanjkofdfmhhabDoor.ga Go.Proofs.YtkanjkofdfmhhabDoor.gb Go.Proofs.YtkanjkofdfmhhabDoor.gs Go.Proofs.YtkanjkofdfmhhabDoor.gc Go.Proofs.YtkanjkofdfmhhabDoor.gd Go.Proofs.YtkanjkofdfmhhabDoor.ge Go.Proofs.YtkanjkofdfmhhabDoor.gr Go.Proofs.YtkanjkofdfmhhabDoor.gp Go.Proofs.YtkanjkofdfmhhabDoor.gq Go.Proofs.YtkanjkofdfmhhabDoor.jb Go.Proofs.YtkanjkofdfmhhabDoor.jc
set_option linter.unusedVariables false

-- what the call has made since
structure Sd (T : World → Prop) (w : World) (L : List (Value × List ByteArray)) (w' : World) : Prop where
  l : ∀ {w w' : World}, T w → Below w.heap.size w w' → T w'
  t : T w
  b : Below w.heap.size w w'
  r : Rws w' w.heap.size L
theorem Sd.tt {T : World → Prop} {w w' : World} {L : List (Value × List ByteArray)} (h : Sd T w L w') : T w' := h.l h.t h.b
theorem Sd.on {T : World → Prop} {w w' w'' : World} {L : List (Value × List ByteArray)} (h : Sd T w L w') (hb : Below w'.heap.size w' w'') : Sd T w L w'' := ⟨h.l, h.t, over h.b hb, h.r.later hb⟩
theorem Sd.add {T : World → Prop} {w w' w'' : World} {L : List (Value × List ByteArray)} {v : Value} {ts : List ByteArray} (h : Sd T w L w') (hb : Below w'.heap.size w' w'') (ho : w''.ownsRow w'.heap.size 9 1 v ts.length (ts.map Value.string)) : Sd T w (L ++ [(v, ts)]) w'' := ⟨h.l, h.t, over h.b hb, h.r.add hb ho h.b.size⟩
-- a text of a row of one's own is written over
theorem Sd.put {T : World → Prop} {w w' : World} {L : List (Value × List ByteArray)} {i g n cp : Nat} {ts : List ByteArray} (h : Sd T w L w') (hi : L[i]? = some (.slice (some ⟨g, 0, none⟩) n cp, ts)) (hn : ts.length = n) (j : Nat) (y : ByteArray) : Sd T w (L.set i (.slice (some ⟨g, 0, none⟩) n cp, ts.set j y)) (w'.setCell ⟨g, j, none⟩ (.string y)) := by
  have ho := h.r.at hi
  have hlt := World.ownsRow.lt ho g rfl
  subst hn
  have hst := World.ownsRow.stored ho j (.string y)
  refine ⟨h.l, h.t, h.b.setCell (p := ⟨g, j, none⟩) hlt.1 _, h.r.turn hi hst.2 ?_⟩
  have h1 := hst.1
  rw [← List.map_set] at h1
  unfold Own
  rw [List.length_set]
  exact h1
theorem Sd.text {T : World → Prop} {w w' : World} {L : List (Value × List ByteArray)} {i g n cp : Nat} {ts : List ByteArray} (h : Sd T w L w') (hi : L[i]? = some (.slice (some ⟨g, 0, none⟩) n cp, ts)) (hn : ts.length = n) (j : Nat) (hj : j < n) : w'.cell? ⟨g, j, none⟩ = some (.string (ts.getD j ByteArray.empty)) ∧ w'.frozen? ⟨g, j, none⟩ = false := by
  have ho := h.r.at hi
  subst hn
  refine ⟨?_, World.ownsRow.frozenAt ho j⟩
  rw [World.ownsRow.cellAt ho j (by omega), List.getElem?_map, List.getElem?_eq_getElem hj, getD_at ts j hj]
  rfl
def NN : ByteArray := ⟨#[110]⟩
def upto (xs : List ByteArray) (k : Nat) : List ByteArray := (xs.take k).map (· ++ NN) ++ xs.drop k
theorem upto_zero (xs : List ByteArray) : upto xs 0 = xs := by simp [upto]
theorem upto_len (xs : List ByteArray) (k : Nat) (h : k ≤ xs.length) : (upto xs k).length = xs.length := by unfold upto; rw [List.length_append, List.length_map, List.length_take, List.length_drop]; omega
theorem upto_at (xs : List ByteArray) (k : Nat) (h : k < xs.length) : (upto xs k).getD k ByteArray.empty = xs.getD k ByteArray.empty := by
  unfold upto
  rw [List.getD_eq_getElem?_getD, List.getElem?_append_right (by rw [List.length_map, List.length_take]; omega), List.length_map, List.length_take, Nat.min_eq_left (by omega), Nat.sub_self, List.getElem?_drop, Nat.add_zero, List.getD_eq_getElem?_getD]
theorem upto_succ (xs : List ByteArray) (k : Nat) (h : k < xs.length) : upto xs (k + 1) = (upto xs k).set k (xs.getD k ByteArray.empty ++ NN) := by
  unfold upto
  rw [List.set_append_right _ _ (by rw [List.length_map, List.length_take]; omega), List.length_map, List.length_take, Nat.min_eq_left (by omega), Nat.sub_self, List.drop_eq_getElem_cons h, List.set_cons_zero, getD_at xs k h, List.take_add_one, List.getElem?_eq_getElem h, List.map_append, List.append_assoc]
  rfl
theorem upto_fits {xs : List ByteArray} (h : ∀ x ∈ xs, x.size ≤ 140737488351232) (hm : xs.length * 16 ≤ 140737488351232) : Fits (upto xs xs.length) := by
  refine ⟨fun x hx => ?_, by rw [upto_len xs _ (Nat.le_refl _)]; exact hm⟩
  unfold upto at hx
  rw [List.take_length, List.drop_length, List.append_nil] at hx
  obtain ⟨y, hy, rfl⟩ := List.mem_map.1 hx
  have := h y hy
  rw [ByteArray.size_append]
  have e : NN.size = 1 := rfl
  omega
set_option maxHeartbeats 3200000 in
set_option maxRecDepth 100000 in
theorem renewed {T : World → Prop} (later : ∀ {w w' : World}, T w → Below w.heap.size w w' → T w') (tab : ∀ {w : World}, T w → Tab4 w) (RC : RootC T) (PC : PathC T) (QC : ProofC T) (wd i m : Int) (hwd : i64 wd) (hi : i64 i) (hm : i64 m) (v : Value) (xs : List ByteArray) (w : World) (hT : T w) (hR : ReadsT w v xs) (hno : ∀ k c, v = .slice none k c → c = 0) (hx : ∀ x ∈ xs, x.size ≤ 140737488351232) (hl : xs.length * 16 ≤ 140737488351232) :
    Calls Tryd.prog 17 #[.int .i64 wd, .int .i64 i, .int .i64 m, v] w fun e w' => e = .returned (.bool true) ∧ Below w.heap.size w w' := by
  have hf : Fits xs := ⟨fun x h => by have := hx x h; omega, hl⟩
  obtain ⟨i9, hi', hz0, hz1, hz2⟩ := info_parts hi9
  have HIN : Hid (_ ∧ _ ∧ _ ∧ _) := ⟨hi', hz0, hz1, hz2⟩
  have HRD : Hid (ReadsT w v xs) := hR
  obtain ⟨ys, HYS⟩ : ∃ ys, Hid (upto xs xs.length = ys) := ⟨_, rfl⟩
  have hfy : Fits ys := by rw [← HYS.out]; exact upto_fits hx hl
  have HXZ : Hid (∀ x ∈ xs, x.size ≤ 140737488351232) := hx
  have HLT : Hid (∀ {w w' : World}, T w → Below w.heap.size w w' → T w') := later
  have HT : Hid (T w) := hT
  have KP (zs : List ByteArray) (hz : Fits zs) : ∀ u w', T w' → ReadsT w' u zs → Calls Tryd.prog 14 #[.int .i64 wd, .int .i64 i, u] w' fun e w'' => Listed w' w'' e (PT wd i zs) (PE i zs) ∧ Below w'.heap.size w' w'' := fun u w' h1 h2 => PC wd i u zs w' hwd hi h1 h2 hz
  have KQ (zs : List ByteArray) (hz : Fits zs) : ∀ u w', T w' → ReadsT w' u zs → Calls Tryd.prog 7 #[.int .i64 wd, .int .i64 m, u] w' fun e w'' => Listed w' w'' e (QT wd m zs) (QE m zs) ∧ Below w'.heap.size w' w'' := fun u w' h1 h2 => QC wd m u zs w' hwd hm h1 h2 hz
  have JP (zs : List ByteArray) (hz : Fits zs) : ∀ u w', T w' → ReadsT w' u zs → Calls Tryd.prog 13 #[.int .i64 wd, .int .i64 i, u] w' fun e w'' => Listed w' w'' e (PT wd i zs) (PE i zs) ∧ Below w'.heap.size w' w'' := fun u w' h1 h2 => rPath wd i u zs w' (tab h1) h2 hz
  have JQ (zs : List ByteArray) (hz : Fits zs) : ∀ u w', T w' → ReadsT w' u zs → Calls Tryd.prog 8 #[.int .i64 wd, .int .i64 m, u] w' fun e w'' => Listed w' w'' e (QT wd m zs) (QE m zs) ∧ Below w'.heap.size w' w'' := fun u w' h1 h2 => rProof wd m u zs w' (tab h1) h2 hz
  have KR (zs : List ByteArray) (hz : Fits zs) : ∀ u w', T w' → ReadsT w' u zs → Calls Tryd.prog 22 #[.int .i64 wd, u] w' fun e w'' => e = .returned (.string (RT wd zs)) ∧ Below w'.heap.size w' w'' := fun u w' h1 h2 => RC wd u zs w' hwd h1 h2 hz
  have JR (zs : List ByteArray) (hz : Fits zs) : ∀ u w', T w' → ReadsT w' u zs → Calls Tryd.prog 25 #[.int .i64 wd, u] w' fun e w'' => e = .returned (.string (RT wd zs)) ∧ Below w'.heap.size w' w'' := fun u w' h1 h2 => rRoot wd zs.length zs u w' rfl (tab h1) h2 hz
  have KP1 : Hid (∀ u w', T w' → ReadsT w' u xs → Calls _ _ _ _ _) := KP xs hf
  have KQ1 : Hid (∀ u w', T w' → ReadsT w' u xs → Calls _ _ _ _ _) := KQ xs hf
  have JP1 : Hid (∀ u w', T w' → ReadsT w' u xs → Calls _ _ _ _ _) := JP xs hf
  have JQ1 : Hid (∀ u w', T w' → ReadsT w' u xs → Calls _ _ _ _ _) := JQ xs hf
  have KR1 : Hid (∀ u w', T w' → ReadsT w' u xs → Calls _ _ _ _ _) := KR xs hf
  have JR1 : Hid (∀ u w', T w' → ReadsT w' u xs → Calls _ _ _ _ _) := JR xs hf
  have KP2 : Hid (∀ u w', T w' → ReadsT w' u ys → Calls _ _ _ _ _) := KP ys hfy
  have KQ2 : Hid (∀ u w', T w' → ReadsT w' u ys → Calls _ _ _ _ _) := KQ ys hfy
  have JP2 : Hid (∀ u w', T w' → ReadsT w' u ys → Calls _ _ _ _ _) := JP ys hfy
  have JQ2 : Hid (∀ u w', T w' → ReadsT w' u ys → Calls _ _ _ _ _) := JQ ys hfy
  have KR2 : Hid (∀ u w', T w' → ReadsT w' u ys → Calls _ _ _ _ _) := KR ys hfy
  have JR2 : Hid (∀ u w', T w' → ReadsT w' u ys → Calls _ _ _ _ _) := JR ys hfy
  have hyl : ys.length = xs.length := by rw [← HYS.out]; exact upto_len xs _ (Nat.le_refl _)
  have l1 := PT_len wd i xs
  have l2 := QT_len wd m xs
  have l3 := PT_len wd i ys
  have l4 := QT_len wd m ys
  obtain ⟨P1, HP1⟩ : ∃ P, Hid (PT wd i xs = P) := ⟨_, rfl⟩
  obtain ⟨e1, HE1⟩ : ∃ P, Hid (PE i xs = P) := ⟨_, rfl⟩
  obtain ⟨Q1, HQ1⟩ : ∃ P, Hid (QT wd m xs = P) := ⟨_, rfl⟩
  obtain ⟨f1, HF1⟩ : ∃ P, Hid (QE m xs = P) := ⟨_, rfl⟩
  obtain ⟨R1, HR1⟩ : ∃ P, Hid (RT wd xs = P) := ⟨_, rfl⟩
  obtain ⟨P2, HP2⟩ : ∃ P, Hid (PT wd i ys = P) := ⟨_, rfl⟩
  obtain ⟨e2, HE2⟩ : ∃ P, Hid (PE i ys = P) := ⟨_, rfl⟩
  obtain ⟨Q2, HQ2⟩ : ∃ P, Hid (QT wd m ys = P) := ⟨_, rfl⟩
  obtain ⟨f2, HF2⟩ : ∃ P, Hid (QE m ys = P) := ⟨_, rfl⟩
  obtain ⟨R2, HR2⟩ : ∃ P, Hid (RT wd ys = P) := ⟨_, rfl⟩
  rw [HP1.out, HE1.out] at KP1 JP1
  rw [HQ1.out, HF1.out] at KQ1 JQ1
  rw [HR1.out] at KR1 JR1
  rw [HP2.out, HE2.out] at KP2 JP2
  rw [HQ2.out, HF2.out] at KQ2 JQ2
  rw [HR2.out] at KR2 JR2
  rw [HP1.out] at l1
  rw [HQ1.out] at l2
  rw [HP2.out] at l3
  rw [HQ2.out] at l4
  have SM (P : List ByteArray) (hz : P.length ≤ 140737488355328) : ∀ (u u' : Value) w', ReadsT w' u P → ReadsT w' u' P → Calls Tryd.prog 10 #[u, u'] w' fun e w'' => e = .returned (.bool true) ∧ Below w'.heap.size w' w'' := fun u u' w' h1 h2 => by
    refine (same_yes u u' P w' h1 h2 hz).mono ?_
    rintro e w'' ⟨rfl, c, hw⟩
    exact ⟨rfl, by rw [hw]; exact below_dN (Below.refl _ _) c⟩
  have SP1 : Hid (∀ (u u' : Value) w', ReadsT w' u P1 → ReadsT w' u' P1 → Calls _ _ _ _ _) := SM P1 (by omega)
  have SQ1 : Hid (∀ (u u' : Value) w', ReadsT w' u Q1 → ReadsT w' u' Q1 → Calls _ _ _ _ _) := SM Q1 (by omega)
  have SP2 : Hid (∀ (u u' : Value) w', ReadsT w' u P2 → ReadsT w' u' P2 → Calls _ _ _ _ _) := SM P2 (by omega)
  have SQ2 : Hid (∀ (u u' : Value) w', ReadsT w' u Q2 → ReadsT w' u' Q2 → Calls _ _ _ _ _) := SM Q2 (by omega)
  have qe1 : (e1 == e1) = true := beq_self_eq_true _
  have qe2 : (e2 == e2) = true := beq_self_eq_true _
  have qf1 : (f1 == f1) = true := beq_self_eq_true _
  have qf2 : (f2 == f2) = true := beq_self_eq_true _
  have qr1 : (R1.toList == R1.toList) = true := beq_self_eq_true _
  have qr2 : (R2.toList == R2.toList) = true := beq_self_eq_true _
  obtain ⟨a, cap, rfl, hcap, hh⟩ := hR
  have HC0 : Hid (a = none → cap = 0) := fun h => hno xs.length cap (by rw [h])
  obtain ⟨n, HN⟩ : ∃ n, Hid (xs.length = n) := ⟨_, rfl⟩
  rw [HN.out] at hcap HRD hl ⊢
  clear KP KQ JP JQ KR JR SM hf hfy hx later tab RC PC QC hwd hi hm hT hno hh hi' hz0 hz1 hz2 hyl l1 l2 l3 l4
  go_enter Tryd.func17, Tryd.ntmps17
  go_upto_region 2 with fail
  go_cut [9] (fun f wx => ∃ f', f = f' ∧ Hid (wx.ownsRow w.heap.size 9 1 f' n (xs.map Value.string)) ∧ Hid (Below w.heap.size w wx))
  case first =>
    cases a with
    | none =>
      obtain rfl : cap = 0 := HC0.out rfl
      have hn0 : n = 0 := by omega
      have hx0 : xs = [] := List.length_eq_zero_iff.1 (HN.out.trans hn0)
      subst hn0
      have O0 : Hid (w.ownsRow w.heap.size 9 1 (.slice none 0 0) 0 []) := World.ownsRow_nil _ _ _ _
      go_wp2_with (at_builtin; refine wpList_append_own_none rfl _ _ 22 rfl w.heap.size 9 i9 1 Tryd.underlying22 HIN.out.1 _ 0 _ rfl O0.out rfl ?_)
      go_meet
      refine ⟨_, rfl, ?_, Below.refl _ _⟩
      rw [hx0]
      exact O0.out
    | some ad =>
      have HNW : Hid (∀ (j : Nat) (u : Value), (xs.map Value.string)[j]? = some u → w.cell? (ad.add j) = some u) := reads_news HRD.out
      have HNL : Hid ((xs.map Value.string).length = n * 1) := by show _ = _; rw [List.length_map, HN.out, Nat.mul_one]
      have HN1 : Hid (∀ u ∈ xs.map Value.string, u.oneCell' = true) := by
        intro u hu
        obtain ⟨x, _, rfl⟩ := List.mem_map.1 hu
        rfl
      have O0 : Hid (w.ownsRow w.heap.size 9 1 (.slice none 0 0) 0 []) := World.ownsRow_nil _ _ _ _
      go_wp2_with (at_builtin; refine wpList_append_own _ rfl _ _ 22 rfl w.heap.size 9 i9 (.string ByteArray.empty) 1 16 Tryd.underlying22 HIN.out.1 HIN.out.2.1 HIN.out.2.2.1 HIN.out.2.2.2 rfl (by decide) _ 0 _ rfl O0.out ad n cap (xs.map Value.string) rfl HNL.out HNW.out HN1.out (by unfold maxLen; omega) (by omega) (Nat.le_refl _) ?_; intro f' w3 ho hg hnn; have HO3 : Hid (World.ownsRow _ _ _ _ _ _ _) := ho; have HB3 : Hid (Below w.heap.size w w3) := Below.grown (Below.refl _ _) hg (Nat.le_refl _) (fun j hj => by cases hj); clear ho hg hnn)
      go_meet
      refine ⟨_, rfl, ?_, HB3.out⟩
      have := HO3.out
      rw [Nat.zero_add, List.nil_append] at this
      exact this
  case rest =>
    obtain ⟨f', rfl, O1, B1⟩ := hcut
    obtain ⟨w0, HW0⟩ : ∃ w0, w0 = wc := ⟨_, rfl⟩
    rw [← HW0] at O1 B1 ⊢
    clear HW0
    obtain ⟨fa, fc, rfl⟩ := own_formS O1.out
    have S0 : Hid (Sd T w ([(.slice fa n fc, xs)]) w0) := ⟨HLT.out, HT.out, B1.out, ⟨fun p hp => by
      obtain rfl : p = (.slice fa n fc, xs) := by simpa using hp
      have h := O1.out
      rw [← HN.out] at h ⊢
      exact h, List.pairwise_singleton _ _⟩⟩
    clear O1 B1
    go_wp2_with fail
    refine (JP1.out _ _ (S0.out.tt) (S0.out.r.reads (i := 0) rfl)).mono ?_
    rintro e w1 ⟨⟨u1, rfl, hu⟩, hb⟩
    have S1 : Hid (Sd T w ([(.slice fa n fc, xs)] ++ [(u1, P1)]) w1) := S0.out.add hb hu
    obtain ⟨a1, c1, rfl⟩ := own_formS hu
    clear hu hb
    go_wp2_with fail
    refine (KP1.out _ _ (S1.out.tt) (S1.out.r.reads (i := 0) rfl)).mono ?_
    rintro e w2 ⟨⟨u2, rfl, hu⟩, hb⟩
    have S2 : Hid (Sd T w ([(.slice fa n fc, xs), (.slice a1 P1.length c1, P1)] ++ [(u2, P1)]) w2) := S1.out.add hb hu
    obtain ⟨a2, c2, rfl⟩ := own_formS hu
    clear hu hb
    go_wp2_with fail
    refine (JQ1.out _ _ (S2.out.tt) (S2.out.r.reads (i := 0) rfl)).mono ?_
    rintro e w3 ⟨⟨u3, rfl, hu⟩, hb⟩
    have S3 : Hid (Sd T w ([(.slice fa n fc, xs), (.slice a1 P1.length c1, P1), (.slice a2 P1.length c2, P1)] ++ [(u3, Q1)]) w3) := S2.out.add hb hu
    obtain ⟨a3, c3, rfl⟩ := own_formS hu
    clear hu hb
    go_wp2_with fail
    refine (KQ1.out _ _ (S3.out.tt) (S3.out.r.reads (i := 0) rfl)).mono ?_
    rintro e w4 ⟨⟨u4, rfl, hu⟩, hb⟩
    have S4 : Hid (Sd T w ([(.slice fa n fc, xs), (.slice a1 P1.length c1, P1), (.slice a2 P1.length c2, P1), (.slice a3 Q1.length c3, Q1)] ++ [(u4, Q1)]) w4) := S3.out.add hb hu
    obtain ⟨a4, c4, rfl⟩ := own_formS hu
    clear hu hb
    go_wp2_with fail
    refine (KR1.out _ _ (S4.out.tt) (S4.out.r.reads (i := 0) rfl)).mono ?_
    rintro e w5 ⟨rfl, hb⟩
    have S5 : Hid (Sd T w ([(.slice fa n fc, xs), (.slice a1 P1.length c1, P1), (.slice a2 P1.length c2, P1), (.slice a3 Q1.length c3, Q1), (.slice a4 Q1.length c4, Q1)]) w5) := S4.out.on hb
    clear hb
    go_wp2_with fail
    refine (JR1.out _ _ (S5.out.tt) (S5.out.r.reads (i := 0) rfl)).mono ?_
    rintro e w6 ⟨rfl, hb⟩
    have S6 : Hid (Sd T w ([(.slice fa n fc, xs), (.slice a1 P1.length c1, P1), (.slice a2 P1.length c2, P1), (.slice a3 Q1.length c3, Q1), (.slice a4 Q1.length c4, Q1)]) w6) := S5.out.on hb
    clear hb
    have HS7 : Hid (Sd T w [(.slice fa n fc, upto xs 0), (.slice a1 P1.length c1, P1), (.slice a2 P1.length c2, P1), (.slice a3 Q1.length c3, Q1), (.slice a4 Q1.length c4, Q1)] w6) := by rw [upto_zero]; exact S6.out
    have s1 : (⟨#[110]⟩ : ByteArray).size = 1 := rfl
    clear S0 S1 S2 S3 S4 S5 S6 JP1 KP1 JQ1 KQ1 KR1 JR1
    go_wp2
    go_loopw [20] (fun kk wr => ∃ k : Nat, k ≤ n ∧ kk = .int .i64 k ∧ Hid (Sd T w [(.slice fa n fc, upto xs k), (.slice a1 P1.length c1, P1), (.slice a2 P1.length c2, P1), (.slice a3 Q1.length c3, Q1), (.slice a4 Q1.length c4, Q1)] wr)) (fun kk _ => (n - intOf kk).toNat)
    case atStart => exact ⟨0, by omega, rfl, HS7.out⟩
    case round =>
      clear HS7
      obtain ⟨k, hk, rfl, HL⟩ := hrel
      by_cases hlt : k < n
      · have hlt' : (k : Int) < n := by omega
        have hk0 : (0 : Int) ≤ k := by omega
        have hkx : k < xs.length := by rw [HN.out]; exact hlt
        have hul : (upto xs k).length = n := by rw [upto_len xs k (by omega), HN.out]
        obtain ⟨g, rfl⟩ : ∃ g, fa = some ⟨g, 0, none⟩ := by
          rcases (HL.out.r.at (i := 0) rfl).2 with ⟨_, e⟩ | ⟨g, cp, cur, e, _⟩
          · omega
          · injection e with e1 _ _
            exact ⟨g, e1⟩
        obtain ⟨c0, fz⟩ := HL.out.text (i := 0) rfl hul k hlt
        rw [upto_at xs k hkx] at c0
        obtain ⟨x, HX⟩ : ∃ x, Hid (xs.getD k ByteArray.empty = x) := ⟨_, rfl⟩
        rw [HX.out] at c0
        have hxs : x.size ≤ 140737488351232 := by rw [← HX.out, getD_at xs k hkx]; exact HXZ.out _ (List.getElem_mem hkx)
        have HP : Hid (Sd T w [(.slice (some ⟨g, 0, none⟩) n fc, upto xs (k + 1)), (.slice a1 P1.length c1, P1), (.slice a2 P1.length c2, P1), (.slice a3 Q1.length c3, Q1), (.slice a4 Q1.length c4, Q1)] (wr.setCell ⟨g, k, none⟩ (.string (x ++ (⟨#[110]⟩ : ByteArray))))) := by
          have h := HL.out.put (i := 0) rfl hul k (x ++ (⟨#[110]⟩ : ByteArray))
          have e : (upto xs k).set k (x ++ (⟨#[110]⟩ : ByteArray)) = upto xs (k + 1) := by rw [upto_succ xs k hkx, HX.out]; rfl
          rw [e] at h
          exact h
        clear hul hkx
        go_wp2
        go_roundw
        case rel => exact ⟨k + 1, by omega, by go_num, HP.out⟩
        case measure => simp [intOf]; omega
      · have hlt' : ¬ (k : Int) < n := by omega
        have S6 : Hid (Sd T w [(.slice fa n fc, ys), (.slice a1 P1.length c1, P1), (.slice a2 P1.length c2, P1), (.slice a3 Q1.length c3, Q1), (.slice a4 Q1.length c4, Q1)] wr) := by
          have h := HL.out
          rw [show k = n by omega, ← HN.out, HYS.out] at h
          rw [← HN.out]
          exact h
        clear HL
        go_wp2_with fail
        refine (JP2.out _ _ (S6.out.tt) (S6.out.r.reads (i := 0) rfl)).mono ?_
        rintro e w7 ⟨⟨u7, rfl, hu⟩, hb⟩
        have S7 : Hid (Sd T w ([(.slice fa n fc, ys), (.slice a1 P1.length c1, P1), (.slice a2 P1.length c2, P1), (.slice a3 Q1.length c3, Q1), (.slice a4 Q1.length c4, Q1)] ++ [(u7, P2)]) w7) := S6.out.add hb hu
        obtain ⟨a7, c7, rfl⟩ := own_formS hu
        clear hu hb
        go_wp2_with fail
        refine (KP2.out _ _ (S7.out.tt) (S7.out.r.reads (i := 0) rfl)).mono ?_
        rintro e w8 ⟨⟨u8, rfl, hu⟩, hb⟩
        have S8 : Hid (Sd T w ([(.slice fa n fc, ys), (.slice a1 P1.length c1, P1), (.slice a2 P1.length c2, P1), (.slice a3 Q1.length c3, Q1), (.slice a4 Q1.length c4, Q1), (.slice a7 P2.length c7, P2)] ++ [(u8, P2)]) w8) := S7.out.add hb hu
        obtain ⟨a8, c8, rfl⟩ := own_formS hu
        clear hu hb
        go_wp2_with fail
        refine (JQ2.out _ _ (S8.out.tt) (S8.out.r.reads (i := 0) rfl)).mono ?_
        rintro e w9 ⟨⟨u9, rfl, hu⟩, hb⟩
        have S9 : Hid (Sd T w ([(.slice fa n fc, ys), (.slice a1 P1.length c1, P1), (.slice a2 P1.length c2, P1), (.slice a3 Q1.length c3, Q1), (.slice a4 Q1.length c4, Q1), (.slice a7 P2.length c7, P2), (.slice a8 P2.length c8, P2)] ++ [(u9, Q2)]) w9) := S8.out.add hb hu
        obtain ⟨a9, c9, rfl⟩ := own_formS hu
        clear hu hb
        go_wp2_with fail
        refine (KQ2.out _ _ (S9.out.tt) (S9.out.r.reads (i := 0) rfl)).mono ?_
        rintro e w10 ⟨⟨u10, rfl, hu⟩, hb⟩
        have S10 : Hid (Sd T w ([(.slice fa n fc, ys), (.slice a1 P1.length c1, P1), (.slice a2 P1.length c2, P1), (.slice a3 Q1.length c3, Q1), (.slice a4 Q1.length c4, Q1), (.slice a7 P2.length c7, P2), (.slice a8 P2.length c8, P2), (.slice a9 Q2.length c9, Q2)] ++ [(u10, Q2)]) w10) := S9.out.add hb hu
        obtain ⟨a10, c10, rfl⟩ := own_formS hu
        clear hu hb
        go_wp2_with fail
        refine (KR2.out _ _ (S10.out.tt) (S10.out.r.reads (i := 0) rfl)).mono ?_
        rintro e w11 ⟨rfl, hb⟩
        have S11 : Hid (Sd T w ([(.slice fa n fc, ys), (.slice a1 P1.length c1, P1), (.slice a2 P1.length c2, P1), (.slice a3 Q1.length c3, Q1), (.slice a4 Q1.length c4, Q1), (.slice a7 P2.length c7, P2), (.slice a8 P2.length c8, P2), (.slice a9 Q2.length c9, Q2), (.slice a10 Q2.length c10, Q2)]) w11) := S10.out.on hb
        clear hb
        go_wp2_with fail
        refine (JR2.out _ _ (S11.out.tt) (S11.out.r.reads (i := 0) rfl)).mono ?_
        rintro e w12 ⟨rfl, hb⟩
        have S12 : Hid (Sd T w ([(.slice fa n fc, ys), (.slice a1 P1.length c1, P1), (.slice a2 P1.length c2, P1), (.slice a3 Q1.length c3, Q1), (.slice a4 Q1.length c4, Q1), (.slice a7 P2.length c7, P2), (.slice a8 P2.length c8, P2), (.slice a9 Q2.length c9, Q2), (.slice a10 Q2.length c10, Q2)]) w12) := S11.out.on hb
        clear hb
        go_wp2_with fail
        refine (SP1.out _ _ _ (S12.out.r.reads (i := 2) rfl) (S12.out.r.reads (i := 1) rfl)).mono ?_
        rintro e w13 ⟨rfl, hb⟩
        have S13 : Hid (Sd T w ([(.slice fa n fc, ys), (.slice a1 P1.length c1, P1), (.slice a2 P1.length c2, P1), (.slice a3 Q1.length c3, Q1), (.slice a4 Q1.length c4, Q1), (.slice a7 P2.length c7, P2), (.slice a8 P2.length c8, P2), (.slice a9 Q2.length c9, Q2), (.slice a10 Q2.length c10, Q2)]) w13) := S12.out.on hb
        clear hb
        go_wp2_with fail
        refine (SQ1.out _ _ _ (S13.out.r.reads (i := 4) rfl) (S13.out.r.reads (i := 3) rfl)).mono ?_
        rintro e w14 ⟨rfl, hb⟩
        have S14 : Hid (Sd T w ([(.slice fa n fc, ys), (.slice a1 P1.length c1, P1), (.slice a2 P1.length c2, P1), (.slice a3 Q1.length c3, Q1), (.slice a4 Q1.length c4, Q1), (.slice a7 P2.length c7, P2), (.slice a8 P2.length c8, P2), (.slice a9 Q2.length c9, Q2), (.slice a10 Q2.length c10, Q2)]) w14) := S13.out.on hb
        clear hb
        go_wp2_with fail
        refine (SP2.out _ _ _ (S14.out.r.reads (i := 6) rfl) (S14.out.r.reads (i := 5) rfl)).mono ?_
        rintro e w15 ⟨rfl, hb⟩
        have S15 : Hid (Sd T w ([(.slice fa n fc, ys), (.slice a1 P1.length c1, P1), (.slice a2 P1.length c2, P1), (.slice a3 Q1.length c3, Q1), (.slice a4 Q1.length c4, Q1), (.slice a7 P2.length c7, P2), (.slice a8 P2.length c8, P2), (.slice a9 Q2.length c9, Q2), (.slice a10 Q2.length c10, Q2)]) w15) := S14.out.on hb
        clear hb
        go_wp2_with fail
        refine (SQ2.out _ _ _ (S15.out.r.reads (i := 8) rfl) (S15.out.r.reads (i := 7) rfl)).mono ?_
        rintro e w16 ⟨rfl, hb⟩
        have S16 : Hid (Sd T w ([(.slice fa n fc, ys), (.slice a1 P1.length c1, P1), (.slice a2 P1.length c2, P1), (.slice a3 Q1.length c3, Q1), (.slice a4 Q1.length c4, Q1), (.slice a7 P2.length c7, P2), (.slice a8 P2.length c8, P2), (.slice a9 Q2.length c9, Q2), (.slice a10 Q2.length c10, Q2)]) w16) := S15.out.on hb
        clear hb
        go_wp2
        go_ret
        exact ⟨rfl, S16.out.b⟩
end Go.Proofs.YtkanjkofdfmhhabDoor.je
