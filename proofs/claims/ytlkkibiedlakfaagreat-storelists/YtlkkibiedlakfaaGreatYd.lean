import Derived.Test.YtlkkibiedlakfaaGreatYc
import Derived.Test.YtlkkibiedlakfaaGreatSh
import Derived.Sort.OwnSorted
import Derived.OwnWalk
namespace Go.Proofs.YtlkkibiedlakfaaGreat.yd
open Go.RowKit Go.PlainAid Go.Maps Go.Shelf Go.Sort
open Go.Proofs.YtlkkibiedlakfaaGreat.ca Go.Proofs.YtlkkibiedlakfaaGreat.cb Go.Proofs.YtlkkibiedlakfaaGreat.cp Go.Proofs.YtlkkibiedlakfaaGreat.kp Go.Proofs.YtlkkibiedlakfaaGreat.ka Go.Proofs.YtlkkibiedlakfaaGreat.ya Go.Proofs.YtlkkibiedlakfaaGreat.yb Go.Proofs.YtlkkibiedlakfaaGreat.yc Go.Proofs.YtlkkibiedlakfaaGreat.sh
set_option linter.unusedVariables false
set_option linter.unusedSimpArgs false
def keysL (pre : ByteArray) (r : List Rec) : List ByteArray := (r.filter fun p => Lib.hasPrefix (bs p.1) (bs pre)).map (·.1)
theorem mem_keysL {pre x : ByteArray} {r : List Rec} : x ∈ keysL pre r ↔ (rget x r).isSome = true ∧ Lib.hasPrefix (bs x) (bs pre) = true := by
  unfold keysL
  rw [List.mem_map]
  constructor
  · rintro ⟨p, h1, rfl⟩
    obtain ⟨h2, h3⟩ := List.mem_filter.1 h1
    refine ⟨?_, h3⟩
    rw [Option.isSome_iff_ne_none]
    exact fun e => get_none.1 e p h2 rfl
  · rintro ⟨h1, h2⟩
    obtain ⟨d, hd⟩ := Option.isSome_iff_exists.1 h1
    exact ⟨(x, d), List.mem_filter.2 ⟨get_mem hd, h2⟩, rfl⟩
theorem keysL_srt {pre : ByteArray} {r : List Rec} (h : Srt r) : (keysL pre r).Pairwise fun a b => lt a b = true := by
  unfold keysL
  rw [List.pairwise_map]
  exact List.Pairwise.filter _ h
theorem keysL_nodup {pre : ByteArray} {r : List Rec} (h : Srt r) : (keysL pre r).Nodup := (keysL_srt h).imp (fun {a b} h => lt_ne h)
def Coll (pre : ByteArray) (r : List Rec) (left : Lit → Bool) (xs : List ByteArray) : Prop := xs.Nodup ∧ ∀ x, x ∈ xs ↔ ((rget x r).isSome = true ∧ left (.string (bs x)) = false) ∧ Lib.hasPrefix (bs x) (bs pre) = true
theorem Coll.start (pre : ByteArray) (r : List Rec) : Coll pre r (Maps.has (dat r)) [] := ⟨List.nodup_nil, fun x => by rw [dat_has]; cases (rget x r).isSome <;> simp⟩
theorem skey (x y : ByteArray) : Lit.sameKey (.string (bs x)) (.string (bs y)) = decide (x = y) := bs_eq x y
theorem Coll.step {pre x d : ByteArray} {r : List Rec} {left : Lit → Bool} {xs : List ByteArray} (h : Coll pre r left xs) (hl : left (.string (bs x)) = true) (hg : rget x r = some d) : Coll pre r (fun z => left z && !z.sameKey (.string (bs x))) (if Lib.hasPrefix (bs x) (bs pre) then xs ++ [x] else xs) := by
  have hn : x ∉ xs := fun hx => by have := ((h.2 x).1 hx).1.2; rw [hl] at this; cases this
  split
  · rename_i hp
    refine ⟨List.nodup_append.2 ⟨h.1, by simp, fun a ha b hb => by simp at hb; subst hb; exact fun e => hn (e ▸ ha)⟩, fun y => ?_⟩
    by_cases e : y = x
    · subst e; simp [skey, hg, hp]
    · simp [h.2 y, e, skey]
  · rename_i hp
    refine ⟨h.1, fun y => ?_⟩
    by_cases e : y = x
    · subst e; simp [hn, hp]
    · simp [h.2 y, e, skey]
theorem Coll.done {pre : ByteArray} {r : List Rec} {left : Lit → Bool} {xs : List ByteArray} (h : Coll pre r left xs) (hs : Srt r) (hl : ∀ k, left k = false) : ((xs.map bs).mergeSort fun x y => decide (x ≤ y)) = (keysL pre r).map bs := by
  have hp : xs.Perm (keysL pre r) := (List.perm_ext_iff_of_nodup h.1 (keysL_nodup hs)).2 fun x => by rw [h.2 x, mem_keysL, hl]; simp
  rw [mergeSort_of_perm (hp.map bs)]
  apply List.mergeSort_of_pairwise
  rw [List.pairwise_map]
  refine (keysL_srt hs).imp fun {a b} h => ?_
  rw [lt_iff] at h
  simp only [decide_eq_true_eq] at h ⊢
  exact List.le_of_lt h
theorem enc_map (xs : List ByteArray) : xs.map Value.string = (xs.map bs).map encStr := by
  rw [List.map_map]
  apply List.map_congr_left
  intro x _
  simp [encStr, bs]
theorem below_grownBy {B : Nat} {a w w' : World} {row : Option Nat} (h : Below B a w) (hg : w.grownBy w' row) (hB : B ≤ a.heap.size) (hr : ∀ j, row = some j → B ≤ j) : Below B a w' := h.grown hg (Nat.le_trans hB h.size) (fun j hj => hr j hj)
theorem sortC (B : Nat) (v : Value) (xs : List ByteArray) (w : World) (h : w.ownsRow B 9 1 v xs.length (xs.map Value.string)) (hl : xs.length < 4611686018427387904) :
    Calls Tryz.prog 81 #[v] w fun e w' => e = .returned (.tuple #[]) ∧ (∃ ts : List ByteArray, ts.map bs = ((xs.map bs).mergeSort fun x y => decide (x ≤ y)) ∧ w'.ownsRow B 9 1 v xs.length (ts.map Value.string)) ∧ w.grownBy w' v.ownBlock := by
  rcases h.2 with ⟨rfl, h0⟩ | ⟨g, cap, cur, rfl, hbase, hb, h1, h2, h3, h4⟩
  · have hx : xs = [] := by
      cases xs with
      | nil => rfl
      | cons x r => simp at h0
    subst hx
    refine (Any.slices_Sort_string_none lays190 none 0 w).mono ?_
    rintro e w' ⟨rfl, rfl⟩
    exact ⟨rfl, ⟨[], by simp, h⟩, ⟨rfl, rfl, rfl, Nat.le_refl _, fun _ _ _ => rfl⟩⟩
  · have hH : Holds encStr w g 0 (xs.map bs).toArray := holds_of_block hb (by rw [List.length_map, ← enc_map]; simpa using h4)
    have hlen : (xs.map bs).length = xs.length := by simp
    have C := Any.slices_Sort_string lays190 g 0 cap (xs.map bs) w hH (Array.getElem?_eq_some_iff.1 hb).1 (by rw [hlen]; exact hl)
    rw [hlen] at C
    refine C.mono ?_
    rintro e w' ⟨rfl, n, os, rfl⟩
    have hts : ∀ l : List (List UInt8), ∃ ts : List ByteArray, ts.map bs = l := fun l => ⟨l.map fun x => ⟨x.toArray⟩, by rw [List.map_map]; apply List.ext_getElem <;> simp [bs]⟩
    obtain ⟨ts, hts⟩ := hts ((xs.map bs).mergeSort fun x y => decide (x ≤ y))
    refine ⟨rfl, ⟨ts, hts, ?_⟩, grownBy_sorted _⟩
    rw [enc_map, hts]
    have := ownsRow_sorted (n := n) (os := os) (ss := xs.map bs) (ts := (xs.map bs).mergeSort fun x y => decide (x ≤ y)) (by simp) hbase hb (by rw [hlen]; exact h1) h2 h3
    rw [hlen] at this
    exact this
theorem map_bs_inj {xs ys : List ByteArray} (h : xs.map bs = ys.map bs) : xs = ys := by
  induction xs generalizing ys with
  | nil => cases ys with
    | nil => rfl
    | cons y ys => simp at h
  | cons x xs ih => cases ys with
    | nil => simp at h
    | cons y ys =>
      simp only [List.map_cons, List.cons.injEq] at h
      rw [bs_inj h.1, ih h.2]
set_option maxHeartbeats 3200000 in
theorem keysM (b : Nat) (r : List Rec) (pre : ByteArray) (w : World) (h : Mp b r w) (hl : r.length ≤ 4398046511104) :
    Calls Tryz.prog 34 #[.map (some b), .string pre] w fun e w' => ∃ v, e = .returned v ∧ w'.ownsRow w.heap.size 9 1 v (keysL pre r).length ((keysL pre r).map Value.string) ∧ Below w.heap.size w w' := by
  obtain ⟨i9, hi, hz0, hz1, hz2⟩ := info_parts hi9
  have HIN : Hid (_ ∧ _ ∧ _ ∧ _) := ⟨hi, hz0, hz1, hz2⟩
  clear hi hz0 hz1 hz2
  have H : Hid (Mp b r w) := h
  have HS : Hid (Srt r) := h.srt
  have CP : Hid (∀ (w : World) (x : ByteArray), Calls Tryz.prog 80 #[.string x, .string pre] w fun e w' => e = .returned (.bool (Lib.hasPrefix (bs x) (bs pre))) ∧ w' = w) := fun w x => Any.strings_HasPrefix lays99 x pre w
  obtain ⟨B, HB⟩ : ∃ B, B = w.heap.size := ⟨_, rfl⟩
  have HB0 : Hid (B = w.heap.size) := HB
  have HBr : Hid (Below B w w) := Below.refl _ _
  rw [← HB]
  have hbB : b < B := by rw [HB]; exact h.lt
  clear h HB
  go_enter Tryz.func34, Tryz.ntmps34
  go_wp2_with (first | (at_range; refine wpList_range_own _ rfl _ 59 rfl 9 117 law Tryz.underlying59 recE b r.length (dat r) rfl H.out ?_; rw [← HB0.out]; intro w0 hrg0 hg0 hs0) | go_in)
  go_frame
  go_loopw [5] (fun v wr => ∃ (left : Lit → Bool) (c : Nat) (xs : List ByteArray), xs.length + c ≤ r.length ∧ Hid (Coll pre r left xs ∧ wr.ranges Tryz.prog 9 recE b B r.length (dat r) left c ∧ wr.ownsRow B 9 1 v xs.length (xs.map Value.string) ∧ Below B w wr)) (fun _ wr => wr.rangeLeft b B)
  case atStart =>
    refine ⟨_, _, [], by rw [dat_size]; simp, Coll.start pre r, hrg0, World.ownsRow_nil _ _ _ _, ?_⟩
    exact below_grownBy HBr.out hg0 (by rw [HB0.out]; exact Nat.le_refl _) (by intro j hj; cases hj)
  case round =>
    clear hrg0 hg0 hs0
    obtain ⟨left, c, xs, hxc, HH⟩ := hrel
    have hfm : ∃ a k, u5 = .slice a xs.length k := own_formS HH.out.2.2.1
    go_wp2_with (first | (at_next; refine wpList_nextR _ rfl _ rfl b B r.length r left c rfl HH.out.2.1 ?_ ?_) | go_in)
    · intro h0
      have HD : Hid (((xs.map bs).mergeSort fun x y => decide (x ≤ y)) = (keysL pre r).map bs) := HH.out.1.done HS.out h0
      have HO : Hid (wr.ownsRow B 9 1 u5 xs.length (xs.map Value.string)) := HH.out.2.2.1
      have HL : Hid (Below B w wr) := HH.out.2.2.2
      have CS : Hid (Calls _ _ _ _ _) := sortC B u5 xs wr HO.out (by omega)
      clear HH hfm
      go_wp2_with (go_at_call 81; refine CS.out.mono ?_; rintro _ w1 ⟨rfl, ⟨ts, h1, h2⟩, h3⟩; have H1 : Hid (ts.map bs = ((xs.map bs).mergeSort fun x y => decide (x ≤ y))) := h1; have H2 : Hid (World.ownsRow _ _ _ _ _ _ _) := h2; have H3 : Hid (World.grownBy _ _ _) := h3; clear h1 h2 h3)
      go_ret
      have he : ts = keysL pre r := map_bs_inj (H1.out.trans HD.out)
      subst he
      have hn : xs.length = (keysL pre r).length := by
        have := congrArg List.length H1.out
        simpa using this.symm
      refine ⟨_, rfl, ?_, ?_⟩
      · rw [← hn]; exact H2.out
      · exact below_grownBy HL.out H3.out (by rw [HB0.out]; exact Nat.le_refl _) (fun j hj => (HO.out.lt _ hj).1)
    · intro x d w1 c1 hlx hgx hrg1 hlt hgr hsz hen
      have HC : Hid (Coll pre r (fun z => left z && !z.sameKey (.string (bs x))) (if Lib.hasPrefix (bs x) (bs pre) then xs ++ [x] else xs)) := HH.out.1.step hlx hgx
      have HB1 : Hid (Below B w w1) := below_grownBy HH.out.2.2.2 hgr (by rw [HB0.out]; exact Nat.le_refl _) (by intro j hj; injection hj with hj; omega)
      have HR1 : Hid (w1.ranges Tryz.prog 9 recE b B r.length (dat r) (fun z => left z && !z.sameKey (.string (bs x))) c1) := hrg1
      have HM : Hid (c1 < c ∧ wr.rangeLeft b B = c) := ⟨hlt, HH.out.2.1.left_eq⟩
      have HO1 : Hid (w1.ownsRow B 9 1 u5 xs.length (xs.map Value.string)) := HH.out.2.2.1.kept hgr (.inr fun e => row_ne_iter HH.out.2.2.1 HH.out.2.1 e.symm)
      have hsz1 : B ≤ w1.heap.size := by have := HB1.out.size; rw [HB0.out]; exact this
      have CX : Hid (∀ w : World, Calls _ _ _ _ _) := fun w => CP.out w x
      clear hrg1 hlx hgx HH hgr hfm hsz
      cases hp : Lib.hasPrefix (bs x) (bs pre) with
      | false =>
        rw [hp] at CX
        have HC' : Hid (Coll pre r (fun z => left z && !z.sameKey (.string (bs x))) xs) := by have := HC.out; rw [hp] at this; exact this
        clear HC hp
        go_wp2_with (first | (go_at_call 80; refine (CX.out _).mono ?_; rintro _ w2 ⟨rfl, hw2⟩; rw [hw2]; clear hw2) | go_in)
        go_roundw
        case rel => exact ⟨_, c1, xs, by omega, HC'.out, HR1.out, HO1.out, HB1.out⟩
        case measure => rw [HM.out.2, HR1.out.left_eq]; exact HM.out.1
      | true =>
        rw [hp] at CX
        have HC' : Hid (Coll pre r (fun z => left z && !z.sameKey (.string (bs x))) (xs ++ [x])) := by have := HC.out; rw [hp] at this; exact this
        have HR2 : Hid ((w1.alloc (.cells #[.string x] 9)).ranges Tryz.prog 9 recE b B r.length (dat r) (fun z => left z && !z.sameKey (.string (bs x))) c1) := HR1.out.alloc _
        have HO2 : Hid ((w1.alloc (.cells #[.string x] 9)).ownsRow B 9 1 u5 xs.length (xs.map Value.string)) := HO1.out.alloc _
        have HB2 : Hid (Below B w (w1.alloc (.cells #[.string x] 9))) := HB1.out.alloc hsz1 _
        clear HC hp
        go_wp2_with (first | (go_at_call 80; refine (CX.out _).mono ?_; rintro _ w2 ⟨rfl, hw2⟩; rw [hw2]; clear hw2) | (at_builtin; (refine wpList_append_own _ rfl _ _ 31 rfl B 9 i9 (.string ByteArray.empty) 1 16 Tryz.underlying31 HIN.out.1 HIN.out.2.1 HIN.out.2.2.1 HIN.out.2.2.2 rfl (by decide) _ xs.length _ rfl HO2.out ⟨w1.heap.size, 0, none⟩ 1 1 [.string x] rfl rfl (new_text _ _ _) (one_text _) (by unfold maxLen; omega) (by omega) (by simp; omega) ?_; intro v' w3 ho hg hnn; have HO3 : Hid (World.ownsRow _ _ _ _ _ _ _) := ho; have HG3 : Hid (World.grownBy _ _ _) := hg; clear ho hg hnn)) | go_in)
        have HR3 : Hid (w3.ranges Tryz.prog 9 recE b B r.length (dat r) (fun z => left z && !z.sameKey (.string (bs x))) c1) := HR2.out.kept HG3.out (row_ne_low HO2.out hbB) (row_ne_iter HO2.out HR2.out)
        have HB3 : Hid (Below B w w3) := below_grownBy HB2.out HG3.out (by rw [HB0.out]; exact Nat.le_refl _) (fun j hj => (HO2.out.lt _ hj).1)
        go_roundw
        case rel => exact ⟨_, c1, xs ++ [x], by simp; omega, HC'.out, HR3.out, by rw [List.length_append, List.map_append]; exact HO3.out, HB3.out⟩
        case measure => rw [HM.out.2, HR3.out.left_eq]; exact HM.out.1
end Go.Proofs.YtlkkibiedlakfaaGreat.yd
