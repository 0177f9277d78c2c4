import Derived.Test.YtlkkibiedlakfaaGreatMc
import Derived.Test.YtlkkibiedlakfaaGreatYb
import Derived.Maps.RangeWalk
namespace Go.Proofs.YtlkkibiedlakfaaGreat.yc
open Go.RowKit Go.PlainAid Go.Maps
open Go.Proofs.YtlkkibiedlakfaaGreat.ca Go.Proofs.YtlkkibiedlakfaaGreat.cb Go.Proofs.YtlkkibiedlakfaaGreat.cp Go.Proofs.YtlkkibiedlakfaaGreat.kp Go.Proofs.YtlkkibiedlakfaaGreat.ka Go.Proofs.YtlkkibiedlakfaaGreat.ya Go.Proofs.YtlkkibiedlakfaaGreat.yb Go.Proofs.YtlkkibiedlakfaaGreat.mc
set_option linter.unusedVariables false
set_option linter.unusedSimpArgs false
-- records that a store can hold
def OkR (r : List Rec) : Prop := ∀ p ∈ r, 1 ≤ p.1.size ∧ p.1.size ≤ 64 ∧ p.2.size ≤ 1048576
theorem get_mem {k d : ByteArray} {r : List Rec} (h : rget k r = some d) : (k, d) ∈ r := by
  unfold rget at h
  rw [Option.map_eq_some_iff] at h
  obtain ⟨p, h1, rfl⟩ := h
  have h2 := List.find?_some h1
  have h3 := List.mem_of_find?_eq_some h1
  rw [show k = p.1 from (by simpa using h2 : p.1 = k).symm]
  exact h3
theorem OkR.get {k d : ByteArray} {r : List Rec} (h : OkR r) (hg : rget k r = some d) : 1 ≤ k.size ∧ k.size ≤ 64 ∧ d.size ≤ 1048576 := h _ (get_mem hg)
theorem OkR.getD {k : ByteArray} {r : List Rec} (h : OkR r) : ((rget k r).getD ByteArray.empty).size ≤ 1048576 := by
  cases hg : rget k r with
  | none => exact Nat.zero_le _
  | some d => exact (h.get hg).2.2
theorem OkR.del {k : ByteArray} {r : List Rec} (h : OkR r) : OkR (del k r) := fun p hp => h p (mem_del.1 hp).1
theorem OkR.put {k d : ByteArray} {r : List Rec} (h : OkR r) (h1 : 1 ≤ k.size) (h2 : k.size ≤ 64) (h3 : d.size ≤ 1048576) : OkR (put k d r) := fun p hp => by
  rcases mem_put.1 hp with rfl | ⟨h4, _⟩
  · exact ⟨h1, h2, h3⟩
  · exact h p h4
theorem OkR.tot {r : List Rec} (h : OkR r) : ya.tot r ≤ r.length * 1048656 := by
  induction r with
  | nil => simp [ya.tot]
  | cons p r ih =>
    have h1 := h p (by simp)
    have h2 := ih (fun q hq => h q (by simp [hq]))
    simp only [ya.tot, cnt, List.length_cons]
    omega
theorem at0_le {k : ByteArray} {r : List Rec} (h : OkR r) : at0 k r ≤ 1048656 := by
  unfold at0
  split
  · rename_i d hg
    have := h.get hg
    simp only [cnt]; omega
  · omega

set_option maxHeartbeats 1600000 in
theorem countsM (b : Nat) (r : List Rec) (k : ByteArray) (w : World) (h : Mp b r w) (hk : k.size ≤ 140737488355328) (hr : OkR r) :
    Calls Tryz.prog 90 #[.map (some b), .string k] w fun e w' => e = .returned (.int .i64 (at0 k r : Nat)) ∧ Below w.heap.size w w' := by
  have H : Hid (Mp b r w) := h
  have hkm : k.size ≤ maxLen := by unfold maxLen; omega
  have hd := hr.getD (k := k)
  have HA : Hid (at0 k r = if (rget k r).isSome then cnt (k, (rget k r).getD ByteArray.empty) else 0) := by
    show _ = _
    unfold at0
    cases rget k r <;> rfl
  have CC : Hid (∀ (w : World) (d : ByteArray), d.size ≤ 140737488355328 → Calls _ _ _ _ _) := fun w d hd => countC k d w hk hd
  have HB : Hid (∀ o, Below w.heap.size w (w.alloc o)) := fun o => (Below.refl _ w).alloc (Nat.le_refl _) _
  rw [HA.out]
  clear h hr HA
  cases hg : (rget k r).isSome with
  | false =>
    go_enter Tryz.func90, Tryz.ntmps90
    go_wp2_with (first | (at_lookup; refine wpList_look _ rfl _ _ rfl b r rfl H.out k rfl hkm ?_; rw [hg]) | go_in)
    go_ret
    exact ⟨rfl, by first | exact HB.out _ | exact (HB.out _).setCell (Nat.le_refl _) _⟩
  | true =>
    go_enter Tryz.func90, Tryz.ntmps90
    go_wp2_with (first | (at_lookup; refine wpList_look _ rfl _ _ rfl b r rfl H.out k rfl hkm ?_; rw [hg]) | (go_at_call 91; refine (CC.out _ _ (by omega)).mono ?_; rintro _ w1 ⟨rfl, rfl⟩) | go_in)
    go_ret
    exact ⟨rfl, by first | exact HB.out _ | exact (HB.out _).setCell (Nat.le_refl _) _⟩

-- the step of a range over records
section
variable (w : World) {ops : Array Oper} {rest : List Oper} {o : Oper} {a : Act} {Q : Exit → Act → World → Prop}
theorem wpList_nextR (hg : o.guard = none) (it : Operand) (hop : o.op = Op.next it false) (b g n : Nat) (r : List Rec) (left : Lit → Bool) (c : Nat) (hit : a.eval it = .pointer (some ⟨g, 0, none⟩)) (h : w.ranges Tryz.prog 9 recE b g n (dat r) left c)
    (hDone : (∀ k, left k = false) → wpList Tryz.prog ops Q rest (a.put o.dst (.tuple #[.bool false])) w)
    (hMore : ∀ (x d : ByteArray) (w' : World) (c' : Nat), left (.string (bs x)) = true → rget x r = some d → w'.ranges Tryz.prog 9 recE b g n (dat r) (fun z => left z && !z.sameKey (.string (bs x))) c' → c' < c → w.grownBy w' (some g) → w'.heap.size = w.heap.size →
      (Instr.entry (.pointer (some ⟨g, 0, none⟩))).run Tryz.prog w' = .ok (.tuple #[.string x, .agg #[.string d]]) w' → wpList Tryz.prog ops Q rest (a.put o.dst (.tuple #[.bool true, .string x, .agg #[.string d]])) w') :
    wpList Tryz.prog ops Q (o :: rest) a w :=
  wpList_next_ranges w hg it hop 9 law recE Value.string (fun s => Value.agg #[.string s]) (fun key kl hk => by obtain ⟨s, h1, _⟩ := WideMaps.string_of_keyOf Tryz.underlying9 hk; exact ⟨s, h1⟩) (fun v y hv => by obtain ⟨s, h1, _⟩ := recE_inv hv; exact ⟨s, h1⟩)
    b g n (dat r) left c hit h (fun _ h0 => hDone h0) (fun x d kl y w' c' hkey hlk hv hat hrg hlt hgr hsz hen => by
      obtain ⟨s, h1, h2, h3⟩ := WideMaps.string_of_keyOf Tryz.underlying9 hkey
      injection h1 with h1
      subst h1 h2
      obtain ⟨t, h4, h5, h6⟩ := recE_inv hv
      have h4' : Value.agg #[Value.string d] = Value.agg #[Value.string t] := h4
      injection h4' with h4'
      have h4a := congrArg Array.toList h4'
      injection h4a with h4a _
      injection h4a with h4a
      subst h4a
      refine hMore x d w' c' hlk ?_ hrg hlt hgr hsz hen
      have h7 := hat .nil
      rw [h5] at h7
      have h8 := dat_at x r .nil
      have h9 : (dat r).atKey (.string (bs x)) .nil = .lit (.string (bs d)) := h7
      rw [h8] at h9
      cases hq : rget x r with
      | none => rw [hq] at h9; cases h9
      | some e => rw [hq] at h9; have h9 : (DataW.lit (Lit.string (bs e)) : DataW Unit) = .lit (.string (bs d)) := h9; exact congrArg some (bs_inj (Lit.string.inj (DataW.lit.inj h9))))
end
def Fl (left : Lit → Bool) (r : List Rec) : List Rec := r.filter fun p => left (.string (bs p.1))
theorem fl_all (r : List Rec) : Fl (Maps.has (dat r)) r = r := by
  unfold Fl
  rw [List.filter_eq_self]
  intro p hp
  rw [dat_has, Option.isSome_iff_ne_none]
  intro h
  exact get_none.1 h p hp rfl
theorem fl_none (left : Lit → Bool) (r : List Rec) (h : ∀ k, left k = false) : Fl left r = [] := by
  unfold Fl
  rw [List.filter_eq_nil_iff]
  intro p _
  rw [h]; decide
theorem fl_next (left : Lit → Bool) (r : List Rec) (x : ByteArray) : Fl (fun z => left z && !z.sameKey (.string (bs x))) r = del x (Fl left r) := by
  unfold Fl del
  rw [List.filter_filter]
  apply List.filter_congr
  intro p _
  rw [← same_key p x, Bool.and_comm]
  rfl
theorem fl_get {left : Lit → Bool} {r : List Rec} {x d : ByteArray} (hs : Srt r) (h1 : left (.string (bs x)) = true) (h2 : rget x r = some d) : rget x (Fl left r) = some d :=
  (get_some (List.Pairwise.filter _ hs)).2 (List.mem_filter.2 ⟨get_mem h2, h1⟩)
theorem fl_tot {left : Lit → Bool} {r : List Rec} {x d : ByteArray} (hs : Srt r) (h1 : left (.string (bs x)) = true) (h2 : rget x r = some d) : tot (Fl left r) = tot (Fl (fun z => left z && !z.sameKey (.string (bs x))) r) + cnt (x, d) := by
  rw [fl_next]
  have h3 : Srt (Fl left r) := List.Pairwise.filter _ hs
  rw [tot_del x _ h3]
  unfold at0
  rw [fl_get hs h1 h2]
set_option maxHeartbeats 3200000 in
theorem totalM (b : Nat) (r : List Rec) (w : World) (h : Mp b r w) (hr : OkR r) (hl : r.length ≤ 4398046511104) :
    Calls Tryz.prog 61 #[.map (some b)] w fun e w' => e = .returned (.int .i64 (tot r : Nat)) ∧ Below w.heap.size w w' := by
  have H : Hid (Mp b r w) := h
  have hs := h.srt
  have ht : tot r ≤ 4612037862148276224 := Nat.le_trans hr.tot (by omega)
  have CC : Hid (∀ (w : World) (k d : ByteArray), k.size ≤ 140737488355328 → d.size ≤ 140737488355328 → Calls _ _ _ _ _) := fun w k d hk hd => countC k d w hk hd
  have HS : Hid (Srt r ∧ OkR r) := ⟨hs, hr⟩
  obtain ⟨T, HT⟩ : ∃ T, Hid (tot r = T) := ⟨_, rfl⟩
  rw [HT.out] at ht ⊢
  obtain ⟨B, HB⟩ : ∃ B, B = w.heap.size := ⟨_, rfl⟩
  have HB0 : Hid (B = w.heap.size) := HB
  rw [← HB]
  have hbB : b < B := by rw [HB]; exact h.lt
  clear h hr hs HB
  go_enter Tryz.func61, Tryz.ntmps61
  go_wp2_with (first | (at_range; refine wpList_range_own _ rfl _ 59 rfl 9 117 law Tryz.underlying59 recE b r.length (dat r) rfl H.out ?_; rw [← HB0.out]; intro w0 hrg0 hg0 hs0) | go_in)
  go_frame
  go_loopw [3] (fun s wr => ∃ (left : Lit → Bool) (c m : Nat), s = .int .i64 m ∧ m ≤ T ∧ Hid (m + tot (Fl left r) = T ∧ wr.ranges Tryz.prog 9 recE b B r.length (dat r) left c ∧ Below B w wr)) (fun _ wr => wr.rangeLeft b B)
  case atStart =>
    refine ⟨_, _, 0, rfl, Nat.zero_le _, ?_, hrg0, ?_⟩
    · rw [fl_all, HT.out]; omega
    · exact (Below.refl B w).grown hg0 (by rw [HB0.out]; exact Nat.le_refl _) (by intro j hj; cases hj)
  case round =>
    clear hrg0 hg0 hs0
    obtain ⟨left, c, m, rfl, hm, HH⟩ := hrel
    go_wp2_with (first | (at_next; refine wpList_nextR _ rfl _ rfl b B r.length r left c rfl HH.out.2.1 ?_ ?_) | go_in)
    · intro h0
      have HE : Hid (m = T) := by
        show _ = _
        have := HH.out.1
        rw [fl_none left r h0] at this
        simpa [tot] using this
      have HO : Hid (Below B w wr) := HH.out.2.2
      clear HH
      go_wp2
      go_ret
      exact ⟨by rw [HE.out]; rfl, HO.out⟩
    · intro x d w1 c1 hlx hgx hrg1 hlt hgr hsz hen
      have h4 := HS.out.2.get hgx
      have hft := fl_tot HS.out.1 hlx hgx
      have hmT := HH.out.1
      have hc : cnt (x, d) = x.size + d.size + 16 := rfl
      have HB1 : Hid (Below B w w1) := HH.out.2.2.grown hgr (by have := HH.out.2.2.size; rw [HB0.out]; exact this) (by intro j hj; injection hj with hj; omega)
      have HR1 : Hid (w1.ranges Tryz.prog 9 recE b B r.length (dat r) (fun z => left z && !z.sameKey (.string (bs x))) c1) := hrg1
      have HN : Hid (m + cnt (x, d) + tot (Fl (fun z => left z && !z.sameKey (.string (bs x))) r) = T) := by show _ = _; omega
      have HM : Hid (c1 < c ∧ wr.rangeLeft b B = c) := ⟨hlt, HH.out.2.1.left_eq⟩
      have hx : x.size ≤ 140737488355328 := by omega
      have hd : d.size ≤ 140737488355328 := by omega
      have hmc : m + cnt (x, d) ≤ T := by omega
      have hsz1 : B ≤ w1.heap.size := by have := HB1.out.size; rw [HB0.out]; exact this
      obtain ⟨q, HQ⟩ : ∃ q, Hid (cnt (x, d) = q) := ⟨_, rfl⟩
      have HC2 : Hid (∀ w, Calls _ _ _ _ _) := fun w => CC.out w x d hx hd
      rw [HQ.out] at hmc HN HC2
      clear hrg1 hlx hgx hft hmT hc HH h4 hgr hlt
      go_wp2_with (first | (go_at_call 91; refine (HC2.out _).mono ?_; rintro _ w2 ⟨rfl, rfl⟩) | go_in)
      go_roundw
      case rel => exact ⟨_, c1, m + q, by go_num, hmc, HN.out, by first | exact (HR1.out.alloc _) | exact (HR1.out.alloc _).kept (World.grownBy_setCell _ _ _) (by simp) (by simp), by first | exact HB1.out.alloc hsz1 _ | exact (HB1.out.alloc hsz1 _).setCell hsz1 _⟩
      case measure => rw [HM.out.2]; first | (rw [(HR1.out.alloc _).left_eq]; exact HM.out.1)
end Go.Proofs.YtlkkibiedlakfaaGreat.yc
