import Derived.Test.YtmindflfjocjlaaGreatQ03
namespace Go.Proofs.YtmindflfjocjlaaGreat.yh
open Go.RowKit Go.PlainAid Go.Maps Go.Shelf
open Go.Proofs.YtmindflfjocjlaaGreat.ca Go.Proofs.YtmindflfjocjlaaGreat.cb Go.Proofs.YtmindflfjocjlaaGreat.cp Go.Proofs.YtmindflfjocjlaaGreat.kp Go.Proofs.YtmindflfjocjlaaGreat.ka Go.Proofs.YtmindflfjocjlaaGreat.ya Go.Proofs.YtmindflfjocjlaaGreat.yb Go.Proofs.YtmindflfjocjlaaGreat.yc Go.Proofs.YtmindflfjocjlaaGreat.yd Go.Proofs.YtmindflfjocjlaaGreat.ye Go.Proofs.YtmindflfjocjlaaGreat.yf Go.Proofs.YtmindflfjocjlaaGreat.yg Go.Proofs.YtmindflfjocjlaaGreat.sb Go.Proofs.YtmindflfjocjlaaGreat.mc
set_option linter.unusedVariables false
set_option linter.unusedSimpArgs false
def tb (rd rn : List Rec) (k : ByteArray) : List Rec := match rget k rd with | some d => put k d rn | none => del k rn
theorem at_put (k d : ByteArray) (r : List Rec) (h : Srt r) : at0 k (put k d r) = cnt (k, d) := by unfold at0; rw [get_put_same h]
theorem at_del (k : ByteArray) (r : List Rec) : at0 k (del k r) = 0 := by unfold at0; rw [get_del_same]
set_option maxRecDepth 20000 in
set_option maxHeartbeats 6400000 in
theorem takeBackC {B g bn bd n : Nat} {pv : Value} {rn rd : List Rec} {xs : List Value} {s : S} {w : World} (h : Sq B g bn bd pv (tot rn) rn rd n xs s w) (k : ByteArray) (hk : k.size ≤ 140737488355328) (on : OkR rn) (od : OkR rd) (ln : rn.length < 8000000000000) :
    Calls Tryz.prog 37 #[.pointer (some ⟨g, 0, none⟩), .string k] w fun e w' => e = .returned (.tuple #[]) ∧ Sq B g bn bd pv (tot (tb rd rn k)) (tb rd rn k) rd n xs s w' ∧ Kp (Fr g bn bd pv) w w' := by
  have sn := h.mn.srt
  have td := tot_del k rn sn
  have tt := on.tot
  have H : Hid (Sq B g bn bd pv (tot rn) rn rd n xs s w) := h
  have hkm : k.size ≤ maxLen := by unfold maxLen; omega
  obtain ⟨T, HT⟩ : ∃ T, Hid (tot rn = T) := ⟨_, rfl⟩
  obtain ⟨a, HA⟩ : ∃ a, Hid (at0 k rn = a) := ⟨_, rfl⟩
  obtain ⟨D, HD⟩ : ∃ D, Hid (tot (del k rn) = D) := ⟨_, rfl⟩
  rw [HT.out, HA.out, HD.out] at td
  rw [HT.out] at tt H
  have hwr : IntKind.i64.wrap ((T : Int) - (a : Int)) = (D : Int) := by
    rw [show (T : Int) - (a : Int) = (D : Int) by omega]
    exact wrap_is _ (by omega)
  have hDb : D ≤ 8389248000000000000 := by omega
  clear td tt
  have c3 := H.out.row.c3
  have c0 := H.out.row.c0
  have f3 := H.out.row.fz 3
  have HR : Hid (Mp bn rn w.drew ∧ k.size ≤ 140737488355328 ∧ OkR rn) := ⟨H.out.mn, hk, on⟩
  have FK : Hid (∀ w1, Below w.drew.heap.size w.drew w1 → Sq B g bn bd pv T rn rd n xs s w1 ∧ Kp (Fr g bn bd pv) w w1) := fun w1 b1 => by
    have b1' : Below w.heap.size w w1 := ⟨b1.os, b1.tape, b1.output, b1.size, b1.block⟩
    exact ⟨H.out.later b1', Kp.of_below b1'⟩
  have HN1 : Hid (at0 k (tb rd rn k) + D = tot (tb rd rn k) ∧ OkR (tb rd rn k) ∧ at0 k (tb rd rn k) ≤ 1048656) := by
    have e : at0 k (tb rd rn k) + D = tot (tb rd rn k) ∧ OkR (tb rd rn k) := by
      unfold tb
      cases hg : rget k rd with
      | none => exact ⟨by rw [at_del, HD.out]; omega, on.del⟩
      | some d =>
        have h1 := tot_put k d rn sn
        have h2 := tot_del k rn sn
        rw [HD.out] at h2
        have h3 := od.get hg
        exact ⟨by simp only; rw [at_put k d rn sn]; omega, on.put h3.1 h3.2.1 h3.2.2⟩
    exact ⟨e.1, e.2, at0_le e.2⟩
  clear h
  go_enter Tryz.func37, Tryz.ntmps37
  go_upto_region 0 with fail
  go_cut [16] (fun c wx => Hid (Sq B g bn bd pv D rn rd n xs s wx ∧ Kp (Fr g bn bd pv) w wx))
  case first =>
    go_region_law ((first | (have zz := HR.out; refine step_counts (by rfl) 13 14 15 (by rfl) (by rfl) bn rn k (by simp [Act.put]) (by simp [Act.put]) HR a HA ?_; intro w1 b1; have F1 : Hid _ := FK.out w1 b1; have c31 := F1.out.1.row.c3; have c01 := F1.out.1.row.c0; have f31 := F1.out.1.row.fz 3; clear b1 zz HR)))
    all_goals (go_wp2; go_meet; exact ⟨F1.out.1.u D, F1.out.2.trans (fr_g (Kp.setCell _ _ _ _ rfl))⟩)
  case rest =>
    have HC : Hid _ := hcut.out
    clear hcut c3 c0 f3 HR FK hwr HA H
    have c1 := HC.out.1.row.c1
    have HMd : Hid (Mp bd rd wc) := HC.out.1.md
    have c0 := HC.out.1.row.c0
    obtain ⟨q, HQ⟩ : ∃ q, Hid (at0 k (tb rd rn k) = q) := ⟨_, rfl⟩
    obtain ⟨T2, HT2⟩ : ∃ T2, Hid (tot (tb rd rn k) = T2) := ⟨_, rfl⟩
    have hT2 : q + D = T2 ∧ q ≤ 1048656 := by have := HN1.out; rw [HQ.out, HT2.out] at this; exact ⟨this.1, this.2.2⟩
    have hwr : IntKind.i64.wrap ((D : Int) + (q : Int)) = (T2 : Int) := by
      rw [show (D : Int) + (q : Int) = (T2 : Int) by omega]
      exact wrap_is _ (by omega)
    clear hT2
    have FIN : Hid (∀ w2, Sq B g bn bd pv D (tb rd rn k) rd n xs s w2 → Kp (Fr g bn bd pv) w w2 → (Mp bn (tb rd rn k) w2.drew ∧ k.size ≤ 140737488355328 ∧ OkR (tb rd rn k)) ∧ (w2.cell? ⟨g, 3, none⟩ = some (.int .i64 D) ∧ w2.cell? ⟨g, 0, none⟩ = some (.map (some bn)) ∧ w2.frozen? ⟨g, 3, none⟩ = false) ∧ ∀ w3, Below w2.drew.heap.size w2.drew w3 → Sq B g bn bd pv D (tb rd rn k) rd n xs s w3 ∧ Kp (Fr g bn bd pv) w w3) := fun w2 h2 k2 => by
      refine ⟨⟨h2.mn, hk, HN1.out.2.1⟩, ⟨h2.row.c3, h2.row.c0, h2.row.fz 3⟩, fun w3 b3 => ?_⟩
      have b3' : Below w2.heap.size w2 w3 := ⟨b3.os, b3.tape, b3.output, b3.size, b3.block⟩
      exact ⟨h2.later b3', k2.trans (Kp.of_below b3')⟩
    obtain ⟨ob, HO⟩ : ∃ ob, Hid (rget k rd = ob) := ⟨_, rfl⟩
    clear HN1 HT
    cases ob with
    | none =>
      have HE : Hid (tb rd rn k = del k rn) := by show _ = _; unfold tb; rw [HO.out]
      have HX : Hid (∀ o, Sq B g bn bd pv D rn rd n xs s (wc.alloc o) ∧ Kp (Fr g bn bd pv) w (wc.alloc o)) := fun o => ⟨HC.out.1.later ((Below.refl _ wc).alloc (Nat.le_refl _) _), HC.out.2.trans (Kp.of_below ((Below.refl _ wc).alloc (Nat.le_refl _) _))⟩
      go_upto_region 4 with (first | (at_lookup; refine wpList_look _ rfl _ _ rfl bd rd rfl HMd.out k rfl hkm ?_; rw [HO.out]) | go_in)
      have HX1 : Hid _ := HX.out (.cells #[.string ByteArray.empty] 91)
      have c0' := HX1.out.1.row.c0
      clear HX HC c1 HMd
      go_upto_region 5 with (first | (at_delete; refine wpList_cut _ rfl _ _ rfl bn rn rfl HX1.out.1.mn k rfl hkm ?_; intro w1 h1 k1; have F1 : Hid (Sq B g bn bd pv D (tb rd rn k) rd n xs s w1 ∧ Kp (Fr g bn bd pv) w w1) := ⟨by rw [HE.out]; exact HX1.out.1.nm h1 k1, HX1.out.2.trans (fr_n k1)⟩; clear h1 k1) | go_in)
      obtain ⟨hr, hcs, hw3⟩ := FIN.out w1 F1.out.1 F1.out.2
      have HR : Hid _ := hr
      have FK : Hid _ := hw3
      obtain ⟨c31, c01, f31⟩ := hcs
      clear hr hw3 HE c0 c0' HX1 FIN HO
      go_region_law ((first | (have zz := HR.out; refine step_counts (by rfl) 47 48 49 (by rfl) (by rfl) bn (tb rd rn k) k (by simp [Act.put]) (by simp [Act.put]) HR q HQ ?_; intro w3 b3; have F3 : Hid _ := FK.out w3 b3; have c33 := F3.out.1.row.c3; have c03 := F3.out.1.row.c0; have f33 := F3.out.1.row.fz 3; clear b3 zz HR)))
      all_goals (go_wp2; go_end0; exact ⟨rfl, by rw [HT2.out]; exact F3.out.1.u T2, F3.out.2.trans (fr_g (Kp.setCell _ _ _ _ rfl))⟩)
    | some d =>
      have HE : Hid (tb rd rn k = put k d rn) := by show _ = _; unfold tb; rw [HO.out]
      have hdm : d.size ≤ maxLen := by have := (od.get HO.out).2.2; unfold maxLen; omega
      have hlm : rn.length < maxLen := by unfold maxLen; omega
      have HX : Hid (∀ o, Sq B g bn bd pv D rn rd n xs s (wc.alloc o) ∧ Kp (Fr g bn bd pv) w (wc.alloc o)) := fun o => ⟨HC.out.1.later ((Below.refl _ wc).alloc (Nat.le_refl _) _), HC.out.2.trans (Kp.of_below ((Below.refl _ wc).alloc (Nat.le_refl _) _))⟩
      go_upto_region 3 with (first | (at_lookup; refine wpList_look _ rfl _ _ rfl bd rd rfl HMd.out k rfl hkm ?_; rw [HO.out]) | go_in)
      have HX1 : Hid _ := HX.out (.cells #[.string d] 91)
      have c0' := HX1.out.1.row.c0
      have HR0 : Hid (Mp bn rn (wc.alloc (.cells #[.string d] 91)).drew ∧ rn.length < maxLen ∧ k.size ≤ maxLen ∧ d.size ≤ maxLen) := ⟨HX1.out.1.mn, hlm, hkm, hdm⟩
      have FK0 : Hid (∀ w1, Mp bn (put k d rn) w1 → Kp (fun k => k = bn) (wc.alloc (.cells #[.string d] 91)).drew w1 → Sq B g bn bd pv D (tb rd rn k) rd n xs s w1 ∧ Kp (Fr g bn bd pv) w w1) := fun w1 h1 k1 => by
        have k1' : Kp (fun k => k = bn) (wc.alloc (.cells #[.string d] 91)) w1 := ⟨k1.os, k1.tape, k1.output, k1.size, k1.block⟩
        exact ⟨by rw [HE.out]; exact HX1.out.1.nm h1 k1', HX1.out.2.trans (fr_n k1')⟩
      clear HX HC c1 HMd HE
      go_cut [33] (fun c wx => Hid (Sq B g bn bd pv D (tb rd rn k) rd n xs s wx ∧ Kp (Fr g bn bd pv) w wx))
      case first =>
        obtain ⟨w1, hrun, r1, r2⟩ := World.ownsMap.store HR0.out.1 law Tryz.underlying44 HR0.out.2.1 (key_is HR0.out.2.2.1) (recE_mk HR0.out.2.2.2)
        rw [dat_put] at r1
        have F1 : Hid _ := FK0.out w1 (own_exact r1) (kp_turn r2)
        clear r1 r2
        go_region
        all_goals (go_wp2; go_meet; exact F1.out)
      case rest =>
        have F1 : Hid _ := hcut.out
        clear hcut HR0 FK0 c0' HX1 c0
        go_upto_region 5 with fail
        obtain ⟨hr, hcs, hw3⟩ := FIN.out _ F1.out.1 F1.out.2
        have HR : Hid _ := hr
        have FK : Hid _ := hw3
        obtain ⟨c31, c01, f31⟩ := hcs
        clear hr hw3 FIN HO
        go_region_law ((first | (have zz := HR.out; refine step_counts (by rfl) 47 48 49 (by rfl) (by rfl) bn (tb rd rn k) k (by simp [Act.put]) (by simp [Act.put]) HR q HQ ?_; intro w3 b3; have F3 : Hid _ := FK.out w3 b3; have c33 := F3.out.1.row.c3; have c03 := F3.out.1.row.c0; have f33 := F3.out.1.row.fz 3; clear b3 zz HR)))
        all_goals (go_wp2; go_end0; exact ⟨rfl, by rw [HT2.out]; exact F3.out.1.u T2, F3.out.2.trans (fr_g (Kp.setCell _ _ _ _ rfl))⟩)
end Go.Proofs.YtmindflfjocjlaaGreat.yh

namespace Go.Proofs.YtmindflfjocjlaaGreat.yi
open Go.RowKit Go.PlainAid Go.Maps Go.Shelf
open Go.Proofs.YtmindflfjocjlaaGreat.ca Go.Proofs.YtmindflfjocjlaaGreat.cb Go.Proofs.YtmindflfjocjlaaGreat.cp Go.Proofs.YtmindflfjocjlaaGreat.kp Go.Proofs.YtmindflfjocjlaaGreat.ka Go.Proofs.YtmindflfjocjlaaGreat.ya Go.Proofs.YtmindflfjocjlaaGreat.yb Go.Proofs.YtmindflfjocjlaaGreat.yc Go.Proofs.YtmindflfjocjlaaGreat.yd Go.Proofs.YtmindflfjocjlaaGreat.ye Go.Proofs.YtmindflfjocjlaaGreat.yf Go.Proofs.YtmindflfjocjlaaGreat.yg Go.Proofs.YtmindflfjocjlaaGreat.yh Go.Proofs.YtmindflfjocjlaaGreat.sb Go.Proofs.YtmindflfjocjlaaGreat.mc
set_option linter.unusedVariables false
set_option linter.unusedSimpArgs false
theorem cloneC (s : ByteArray) (w : World) (h : s.size ≤ 140737488355328) :
    Calls Tryz.prog 63 #[.string s] w fun e w' => e = .returned (.string s) ∧ Below w.heap.size w w' := by
  have CC : Hid (∀ w, Calls Tryz.prog 87 #[.string s] w fun e w' => e = .returned (.string s) ∧ Below w.heap.size w w') := fun w => AnyPu.stringslite_Clone laysC s w (by omega)
  go_enter Tryz.func63, Tryz.ntmps63
  go_wp2_with (go_at_call 87; refine (CC.out _).mono ?_; rintro _ w1 ⟨rfl, k1⟩; have K1 : Hid (Below w.heap.size w w1) := k1; clear k1)
  go_ret
  exact ⟨rfl, K1.out⟩
def addW (s : S) (x : W) : S := { s with pend := s.pend ++ [x] }
theorem now_add (s : S) (x : W) : now (addW s x) = doW (now s) x := by unfold now addW; rw [List.foldl_append]; rfl
theorem now_spend (s : S) : now (spendS s).2 = now s := by unfold spendS; split; rfl; split <;> rfl
theorem dur_spend (s : S) : (spendS s).2.dur = s.dur := by unfold spendS; split; rfl; split <;> rfl
theorem pend_spend (s : S) : (spendS s).2.pend = s.pend := by unfold spendS; split; rfl; split <;> rfl
theorem cap_spend (s : S) : (spendS s).2.cap = s.cap := by unfold spendS; split; rfl; split <;> rfl
theorem age_spend (s : S) : (spendS s).2.age = s.age := by unfold spendS; split; rfl; split <;> rfl
theorem arm_spend (s : S) : (spendS s).2.armed ≤ s.armed := by unfold spendS; split; exact Nat.le_refl _; split <;> simp
theorem ok_spend {s : S} (h : OkS s) : OkS (spendS s).2 := ⟨by rw [dur_spend]; exact h.dur, by rw [dur_spend]; exact h.srt, by rw [pend_spend]; exact h.pend, by rw [cap_spend]; exact h.cap0, by rw [cap_spend]; exact h.cap1, Nat.le_trans (arm_spend s) h.arm, by rw [age_spend]; exact h.age, by rw [dur_spend, pend_spend]; exact h.len⟩
theorem ok_add {s : S} {x : W} (h : OkS s) (hx : OkW x) (hl : s.dur.length + s.pend.length + 1 < 3518437208883) : OkS (addW s x) :=
  ⟨h.dur, h.srt, fun y hy => by rcases List.mem_append.1 hy with hy | hy; exact h.pend y hy; rw [List.mem_singleton.1 hy]; exact hx, h.cap0, h.cap1, h.arm, h.age, by show s.dur.length + (s.pend ++ [x]).length < _; simp; omega⟩
theorem sr_st {B g bn bd : Nat} {pv : Value} {s : S} {w w' : World} (h : Sr B g bn bd pv s w) (m : St g bn bd pv (tot (now s)) (spendS s).2 w') (k : Kp (fun k => k = g) w w') : Sr B g bn bd pv (spendS s).2 w' := by
  refine sr_of ?_ (ok_spend h.ok)
  have h1 := (sq_of h).st m k
  rw [now_spend, dur_spend, pend_spend]
  exact h1
-- a pending write laid down, its row grown
theorem add_row {B g bn bd : Nat} {pv : Value} {s : S} {x : W} {rn : List Rec} {w w' : World} {g5 c5 : Nat} {o : Obj} (h : Sq B g bn bd pv (tot rn) rn s.dur s.pend.length (wcs bd s.pend) s w) (hrn : rn = doW (now s) x) (ok : OkS s) (hx : OkW x) (hl : s.dur.length + s.pend.length + 1 < 3518437208883)
    (ho : w'.ownsRow B 75 3 (.slice (some ⟨g5, 0, none⟩) (s.pend.length + 1) c5) (s.pend.length + 1) (wcs bd s.pend ++ wc bd x)) (hg : (w.alloc o).grownBy w' pv.ownBlock) (hlies : pv.ownBlock = some g5 ∨ g5 = w.heap.size + 1) :
    St g bn bd pv (tot rn) s w' ∧ Kp (Fr g bn bd pv) w w' ∧ Sr B g bn bd (.slice (some ⟨g5, 0, none⟩) (s.pend.length + 1) c5) (addW s x) (w'.setCell ⟨g, 2, none⟩ (.slice (some ⟨g5, 0, none⟩) (s.pend.length + 1) c5)) ∧ ∀ k, some k = Value.ownBlock (.slice (some ⟨g5, 0, none⟩) (s.pend.length + 1) c5) → some k = pv.ownBlock ∨ w.heap.size ≤ k := by
  have b1 : Below w.heap.size w (w.alloc o) := (Below.refl _ w).alloc (Nat.le_refl _) _
  have h1 := h.later b1
  have k2 : Kp (fun k => some k = pv.ownBlock) (w.alloc o) w' := ⟨hg.os, hg.tape, hg.output, hg.size, fun k hk hn => hg.block k hk hn⟩
  have hrow : St g bn bd pv (tot rn) s w' := h1.row.keep k2 (own_tag h1.pr h1.row (by decide))
  have hmn : Mp bn rn w' := h1.mn.keep k2 (own_map h1.pr h1.mn)
  have hmd : Mp bd s.dur w' := h1.md.keep k2 (own_map h1.pr h1.md)
  have kk : Kp (Fr g bn bd pv) w w' := (Kp.of_below b1).trans (k2.mono fun k hk => .inr (.inr (.inr hk)))
  refine ⟨hrow, kk, ?_, ?_⟩
  · have hk : Kp (fun k => k = g) w' (w'.setCell ⟨g, 2, none⟩ (.slice (some ⟨g5, 0, none⟩) (s.pend.length + 1) c5)) := Kp.setCell _ _ _ _ rfl
    refine ⟨?_, ?_, hmd.keep hk (hmd.ne hrow), h.ne, ?_, h.low, ok_add ok hx hl⟩
    · have := hrow.set2 (.slice (some ⟨g5, 0, none⟩) (s.pend.length + 1) c5)
      rw [now_add, ← hrn]
      exact this
    · rw [now_add, ← hrn]
      exact hmn.keep hk (hmn.ne hrow)
    · have e1 : (addW s x).pend.length = s.pend.length + 1 := by simp [addW]
      have e2 : wcs bd (addW s x).pend = wcs bd s.pend ++ wc bd x := by simp [wcs, addW]
      rw [e1, e2]
      exact own_kp ho hk (fun j hj e => by subst e; exact own_tag ho hrow (by decide) hj)
  · intro k hk
    have hk : k = g5 := Option.some.inj hk
    subst hk
    rcases hlies with e | e
    · exact .inl e.symm
    · exact .inr (by omega)
theorem new_three (W : World) (u v x : Value) (t : TypeId) : ∀ (j : Nat) (y : Value), [u, v, x][j]? = some y → (W.alloc (.cells #[u, v, x] t)).cell? (Addr.add ⟨W.heap.size, 0, none⟩ j) = some y := by
  intro j y h
  have hb : (W.alloc (.cells #[u, v, x] t)).heap[W.heap.size]? = some (.cells #[u, v, x] t (0, 0)) := (MapKept.heap_alloc W _).1
  have e : (Addr.add ⟨W.heap.size, 0, none⟩ j) = ⟨W.heap.size, j, none⟩ := by simp [Addr.add]; omega
  rw [e, cell_of_row _ _ j _ _ _ hb]
  simpa using h
def cutS (s : S) (k : ByteArray) : Int × S := if refS s k ≠ 0 then (refS s k, s) else if (rget k (now s)).isSome then spendS (addW s ⟨true, k, ByteArray.empty⟩) else (123, s)
end Go.Proofs.YtmindflfjocjlaaGreat.yi

namespace Go.Proofs.YtmindflfjocjlaaGreat.yj
open Go.RowKit Go.PlainAid Go.Maps Go.Shelf
open Go.Proofs.YtmindflfjocjlaaGreat.ca Go.Proofs.YtmindflfjocjlaaGreat.cb Go.Proofs.YtmindflfjocjlaaGreat.cp Go.Proofs.YtmindflfjocjlaaGreat.kp Go.Proofs.YtmindflfjocjlaaGreat.ka Go.Proofs.YtmindflfjocjlaaGreat.ya Go.Proofs.YtmindflfjocjlaaGreat.yb Go.Proofs.YtmindflfjocjlaaGreat.yc Go.Proofs.YtmindflfjocjlaaGreat.yd Go.Proofs.YtmindflfjocjlaaGreat.ye Go.Proofs.YtmindflfjocjlaaGreat.yf Go.Proofs.YtmindflfjocjlaaGreat.yg Go.Proofs.YtmindflfjocjlaaGreat.yh Go.Proofs.YtmindflfjocjlaaGreat.yi Go.Proofs.YtmindflfjocjlaaGreat.sb Go.Proofs.YtmindflfjocjlaaGreat.mc
set_option linter.unusedVariables false
set_option linter.unusedSimpArgs false
set_option maxRecDepth 20000 in
set_option maxHeartbeats 12800000 in
theorem cutC {B g bn bd : Nat} {pv : Value} {s : S} {w : World} (k : ByteArray) (h : Sr B g bn bd pv s w) (hk : k.size ≤ 140737488355328) (hl : s.dur.length + s.pend.length + 1 < 3518437208883) (hB : B ≤ w.heap.size) :
    Calls Tryz.prog 53 #[.pointer (some ⟨g, 0, none⟩), .string k] w fun e w' => e = .returned (.int .i64 (cutS s k).1) ∧ Rn B g bn bd pv (cutS s k).2 w w' := by
  have CR : Hid (Calls _ _ _ _ _) := refusalC k h.row
  have c0 := h.row.c0
  have HM : Hid (Mp bn (now s) w) := h.mn
  have H : Hid (Sr B g bn bd pv s w) := h
  have hkm : k.size ≤ maxLen := by unfold maxLen; omega
  have HP : Hid (refS s k = 0 → 1 ≤ k.size ∧ k.size ≤ 64) := by
    intro e
    unfold refS at e
    split at e
    · cases e
    · split at e
      · assumption
      · cases e
  obtain ⟨x, HX⟩ : ∃ x, Hid (refS s k = x) := ⟨_, rfl⟩
  obtain ⟨o, HO⟩ : ∃ o, Hid (rget k (now s) = o) := ⟨_, rfl⟩
  have HCS : Hid (cutS s k = if x ≠ 0 then (x, s) else if o.isSome then spendS (addW s ⟨true, k, ByteArray.empty⟩) else (123, s)) := by show _ = _; unfold cutS; rw [HX.out, HO.out]
  rw [HX.out] at CR HP
  rw [HCS.out]
  clear h HCS
  by_cases hx : x = 0
  · subst hx
    rw [if_neg (by simp)]
    cases o with
    | none =>
      rw [if_neg (by simp)]
      have HY : Hid (∀ o, Rn B g bn bd pv s w (w.alloc o)) := fun o => Rn.of (sr_later H.out ((Below.refl _ w).alloc (Nat.le_refl _) _)) (Kp.of_below ((Below.refl _ w).alloc (Nat.le_refl _) _))
      clear H
      go_enter Tryz.func53, Tryz.ntmps53
      go_wp2_with (first | (go_at_call 59; refine CR.out.mono ?_; rintro _ _ ⟨rfl, hw⟩; rw [hw]; clear hw) | (at_lookup; refine wpList_look _ rfl _ _ rfl bn (now s) rfl HM.out k rfl hkm ?_; rw [HO.out]) | go_in)
      go_ret
      exact ⟨rfl, HY.out _⟩
    | some d =>
      rw [if_pos (by simp)]

      have iw := info_parts info_w
      obtain ⟨i0, hi, hz0, hz1, hz2⟩ := iw
      have HIN : Hid (_ ∧ _ ∧ _ ∧ _) := ⟨hi, hz0, hz1, hz2⟩
      clear hi hz0 hz1 hz2

      have hkk := HP.out rfl
      have OW : Hid (OkW ⟨true, k, ByteArray.empty⟩) := ⟨hkk.1, hkk.2, Nat.zero_le _⟩
      have sn := H.out.ok.snow
      have td := tot_del k (now s) sn
      have tt := H.out.ok.tot
      obtain ⟨T, HT⟩ : ∃ T, Hid (tot (now s) = T) := ⟨_, rfl⟩
      obtain ⟨a, HA⟩ : ∃ a, Hid (at0 k (now s) = a) := ⟨_, rfl⟩
      obtain ⟨D, HD⟩ : ∃ D, Hid (tot (del k (now s)) = D) := ⟨_, rfl⟩
      rw [HT.out, HA.out, HD.out] at td
      rw [HT.out] at tt
      have hwr : IntKind.i64.wrap ((T : Int) - (a : Int)) = (D : Int) := by
        rw [show (T : Int) - (a : Int) = (D : Int) by omega]
        exact wrap_is _ (by omega)
      have CL : Hid (∀ w, Calls _ _ _ _ _) := fun w => cloneC k w hk
      have HQ : Hid (Sq B g bn bd pv T (now s) s.dur s.pend.length (wcs bd s.pend) s w) := by have := sq_of H.out; rw [HT.out] at this; exact this
      have HX2 : Hid (∀ o w1, Below (w.alloc o).heap.size (w.alloc o) w1 → Sq B g bn bd pv T (now s) s.dur s.pend.length (wcs bd s.pend) s w1 ∧ Kp (Fr g bn bd pv) w w1) := fun o w1 b1 => by
        have b2 : Below w.heap.size w w1 := over ((Below.refl _ w).alloc (Nat.le_refl _) _) b1
        exact ⟨HQ.out.later b2, Kp.of_below b2⟩
      have ON : Hid (OkR (now s) ∧ OkS s) := ⟨H.out.ok.now, H.out.ok⟩
      clear td tt H HQ sn
      go_enter Tryz.func53, Tryz.ntmps53
      go_upto_region 8 with (first | (go_at_call 59; refine CR.out.mono ?_; rintro _ _ ⟨rfl, hw⟩; rw [hw]; clear hw) | (at_lookup; refine wpList_look _ rfl _ _ rfl bn (now s) rfl HM.out k rfl hkm ?_; rw [HO.out]) | (go_at_call 63; refine (CL.out _).mono ?_; rintro _ w1 ⟨rfl, b1⟩; have F1 : Hid (Sq B g bn bd pv T (now s) s.dur s.pend.length (wcs bd s.pend) s w1 ∧ Kp (Fr g bn bd pv) w w1) := HX2.out _ _ b1; clear b1) | go_in)
      have c3 := F1.out.1.row.c3
      have c01 := F1.out.1.row.c0
      have f3 := F1.out.1.row.fz 3
      have HR : Hid (Mp bn (now s) w1.drew ∧ k.size ≤ 140737488355328 ∧ OkR (now s)) := ⟨F1.out.1.mn, hk, ON.out.1⟩
      have FK : Hid (∀ w2, Below w1.drew.heap.size w1.drew w2 → Sq B g bn bd pv T (now s) s.dur s.pend.length (wcs bd s.pend) s w2 ∧ Kp (Fr g bn bd pv) w w2) := fun w2 b2 => by
        have b2' : Below w1.heap.size w1 w2 := ⟨b2.os, b2.tape, b2.output, b2.size, b2.block⟩
        exact ⟨F1.out.1.later b2', F1.out.2.trans (Kp.of_below b2')⟩
      clear CR CL HX2 c0 HM HO F1
      go_cut [37] (fun c wx => Hid (Sq B g bn bd pv D (now s) s.dur s.pend.length (wcs bd s.pend) s wx ∧ Kp (Fr g bn bd pv) w wx))
      case first =>
        go_region_law ((first | (have zz := HR.out; refine step_counts (by rfl) 34 35 36 (by rfl) (by rfl) bn (now s) k (by simp [Act.put]) (by simp [Act.put]) HR a HA ?_; intro w2 b2; have F2 : Hid _ := FK.out w2 b2; have c32 := F2.out.1.row.c3; have c02 := F2.out.1.row.c0; have f32 := F2.out.1.row.fz 3; clear b2 zz HR)))
        all_goals (go_wp2; go_meet; exact ⟨F2.out.1.u D, F2.out.2.trans (fr_g (Kp.setCell _ _ _ _ rfl))⟩)
      case rest =>
        have F3 : Hid _ := hcut.out
        clear hcut c3 c01 f3 HR FK hwr HA
        have c03 := F3.out.1.row.c0
        have CT : Hid (Calls _ _ _ _ _) := cutM bn (now s) k ByteArray.empty wc F3.out.1.mn hkm
        go_upto_region 10 with (first | (go_at_call 84; refine CT.out.mono ?_; rintro _ w4 ⟨rfl, m4, k4⟩; have F4 : Hid (Sq B g bn bd pv (tot (del k (now s))) (del k (now s)) s.dur s.pend.length (wcs bd s.pend) s w4 ∧ Kp (Fr g bn bd pv) w w4) := ⟨by rw [HD.out]; exact F3.out.1.nm m4 k4, F3.out.2.trans (fr_n k4)⟩; clear m4 k4) | go_in)
        have c24 := F4.out.1.row.c2
        have c14 := F4.out.1.row.c1
        have f24 := F4.out.1.row.fz 2
        have c24a : (w4.alloc (.cells #[.func (.func 84) #[.map (some bd)] #[], .string k, .string ⟨#[]⟩] 75)).cell? ⟨g, 2, none⟩ = some pv := (World.cell?_alloc_lt _ _ _ F4.out.1.row.lt).trans c24
        have c14a : (w4.alloc (.cells #[.func (.func 84) #[.map (some bd)] #[], .string k, .string ⟨#[]⟩] 75)).cell? ⟨g, 1, none⟩ = some (.map (some bd)) := (World.cell?_alloc_lt _ _ _ F4.out.1.row.lt).trans c14
        have O4 : Hid (w4.ownsRow B 75 3 pv s.pend.length (wcs bd s.pend)) := F4.out.1.pr
        have hB4 : B ≤ w4.heap.size := Nat.le_trans hB F4.out.2.size
        obtain ⟨n, HN⟩ : ∃ n, Hid (s.pend.length = n) := ⟨_, rfl⟩
        have hn : (n + 1) * 40 ≤ 140737488355328 := by have := HN.out; omega
        rw [HN.out] at O4
        have AR : Hid (∀ o w' g5 c5, w'.ownsRow B 75 3 (.slice (some ⟨g5, 0, none⟩) (n + 1) c5) (n + 1) (wcs bd s.pend ++ ye.wc bd ⟨true, k, ByteArray.empty⟩) → (w4.alloc o).grownBy w' pv.ownBlock → (pv.ownBlock = some g5 ∨ g5 = w4.heap.size + 1) → St g bn bd pv (tot (del k (now s))) s w' ∧ Rn B g bn bd pv (addW s ⟨true, k, ByteArray.empty⟩) w (w'.setCell ⟨g, 2, none⟩ (.slice (some ⟨g5, 0, none⟩) (n + 1) c5))) := fun o w' g5 c5 ho hg hlies => by
          rw [← HN.out] at ho ⊢
          obtain ⟨h1, h2, h3, h4⟩ := add_row F4.out.1 rfl ON.out.2 OW.out hl ho hg hlies
          refine ⟨h1, _, h3, F4.out.2.trans (h2.trans (fr_g (Kp.setCell _ _ _ _ rfl))), fun k hk => ?_⟩
          rcases h4 k hk with e | e
          · exact .inl e
          · exact .inr (Nat.le_trans F4.out.2.size e)
        have ONE : Hid (∀ u ∈ [Value.func (.func 84) #[.map (some bd)] #[], .string k, .string ByteArray.empty], u.oneCell' = true) := by intro u hu; simp only [List.mem_cons, List.not_mem_nil, or_false] at hu; rcases hu with rfl | rfl | rfl <;> rfl
        have O4a : Hid ((w4.alloc (.cells #[.func (.func 84) #[.map (some bd)] #[], .string k, .string ByteArray.empty] 75)).drew.ownsRow B 75 3 pv n (wcs bd s.pend)) := O4.out.alloc _
        have NW : Hid (∀ (j : Nat) (y : Value), [Value.func (.func 84) #[.map (some bd)] #[], .string k, .string ByteArray.empty][j]? = some y → (w4.alloc (.cells #[.func (.func 84) #[.map (some bd)] #[], .string k, .string ByteArray.empty] 75)).drew.cell? (Addr.add ⟨w4.heap.size, 0, none⟩ j) = some y) := new_three w4 _ _ _ _
        go_cut [59] (fun c wx => Hid (Rn B g bn bd pv (addW s ⟨true, k, ByteArray.empty⟩) w wx))
        case first =>
          go_region_law ((first | (have zz := O4a.out; refine step_append_lies _ (by rfl) (.tmp 50) (.tmp 58) 70 (by rfl) B 75 i0 (.agg #[.nilFunc, .string ByteArray.empty, .string ByteArray.empty]) 3 40 Tryz.underlying70 HIN.out.1 HIN.out.2.1 HIN.out.2.2.1 HIN.out.2.2.2 rfl (by decide) pv n _ (by simp [Act.eval]) O4a.out ⟨w4.heap.size, 0, none⟩ 1 1 [.func (.func 84) #[.map (some bd)] #[], .string k, .string ByteArray.empty] (by simp [Act.eval]) rfl NW.out ONE.out (by omega) (by unfold maxLen; omega) hn (by simp; omega) (w4.heap.size + 1) (by simp) ?_; intro g5 c5 w5 ho5 hg5 hl5 hlt5; have A5 : Hid _ := AR.out _ w5 g5 c5 ho5 ⟨hg5.os, hg5.tape, hg5.output, hg5.size, hg5.block⟩ hl5; have c25 := A5.out.1.c2; have f25 := A5.out.1.fz 2; clear ho5 hg5 hl5 zz)))
          all_goals (go_wp2; go_meet; exact A5.out.2)
        case rest =>
          obtain ⟨pv6, h6, k6, n6⟩ := hcut.out
          have CS : Hid (Calls _ _ _ _ _) := spendC h6.row h6.ok.arm
          have FS : Hid (∀ w7, St g bn bd pv6 (tot (now (addW s ⟨true, k, ByteArray.empty⟩))) (spendS (addW s ⟨true, k, ByteArray.empty⟩)).2 w7 → Kp (fun k => k = g) wc w7 → Rn B g bn bd pv (spendS (addW s ⟨true, k, ByteArray.empty⟩)).2 w w7) := fun w7 m7 k7 => ⟨pv6, sr_st h6 m7 k7, k6.trans (fr_g k7), n6⟩
          clear hcut h6 k6 n6 c24 c14 f24 c24a c14a O4 AR
          go_wp2_with (first | (go_at_call 65; refine CS.out.mono ?_; rintro _ w7 ⟨rfl, m7, k7⟩; have F7 : Hid _ := FS.out w7 m7 k7; clear m7 k7) | go_in)
          go_ret
          exact ⟨rfl, F7.out⟩
  · rw [if_pos hx]
    have hx' : (x != 0) = true := by rw [bne_iff_ne]; exact hx
    clear hx
    go_enter Tryz.func53, Tryz.ntmps53
    go_wp2_with (first | (go_at_call 59; refine CR.out.mono ?_; rintro _ _ ⟨rfl, hw⟩; rw [hw]; clear hw) | go_in)
    go_ret
    exact ⟨rfl, Rn.refl H.out⟩
end Go.Proofs.YtmindflfjocjlaaGreat.yj

namespace Go.Proofs.YtmindflfjocjlaaGreat.yk
open Go.RowKit Go.PlainAid Go.Maps Go.Shelf
open Go.Proofs.YtmindflfjocjlaaGreat.ca Go.Proofs.YtmindflfjocjlaaGreat.cb Go.Proofs.YtmindflfjocjlaaGreat.cp Go.Proofs.YtmindflfjocjlaaGreat.kp Go.Proofs.YtmindflfjocjlaaGreat.ka Go.Proofs.YtmindflfjocjlaaGreat.ya Go.Proofs.YtmindflfjocjlaaGreat.yb Go.Proofs.YtmindflfjocjlaaGreat.yc Go.Proofs.YtmindflfjocjlaaGreat.yd Go.Proofs.YtmindflfjocjlaaGreat.ye Go.Proofs.YtmindflfjocjlaaGreat.yf Go.Proofs.YtmindflfjocjlaaGreat.yg Go.Proofs.YtmindflfjocjlaaGreat.yh Go.Proofs.YtmindflfjocjlaaGreat.yi Go.Proofs.YtmindflfjocjlaaGreat.sb Go.Proofs.YtmindflfjocjlaaGreat.mc
set_option linter.unusedVariables false
set_option linter.unusedSimpArgs false
def putS (s : S) (k d : ByteArray) : Int × S := if refS s k ≠ 0 then (refS s k, s) else if d.size ≤ 1048576 then (if s.cap < (tot (put k d (now s)) : Nat) ∧ tot (now s) < tot (put k d (now s)) then (122, s) else spendS (addW s ⟨false, k, d⟩)) else (121, s)
theorem step_count {ops : Array Oper} {o : Oper} {a : Act} {w : World} {K : Act → World → Prop} {Q : Exit → Act → World → Prop} {E : Prop} (hg : o.guard = none) (k l d : Nat)
    (hop : o.op = .call { callee := .value (.func 62), args := #[.tmp k, .tmp l], argTypes := #[9, 9] }) (hd : o.dst = some d) (x y : ByteArray)
    (hy : a.tmps[k]?.getD undef = .string x) (hy2 : a.tmps[l]?.getD undef = .string y) (hx : x.size ≤ 140737488355328) (hy3 : y.size ≤ 140737488355328) (n : Nat) (HN : Hid (cnt (x, y) = n))
    (hK : K { tmps := a.tmps.setIfInBounds d (.int .i64 n), defers := a.defers } w) :
    if Region.wanted o (yielded ops a.tmps) = true then Oper.wp Tryz.prog o a w K Q else E := by
  have hw : Region.wanted o (yielded ops a.tmps) = true := by simp [Region.wanted, hg]
  rw [if_pos hw]
  have C := countC x y w hx hy3
  rw [HN.out] at C
  have HKK : Hid _ := hK
  clear hK HN
  unfold Oper.wp execOp
  simp only [hop]
  go_simp
  refine C.mono ?_
  rintro e w' ⟨rfl, rfl⟩
  exact HKK.out
set_option maxRecDepth 20000 in
set_option maxHeartbeats 12800000 in
theorem putC {B g bn bd : Nat} {pv : Value} {s : S} {w : World} (k d : ByteArray) (h : Sr B g bn bd pv s w) (hk : k.size ≤ 140737488355328) (hd : d.size ≤ 140737488355328) (hl : s.dur.length + s.pend.length + 1 < 3518437208883) (hB : B ≤ w.heap.size) :
    Calls Tryz.prog 26 #[.pointer (some ⟨g, 0, none⟩), .string k, .string d] w fun e w' => e = .returned (.int .i64 (putS s k d).1) ∧ Rn B g bn bd pv (putS s k d).2 w w' := by
  have CR : Hid (Calls _ _ _ _ _) := refusalC k h.row
  have CG : Hid (∀ w, Calls _ _ _ _ _) := fun w => dataGoC d w
  have H : Hid (Sr B g bn bd pv s w) := h
  have hkm : k.size ≤ maxLen := by unfold maxLen; omega
  have hdm : d.size ≤ maxLen := by unfold maxLen; omega
  have HP : Hid (refS s k = 0 → 1 ≤ k.size ∧ k.size ≤ 64) := by
    intro e
    unfold refS at e
    split at e
    · cases e
    · split at e
      · assumption
      · cases e
  obtain ⟨x, HX⟩ : ∃ x, Hid (refS s k = x) := ⟨_, rfl⟩
  have HCS : Hid (putS s k d = if x ≠ 0 then (x, s) else if d.size ≤ 1048576 then (if s.cap < (tot (put k d (now s)) : Nat) ∧ tot (now s) < tot (put k d (now s)) then (122, s) else spendS (addW s ⟨false, k, d⟩)) else (121, s)) := by show _ = _; unfold putS; rw [HX.out]
  rw [HX.out] at CR HP
  rw [HCS.out]
  clear h HCS
  by_cases hx : x = 0
  · subst hx
    rw [if_neg (by simp)]
    by_cases hd1 : d.size ≤ 1048576
    · rw [if_pos hd1]
      rw [decide_eq_true hd1] at CG
      have iw := info_parts info_w
      obtain ⟨i0, hi, hz0, hz1, hz2⟩ := iw
      have HIN : Hid (_ ∧ _ ∧ _ ∧ _) := ⟨hi, hz0, hz1, hz2⟩
      clear hi hz0 hz1 hz2
      have hkk := HP.out rfl
      have OW : Hid (OkW ⟨false, k, d⟩) := ⟨hkk.1, hkk.2, hd1⟩
      have sn := H.out.ok.snow
      have td := tot_del k (now s) sn
      have tp : tot (put k d (now s)) = tot (del k (now s)) + cnt (k, d) := by have := tot_put k d (now s) sn; omega
      have tt := H.out.ok.tot
      have hcnt : cnt (k, d) = k.size + d.size + 16 := rfl
      have hc0 := H.out.ok.cap0
      have hc1 := H.out.ok.cap1
      obtain ⟨T, HT⟩ : ∃ T, Hid (tot (now s) = T) := ⟨_, rfl⟩
      obtain ⟨a, HA⟩ : ∃ a, Hid (at0 k (now s) = a) := ⟨_, rfl⟩
      obtain ⟨D, HD⟩ : ∃ D, Hid (tot (del k (now s)) = D) := ⟨_, rfl⟩
      obtain ⟨q, HQ⟩ : ∃ q, Hid (cnt (k, d) = q) := ⟨_, rfl⟩
      obtain ⟨P, HPP⟩ : ∃ P, Hid (tot (put k d (now s)) = P) := ⟨_, rfl⟩
      rw [HT.out, HA.out, HD.out] at td
      rw [HPP.out, HD.out, HQ.out] at tp
      rw [HT.out] at tt
      rw [HQ.out] at hcnt
      have hwr : IntKind.i64.wrap ((T : Int) - (a : Int)) = (D : Int) := by
        rw [show (T : Int) - (a : Int) = (D : Int) by omega]
        exact wrap_is _ (by omega)
      have hwr2 : IntKind.i64.wrap ((D : Int) + (q : Int)) = (P : Int) := by
        rw [show (D : Int) + (q : Int) = (P : Int) by omega]
        exact wrap_is _ (by omega)
      have HIF : Hid ((if s.cap < (tot (put k d (now s)) : Nat) ∧ tot (now s) < tot (put k d (now s)) then ((122 : Int), s) else spendS (addW s ⟨false, k, d⟩)) = if s.cap < (P : Int) ∧ T < P then (122, s) else spendS (addW s ⟨false, k, d⟩)) := by show _ = _; rw [HPP.out, HT.out]
      obtain ⟨R, HRR⟩ : ∃ R, Hid ((if s.cap < (P : Int) ∧ T < P then ((122 : Int), s) else spendS (addW s ⟨false, k, d⟩)) = R) := ⟨_, rfl⟩
      rw [HIF.out, HRR.out]
      have H0 : Hid (Sq B g bn bd pv T (now s) s.dur s.pend.length (wcs bd s.pend) s w) := by have := sq_of H.out; rw [HT.out] at this; exact this
      have ON : Hid (OkR (now s) ∧ OkS s) := ⟨H.out.ok.now, H.out.ok⟩
      have hln : (now s).length < maxLen := by have := H.out.ok.lnow; unfold maxLen; omega
      have c3 := H0.out.row.c3
      have c01 := H0.out.row.c0
      have HR : Hid (Mp bn (now s) w.drew ∧ k.size ≤ 140737488355328 ∧ OkR (now s)) := ⟨H0.out.mn, hk, ON.out.1⟩
      have FK : Hid (∀ w2, Below w.drew.heap.size w.drew w2 → Sq B g bn bd pv T (now s) s.dur s.pend.length (wcs bd s.pend) s w2 ∧ Kp (Fr g bn bd pv) w w2) := fun w2 b2 => by
        have b2' : Below w.heap.size w w2 := ⟨b2.os, b2.tape, b2.output, b2.size, b2.block⟩
        exact ⟨H0.out.later b2', Kp.of_below b2'⟩
      clear td tt tp hcnt H H0 sn HIF hkk
      go_enter Tryz.func26, Tryz.ntmps26
      go_upto_region 6 with (first | (go_at_call 59; refine CR.out.mono ?_; rintro _ _ ⟨rfl, hw⟩; rw [hw]; clear hw) | (go_at_call 60; refine (CG.out _).mono ?_; rintro _ _ ⟨rfl, hw⟩; rw [hw]; clear hw) | go_in)
      go_cut [8] (fun c wx => c = .int .i64 P ∧ Hid (Sq B g bn bd pv T (now s) s.dur s.pend.length (wcs bd s.pend) s wx ∧ Kp (Fr g bn bd pv) w wx))
      case first =>
        go_region_law ((first | (have zz := HR.out; refine step_counts (by rfl) 25 26 27 (by rfl) (by rfl) bn (now s) k (by simp [Act.put]) (by simp [Act.put]) HR a HA ?_; intro w2 b2; have F2 : Hid _ := FK.out w2 b2; have c32 := F2.out.1.row.c3; have c02 := F2.out.1.row.c0; clear b2 zz HR) | (refine step_count (by rfl) 29 30 31 (by rfl) (by rfl) k d (by simp [Act.put]) (by simp [Act.put]) hk hd q HQ ?_)))
        all_goals (go_wp2; go_meet; exact ⟨rfl, F2.out⟩)
      case rest =>
        obtain ⟨rfl, h3⟩ := hcut
        have F3 : Hid _ := h3.out
        clear h3 c3 c01 HR FK hwr hwr2 HA CR CG
        have c33 := F3.out.1.row.c3
        have c43 := F3.out.1.row.c4
        have CK : Hid (∀ w, Calls _ _ _ _ _) := fun w => cloneC k w hk
        have CD : Hid (∀ w, Calls _ _ _ _ _) := fun w => cloneC d w hd
        go_upto_region 7 with fail
        obtain ⟨w3, HW3⟩ : ∃ w3, w3 = wc := ⟨_, rfl⟩
        rw [← HW3] at F3 c33 c43 ⊢
        clear HW3
        go_cut [46] (fun c wx => c = .bool (decide (s.cap < (P : Int) ∧ T < P)) ∧ wx = w3)
        case first =>
          by_cases hf1 : s.cap < (P : Int)
          · have hg1 : decide (s.cap < (P : Int)) = true := by simp; exact hf1
            by_cases hf2 : T < P
            · have hf3 : (T : Int) < P := by omega
              have hg2 : decide ((T : Int) < P) = true := by simp; omega
              go_wp2_with fail
              go_meet
              exact ⟨by simp [hf1, hf2], rfl⟩
            · have hf3 : ¬ (T : Int) < P := by omega
              have hg2 : decide ((T : Int) < P) = false := by simp; omega
              go_wp2_with fail
              go_meet
              exact ⟨by simp [hf1, hf2], rfl⟩
          · have hg1 : decide (s.cap < (P : Int)) = false := by simp; omega
            go_wp2_with fail
            go_meet
            exact ⟨congrArg Value.bool (decide_eq_false (fun h => by have := h.1; omega)).symm, rfl⟩
        case rest =>
          obtain ⟨rfl, hw3⟩ := hcut
          rw [hw3]
          clear hw3
          by_cases hfull : s.cap < (P : Int) ∧ T < P
          · have HRn : Hid (Rn B g bn bd pv s w w3) := by
              refine Rn.of (sr_of ?_ ON.out.2) F3.out.2
              rw [HT.out]; exact F3.out.1
            have HE : Hid (R = ((122 : Int), s)) := by show _ = _; rw [← HRR.out, if_pos hfull]
            rw [decide_eq_true hfull]
            clear hfull
            go_wp2_with fail
            go_ret
            exact ⟨by rw [HE.out]; rfl, by rw [HE.out]; exact HRn.out⟩
          · have HE : Hid (R = spendS (addW s ⟨false, k, d⟩)) := by show _ = _; rw [← HRR.out, if_neg hfull]
            rw [decide_eq_false hfull]
            clear hfull
            have FC : Hid (∀ w1, Below w3.heap.size w3 w1 → Sq B g bn bd pv T (now s) s.dur s.pend.length (wcs bd s.pend) s w1 ∧ Kp (Fr g bn bd pv) w w1) := fun w1 b1 => ⟨F3.out.1.later b1, F3.out.2.trans (Kp.of_below b1)⟩
            clear c33 c43
            go_upto_region 10 with (first | (go_at_call 63; refine (CK.out _).mono ?_; rintro _ w5 ⟨rfl, b5⟩; have B5 : Hid (Below w3.heap.size w3 w5) := b5; clear b5 CK) | (go_at_call 63; refine (CD.out _).mono ?_; rintro _ w6 ⟨rfl, b6⟩; have F6 : Hid (Sq B g bn bd pv T (now s) s.dur s.pend.length (wcs bd s.pend) s w6 ∧ Kp (Fr g bn bd pv) w w6) := FC.out _ (over B5.out b6); clear b6 CD) | go_in)
            have c06 := F6.out.1.row.c0
            have CT : Hid (Calls _ _ _ _ _) := putM bn (now s) k d w6 F6.out.1.mn hkm hdm hln
            go_upto_region 11 with (first | (go_at_call 64; refine CT.out.mono ?_; rintro _ w7 ⟨rfl, m7, k7⟩; have F7 : Hid (Sq B g bn bd pv T (put k d (now s)) s.dur s.pend.length (wcs bd s.pend) s w7 ∧ Kp (Fr g bn bd pv) w w7) := ⟨F6.out.1.nm m7 k7, F6.out.2.trans (fr_n k7)⟩; clear m7 k7) | go_in)
            have c37 := F7.out.1.row.c3
            have f37 := F7.out.1.row.fz 3
            have F4' : Hid (Sq B g bn bd pv (tot (put k d (now s))) (put k d (now s)) s.dur s.pend.length (wcs bd s.pend) s (w7.setCell ⟨g, 3, none⟩ (.int .i64 P)) ∧ Kp (Fr g bn bd pv) w (w7.setCell ⟨g, 3, none⟩ (.int .i64 P))) := ⟨by rw [HPP.out]; exact F7.out.1.u P, F7.out.2.trans (fr_g (Kp.setCell _ _ _ _ rfl))⟩
            go_upto_region 12 with fail
            obtain ⟨w4, HW4⟩ : ∃ w4, w4 = w7.setCell ⟨g, 3, none⟩ (.int .i64 P) := ⟨_, rfl⟩
            rw [← HW4] at F4' ⊢
            have F4 : Hid _ := F4'.out
            clear HW4 F4' F7 F6 CT c06 c37 f37 FC F3
            have c24 := F4.out.1.row.c2
            have c14 := F4.out.1.row.c1
            have f24 := F4.out.1.row.fz 2
            have c24a : (w4.alloc (.cells #[.func (.func 64) #[.map (some bd)] #[], .string k, .string d] 75)).cell? ⟨g, 2, none⟩ = some pv := (World.cell?_alloc_lt _ _ _ F4.out.1.row.lt).trans c24
            have c14a : (w4.alloc (.cells #[.func (.func 64) #[.map (some bd)] #[], .string k, .string d] 75)).cell? ⟨g, 1, none⟩ = some (.map (some bd)) := (World.cell?_alloc_lt _ _ _ F4.out.1.row.lt).trans c14
            have O4 : Hid (w4.ownsRow B 75 3 pv s.pend.length (wcs bd s.pend)) := F4.out.1.pr
            have hB4 : B ≤ w4.heap.size := Nat.le_trans hB F4.out.2.size
            obtain ⟨n, HN⟩ : ∃ n, Hid (s.pend.length = n) := ⟨_, rfl⟩
            have hn : (n + 1) * 40 ≤ 140737488355328 := by have := HN.out; omega
            rw [HN.out] at O4
            have AR : Hid (∀ o w' g5 c5, w'.ownsRow B 75 3 (.slice (some ⟨g5, 0, none⟩) (n + 1) c5) (n + 1) (wcs bd s.pend ++ ye.wc bd ⟨false, k, d⟩) → (w4.alloc o).grownBy w' pv.ownBlock → (pv.ownBlock = some g5 ∨ g5 = w4.heap.size + 1) → St g bn bd pv (tot (put k d (now s))) s w' ∧ Rn B g bn bd pv (addW s ⟨false, k, d⟩) w (w'.setCell ⟨g, 2, none⟩ (.slice (some ⟨g5, 0, none⟩) (n + 1) c5))) := fun o w' g5 c5 ho hg hlies => by
              rw [← HN.out] at ho ⊢
              obtain ⟨h1, h2, h3, h4⟩ := add_row F4.out.1 rfl ON.out.2 OW.out hl ho hg hlies
              refine ⟨h1, _, h3, F4.out.2.trans (h2.trans (fr_g (Kp.setCell _ _ _ _ rfl))), fun k hk => ?_⟩
              rcases h4 k hk with e | e
              · exact .inl e
              · exact .inr (Nat.le_trans F4.out.2.size e)
            have ONE : Hid (∀ u ∈ [Value.func (.func 64) #[.map (some bd)] #[], .string k, .string d], u.oneCell' = true) := by intro u hu; simp only [List.mem_cons, List.not_mem_nil, or_false] at hu; rcases hu with rfl | rfl | rfl <;> rfl
            have O4a : Hid ((w4.alloc (.cells #[.func (.func 64) #[.map (some bd)] #[], .string k, .string d] 75)).drew.ownsRow B 75 3 pv n (wcs bd s.pend)) := O4.out.alloc _
            have NW : Hid (∀ (j : Nat) (y : Value), [Value.func (.func 64) #[.map (some bd)] #[], .string k, .string d][j]? = some y → (w4.alloc (.cells #[.func (.func 64) #[.map (some bd)] #[], .string k, .string d] 75)).drew.cell? (Addr.add ⟨w4.heap.size, 0, none⟩ j) = some y) := new_three w4 _ _ _ _
            go_cut [76] (fun c wx => Hid (Rn B g bn bd pv (addW s ⟨false, k, d⟩) w wx))
            case first =>
              go_region_law ((first | (have zz := O4a.out; refine step_append_lies _ (by rfl) (.tmp 66) (.tmp 75) 70 (by rfl) B 75 i0 (.agg #[.nilFunc, .string ByteArray.empty, .string ByteArray.empty]) 3 40 Tryz.underlying70 HIN.out.1 HIN.out.2.1 HIN.out.2.2.1 HIN.out.2.2.2 rfl (by decide) pv n _ (by simp [Act.eval]) O4a.out ⟨w4.heap.size, 0, none⟩ 1 1 [.func (.func 64) #[.map (some bd)] #[], .string k, .string d] (by simp [Act.eval]) rfl NW.out ONE.out (by omega) (by unfold maxLen; omega) hn (by simp; omega) (w4.heap.size + 1) (by simp) ?_; intro g5 c5 w5 ho5 hg5 hl5 hlt5; have A5 : Hid _ := AR.out _ w5 g5 c5 ho5 ⟨hg5.os, hg5.tape, hg5.output, hg5.size, hg5.block⟩ hl5; have c25 := A5.out.1.c2; have f25 := A5.out.1.fz 2; clear ho5 hg5 hl5 zz)))
              all_goals (go_wp2; go_meet; exact A5.out.2)
            case rest =>
              obtain ⟨pv6, h6, k6, n6⟩ := hcut.out
              have CS : Hid (Calls _ _ _ _ _) := spendC h6.row h6.ok.arm
              have FS : Hid (∀ w7, St g bn bd pv6 (tot (now (addW s ⟨false, k, d⟩))) (spendS (addW s ⟨false, k, d⟩)).2 w7 → Kp (fun k => k = g) wc w7 → Rn B g bn bd pv (spendS (addW s ⟨false, k, d⟩)).2 w w7) := fun w7 m7 k7 => ⟨pv6, sr_st h6 m7 k7, k6.trans (fr_g k7), n6⟩
              clear hcut h6 k6 n6 c24 c14 f24 c24a c14a O4 AR
              go_wp2_with (first | (go_at_call 65; refine CS.out.mono ?_; rintro _ w7 ⟨rfl, m7, k7⟩; have F7 : Hid _ := FS.out w7 m7 k7; clear m7 k7) | go_in)
              go_ret
              exact ⟨by rw [HE.out]; rfl, by rw [HE.out]; exact F7.out⟩
    · rw [if_neg hd1]
      rw [decide_eq_false hd1] at CG
      go_enter Tryz.func26, Tryz.ntmps26
      go_wp2_with (first | (go_at_call 59; refine CR.out.mono ?_; rintro _ _ ⟨rfl, hw⟩; rw [hw]; clear hw) | (go_at_call 60; refine (CG.out _).mono ?_; rintro _ _ ⟨rfl, hw⟩; rw [hw]; clear hw) | go_in)
      go_ret
      exact ⟨rfl, Rn.refl H.out⟩
  · rw [if_pos hx]
    have hx' : (x != 0) = true := by rw [bne_iff_ne]; exact hx
    clear hx
    go_enter Tryz.func26, Tryz.ntmps26
    go_wp2_with (first | (go_at_call 59; refine CR.out.mono ?_; rintro _ _ ⟨rfl, hw⟩; rw [hw]; clear hw) | go_in)
    go_ret
    exact ⟨rfl, Rn.refl H.out⟩
end Go.Proofs.YtmindflfjocjlaaGreat.yk
