import Derived.Test.YtlkkibiedlakfaaGreatYg
namespace Go.Proofs.YtlkkibiedlakfaaGreat.yh
open Go.RowKit Go.PlainAid Go.Maps Go.Shelf
open Go.Proofs.YtlkkibiedlakfaaGreat.ca Go.Proofs.YtlkkibiedlakfaaGreat.cb Go.Proofs.YtlkkibiedlakfaaGreat.cp Go.Proofs.YtlkkibiedlakfaaGreat.kp Go.Proofs.YtlkkibiedlakfaaGreat.ka Go.Proofs.YtlkkibiedlakfaaGreat.ya Go.Proofs.YtlkkibiedlakfaaGreat.yb Go.Proofs.YtlkkibiedlakfaaGreat.yc Go.Proofs.YtlkkibiedlakfaaGreat.yd Go.Proofs.YtlkkibiedlakfaaGreat.ye Go.Proofs.YtlkkibiedlakfaaGreat.yf Go.Proofs.YtlkkibiedlakfaaGreat.yg Go.Proofs.YtlkkibiedlakfaaGreat.sb Go.Proofs.YtlkkibiedlakfaaGreat.mc
set_option linter.unusedVariables false
set_option linter.unusedSimpArgs false
def tb (rd rn : List Rec) (k : ByteArray) : List Rec := match rget k rd with | some d => put k d rn | none => del k rn
theorem at_put (k d : ByteArray) (r : List Rec) (h : Srt r) : at0 k (put k d r) = cnt (k, d) := by unfold at0; rw [get_put_same h]
theorem at_del (k : ByteArray) (r : List Rec) : at0 k (del k r) = 0 := by unfold at0; rw [get_del_same]
set_option maxRecDepth 20000 in
set_option maxHeartbeats 6400000 in
theorem takeBackC {B g bn bd n : Nat} {pv : Value} {rn rd : List Rec} {xs : List Value} {s : S} {w : World} (h : Sq B g bn bd pv (tot rn) rn rd n xs s w) (k : ByteArray) (hk : k.size ≤ 140737488355328) (on : OkR rn) (od : OkR rd) (ln : rn.length < 8000000000000) :
    Calls Tryz.prog 54 #[.pointer (some ⟨g, 0, none⟩), .string k] w fun e w' => e = .returned (.tuple #[]) ∧ Sq B g bn bd pv (tot (tb rd rn k)) (tb rd rn k) rd n xs s w' ∧ Kp (Fr g bn bd pv) w w' := by
  have sn := h.mn.srt
  have td := tot_del k rn sn
  have tt := on.tot
  have H : Hid (Sq B g bn bd pv (tot rn) rn rd n xs s w) := h
  have hkm : k.size ≤ maxLen := by unfold maxLen; omega
  obtain ⟨T, HT⟩ : ∃ T, Hid (tot rn = T) := ⟨_, rfl⟩
  obtain ⟨a, HA⟩ : ∃ a, Hid (at0 k rn = a) := ⟨_, rfl⟩
  obtain ⟨D, HD⟩ : ∃ D, Hid (tot (del k rn) = D) := ⟨_, rfl⟩
  rw [HT.out, HA.out, HD.out] at td
  rw [HT.out] at tt H
  have hwr : IntKind.i64.wrap ((T : Int) - (a : Int)) = (D : Int) := by
    rw [show (T : Int) - (a : Int) = (D : Int) by omega]
    exact wrap_is _ (by omega)
  have hDb : D ≤ 8389248000000000000 := by omega
  clear td tt
  have c3 := H.out.row.c3
  have c0 := H.out.row.c0
  have f3 := H.out.row.fz 3
  have HR : Hid (Mp bn rn w.drew ∧ k.size ≤ 140737488355328 ∧ OkR rn) := ⟨H.out.mn, hk, on⟩
  have FK : Hid (∀ w1, Below w.drew.heap.size w.drew w1 → Sq B g bn bd pv T rn rd n xs s w1 ∧ Kp (Fr g bn bd pv) w w1) := fun w1 b1 => by
    have b1' : Below w.heap.size w w1 := ⟨b1.os, b1.tape, b1.output, b1.size, b1.block⟩
    exact ⟨H.out.later b1', Kp.of_below b1'⟩
  have HN1 : Hid (at0 k (tb rd rn k) + D = tot (tb rd rn k) ∧ OkR (tb rd rn k) ∧ at0 k (tb rd rn k) ≤ 1048656) := by
    have e : at0 k (tb rd rn k) + D = tot (tb rd rn k) ∧ OkR (tb rd rn k) := by
      unfold tb
      cases hg : rget k rd with
      | none => exact ⟨by rw [at_del, HD.out]; omega, on.del⟩
      | some d =>
        have h1 := tot_put k d rn sn
        have h2 := tot_del k rn sn
        rw [HD.out] at h2
        have h3 := od.get hg
        exact ⟨by simp only; rw [at_put k d rn sn]; omega, on.put h3.1 h3.2.1 h3.2.2⟩
    exact ⟨e.1, e.2, at0_le e.2⟩
  clear h
  go_enter Tryz.func54, Tryz.ntmps54
  go_upto_region 0 with fail
  go_cut [16] (fun c wx => Hid (Sq B g bn bd pv D rn rd n xs s wx ∧ Kp (Fr g bn bd pv) w wx))
  case first =>
    go_region_law ((first | (have zz := HR.out; refine step_counts (by rfl) 13 14 15 (by rfl) (by rfl) bn rn k (by simp [Act.put]) (by simp [Act.put]) HR a HA ?_; intro w1 b1; have F1 : Hid _ := FK.out w1 b1; have c31 := F1.out.1.row.c3; have c01 := F1.out.1.row.c0; have f31 := F1.out.1.row.fz 3; clear b1 zz HR)))
    all_goals (go_wp2; go_meet; exact ⟨F1.out.1.u D, F1.out.2.trans (fr_g (Kp.setCell _ _ _ _ rfl))⟩)
  case rest =>
    have HC : Hid _ := hcut.out
    clear hcut c3 c0 f3 HR FK hwr HA H
    have c1 := HC.out.1.row.c1
    have HMd : Hid (Mp bd rd wc) := HC.out.1.md
    have c0 := HC.out.1.row.c0
    obtain ⟨q, HQ⟩ : ∃ q, Hid (at0 k (tb rd rn k) = q) := ⟨_, rfl⟩
    obtain ⟨T2, HT2⟩ : ∃ T2, Hid (tot (tb rd rn k) = T2) := ⟨_, rfl⟩
    have hT2 : q + D = T2 ∧ q ≤ 1048656 := by have := HN1.out; rw [HQ.out, HT2.out] at this; exact ⟨this.1, this.2.2⟩
    have hwr : IntKind.i64.wrap ((D : Int) + (q : Int)) = (T2 : Int) := by
      rw [show (D : Int) + (q : Int) = (T2 : Int) by omega]
      exact wrap_is _ (by omega)
    clear hT2
    have FIN : Hid (∀ w2, Sq B g bn bd pv D (tb rd rn k) rd n xs s w2 → Kp (Fr g bn bd pv) w w2 → (Mp bn (tb rd rn k) w2.drew ∧ k.size ≤ 140737488355328 ∧ OkR (tb rd rn k)) ∧ (w2.cell? ⟨g, 3, none⟩ = some (.int .i64 D) ∧ w2.cell? ⟨g, 0, none⟩ = some (.map (some bn)) ∧ w2.frozen? ⟨g, 3, none⟩ = false) ∧ ∀ w3, Below w2.drew.heap.size w2.drew w3 → Sq B g bn bd pv D (tb rd rn k) rd n xs s w3 ∧ Kp (Fr g bn bd pv) w w3) := fun w2 h2 k2 => by
      refine ⟨⟨h2.mn, hk, HN1.out.2.1⟩, ⟨h2.row.c3, h2.row.c0, h2.row.fz 3⟩, fun w3 b3 => ?_⟩
      have b3' : Below w2.heap.size w2 w3 := ⟨b3.os, b3.tape, b3.output, b3.size, b3.block⟩
      exact ⟨h2.later b3', k2.trans (Kp.of_below b3')⟩
    obtain ⟨ob, HO⟩ : ∃ ob, Hid (rget k rd = ob) := ⟨_, rfl⟩
    clear HN1 HT
    cases ob with
    | none =>
      have HE : Hid (tb rd rn k = del k rn) := by show _ = _; unfold tb; rw [HO.out]
      have HX : Hid (∀ o, Sq B g bn bd pv D rn rd n xs s (wc.alloc o) ∧ Kp (Fr g bn bd pv) w (wc.alloc o)) := fun o => ⟨HC.out.1.later ((Below.refl _ wc).alloc (Nat.le_refl _) _), HC.out.2.trans (Kp.of_below ((Below.refl _ wc).alloc (Nat.le_refl _) _))⟩
      go_upto_region 4 with (first | (at_lookup; refine wpList_look _ rfl _ _ rfl bd rd rfl HMd.out k rfl hkm ?_; rw [HO.out]) | go_in)
      have HX1 : Hid _ := HX.out (.cells #[.string ByteArray.empty] 117)
      have c0' := HX1.out.1.row.c0
      clear HX HC c1 HMd
      go_upto_region 5 with (first | (at_delete; refine wpList_cut _ rfl _ _ rfl bn rn rfl HX1.out.1.mn k rfl hkm ?_; intro w1 h1 k1; have F1 : Hid (Sq B g bn bd pv D (tb rd rn k) rd n xs s w1 ∧ Kp (Fr g bn bd pv) w w1) := ⟨by rw [HE.out]; exact HX1.out.1.nm h1 k1, HX1.out.2.trans (fr_n k1)⟩; clear h1 k1) | go_in)
      obtain ⟨hr, hcs, hw3⟩ := FIN.out w1 F1.out.1 F1.out.2
      have HR : Hid _ := hr
      have FK : Hid _ := hw3
      obtain ⟨c31, c01, f31⟩ := hcs
      clear hr hw3 HE c0 c0' HX1 FIN HO
      go_region_law ((first | (have zz := HR.out; refine step_counts (by rfl) 47 48 49 (by rfl) (by rfl) bn (tb rd rn k) k (by simp [Act.put]) (by simp [Act.put]) HR q HQ ?_; intro w3 b3; have F3 : Hid _ := FK.out w3 b3; have c33 := F3.out.1.row.c3; have c03 := F3.out.1.row.c0; have f33 := F3.out.1.row.fz 3; clear b3 zz HR)))
      all_goals (go_wp2; go_end0; exact ⟨rfl, by rw [HT2.out]; exact F3.out.1.u T2, F3.out.2.trans (fr_g (Kp.setCell _ _ _ _ rfl))⟩)
    | some d =>
      have HE : Hid (tb rd rn k = put k d rn) := by show _ = _; unfold tb; rw [HO.out]
      have hdm : d.size ≤ maxLen := by have := (od.get HO.out).2.2; unfold maxLen; omega
      have hlm : rn.length < maxLen := by unfold maxLen; omega
      have HX : Hid (∀ o, Sq B g bn bd pv D rn rd n xs s (wc.alloc o) ∧ Kp (Fr g bn bd pv) w (wc.alloc o)) := fun o => ⟨HC.out.1.later ((Below.refl _ wc).alloc (Nat.le_refl _) _), HC.out.2.trans (Kp.of_below ((Below.refl _ wc).alloc (Nat.le_refl _) _))⟩
      go_upto_region 3 with (first | (at_lookup; refine wpList_look _ rfl _ _ rfl bd rd rfl HMd.out k rfl hkm ?_; rw [HO.out]) | go_in)
      have HX1 : Hid _ := HX.out (.cells #[.string d] 117)
      have c0' := HX1.out.1.row.c0
      have HR0 : Hid (Mp bn rn (wc.alloc (.cells #[.string d] 117)).drew ∧ rn.length < maxLen ∧ k.size ≤ maxLen ∧ d.size ≤ maxLen) := ⟨HX1.out.1.mn, hlm, hkm, hdm⟩
      have FK0 : Hid (∀ w1, Mp bn (put k d rn) w1 → Kp (fun k => k = bn) (wc.alloc (.cells #[.string d] 117)).drew w1 → Sq B g bn bd pv D (tb rd rn k) rd n xs s w1 ∧ Kp (Fr g bn bd pv) w w1) := fun w1 h1 k1 => by
        have k1' : Kp (fun k => k = bn) (wc.alloc (.cells #[.string d] 117)) w1 := ⟨k1.os, k1.tape, k1.output, k1.size, k1.block⟩
        exact ⟨by rw [HE.out]; exact HX1.out.1.nm h1 k1', HX1.out.2.trans (fr_n k1')⟩
      clear HX HC c1 HMd HE
      go_cut [33] (fun c wx => Hid (Sq B g bn bd pv D (tb rd rn k) rd n xs s wx ∧ Kp (Fr g bn bd pv) w wx))
      case first =>
        obtain ⟨w1, hrun, r1, r2⟩ := World.ownsMap.store HR0.out.1 law Tryz.underlying59 HR0.out.2.1 (key_is HR0.out.2.2.1) (recE_mk HR0.out.2.2.2)
        rw [dat_put] at r1
        have F1 : Hid _ := FK0.out w1 (own_exact r1) (kp_turn r2)
        clear r1 r2
        go_region
        all_goals (go_wp2; go_meet; exact F1.out)
      case rest =>
        have F1 : Hid _ := hcut.out
        clear hcut HR0 FK0 c0' HX1 c0
        go_upto_region 5 with fail
        obtain ⟨hr, hcs, hw3⟩ := FIN.out _ F1.out.1 F1.out.2
        have HR : Hid _ := hr
        have FK : Hid _ := hw3
        obtain ⟨c31, c01, f31⟩ := hcs
        clear hr hw3 FIN HO
        go_region_law ((first | (have zz := HR.out; refine step_counts (by rfl) 47 48 49 (by rfl) (by rfl) bn (tb rd rn k) k (by simp [Act.put]) (by simp [Act.put]) HR q HQ ?_; intro w3 b3; have F3 : Hid _ := FK.out w3 b3; have c33 := F3.out.1.row.c3; have c03 := F3.out.1.row.c0; have f33 := F3.out.1.row.fz 3; clear b3 zz HR)))
        all_goals (go_wp2; go_end0; exact ⟨rfl, by rw [HT2.out]; exact F3.out.1.u T2, F3.out.2.trans (fr_g (Kp.setCell _ _ _ _ rfl))⟩)
end Go.Proofs.YtlkkibiedlakfaaGreat.yh
