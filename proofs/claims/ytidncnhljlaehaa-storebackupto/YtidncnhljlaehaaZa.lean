import Derived.Test.YtidncnhljlaehaaYx
import Derived.Laws.Cover1
import Derived.BigQuiet
import Derived.Deep.QuietTactic
namespace Go.Proofs.Ytidncnhljlaehaa.za
open Go.RowKit Go.PlainAid Go.Maps Go.Shelf
open Go.Proofs.Ytidncnhljlaehaa.ca Go.Proofs.Ytidncnhljlaehaa.cb Go.Proofs.Ytidncnhljlaehaa.cp Go.Proofs.Ytidncnhljlaehaa.kp Go.Proofs.Ytidncnhljlaehaa.ka Go.Proofs.Ytidncnhljlaehaa.ya Go.Proofs.Ytidncnhljlaehaa.yb Go.Proofs.Ytidncnhljlaehaa.yc Go.Proofs.Ytidncnhljlaehaa.yd Go.Proofs.Ytidncnhljlaehaa.ye Go.Proofs.Ytidncnhljlaehaa.yf Go.Proofs.Ytidncnhljlaehaa.yg Go.Proofs.Ytidncnhljlaehaa.yi Go.Proofs.Ytidncnhljlaehaa.yk Go.Proofs.Ytidncnhljlaehaa.yl Go.Proofs.Ytidncnhljlaehaa.ym Go.Proofs.Ytidncnhljlaehaa.yn Go.Proofs.Ytidncnhljlaehaa.yo Go.Proofs.Ytidncnhljlaehaa.yp Go.Proofs.Ytidncnhljlaehaa.yq Go.Proofs.Ytidncnhljlaehaa.yr Go.Proofs.Ytidncnhljlaehaa.ys Go.Proofs.Ytidncnhljlaehaa.yt Go.Proofs.Ytidncnhljlaehaa.yu Go.Proofs.Ytidncnhljlaehaa.yv Go.Proofs.Ytidncnhljlaehaa.yw Go.Proofs.Ytidncnhljlaehaa.yx Go.Proofs.Ytidncnhljlaehaa.sb Go.Proofs.Ytidncnhljlaehaa.mc
set_option linter.unusedVariables false
set_option linter.unusedSimpArgs false
theorem isz_tot (r : List Rec) : isz r ≤ 1 + tot r := by
  induction r with
  | nil => simp [isz, tot]
  | cons p r ih => simp only [isz, tot, cnt]; omega
-- as long as no power is cut
structure Rm (c : Int) (s : S) : Prop where
  off : s.off = false
  arm : s.armed = 0
  cap : s.cap = c
  tn : (tot (now s) : Int) ≤ c
  td : (tot s.dur : Int) ≤ c
theorem spend_not {s : S} (h : s.armed = 0) : spendS s = (0, s) := by unfold spendS; rw [if_pos h]
theorem rm_do {c : Int} {s : S} (h : Rm c s) (hs : Srt s.dur) (kind : Int) (k d : ByteArray) (n : Int) (h4 : kind ≠ 4) (h5 : kind ≠ 5) : Rm c (doS s kind k d n).2 ∧ ((doS s kind k d n).1 ≠ 0 → tot (now (doS s kind k d n).2) = tot (now s)) := by
  have hsn : Srt (now s) := srt_do hs
  unfold doS
  by_cases h1 : kind = 1
  · rw [if_pos h1]
    unfold putS
    split
    · exact ⟨h, fun _ => rfl⟩
    · split
      · split
        · exact ⟨h, fun _ => rfl⟩
        · rename_i hx
          rw [spend_not (show (addW s ⟨false, k, d⟩).armed = 0 from h.arm)]
          refine ⟨⟨h.off, h.arm, h.cap, ?_, h.td⟩, fun e => absurd rfl e⟩
          rw [now_add]
          show ((tot (put k d (now s)) : Nat) : Int) ≤ c
          have h6 := h.tn
          have h7 := h.cap
          have h8 : ¬ (s.cap < (tot (put k d (now s)) : Nat) ∧ tot (now s) < tot (put k d (now s))) := hx
          omega
      · exact ⟨h, fun _ => rfl⟩
  · rw [if_neg h1]
    by_cases h2 : kind = 2
    · rw [if_pos h2]
      unfold cutS
      split
      · exact ⟨h, fun _ => rfl⟩
      · split
        · rw [spend_not (show (addW s ⟨true, k, ByteArray.empty⟩).armed = 0 from h.arm)]
          refine ⟨⟨h.off, h.arm, h.cap, ?_, h.td⟩, fun e => absurd rfl e⟩
          rw [now_add]
          show ((tot (del k (now s)) : Nat) : Int) ≤ c
          have h6 := tot_del k (now s) hsn
          have h7 := h.tn
          omega
        · exact ⟨h, fun _ => rfl⟩
    · rw [if_neg h2]
      by_cases h3 : kind = 3
      · rw [if_pos h3]
        unfold syncS
        rw [if_neg (by simp [h.off]), if_neg (by simp [spend_not h.arm]), spend_not h.arm]
        exact ⟨⟨h.off, h.arm, h.cap, h.tn, h.tn⟩, fun e => absurd rfl e⟩
      · rw [if_neg h3, if_neg h4, if_neg h5]
        split
        · exact ⟨h, fun _ => rfl⟩
        · exact ⟨h, fun _ => rfl⟩
theorem keys_all (r : List Rec) : keysL ⟨#[]⟩ r = r.map (·.1) := by
  unfold keysL
  have : (fun p : Rec => Lib.hasPrefix (bs p.1) (bs ⟨#[]⟩)) = fun _ => true := by
    funext p
    show List.isPrefixOf [] _ = true
    simp
  rw [this, List.filter_eq_self.2 (fun _ _ => rfl)]
theorem tot_take (r : List Rec) (j : Nat) (p : Rec) (h : r[j]? = some p) : tot (r.take (j + 1)) = tot (r.take j) + cnt p := by
  induction r generalizing j with
  | nil => simp at h
  | cons q r ih =>
    cases j with
    | zero => simp at h; subst h; simp [tot]
    | succ j =>
      simp at h
      simp only [List.take_succ_cons, tot]
      rw [ih j h]; omega
theorem tot_take_le (r : List Rec) (j : Nat) : tot (r.take j) ≤ tot r := by
  induction r generalizing j with
  | nil => simp
  | cons q r ih =>
    cases j with
    | zero => simp [tot]
    | succ j => simp only [List.take_succ_cons, tot]; have := ih j; omega
theorem bytes_is (l m : List UInt8) : Op.bytesLess l m = bytesBefore l m := by
  induction l generalizing m with
  | nil => cases m <;> rfl
  | cons x l ih =>
    cases m with
    | nil => rfl
    | cons y m => show (decide (x < y) || (x == y && Op.bytesLess l m)) = _; rw [ih]; rfl
theorem less_of {a b : ByteArray} (h : lt a b = true) : Op.bytesLess a.toList b.toList = true ∧ (b.toList == a.toList) = false ∧ Op.bytesLess b.toList a.toList = false := by
  refine ⟨?_, ?_, ?_⟩
  · rw [bytes_is, ByteArray.toList_eq, ByteArray.toList_eq]; exact h
  · rw [ByteArray.toList_eq, ByteArray.toList_eq, beq_eq_false_iff_ne]
    intro e
    exact lt_ne h (bs_inj e).symm
  · rw [bytes_is, ByteArray.toList_eq, ByteArray.toList_eq]; exact lt_asym h
theorem below_dN {B : Nat} {w w' : World} (h : Below B w w') (n : Nat) : Below B w (w'.drewN n) := ⟨h.os, h.tape, h.output, h.size, h.block⟩
theorem ops_at {B : Nat} {w : World} {va : Option Addr} {vc : Nat} {l : List Opn} (h : ReadsO B w (.slice va l.length vc) l) (j : Nat) (o : Opn) (ho : l[j]? = some o) (hj : j < l.length) : ∃ b off, va = some ⟨b, off, none⟩ ∧ w.cell? ⟨b, off + j * 4, none⟩ = some (.int .i64 o.kind) ∧ w.cell? ⟨b, off + j * 4 + 1, none⟩ = some (.string o.key) ∧ w.cell? ⟨b, off + j * 4 + 2, none⟩ = some (.string o.data) ∧ w.cell? ⟨b, off + j * 4 + 3, none⟩ = some (.int .i64 o.n) ∧ OkO o := by
  obtain ⟨⟨a', c', e', h1⟩, hev⟩ := h
  injection e' with e1 _ e2
  subst e1 e2
  rcases h1 with h1 | ⟨b, off, rfl, _, hc⟩
  · omega
  · obtain ⟨d0, d1, d2, d3⟩ := hc j o ho
    exact ⟨b, off, rfl, d0, d1, d2, d3, hev o (List.mem_of_getElem? ho)⟩
set_option maxRecDepth 100000 in
set_option maxHeartbeats 12800000 in
theorem roomW (c : Int) (v : Value) (l : List Opn) (w : World) (hv : ReadsO w.heap.size w v l) (hn : l.length < 3518437208882) :
    Calls Try.prog 3 #[.int .i64 c, v] w fun e w' => e = .returned (.bool true) ∧ Below w.heap.size w w' := by
  have CB : Hid (Calls _ _ _ _ _) := begunC w
  by_cases hc : 0 ≤ c ∧ c ≤ 1073741824
  · have CN : Hid (∀ w1, Calls _ _ _ _ _) := fun w1 => newC c w1 hc
    obtain ⟨va, vc, rfl, _⟩ := hv.form
    have HV : Hid (ReadsO w.heap.size w (.slice va l.length vc) l) := hv
    have hc0 := hc.1
    have hc1 := hc.2
    clear hv hc
    go_enter Try.func3, Try.ntmps3
    go_wp2_with fail
    refine CB.out.mono ?_
    rintro _ w1 ⟨rfl, b1⟩
    have B1 : Hid (Below w.heap.size w w1) := b1
    clear b1
    go_wp2_with fail
    refine (CN.out _).mono ?_
    rintro _ w2 ⟨g, bn, bd, rfl, h3, b3⟩
    have A2 : Hid (At w1.heap.size g bn bd ⟨c, [], [], 0, false, 0⟩ w1 w2) := ⟨⟨_, h3⟩, b3⟩
    have VU : Hid (ReadsO w1.heap.size w1 (.slice va l.length vc) l) := ReadsO_up (HV.out.later B1.out) B1.out.size
    clear h3 b3 HV
    go_wp2_with fail
    go_loopw [7] (fun iv wr => ∃ (j : Nat) (t : S), iv = .int .i64 j ∧ j ≤ l.length ∧ Hid (At w1.heap.size g bn bd t w1 wr ∧ Rm c t ∧ nums t ≤ j ∧ t.age ≤ j)) (fun iv _ => (l.length - intOf iv).toNat)
    case atStart => exact ⟨0, _, rfl, Nat.zero_le _, A2.out, ⟨rfl, rfl, rfl, hc0, hc0⟩, Nat.le_refl _, Nat.le_refl _⟩
    case round =>
      clear A2
      obtain ⟨j, t, rfl, hj, HH⟩ := hrel
      by_cases hlt : j < l.length
      · have hlt' : (j : Int) < l.length := by omega
        obtain ⟨o, ho⟩ : ∃ o, l[j]? = some o := ⟨_, List.getElem?_eq_getElem hlt⟩
        obtain ⟨b, off, e1, d0, d1, d2, d3, hoo⟩ := ops_at (VU.out.later HH.out.1.bl) j o ho hlt
        subst e1
        have HB : Hid (∀ o', At w1.heap.size g bn bd t w1 (wr.alloc o')) := fun o' => HH.out.1.lat ((Below.refl _ wr).alloc (Nat.le_refl _) _) (Nat.le_refl _)
        by_cases hsk : o.kind = 5 ∨ o.kind = 4
        · have hsk2 : ((o.kind == 5) = true) ∨ ((o.kind == 5) = false ∧ (o.kind == 4) = true) := by
            rcases hsk with h | h
            · exact .inl (by rw [h]; rfl)
            · exact .inr ⟨by rw [h]; rfl, by rw [h]; rfl⟩
          obtain ⟨kd, hkd⟩ : ∃ x, o.kind = x := ⟨_, rfl⟩
          rw [hkd] at d0 hsk2
          generalize o.key = ky at *
          generalize o.data = dt at *
          generalize o.n = nn at *
          clear ho hoo hsk hkd
          rcases hsk2 with h | ⟨h, h2⟩
          all_goals
            go_wp2
            go_roundw
            case rel => exact ⟨j + 1, t, by go_num, by omega, HB.out _, HH.out.2.1, by have := HH.out.2.2; omega, by have := HH.out.2.2; omega⟩
            case measure => simp [intOf]; omega
        · have hk5 : (o.kind == 5) = false := by rw [beq_eq_false_iff_ne]; exact fun e => hsk (.inl e)
          have hk4 : (o.kind == 4) = false := by rw [beq_eq_false_iff_ne]; exact fun e => hsk (.inr e)
          have HS : Hid (Srt t.dur ∧ isz t.dur ≤ 140737488355000 ∧ OkS t) := by
            obtain ⟨pv, hp⟩ := HH.out.1.ex
            refine ⟨hp.ok.srt, ?_, hp.ok⟩
            have h1 := isz_tot t.dur
            have h2 := HH.out.2.1.td
            omega
          have HRM : Hid (_ ∧ _) := rm_do HH.out.2.1 HS.out.1 o.kind o.key o.data o.n (fun e => hsk (.inr e)) (fun e => hsk (.inl e))
          have hgr := grows t o
          have HT1 : Hid (nums (doO t o) ≤ j + 1 ∧ (doO t o).age ≤ j + 1) := by have := HH.out.2.2; exact ⟨by omega, by omega⟩
          have CU : Hid (∀ wx, At w1.heap.size g bn bd t w1 wx → Calls Try.prog 11 #[.pointer (some ⟨g, 0, none⟩)] wx fun e w' => e = .returned (.int .i64 ((tot (now t) : Nat) : Int)) ∧ w' = wx) := fun wx h => by
            obtain ⟨pv, hp⟩ := h.ex
            exact usedC hp.row
          have CD : Hid (∀ wx, At w1.heap.size g bn bd t w1 wx → Calls Try.prog 12 #[.pointer (some ⟨g, 0, none⟩), .agg #[.int .i64 o.kind, .string o.key, .string o.data, .int .i64 o.n]] wx fun e w' => (∃ (t' : ByteArray) (na : Option Addr) (nl nc : Nat) (a b c : Int) (f : Bool) (q : Int), e = .returned (.agg #[.string t', .slice na nl nc, .int .i64 (doS t o.kind o.key o.data o.n).1, .int .i64 a, .int .i64 b, .int .i64 c, .bool f, .int .i64 q])) ∧ At w1.heap.size g bn bd (doO t o) w1 w') := fun wx h => by
            obtain ⟨pv, hp⟩ := h.ex
            refine (doC o.kind o.key o.data o.n hp hoo.1 hoo.2.1 hoo.2.2 (by have := HH.out.2.2; unfold nums at this; omega) (by have := HH.out.2.2; omega) HS.out.2.1 h.bl.size).mono ?_
            rintro e w' ⟨t', na, nl, nc, a, b, c', f, q, rfl, r⟩
            exact ⟨⟨t', na, nl, nc, a, b, c', f, q, rfl⟩, at_rn h hp (Nat.le_refl _) r⟩
          obtain ⟨E, HE⟩ : ∃ E, Hid ((doS t o.kind o.key o.data o.n).1 = E) := ⟨_, rfl⟩
          obtain ⟨t2, HT2⟩ : ∃ t2, Hid (doO t o = t2) := ⟨_, rfl⟩
          have HT3 : Hid ((doS t o.kind o.key o.data o.n).2 = t2) := HT2.out
          rw [HT2.out, HE.out] at CD
          rw [HT2.out] at HT1
          rw [HE.out, HT3.out] at HRM
          have HU : Hid (E = 0 ∨ ((E != 0) = true ∧ tot (now t2) = tot (now t))) := by
            by_cases e : E = 0
            · exact .inl e
            · exact .inr ⟨by rw [bne_iff_ne]; exact e, HRM.out.2 e⟩
          obtain ⟨kd, hkd⟩ : ∃ x, o.kind = x := ⟨_, rfl⟩
          obtain ⟨ky, hky⟩ : ∃ x, o.key = x := ⟨_, rfl⟩
          obtain ⟨dt, hdt⟩ : ∃ x, o.data = x := ⟨_, rfl⟩
          obtain ⟨nn, hnn⟩ : ∃ x, o.n = x := ⟨_, rfl⟩
          rw [hkd] at d0 CD hk5 hk4
          rw [hky] at d1 CD
          rw [hdt] at d2 CD
          rw [hnn] at d3 CD
          clear ho hoo hsk hgr hkd hky hdt hnn HE HT2 HT3
          have CK : Hid (∀ wx, At w1.heap.size g bn bd t2 w1 wx → Calls Try.prog 13 #[.pointer (some ⟨g, 0, none⟩), .string ⟨#[]⟩] wx fun e w' => (∃ v, e = .returned v ∧ ReadsT w' v ((now t2).map (·.1))) ∧ Below wx.heap.size wx w') := fun wx h => by
            obtain ⟨pv, hp⟩ := h.ex
            have C := keysC (⟨#[]⟩ : ByteArray) hp
            have e : keysS t2 ⟨#[]⟩ = (now t2).map (·.1) := by unfold keysS; rw [if_neg (by simp [HRM.out.1.off]), keys_all]
            rw [e] at C
            refine C.mono ?_
            rintro _ w' ⟨v, rfl, ow, bl⟩
            exact ⟨⟨v, rfl, own_readsT ow⟩, bl⟩
          have CG : Hid (∀ wx (i : Nat) (p : Rec), (now t2)[i]? = some p → At w1.heap.size g bn bd t2 w1 wx → Calls Try.prog 14 #[.pointer (some ⟨g, 0, none⟩), .string p.1] wx fun e w' => e = .returned (.tuple #[.string p.2, .int .i64 0]) ∧ Below wx.heap.size wx w') := fun wx i p hp1 h => by
            obtain ⟨pv, hp⟩ := h.ex
            have hm := List.mem_of_getElem? hp1
            have hsz := hp.ok.now p hm
            have C := getC p.1 hp (by omega)
            have e : getS t2 p.1 = (p.2, 0) := by
              have hr : refS t2 p.1 = 0 := by unfold refS; rw [HRM.out.1.off]; simp [hsz.1, hsz.2.1]
              have hg : rget p.1 (now t2) = some p.2 := (get_some hp.ok.snow).2 hm
              unfold getS
              rw [if_neg (by simp [hr]), hg]; rfl
            rw [e] at C
            exact C
          have HFS : Hid (∀ wx, At w1.heap.size g bn bd t2 w1 wx → Srt (now t2) ∧ (now t2).length < 3518437208883 ∧ ∀ p ∈ now t2, p.1.size ≤ 64 ∧ p.2.size ≤ 1048576) := fun wx h => by
            obtain ⟨pv, hp⟩ := h.ex
            exact ⟨hp.ok.snow, hp.ok.lnow, fun p hp2 => ⟨(hp.ok.now p hp2).2.1, (hp.ok.now p hp2).2.2⟩⟩
          have CU2 : Hid (∀ wx, At w1.heap.size g bn bd t2 w1 wx → Calls Try.prog 11 #[.pointer (some ⟨g, 0, none⟩)] wx fun e w' => e = .returned (.int .i64 ((tot (now t2) : Nat) : Int)) ∧ w' = wx) := fun wx h => by
            obtain ⟨pv, hp⟩ := h.ex
            exact usedC hp.row
          have CR : Hid (∀ wx, At w1.heap.size g bn bd t2 w1 wx → Calls Try.prog 15 #[.pointer (some ⟨g, 0, none⟩)] wx fun e w' => e = .returned (.int .i64 c) ∧ w' = wx) := fun wx h => by
            obtain ⟨pv, hp⟩ := h.ex
            have C := roomC hp.row
            rw [HRM.out.1.cap] at C
            exact C
          have htn := HRM.out.1.tn
          go_wp2_with fail
          refine (CU.out _ (HB.out _)).mono ?_
          rintro _ _ ⟨rfl, hw⟩; rw [hw]; clear hw
          go_wp2_with fail
          refine (CD.out _ (HB.out _)).mono ?_
          rintro _ wy ⟨⟨q0, q1, q2, q3, q4, q5, q6, q7, q8, rfl⟩, a7⟩
          have A7 : Hid (At w1.heap.size g bn bd t2 w1 (wy.alloc (.cells #[.string q0, .slice q1 q2 q3, .int .i64 E, .int .i64 q4, .int .i64 q5, .int .i64 q6, .bool q7, .int .i64 q8] 31))) := a7.lat ((Below.refl _ wy).alloc (Nat.le_refl _) _) (Nat.le_refl _)
          have H7 : Hid _ := heap_alloc_new wy (.cells #[.string q0, .slice q1 q2 q3, .int .i64 E, .int .i64 q4, .int .i64 q5, .int .i64 q6, .bool q7, .int .i64 q8] 31)
          clear a7
          go_wp2_with fail
          obtain ⟨wz, HWZ⟩ : ∃ x, x = wy.alloc (.cells #[.string q0, .slice q1 q2 q3, .int .i64 E, .int .i64 q4, .int .i64 q5, .int .i64 q6, .bool q7, .int .i64 q8] 31) := ⟨_, rfl⟩
          rw [← HWZ] at A7 H7 ⊢
          clear HWZ
          refine (CK.out _ A7.out).mono ?_
          rintro _ wk ⟨⟨kv, rfl, rk⟩, bk⟩
          have AK : Hid (At w1.heap.size g bn bd t2 w1 wk) := A7.out.lat bk (Nat.le_refl _)
          have HG : Hid (wk.cell? ⟨wy.heap.size, 2, none⟩ = some (.int .i64 E)) := by
            show _ = _
            rw [bk.cell (Array.getElem?_eq_some_iff.1 H7.out).1, cell_of_row _ _ _ _ _ _ H7.out]; rfl
          have RK : Hid (ReadsT wk kv ((now t2).map (·.1))) := rk
          obtain ⟨hsrt, hlen2, hsizes⟩ := HFS.out _ AK.out
          have HSR : Hid _ := hsrt
          have HSZ : Hid _ := hsizes
          clear hsrt hsizes bk rk A7 H7 CD CK CU
          obtain ⟨R, HR⟩ : ∃ R, Hid (now t2 = R) := ⟨_, rfl⟩
          rw [HR.out] at htn CG CU2 RK HSR HSZ hlen2 HU
          obtain ⟨ka', kc, rfl, _, _⟩ := RK.out
          have hlm : (R.map (·.1)).length = R.length := List.length_map ..
          rw [hlm]
          go_wp2_with fail
          go_loopw [11, 13] (fun nv kv wr => ∃ i : Nat, i ≤ R.length ∧ kv = .int .i64 i ∧ nv = .int .i64 ((tot (R.take i) : Nat) : Int) ∧ Hid (Below wk.heap.size wk wr)) (fun _ kv _ => (R.length - intOf kv).toNat)
          case atStart => exact ⟨0, by omega, rfl, rfl, Below.refl _ _⟩
          case round =>
            obtain ⟨i, hi, rfl, rfl, HBK⟩ := hrel
            have AT : Hid (At w1.heap.size g bn bd t2 w1 wr) := AK.out.lat HBK.out (Nat.le_refl _)
            have hle := tot_take_le R i
            by_cases hil : i < R.length
            · have hil' : (i : Int) < R.length := by omega
              obtain ⟨p, hp⟩ : ∃ p, R[i]? = some p := ⟨_, List.getElem?_eq_getElem hil⟩
              have CGi : Hid (∀ wx, At _ _ _ _ _ _ _ → Calls _ _ _ _ _) := fun wx h => CG.out wx i p hp h
              have hpz := HSZ.out p (List.mem_of_getElem? hp)
              have htk := tot_take R i p hp
              have hle2 := tot_take_le R (i + 1)
              obtain ⟨a', c', e0, _, hcl⟩ := RK.out
              injection e0 with e1 e2 e3
              subst e1
              rcases hcl with h0 | ⟨lb, lo', rfl, hcl⟩
              · rw [hlm] at h0; omega
              have hcell : ∀ (i : Nat) (p : Rec), R[i]? = some p → wk.cell? ⟨lb, lo' + i, none⟩ = some (.string p.1) := fun i p hp => by
                have hil := (List.getElem?_eq_some_iff.1 hp).1
                have h := hcl i (by rw [hlm]; exact hil)
                rw [List.getD, List.getElem?_map, hp] at h
                exact h
              have cx0 := hcell i p hp
              have HCX : Hid (∀ wx, Below wk.heap.size wk wx → wx.cell? ⟨lb, lo' + i, none⟩ = some (.string p.1)) := fun wx b => (b.cell (World.block_lt_of_cell? _ _ cx0)).trans cx0
              have HPR : Hid (0 < i → ∃ z : ByteArray, lt z p.1 = true ∧ ∀ wx, Below wk.heap.size wk wx → wx.cell? ⟨lb, lo' + (i - 1), none⟩ = some (.string z)) := fun h0 => by
                obtain ⟨z, hz⟩ : ∃ z, R[i - 1]? = some z := ⟨_, List.getElem?_eq_getElem (by omega)⟩
                obtain ⟨hz1, hz2⟩ := List.getElem?_eq_some_iff.1 hz
                obtain ⟨hy1, hy2⟩ := List.getElem?_eq_some_iff.1 hp
                have h := hcell (i - 1) z hz
                refine ⟨z.1, ?_, fun wx b => (b.cell (World.block_lt_of_cell? _ _ h)).trans h⟩
                have := List.pairwise_iff_getElem.1 HSR.out (i - 1) i hz1 hy1 (by omega)
                rw [hz2, hy2] at this
                exact this
              have cx := HCX.out wr HBK.out
              obtain ⟨pk, pd⟩ := p
              have hpz1 : pk.size ≤ 64 := hpz.1
              have hpz2 : pd.size ≤ 1048576 := hpz.2
              have htk' : tot (R.take (i + 1)) = tot (R.take i) + (pk.size + pd.size + 16) := htk
              obtain ⟨T, HT⟩ : ∃ T : Nat, Hid (tot (R.take i) = T) := ⟨_, rfl⟩
              rw [HT.out] at htk' hle ⊢
              have HTK : Hid _ := htk'
              have hTb : (T : Int) ≤ 1073741824 := by omega
              clear hcl e2 e3 hp hcell cx0 hpz htk htk' hle2
              go_wp2_with fail
              refine (CGi.out _ AT.out).mono ?_
              rintro _ wc ⟨rfl, bc⟩
              have BC : Hid (Below wk.heap.size wk wc) := over HBK.out bc
              have cxc := HCX.out wc BC.out
              clear bc
              rcases Nat.eq_zero_or_pos i with h0 | h0
              · have g4 : ¬ (0 : Int) < i := by omega
                have g4d : decide (0 < i) = false := decide_eq_false (by omega)
                have g4e : decide ((0 : Int) < (i : Int)) = false := decide_eq_false g4
                have HI0 : Hid _ := h0
                clear h0
                go_upto_region 18 with fail
                go_quiet (fail)
                obtain ⟨wd, HWD⟩ : ∃ wd, wd = wc.drewN nq := ⟨_, rfl⟩
                have BD : Hid (Below wk.heap.size wk wd) := by rw [HWD]; exact below_dN BC.out nq
                rw [← HWD]
                clear HWD cxc
                have cxd := HCX.out wd BD.out
                go_wp2
                go_roundw
                case rel => exact ⟨i + 1, by omega, by go_num, by rw [HTK.out]; go_num, BD.out⟩
                case measure => simp [intOf]; omega
              · have g4b : decide ((0 : Int) < (i : Int)) = true := decide_eq_true (by omega)
                have g4c : decide (0 < i) = true := decide_eq_true h0
                obtain ⟨z, hz, hzc⟩ := HPR.out h0
                obtain ⟨hl1, hl2, hl3⟩ := less_of hz
                have czc := hzc wc BC.out
                have hj1 : ((i : Int) - 1).toNat = i - 1 := by omega
                have hj2 : (0 : Int) ≤ (i : Int) - 1 := by omega
                have hj3 : (i : Int) - 1 < R.length := by omega
                have hj5 : (1 : Int) ≤ (i : Int) := by omega
                have hj6 : 1 ≤ i := h0
                have hj7 : (i : Int) ≤ R.length := by omega
                have hj8 : i ≤ R.length := hi
                have hj4 : IntKind.i64.wrap ((i : Int) - 1) = (i : Int) - 1 := by rw [IntKind.wrap_i64]; omega
                clear hzc
                go_upto_region 18 with fail
                go_quiet (fail)
                obtain ⟨wd, HWD⟩ : ∃ wd, wd = wc.drewN nq := ⟨_, rfl⟩
                have BD : Hid (Below wk.heap.size wk wd) := by rw [HWD]; exact below_dN BC.out nq
                rw [← HWD]
                clear HWD cxc czc
                have cxd := HCX.out wd BD.out
                go_wp2
                go_roundw
                case rel => exact ⟨i + 1, by omega, by go_num, by rw [HTK.out]; go_num, BD.out⟩
                case measure => simp [intOf]; omega
            · have hil' : ¬ (i : Int) < R.length := by omega
              obtain rfl : i = R.length := by omega
              have HTL : Hid (R.take R.length = R) := List.take_length
              have HGW : wr.cell? ⟨wy.heap.size, 2, none⟩ = some (.int .i64 E) := (HBK.out.cell (World.block_lt_of_cell? _ _ HG.out)).trans HG.out
              rw [HTL.out]
              obtain ⟨T, HT⟩ : ∃ T : Nat, Hid (tot R = T) := ⟨_, rfl⟩
              rw [HT.out] at htn CU2 HU ⊢
              have hTc : ¬ c < (T : Int) := by omega
              have hcc : (c != c) = false := by simp
              have hTT : ((T : Int) != (T : Int)) = false := by simp
              rcases HU.out with hE | ⟨hE, hTe⟩
              · subst hE
                go_wp2_with (first
                  | (go_at_call 11; refine (CU2.out _ AT.out).mono ?_; rintro _ _ ⟨rfl, hw⟩; rw [hw]; clear hw)
                  | (go_at_call 15; refine (CR.out _ AT.out).mono ?_; rintro _ _ ⟨rfl, hw⟩; rw [hw]; clear hw))
                go_roundw
                case rel => exact ⟨j + 1, t2, by go_num, by omega, AT.out, HRM.out.1, HT1.out.1, HT1.out.2⟩
                case measure => simp [intOf]; omega
              · rw [← hTe]
                have hTT2 : ((T : Int) != (T : Int)) = false := by simp
                clear hTe
                go_wp2_with (first
                  | (go_at_call 11; refine (CU2.out _ AT.out).mono ?_; rintro _ _ ⟨rfl, hw⟩; rw [hw]; clear hw)
                  | (go_at_call 15; refine (CR.out _ AT.out).mono ?_; rintro _ _ ⟨rfl, hw⟩; rw [hw]; clear hw))
                go_roundw
                case rel => exact ⟨j + 1, t2, by go_num, by omega, AT.out, HRM.out.1, HT1.out.1, HT1.out.2⟩
                case measure => simp [intOf]; omega
      · have hlt' : ¬ (j : Int) < l.length := by omega
        go_wp2
        go_ret
        exact ⟨rfl, over B1.out HH.out.1.bl⟩
  · have CN : Hid (∀ w1, Calls _ _ _ _ _) := fun w1 => newNo c w1 hc
    rcases (show c < 0 ∨ 1073741824 < c by omega) with h | h
    · have hq : decide (c < 0) = true := decide_eq_true h
      clear hc hv
      go_enter Try.func3, Try.ntmps3
      go_wp2_with (first | (go_at_call 9; refine CB.out.mono ?_; rintro _ w1 ⟨rfl, b1⟩; have B1 : Hid (Below w.heap.size w w1) := b1; clear b1) | (go_at_call 10; refine (CN.out _).mono ?_; rintro _ _ ⟨rfl, hw⟩; rw [hw]; clear hw) | go_in)
      go_ret
      exact ⟨rfl, B1.out⟩
    · have hq : decide (c < 0) = false := decide_eq_false (by omega)
      have hq2 : decide (1073741824 < c) = true := decide_eq_true h
      clear hc hv
      go_enter Try.func3, Try.ntmps3
      go_wp2_with (first | (go_at_call 9; refine CB.out.mono ?_; rintro _ w1 ⟨rfl, b1⟩; have B1 : Hid (Below w.heap.size w w1) := b1; clear b1) | (go_at_call 10; refine (CN.out _).mono ?_; rintro _ _ ⟨rfl, hw⟩; rw [hw]; clear hw) | go_in)
      go_ret
      exact ⟨rfl, B1.out⟩
theorem room_walk (c : Int) (wc : (Lit.int .i64 c).wf = true) (v : Value) (l : List Opn) {w : World} (hv : ReadsO w.heap.size w v l) (hz : l.length * 48 ≤ 140737488351232) :
    Calls Try.prog 3 #[.int .i64 c, v] w fun e w' => e = .returned (.bool true) ∧ Below w.heap.size w w' := roomW c v l w hv (by omega)
end Go.Proofs.Ytidncnhljlaehaa.za
