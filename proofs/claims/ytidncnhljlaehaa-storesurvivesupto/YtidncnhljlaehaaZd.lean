import Derived.Test.YtidncnhljlaehaaZc
import Derived.BigQuiet
import Derived.Deep.QuietTactic
namespace Go.Proofs.Ytidncnhljlaehaa.zd
open Go.RowKit Go.PlainAid Go.Maps Go.Shelf
open Go.Proofs.Ytidncnhljlaehaa.ca Go.Proofs.Ytidncnhljlaehaa.cb Go.Proofs.Ytidncnhljlaehaa.cp Go.Proofs.Ytidncnhljlaehaa.kp Go.Proofs.Ytidncnhljlaehaa.ka Go.Proofs.Ytidncnhljlaehaa.ya Go.Proofs.Ytidncnhljlaehaa.yb Go.Proofs.Ytidncnhljlaehaa.yc Go.Proofs.Ytidncnhljlaehaa.yd Go.Proofs.Ytidncnhljlaehaa.ye Go.Proofs.Ytidncnhljlaehaa.yf Go.Proofs.Ytidncnhljlaehaa.yg Go.Proofs.Ytidncnhljlaehaa.yi Go.Proofs.Ytidncnhljlaehaa.yk Go.Proofs.Ytidncnhljlaehaa.yl Go.Proofs.Ytidncnhljlaehaa.ym Go.Proofs.Ytidncnhljlaehaa.yn Go.Proofs.Ytidncnhljlaehaa.yo Go.Proofs.Ytidncnhljlaehaa.yp Go.Proofs.Ytidncnhljlaehaa.yq Go.Proofs.Ytidncnhljlaehaa.yr Go.Proofs.Ytidncnhljlaehaa.ys Go.Proofs.Ytidncnhljlaehaa.yt Go.Proofs.Ytidncnhljlaehaa.yu Go.Proofs.Ytidncnhljlaehaa.yv Go.Proofs.Ytidncnhljlaehaa.yx Go.Proofs.Ytidncnhljlaehaa.zb Go.Proofs.Ytidncnhljlaehaa.zc
set_option linter.unusedVariables false
set_option linter.unusedSimpArgs false
theorem below_dN {B : Nat} {w w' : World} (h : Below B w w') (n : Nat) : Below B w (w'.drewN n) := ⟨h.os, h.tape, h.output, h.size, h.block⟩
theorem ops_at {B : Nat} {w : World} {va : Option Addr} {vc : Nat} {l : List Opn} (h : ReadsO B w (.slice va l.length vc) l) (j : Nat) (o : Opn) (ho : l[j]? = some o) (hj : j < l.length) : ∃ b off, va = some ⟨b, off, none⟩ ∧ w.cell? ⟨b, off + j * 4, none⟩ = some (.int .i64 o.kind) ∧ w.cell? ⟨b, off + j * 4 + 1, none⟩ = some (.string o.key) ∧ w.cell? ⟨b, off + j * 4 + 2, none⟩ = some (.string o.data) ∧ w.cell? ⟨b, off + j * 4 + 3, none⟩ = some (.int .i64 o.n) ∧ OkO o := by
  obtain ⟨⟨a', c', e', h1⟩, hev⟩ := h
  injection e' with e1 _ e2
  subst e1 e2
  rcases h1 with h1 | ⟨b, off, rfl, _, hc⟩
  · omega
  · obtain ⟨k0, k1, k2, k3⟩ := hc j o ho
    exact ⟨b, off, rfl, k0, k1, k2, k3, hev o (List.mem_of_getElem? ho)⟩
-- one call of the script, beside the row; the block made just ahead of it is kept
theorem mDo {B g bn bd n : Nat} {s : S} {v : Value} {xs : List Value} {w0 w1 : World} (o : Opn) (ob : Obj) (h : Mt 39 2 B g bn bd s v n xs w0 w1) (hB : B ≤ w0.heap.size) (ho : OkO o) (hn : nums s + 1 < 3518437208883) (ha : s.age < 4398046511104) (hm : mass s ≤ 140737488355000) :
    Calls Try.prog 12 #[.pointer (some ⟨g, 0, none⟩), .agg #[.int .i64 o.kind, .string o.key, .string o.data, .int .i64 o.n]] (w1.alloc ob) fun e w' => (∃ (t : ByteArray) (na : Option Addr) (nl nc : Nat) (a b c : Int) (f : Bool) (q : Int), e = .returned (.agg #[.string t, .slice na nl nc, .int .i64 (doS s o.kind o.key o.data o.n).1, .int .i64 a, .int .i64 b, .int .i64 c, .bool f, .int .i64 q])) ∧ Mt 39 2 B g bn bd (doO s o) v n xs w0 w' ∧ w'.heap[w1.heap.size]? = some ob := by
  have b1 : Below w1.heap.size w1 (w1.alloc ob) := (Below.refl _ w1).alloc (Nat.le_refl _) _
  have h2 := h.later b1 hB
  obtain ⟨pv, h4⟩ := h.ex
  have h5 := sr_later h4 b1
  refine (doC o.kind o.key o.data o.n h5 ho.1 ho.2.1 ho.2.2 hn ha (by unfold mass at hm; omega) (Nat.le_trans hB h2.bl.size)).mono ?_
  rintro e w' ⟨t, na, nl, nc, a, b, c, f, q, rfl, r⟩
  exact ⟨⟨t, na, nl, nc, a, b, c, f, q, rfl⟩, h2.rn ts1 ts2 h5 r hB, rn_cells h4 r (Nat.le_refl _) (heap_alloc_new w1 ob)⟩
theorem mCrash {B g bn bd n : Nat} {s : S} {v : Value} {xs : List Value} {w0 w1 : World} (k : ByteArray) (ob : Obj) (h : Mt 39 2 B g bn bd s v n xs w0 w1) (hB : B ≤ w0.heap.size) (hk : k.size ≤ 140737488355328) (ha : s.age < 4398046511104) :
    Calls Try.prog 20 #[.pointer (some ⟨g, 0, none⟩), .string k] (w1.alloc ob) fun e w' => e = .returned (.tuple #[]) ∧ Mt 39 2 B g bn bd (crashS s k) v n xs w0 w' ∧ w'.heap[w1.heap.size]? = some ob := by
  have b1 : Below w1.heap.size w1 (w1.alloc ob) := (Below.refl _ w1).alloc (Nat.le_refl _) _
  have h2 := h.later b1 hB
  obtain ⟨pv, h4⟩ := h.ex
  have h5 := sr_later h4 b1
  refine (crashC k h5 hk ha).mono ?_
  rintro e w' ⟨rfl, r⟩
  exact ⟨rfl, h2.rn ts1 ts2 h5 r hB, rn_cells h4 r (Nat.le_refl _) (heap_alloc_new w1 ob)⟩
theorem mSee {B g bn bd n : Nat} {s : S} {v : Value} {xs : List Value} {w0 w1 : World} (k : ByteArray) (h : Mt 39 2 B g bn bd s v n xs w0 w1) (hB : B ≤ w0.heap.size) (hk : k.size ≤ 140737488355328) (ho : s.off = false) (p : Sn) (hp : sn k (now s) = p) :
    Calls Try.prog 16 #[.pointer (some ⟨g, 0, none⟩), .string k] w1 fun e w' => e = .returned (.agg #[.bool p.1, .string p.2]) ∧ Below w1.heap.size w1 w' := by
  obtain ⟨pv, h5⟩ := h.ex
  exact seeC k h5 hk ho p hp
theorem mDown {T z B g bn bd n : Nat} {s : S} {v : Value} {xs : List Value} {w0 w1 : World} (h : Mt T z B g bn bd s v n xs w0 w1) : Calls Try.prog 17 #[.pointer (some ⟨g, 0, none⟩)] w1 fun e w' => e = .returned (.bool s.off) ∧ w' = w1 := by
  obtain ⟨pv, h5⟩ := h.ex
  exact downC h5.row
theorem mPending {T z B g bn bd n : Nat} {s : S} {v : Value} {xs : List Value} {w0 w1 : World} (h : Mt T z B g bn bd s v n xs w0 w1) : Calls Try.prog 21 #[.pointer (some ⟨g, 0, none⟩)] w1 fun e w' => e = .returned (.int .i64 s.pend.length) ∧ w' = w1 := by
  obtain ⟨pv, h5⟩ := h.ex
  exact pendingC h5.row h5.pr
theorem can_pos (k : ByteArray) (s : S) : 0 < (canL k s).length := by simp [canL]
theorem can_len (k : ByteArray) (s : S) : (canL k s).length ≤ 1 + nums s := by
  unfold canL onK nums
  simp only [List.length_cons, List.length_map]
  have := List.length_filter_le (fun x : W => decide (x.key = k)) s.pend
  omega
theorem text_ne {a b : ByteArray} (h : a ≠ b) : (a.toList == b.toList) = false := by
  rw [beq_eq_false_iff_ne]
  intro e
  rw [ByteArray.toList_eq, ByteArray.toList_eq] at e
  exact h (ByteArray.ext (Array.toList_inj.1 e))
set_option maxRecDepth 100000 in
set_option maxHeartbeats 25600000 in
theorem survW (c : Int) (v : Value) (l : List Opn) (key keep : ByteArray) (w : World) (hv : ReadsO w.heap.size w v l) (hm : 1 + tw l ≤ 140737488355000) (hn : l.length < 1099511627776) (zk : key.size ≤ 140737488355328) (zp : keep.size ≤ 140737488355328) :
    Calls Try.prog 4 #[.int .i64 c, v, .string key, .string keep] w fun e w' => e = .returned (.bool true) ∧ Below w.heap.size w w' := by
  have CB : Hid (Calls _ _ _ _ _) := begunC w
  by_cases hc : 0 ≤ c ∧ c ≤ 1073741824
  · have CN : Hid (∀ w1, Calls _ _ _ _ _) := fun w1 => newC c w1 hc
    obtain ⟨va, vc, rfl, _⟩ := hv.form
    have HV : Hid (ReadsO w.heap.size w (.slice va l.length vc) l) := hv
    clear hv hc
    have iw := info_parts info_s
    obtain ⟨i0, hi0, hz0, hz1, hz2⟩ := iw
    have HIN : Hid (_ ∧ _ ∧ _ ∧ _) := ⟨hi0, hz0, hz1, hz2⟩
    clear hi0 hz0 hz1 hz2
    go_enter Try.func4, Try.ntmps4
    go_wp2_with fail
    refine CB.out.mono ?_
    rintro _ w1 ⟨rfl, b1⟩
    have B1 : Hid (Below w.heap.size w w1) := b1
    clear b1
    go_wp2_with fail
    refine (CN.out _).mono ?_
    rintro _ w2 ⟨g, bn, bd, rfl, h3, b3⟩
    have M2 : Hid (Mt 39 2 w1.heap.size g bn bd ⟨c, [], [], 0, false, 0⟩ (.slice none 0 0) 0 [] w1 w2) := ⟨⟨_, h3⟩, World.ownsRow_nil _ _ _ _, b3⟩
    have VU : Hid (ReadsO w1.heap.size w1 (.slice va l.length vc) l) := ReadsO_up (HV.out.later B1.out) B1.out.size
    clear h3 b3 HV
    go_wp2_with fail
    refine (mSee key M2.out (Nat.le_refl _) zk rfl (false, ByteArray.empty) rfl).mono ?_
    rintro _ w3 ⟨rfl, b3⟩
    have M3 : Hid (Mt 39 2 w1.heap.size g bn bd ⟨c, [], [], 0, false, 0⟩ (.slice (some ⟨w3.heap.size, 0, none⟩) 1 1) 1 (scs [(false, ByteArray.empty)]) w1 (w3.alloc (.cells #[.bool false, .string ByteArray.empty] 39))) := mt_one (M2.out.later b3 (Nat.le_refl _)) (Nat.le_refl _) (false, ByteArray.empty)
    clear b3 M2
    go_wp2_with fail
    go_loopw [11, 12] (fun cv iv wr => ∃ (j : Nat) (t : S), iv = .int .i64 j ∧ j ≤ l.length ∧ Hid (Mt 39 2 w1.heap.size g bn bd t cv (canL key t).length (scs (canL key t)) w1 wr ∧ mass t ≤ 1 + tw (l.take j) ∧ nums t ≤ j ∧ t.age ≤ j)) (fun _ iv _ => (l.length - intOf iv).toNat)
    case atStart => exact ⟨0, _, rfl, Nat.zero_le _, M3.out, by show 1 + 0 ≤ _; omega, Nat.le_refl _, Nat.le_refl _⟩
    case round =>
      clear M3
      obtain ⟨j, t, rfl, hj, HH⟩ := hrel
      obtain ⟨ma, mc, hform⟩ := own_formS HH.out.1.row
      subst hform
      have hcl := can_len key t
      have hcp := can_pos key t
      obtain ⟨N, HN⟩ : ∃ N, Hid ((canL key t).length = N) := ⟨_, rfl⟩
      rw [HN.out] at hcl hcp ⊢
      have hmt : mass t ≤ 140737488355000 := by have := HH.out.2.1; have := tw_take l j; omega
      have hnt : nums t ≤ j := HH.out.2.2.1
      have hat : t.age ≤ j := HH.out.2.2.2
      by_cases hlt : j < l.length
      · have hlt' : (j : Int) < l.length := by omega
        obtain ⟨o, ho⟩ : ∃ o, l[j]? = some o := ⟨_, List.getElem?_eq_getElem hlt⟩
        obtain ⟨b, off, e1, d0, d1, d2, d3, hoo⟩ := ops_at (VU.out.later HH.out.1.bl) j o ho hlt
        subst e1
        have HDN : Hid (∀ ob, Calls Try.prog 17 #[.pointer (some ⟨g, 0, none⟩)] (wr.alloc ob) fun e w' => e = .returned (.bool t.off) ∧ w' = wr.alloc ob) := fun ob => mDown (HH.out.1.later ((Below.refl _ wr).alloc (Nat.le_refl _) _) (Nat.le_refl _))
        have HDO : Hid (∀ ob, Calls _ _ _ _ _) := fun ob => mDo o ob HH.out.1 (Nat.le_refl _) hoo (by omega) (by omega) hmt
        have hgr := grows t o
        have htw := tw_at l j o ho
        have HT1 : Hid (mass (doO t o) ≤ 1 + tw (l.take (j + 1)) ∧ nums (doO t o) ≤ j + 1 ∧ (doO t o).age ≤ j + 1) := by have := HH.out.2; exact ⟨by omega, by omega, by omega⟩
        have CWr : Hid (∀ w, Calls _ _ _ _ _) := fun w => writesC o.kind w
        have HSE : Hid (settles t o → canL key (doO t o) = [sn key (now (doO t o))] ∧ (doO t o).off = false) := can_settle key t o
        have HWR : Hid (wrote key t o → canL key (doO t o) = canL key t ++ [(decide (o.kind = 1), kpt o.kind o.data)]) := can_wrote key t o
        have HEL : Hid (¬ settles t o → ¬ wrote key t o → canL key (doO t o) = canL key t) := can_else key t o
        unfold settles at HSE HEL
        unfold wrote at HWR HEL
        obtain ⟨E, HE⟩ : ∃ E, Hid ((doS t o.kind o.key o.data o.n).1 = E) := ⟨_, rfl⟩
        obtain ⟨t2, HT2⟩ : ∃ t2, Hid (doO t o = t2) := ⟨_, rfl⟩
        obtain ⟨fo, hfo⟩ : ∃ x, t.off = x := ⟨_, rfl⟩
        obtain ⟨kd, hkd⟩ : ∃ x, o.kind = x := ⟨_, rfl⟩
        obtain ⟨ky, hky⟩ : ∃ x, o.key = x := ⟨_, rfl⟩
        obtain ⟨dt, hdt⟩ : ∃ x, o.data = x := ⟨_, rfl⟩
        obtain ⟨nn, hnn⟩ : ∃ x, o.n = x := ⟨_, rfl⟩
        rw [HE.out, HT2.out] at HDO
        rw [HE.out, HT2.out] at HSE HWR HEL
        rw [HT2.out] at HT1
        rw [hfo] at HDN HWR HEL
        rw [hkd] at d0 HDO HSE HWR HEL CWr
        rw [hky] at d1 HDO HWR HEL
        rw [hdt] at d2 HDO HWR
        rw [hnn] at d3 HDO
        clear ho hoo hgr htw HE HT2 hfo hkd hky hdt hnn hmt
        go_wp2_with fail
        refine (HDN.out _).mono ?_
        rintro _ _ ⟨rfl, hw⟩; rw [hw]; clear hw
        go_wp2_with fail
        refine (HDO.out _).mono ?_
        rintro _ wy ⟨⟨q0, q1, q2, q3, q4, q5, q6, q7, q8, rfl⟩, m7, hb7⟩
        have hwy : wr.heap.size < wy.heap.size := (Array.getElem?_eq_some_iff.1 hb7).1
        obtain ⟨wz, HWZ⟩ : ∃ x, x = wy.alloc (.cells #[.string q0, .slice q1 q2 q3, .int .i64 E, .int .i64 q4, .int .i64 q5, .int .i64 q6, .bool q7, .int .i64 q8] 31) := ⟨_, rfl⟩
        have bz : Below wy.heap.size wy wz := by rw [HWZ]; exact (Below.refl _ wy).alloc (Nat.le_refl _) _
        have M7 : Hid (Mt 39 2 w1.heap.size g bn bd t2 (.slice ma N mc) N (scs (canL key t)) w1 wz) := by rw [HN.out] at m7; exact m7.later bz (Nat.le_refl _)
        obtain ⟨c0, c1, c2, c3⟩ := four ((bz.block _ hwy).trans hb7)
        have ce : wz.cell? ⟨wy.heap.size, 2, none⟩ = some (.int .i64 E) := by rw [HWZ, cell_of_row _ _ _ _ _ _ (heap_alloc_new wy _)]; rfl
        clear bz hb7 m7
        obtain ⟨pb, hpb⟩ : ∃ x, wr.heap.size = x := ⟨_, rfl⟩
        obtain ⟨qb, hqb⟩ : ∃ x, wy.heap.size = x := ⟨_, rfl⟩
        rw [hpb] at c0 c1 c2 c3 hwy
        rw [hqb] at ce hwy
        go_upto_region 12 with fail
        rw [← HWZ]
        clear HWZ hpb hqb HDN HDO HH d0 d1 d2 d3
        have HC4 : Hid (∀ wk, Below wz.heap.size wz wk → wk.cell? ⟨pb, 0, none⟩ = some (.int .i64 kd) ∧ wk.cell? ⟨pb, 1, none⟩ = some (.string ky) ∧ wk.cell? ⟨pb, 2, none⟩ = some (.string dt) ∧ wk.cell? ⟨pb, 3, none⟩ = some (.int .i64 nn)) := fun wk bk =>
          ⟨(bk.cell (World.block_lt_of_cell? _ _ c0)).trans c0, (bk.cell (World.block_lt_of_cell? _ _ c1)).trans c1, (bk.cell (World.block_lt_of_cell? _ _ c2)).trans c2, (bk.cell (World.block_lt_of_cell? _ _ c3)).trans c3⟩
        by_cases hs : (kd = 3 ∧ E = 0) ∨ kd = 5
        · obtain ⟨hcan, hoff⟩ := HSE.out hs
          have HC2 : Hid (canL key t2 = [sn key (now t2)]) := hcan
          obtain ⟨pp, HP⟩ : ∃ pp, Hid (sn key (now t2) = pp) := ⟨_, rfl⟩
          obtain ⟨pa, pd⟩ := pp
          have hA : ((kd == 3) = true ∧ (E == 0) = true) ∨ ((kd == 3) = false ∧ (kd == 5) = true) := by
            rcases hs with ⟨h1, h2⟩ | h
            · exact .inl ⟨by rw [h1]; rfl, by rw [h2]; rfl⟩
            · exact .inr ⟨by rw [h]; rfl, by rw [h]; rfl⟩
          have hwd : decide (kd = 1 ∨ kd = 2) = false := decide_eq_false (by omega)
          rw [hwd] at CWr
          have HOF : Hid (t2.off = false) := hoff
          clear hcan hoff hs hwd HSE HWR HEL
          rcases hA with ⟨h1, h2⟩ | ⟨h1, h2⟩
          all_goals
            go_wp2_with fail
            refine (CWr.out _).mono ?_
            rintro _ _ ⟨rfl, hw⟩; rw [hw]; clear hw
            go_wp2_with fail
            refine (mSee key M7.out (Nat.le_refl _) zk HOF.out (pa, pd) HP.out).mono ?_
            rintro _ w8 ⟨rfl, b8⟩
            have M8 : Hid (Mt 39 2 w1.heap.size g bn bd t2 (.slice none 0 0) 0 [] w1 (w8.alloc (.cells #[.bool pa, .string pd] 39))) := (M7.out.later b8 (Nat.le_refl _)).nil.later ((Below.refl _ w8).alloc (Nat.le_refl _) _) (Nat.le_refl _)
            have hsz8 : w1.heap.size ≤ w8.heap.size := Nat.le_trans M7.out.bl.size b8.size
            clear b8 c0 c1 c2 c3 ce
            go_wp2_with (first | (at_builtin; (refine wpList_append_own _ rfl _ _ 41 rfl w1.heap.size 39 i0 (.agg #[.bool false, .string ByteArray.empty]) 2 24 Try.underlying41 HIN.out.1 HIN.out.2.1 HIN.out.2.2.1 HIN.out.2.2.2 rfl (by decide) _ 0 _ rfl M8.out.row ⟨w8.heap.size, 0, none⟩ 1 1 [.bool pa, .string pd] rfl rfl (new_two _ _ _ _) (one_sn _ _) (by unfold maxLen; omega) (by omega) (by simp; omega) ?_; intro v' w9 ho hg hnn; have HO3 : Hid (World.ownsRow _ _ _ _ _ _ _) := ho; have HG3 : Hid (World.grownBy _ _ _) := hg; clear ho hg hnn)) | go_in)
            go_roundw
            case rel => exact ⟨j + 1, t2, by go_num, by omega, by rw [HC2.out, HP.out]; exact M8.out.grown ts1 ts2 HO3.out HG3.out (Nat.le_refl _), HT1.out⟩
            case measure => simp [intOf]; omega
        · have hk5 : (kd == 5) = false := by rw [beq_eq_false_iff_ne]; exact fun e => hs (.inr e)
          by_cases hw : (kd = 1 ∨ kd = 2) ∧ ky = key ∧ fo = false ∧ (E = 0 ∨ E = 124)
          · have HC2 : Hid (canL key t2 = canL key t ++ [(decide (kd = 1), kpt kd dt)]) := HWR.out hw
            obtain ⟨hk12, hkk, hfo, hE⟩ := hw
            subst hkk hfo
            have hk3 : (kd == 3) = false := by rw [beq_eq_false_iff_ne]; omega
            have hwd : decide (kd = 1 ∨ kd = 2) = true := decide_eq_true hk12
            rw [hwd] at CWr
            obtain ⟨kb, HKB⟩ : ∃ kb, (kd == 1) = kb := ⟨_, rfl⟩
            have HKD : Hid (decide (kd = 1) = kb) := HKB
            obtain ⟨x, HX⟩ : ∃ x, Hid (kpt kd dt = x) := ⟨_, rfl⟩
            rw [HKD.out, HX.out] at HC2
            have tk : (ky.toList == ky.toList) = true := by simp
            have hE2 : ((E == 0) = true) ∨ ((E == 0) = false ∧ (E == 124) = true) := by
              rcases hE with h | h
              · exact .inl (by rw [h]; rfl)
              · exact .inr ⟨by rw [h]; rfl, by rw [h]; rfl⟩
            clear hk12 hwd hE hs HSE HWR HEL HKD
            have HKP : Hid (∀ wk, Below wz.heap.size wz wk → Mt 39 2 w1.heap.size g bn bd t2 (.slice ma N mc) N (scs (canL ky t)) w1 (wk.alloc (.cells #[.bool kb, .string x] 39)) ∧ w1.heap.size ≤ wk.heap.size) := fun wk bk =>
              ⟨(M7.out.later bk (Nat.le_refl _)).later ((Below.refl _ wk).alloc (Nat.le_refl _) _) (Nat.le_refl _), Nat.le_trans M7.out.bl.size bk.size⟩
            have HL : (canL ky t2).length = N + 1 := by rw [HC2.out]; simp [HN.out]
            have HSC : Hid (scs (canL ky t2) = scs (canL ky t) ++ [.bool kb, .string x]) := by rw [HC2.out, scs_app]; rfl
            have HLN : Hid _ := HL
            clear HL
            rcases hE2 with h1 | ⟨h1, h2⟩
            all_goals
              go_wp2_with fail
              refine (CWr.out _).mono ?_
              rintro _ _ ⟨rfl, hw⟩; rw [hw]; clear hw
              go_upto_region 17 with fail
              go_region_law ((first
                | (have zz := HX.out; refine step_kept (by rfl) 100 101 (by rfl) (by rfl) kd ky dt nn (by simp [Act.put]) x HX ?_; intro wk bk; have KK : Hid _ := HKP.out wk ⟨bk.os, bk.tape, bk.output, bk.size, bk.block⟩; obtain ⟨k0, k1, k2, k3⟩ := HC4.out wk ⟨bk.os, bk.tape, bk.output, bk.size, bk.block⟩; clear bk zz HX)
                | (have zz := KK.out; refine step_append_lies _ (by rfl) (.tmp 96) (.tmp 103) 41 (by rfl) w1.heap.size 39 i0 (.agg #[.bool false, .string ByteArray.empty]) 2 24 Try.underlying41 HIN.out.1 HIN.out.2.1 HIN.out.2.2.1 HIN.out.2.2.2 rfl (by decide) (.slice ma N mc) N _ (by simp [Act.eval]) KK.out.1.row ⟨wk.heap.size, 0, none⟩ 1 1 [.bool kb, .string x] (by simp [Act.eval]) rfl (new_two wk _ _ _) (one_sn _ _) (by omega) (by unfold maxLen; omega) (by omega) (by simp; have := KK.out.2; omega) (wk.heap.size + 1) (by simp) ?_; intro g5 c5 w5 ho5 hg5 hl5 hlt5; have A5 : Hid _ := KK.out.1.grown ts1 ts2 ho5 ⟨hg5.os, hg5.tape, hg5.output, hg5.size, hg5.block⟩ (Nat.le_refl _); clear ho5 hg5 hl5 zz KK)))
              all_goals
                go_wp2
                go_roundw
                case rel => exact ⟨j + 1, t2, by go_num, by omega, by rw [HLN.out, HSC.out]; exact A5.out, HT1.out⟩
                case measure => simp [intOf]; omega
          · have HC2 : Hid (canL key t2 = canL key t) := HEL.out hs hw
            have hC : (decide (kd = 1 ∨ kd = 2) = false ∧ ((kd == 3) = false ∨ ((kd == 3) = true ∧ (E == 0) = false))) ∨ (decide (kd = 1 ∨ kd = 2) = true ∧ (kd == 3) = false ∧ ((ky.toList == key.toList) = false ∨ ((ky.toList == key.toList) = true ∧ (fo = true ∨ (fo = false ∧ (E == 0) = false ∧ (E == 124) = false))))) := by
              by_cases hk : kd = 1 ∨ kd = 2
              · refine .inr ⟨decide_eq_true hk, by rw [beq_eq_false_iff_ne]; omega, ?_⟩
                by_cases hky : ky = key
                · refine .inr ⟨by rw [hky]; simp, ?_⟩
                  cases fo with
                  | true => exact .inl rfl
                  | false => exact .inr ⟨rfl, by rw [beq_eq_false_iff_ne]; exact fun e => hw ⟨hk, hky, rfl, .inl e⟩, by rw [beq_eq_false_iff_ne]; exact fun e => hw ⟨hk, hky, rfl, .inr e⟩⟩
                · exact .inl (text_ne hky)
              · refine .inl ⟨decide_eq_false hk, ?_⟩
                by_cases h3 : kd = 3
                · exact .inr ⟨by rw [h3]; rfl, by rw [beq_eq_false_iff_ne]; exact fun e => hs (.inl ⟨h3, e⟩)⟩
                · exact .inl (by rw [beq_eq_false_iff_ne]; exact h3)
            have M8 : Hid (Mt 39 2 w1.heap.size g bn bd t2 (.slice ma N mc) (canL key t2).length (scs (canL key t2)) w1 wz) := by rw [HC2.out, HN.out]; exact M7.out
            clear hs hw HSE HWR HEL HC4 M7
            rcases hC with ⟨hwd, h3 | ⟨h3, h0⟩⟩ | ⟨hwd, h3, h4 | ⟨h4, rfl | ⟨rfl, h5, h6⟩⟩⟩
            all_goals
              rw [hwd] at CWr
              clear hwd
              go_wp2_with fail
              refine (CWr.out _).mono ?_
              rintro _ _ ⟨rfl, hw⟩; rw [hw]; clear hw
              go_wp2
              go_roundw
              case rel => exact ⟨j + 1, t2, by go_num, by omega, M8.out, HT1.out⟩
              case measure => simp [intOf]; omega
      · have hlt' : ¬ (j : Int) < l.length := by omega
        have hds : Srt t.dur := by
          obtain ⟨pv, h5⟩ := HH.out.1.ex
          exact h5.ok.srt
        obtain ⟨k1, k2, k3⟩ := can_crash keep key hds
        obtain ⟨fp, HF⟩ : ∃ fp, Hid (sn key (now (crashS t keep)) = fp) := ⟨_, rfl⟩
        rw [HF.out] at k1 k2 k3
        obtain ⟨fb, fd⟩ := fp
        obtain ⟨CL, HCL⟩ : ∃ CL, Hid (canL key t = CL) := ⟨_, rfl⟩
        have HM : Hid (Mt 39 2 w1.heap.size g bn bd t (.slice ma N mc) N (scs CL) w1 wr) := by
          have := HH.out.1
          rw [HN.out, HCL.out] at this
          exact this
        rw [HCL.out] at k1 k2 k3 HN
        have hN := HN.out
        obtain ⟨gb, gc, hsl, hcells⟩ := row_seen HM.out.row hN hcp
        injection hsl with e1 _ e3
        subst e1 e3
        obtain ⟨lp, hlp⟩ : ∃ lp, CL[N - 1]? = some lp := ⟨_, List.getElem?_eq_getElem (by omega)⟩
        obtain ⟨lb, ld⟩ := lp
        obtain ⟨cl0, cl1⟩ := hcells (N - 1) _ hlp
        simp only at cl0 cl1
        have hj1 : ((N : Int) - 1).toNat = N - 1 := by omega
        have hj2 : (0 : Int) ≤ (N : Int) - 1 := by omega
        have hj3 : (N : Int) - 1 < N := by omega
        have hj5 : (1 : Int) ≤ (N : Int) := by omega
        have hj6 : 1 ≤ N := hcp
        have hj4 : IntKind.i64.wrap ((N : Int) - 1) = (N : Int) - 1 := by rw [IntKind.wrap_i64]; omega
        have CX : Hid (∀ ob, Calls _ _ _ _ _) := fun ob => mCrash keep ob HM.out (Nat.le_refl _) zp (by omega)
        have K1 : Hid _ := k1
        have K2 : Hid (keep.size = 0 → CL[0]? = some (fb, fd)) := k2
        have K3 : Hid (keep = zb.one → (lb, ld) = (fb, fd)) := fun e => by have := k3 e; rw [hN, hlp] at this; exact Option.some.inj this
        have HCS : Hid _ := hcells
        clear k1 k2 k3 hcells hlp hds hN
        go_wp2_with fail
        refine (CX.out _).mono ?_
        rintro _ w5 ⟨rfl, m5, hb5⟩
        obtain ⟨gb', gc', hsl', hcells⟩ := row_seen m5.row HN.out hcp
        injection hsl' with e1 _ e3
        have e1' := congrArg (fun o : Option Addr => (o.getD ⟨0, 0, none⟩).block) e1
        simp only [Option.getD_some] at e1'
        subst e1' e3
        have M5 : Hid (Mt 39 2 w1.heap.size g bn bd (crashS t keep) (.slice (some ⟨gb, 0, none⟩) N mc) N (scs CL) w1 w5) := m5
        have HB5 : Hid (w5.heap[wr.heap.size]? = some (.cells #[.bool lb, .string ld] 39 (0, 0))) := hb5
        have HC5 : Hid (∀ j p, CL[j]? = some p → w5.cell? ⟨gb, j * 2, none⟩ = some (.bool p.1) ∧ w5.cell? ⟨gb, j * 2 + 1, none⟩ = some (.string p.2)) := hcells
        clear m5 hb5 hcells e1 cl0 cl1 HCS
        go_wp2_with fail
        refine (mSee key M5.out (Nat.le_refl _) zk rfl (fb, fd) HF.out).mono ?_
        rintro _ w6 ⟨rfl, b6⟩
        obtain ⟨w7, HW7⟩ : ∃ x, x = w6.alloc (.cells #[.bool fb, .string fd] 39) := ⟨_, rfl⟩
        have B7 : Below w5.heap.size w5 w7 := by rw [HW7]; exact b6.trans (((Below.refl _ w6).alloc (Nat.le_refl _) _).mono b6.size)
        have M7 : Hid (Mt 39 2 w1.heap.size g bn bd (crashS t keep) (.slice (some ⟨gb, 0, none⟩) N mc) N (scs CL) w1 w7) := M5.out.later B7 (Nat.le_refl _)
        have hwr5 : wr.heap.size < w5.heap.size := (Array.getElem?_eq_some_iff.1 HB5.out).1
        obtain ⟨l0, l1, _, _⟩ := two ((B7.block _ hwr5).trans HB5.out)
        obtain ⟨n0, n1, _, _⟩ := two (show w7.heap[w6.heap.size]? = some (.cells #[.bool fb, .string fd] 39 (0, 0)) by rw [HW7]; exact heap_alloc_new w6 _)
        have HC7 : Hid (∀ j p, CL[j]? = some p → w7.cell? ⟨gb, j * 2, none⟩ = some (.bool p.1) ∧ w7.cell? ⟨gb, j * 2 + 1, none⟩ = some (.string p.2)) := fun j p hp => by
          obtain ⟨x1, x2⟩ := HC5.out j p hp
          exact ⟨(B7.cell (World.block_lt_of_cell? _ _ x1)).trans x1, (B7.cell (World.block_lt_of_cell? _ _ x2)).trans x2⟩
        have CDn : Hid (∀ n, Calls Try.prog 17 #[.pointer (some ⟨g, 0, none⟩)] (w7.drewN n) fun e w' => e = .returned (.bool false) ∧ w' = w7.drewN n) := fun n => mDown (M7.out.later (below_dN (Below.refl _ w7) n) (Nat.le_refl _))
        have CPn : Hid (∀ n, Calls Try.prog 21 #[.pointer (some ⟨g, 0, none⟩)] (w7.drewN n) fun e w' => e = .returned (.int .i64 0) ∧ w' = w7.drewN n) := fun n => mPending (M7.out.later (below_dN (Below.refl _ w7) n) (Nat.le_refl _))
        obtain ⟨lq, hlq⟩ : ∃ x, wr.heap.size = x := ⟨_, rfl⟩
        obtain ⟨nq', hnq⟩ : ∃ x, w6.heap.size = x := ⟨_, rfl⟩
        rw [hlq] at l0 l1
        rw [hnq] at n0 n1
        obtain ⟨⟨z0b, z0d⟩, hz0⟩ : ∃ p, CL[0]? = some p := ⟨_, List.getElem?_eq_getElem (by have := HN.out; omega)⟩
        obtain ⟨y0, y1⟩ := HC7.out 0 _ hz0
        simp only [Nat.zero_mul, Nat.zero_add] at y0 y1
        go_upto_region 23 with fail
        try rw [← HW7]
        clear HW7 hlq hnq b6 B7 hwr5
        have K4 : Hid (keep.size = 0 → (z0b, z0d) = (fb, fd)) := fun e => by have := K2.out e; rw [hz0] at this; exact Option.some.inj this
        clear hz0 K2
        go_cut [150] (fun cc wx => cc = .bool false ∧ Hid (∃ n, wx = w7.drewN n))
        case first =>
          by_cases e0 : keep.size = 0
          · obtain ⟨rfl, rfl⟩ := Prod.mk.inj (K4.out e0)
            have hk0 : keep = ⟨#[]⟩ := by
              cases keep with
              | mk d => simp only [ByteArray.size] at e0; rw [Array.eq_empty_of_size_eq_zero e0]
            subst hk0
            clear K4 K3 e0
            go_quiet (first | (go_at_call 17; exact Calls.quiet_of_same (CDn.out _)) | (go_at_call 21; exact Calls.quiet_of_same (CPn.out _)))
            go_wp2
            go_meet
            exact ⟨rfl, ⟨_, rfl⟩⟩
          · by_cases e1 : keep = zb.one
            · obtain ⟨rfl, rfl⟩ := Prod.mk.inj (K3.out e1)
              subst e1
              unfold zb.one
              clear K4 K3 e0
              go_quiet (first | (go_at_call 17; exact Calls.quiet_of_same (CDn.out _)) | (go_at_call 21; exact Calls.quiet_of_same (CPn.out _)))
              go_wp2
              go_meet
              exact ⟨rfl, ⟨_, rfl⟩⟩
            · have t1 : (keep.toList == (⟨#[]⟩ : ByteArray).toList) = false := text_ne (fun e => e0 (by rw [e]; rfl))
              have t2 : (keep.toList == (⟨#[1]⟩ : ByteArray).toList) = false := text_ne e1
              have t3 : (keep.toList == []) = false := by rw [show (⟨#[]⟩ : ByteArray).toList = [] by rw [ByteArray.toList_eq]] at t1; exact t1
              have t4 : (keep.toList == [1]) = false := by rw [show (⟨#[1]⟩ : ByteArray).toList = [1] by rw [ByteArray.toList_eq]] at t2; exact t2
              have t5 : keep.toList.isEmpty = false := by
                cases h : keep.toList with
                | nil => rw [h] at t3; cases t3
                | cons _ _ => rfl
              clear K4 K3 e0 e1
              go_quiet (first | (go_at_call 17; exact Calls.quiet_of_same (CDn.out _)) | (go_at_call 21; exact Calls.quiet_of_same (CPn.out _)))
              go_wp2
              go_meet
              exact ⟨rfl, ⟨_, rfl⟩⟩
        case rest =>
          obtain ⟨rfl, HWC⟩ := hcut
          have BC : Hid (Below w7.heap.size w7 wc) := by
            obtain ⟨n, hn'⟩ := HWC.out
            rw [hn']
            exact below_dN (Below.refl _ _) n
          have HC8 : Hid (∀ j p, CL[j]? = some p → ∀ wx, Below w7.heap.size w7 wx → wx.cell? ⟨gb, j * 2, none⟩ = some (.bool p.1) ∧ wx.cell? ⟨gb, j * 2 + 1, none⟩ = some (.string p.2)) := fun j p hp wx b => by
            obtain ⟨x1, x2⟩ := HC7.out j p hp
            exact ⟨(b.cell (World.block_lt_of_cell? _ _ x1)).trans x1, (b.cell (World.block_lt_of_cell? _ _ x2)).trans x2⟩
          have HN8 : Hid (∀ wx, Below w7.heap.size w7 wx → wx.cell? ⟨nq', 0, none⟩ = some (.bool fb) ∧ wx.cell? ⟨nq', 1, none⟩ = some (.string fd)) := fun wx b =>
            ⟨(b.cell (World.block_lt_of_cell? _ _ n0)).trans n0, (b.cell (World.block_lt_of_cell? _ _ n1)).trans n1⟩
          have HB8 : Hid (∀ wx, Below w7.heap.size w7 wx → Below w.heap.size w wx) := fun wx b => over B1.out (M7.out.later b (Nat.le_refl _)).bl
          clear HWC HC7 M7 M5 HM HB5 HC5 l0 l1 n0 n1 y0 y1 CDn CPn K3 K4 CX HF
          go_wp2_with fail
          go_loopw [20] (fun iv wr => ∃ i : Nat, i ≤ N ∧ iv = .int .i64 i ∧ Hid (∀ k, k < i → CL[k]? ≠ some (fb, fd)) ∧ Hid (Below w7.heap.size w7 wr)) (fun iv _ => (N - intOf iv).toNat)
          case atStart => exact ⟨0, by omega, rfl, fun k hk => by omega, BC.out⟩
          case round =>
            clear BC
            obtain ⟨i, hi, rfl, HJ, BR⟩ := hrel
            by_cases hlt : i < N
            · have g3 : (i : Int) < (N : Int) := by omega
              obtain ⟨⟨yb, yd⟩, hy⟩ : ∃ y, CL[i]? = some y := ⟨_, List.getElem?_eq_getElem (by have := HN.out; omega)⟩
              obtain ⟨cy0, cy1⟩ := HC8.out i _ hy _ BR.out
              obtain ⟨cn0, cn1⟩ := HN8.out _ BR.out
              simp only at cy0 cy1
              have HY : Hid _ := hy
              clear hy
              by_cases e : (yb, yd) = (fb, fd)
              · obtain ⟨rfl, rfl⟩ := Prod.mk.inj e
                clear e
                go_upto_region 28 with fail
                go_quiet (fail)
                obtain ⟨wd, HWD⟩ : ∃ wd, wd = wr.drewN nq := ⟨_, rfl⟩
                have BD : Hid (Below w7.heap.size w7 wd) := by rw [HWD]; exact below_dN BR.out nq
                try rw [← HWD]
                clear HWD
                go_wp2
                go_ret
                exact ⟨rfl, HB8.out _ BD.out⟩
              · have HE : Hid _ := e
                have hne : ((yb == fb) = false) ∨ ((yb == fb) = true ∧ (yd.toList == fd.toList) = false) := by
                  cases h : (yb == fb) with
                  | false => exact .inl rfl
                  | true =>
                    refine .inr ⟨rfl, text_ne (fun e2 => e ?_)⟩
                    rw [eq_of_beq h, e2]
                clear e
                rcases hne with h1 | ⟨h1, h2⟩
                all_goals
                  go_upto_region 28 with fail
                  go_quiet (fail)
                  obtain ⟨wd, HWD⟩ : ∃ wd, wd = wr.drewN nq := ⟨_, rfl⟩
                  have BD : Hid (Below w7.heap.size w7 wd) := by rw [HWD]; exact below_dN BR.out nq
                  try rw [← HWD]
                  clear HWD
                  go_wp2
                  go_roundw
                  case rel => exact ⟨i + 1, by omega, by go_num, fun k hk => by
                    rcases Nat.lt_or_ge k i with h | h
                    · exact HJ.out k h
                    · rw [show k = i by omega, HY.out]; exact fun e => HE.out (Option.some.inj e), BD.out⟩
                  case measure => simp [intOf]; omega
            · exfalso
              obtain ⟨k, hk, he⟩ := List.mem_iff_getElem.1 K1.out
              exact HJ.out k (by have := HN.out; omega) (by rw [List.getElem?_eq_getElem hk, he])
  · have CN : Hid (∀ w1, Calls _ _ _ _ _) := fun w1 => newNo c w1 hc
    rcases (show c < 0 ∨ 1073741824 < c by omega) with h | h
    · have hq : decide (c < 0) = true := decide_eq_true h
      clear hc hv
      go_enter Try.func4, Try.ntmps4
      go_wp2_with (first | (go_at_call 9; refine CB.out.mono ?_; rintro _ w1 ⟨rfl, b1⟩; have B1 : Hid (Below w.heap.size w w1) := b1; clear b1) | (go_at_call 10; refine (CN.out _).mono ?_; rintro _ _ ⟨rfl, hw⟩; rw [hw]; clear hw) | go_in)
      go_ret
      exact ⟨rfl, B1.out⟩
    · have hq : decide (c < 0) = false := decide_eq_false (by omega)
      have hq2 : decide (1073741824 < c) = true := decide_eq_true h
      clear hc hv
      go_enter Try.func4, Try.ntmps4
      go_wp2_with (first | (go_at_call 9; refine CB.out.mono ?_; rintro _ w1 ⟨rfl, b1⟩; have B1 : Hid (Below w.heap.size w w1) := b1; clear b1) | (go_at_call 10; refine (CN.out _).mono ?_; rintro _ _ ⟨rfl, hw⟩; rw [hw]; clear hw) | go_in)
      go_ret
      exact ⟨rfl, B1.out⟩
theorem surv_walk (c : Int) (wc : (Lit.int .i64 c).wf = true) (v : Value) (l : List Opn) {W : World} (hv : ReadsO W.heap.size W v l) (z : tw l ≤ 1048576) (y : l.length ≤ 1048576) (key : ByteArray) (z1 : key.size ≤ 1048576) (keep : ByteArray) (z2 : keep.size ≤ 1048576) :
    Calls Try.prog 4 #[.int .i64 c, v, .string key, .string keep] W fun e w' => e = .returned (.bool true) ∧ Below W.heap.size W w' := survW c v l key keep W hv (by omega) (by omega) (by omega) (by omega)
end Go.Proofs.Ytidncnhljlaehaa.zd
