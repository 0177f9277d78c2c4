import Derived.Test.YtofmkdagehehaaaGreatDoorB9
import Derived.Test.YtofmkdagehehaaaGreatDoorA4
import Derived.OpenShut
namespace Go.Proofs.YtofmkdagehehaaaGreatDoor.hq
open Go.RowKit Go.PlainAid Go.Maps Go.Shelf
open Go.Proofs.YtofmkdagehehaaaGreatDoor.kp Go.Proofs.YtofmkdagehehaaaGreatDoor.ka Go.Proofs.YtofmkdagehehaaaGreatDoor.ya Go.Proofs.YtofmkdagehehaaaGreatDoor.yb Go.Proofs.YtofmkdagehehaaaGreatDoor.yc Go.Proofs.YtofmkdagehehaaaGreatDoor.yd Go.Proofs.YtofmkdagehehaaaGreatDoor.ye Go.Proofs.YtofmkdagehehaaaGreatDoor.yf Go.Proofs.YtofmkdagehehaaaGreatDoor.yg Go.Proofs.YtofmkdagehehaaaGreatDoor.yi Go.Proofs.YtofmkdagehehaaaGreatDoor.yj Go.Proofs.YtofmkdagehehaaaGreatDoor.yk Go.Proofs.YtofmkdagehehaaaGreatDoor.yl Go.Proofs.YtofmkdagehehaaaGreatDoor.ym
open Go.Proofs.YtofmkdagehehaaaGreatDoor.tqa Go.Proofs.YtofmkdagehehaaaGreatDoor.tba Go.Proofs.YtofmkdagehehaaaGreatDoor.tbc Go.Proofs.YtofmkdagehehaaaGreatDoor.tbd Go.Proofs.YtofmkdagehehaaaGreatDoor.tbe
open Go.Proofs.YtofmkdagehehaaaGreatDoor.tbf (okI kind_is)
open Go.Proofs.YtofmkdagehehaaaGreatDoor.cp (own_later i64)
open Go.Proofs.YtofmkdagehehaaaGreatDoor.tqb (over)
open Go.Proofs.YtofmkdagehehaaaGreatDoor.ea Go.Proofs.YtofmkdagehehaaaGreatDoor.eb Go.Proofs.YtofmkdagehehaaaGreatDoor.ec Go.Proofs.YtofmkdagehehaaaGreatDoor.ed Go.Proofs.YtofmkdagehehaaaGreatDoor.ee Go.Proofs.YtofmkdagehehaaaGreatDoor.ef Go.Proofs.YtofmkdagehehaaaGreatDoor.eg Go.Proofs.YtofmkdagehehaaaGreatDoor.eh Go.Proofs.YtofmkdagehehaaaGreatDoor.ei Go.Proofs.YtofmkdagehehaaaGreatDoor.ej Go.Proofs.YtofmkdagehehaaaGreatDoor.ek Go.Proofs.YtofmkdagehehaaaGreatDoor.el Go.Proofs.YtofmkdagehehaaaGreatDoor.ha Go.Proofs.YtofmkdagehehaaaGreatDoor.hb Go.Proofs.YtofmkdagehehaaaGreatDoor.hc Go.Proofs.YtofmkdagehehaaaGreatDoor.hd Go.Proofs.YtofmkdagehehaaaGreatDoor.hf Go.Proofs.YtofmkdagehehaaaGreatDoor.hg Go.Proofs.YtofmkdagehehaaaGreatDoor.hh Go.Proofs.YtofmkdagehehaaaGreatDoor.hi Go.Proofs.YtofmkdagehehaaaGreatDoor.hj
open Go.Proofs.YtofmkdagehehaaaGreatDoor.pj (Tab)
open Go.Proofs.YtofmkdagehehaaaGreatDoor.hk Go.Proofs.YtofmkdagehehaaaGreatDoor.hm Go.Proofs.YtofmkdagehehaaaGreatDoor.hn Go.Proofs.YtofmkdagehehaaaGreatDoor.ho Go.Proofs.YtofmkdagehehaaaGreatDoor.hp
set_option linter.unusedVariables false
set_option linter.unusedSimpArgs false
theorem Sm.on {s : S} {e : E} {ag : Nat} {safe all under ys : List ByteArray} (h : Sm s e ag safe all under) (h0 : (appS s e ys).1 = 0) : s.off = false := by
  cases hoff : s.off with
  | false => rfl
  | true =>
    have he : appS s e ys = (124, s, e) := by unfold appS; rw [h.gone, hoff]; simp
    rw [he] at h0
    cases h0
theorem Sm.down {s : S} {e : E} {ag : Nat} {safe all under ys : List ByteArray} (h : Sm s e ag safe all under) (h0 : (appS s e ys).1 = 124) : (appS s e ys).2.1.off = true := by
  obtain ⟨xs, ho, h1, h2⟩ := h.ow
  cases hoff : s.off with
  | true =>
    have he : appS s e ys = (124, s, e) := by unfold appS; rw [h.gone, hoff]; simp
    rw [he]; exact hoff
  | false =>
    obtain ⟨e1, e2⟩ := h1 hoff
    have ho' := ho
    rw [← h.sp] at ho'
    rcases ho'.app (ys := ys) (h.l.trans e1.symm) (h.gone.trans hoff) with ⟨hb, he⟩ | ⟨hb, hf, he⟩ | ⟨hb, hf, _, s', he, k2, k3, k4, k5, k6⟩ | ⟨hb, k0, k1, s', he, k2, k3, k4, k5⟩
    · rw [he] at h0
      exfalso
      have hne : batchE ys (safe ++ xs).length ≠ 124 := by
        unfold batchE
        split
        · decide
        · split
          · decide
          · split
            · decide
            · split <;> decide
      exact hne h0
    · rw [he] at h0; cases h0
    · rw [he] at h0; cases h0
    · rw [he]; exact k4
theorem Sm.was {s : S} {e : E} {ag : Nat} {safe all under ys : List ByteArray} (h : Sm s e ag safe all under) (h0 : (appS s e ys).2.1.off = false) : s.off = false := by
  cases hoff : s.off with
  | false => rfl
  | true =>
    have he : appS s e ys = (124, s, e) := by unfold appS; rw [h.gone, hoff]; simp
    rw [he] at h0
    exact absurd (hoff.symm.trans h0) (by simp)
theorem arm_off (s : S) (n : Int) : (armS s n).off = s.off := by unfold armS; split <;> rfl
abbrev Bx (ge g bn bd K : Nat) := pairO (EnO ge g bn bd) (pairO RowsO (BlkO K))
-- what stands within a storm
def In (ge g bn bd K B i : Nat) (wd : Int) (ob : Obj) (W : World) (fv av uv : Value) (w : World) : Prop := ∃ s e safe all under, One (Bx ge g bn bd K) B ((s, e), ([(av, all), (uv, under), (fv, safe)], ob)) W w ∧ Sm s e i safe all under ∧ e.wd = wd ∧ (s.off = false → Top av all.length [(uv, under), (fv, safe)])
-- and between two of them
def Out (ge g bn bd B i : Nat) (wd : Int) (W : World) (fv : Value) (w : World) : Prop := ∃ s e safe, One (pairO (EnO ge g bn bd) RowsO) B ((s, e), [(fv, safe)]) W w ∧ Sm s e i safe safe safe ∧ s.off = false ∧ e.wd = wd
set_option maxRecDepth 100000 in
set_option maxHeartbeats 51200000 in
theorem recoversW (x : Int) (v : Value) (ss : List Stm) (w : World) (hT : Tab w) (hv : ReadsM w v ss) (hsl : ss.length ≤ 140737488355328) (hsz : ∀ st ∈ ss, st.bs.length ≤ 140737488355328 ∧ (∀ l ∈ st.bs, l.length ≤ 140737488355328) ∧ st.keep.size ≤ 140737488355328 ∧ st.after ≤ 9223372036854775807) :
    Calls Tryz.prog 5 #[.int .i64 x, v] w fun r w' => r = .returned (.bool true) ∧ Below w.heap.size w w' := by
  have HT : Hid (∀ w1, Below w.heap.size w w1 → Tab w1) := fun w1 bb => hT.down bb
  have CB : Hid (Calls _ _ _ _ _) := begunC w hT
  have CO : Hid (∀ w, Calls _ _ _ _ _) := fun w => optsL x w
  have hwq := wq_ok x
  have HWQ : Hid (1 ≤ wq x ∧ wq x ≤ 32) := hwq
  generalize wq x = wd at *
  have HV : Hid (∀ w1, Below w.heap.size w w1 → ReadsM w1 v ss) := fun w1 bb => hv.later bb
  obtain ⟨va, vc, rfl, _⟩ := hv
  obtain ⟨N, HM⟩ : ∃ m, Hid (ss.length = m) := ⟨_, rfl⟩
  rw [HM.out] at hsl HV ⊢
  have hNi : (N : Int) ≤ 140737488355328 := by omega
  have HSZ : Hid _ := hsz
  have CN : Hid (∀ w1, Calls _ _ _ _ _) := fun w1 => newC 1073741824 w1 ⟨by omega, by omega⟩
  clear hT hwq hsz
  by_cases hN : N ≤ 1000
  · have hN' : decide ((N : Int) > 1000) = false := decide_eq_false (by omega)
    have HS : Hid (okI (3 : Int)) := ⟨by omega, by omega⟩
    obtain ⟨s1, hs1, hs2, M1, of1⟩ : ∃ s1, syncS ⟨1073741824, [], [], 0, false, 0⟩ = (0, s1) ∧ s1.age = 0 ∧ (Sm s1 ⟨3, 0, wd, [], 0⟩ 0 [] [] []) ∧ s1.off = false := by
      have e1 := sync_on (s := ⟨1073741824, [], [], 0, false, 0⟩) rfl rfl
      have e2 := (Sm.new (wd := wd)).sync rfl
      rw [e1] at e2
      exact ⟨_, e1, rfl, e2.1 rfl, rfl⟩
    have HS1 : Hid (syncS ⟨1073741824, [], [], 0, false, 0⟩ = (0, s1)) := hs1
    have HM1 : Hid (Sm s1 ⟨3, 0, wd, [], 0⟩ 0 [] [] [] ∧ s1.off = false) := ⟨M1, of1⟩
    clear hs1 hs2 M1 of1
    go_enter Tryz.func5, Tryz.ntmps5
    go_upto_region 3 with (first
      | (go_at_call 8; refine CB.out.mono ?_; rintro _ wb ⟨rfl, bb⟩; have BB : Hid (Below w.heap.size w wb) := bb; clear bb)
      | (go_at_call 11; refine (CO.out _).mono ?_; rintro _ w2 ⟨rfl, b2⟩; have B2 : Hid (Below w.heap.size w w2) := over BB.out b2; clear b2)
      | go_in)
    obtain ⟨W, HW⟩ : ∃ W, Hid (w2.alloc (.cells #[.int .i64 1, .int .i64 wd, .int .i64 0, .int .i64 0, .int .i64 0, .int .i64 0] 31) = W) := ⟨_, rfl⟩
    have bW : Below w2.heap.size w2 W := by rw [← HW.out]; exact new1 _ _
    have hq : W.heap[w2.heap.size]? = some (.cells #[.int .i64 1, .int .i64 wd, .int .i64 0, .int .i64 0, .int .i64 0, .int .i64 0] 31 (0, 0)) := by rw [← HW.out]; exact heap_alloc_new w2 _
    have hql := (Array.getElem?_eq_some_iff.1 hq).1
    have BW : Hid (Below w.heap.size w W) := over B2.out bW
    have HQ : Hid (∀ w1, Below W.heap.size W w1 → (w1.cell? ⟨w2.heap.size, 0, none⟩ = some (.int .i64 1) ∧ w1.cell? ⟨w2.heap.size, 1, none⟩ = some (.int .i64 wd) ∧ w1.cell? ⟨w2.heap.size, 2, none⟩ = some (.int .i64 0) ∧ w1.cell? ⟨w2.heap.size, 3, none⟩ = some (.int .i64 0) ∧ w1.cell? ⟨w2.heap.size, 4, none⟩ = some (.int .i64 0) ∧ w1.cell? ⟨w2.heap.size, 5, none⟩ = some (.int .i64 0))) := fun w1 bb => by
      have e1 := (bb.block _ hql).trans hq
      exact ⟨cell_of_row _ _ 0 _ _ _ e1, cell_of_row _ _ 1 _ _ _ e1, cell_of_row _ _ 2 _ _ _ e1, cell_of_row _ _ 3 _ _ _ e1, cell_of_row _ _ 4 _ _ _ e1, cell_of_row _ _ 5 _ _ _ e1⟩
    have HTW : Hid (Tab W) := HT.out W BW.out
    have HTB : Hid (3 ≤ W.heap.size) := HTW.out.big
    rw [HW.out]
    clear bW hq hql
    go_upto_region 6 with (first
      | (go_at_call 9; refine (CN.out _).mono ?_; rintro _ w3 ⟨g, bn, bd, rfl, h1, b1⟩; have H3 : Hid (Sr W.heap.size g bn bd (.slice none 0 0) ⟨1073741824, [], [], 0, false, 0⟩ w3) := h1; have B3 : Hid (Below W.heap.size W w3) := b1; clear h1 b1)
      | go_in)
    obtain ⟨y0, y1, y2, y3, y4, y5⟩ := HQ.out w3 B3.out
    go_upto_region 7 with (first
      | (go_at_call 10; refine (newEngine (c := 1073741824) (sp := 3) (wd := wd) HS.out HWQ.out H3.out B3.out (Below.refl _ _)).mono ?_; rintro _ w4 ⟨ge, rfl, h4⟩; have O4 : Hid (One (EnO ge g bn bd) W.heap.size (⟨1073741824, [], [], 0, false, 0⟩, ⟨3, 0, wd, [], 0⟩) W w4) := h4; clear h4)
      | go_in)
    have O5 : Hid (One (pairO (EnO ge g bn bd) RowsO) W.heap.size ((⟨1073741824, [], [], 0, false, 0⟩, ⟨3, 0, wd, [], 0⟩), [(.slice none 0 0, [])]) W w4) := One.put O4.out (G := fun k => ∃ p ∈ [((Value.slice none 0 0, []) : Value × List ByteArray)], some k = p.1.ownBlock) ⟨fun p hp => by
      rw [List.mem_singleton.1 hp]; exact Own.nil _, fun k => Iff.rfl⟩ (Below.refl _ _) (fun k ⟨p, hp, hk⟩ => by rw [List.mem_singleton.1 hp] at hk; cases hk)
    have CS : Hid (Calls Tryz.prog 15 #[.pointer (some ⟨g, 0, none⟩)] w4 fun r w' => r = .returned (.int .i64 0) ∧ One (pairO (EnO ge g bn bd) RowsO) W.heap.size ((s1, ⟨3, 0, wd, [], 0⟩), [(.slice none 0 0, [])]) W w') := by
      have C := pSync O5.out
      rw [HS1.out] at C
      exact C
    clear y0 y1 y2 y3 y4 y5 CN CB CO
    go_wp2_with (first
      | (go_at_call 15; refine CS.out.mono ?_; rintro _ w5 ⟨rfl, h5⟩; have O6 : Hid _ := h5; clear h5)
      | go_in)
    go_loopw [8, 10, 11] (fun ev fv iv wr => ∃ (i ge : Nat), i ≤ N ∧ ev = .pointer (some ⟨ge, 0, none⟩) ∧ iv = .int .i64 i ∧ Hid (Out ge g bn bd W.heap.size i wd W fv wr)) (fun _ _ iv _ => (N - intOf iv).toNat)
    case atStart => exact ⟨0, ge, by omega, rfl, rfl, _, _, [], O6.out, HM1.out.1, HM1.out.2, rfl⟩
    case round =>
      obtain ⟨i, ge, hi, rfl, rfl, HH⟩ := hrel
      obtain ⟨fv, hfv0⟩ : ∃ fv, fv = u10 := ⟨_, rfl⟩
      subst hfv0
      by_cases hlt : i < N
      · have hlt' : (i : Int) < N := by omega
        obtain ⟨⟨bs, sy, atv, af, kp⟩, hst⟩ : ∃ st, ss[i]? = some st := ⟨_, List.getElem?_eq_getElem (by rw [HM.out]; exact hlt)⟩
        obtain ⟨hz1, hz2, hz3, hz4⟩ := HSZ.out _ (List.mem_of_getElem? hst)
        simp only at hz1 hz2 hz3 hz4
        have HZ2 : Hid (∀ l ∈ bs, l.length ≤ 140737488355328) := hz2
        have HZ3 : Hid (kp.size ≤ 140737488355328) := hz3
        have HZ4 : Hid (af ≤ 9223372036854775807) := hz4
        obtain ⟨nb, HNB⟩ : ∃ nb, Hid (bs.length = nb) := ⟨_, rfl⟩
        have hnb : (nb : Int) ≤ 140737488355328 := by rw [← HNB.out]; omega
        obtain ⟨b, off, ba, bc, rfl, hcs, hkW⟩ : ∃ b off ba bc, va = some ⟨b, off, none⟩ ∧ (W.cell? ⟨b, off + i * 5, none⟩ = some (.slice ba nb bc) ∧ W.cell? ⟨b, off + i * 5 + 1, none⟩ = some (.int .i64 sy) ∧ W.cell? ⟨b, off + i * 5 + 2, none⟩ = some (.int .i64 atv) ∧ W.cell? ⟨b, off + i * 5 + 3, none⟩ = some (.int .i64 af) ∧ W.cell? ⟨b, off + i * 5 + 4, none⟩ = some (.string kp)) ∧ ReadsK W (.slice ba nb bc) bs := by
          obtain ⟨a, cc, e1, h0 | ⟨b, off, e2, hh⟩⟩ := HV.out W BW.out
          · have := HM.out; omega
          · obtain ⟨bv, h1, h2, h3, h4, h5, h6⟩ := hh i _ hst
            injection e1 with e1 _ _
            obtain ⟨ba, bc, rfl, hr⟩ := id h2
            simp only at h1 h2
            rw [HNB.out] at h1 h2
            exact ⟨b, off, ba, bc, by rw [e1]; exact e2, ⟨h1, h3, h4, h5, h6⟩, h2⟩
        have HK : Hid (ReadsK W (.slice ba nb bc) bs) := hkW
        obtain ⟨wo, hwo⟩ : ∃ wo, wo = wr := ⟨_, rfl⟩
        subst hwo
        obtain ⟨s, e, safe, hO, hM, hoff, hwd⟩ := HH.out
        have OO : Hid _ := hO
        have MM : Hid (Sm s e i safe safe safe ∧ s.off = false ∧ e.wd = wd) := ⟨hM, hoff, hwd⟩
        have bwo : Below W.heap.size W wo := One.below hO
        have kk : ∀ {p : Addr} {v : Value}, W.cell? p = some v → wo.cell? p = some v := fun h => (bwo.cell (World.block_lt_of_cell? _ _ h)).trans h
        have d0 := kk hcs.1
        have d1 := kk hcs.2.1
        have d2 := kk hcs.2.2.1
        have d3 := kk hcs.2.2.2.1
        have d4 := kk hcs.2.2.2.2
        clear kk bwo hcs hkW hz1 hz2 hz3 hz4 hst hO hM hoff hwd HH
        go_upto_region 14 with fail
        obtain ⟨ob, HOB⟩ : ∃ ob, Hid (Obj.cells #[.slice ba nb bc, .int .i64 sy, .int .i64 atv, .int .i64 af, .string kp] 45 (0, 0) = ob) := ⟨_, rfl⟩
        obtain ⟨K, HKB⟩ : ∃ K, Hid (wo.heap.size = K) := ⟨_, rfl⟩
        obtain ⟨W1, HW1⟩ : ∃ W1, Hid (wo.alloc (.cells #[.slice ba nb bc, .int .i64 sy, .int .i64 atv, .int .i64 af, .string kp] 45) = W1) := ⟨_, rfl⟩
        have H1 : Hid (One (Bx ge g bn bd K) W.heap.size ((s, e), ([(fv, safe)], ob)) W W1) := by
          have := addBox OO.out #[.slice ba nb bc, .int .i64 sy, .int .i64 atv, .int .i64 af, .string kp] 45
          rw [HW1.out, HKB.out, HOB.out] at this
          exact this
        have BX : Hid (∀ se l w1, One (Bx ge g bn bd K) W.heap.size (se, (l, ob)) W w1 → w1.cell? ⟨K, 0, none⟩ = some (.slice ba nb bc) ∧ w1.cell? ⟨K, 1, none⟩ = some (.int .i64 sy) ∧ w1.cell? ⟨K, 2, none⟩ = some (.int .i64 atv) ∧ w1.cell? ⟨K, 3, none⟩ = some (.int .i64 af) ∧ w1.cell? ⟨K, 4, none⟩ = some (.string kp)) := fun se l w1 h1 => by
          have e1 := (dropBox h1).2
          rw [← HOB.out] at e1
          exact ⟨cell_of_row _ _ 0 _ _ _ e1, cell_of_row _ _ 1 _ _ _ e1, cell_of_row _ _ 2 _ _ _ e1, cell_of_row _ _ 3 _ _ _ e1, cell_of_row _ _ 4 _ _ _ e1⟩
        rw [HW1.out]
        try rw [HKB.out]
        have H2 : Hid (One (Bx ge g bn bd K) W.heap.size ((s, e), ([(.slice none 0 0, []), (fv, safe)], ob)) W W1) := bSub H1.out (fun p hp => by
          rcases List.mem_cons.1 hp with rfl | hp
          · exact .inr ⟨rfl, rfl⟩
          · exact .inl hp)
        have R2 : Hid (Rd W1 fv safe) := Own.rd (bRow H1.out List.mem_cons_self)
        have T2 : Hid (Top (.slice none 0 0) 0 [(fv, safe)]) := top_nil (w := W1) (fun p hp => by rw [List.mem_singleton.1 hp]; exact bRow H1.out List.mem_cons_self)
        have hsl1 : (([] : List ByteArray).length + safe.length) * 16 ≤ 140737488355328 := by have := MM.out.1.lens.2.2.1; simp only [List.length_nil]; omega
        have HL1 : Hid _ := hsl1
        clear d0 d1 d2 d3 d4 hsl1 HOB
        go_upto_region 16 with (first | (at_builtin; (refine wpList_appO rfl _ _ rfl _ _ [] safe rfl (Own.nil _) rfl R2.out HL1.out ?_; intro av wA k1 k2 k3 k4; have HA : Hid _ := bGrow H2.out k1 k2 k3 T2.out k4; clear k1 k2 k3 k4)) | go_in)
        have HIN : Hid (In ge g bn bd K W.heap.size i wd ob W fv av av wA) := by
          obtain ⟨a1, a2⟩ := HA.out
          refine ⟨s, e, safe, safe, safe, bSub a1 (fun p hp => ?_), MM.out.1, MM.out.2.2, fun _ p hp hb => ?_⟩
          · rcases List.mem_cons.1 hp with rfl | hp
            · exact .inl List.mem_cons_self
            · exact .inl hp
          · rcases List.mem_cons.1 hp with rfl | hp
            · exact Nat.le_refl _
            · exact a2 p hp hb
        clear HA HL1 T2 R2 H2 H1 HW1 HKB
        go_wp2_with fail
        go_loopw [10, 13, 14, 15] (fun fv av uv kv wr => ∃ (k : Nat), k ≤ 60 ∧ kv = .int .i64 k ∧ Hid (In ge g bn bd K W.heap.size i wd ob W fv av uv wr)) (fun _ _ _ kv _ => (60 - intOf kv).toNat)
        case atStart => exact ⟨0, by omega, rfl, HIN.out⟩
        case round =>
          obtain ⟨k, hk, rfl, HI⟩ := hrel
          obtain ⟨fv, hfv1⟩ : ∃ fv, fv = u10 := ⟨_, rfl⟩
          subst hfv1
          obtain ⟨av, hav1⟩ : ∃ av, av = u13 := ⟨_, rfl⟩
          subst hav1
          obtain ⟨uv, huv1⟩ : ∃ uv, uv = u14 := ⟨_, rfl⟩
          subst huv1
          obtain ⟨s, e, safe, all, under, hO, hM, hwd, hT⟩ := HI.out
          have O1 : Hid _ := hO
          have M1 : Hid _ := hM
          have HWD : Hid (e.wd = wd) := hwd
          have T1 : Hid _ := hT
          obtain ⟨x0, x1, x2, x3, x4⟩ := BX.out _ _ _ O1.out
          clear HI hO hM hwd hT OO MM HIN
          by_cases hlk : k < nb ∧ k < 60
          · have hlk1 : (k : Int) < nb := by omega
            have hlk2 : (k : Int) < 60 := by omega
            obtain ⟨l, hl⟩ : ∃ l, bs[k]? = some l := ⟨_, List.getElem?_eq_getElem (by rw [HNB.out]; exact hlk.1)⟩
            have hlz : l.length ≤ 140737488355328 := HZ2.out l (List.mem_of_getElem? hl)
            obtain ⟨ll, HLL⟩ : ∃ ll, Hid (l.length = ll) := ⟨_, rfl⟩
            have hll : (ll : Int) ≤ 140737488355328 := by rw [← HLL.out]; omega
            obtain ⟨b', off', a', c', rfl, hcW, hrW⟩ : ∃ b' off' a' c', ba = some ⟨b', off', none⟩ ∧ W.cell? ⟨b', off' + k, none⟩ = some (.slice a' ll c') ∧ Rd W (.slice a' ll c') l := by
              obtain ⟨a, cc, e1, h0 | ⟨b, off, e2, hh⟩⟩ := HK.out
              · have := HNB.out; omega
              · obtain ⟨a', c', h1, h2⟩ := hh k l hl
                rw [HLL.out] at h1 h2
                injection e1 with e1 _ _
                exact ⟨b, off, a', c', by rw [e1]; exact e2, h1, h2⟩
            have HCB : Hid (∀ se l1 w1, One (Bx ge g bn bd K) W.heap.size (se, (l1, ob)) W w1 → w1.cell? ⟨b', off' + k, none⟩ = some (.slice a' ll c') ∧ Rd w1 (.slice a' ll c') l) := fun se l1 w1 hh => ⟨((One.below hh).cell (World.block_lt_of_cell? _ _ hcW)).trans hcW, hrW.later (One.below hh)⟩
            have HBL : Hid (∀ k, (Value.slice a' ll c').ownBlock = some k → l ≠ [] → k < W.heap.size) := ReadsT.blk hrW.1
            clear hl hcW hrW hlk hlz
            by_cases hat : (k : Int) = atv
            · have hat' : ((k : Int) == atv) = true := by rw [hat]; simp
              have CA : Hid (Calls _ _ _ _ _) := pArm O1.out af HZ4.out
              clear hat
              go_upto_region 22 with (first | (go_at_call 17; refine CA.out.mono ?_; rintro _ w5 ⟨rfl, h5⟩; have O5 : Hid _ := h5; clear h5) | go_in)
              have M5 : Hid _ := M1.out.arm af
              have T5 : Hid ((armS s af).off = false → Top av all.length [(uv, under), (fv, safe)]) := fun h => T1.out (by rw [← arm_off s af]; exact h)
              obtain ⟨sB, HSB⟩ : ∃ sB, Hid (armS s af = sB) := ⟨_, rfl⟩
              rw [HSB.out] at O5 M5 T5
              clear CA HSB x0 x1 x2 x3 x4
              clear O1 M1 T1
              have CAP : Hid (Calls _ _ _ _ _) := pApp O5.out a' c' l ll HLL (HCB.out _ _ _ O5.out).2.1 HBL.out (by omega) M5.out.lens.1 M5.out.lens.2.1
              have HAP : Hid _ := M5.out.app (ys := l)
              have HON : Hid _ := Sm.on (ys := l) M5.out
              obtain ⟨ap, HAPE⟩ : ∃ ap, Hid (appS sB e l = ap) := ⟨_, rfl⟩
              rw [HAPE.out] at CAP HAP HON
              obtain ⟨ae, sA, eA⟩ := ap
              simp only at CAP HAP HON
              obtain ⟨x0, x1, x2, x3, x4⟩ := BX.out _ _ _ O5.out
              have cb := (HCB.out _ _ _ O5.out).1
              go_upto_region 23 with (first | (go_at_call 12; refine CAP.out.mono ?_; rintro _ w6 ⟨rfl, h6⟩; have O6 : Hid (One (Bx ge g bn bd K) W.heap.size ((sA, eA), ([(av, all), (uv, under), (fv, safe)], ob)) W w6) := h6; clear h6) | go_in)
              have HLS : Hid _ := M5.out.lens
              have HWA : Hid (eA.wd = wd) := by show _ = _; rw [HAP.out.2.2.2]; exact HWD.out
              have HOF : Hid (ae = 124 → sA.off = true) := fun h => Sm.down (ys := l) M5.out (by rw [HAPE.out]; exact h) |> fun q => by rw [HAPE.out] at q; exact q
              have HNO : Hid (sA.off = false → sB.off = false) := fun h => Sm.was (ys := l) M5.out (by rw [HAPE.out]; exact h)
              clear x0 x1 x2 x3 x4 cb CAP HAPE
              obtain ⟨x0, x1, x2, x3, x4⟩ := BX.out _ _ _ O6.out
              have cb := (HCB.out _ _ _ O6.out).1
              have hla : all.length ≤ 30000000 := HLS.out.2.2.2.1
              by_cases hae : ae = 0
              · subst hae
                obtain ⟨M6, hll1, hll0, hofA⟩ := HAP.out.1 rfl
                have hon : sB.off = false := HON.out rfl
                have M6 : Hid _ := M6
                have OFA : Hid (sA.off = false) := hofA
                have T6 : Hid (Top av all.length [(uv, under), (fv, safe)]) := T5.out hon
                have RA : Hid (Own w6 av all) := bRow O6.out List.mem_cons_self
                have RB : Hid (Rd w6 (.slice a' ll c') l) := (HCB.out _ _ _ O6.out).2
                have HL2 : Hid ((all.length + l.length) * 16 ≤ 140737488355328) := by show _ ≤ _; omega
                clear HAP HON hll1 hll0 hofA hon
                go_upto_region 25 with (first | (at_builtin; (refine wpList_appO rfl _ _ rfl _ _ all l rfl RA.out rfl RB.out HL2.out ?_; intro a7 w7 k1 k2 k3 k4; have HG : Hid _ := bGrow O6.out k1 k2 k3 T6.out k4; clear k1 k2 k3 k4)) | go_in)
                obtain ⟨A7, HA7⟩ : ∃ A7, Hid (all ++ l = A7) := ⟨_, rfl⟩
                rw [HA7.out] at HG M6
                have O7 : Hid (One (Bx ge g bn bd K) W.heap.size ((sA, eA), ([(a7, A7), (a7, A7), (fv, safe)], ob)) W w7) := bSub HG.out.1 (fun p hp => by
                  rcases List.mem_cons.1 hp with rfl | hp
                  · exact .inl List.mem_cons_self
                  · rcases List.mem_cons.1 hp with rfl | hp
                    · exact .inl List.mem_cons_self
                    · exact .inl (List.mem_cons_of_mem _ (List.mem_cons_of_mem _ hp)))
                have T7 : Hid (Top a7 A7.length [(a7, A7), (fv, safe)]) := fun p hp hb => by
                  rcases List.mem_cons.1 hp with rfl | hp
                  · exact Nat.le_refl _
                  · exact HG.out.2 p (List.mem_cons_of_mem _ hp) hb
                have CS : Hid (Calls _ _ _ _ _) := pSync O7.out
                have SY : Hid _ := M6.out.sync OFA.out
                obtain ⟨sq, HSQ⟩ : ∃ q, Hid (syncS sA = q) := ⟨_, rfl⟩
                rw [HSQ.out] at CS SY
                obtain ⟨sr, sS⟩ := sq
                simp only at CS SY
                clear x0 x1 x2 x3 x4 cb HG HL2 RA RB HSQ
                obtain ⟨x0, x1, x2, x3, x4⟩ := BX.out _ _ _ O7.out
                go_upto_region 30 with fail
                obtain ⟨bit, HBIT⟩ : ∃ bit, Hid (bits BinOp.and IntKind.i64 (sy / 2 ^ k) 1 = bit) := ⟨_, rfl⟩
                have hbit := HBIT.out
                by_cases hb1 : bit = 1
                · have hb' : (bit == 1) = true := by rw [hb1]; simp
                  clear hb1
                  by_cases hsr : sr = 0
                  · subst hsr
                    have M8 : Hid (Sm sS eA i A7 A7 A7) := SY.out.1 rfl
                    have NX : Hid (∀ w9, One (Bx ge g bn bd K) W.heap.size ((sS, eA), ([(a7, A7), (a7, A7), (fv, safe)], ob)) W w9 → In ge g bn bd K W.heap.size i wd ob W a7 a7 a7 w9) := fun w9 hh => ⟨sS, eA, A7, A7, A7, bSub hh (fun p hp => by
                      rcases List.mem_cons.1 hp with rfl | hp
                      · exact .inl List.mem_cons_self
                      · rcases List.mem_cons.1 hp with rfl | hp
                        · exact .inl List.mem_cons_self
                        · rw [List.mem_singleton.1 hp]; exact .inl List.mem_cons_self), M8.out, HWA.out, fun _ p hp hb => by
                      rcases List.mem_cons.1 hp with rfl | hp
                      · exact Nat.le_refl _
                      · rw [List.mem_singleton.1 hp]; exact Nat.le_refl _⟩
                    go_wp2_with (first | (go_at_call 15; refine CS.out.mono ?_; rintro _ w9 ⟨rfl, h9⟩; have N9 : Hid _ := NX.out w9 h9; clear h9) | go_in)
                    go_roundw
                    case rel => exact ⟨k + 1, by omega, by go_num, N9.out⟩
                    case measure => simp [intOf]; omega
                  · have hsr' : (sr == 0) = false := by rw [beq_eq_false_iff_ne]; exact hsr
                    have M8 : Hid (Sm sS eA i safe A7 A7) := SY.out.2 hsr
                    have NX : Hid (∀ w9, One (Bx ge g bn bd K) W.heap.size ((sS, eA), ([(a7, A7), (a7, A7), (fv, safe)], ob)) W w9 → In ge g bn bd K W.heap.size i wd ob W fv a7 a7 w9) := fun w9 hh => ⟨sS, eA, safe, A7, A7, hh, M8.out, HWA.out, fun _ => T7.out⟩
                    clear hsr
                    go_wp2_with (first | (go_at_call 15; refine CS.out.mono ?_; rintro _ w9 ⟨rfl, h9⟩; have N9 : Hid _ := NX.out w9 h9; clear h9) | go_in)
                    go_roundw
                    case rel => exact ⟨k + 1, by omega, by go_num, N9.out⟩
                    case measure => simp [intOf]; omega
                · have hb' : (bit == 1) = false := by rw [beq_eq_false_iff_ne]; exact hb1
                  have NX : Hid (In ge g bn bd K W.heap.size i wd ob W fv a7 a7 w7) := ⟨sA, eA, safe, A7, A7, O7.out, M6.out, HWA.out, fun _ => T7.out⟩
                  clear hb1
                  go_wp2_with fail
                  go_roundw
                  case rel => exact ⟨k + 1, by omega, by go_num, NX.out⟩
                  case measure => simp [intOf]; omega
              · by_cases hae2 : ae = 124
                · subst hae2
                  have D6 := HAP.out.2.1 rfl
                  have D6 : Hid _ := D6
                  have RA : Hid (Own w6 av all) := bRow O6.out List.mem_cons_self
                  have RU : Hid (Own w6 uv under) := bRow O6.out (List.mem_cons_of_mem _ List.mem_cons_self)
                  have RB : Hid (Rd w6 (.slice a' ll c') l) := (HCB.out _ _ _ O6.out).2
                  have hul : under.length ≤ 30000000 := HLS.out.2.2.2.2
                  have CT : Hid (Calls _ _ _ _ _) := hs.same uv av under all w6 RU.out.reads RA.out.reads (by omega)
                  have OD : Hid (∀ q, One (Bx ge g bn bd K) W.heap.size ((sA, eA), ([(av, all), (uv, under), (fv, safe)], ob)) W (w6.drewN q)) := fun q => One.later O6.out (below_dN (Below.refl _ _) q)
                  have HSF : Hid (sA.off = true) := by
                    exact HOF.out rfl
                  clear HAP HON hae
                  by_cases hua : under = all ∧ ll ≤ 1024
                  · obtain ⟨hu1, hu2⟩ := hua
                    have M6 : Hid (Sm sA eA i safe all (all ++ l)) := D6.out.1 hu1 (by rw [HLL.out]; exact hu2)
                    have hd : decide (under = all) = true := decide_eq_true hu1
                    rw [hd] at CT
                    have hu2' : (ll : Int) ≤ 1024 := by omega
                    have hu2d : decide ((ll : Int) ≤ 1024) = true := decide_eq_true hu2'
                    clear hu1 hd D6 x0 x1 x2 x3 x4 cb
                    go_upto_region 26 with fail
                    have XX : Hid (∀ q, _) := fun q => BX.out _ _ _ (OD.out q)
                    have CC : Hid (∀ q, _) := fun q => (HCB.out _ _ _ (OD.out q))
                    go_upto_region 28 with (first
                      | (go_at_call 18; refine CT.out.mono ?_; rintro _ _ ⟨rfl, q, rfl⟩; obtain ⟨x0, x1, x2, x3, x4⟩ := XX.out q; have cb := (CC.out q).1)
                      | go_in)
                    have O7 : Hid (One (Bx ge g bn bd K) W.heap.size ((sA, eA), ([(.slice none 0 0, []), (av, all), (uv, under), (fv, safe)], ob)) W (w6.drewN q)) := bSub (OD.out q) (fun p hp => by
                      rcases List.mem_cons.1 hp with rfl | hp
                      · exact .inr ⟨rfl, rfl⟩
                      · exact .inl hp)
                    have RA7 : Hid (Rd (w6.drewN q) av all) := Own.rd (bRow (OD.out q) List.mem_cons_self)
                    have T7 : Hid (Top (.slice none 0 0) 0 [(av, all), (uv, under), (fv, safe)]) := top_nil (w := w6.drewN q) (fun p hp => bRow (OD.out q) hp)
                    have HL7 : Hid ((([] : List ByteArray).length + all.length) * 16 ≤ 140737488355328) := by show _ ≤ _; simp only [List.length_nil]; omega
                    clear x0 x1 x2 x3 x4 cb
                    go_upto_region 29 with (first | (at_builtin; (refine wpList_appO rfl _ _ rfl _ _ [] all rfl (Own.nil _) rfl RA7.out HL7.out ?_; intro m8 w8 k1 k2 k3 k4; have HG : Hid _ := bGrow O7.out k1 k2 k3 T7.out k4; clear k1 k2 k3 k4)) | go_in)
                    have O8 : Hid (One (Bx ge g bn bd K) W.heap.size ((sA, eA), ([(m8, all), (av, all), (uv, under), (fv, safe)], ob)) W w8) := HG.out.1
                    have T8 : Hid (Top m8 all.length [(av, all), (uv, under), (fv, safe)]) := HG.out.2
                    have RM : Hid (Own w8 m8 all) := bRow O8.out List.mem_cons_self
                    have RB8 : Hid (Rd w8 (.slice a' ll c') l) := (HCB.out _ _ _ O8.out).2
                    have HL8 : Hid ((all.length + l.length) * 16 ≤ 140737488355328) := by show _ ≤ _; rw [HLL.out]; omega
                    obtain ⟨x0, x1, x2, x3, x4⟩ := BX.out _ _ _ O8.out
                    have cb := (HCB.out _ _ _ O8.out).1
                    clear HG
                    go_upto_region 30 with (first | (at_builtin; (refine wpList_appO rfl _ _ rfl _ _ all l rfl RM.out rfl RB8.out HL8.out ?_; intro u9 w9 k1 k2 k3 k4; have HG : Hid _ := bGrow O8.out k1 k2 k3 T8.out k4; clear k1 k2 k3 k4)) | go_in)
                    have NX : Hid (In ge g bn bd K W.heap.size i wd ob W fv av u9 w9) := ⟨sA, eA, safe, all, all ++ l, bSub HG.out.1 (fun p hp => by
                      rcases List.mem_cons.1 hp with rfl | hp
                      · exact .inl (List.mem_cons_of_mem _ List.mem_cons_self)
                      · rcases List.mem_cons.1 hp with rfl | hp
                        · exact .inl List.mem_cons_self
                        · exact .inl (List.mem_cons_of_mem _ (List.mem_cons_of_mem _ (List.mem_cons_of_mem _ hp)))), M6.out, HWA.out, fun h => by rw [HSF.out] at h; cases h⟩
                    clear x0 x1 x2 x3 x4 cb
                    go_wp2_with fail
                    go_roundw
                    case rel => exact ⟨k + 1, by omega, by go_num, NX.out⟩
                    case measure => simp [intOf]; omega
                  · have M6 : Hid (Sm sA eA i safe all under) := D6.out.2 (by rw [HLL.out]; exact hua)
                    have NX : Hid (∀ q, In ge g bn bd K W.heap.size i wd ob W fv av uv (w6.drewN q)) := fun q => ⟨sA, eA, safe, all, under, OD.out q, M6.out, HWA.out, fun h => by rw [HSF.out] at h; cases h⟩
                    have XX : Hid (∀ q, _) := fun q => BX.out _ _ _ (OD.out q)
                    have CC : Hid (∀ q, _) := fun q => (HCB.out _ _ _ (OD.out q))
                    by_cases hu1 : under = all
                    · have hd : decide (under = all) = true := decide_eq_true hu1
                      rw [hd] at CT
                      have hu2' : ¬ (ll : Int) ≤ 1024 := by have : ¬ ll ≤ 1024 := fun h => hua ⟨hu1, h⟩; omega
                      have hu2d : decide ((ll : Int) ≤ 1024) = false := decide_eq_false hu2'
                      clear hu1 hd hua D6 x0 x1 x2 x3 x4 cb
                      go_wp2_with (first
                        | (go_at_call 18; refine CT.out.mono ?_; rintro _ _ ⟨rfl, q, rfl⟩; obtain ⟨x0, x1, x2, x3, x4⟩ := XX.out q; have cb := (CC.out q).1)
                        | go_in)
                      go_roundw
                      case rel => exact ⟨k + 1, by omega, by go_num, NX.out q⟩
                      case measure => simp [intOf]; omega
                    · have hd : decide (under = all) = false := decide_eq_false hu1
                      rw [hd] at CT
                      clear hu1 hd hua D6 x0 x1 x2 x3 x4 cb
                      go_wp2_with (first
                        | (go_at_call 18; refine CT.out.mono ?_; rintro _ _ ⟨rfl, q, rfl⟩; obtain ⟨x0, x1, x2, x3, x4⟩ := XX.out q; have cb := (CC.out q).1)
                        | go_in)
                      go_roundw
                      case rel => exact ⟨k + 1, by omega, by go_num, NX.out q⟩
                      case measure => simp [intOf]; omega
                · have ha0 : (ae == 0) = false := by rw [beq_eq_false_iff_ne]; exact hae
                  have ha1 : (ae == 124) = false := by rw [beq_eq_false_iff_ne]; exact hae2
                  have M6 : Hid (Sm sA eA i safe all under) := HAP.out.2.2.1 hae hae2
                  have NX : Hid (In ge g bn bd K W.heap.size i wd ob W fv av uv w6) := ⟨sA, eA, safe, all, under, O6.out, M6.out, HWA.out, fun h => T5.out (HNO.out h)⟩
                  clear hae hae2 HAP HON
                  go_wp2_with fail
                  go_roundw
                  case rel => exact ⟨k + 1, by omega, by go_num, NX.out⟩
                  case measure => simp [intOf]; omega
            · have hat' : ((k : Int) == atv) = false := by rw [beq_eq_false_iff_ne]; exact hat
              clear hat
              go_upto_region 22 with fail
              obtain ⟨w5, hw5⟩ : ∃ w5, w5 = wr := ⟨_, rfl⟩
              obtain ⟨sB, hsB⟩ : ∃ sB, sB = s := ⟨_, rfl⟩
              subst hw5 hsB
              have O5 : Hid _ := O1.out
              have M5 : Hid _ := M1.out
              have T5 : Hid _ := T1.out
              clear x0 x1 x2 x3 x4
              clear O1 M1 T1
              have CAP : Hid (Calls _ _ _ _ _) := pApp O5.out a' c' l ll HLL (HCB.out _ _ _ O5.out).2.1 HBL.out (by omega) M5.out.lens.1 M5.out.lens.2.1
              have HAP : Hid _ := M5.out.app (ys := l)
              have HON : Hid _ := Sm.on (ys := l) M5.out
              obtain ⟨ap, HAPE⟩ : ∃ ap, Hid (appS sB e l = ap) := ⟨_, rfl⟩
              rw [HAPE.out] at CAP HAP HON
              obtain ⟨ae, sA, eA⟩ := ap
              simp only at CAP HAP HON
              obtain ⟨x0, x1, x2, x3, x4⟩ := BX.out _ _ _ O5.out
              have cb := (HCB.out _ _ _ O5.out).1
              go_upto_region 23 with (first | (go_at_call 12; refine CAP.out.mono ?_; rintro _ w6 ⟨rfl, h6⟩; have O6 : Hid (One (Bx ge g bn bd K) W.heap.size ((sA, eA), ([(av, all), (uv, under), (fv, safe)], ob)) W w6) := h6; clear h6) | go_in)
              have HLS : Hid _ := M5.out.lens
              have HWA : Hid (eA.wd = wd) := by show _ = _; rw [HAP.out.2.2.2]; exact HWD.out
              have HOF : Hid (ae = 124 → sA.off = true) := fun h => Sm.down (ys := l) M5.out (by rw [HAPE.out]; exact h) |> fun q => by rw [HAPE.out] at q; exact q
              have HNO : Hid (sA.off = false → sB.off = false) := fun h => Sm.was (ys := l) M5.out (by rw [HAPE.out]; exact h)
              clear x0 x1 x2 x3 x4 cb CAP HAPE
              obtain ⟨x0, x1, x2, x3, x4⟩ := BX.out _ _ _ O6.out
              have cb := (HCB.out _ _ _ O6.out).1
              have hla : all.length ≤ 30000000 := HLS.out.2.2.2.1
              by_cases hae : ae = 0
              · subst hae
                obtain ⟨M6, hll1, hll0, hofA⟩ := HAP.out.1 rfl
                have hon : sB.off = false := HON.out rfl
                have M6 : Hid _ := M6
                have OFA : Hid (sA.off = false) := hofA
                have T6 : Hid (Top av all.length [(uv, under), (fv, safe)]) := T5.out hon
                have RA : Hid (Own w6 av all) := bRow O6.out List.mem_cons_self
                have RB : Hid (Rd w6 (.slice a' ll c') l) := (HCB.out _ _ _ O6.out).2
                have HL2 : Hid ((all.length + l.length) * 16 ≤ 140737488355328) := by show _ ≤ _; omega
                clear HAP HON hll1 hll0 hofA hon
                go_upto_region 25 with (first | (at_builtin; (refine wpList_appO rfl _ _ rfl _ _ all l rfl RA.out rfl RB.out HL2.out ?_; intro a7 w7 k1 k2 k3 k4; have HG : Hid _ := bGrow O6.out k1 k2 k3 T6.out k4; clear k1 k2 k3 k4)) | go_in)
                obtain ⟨A7, HA7⟩ : ∃ A7, Hid (all ++ l = A7) := ⟨_, rfl⟩
                rw [HA7.out] at HG M6
                have O7 : Hid (One (Bx ge g bn bd K) W.heap.size ((sA, eA), ([(a7, A7), (a7, A7), (fv, safe)], ob)) W w7) := bSub HG.out.1 (fun p hp => by
                  rcases List.mem_cons.1 hp with rfl | hp
                  · exact .inl List.mem_cons_self
                  · rcases List.mem_cons.1 hp with rfl | hp
                    · exact .inl List.mem_cons_self
                    · exact .inl (List.mem_cons_of_mem _ (List.mem_cons_of_mem _ hp)))
                have T7 : Hid (Top a7 A7.length [(a7, A7), (fv, safe)]) := fun p hp hb => by
                  rcases List.mem_cons.1 hp with rfl | hp
                  · exact Nat.le_refl _
                  · exact HG.out.2 p (List.mem_cons_of_mem _ hp) hb
                have CS : Hid (Calls _ _ _ _ _) := pSync O7.out
                have SY : Hid _ := M6.out.sync OFA.out
                obtain ⟨sq, HSQ⟩ : ∃ q, Hid (syncS sA = q) := ⟨_, rfl⟩
                rw [HSQ.out] at CS SY
                obtain ⟨sr, sS⟩ := sq
                simp only at CS SY
                clear x0 x1 x2 x3 x4 cb HG HL2 RA RB HSQ
                obtain ⟨x0, x1, x2, x3, x4⟩ := BX.out _ _ _ O7.out
                go_upto_region 30 with fail
                obtain ⟨bit, HBIT⟩ : ∃ bit, Hid (bits BinOp.and IntKind.i64 (sy / 2 ^ k) 1 = bit) := ⟨_, rfl⟩
                have hbit := HBIT.out
                by_cases hb1 : bit = 1
                · have hb' : (bit == 1) = true := by rw [hb1]; simp
                  clear hb1
                  by_cases hsr : sr = 0
                  · subst hsr
                    have M8 : Hid (Sm sS eA i A7 A7 A7) := SY.out.1 rfl
                    have NX : Hid (∀ w9, One (Bx ge g bn bd K) W.heap.size ((sS, eA), ([(a7, A7), (a7, A7), (fv, safe)], ob)) W w9 → In ge g bn bd K W.heap.size i wd ob W a7 a7 a7 w9) := fun w9 hh => ⟨sS, eA, A7, A7, A7, bSub hh (fun p hp => by
                      rcases List.mem_cons.1 hp with rfl | hp
                      · exact .inl List.mem_cons_self
                      · rcases List.mem_cons.1 hp with rfl | hp
                        · exact .inl List.mem_cons_self
                        · rw [List.mem_singleton.1 hp]; exact .inl List.mem_cons_self), M8.out, HWA.out, fun _ p hp hb => by
                      rcases List.mem_cons.1 hp with rfl | hp
                      · exact Nat.le_refl _
                      · rw [List.mem_singleton.1 hp]; exact Nat.le_refl _⟩
                    go_wp2_with (first | (go_at_call 15; refine CS.out.mono ?_; rintro _ w9 ⟨rfl, h9⟩; have N9 : Hid _ := NX.out w9 h9; clear h9) | go_in)
                    go_roundw
                    case rel => exact ⟨k + 1, by omega, by go_num, N9.out⟩
                    case measure => simp [intOf]; omega
                  · have hsr' : (sr == 0) = false := by rw [beq_eq_false_iff_ne]; exact hsr
                    have M8 : Hid (Sm sS eA i safe A7 A7) := SY.out.2 hsr
                    have NX : Hid (∀ w9, One (Bx ge g bn bd K) W.heap.size ((sS, eA), ([(a7, A7), (a7, A7), (fv, safe)], ob)) W w9 → In ge g bn bd K W.heap.size i wd ob W fv a7 a7 w9) := fun w9 hh => ⟨sS, eA, safe, A7, A7, hh, M8.out, HWA.out, fun _ => T7.out⟩
                    clear hsr
                    go_wp2_with (first | (go_at_call 15; refine CS.out.mono ?_; rintro _ w9 ⟨rfl, h9⟩; have N9 : Hid _ := NX.out w9 h9; clear h9) | go_in)
                    go_roundw
                    case rel => exact ⟨k + 1, by omega, by go_num, N9.out⟩
                    case measure => simp [intOf]; omega
                · have hb' : (bit == 1) = false := by rw [beq_eq_false_iff_ne]; exact hb1
                  have NX : Hid (In ge g bn bd K W.heap.size i wd ob W fv a7 a7 w7) := ⟨sA, eA, safe, A7, A7, O7.out, M6.out, HWA.out, fun _ => T7.out⟩
                  clear hb1
                  go_wp2_with fail
                  go_roundw
                  case rel => exact ⟨k + 1, by omega, by go_num, NX.out⟩
                  case measure => simp [intOf]; omega
              · by_cases hae2 : ae = 124
                · subst hae2
                  have D6 := HAP.out.2.1 rfl
                  have D6 : Hid _ := D6
                  have RA : Hid (Own w6 av all) := bRow O6.out List.mem_cons_self
                  have RU : Hid (Own w6 uv under) := bRow O6.out (List.mem_cons_of_mem _ List.mem_cons_self)
                  have RB : Hid (Rd w6 (.slice a' ll c') l) := (HCB.out _ _ _ O6.out).2
                  have hul : under.length ≤ 30000000 := HLS.out.2.2.2.2
                  have CT : Hid (Calls _ _ _ _ _) := hs.same uv av under all w6 RU.out.reads RA.out.reads (by omega)
                  have OD : Hid (∀ q, One (Bx ge g bn bd K) W.heap.size ((sA, eA), ([(av, all), (uv, under), (fv, safe)], ob)) W (w6.drewN q)) := fun q => One.later O6.out (below_dN (Below.refl _ _) q)
                  have HSF : Hid (sA.off = true) := by
                    exact HOF.out rfl
                  clear HAP HON hae
                  by_cases hua : under = all ∧ ll ≤ 1024
                  · obtain ⟨hu1, hu2⟩ := hua
                    have M6 : Hid (Sm sA eA i safe all (all ++ l)) := D6.out.1 hu1 (by rw [HLL.out]; exact hu2)
                    have hd : decide (under = all) = true := decide_eq_true hu1
                    rw [hd] at CT
                    have hu2' : (ll : Int) ≤ 1024 := by omega
                    have hu2d : decide ((ll : Int) ≤ 1024) = true := decide_eq_true hu2'
                    clear hu1 hd D6 x0 x1 x2 x3 x4 cb
                    go_upto_region 26 with fail
                    have XX : Hid (∀ q, _) := fun q => BX.out _ _ _ (OD.out q)
                    have CC : Hid (∀ q, _) := fun q => (HCB.out _ _ _ (OD.out q))
                    go_upto_region 28 with (first
                      | (go_at_call 18; refine CT.out.mono ?_; rintro _ _ ⟨rfl, q, rfl⟩; obtain ⟨x0, x1, x2, x3, x4⟩ := XX.out q; have cb := (CC.out q).1)
                      | go_in)
                    have O7 : Hid (One (Bx ge g bn bd K) W.heap.size ((sA, eA), ([(.slice none 0 0, []), (av, all), (uv, under), (fv, safe)], ob)) W (w6.drewN q)) := bSub (OD.out q) (fun p hp => by
                      rcases List.mem_cons.1 hp with rfl | hp
                      · exact .inr ⟨rfl, rfl⟩
                      · exact .inl hp)
                    have RA7 : Hid (Rd (w6.drewN q) av all) := Own.rd (bRow (OD.out q) List.mem_cons_self)
                    have T7 : Hid (Top (.slice none 0 0) 0 [(av, all), (uv, under), (fv, safe)]) := top_nil (w := w6.drewN q) (fun p hp => bRow (OD.out q) hp)
                    have HL7 : Hid ((([] : List ByteArray).length + all.length) * 16 ≤ 140737488355328) := by show _ ≤ _; simp only [List.length_nil]; omega
                    clear x0 x1 x2 x3 x4 cb
                    go_upto_region 29 with (first | (at_builtin; (refine wpList_appO rfl _ _ rfl _ _ [] all rfl (Own.nil _) rfl RA7.out HL7.out ?_; intro m8 w8 k1 k2 k3 k4; have HG : Hid _ := bGrow O7.out k1 k2 k3 T7.out k4; clear k1 k2 k3 k4)) | go_in)
                    have O8 : Hid (One (Bx ge g bn bd K) W.heap.size ((sA, eA), ([(m8, all), (av, all), (uv, under), (fv, safe)], ob)) W w8) := HG.out.1
                    have T8 : Hid (Top m8 all.length [(av, all), (uv, under), (fv, safe)]) := HG.out.2
                    have RM : Hid (Own w8 m8 all) := bRow O8.out List.mem_cons_self
                    have RB8 : Hid (Rd w8 (.slice a' ll c') l) := (HCB.out _ _ _ O8.out).2
                    have HL8 : Hid ((all.length + l.length) * 16 ≤ 140737488355328) := by show _ ≤ _; rw [HLL.out]; omega
                    obtain ⟨x0, x1, x2, x3, x4⟩ := BX.out _ _ _ O8.out
                    have cb := (HCB.out _ _ _ O8.out).1
                    clear HG
                    go_upto_region 30 with (first | (at_builtin; (refine wpList_appO rfl _ _ rfl _ _ all l rfl RM.out rfl RB8.out HL8.out ?_; intro u9 w9 k1 k2 k3 k4; have HG : Hid _ := bGrow O8.out k1 k2 k3 T8.out k4; clear k1 k2 k3 k4)) | go_in)
                    have NX : Hid (In ge g bn bd K W.heap.size i wd ob W fv av u9 w9) := ⟨sA, eA, safe, all, all ++ l, bSub HG.out.1 (fun p hp => by
                      rcases List.mem_cons.1 hp with rfl | hp
                      · exact .inl (List.mem_cons_of_mem _ List.mem_cons_self)
                      · rcases List.mem_cons.1 hp with rfl | hp
                        · exact .inl List.mem_cons_self
                        · exact .inl (List.mem_cons_of_mem _ (List.mem_cons_of_mem _ (List.mem_cons_of_mem _ hp)))), M6.out, HWA.out, fun h => by rw [HSF.out] at h; cases h⟩
                    clear x0 x1 x2 x3 x4 cb
                    go_wp2_with fail
                    go_roundw
                    case rel => exact ⟨k + 1, by omega, by go_num, NX.out⟩
                    case measure => simp [intOf]; omega
                  · have M6 : Hid (Sm sA eA i safe all under) := D6.out.2 (by rw [HLL.out]; exact hua)
                    have NX : Hid (∀ q, In ge g bn bd K W.heap.size i wd ob W fv av uv (w6.drewN q)) := fun q => ⟨sA, eA, safe, all, under, OD.out q, M6.out, HWA.out, fun h => by rw [HSF.out] at h; cases h⟩
                    have XX : Hid (∀ q, _) := fun q => BX.out _ _ _ (OD.out q)
                    have CC : Hid (∀ q, _) := fun q => (HCB.out _ _ _ (OD.out q))
                    by_cases hu1 : under = all
                    · have hd : decide (under = all) = true := decide_eq_true hu1
                      rw [hd] at CT
                      have hu2' : ¬ (ll : Int) ≤ 1024 := by have : ¬ ll ≤ 1024 := fun h => hua ⟨hu1, h⟩; omega
                      have hu2d : decide ((ll : Int) ≤ 1024) = false := decide_eq_false hu2'
                      clear hu1 hd hua D6 x0 x1 x2 x3 x4 cb
                      go_wp2_with (first
                        | (go_at_call 18; refine CT.out.mono ?_; rintro _ _ ⟨rfl, q, rfl⟩; obtain ⟨x0, x1, x2, x3, x4⟩ := XX.out q; have cb := (CC.out q).1)
                        | go_in)
                      go_roundw
                      case rel => exact ⟨k + 1, by omega, by go_num, NX.out q⟩
                      case measure => simp [intOf]; omega
                    · have hd : decide (under = all) = false := decide_eq_false hu1
                      rw [hd] at CT
                      clear hu1 hd hua D6 x0 x1 x2 x3 x4 cb
                      go_wp2_with (first
                        | (go_at_call 18; refine CT.out.mono ?_; rintro _ _ ⟨rfl, q, rfl⟩; obtain ⟨x0, x1, x2, x3, x4⟩ := XX.out q; have cb := (CC.out q).1)
                        | go_in)
                      go_roundw
                      case rel => exact ⟨k + 1, by omega, by go_num, NX.out q⟩
                      case measure => simp [intOf]; omega
                · have ha0 : (ae == 0) = false := by rw [beq_eq_false_iff_ne]; exact hae
                  have ha1 : (ae == 124) = false := by rw [beq_eq_false_iff_ne]; exact hae2
                  have M6 : Hid (Sm sA eA i safe all under) := HAP.out.2.2.1 hae hae2
                  have NX : Hid (In ge g bn bd K W.heap.size i wd ob W fv av uv w6) := ⟨sA, eA, safe, all, under, O6.out, M6.out, HWA.out, fun h => T5.out (HNO.out h)⟩
                  clear hae hae2 HAP HON
                  go_wp2_with fail
                  go_roundw
                  case rel => exact ⟨k + 1, by omega, by go_num, NX.out⟩
                  case measure => simp [intOf]; omega
          · have hlk' : ¬ ((k : Int) < nb ∧ (k : Int) < 60) := by omega
            have hlk3 : ((k : Int) < (nb : Int) ∧ ¬ (k : Int) < 60) ∨ ¬ (k : Int) < (nb : Int) := by omega
            have CC : Hid (Calls _ _ _ _ _) := pCrash O1.out kp HZ3.out (by rw [M1.out.age]; omega)
            obtain ⟨found, s2, f1, f2, f3, f4, f5, f6, f7, f8⟩ := M1.out.crash kp
            have F1 : Hid (safe <+: found ∧ found <+: under) := ⟨f1, f2⟩
            have F2 : Hid _ := f3
            have F3 : Hid (purgeS (crashS s kp) 3 found.length = (0, s2)) := f4
            have F4 : Hid _ := f5
            have F5 : Hid ((syncS s2).1 = 0) := f6
            have F6 : Hid (found.length ≤ 30000000) := f7
            have F7 : Hid (∀ wd nd, Sm (syncS s2).2 ⟨3, i + 1, wd, found, nd⟩ (i + 1) found found found ∧ (syncS s2).2.off = false) := f8
            have HAG : Hid ((crashS s kp).age = i + 1) := by show s.age + 1 = i + 1; rw [M1.out.age]
            have HLS : Hid _ := M1.out.lens
            clear f1 f2 f3 f4 f5 f6 f7 f8 hlk
            obtain ⟨fa, fm, fc, hfv, HFM⟩ : ∃ fa fm fc, fv = .slice fa fm fc ∧ Hid (safe.length = fm) := by
              rcases (bRow O1.out (v := fv) (xs := safe) (by simp)).form with ⟨e1, e2⟩ | ⟨q, c, e1, _⟩
              · exact ⟨none, 0, 0, e1, by rw [e2]; exact rfl⟩
              · exact ⟨_, _, _, e1, rfl⟩
            subst hfv
            have hfm : (fm : Int) ≤ 30000000 := by rw [← HFM.out]; have := HLS.out.2.2.1; omega
            have AFT : Hid (∀ w9, One (Bx ge g bn bd K) W.heap.size ((crashS s kp, e), ([(av, all), (uv, under), (.slice fa fm fc, safe)], ob)) W w9 → One (pairO (EnO ge g bn bd) RowsO) W.heap.size ((crashS s kp, e), [(uv, under), (.slice fa fm fc, safe)]) W w9) := fun w9 hh => rSub (dropBox hh).1 (fun p hp => .inl (List.mem_cons_of_mem _ hp))
            obtain ⟨s3, HS3⟩ : ∃ s3, Hid ((syncS s2).2 = s3) := ⟨_, rfl⟩
            rw [HS3.out] at F7
            have COP : Hid (∀ w9, One (pairO (EnO ge g bn bd) RowsO) W.heap.size ((crashS s kp, e), [(uv, under), (.slice fa fm fc, safe)]) W w9 → Calls Tryz.prog 16 #[.pointer (some ⟨g, 0, none⟩), .agg #[.int .i64 1, .int .i64 wd, .int .i64 0, .int .i64 0, .int .i64 0, .int .i64 0], .int .i64 3, .int .i64 (fm : Nat)] w9 fun r w' => ∃ ge', r = .returned (.tuple #[.pointer (some ⟨ge', 0, none⟩), .int .i64 0]) ∧ One (pairO (EnO ge' g bn bd) RowsO) W.heap.size ((s2, ⟨3, i + 1, wd, found, 0⟩), [(uv, under), (.slice fa fm fc, safe)]) W w') := fun w9 hh => by
              have C := pOpen hh wd 3 (fm : Nat) found s2 HS.out HWQ.out rfl F2.out (by have := F6.out; omega) (by rw [← HFM.out]; have := F1.out.1.length_le; omega) F3.out F4.out
              rw [HAG.out] at C
              exact C
            have CSY : Hid (∀ ge' w9, One (pairO (EnO ge' g bn bd) RowsO) W.heap.size ((s2, ⟨3, i + 1, wd, found, 0⟩), [(uv, under), (.slice fa fm fc, safe)]) W w9 → Calls Tryz.prog 15 #[.pointer (some ⟨g, 0, none⟩)] w9 fun r w' => r = .returned (.int .i64 0) ∧ One (pairO (EnO ge' g bn bd) RowsO) W.heap.size ((s3, ⟨3, i + 1, wd, found, 0⟩), [(uv, under), (.slice fa fm fc, safe)]) W w') := fun ge' w9 hh => by
              have C := pSync hh
              rw [F5.out, HS3.out] at C
              exact C
            have HGN : Hid (gone s3 ⟨3, i + 1, wd, found, 0⟩ = false) := by show _ = _; rw [(F7.out wd 0).1.gone]; exact (F7.out wd 0).2
            obtain ⟨fo, HFO⟩ : ∃ fo, Hid (found.length = fo) := ⟨_, rfl⟩
            have hfo : fo ≤ 30000000 := by rw [← HFO.out]; exact F6.out
            have hfoi : (fo : Int) ≤ 30000000 := by omega
            have CTD : Hid (∀ ge' w9, One (pairO (EnO ge' g bn bd) RowsO) W.heap.size ((s3, ⟨3, i + 1, wd, found, 0⟩), [(uv, under), (.slice fa fm fc, safe)]) W w9 → Calls Tryz.prog 20 #[.pointer (some ⟨ge', 0, none⟩)] w9 fun r w' => ∃ a c, r = .returned (.slice a fo c) ∧ One (pairO (EnO ge' g bn bd) RowsO) W.heap.size ((s3, ⟨3, i + 1, wd, found, 0⟩), (.slice a fo c, found) :: [(uv, under), (.slice fa fm fc, safe)]) W w') := fun ge' w9 hh => toldC hh HGN.out fo HFO hfo
            have CSZ : Hid (∀ ge' l1 w9, One (pairO (EnO ge' g bn bd) RowsO) W.heap.size ((s3, ⟨3, i + 1, wd, found, 0⟩), l1) W w9 → Calls Tryz.prog 21 #[.pointer (some ⟨ge', 0, none⟩)] w9 fun r w' => r = .returned (.int .i64 (fo : Nat)) ∧ w' = w9) := fun ge' l1 w9 hh => by
              have C := pSize hh
              rw [HFO.out] at C
              exact C
            have CRT : Hid (∀ n ge' a c l1 w9, One (pairO (EnO ge' g bn bd) RowsO) W.heap.size ((s3, ⟨3, i + 1, wd, found, 0⟩), (.slice a fo c, found) :: l1) W w9 → Calls Tryz.prog 14 #[.pointer (some ⟨ge', 0, none⟩), .int .i64 wd, .slice a fo c, .int .i64 n, .agg #[.int .i64 1, .int .i64 0]] w9 fun r w' => r = .returned (.bool true) ∧ Out ge' g bn bd W.heap.size (i + 1) wd W (.slice a fo c) w') := fun n ge' a c l1 w9 hh => by
              refine (rightC (Pt.of hh) HTW.out HTB.out HGN.out a fo c HFO (fun w2 hp => ?_) wd rfl n 1 0 ⟨by omega, by omega⟩ ⟨by omega, by omega⟩).mono ?_
              · obtain ⟨nd, hp⟩ := hp
                exact (rRow hp List.mem_cons_self).reads
              · rintro r w' ⟨g1, nd, g2⟩
                refine ⟨g1, s3, _, found, rSub g2 (fun p hp => .inl (by rw [List.mem_singleton.1 hp]; exact List.mem_cons_self)), (F7.out wd nd).1, (F7.out wd nd).2, rfl⟩
            have CBG : Hid (∀ ge' a c w9, One (pairO (EnO ge' g bn bd) RowsO) W.heap.size ((s3, ⟨3, i + 1, wd, found, 0⟩), (.slice a fo c, found) :: [(uv, under), (.slice fa fm fc, safe)]) W w9 → Calls Tryz.prog 22 #[.slice fa fm fc, .slice a fo c] w9 fun r w' => r = .returned (.bool true) ∧ One (pairO (EnO ge' g bn bd) RowsO) W.heap.size ((s3, ⟨3, i + 1, wd, found, 0⟩), (.slice a fo c, found) :: [(uv, under), (.slice fa fm fc, safe)]) W w') := fun ge' a c w9 hh => by
              have r1 := rRow hh (v := .slice fa fm fc) (xs := safe) (by simp)
              have r2 := rRow hh (v := .slice a fo c) (xs := found) (by simp)
              refine (hs.begins _ _ safe found w9 r1.reads r2.reads ?_ (by have := HLS.out.2.2.1; omega) (by have := F6.out; omega) F1.out.1).mono ?_
              · rcases r2.form with ⟨e1, _⟩ | ⟨q, cc, e1, _⟩
                · exact .inl e1
                · exact .inr ⟨q, _, cc, e1⟩
              · rintro r w' ⟨g1, q, rfl⟩
                exact ⟨g1, One.later hh (below_dN (Below.refl _ _) q)⟩
            have CBU : Hid (∀ ge' a c w9, One (pairO (EnO ge' g bn bd) RowsO) W.heap.size ((s3, ⟨3, i + 1, wd, found, 0⟩), (.slice a fo c, found) :: [(uv, under), (.slice fa fm fc, safe)]) W w9 → Calls Tryz.prog 22 #[.slice a fo c, uv] w9 fun r w' => r = .returned (.bool true) ∧ One (pairO (EnO ge' g bn bd) RowsO) W.heap.size ((s3, ⟨3, i + 1, wd, found, 0⟩), (.slice a fo c, found) :: [(uv, under), (.slice fa fm fc, safe)]) W w') := fun ge' a c w9 hh => by
              have r1 := rRow hh (v := uv) (xs := under) (by simp)
              have r2 := rRow hh (v := .slice a fo c) (xs := found) (by simp)
              refine (hs.begins _ _ found under w9 r2.reads r1.reads ?_ (by have := F6.out; omega) (by have := HLS.out.2.2.2.2; omega) F1.out.2).mono ?_
              · rcases r1.form with ⟨e1, _⟩ | ⟨q, cc, e1, _⟩
                · exact .inl e1
                · exact .inr ⟨q, _, cc, e1⟩
              · rintro r w' ⟨g1, q, rfl⟩
                exact ⟨g1, One.later hh (below_dN (Below.refl _ _) q)⟩
            have hff : ((fo : Int) != (fo : Int)) = false := bne_self_eq_false' _
            clear F1 F2 F3 F4 F5 F6 HAG HS3 M1 T1
            rcases hlk3 with ⟨hq1, hq2⟩ | hq1
            · go_upto_region 32 with fail
              go_upto_region 33 with (first | (go_at_call 19; refine CC.out.mono ?_; rintro _ w6 ⟨rfl, h6⟩; have O6 : Hid _ := AFT.out w6 h6; clear h6) | go_in)
              obtain ⟨y0, y1, y2, y3, y4, y5⟩ := HQ.out w6 (One.below O6.out)
              have C6 : Hid (Calls _ _ _ _ _) := COP.out w6 O6.out
              clear x0 x1 x2 x3 x4
              go_upto_region 34 with (first | (go_at_call 16; refine C6.out.mono ?_; rintro _ w7 ⟨ge7, rfl, h7⟩; have O7 : Hid _ := h7; clear h7) | go_in)
              have C7 : Hid (Calls _ _ _ _ _) := CSY.out ge7 w7 O7.out
              clear y0 y1 y2 y3 y4 y5
              go_upto_region 36 with (first | (go_at_call 15; refine C7.out.mono ?_; rintro _ w8 ⟨rfl, h8⟩; have O8 : Hid _ := h8; clear h8) | go_in)
              have C8 : Hid (Calls _ _ _ _ _) := CTD.out ge7 w8 O8.out
              go_upto_region 37 with (first | (go_at_call 20; refine C8.out.mono ?_; rintro _ w9 ⟨a9, c9, rfl, h9⟩; have O9 : Hid _ := h9; clear h9) | go_in)
              have C9 : Hid (Calls _ _ _ _ _) := CSZ.out ge7 _ w9 O9.out
              have C10 : Hid (Calls _ _ _ _ _) := CBG.out ge7 a9 c9 w9 O9.out
              have C11 : Hid (∀ w1, _ → Calls _ _ _ _ _) := CBU.out ge7 a9 c9
              go_upto_region 39 with (first
                | (go_at_call 21; refine C9.out.mono ?_; rintro _ _ ⟨rfl, hw⟩; rw [hw]; clear hw)
                | (go_at_call 22; refine (C11.out _ O10.out).mono ?_; rintro _ w11 ⟨rfl, h11⟩; have O11 : Hid _ := h11; clear h11)
                | (go_at_call 22; refine C10.out.mono ?_; rintro _ w10 ⟨rfl, h10⟩; have O10 : Hid _ := h10; clear h10)
                | go_in)
              obtain ⟨y0, y1, y2, y3, y4, y5⟩ := HQ.out w11 (One.below O11.out)
              have C12 : Hid (∀ n, Calls _ _ _ _ _) := fun n => CRT.out n ge7 a9 c9 _ w11 O11.out
              go_wp2_with (first | (go_at_call 14; refine (C12.out _).mono ?_; rintro _ w12 ⟨rfl, h12⟩; have O12 : Hid _ := h12; clear h12) | go_in)
              go_roundw
              case rel => exact ⟨i + 1, ge7, by omega, rfl, by go_num, O12.out⟩
              case measure => simp [intOf]; omega
            · go_upto_region 32 with fail
              go_upto_region 33 with (first | (go_at_call 19; refine CC.out.mono ?_; rintro _ w6 ⟨rfl, h6⟩; have O6 : Hid _ := AFT.out w6 h6; clear h6) | go_in)
              obtain ⟨y0, y1, y2, y3, y4, y5⟩ := HQ.out w6 (One.below O6.out)
              have C6 : Hid (Calls _ _ _ _ _) := COP.out w6 O6.out
              clear x0 x1 x2 x3 x4
              go_upto_region 34 with (first | (go_at_call 16; refine C6.out.mono ?_; rintro _ w7 ⟨ge7, rfl, h7⟩; have O7 : Hid _ := h7; clear h7) | go_in)
              have C7 : Hid (Calls _ _ _ _ _) := CSY.out ge7 w7 O7.out
              clear y0 y1 y2 y3 y4 y5
              go_upto_region 36 with (first | (go_at_call 15; refine C7.out.mono ?_; rintro _ w8 ⟨rfl, h8⟩; have O8 : Hid _ := h8; clear h8) | go_in)
              have C8 : Hid (Calls _ _ _ _ _) := CTD.out ge7 w8 O8.out
              go_upto_region 37 with (first | (go_at_call 20; refine C8.out.mono ?_; rintro _ w9 ⟨a9, c9, rfl, h9⟩; have O9 : Hid _ := h9; clear h9) | go_in)
              have C9 : Hid (Calls _ _ _ _ _) := CSZ.out ge7 _ w9 O9.out
              have C10 : Hid (Calls _ _ _ _ _) := CBG.out ge7 a9 c9 w9 O9.out
              have C11 : Hid (∀ w1, _ → Calls _ _ _ _ _) := CBU.out ge7 a9 c9
              go_upto_region 39 with (first
                | (go_at_call 21; refine C9.out.mono ?_; rintro _ _ ⟨rfl, hw⟩; rw [hw]; clear hw)
                | (go_at_call 22; refine (C11.out _ O10.out).mono ?_; rintro _ w11 ⟨rfl, h11⟩; have O11 : Hid _ := h11; clear h11)
                | (go_at_call 22; refine C10.out.mono ?_; rintro _ w10 ⟨rfl, h10⟩; have O10 : Hid _ := h10; clear h10)
                | go_in)
              obtain ⟨y0, y1, y2, y3, y4, y5⟩ := HQ.out w11 (One.below O11.out)
              have C12 : Hid (∀ n, Calls _ _ _ _ _) := fun n => CRT.out n ge7 a9 c9 _ w11 O11.out
              go_wp2_with (first | (go_at_call 14; refine (C12.out _).mono ?_; rintro _ w12 ⟨rfl, h12⟩; have O12 : Hid _ := h12; clear h12) | go_in)
              go_roundw
              case rel => exact ⟨i + 1, ge7, by omega, rfl, by go_num, O12.out⟩
              case measure => simp [intOf]; omega
      · have hlt' : ¬ (i : Int) < N := by omega
        have B9 : Hid (Below W.heap.size W wr) := by
          obtain ⟨s, e, safe, hO, _⟩ := HH.out
          exact One.below hO
        go_wp2_with fail
        go_ret
        exact ⟨rfl, over BW.out B9.out⟩
  · have hN' : decide ((N : Int) > 1000) = true := decide_eq_true (by omega)
    go_enter Tryz.func5, Tryz.ntmps5
    go_wp2_with (first
      | (go_at_call 8; refine CB.out.mono ?_; rintro _ wb ⟨rfl, bb⟩; have BB : Hid (Below w.heap.size w wb) := bb; clear bb)
      | (go_at_call 11; refine (CO.out _).mono ?_; rintro _ w2 ⟨rfl, b2⟩; have B2 : Hid (Below w.heap.size w w2) := over BB.out b2; have B3 : Hid (∀ o, Below w.heap.size w (w2.alloc o)) := fun o => over B2.out (new1 w2 o); clear b2)
      | (go_at_call 9; refine (CN.out _).mono ?_; rintro _ w3 ⟨g, bn, bd, rfl, h1, b1⟩; have B4 : Hid (Below w.heap.size w w3) := over (B3.out _) b1; clear h1 b1)
      | go_in)
    go_ret
    exact ⟨rfl, B4.out⟩
end Go.Proofs.YtofmkdagehehaaaGreatDoor.hq

namespace Go.Proofs.YtofmkdagehehaaaGreatDoor.wr
open Go.RowKit Go.PlainAid
open Go.Proofs.YtofmkdagehehaaaGreatDoor.pl Go.Proofs.YtofmkdagehehaaaGreatDoor.ft Go.Proofs.YtofmkdagehehaaaGreatDoor.pj Go.Proofs.YtofmkdagehehaaaGreatDoor.ka Go.Proofs.YtofmkdagehehaaaGreatDoor.he Go.Proofs.YtofmkdagehehaaaGreatDoor.hp Go.Proofs.YtofmkdagehehaaaGreatDoor.hq
set_option linter.unusedVariables false
theorem recovers_walk (W : World) (a0 : Int) (w0 : (Lit.int .i64 a0).wf = true) (v : Value) (ss : List Stm) (hr : ReadsM W v ss) (hb : ss.length * 64 ≤ 140737488351232) (hl : ∀ st ∈ ss, st.bs.length * 24 ≤ 140737488351232 ∧ (∀ l ∈ st.bs, l.length * 16 ≤ 140737488351232) ∧ st.keep.size ≤ 140737488351232 ∧ st.after ≤ 9223372036854775807) (tabs : St8 W 0 ∧ K64 W 2) :
    Calls Tryz.prog 5 #[.int .i64 a0, v] W fun e w' => e = .returned (.bool true) ∧ Below W.heap.size W w' :=
  recoversW a0 v ss W (Tab.of tabs) hr (by omega) (fun st h => by
    obtain ⟨h1, h2, h3, h4⟩ := hl st h
    exact ⟨by omega, fun l hl => by have := h2 l hl; omega, by omega, h4⟩)
end Go.Proofs.YtofmkdagehehaaaGreatDoor.wr
