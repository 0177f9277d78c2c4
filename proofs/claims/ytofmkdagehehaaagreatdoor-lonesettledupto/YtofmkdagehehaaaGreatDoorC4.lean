import Derived.Test.YtofmkdagehehaaaGreatDoorC3
import Derived.Test.YtofmkdagehehaaaGreatDoorA4
import Derived.OpenShut
namespace Go.Proofs.YtofmkdagehehaaaGreatDoor.id
open Go.RowKit Go.PlainAid Go.Maps Go.Shelf
open Go.Proofs.YtofmkdagehehaaaGreatDoor.kp Go.Proofs.YtofmkdagehehaaaGreatDoor.ka Go.Proofs.YtofmkdagehehaaaGreatDoor.ya Go.Proofs.YtofmkdagehehaaaGreatDoor.yb Go.Proofs.YtofmkdagehehaaaGreatDoor.yc Go.Proofs.YtofmkdagehehaaaGreatDoor.yd Go.Proofs.YtofmkdagehehaaaGreatDoor.ye Go.Proofs.YtofmkdagehehaaaGreatDoor.yf Go.Proofs.YtofmkdagehehaaaGreatDoor.yg Go.Proofs.YtofmkdagehehaaaGreatDoor.yi Go.Proofs.YtofmkdagehehaaaGreatDoor.yj Go.Proofs.YtofmkdagehehaaaGreatDoor.yk Go.Proofs.YtofmkdagehehaaaGreatDoor.yl Go.Proofs.YtofmkdagehehaaaGreatDoor.ym
open Go.Proofs.YtofmkdagehehaaaGreatDoor.tqa Go.Proofs.YtofmkdagehehaaaGreatDoor.tba Go.Proofs.YtofmkdagehehaaaGreatDoor.tbc Go.Proofs.YtofmkdagehehaaaGreatDoor.tbd Go.Proofs.YtofmkdagehehaaaGreatDoor.tbe
open Go.Proofs.YtofmkdagehehaaaGreatDoor.tbf (okI kind_is)
open Go.Proofs.YtofmkdagehehaaaGreatDoor.cp (own_later i64)
open Go.Proofs.YtofmkdagehehaaaGreatDoor.tqb (over)
open Go.Proofs.YtofmkdagehehaaaGreatDoor.ea Go.Proofs.YtofmkdagehehaaaGreatDoor.eb Go.Proofs.YtofmkdagehehaaaGreatDoor.ec Go.Proofs.YtofmkdagehehaaaGreatDoor.ed Go.Proofs.YtofmkdagehehaaaGreatDoor.ee Go.Proofs.YtofmkdagehehaaaGreatDoor.ef Go.Proofs.YtofmkdagehehaaaGreatDoor.eg Go.Proofs.YtofmkdagehehaaaGreatDoor.eh Go.Proofs.YtofmkdagehehaaaGreatDoor.ei Go.Proofs.YtofmkdagehehaaaGreatDoor.ej Go.Proofs.YtofmkdagehehaaaGreatDoor.ek Go.Proofs.YtofmkdagehehaaaGreatDoor.el Go.Proofs.YtofmkdagehehaaaGreatDoor.ha Go.Proofs.YtofmkdagehehaaaGreatDoor.hb Go.Proofs.YtofmkdagehehaaaGreatDoor.hc Go.Proofs.YtofmkdagehehaaaGreatDoor.hd Go.Proofs.YtofmkdagehehaaaGreatDoor.hf Go.Proofs.YtofmkdagehehaaaGreatDoor.hg Go.Proofs.YtofmkdagehehaaaGreatDoor.hh Go.Proofs.YtofmkdagehehaaaGreatDoor.hi Go.Proofs.YtofmkdagehehaaaGreatDoor.hj
open Go.Proofs.YtofmkdagehehaaaGreatDoor.pj (Tab)
open Go.Proofs.YtofmkdagehehaaaGreatDoor.hi Go.Proofs.YtofmkdagehehaaaGreatDoor.hk Go.Proofs.YtofmkdagehehaaaGreatDoor.hm Go.Proofs.YtofmkdagehehaaaGreatDoor.hn Go.Proofs.YtofmkdagehehaaaGreatDoor.ho Go.Proofs.YtofmkdagehehaaaGreatDoor.hp Go.Proofs.YtofmkdagehehaaaGreatDoor.hq Go.Proofs.YtofmkdagehehaaaGreatDoor.ia Go.Proofs.YtofmkdagehehaaaGreatDoor.ib Go.Proofs.YtofmkdagehehaaaGreatDoor.ic
open Go.Proofs.YtofmkdagehehaaaGreatDoor.yn (crashC)
open Go.Proofs.YtofmkdagehehaaaGreatDoor.yo (isz)
open Go.Proofs.YtofmkdagehehaaaGreatDoor.yp (imageT imageC)
set_option linter.unusedVariables false
set_option linter.unusedSimpArgs false
theorem keeps {g bn bd Pk B i : Nat} {ob : Obj} {W w w' : World} {pv : Value} {s s' : S} (h : Lo g bn bd Pk B i ob W w pv s) (hB : B ≤ W.heap.size) (r : Rn 0 g bn bd pv s' w w') : ∃ pv', Sr 0 g bn bd pv' s' w' ∧ w'.heap[Pk]? = some ob ∧ ¬ Fr g bn bd pv' Pk ∧ (∀ k, Fr g bn bd pv' k → B ≤ k) ∧ Below B W w' := by
  obtain ⟨pv2, h2, k2, n2⟩ := r
  have hlt := (Array.getElem?_eq_some_iff.1 h.pk).1
  have hsz : B ≤ w.heap.size := Nat.le_trans hB h.bl.size
  refine ⟨pv2, h2, (k2.block _ hlt h.nf).trans h.pk, ?_, ?_, ov h.bl (k2.below h.fr hsz)⟩
  · rintro (e | e | e | e)
    · exact h.nf (.inl e)
    · exact h.nf (.inr (.inl e))
    · exact h.nf (.inr (.inr (.inl e)))
    · rcases n2 _ e with e | e
      · exact h.nf (.inr (.inr (.inr e)))
      · omega
  · rintro q (e | e | e | e)
    · exact h.fr q (.inl e)
    · exact h.fr q (.inr (.inl e))
    · exact h.fr q (.inr (.inr (.inl e)))
    · rcases n2 _ e with e | e
      · exact h.fr q (.inr (.inr (.inr e)))
      · omega
abbrev PC (g : Nat) : Array Value := #[.int .i64 0, .int .i64 0, .int .i64 0, .int .i64 0, .int .i64 0, .int .i64 0, .int .i64 0, .pointer (some ⟨g, 0, none⟩), .pointer none, .pointer none, .pointer none, .bool false]
set_option maxRecDepth 100000 in
set_option maxHeartbeats 51200000 in
theorem settledW (x : Int) (v : Value) (l : List Opq) (keep : ByteArray) (w : World) (hT : Tab w) (hv : ReadsQ w v l) (hll : l.length ≤ 1048576) (hbo : ∀ o ∈ l, o.x.size ≤ 140737488355328 ∧ o.sp ≤ 9223372036854775807 ∧ o.I ≤ 9223372036854775807) (hkp : keep.size ≤ 140737488355328) :
    Calls Tryz.prog 6 #[.int .i64 x, v, .string keep] w fun r w' => r = .returned (.bool true) ∧ Below w.heap.size w w' := by
  have HT : Hid (∀ w1, Below w.heap.size w w1 → Tab w1) := fun w1 bb => hT.down bb
  have CB : Hid (Calls _ _ _ _ _) := begunC w hT
  have CO : Hid (∀ w, Calls _ _ _ _ _) := fun w => optsL x w
  have hwq := wq_ok x
  have HWQ : Hid (1 ≤ wq x ∧ wq x ≤ 32) := hwq
  generalize wq x = wd at *
  have HV : Hid (∀ w1, Below w.heap.size w w1 → ReadsQ w1 v l) := fun w1 bb => hv.later bb
  obtain ⟨va, vc, rfl, _⟩ := hv
  obtain ⟨N, HM⟩ : ∃ m, Hid (l.length = m) := ⟨_, rfl⟩
  rw [HM.out] at hll HV ⊢
  have hNi : (N : Int) ≤ 1048576 := by omega
  have HBO : Hid _ := hbo
  have HKP : Hid (keep.size ≤ 140737488355328) := hkp
  have CN : Hid (∀ w1, Calls _ _ _ _ _) := fun w1 => newC 1073741824 w1 ⟨by omega, by omega⟩
  have HS : Hid (okI (3 : Int)) := ⟨by omega, by omega⟩
  clear hT hwq hbo hkp
  go_enter Tryz.func6, Tryz.ntmps6
  go_upto_region 3 with (first
    | (go_at_call 8; refine CB.out.mono ?_; rintro _ wb ⟨rfl, bb⟩; have BB : Hid (Below w.heap.size w wb) := bb; clear bb)
    | (go_at_call 11; refine (CO.out _).mono ?_; rintro _ w2 ⟨rfl, b2⟩; have B2 : Hid (Below w.heap.size w w2) := over BB.out b2; clear b2)
    | go_in)
  obtain ⟨W, HW⟩ : ∃ W, Hid (w2.alloc (.cells #[.int .i64 1, .int .i64 wd, .int .i64 0, .int .i64 0, .int .i64 0, .int .i64 0] 31) = W) := ⟨_, rfl⟩
  obtain ⟨Ob, HOb⟩ : ∃ Ob, Hid (w2.heap.size = Ob) := ⟨_, rfl⟩
  have bW : Below w2.heap.size w2 W := by rw [← HW.out]; exact new1 _ _
  have hq : W.heap[Ob]? = some (.cells #[.int .i64 1, .int .i64 wd, .int .i64 0, .int .i64 0, .int .i64 0, .int .i64 0] 31 (0, 0)) := by rw [← HW.out, ← HOb.out]; exact heap_alloc_new w2 _
  have hql := (Array.getElem?_eq_some_iff.1 hq).1
  have BW : Hid (Below w.heap.size w W) := over B2.out bW
  have HQ : Hid (∀ w1, Below W.heap.size W w1 → (w1.cell? ⟨Ob, 0, none⟩ = some (.int .i64 1) ∧ w1.cell? ⟨Ob, 1, none⟩ = some (.int .i64 wd) ∧ w1.cell? ⟨Ob, 2, none⟩ = some (.int .i64 0) ∧ w1.cell? ⟨Ob, 3, none⟩ = some (.int .i64 0) ∧ w1.cell? ⟨Ob, 4, none⟩ = some (.int .i64 0) ∧ w1.cell? ⟨Ob, 5, none⟩ = some (.int .i64 0))) := fun w1 bb => by
    have e1 := (bb.block _ hql).trans hq
    exact ⟨cell_of_row _ _ 0 _ _ _ e1, cell_of_row _ _ 1 _ _ _ e1, cell_of_row _ _ 2 _ _ _ e1, cell_of_row _ _ 3 _ _ _ e1, cell_of_row _ _ 4 _ _ _ e1, cell_of_row _ _ 5 _ _ _ e1⟩
  rw [HW.out]
  try rw [HOb.out]
  clear bW hq hql
  go_upto_region 4 with (first
    | (go_at_call 9; refine (CN.out _).mono ?_; rintro _ w3 ⟨g, bn, bd, rfl, h1, b1⟩; have H3 : Hid (Sr W.heap.size g bn bd (.slice none 0 0) ⟨1073741824, [], [], 0, false, 0⟩ w3) := h1; have B3 : Hid (Below W.heap.size W w3) := b1; clear h1 b1)
    | go_in)
  obtain ⟨V, HVV⟩ : ∃ V, Hid (w3.alloc (.cells (PC g) 57) = V) := ⟨_, rfl⟩
  obtain ⟨Pk, HPk⟩ : ∃ Pk, Hid (w3.heap.size = Pk) := ⟨_, rfl⟩
  obtain ⟨ob, HOB⟩ : ∃ ob, Hid (Obj.cells (PC g) 57 (0, 0) = ob) := ⟨_, rfl⟩
  have HPB : Hid (W.heap.size ≤ Pk) := by show _ ≤ _; rw [← HPk.out]; exact B3.out.size
  have L0 : Hid (∃ pv s, Lo g bn bd Pk W.heap.size 0 ob W V pv s) := by
    have bV := new1 w3 (.cells (PC g) 57)
    refine ⟨_, (⟨1073741824, [], [], 0, false, 0⟩ : S), ?_, ⟨rfl, rfl, rfl, rfl, by simp⟩, ?_, ?_, fun k hk => (sr_in H3.out k hk).2, ?_⟩
    · rw [← HVV.out]; exact sr_later (sr_zero H3.out) bV
    · rw [← HVV.out, ← HOB.out, ← HPk.out]; exact heap_alloc_new w3 _
    · intro hf
      have := (sr_in H3.out _ hf).1
      have := HPk.out
      omega
    · rw [← HVV.out]; exact over B3.out bV
  have PK7 : Hid (∀ w1 : World, w1.heap[Pk]? = some ob → w1.cell? ⟨Pk, 7, none⟩ = some (.pointer (some ⟨g, 0, none⟩))) := fun w1 h1 => by
    rw [← HOB.out] at h1
    exact cell_of_row _ _ 7 _ _ _ h1
  rw [HVV.out]
  try rw [HPk.out]
  have v7 : V.cell? ⟨Pk, 7, none⟩ = some (.pointer (some ⟨g, 0, none⟩)) := by
    obtain ⟨pv, s, hL⟩ := L0.out
    exact PK7.out V hL.pk
  clear CN CB CO HOB H3
  go_wp2_with fail
  clear v7
  go_loopw [10] (fun iv wr => ∃ (i : Nat), i ≤ N ∧ iv = .int .i64 i ∧ Hid (∃ pv s, Lo g bn bd Pk W.heap.size i ob W wr pv s)) (fun iv _ => (N - intOf iv).toNat)
  case atStart => exact ⟨0, by omega, rfl, L0.out⟩
  case round =>
    obtain ⟨i, hi, rfl, HH⟩ := hrel
    obtain ⟨pv, s, hL⟩ := HH.out
    have LL : Hid _ := hL
    clear HH L0
    by_cases hlt : i < N
    · have hlt' : (i : Int) < N := by omega
      obtain ⟨⟨kd, la, ln, lc, n, L, I, sp, x⟩, ho⟩ : ∃ o, l[i]? = some o := ⟨_, List.getElem?_eq_getElem (by rw [HM.out]; exact hlt)⟩
      obtain ⟨hz1, hz2, hz3⟩ := HBO.out _ (List.mem_of_getElem? ho)
      simp only at hz1 hz2 hz3
      have HZ : Hid (x.size ≤ 140737488355328 ∧ sp ≤ 9223372036854775807 ∧ I ≤ 9223372036854775807) := ⟨hz1, hz2, hz3⟩
      obtain ⟨b, off, rfl, d0, d1, d2, d3, d4, d5, d6⟩ : ∃ b off, va = some ⟨b, off, none⟩ ∧ wr.cell? ⟨b, off + i * 7, none⟩ = some (.int .i64 kd) ∧ wr.cell? ⟨b, off + i * 7 + 1, none⟩ = some (.slice la ln lc) ∧ wr.cell? ⟨b, off + i * 7 + 2, none⟩ = some (.int .i64 n) ∧ wr.cell? ⟨b, off + i * 7 + 3, none⟩ = some (.int .i64 L) ∧ wr.cell? ⟨b, off + i * 7 + 4, none⟩ = some (.int .i64 I) ∧ wr.cell? ⟨b, off + i * 7 + 5, none⟩ = some (.int .i64 sp) ∧ wr.cell? ⟨b, off + i * 7 + 6, none⟩ = some (.string x) := by
        obtain ⟨a, cc, e1, h0 | ⟨b, off, e2, hh⟩⟩ := HV.out wr (over BW.out hL.bl)
        · have := HM.out; omega
        · injection e1 with e1 _ _
          exact ⟨b, off, by rw [e1]; exact e2, hh i _ ho⟩
      clear hz1 hz2 hz3 ho hL
      go_upto_region 10 with fail
      obtain ⟨w5, HW5⟩ : ∃ w5, Hid (wr.alloc (.cells #[.int .i64 kd, .slice la ln lc, .int .i64 n, .int .i64 L, .int .i64 I, .int .i64 sp, .string x] 59) = w5) := ⟨_, rfl⟩
      obtain ⟨Qb, HQb⟩ : ∃ Qb, Hid (wr.heap.size = Qb) := ⟨_, rfl⟩
      have fb : w5.heap[Qb]? = some (.cells #[.int .i64 kd, .slice la ln lc, .int .i64 n, .int .i64 L, .int .i64 I, .int .i64 sp, .string x] 59 (0, 0)) := by rw [← HW5.out, ← HQb.out]; exact heap_alloc_new wr _
      have L5 : Hid (Lo g bn bd Pk W.heap.size i ob W w5 pv s) := LL.out.later (by rw [← HW5.out]; exact new1 _ _) (Nat.le_refl _)
      rw [HW5.out]
      try rw [HQb.out]
      have q0 := cell_of_row _ _ 0 _ _ _ fb
      have q1 := cell_of_row _ _ 1 _ _ _ fb
      have q2 := cell_of_row _ _ 2 _ _ _ fb
      have q3 := cell_of_row _ _ 3 _ _ _ fb
      have q4 := cell_of_row _ _ 4 _ _ _ fb
      have q5 := cell_of_row _ _ 5 _ _ _ fb
      have q6 := cell_of_row _ _ 6 _ _ _ fb
      have hsl : s.dur.length + s.pend.length + 1 < 3518437208883 := by have := LL.out.rs.len; rw [LL.out.rs.dur]; simp only [List.length_nil]; omega
      clear d0 d1 d2 d3 d4 d5 d6 LL HW5 HQb fb
      by_cases h12 : kd = 12
      · subst h12
        have CD : Hid (Calls _ _ _ _ _) := doPut (.slice la ln lc) n L I sp x L5.out.sr (PK7.out _ L5.out.pk) L5.out.nf HZ.out.2.1 HZ.out.2.2 HZ.out.1 hsl
        go_wp2_with (first | (go_at_call 23; refine CD.out.mono ?_; rintro _ w6 ⟨vv, rfl, r6⟩; have L6 : Hid (∃ pv s, Lo g bn bd Pk W.heap.size (i + 1) ob W w6 pv s) := by obtain ⟨p, h⟩ := L5.out.rn (Nat.le_refl _) r6 (L5.out.rs.bput _ _ _ _); exact ⟨p, _, h⟩
                              clear r6) | go_in)
        go_roundw
        case rel => exact ⟨i + 1, by omega, by go_num, L6.out⟩
        case measure => simp [intOf]; omega
      · by_cases h13 : kd = 13
        · subst h13
          by_cases hk : 0 ≤ sp ∧ 1 ≤ L ∧ L ≤ 255 ∧ 0 ≤ I
          · skip
            have CD : Hid (Calls _ _ _ _ _) := doRaw (.slice la ln lc) n L I sp x L5.out.sr (PK7.out _ L5.out.pk) L5.out.nf HZ.out.2.1 HZ.out.2.2 HZ.out.1 hsl hk
            go_wp2_with (first | (go_at_call 23; refine CD.out.mono ?_; rintro _ w6 ⟨vv, rfl, r6⟩; have L6 : Hid (∃ pv s, Lo g bn bd Pk W.heap.size (i + 1) ob W w6 pv s) := by obtain ⟨p, h⟩ := L5.out.rn (Nat.le_refl _) r6 (L5.out.rs.put _ _); exact ⟨p, _, h⟩
                                  clear r6) | go_in)
            go_roundw
            case rel => exact ⟨i + 1, by omega, by go_num, L6.out⟩
            case measure => simp [intOf]; omega
          · skip
            have CD : Hid (Calls _ _ _ _ _) := doRawNo (.slice la ln lc) n L I sp x L5.out.sr (PK7.out _ L5.out.pk) L5.out.nf HZ.out.2.1 HZ.out.2.2 HZ.out.1 hsl hk
            go_wp2_with (first | (go_at_call 23; refine CD.out.mono ?_; rintro _ w6 ⟨vv, rfl, r6⟩; have L6 : Hid (∃ pv s, Lo g bn bd Pk W.heap.size (i + 1) ob W w6 pv s) := by obtain ⟨p, h⟩ := L5.out.rn (Nat.le_refl _) r6 (L5.out.rs.more); exact ⟨p, _, h⟩
                                  clear r6) | go_in)
            go_roundw
            case rel => exact ⟨i + 1, by omega, by go_num, L6.out⟩
            case measure => simp [intOf]; omega
        · have g12 : (kd == 12) = false := by rw [beq_eq_false_iff_ne]; exact h12
          have g13 : (kd == 13) = false := by rw [beq_eq_false_iff_ne]; exact h13
          clear h12 h13
          go_wp2_with fail
          go_roundw
          case rel => exact ⟨i + 1, by omega, by go_num, pv, s, ⟨L5.out.sr, L5.out.rs.more, L5.out.pk, L5.out.nf, L5.out.fr, L5.out.bl⟩⟩
          case measure => simp [intOf]; omega
    · have hlt' : ¬ (i : Int) < N := by omega
      obtain rfl : i = N := by omega
      have CC : Hid (Calls _ _ _ _ _) := crashC keep LL.out.sr HKP.out (by rw [LL.out.rs.age]; omega)
      have v7 := PK7.out wr LL.out.pk
      have HAG : Hid ((crashS s keep).age = 1) := by show s.age + 1 = 1; rw [LL.out.rs.age]
      clear hL
      go_upto_region 13 with (first | (go_at_call 19; refine CC.out.mono ?_; rintro _ w6 ⟨rfl, r6⟩; have K6 : Hid _ := keeps LL.out (Nat.le_refl _) r6; clear r6) | go_in)
      obtain ⟨p6, k1, k2, k3, k4, k5⟩ := K6.out
      obtain ⟨lst, s2, s3, a1, a2, a3, a4, a5, a6, a7, a8, a9, a10, a11⟩ := ic.settle LL.out.rs (by omega) keep k1.ok
      obtain ⟨s1, HS1⟩ : ∃ s1, Hid (crashS s keep = s1) := ⟨_, rfl⟩
      have hs1o : s1.off = false := by rw [← HS1.out]; rfl
      have hs1p : s1.pend = [] := by rw [← HS1.out]; rfl
      rw [HS1.out] at a1 a3 a11 k1 HAG
      have b6 : Below w6.heap.size w6 w6.drew := ⟨rfl, rfl, rfl, Nat.le_refl _, fun _ _ => rfl⟩
      have C1 : Hid (Calls Tryz.prog 16 #[.pointer (some ⟨g, 0, none⟩), .agg #[.int .i64 1, .int .i64 wd, .int .i64 0, .int .i64 0, .int .i64 0, .int .i64 0], .int .i64 3, .int .i64 0] w6.drew fun r w' => ∃ ge, r = .returned (.tuple #[.pointer (some ⟨ge, 0, none⟩), .int .i64 0]) ∧ One (Bx ge g bn bd Pk) W.heap.size ((s2, ⟨3, 1, wd, lst, 0⟩), ([], ob)) W w') := by
        have C := OpenYes 1 wd 0 0 0 0 3 0 lst (sr_later k1 b6) HS.out ⟨rfl, HWQ.out⟩ hs1o a1 (by omega) (by omega) a3 (by rw [hs1p]; simp only [List.length_nil]; omega)
        rw [HAG.out] at C
        refine C.mono ?_
        rintro r w' ⟨ge, g1, g2⟩
        exact ⟨ge, g1, bornB (w := w6.drew) k4 ⟨k5.os, k5.tape, k5.output, k5.size, k5.block⟩ (Nat.le_refl _) k2 HPB.out k3 g2⟩
      obtain ⟨m, HLM⟩ : ∃ m, Hid (lst.length = m) := ⟨_, rfl⟩
      have hm : m ≤ 1048576 := by rw [← HLM.out]; exact a2
      have hmi : (m : Int) ≤ 1048576 := by omega
      have SX : Hid (∀ ge' st e' rows w1, One (Bx ge' g bn bd Pk) W.heap.size ((st, e'), (rows, ob)) W w1 → (w1.cell? ⟨Pk, 7, none⟩ = some (.pointer (some ⟨g, 0, none⟩)) ∧ w1.cell? ⟨Ob, 0, none⟩ = some (.int .i64 1) ∧ w1.cell? ⟨Ob, 1, none⟩ = some (.int .i64 wd) ∧ w1.cell? ⟨Ob, 2, none⟩ = some (.int .i64 0) ∧ w1.cell? ⟨Ob, 3, none⟩ = some (.int .i64 0) ∧ w1.cell? ⟨Ob, 4, none⟩ = some (.int .i64 0) ∧ w1.cell? ⟨Ob, 5, none⟩ = some (.int .i64 0))) := fun ge' st e' rows w1 hh => by
        obtain ⟨y0, y1, y2, y3, y4, y5⟩ := HQ.out w1 (One.below hh)
        exact ⟨PK7.out w1 (dropBox hh).2, y0, y1, y2, y3, y4, y5⟩
      have S1 : Hid (w6.drew.cell? ⟨Pk, 7, none⟩ = some (.pointer (some ⟨g, 0, none⟩)) ∧ w6.drew.cell? ⟨Ob, 0, none⟩ = some (.int .i64 1) ∧ w6.drew.cell? ⟨Ob, 1, none⟩ = some (.int .i64 wd) ∧ w6.drew.cell? ⟨Ob, 2, none⟩ = some (.int .i64 0) ∧ w6.drew.cell? ⟨Ob, 3, none⟩ = some (.int .i64 0) ∧ w6.drew.cell? ⟨Ob, 4, none⟩ = some (.int .i64 0) ∧ w6.drew.cell? ⟨Ob, 5, none⟩ = some (.int .i64 0)) := by
        obtain ⟨y0, y1, y2, y3, y4, y5⟩ := HQ.out w6.drew ⟨k5.os, k5.tape, k5.output, k5.size, k5.block⟩
        exact ⟨PK7.out w6.drew k2, y0, y1, y2, y3, y4, y5⟩
      have LTR : Hid (∀ ge' st rows w1, One (Bx ge' g bn bd Pk) W.heap.size ((st, ⟨3, 1, wd, lst, 0⟩), (rows, ob)) W w1 → One (Bx ge' g bn bd Pk) W.heap.size ((st, ⟨3, 1, wd, lst, 0⟩), (rows, ob)) W w1.drew) := fun ge' st rows w1 hh => One.later hh ⟨rfl, rfl, rfl, Nat.le_refl _, fun _ _ => rfl⟩
      have CSY : Hid (∀ ge' w1, One (Bx ge' g bn bd Pk) W.heap.size ((s2, ⟨3, 1, wd, lst, 0⟩), ([], ob)) W w1 → Calls Tryz.prog 15 #[.pointer (some ⟨g, 0, none⟩)] w1 fun r w' => r = .returned (.int .i64 0) ∧ One (Bx ge' g bn bd Pk) W.heap.size ((s3, ⟨3, 1, wd, lst, 0⟩), ([], ob)) W w') := fun ge' w1 hh => by
        have C := pSync hh
        rw [a4] at C
        exact C
      have hgn : gone s3 ⟨3, 1, wd, lst, 0⟩ = false := by unfold gone; rw [a7, a8]; simp
      have CTL : Hid (∀ ge' rows w1, One (Bx ge' g bn bd Pk) W.heap.size ((s3, ⟨3, 1, wd, lst, 0⟩), (rows, ob)) W w1 → Calls Tryz.prog 20 #[.pointer (some ⟨ge', 0, none⟩)] w1 fun r w' => ∃ a c, r = .returned (.slice a m c) ∧ One (Bx ge' g bn bd Pk) W.heap.size ((s3, ⟨3, 1, wd, lst, 0⟩), ((.slice a m c, lst) :: rows, ob)) W w') := fun ge' rows w1 hh => toldB hh hgn m HLM (by omega)
      have CIM : Hid (∀ ge' rows w1, One (Bx ge' g bn bd Pk) W.heap.size ((s3, ⟨3, 1, wd, lst, 0⟩), (rows, ob)) W w1 → Calls Tryz.prog 24 #[.pointer (some ⟨g, 0, none⟩)] w1 fun r w' => r = .returned (.string (imageT s3.dur)) ∧ One (Bx ge' g bn bd Pk) W.heap.size ((s3, ⟨3, 1, wd, lst, 0⟩), (rows, ob)) W w') := fun ge' rows w1 hh => by
        obtain ⟨pq, hS⟩ := srOf hh
        have h1 := isz_le s3.dur hS.ok.dur
        exact pImage hh (by omega)
      have COP : Hid (∀ ge' rows w1, One (Bx ge' g bn bd Pk) W.heap.size ((s3, ⟨3, 1, wd, lst, 0⟩), (rows, ob)) W w1 → Calls Tryz.prog 16 #[.pointer (some ⟨g, 0, none⟩), .agg #[.int .i64 1, .int .i64 wd, .int .i64 0, .int .i64 0, .int .i64 0, .int .i64 0], .int .i64 3, .int .i64 (m : Nat)] w1 fun r w' => ∃ ge2, r = .returned (.tuple #[.pointer (some ⟨ge2, 0, none⟩), .int .i64 0]) ∧ One (Bx ge2 g bn bd Pk) W.heap.size ((s3, ⟨3, 1, wd, lst, 0⟩), (rows, ob)) W w') := fun ge' rows w1 hh => by
        have C := pOpen hh wd 3 (m : Nat) lst s3 HS.out HWQ.out a7 a5 (by omega) (by rw [HLM.out]; omega) a6 (by rw [a9]; simp only [List.length_nil]; omega)
        rw [a8] at C
        exact C
      have CPE : Hid (∀ ge' rows w1, One (Bx ge' g bn bd Pk) W.heap.size ((s3, ⟨3, 1, wd, lst, 0⟩), (rows, ob)) W w1 → Calls Tryz.prog 25 #[.pointer (some ⟨g, 0, none⟩)] w1 fun r w' => r = .returned (.int .i64 0) ∧ w' = w1) := fun ge' rows w1 hh => by
        have C := pPend hh
        rw [a9] at C
        exact C
      have CLO : Hid (∀ ge' rows w1 (n : Int), One (Bx ge' g bn bd Pk) W.heap.size ((s3, ⟨3, 1, wd, lst, 0⟩), (rows, ob)) W w1 → (m : Int) < n → Calls Tryz.prog 16 #[.pointer (some ⟨g, 0, none⟩), .agg #[.int .i64 1, .int .i64 wd, .int .i64 0, .int .i64 0, .int .i64 0, .int .i64 0], .int .i64 3, .int .i64 n] w1 fun r w' => r = .returned (.tuple #[.pointer none, .int .i64 151]) ∧ One (Bx ge' g bn bd Pk) W.heap.size ((s3, ⟨3, 1, wd, lst, 0⟩), (rows, ob)) W w') := fun ge' rows w1 n hh hn => pLost hh wd 3 n lst HS.out HWQ.out a7 a5 (by omega) (by rw [HLM.out]; omega)
      have CSM : Hid (∀ ge' a c a' c' w1, One (Bx ge' g bn bd Pk) W.heap.size ((s3, ⟨3, 1, wd, lst, 0⟩), ([(.slice a m c, lst), (.slice a' m c', lst)], ob)) W w1 → Calls Tryz.prog 18 #[.slice a m c, .slice a' m c'] w1 fun r w' => r = .returned (.bool true) ∧ One (Bx ge' g bn bd Pk) W.heap.size ((s3, ⟨3, 1, wd, lst, 0⟩), ([(.slice a m c, lst), (.slice a' m c', lst)], ob)) W w') := fun ge' a c a' c' w1 hh => by
        have C := hs.same (.slice a m c) (.slice a' m c') lst lst w1 (bRow hh List.mem_cons_self).reads (bRow hh (List.mem_cons_of_mem _ List.mem_cons_self)).reads (by omega)
        rw [decide_eq_true rfl] at C
        refine C.mono ?_
        rintro r w' ⟨g1, q, rfl⟩
        exact ⟨g1, One.later hh (below_dN (Below.refl _ _) q)⟩
      obtain ⟨im, HIM⟩ : ∃ im, Hid (imageT s3.dur = im) := ⟨_, rfl⟩
      rw [HIM.out] at CIM
      have him : (im.toList == im.toList) = true := beq_self_eq_true _
      clear a1 a2 a3 a4 a5 a6 a7 a8 a9 a10 a11 k1 k2 k3 k4 k5 b6 hgn v7 HIM
      go_region_held3 (fun w' => w'.cell? ⟨Pk, 7, none⟩ = some (.pointer (some ⟨g, 0, none⟩)) ∧ w'.cell? ⟨Ob, 0, none⟩ = some (.int .i64 1) ∧ w'.cell? ⟨Ob, 1, none⟩ = some (.int .i64 wd) ∧ w'.cell? ⟨Ob, 2, none⟩ = some (.int .i64 0) ∧ w'.cell? ⟨Ob, 3, none⟩ = some (.int .i64 0) ∧ w'.cell? ⟨Ob, 4, none⟩ = some (.int .i64 0) ∧ w'.cell? ⟨Ob, 5, none⟩ = some (.int .i64 0)) (first | exact S1.out | exact S2.out) (first | (go_at_call 16; refine C1.out.mono ?_; rintro _ w7 ⟨ge, rfl, h7⟩; have O7 : Hid (One (Bx ge g bn bd Pk) W.heap.size ((s2, ⟨3, 1, wd, lst, 0⟩), ([], ob)) W w7) := h7; have S2 : Hid (w7.cell? ⟨Pk, 7, none⟩ = some (.pointer (some ⟨g, 0, none⟩)) ∧ w7.cell? ⟨Ob, 0, none⟩ = some (.int .i64 1) ∧ w7.cell? ⟨Ob, 1, none⟩ = some (.int .i64 wd) ∧ w7.cell? ⟨Ob, 2, none⟩ = some (.int .i64 0) ∧ w7.cell? ⟨Ob, 3, none⟩ = some (.int .i64 0) ∧ w7.cell? ⟨Ob, 4, none⟩ = some (.int .i64 0) ∧ w7.cell? ⟨Ob, 5, none⟩ = some (.int .i64 0)) := SX.out _ _ _ _ _ h7; clear h7))
      all_goals
        have C7 : Hid (Calls _ _ _ _ _) := CSY.out ge w7 O7.out
        have u7 := S2.out.1
        go_upto_region 16 with (first | (go_at_call 15; refine C7.out.mono ?_; rintro _ w8 ⟨rfl, h8⟩; have O8 : Hid _ := h8; clear h8) | go_in)
        have C8 : Hid (Calls _ _ _ _ _) := CTL.out ge [] w8 O8.out
        clear u7
        go_upto_region 17 with (first | (go_at_call 20; refine C8.out.mono ?_; rintro _ w9 ⟨a9, c9, rfl, h9⟩; have O9 : Hid _ := h9; clear h9) | go_in)
        have C9 : Hid (Calls _ _ _ _ _) := CIM.out ge _ w9 O9.out
        have u9 := (SX.out _ _ _ _ _ O9.out).1
        go_upto_region 18 with (first | (go_at_call 24; refine C9.out.mono ?_; rintro _ wI ⟨rfl, hI⟩; have OI : Hid _ := hI; clear hI) | go_in)
        have SI : Hid _ := SX.out _ _ _ _ _ (LTR.out _ _ _ _ OI.out)
        have CI : Hid (Calls _ _ _ _ _) := COP.out ge _ _ (LTR.out _ _ _ _ OI.out)
        clear u9
        go_region_held3 (fun w' => w'.cell? ⟨Pk, 7, none⟩ = some (.pointer (some ⟨g, 0, none⟩)) ∧ w'.cell? ⟨Ob, 0, none⟩ = some (.int .i64 1) ∧ w'.cell? ⟨Ob, 1, none⟩ = some (.int .i64 wd) ∧ w'.cell? ⟨Ob, 2, none⟩ = some (.int .i64 0) ∧ w'.cell? ⟨Ob, 3, none⟩ = some (.int .i64 0) ∧ w'.cell? ⟨Ob, 4, none⟩ = some (.int .i64 0) ∧ w'.cell? ⟨Ob, 5, none⟩ = some (.int .i64 0)) (first | exact SI.out | exact S3.out) (first | (go_at_call 16; refine CI.out.mono ?_; rintro _ wJ ⟨gf, rfl, hJ⟩; have OJ : Hid (One (Bx gf g bn bd Pk) W.heap.size ((s3, ⟨3, 1, wd, lst, 0⟩), ([(.slice a9 m c9, lst)], ob)) W wJ) := hJ; have S3 : Hid (wJ.cell? ⟨Pk, 7, none⟩ = some (.pointer (some ⟨g, 0, none⟩)) ∧ wJ.cell? ⟨Ob, 0, none⟩ = some (.int .i64 1) ∧ wJ.cell? ⟨Ob, 1, none⟩ = some (.int .i64 wd) ∧ wJ.cell? ⟨Ob, 2, none⟩ = some (.int .i64 0) ∧ wJ.cell? ⟨Ob, 3, none⟩ = some (.int .i64 0) ∧ wJ.cell? ⟨Ob, 4, none⟩ = some (.int .i64 0) ∧ wJ.cell? ⟨Ob, 5, none⟩ = some (.int .i64 0)) := SX.out _ _ _ _ _ hJ; clear hJ))
        all_goals
          have CJ : Hid (Calls _ _ _ _ _) := CPE.out gf _ wJ OJ.out
          have uJ := S3.out.1
          go_upto_region 21 with (first | (go_at_call 25; refine CJ.out.mono ?_; rintro _ _ ⟨rfl, hw⟩; rw [hw]; clear hw) | go_in)
          have SK : Hid _ := SX.out _ _ _ _ _ (LTR.out _ _ _ _ OJ.out)
          have CK : Hid (∀ n, _ → Calls _ _ _ _ _) := fun n => CLO.out gf _ _ n (LTR.out _ _ _ _ OJ.out)
          clear uJ
          go_region_held3 (fun w' => w'.cell? ⟨Pk, 7, none⟩ = some (.pointer (some ⟨g, 0, none⟩)) ∧ w'.cell? ⟨Ob, 0, none⟩ = some (.int .i64 1) ∧ w'.cell? ⟨Ob, 1, none⟩ = some (.int .i64 wd) ∧ w'.cell? ⟨Ob, 2, none⟩ = some (.int .i64 0) ∧ w'.cell? ⟨Ob, 3, none⟩ = some (.int .i64 0) ∧ w'.cell? ⟨Ob, 4, none⟩ = some (.int .i64 0) ∧ w'.cell? ⟨Ob, 5, none⟩ = some (.int .i64 0)) (first | exact SK.out | exact S4.out) (first | (go_at_call 16; refine (CK.out _ (by first | omega | (rw [IntKind.wrap_i64]; omega))).mono ?_; rintro _ wL ⟨rfl, hL⟩; have OL : Hid (One (Bx gf g bn bd Pk) W.heap.size ((s3, ⟨3, 1, wd, lst, 0⟩), ([(.slice a9 m c9, lst)], ob)) W wL) := hL; have S4 : Hid (wL.cell? ⟨Pk, 7, none⟩ = some (.pointer (some ⟨g, 0, none⟩)) ∧ wL.cell? ⟨Ob, 0, none⟩ = some (.int .i64 1) ∧ wL.cell? ⟨Ob, 1, none⟩ = some (.int .i64 wd) ∧ wL.cell? ⟨Ob, 2, none⟩ = some (.int .i64 0) ∧ wL.cell? ⟨Ob, 3, none⟩ = some (.int .i64 0) ∧ wL.cell? ⟨Ob, 4, none⟩ = some (.int .i64 0) ∧ wL.cell? ⟨Ob, 5, none⟩ = some (.int .i64 0)) := SX.out _ _ _ _ _ hL; clear hL))
          all_goals
            have CL1 : Hid (Calls _ _ _ _ _) := CTL.out gf _ wL OL.out
            go_wp2_with (first
              | (go_at_call 20; refine CL1.out.mono ?_; rintro _ wM ⟨aM, cM, rfl, hM⟩; have OM : Hid _ := hM; clear hM)
              | (go_at_call 18; refine (CSM.out _ _ _ _ _ _ OM.out).mono ?_; rintro _ wN ⟨rfl, hN⟩; have ON : Hid _ := hN; have uN := (SX.out _ _ _ _ _ hN).1; clear hN)
              | (go_at_call 24; refine (CIM.out _ _ _ ON.out).mono ?_; rintro _ wO ⟨rfl, hO⟩; have OO : Hid _ := hO; clear hO)
              | go_in)
            go_ret
            exact ⟨rfl, over BW.out (One.below OO.out)⟩
end Go.Proofs.YtofmkdagehehaaaGreatDoor.id

namespace Go.Proofs.YtofmkdagehehaaaGreatDoor.ws
open Go.RowKit Go.PlainAid
open Go.Proofs.YtofmkdagehehaaaGreatDoor.pl Go.Proofs.YtofmkdagehehaaaGreatDoor.ft Go.Proofs.YtofmkdagehehaaaGreatDoor.pj Go.Proofs.YtofmkdagehehaaaGreatDoor.ka Go.Proofs.YtofmkdagehehaaaGreatDoor.he Go.Proofs.YtofmkdagehehaaaGreatDoor.ic
set_option linter.unusedVariables false
theorem settled_walk (W : World) (a0 : Int) (w0 : (Lit.int .i64 a0).wf = true) (v : Value) (l : List Opq) (hr : ReadsQ W v l) (hl : l.length ≤ 1048576) (hb : ∀ o ∈ l, o.x.size ≤ 1048576 ∧ o.sp ≤ 9223372036854775807 ∧ o.I ≤ 9223372036854775807) (keep : ByteArray) (hk : keep.size ≤ 1048576) (tabs : St8 W 0 ∧ K64 W 2) :
    Calls Tryz.prog 6 #[.int .i64 a0, v, .string keep] W fun e w' => e = .returned (.bool true) ∧ Below W.heap.size W w' :=
  Go.Proofs.YtofmkdagehehaaaGreatDoor.id.settledW a0 v l keep W (Tab.of tabs) hr hl (fun o ho => by obtain ⟨h1, h2, h3⟩ := hb o ho; exact ⟨by omega, h2, h3⟩) (by omega)
end Go.Proofs.YtofmkdagehehaaaGreatDoor.ws
