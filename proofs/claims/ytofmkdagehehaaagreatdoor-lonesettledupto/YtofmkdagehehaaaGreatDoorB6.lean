import Derived.Test.YtofmkdagehehaaaGreatDoorB5
import Derived.Test.YtofmkdagehehaaaGreatDoorA4
namespace Go.Proofs.YtofmkdagehehaaaGreatDoor.he
open Go.RowKit Go.PlainAid Go.Maps Go.Shelf
open Go.Proofs.YtofmkdagehehaaaGreatDoor.kp Go.Proofs.YtofmkdagehehaaaGreatDoor.ka Go.Proofs.YtofmkdagehehaaaGreatDoor.ya Go.Proofs.YtofmkdagehehaaaGreatDoor.yb Go.Proofs.YtofmkdagehehaaaGreatDoor.yc Go.Proofs.YtofmkdagehehaaaGreatDoor.yd Go.Proofs.YtofmkdagehehaaaGreatDoor.ye Go.Proofs.YtofmkdagehehaaaGreatDoor.yf Go.Proofs.YtofmkdagehehaaaGreatDoor.yg Go.Proofs.YtofmkdagehehaaaGreatDoor.yi Go.Proofs.YtofmkdagehehaaaGreatDoor.yj Go.Proofs.YtofmkdagehehaaaGreatDoor.yk Go.Proofs.YtofmkdagehehaaaGreatDoor.yl Go.Proofs.YtofmkdagehehaaaGreatDoor.ym
open Go.Proofs.YtofmkdagehehaaaGreatDoor.tqa Go.Proofs.YtofmkdagehehaaaGreatDoor.tba Go.Proofs.YtofmkdagehehaaaGreatDoor.tbc Go.Proofs.YtofmkdagehehaaaGreatDoor.tbd Go.Proofs.YtofmkdagehehaaaGreatDoor.tbe
open Go.Proofs.YtofmkdagehehaaaGreatDoor.tbf (okI)
open Go.Proofs.YtofmkdagehehaaaGreatDoor.tqb (over)
open Go.Proofs.YtofmkdagehehaaaGreatDoor.ea Go.Proofs.YtofmkdagehehaaaGreatDoor.eb Go.Proofs.YtofmkdagehehaaaGreatDoor.ec Go.Proofs.YtofmkdagehehaaaGreatDoor.ed Go.Proofs.YtofmkdagehehaaaGreatDoor.ee Go.Proofs.YtofmkdagehehaaaGreatDoor.ef Go.Proofs.YtofmkdagehehaaaGreatDoor.eg Go.Proofs.YtofmkdagehehaaaGreatDoor.eh Go.Proofs.YtofmkdagehehaaaGreatDoor.ei Go.Proofs.YtofmkdagehehaaaGreatDoor.ej Go.Proofs.YtofmkdagehehaaaGreatDoor.ek Go.Proofs.YtofmkdagehehaaaGreatDoor.el Go.Proofs.YtofmkdagehehaaaGreatDoor.ha Go.Proofs.YtofmkdagehehaaaGreatDoor.hb Go.Proofs.YtofmkdagehehaaaGreatDoor.hc Go.Proofs.YtofmkdagehehaaaGreatDoor.hd
open Go.Proofs.YtofmkdagehehaaaGreatDoor.pj (Tab)
set_option linter.unusedVariables false
set_option linter.unusedSimpArgs false
-- what the law wants of an Append
def wantE (ls : List ByteArray) (room : Int) : Int := if ls.length = 0 then 82 else if 1024 < ls.length then 83 else if big ls then 121 else if room < wgt (enm 0 ls) then 122 else 0
theorem wgt_enm (n m : Nat) (xs : List ByteArray) : wgt (enm n xs) = wgt (enm m xs) := by
  induction xs generalizing n m with
  | nil => rfl
  | cons x xs ih => simp only [enm, wgt]; rw [ih (n + 1) (m + 1)]
structure Go (s : S) (e : E) (c : Int) (xs : List ByteArray) : Prop where
  ow : Ow s e.sp [] xs
  l : e.l = xs
  g : gone s e = false
  a : s.armed = 0
  c : s.cap = c
theorem Go.lens {s : S} {e : E} {c : Int} {xs : List ByteArray} (h : Go s e c xs) : s.dur.length + s.pend.length + 1024 < 3518437208883 ∧ e.l.length + 1024 ≤ 1099511627776 := by
  have h1 := h.ow.len
  have h2 : s.dur.length + s.pend.length = xs.length := by
    rw [h.ow.dur, h.ow.pend]
    simp [prs, enm_len, enm]
  rw [h2, h.l]
  simp only [List.nil_append] at h1
  omega
theorem Go.step {s : S} {e : E} {c : Int} {xs ys : List ByteArray} (h : Go s e c xs) : (appS s e ys).1 = wantE ys (c - wgt (enm 0 xs)) ∧ ((appS s e ys).1 = 0 → Go (appS s e ys).2.1 (appS s e ys).2.2 c (xs ++ ys)) ∧ ((appS s e ys).1 ≠ 0 → Go (appS s e ys).2.1 (appS s e ys).2.2 c xs) := by
  have hl := h.ow.len
  have hlc := h.lens
  have hw : wgt (enm 0 ([] ++ xs ++ ys)) = wgt (enm 0 xs) + wgt (enm 0 ys) := by
    rw [List.nil_append, enm_app, wgt_app, wgt_enm (0 + xs.length) 0]
  have hbw : batchE ys ([] ++ xs).length ≠ 10 := by
    intro hb
    unfold batchE at hb
    simp only [List.nil_append] at hb hl
    split at hb
    · cases hb
    · split at hb
      · cases hb
      · split at hb
        · cases hb
        · split at hb
          · rename_i h1 h2 h3 h4; omega
          · cases hb
  rcases h.ow.app (ys := ys) h.l h.g with ⟨hb, he⟩ | ⟨hb, hf, he⟩ | ⟨hb, hf, _, s', he, h2, h3, h4, h5, h6⟩ | ⟨_, h1, _⟩
  · rw [he]
    refine ⟨?_, fun h0 => absurd h0 hb, fun _ => h⟩
    show batchE ys ([] ++ xs).length = _
    unfold batchE at hb hbw ⊢
    unfold wantE
    split
    · rfl
    · rename_i h1
      rw [if_neg h1] at hb hbw
      split
      · rfl
      · rename_i h2
        rw [if_neg h2] at hb hbw
        split
        · rfl
        · rename_i h3
          rw [if_neg h3] at hb hbw
          split
          · rename_i h4; rw [if_pos h4] at hbw; exact absurd rfl hbw
          · rename_i h4; rw [if_neg h4] at hb; exact absurd rfl hb
  · rw [he]
    refine ⟨?_, (fun h0 => by cases h0), fun _ => h⟩
    obtain ⟨b1, b2, b3, b4⟩ := batch_ok hb
    have hbig : big ys = false := by
      unfold big
      rw [List.any_eq_false]
      intro x hx
      have := b3 x hx
      simp; omega
    unfold wantE
    rw [if_neg b1, if_neg (by omega), hbig, if_neg (by simp), if_pos (by rw [hw] at hf; have := h.c; omega)]
  · rw [he]
    obtain ⟨b1, b2, b3, b4⟩ := batch_ok hb
    have hbig : big ys = false := by
      unfold big
      rw [List.any_eq_false]
      intro x hx
      have := b3 x hx
      simp; omega
    refine ⟨?_, fun _ => ⟨h2, by show e.l ++ ys = _; rw [h.l], ?_, by rw [h6, h.a]; simp, h3.trans h.c⟩, fun h0 => absurd rfl h0⟩
    · unfold wantE
      rw [if_neg b1, if_neg (by omega), hbig, if_neg (by simp), if_neg (by rw [hw] at hf; have := h.c; omega)]
    · have := h.g
      unfold gone at this ⊢
      rw [h4, h5]
      have := (Bool.or_eq_false_iff.1 this).2
      simpa using this
  · rw [h.a] at h1; omega
theorem Go.tot {s : S} {e : E} {c : Int} {xs : List ByteArray} (h : Go s e c xs) : ya.tot (ye.now s) = wgt (enm 0 xs) := by
  have := h.ow.tot
  simpa using this
theorem Go.new {c sp wd : Int} (hs : okI sp) (hc : 0 ≤ c ∧ c ≤ 1073741824) : Go ⟨c, [], [], 0, false, 0⟩ ⟨sp, 0, wd, [], 0⟩ c [] := ⟨Ow.new hs hc.1 hc.2 0, rfl, rfl, rfl, rfl⟩
theorem big_take {ls : List ByteArray} {k : Nat} {x : ByteArray} (h : ls[k]? = some x) : big (ls.take (k + 1)) = (big (ls.take k) || decide (4096 < x.size)) := by
  rw [List.take_add_one, h]
  unfold big
  simp
theorem wgt_take {ls : List ByteArray} {k : Nat} {x : ByteArray} (h : ls[k]? = some x) : wgt (enm 0 (ls.take (k + 1))) = wgt (enm 0 (ls.take k)) + (52 + x.size) := by
  rw [List.take_add_one, h, enm_app, wgt_app]
  simp [enm, wgt]
theorem wgt_small {ls : List ByteArray} (K k : Nat) (h : ∀ x ∈ ls, 52 + x.size ≤ K) : wgt (enm 0 (ls.take k)) ≤ k * K := by
  induction k with
  | zero => simp [enm, wgt]
  | succ k ih =>
    have e : (k + 1) * K = k * K + K := Nat.succ_mul k K
    cases hx : ls[k]? with
    | none =>
      have : ls.take (k + 1) = ls.take k := by rw [List.take_add_one, hx]; simp
      rw [this, e]; exact Nat.le_trans ih (Nat.le_add_right _ _)
    | some x =>
      rw [wgt_take hx, e]
      exact Nat.add_le_add ih (h x (List.mem_of_getElem? hx))
set_option maxRecDepth 100000 in
set_option maxHeartbeats 25600000 in
theorem mustW (c : Int) (v1 v2 : Value) (l1 l2 : List ByteArray) (w : World) (hT : Tab w) (h1 : ReadsT w v1 l1) (h2 : ReadsT w v2 l2) (z1 : ∀ x ∈ l1, x.size ≤ 140737488355328) (z2 : ∀ x ∈ l2, x.size ≤ 140737488355328) (n1 : l1.length ≤ 140737488355328) (n2 : l2.length ≤ 140737488355328) :
    Calls Tryz.prog 3 #[.int .i64 c, v1, v2] w fun r w' => r = .returned (.bool true) ∧ Below w.heap.size w w' := by
  have CB : Hid (Calls _ _ _ _ _) := begunC w hT
  have CO : Hid (∀ w, Calls Tryz.prog 11 #[.int .i64 4] w fun r w' => r = .returned (.agg #[.int .i64 1, .int .i64 4, .int .i64 0, .int .i64 0, .int .i64 0, .int .i64 0]) ∧ Below w.heap.size w w') := fun w => optsL 4 w
  by_cases hc : 0 ≤ c ∧ c ≤ 1073741824
  · have CN : Hid (∀ w1, Calls _ _ _ _ _) := fun w1 => newC c w1 hc
    have HGO : Hid (Go ⟨c, [], [], 0, false, 0⟩ ⟨7, 0, 4, [], 0⟩ c []) := Go.new ⟨by omega, by omega⟩ hc
    -- the two lists, one or the other
    have HLS : Hid (∀ i : Nat, i < 2 → ∃ a m cc ls, #[v1, v2][i]? = some (.slice a m cc) ∧ Hid (ls.length = m ∧ (∀ w', Below w.heap.size w w' → ReadsT w' (.slice a m cc) ls) ∧ (∀ x ∈ ls, x.size ≤ 140737488355328) ∧ (∀ k, (Value.slice a m cc).ownBlock = some k → ls ≠ [] → k < w.heap.size)) ∧ m ≤ 140737488355328) := by
      have key : ∀ v (l : List ByteArray), ReadsT w v l → (∀ x ∈ l, x.size ≤ 140737488355328) → ∃ a cc, v = .slice a l.length cc ∧ (∀ w', Below w.heap.size w w' → ReadsT w' (.slice a l.length cc) l) ∧ (∀ k, (Value.slice a l.length cc).ownBlock = some k → l ≠ [] → k < w.heap.size) := by
        intro v l h hz
        have h' := h
        obtain ⟨a, cc, rfl, h3, h4⟩ := h
        refine ⟨a, cc, rfl, fun w' b => h'.later b, fun k hk hne => ?_⟩
        rcases h4 with h0 | ⟨b, off, rfl, hh⟩
        · exact absurd (List.length_eq_zero_iff.1 h0) hne
        · have e : b = k := Option.some.inj hk
          subst e
          exact World.block_lt_of_cell? _ _ (hh 0 (List.length_pos_iff.2 hne))
      intro i hi
      have : i = 0 ∨ i = 1 := by omega
      rcases this with rfl | rfl
      · obtain ⟨a, cc, e, k1, k2⟩ := key v1 l1 h1 z1
        exact ⟨a, l1.length, cc, l1, by rw [e]; rfl, ⟨rfl, k1, z1, k2⟩, n1⟩
      · obtain ⟨a, cc, e, k1, k2⟩ := key v2 l2 h2 z2
        exact ⟨a, l2.length, cc, l2, by rw [e]; rfl, ⟨rfl, k1, z2, k2⟩, n2⟩
    obtain ⟨a1, c1, rfl, _, _⟩ := h1
    obtain ⟨a2, c2, rfl, _, _⟩ := h2
    have hwl : w.heap.size ≤ w.heap.size := Nat.le_refl _
    have hci : c ≤ 1073741824 := hc.2
    have hci0 : 0 ≤ c := hc.1
    clear hT z1 z2 hwl hc
    go_enter Tryz.func3, Tryz.ntmps3
    go_upto_region 8 with (first
      | (go_at_call 8; refine CB.out.mono ?_; rintro _ wb ⟨rfl, bb⟩; have BB : Hid (Below w.heap.size w wb) := bb; clear bb)
      | (go_at_call 9; refine (CN.out _).mono ?_; rintro _ w1 ⟨g, bn, bd, rfl, h1, b1⟩; have H1 : Hid (Sr wb.heap.size g bn bd (.slice none 0 0) ⟨c, [], [], 0, false, 0⟩ w1) := h1; have B1 : Hid (Below wb.heap.size wb w1) := b1; clear h1 b1)
      | (go_at_call 11; refine (CO.out _).mono ?_; rintro _ w2 ⟨rfl, b2⟩; have B2 : Hid (Below w1.heap.size w1 w2) := b2; clear b2)
      | (go_at_call 10; refine (newEngine (c := c) (sp := 7) (wd := 4) ⟨by omega, by omega⟩ ⟨by omega, by omega⟩ H1.out B1.out B2.out).mono ?_; rintro _ w3 ⟨ge, rfl, h3⟩; have O3 : Hid (One (EnO ge g bn bd) wb.heap.size (⟨c, [], [], 0, false, 0⟩, ⟨7, 0, 4, [], 0⟩) wb w3) := h3; clear h3)
      | go_in)
    have O4 : Hid (One (pairO (EnO ge g bn bd) (BlkO w3.heap.size)) wb.heap.size ((⟨c, [], [], 0, false, 0⟩, ⟨7, 0, 4, [], 0⟩), Obj.cells #[.slice a1 l1.length c1, .slice a2 l2.length c2] 22 (0, 0)) wb (w3.alloc (.cells #[.slice a1 l1.length c1, .slice a2 l2.length c2] 22))) := One.put O3.out (G := fun k => k = w3.heap.size) ⟨heap_alloc_new w3 _, fun k => Iff.rfl⟩ (new1 _ _) (fun k hk => by omega)
    go_wp2_with fail
    go_loopw [11, 13] (fun rv iv wr => ∃ (i : Nat) (room : Int), i ≤ 2 ∧ iv = .int .i64 i ∧ rv = .int .i64 room ∧ 0 ≤ room ∧ room ≤ c ∧ Hid (∃ s e xs, One (pairO (EnO ge g bn bd) (BlkO w3.heap.size)) wb.heap.size ((s, e), Obj.cells #[.slice a1 l1.length c1, .slice a2 l2.length c2] 22 (0, 0)) wb wr ∧ Go s e c xs ∧ room = c - wgt (enm 0 xs))) (fun _ iv _ => (2 - intOf iv).toNat)
    case atStart => exact ⟨0, c, by omega, rfl, rfl, hci0, by omega, _, _, [], O4.out, HGO.out, by simp [enm, wgt]⟩
    case round =>
      obtain ⟨i, room, hi, rfl, rfl, hr0, hr1, HH⟩ := hrel
      obtain ⟨s, e, xs, hO, hG, hroom⟩ := HH.out
      have OO : Hid _ := hO
      have GG : Hid _ := hG
      have HRM : Hid _ := hroom
      clear HH hO hG hroom
      by_cases hlt : i < 2
      · have hlt' : (i : Int) < 2 := by omega
        obtain ⟨a, m, cc, ls, hcell, HL, hm⟩ := HLS.out i hlt
        have hBw : Hid (Below w.heap.size w wr) := over BB.out (dn (One.below OO.out) (Nat.le_refl _))
        have hq := pBlk OO.out
        have cq : wr.cell? ⟨w3.heap.size, i, none⟩ = some (.slice a m cc) := by rw [cell_of_row _ _ i _ _ _ hq]; exact hcell
        have HRD : Hid (ReadsT wr (.slice a m cc) ls) := HL.out.2.1 wr hBw.out
        have hmi : (m : Int) ≤ 140737488355328 := by omega
        have HNX : Hid (∀ k, k < m → ∃ b off x, a = some ⟨b, off, none⟩ ∧ ls[k]? = some x ∧ wr.cell? ⟨b, off + k, none⟩ = some (.string x) ∧ x.size ≤ 140737488355328) := fun k hk => by
          obtain ⟨a', cap', e', _, h0 | ⟨b, off, e4, hh⟩⟩ := HRD.out
          · have := HL.out.1; omega
          · injection e' with e1 _ _
            have hkx : k < ls.length := by have := HL.out.1; omega
            refine ⟨b, off, ls[k], by rw [e1]; exact e4, List.getElem?_eq_getElem hkx, ?_, HL.out.2.2.1 _ (List.getElem_mem hkx)⟩
            rw [hh k hkx, List.getD, List.getElem?_eq_getElem hkx]; rfl
        have CAP : Hid (Calls _ _ _ _ _) := pApp OO.out a cc ls m HL.out.1 HRD.out (fun k hk hne => by have := HL.out.2.2.2 k hk hne; have := BB.out.size; omega) (by omega) GG.out.lens.1 GG.out.lens.2
        have HST : Hid _ := GG.out.step (ys := ls)
        have HWT : Hid ((appS s e ls).1 = wantE ls room) := by show _ = _; rw [HST.out.1, ← HRM.out]
        obtain ⟨ap, HAP⟩ : ∃ ap, Hid (appS s e ls = ap) := ⟨_, rfl⟩
        rw [HAP.out] at CAP HST HWT
        obtain ⟨ae, ase⟩ := ap
        have HST2 : Hid (ae = 0 → Go ase.1 ase.2 c (xs ++ ls)) := HST.out.2.1
        have HST3 : Hid (ae ≠ 0 → Go ase.1 ase.2 c xs) := HST.out.2.2
        have HW2 : Hid (ae = wantE ls room) := HWT.out
        clear hcell hq HAP HST HWT
        by_cases hsm : m ≤ 1024
        · have hsm' : ¬ (m : Int) > 1024 := by omega
          have HKB : Hid (∀ k, wgt (enm 0 (ls.take k)) ≤ k * 140737488355380) := fun k => wgt_small 140737488355380 k (fun x hx => by have := HL.out.2.2.1 x hx; omega)
          go_wp2_with fail
          go_loopw [14, 15, 16] (fun wv nv kv w9 => ∃ (k : Nat) (wt : Int) (nn : Nat), k ≤ m ∧ kv = .int .i64 k ∧ wv = .int .i64 wt ∧ nv = .int .i64 nn ∧ Hid (wt = if big (ls.take k) then 121 else 0) ∧ Hid (nn = wgt (enm 0 (ls.take k))) ∧ wr = w9) (fun _ _ kv _ => (m - intOf kv).toNat)
          case atStart => exact ⟨0, 0, 0, by omega, rfl, rfl, rfl, rfl, rfl, rfl⟩
          case round =>
            obtain ⟨k, wt, nn, hk, rfl, rfl, rfl, HWT, HNN, rfl⟩ := hrel
            have hnb : nn ≤ 144115188075909120 := by
              rw [HNN.out]
              exact Nat.le_trans (HKB.out k) (Nat.le_trans (Nat.mul_le_mul_right _ (Nat.le_trans hk hsm)) (by decide))
            have hnbi : (nn : Int) ≤ 144115188075909120 := by omega
            by_cases hkl : k < m
            · have hkl' : (k : Int) < m := by omega
              obtain ⟨b, off, x, rfl, hx, hc, hxz⟩ := HNX.out k hkl
              have HB1 : Hid _ := big_take hx
              have HW1 : Hid _ := wgt_take hx
              have hxi : (x.size : Int) ≤ 140737488355328 := by omega
              clear hx
              by_cases hxb : 4096 < x.size
              · have hxb' : (x.size : Int) > 4096 := by omega
                go_wp2
                go_roundw
                case rel => exact ⟨k + 1, 121, nn + (52 + x.size), by omega, by go_num, rfl, by go_num, (by show _ = _; rw [HB1.out, decide_eq_true hxb, Bool.or_true]; rfl), (by show _ = _; rw [HW1.out, HNN.out]), by first | rfl | trivial⟩
                case measure => simp [intOf]; omega
              · have hxb' : ¬ (x.size : Int) > 4096 := by omega
                go_wp2
                go_roundw
                case rel => exact ⟨k + 1, wt, nn + (52 + x.size), by omega, by go_num, rfl, by go_num, (by show _ = _; rw [HB1.out, decide_eq_false hxb, Bool.or_false]; exact HWT.out), (by show _ = _; rw [HW1.out, HNN.out]), by first | rfl | trivial⟩
                case measure => simp [intOf]; omega
            · have hkl' : ¬ (k : Int) < m := by omega
              obtain rfl : k = m := by omega
              have HTK : Hid (ls.take k = ls) := List.take_of_length_le (by have := HL.out.1; omega)
              rw [HTK.out] at HWT HNN
              have HLL : Hid (ls.length = k) := HL.out.1
              have HWW : Hid (ae = if k = 0 then 82 else if 1024 < k then 83 else if big ls then 121 else if room < nn then 122 else 0) := by
                have := HW2.out
                unfold wantE at this
                rw [HLL.out, ← HNN.out] at this
                exact this
              have HRM2 : Hid (room - nn = c - wgt (enm 0 (xs ++ ls))) := by
                show _ = _
                rw [enm_app, wgt_app, wgt_enm (0 + xs.length) 0 ls, ← HNN.out, HRM.out]
                omega
              by_cases hk0 : k = 0
              · have hae : ae = 82 := by rw [HWW.out, if_pos hk0]
                subst hae
                subst hk0
                clear HWW HW2 HST2 HRM2
                go_wp2_with (first | (go_at_call 12; refine CAP.out.mono ?_; rintro _ w5 ⟨rfl, h5⟩; have O5 : Hid (One (pairO (EnO ge g bn bd) (BlkO w3.heap.size)) wb.heap.size (ase, Obj.cells #[.slice a1 l1.length c1, .slice a2 l2.length c2] 22 (0, 0)) wb w5) := h5; clear h5) | go_in)
                go_roundw
                case rel => exact ⟨i + 1, room, by omega, by go_num, rfl, by omega, by omega, ase.1, ase.2, xs, O5.out, (HST3.out (by decide)), HRM.out⟩
                case measure => simp [intOf]; omega
              · have hk0' : ((k : Int) == 0) = false := by rw [beq_eq_false_iff_ne]; omega
                cases hbg : big ls with
                | true =>
                  have hae : ae = 121 := by rw [HWW.out, if_neg hk0, if_neg (by omega), hbg]; rfl
                  have hwt : wt = 121 := by rw [HWT.out, hbg]; rfl
                  subst hae hwt
                  clear HWW HW2 HST2 HRM2 HWT hbg hk0
                  go_wp2_with (first | (go_at_call 12; refine CAP.out.mono ?_; rintro _ w5 ⟨rfl, h5⟩; have O5 : Hid (One (pairO (EnO ge g bn bd) (BlkO w3.heap.size)) wb.heap.size (ase, Obj.cells #[.slice a1 l1.length c1, .slice a2 l2.length c2] 22 (0, 0)) wb w5) := h5; clear h5) | go_in)
                  go_roundw
                  case rel => exact ⟨i + 1, room, by omega, by go_num, rfl, by omega, by omega, ase.1, ase.2, xs, O5.out, (HST3.out (by decide)), HRM.out⟩
                  case measure => simp [intOf]; omega
                | false =>
                  have hwt : wt = 0 := by rw [HWT.out, hbg]; rfl
                  subst hwt
                  by_cases hfull : room < nn
                  · have hfull' : decide ((nn : Int) > room) = true := decide_eq_true (by omega)
                    have hae : ae = 122 := by rw [HWW.out, if_neg hk0, if_neg (by omega), hbg, if_neg (by simp), if_pos hfull]
                    subst hae
                    clear HWW HW2 HST2 HRM2 HWT hbg hk0
                    go_wp2_with (first | (go_at_call 12; refine CAP.out.mono ?_; rintro _ w5 ⟨rfl, h5⟩; have O5 : Hid (One (pairO (EnO ge g bn bd) (BlkO w3.heap.size)) wb.heap.size (ase, Obj.cells #[.slice a1 l1.length c1, .slice a2 l2.length c2] 22 (0, 0)) wb w5) := h5; clear h5) | go_in)
                    go_roundw
                    case rel => exact ⟨i + 1, room, by omega, by go_num, rfl, by omega, by omega, ase.1, ase.2, xs, O5.out, (HST3.out (by decide)), HRM.out⟩
                    case measure => simp [intOf]; omega
                  · have hfull' : decide ((nn : Int) > room) = false := decide_eq_false (by omega)
                    have hfull2 : (nn : Int) ≤ room := by omega
                    have hae : ae = 0 := by rw [HWW.out, if_neg hk0, if_neg (by omega), hbg, if_neg (by simp), if_neg hfull]
                    subst hae
                    clear HWW HW2 HST3 HWT hbg hk0
                    go_wp2_with (first | (go_at_call 12; refine CAP.out.mono ?_; rintro _ w5 ⟨rfl, h5⟩; have O5 : Hid (One (pairO (EnO ge g bn bd) (BlkO w3.heap.size)) wb.heap.size (ase, Obj.cells #[.slice a1 l1.length c1, .slice a2 l2.length c2] 22 (0, 0)) wb w5) := h5; clear h5) | go_in)
                    go_roundw
                    case rel => exact ⟨i + 1, room - nn, by omega, by go_num, (by first | rfl | go_num), by omega, by omega, ase.1, ase.2, xs ++ ls, O5.out, (HST2.out (by first | rfl | trivial)), HRM2.out⟩
                    case measure => simp [intOf]; omega
        · have hsm' : (m : Int) > 1024 := by omega
          have hm0 : ((m : Int) == 0) = false := by rw [beq_eq_false_iff_ne]; omega
          have hae : ae = 83 := by
            have := HW2.out
            unfold wantE at this
            rw [HL.out.1, if_neg (by omega), if_pos (by omega)] at this
            exact this
          subst hae
          clear HW2 HST2
          go_wp2_with fail
          go_loopw [14, 15, 16] (fun wv nv kv w9 => ∃ (k : Nat) (wt : Int) (nn : Int), k ≤ m ∧ kv = .int .i64 k ∧ wv = .int .i64 wt ∧ nv = .int .i64 nn ∧ wr = w9) (fun _ _ kv _ => (m - intOf kv).toNat)
          case atStart => exact ⟨0, 0, 0, by omega, rfl, rfl, rfl, rfl⟩
          case round =>
            obtain ⟨k, wt, nn, hk, rfl, rfl, rfl, rfl⟩ := hrel
            by_cases hkl : k < m
            · have hkl' : (k : Int) < m := by omega
              obtain ⟨b, off, x, rfl, hx, hc, hxz⟩ := HNX.out k hkl
              clear hx
              by_cases hxb : 4096 < x.size
              · have hxb' : (x.size : Int) > 4096 := by omega
                go_wp2
                go_roundw
                case rel => exact ⟨k + 1, _, _, by omega, by go_num, rfl, rfl, by first | rfl | trivial⟩
                case measure => simp [intOf]; omega
              · have hxb' : ¬ (x.size : Int) > 4096 := by omega
                go_wp2
                go_roundw
                case rel => exact ⟨k + 1, _, _, by omega, by go_num, rfl, rfl, by first | rfl | trivial⟩
                case measure => simp [intOf]; omega
            · have hkl' : ¬ (k : Int) < m := by omega
              obtain rfl : k = m := by omega
              go_wp2_with (first | (go_at_call 12; refine CAP.out.mono ?_; rintro _ w5 ⟨rfl, h5⟩; have O5 : Hid (One (pairO (EnO ge g bn bd) (BlkO w3.heap.size)) wb.heap.size (ase, Obj.cells #[.slice a1 l1.length c1, .slice a2 l2.length c2] 22 (0, 0)) wb w5) := h5; clear h5) | go_in)
              go_roundw
              case rel => exact ⟨i + 1, room, by omega, by go_num, rfl, by omega, by omega, ase.1, ase.2, xs, O5.out, (HST3.out (by decide)), HRM.out⟩
              case measure => simp [intOf]; omega
      · have hlt' : ¬ (i : Int) < 2 := by omega
        have CU : Hid (Calls _ _ _ _ _) := pUsed OO.out
        have HTT : Hid (((tot (now s) : Nat) : Int) = c - room) := by
          show _ = _
          rw [GG.out.tot, HRM.out]
          omega
        rw [HTT.out] at CU
        have hbl := One.below OO.out
        have HBE : Hid (Below w.heap.size w wr) := over BB.out (dn hbl (Nat.le_refl _))
        clear hbl
        go_wp2_with (first | (go_at_call 13; refine CU.out.mono ?_; rintro _ _ ⟨rfl, hw⟩; rw [hw]; clear hw) | go_in)
        go_ret
        exact ⟨rfl, HBE.out⟩
  · have CN : Hid (∀ w1, Calls _ _ _ _ _) := fun w1 => newNo c w1 hc
    obtain ⟨a1, c1, rfl, _, _⟩ := h1
    obtain ⟨a2, c2, rfl, _, _⟩ := h2
    clear hc hT z1 z2
    go_enter Tryz.func3, Tryz.ntmps3
    go_wp2_with (first
      | (go_at_call 8; refine CB.out.mono ?_; rintro _ wb ⟨rfl, bb⟩; have BB : Hid (Below w.heap.size w wb) := bb; clear bb)
      | (go_at_call 9; refine (CN.out _).mono ?_; rintro _ _ ⟨rfl, hw⟩; rw [hw]; clear hw)
      | go_in)
    go_ret
    exact ⟨rfl, BB.out⟩
end Go.Proofs.YtofmkdagehehaaaGreatDoor.he

namespace Go.Proofs.YtofmkdagehehaaaGreatDoor.wm
open Go.RowKit Go.PlainAid
open Go.Proofs.YtofmkdagehehaaaGreatDoor.pl Go.Proofs.YtofmkdagehehaaaGreatDoor.ft Go.Proofs.YtofmkdagehehaaaGreatDoor.pj Go.Proofs.YtofmkdagehehaaaGreatDoor.ka Go.Proofs.YtofmkdagehehaaaGreatDoor.he
set_option linter.unusedVariables false
theorem must_walk (W : World) (a0 : Int) (w0 : (Lit.int .i64 a0).wf = true) (v1 : Value) (xs : List ByteArray) (hr : ReadsT W v1 xs) (hno : ∀ k c, v1 = .slice none k c → c = 0) (hx : ∀ x ∈ xs, x.size ≤ 140737488351232) (hl : xs.length * 16 ≤ 140737488351232) (v2 : Value) (ys : List ByteArray) (hr2 : ReadsT W v2 ys) (hno2 : ∀ k c, v2 = .slice none k c → c = 0) (hy : ∀ x ∈ ys, x.size ≤ 140737488351232) (hl2 : ys.length * 16 ≤ 140737488351232) (tabs : St8 W 0 ∧ K64 W 2) :
    Calls Tryz.prog 3 #[.int .i64 a0, v1, v2] W fun e w' => e = .returned (.bool true) ∧ Below W.heap.size W w' :=
  mustW a0 v1 v2 xs ys W (Tab.of tabs) hr hr2 (fun x h => by have := hx x h; omega) (fun x h => by have := hy x h; omega) (by omega) (by omega)
end Go.Proofs.YtofmkdagehehaaaGreatDoor.wm
