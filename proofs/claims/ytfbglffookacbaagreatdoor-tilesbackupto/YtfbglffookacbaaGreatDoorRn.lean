import Derived.Test.YtfbglffookacbaaGreatDoorRl
import Derived.Test.YtfbglffookacbaaGreatDoorRm
namespace Go.Proofs.YtfbglffookacbaaGreatDoor.rn
open Go.RowKit Go.PlainAid Go.Shelf
open Go.Proofs.YtfbglffookacbaaGreatDoor.ta Go.Proofs.YtfbglffookacbaaGreatDoor.tb Go.Proofs.YtfbglffookacbaaGreatDoor.tc Go.Proofs.YtfbglffookacbaaGreatDoor.tj Go.Proofs.YtfbglffookacbaaGreatDoor.cp Go.Proofs.YtfbglffookacbaaGreatDoor.wa Go.Proofs.YtfbglffookacbaaGreatDoor.a1 Go.Proofs.YtfbglffookacbaaGreatDoor.a2 Go.Proofs.YtfbglffookacbaaGreatDoor.a3 Go.Proofs.YtfbglffookacbaaGreatDoor.a4 Go.Proofs.YtfbglffookacbaaGreatDoor.a7 Go.Proofs.YtfbglffookacbaaGreatDoor.a8 Go.Proofs.YtfbglffookacbaaGreatDoor.r3 Go.Proofs.YtfbglffookacbaaGreatDoor.r8 Go.Proofs.YtfbglffookacbaaGreatDoor.rg Go.Proofs.YtfbglffookacbaaGreatDoor.rj Go.Proofs.YtfbglffookacbaaGreatDoor.rk Go.Proofs.YtfbglffookacbaaGreatDoor.rl Go.Proofs.YtfbglffookacbaaGreatDoor.rm
set_option linter.unusedVariables false
set_option maxRecDepth 4000

def i4 (a b c d : Int) : Obj := .cells #[.int .i64 a, .int .i64 b, .int .i64 c, .int .i64 d] 23 (0, 0)
-- the answer's cells, and the tile that is being read
structure Tw (w : World) (T : Nat) (a b c d : Int) (W : World) : Prop where
  bl : Below w.heap.size w W
  lo : w.heap.size < T
  res : W.heap[w.heap.size]? = some (i4 0 0 0 0)
  row : W.heap[T]? = some (i4 a b c d)
theorem Tw.later {w : World} {T : Nat} {a b c d : Int} {W W' : World} (t : Tw w T a b c d W) (h : Below W.heap.size W W') : Tw w T a b c d W' :=
  ⟨t.bl.trans (h.mono t.bl.size), t.lo, (h.block _ (Array.getElem?_eq_some_iff.1 t.res).1).trans t.res, (h.block _ (Array.getElem?_eq_some_iff.1 t.row).1).trans t.row⟩
theorem Tw.put {w : World} {T : Nat} {a b c d : Int} {W : World} (t : Tw w T a b c d W) (k : Nat) (x : Int) (a' b' c' d' : Int) (h : (#[.int .i64 a, .int .i64 b, .int .i64 c, .int .i64 d] : Array Value).setIfInBounds k (.int .i64 x) = #[.int .i64 a', .int .i64 b', .int .i64 c', .int .i64 d']) : Tw w T a' b' c' d' (W.setCell ⟨T, k, none⟩ (.int .i64 x)) := by
  refine ⟨t.bl.setCell (p := ⟨T, k, none⟩) (Nat.le_of_lt t.lo) _, t.lo, ?_, ?_⟩
  · rw [Below.heap_setCell _ _ _ _ (by have := t.lo; show w.heap.size ≠ T; omega)]
    exact t.res
  · have := heap_setCell_same W T k _ _ (.int .i64 x) t.row
    rw [h] at this
    exact this
theorem Tw.cells {w : World} {T : Nat} {a b c d : Int} {W : World} (t : Tw w T a b c d W) : W.cell? ⟨T, 0, none⟩ = some (.int .i64 a) ∧ W.cell? ⟨T, 1, none⟩ = some (.int .i64 b) ∧ W.cell? ⟨T, 2, none⟩ = some (.int .i64 c) ∧ W.cell? ⟨T, 3, none⟩ = some (.int .i64 d) ∧ W.frozen? ⟨T, 0, none⟩ = false ∧ W.frozen? ⟨T, 1, none⟩ = false ∧ W.frozen? ⟨T, 2, none⟩ = false ∧ W.frozen? ⟨T, 3, none⟩ = false := row4 t.row
theorem Tw.ends {w : World} {T : Nat} {a b c d : Int} {W : World} (t : Tw w T a b c d W) : W.cell? ⟨w.heap.size, 0, none⟩ = some (.int .i64 0) ∧ W.cell? ⟨w.heap.size, 1, none⟩ = some (.int .i64 0) ∧ W.cell? ⟨w.heap.size, 2, none⟩ = some (.int .i64 0) ∧ W.cell? ⟨w.heap.size, 3, none⟩ = some (.int .i64 0) ∧ W.frozen? ⟨w.heap.size, 0, none⟩ = false ∧ W.frozen? ⟨w.heap.size, 1, none⟩ = false ∧ W.frozen? ⟨w.heap.size, 2, none⟩ = false ∧ W.frozen? ⟨w.heap.size, 3, none⟩ = false := row4 t.res
theorem Tw.fin {w : World} {T : Nat} {a b c d : Int} {W : World} (t : Tw w T a b c d W) (x0 x1 x2 x3 : Value) : ∃ W9, Hid ((((W.setCell ⟨w.heap.size, 0, none⟩ x0).setCell ⟨w.heap.size, 1, none⟩ x1).setCell ⟨w.heap.size, 2, none⟩ x2).setCell ⟨w.heap.size, 3, none⟩ x3 = W9) ∧ Hid (Below w.heap.size w W9) ∧ W9.cell? ⟨w.heap.size, 0, none⟩ = some x0 ∧ W9.cell? ⟨w.heap.size, 1, none⟩ = some x1 ∧ W9.cell? ⟨w.heap.size, 2, none⟩ = some x2 ∧ W9.cell? ⟨w.heap.size, 3, none⟩ = some x3 := by
  obtain ⟨d0, d1, d2, d3, -⟩ := row4 (put4_row t.res x0 x1 x2 x3)
  exact ⟨_, rfl, put4_below t.bl _ (Nat.le_refl _) _ _ _ _, d0, d1, d2, d3⟩
def szV : Value → Nat
  | .string s => s.size
  | _ => 0
def noV : Value := .tuple #[.agg #[.int .i64 0, .int .i64 0, .int .i64 0, .int .i64 0], .int .i64 230]
def drV (p : ByteArray) : Value := if dBad (dRd p) then noV else prV (dRd p).h (dRd p).l (dRd p).i (dCt (dRd p)) p
theorem r_size (p : ByteArray) (n : Nat) (h : p.size ≤ n) (a : ByteArray) : (rdR p a).size ≤ n := by
  have := rdR_size p a
  omega
theorem stI_in (a b : Int) : I64 (stI a b) := wrap_in _
theorem st_eq (a b : Int) : wrap64 (wrap64 (1000 * a) + b) = stI a b := by
  unfold stI
  rw [IntKind.wrap_i64, IntKind.wrap_i64]
  unfold wrap64
  rfl
theorem ne_empty (s : ByteArray) (h : s.size ≠ 0) : (s.toList == []) = false ∧ s.toList.isEmpty = false := by
  have h1 : (s.toList == []) = false := by rw [toList_lit]; exact decide_eq_false (fun e => h (by rw [e]; rfl))
  refine ⟨h1, ?_⟩
  cases hs : s.toList with
  | nil => rw [hs] at h1; cases h1
  | cons a l => rfl
theorem yes_empty (s : ByteArray) (h : s.size = 0) : (s.toList == []) = true ∧ s.toList.isEmpty = true := by
  have e : s = ⟨#[]⟩ := by apply ByteArray.ext; exact Array.eq_empty_of_size_eq_zero h
  subst e
  exact ⟨by decide +kernel, by decide +kernel⟩
-- THE DOCUMENT'S Parse
set_option maxHeartbeats 6400000 in
theorem parseD (path : ByteArray) (hs : path.size ≤ 2097152) (w : World) (hP : PowT w) :
    Calls Tryz.prog 9 #[.string path] w fun e w' => e = .returned (drV path) ∧ Below w.heap.size w w' := by
  obtain ⟨W1, HW1⟩ : ∃ W1, Hid ((w.alloc (.cells #[.int .i64 0, .int .i64 0, .int .i64 0, .int .i64 0] 23)).alloc (.cells #[.int .i64 0, .int .i64 0, .int .i64 0, .int .i64 0] 23) = W1) := ⟨_, rfl⟩
  have ez : (w.alloc (.cells #[.int .i64 0, .int .i64 0, .int .i64 0, .int .i64 0] 23)).heap.size = w.heap.size + 1 := by simp
  have TW1 : Hid (Tw w (w.heap.size + 1) 0 0 0 0 W1) := by
    show Tw _ _ _ _ _ _ _
    rw [← HW1.out]
    refine ⟨((Below.refl _ _).alloc (Nat.le_refl _) _).alloc (by rw [ez]; omega) _, by omega, ?_, ?_⟩
    · rw [Below.heap_alloc _ _ _ (by rw [ez]; omega)]
      exact heap_alloc_new _ _
    · rw [← ez]
      exact heap_alloc_new _ _
  obtain ⟨T, HT⟩ : ∃ T, Hid (w.heap.size + 1 = T) := ⟨_, rfl⟩
  rw [HT.out] at TW1
  have RD : Hid (∀ (s a : ByteArray), s.size ≤ 2097152 → a.size ≤ 100 → ∀ W : World, Calls _ _ _ _ _) := fun s a h1 h2 W => readD s a h1 h2 W
  have PP : Hid (∀ W, Below w.heap.size w W → PowT W) := fun W h => PowT.down hP h
  obtain ⟨r1, HR1⟩ : ∃ r, Hid (rdR path tsB = r) := ⟨_, rfl⟩
  have z1 : r1.size ≤ 2097152 := by rw [← HR1.out]; exact r_size _ _ hs _
  obtain ⟨r2, HR2⟩ : ∃ r, Hid (rdR r1 slB = r) := ⟨_, rfl⟩
  have z2 : r2.size ≤ 2097152 := by rw [← HR2.out]; exact r_size _ _ z1 _
  obtain ⟨hh, HH⟩ : ∃ h, Hid (rdV path tsB = h) := ⟨_, rfl⟩
  obtain ⟨ll, HL⟩ : ∃ h, Hid (rdV r1 slB = h) := ⟨_, rfl⟩
  have zh : -1 ≤ hh ∧ hh < 1000000000000000000 := by rw [← HH.out]; exact rdV_in _ _
  have zl : -1 ≤ ll ∧ ll < 1000000000000000000 := by rw [← HL.out]; exact rdV_in _ _
  obtain ⟨F, HF⟩ : ∃ F, Hid (lpF path.size 0 r2 = F) := ⟨_, rfl⟩
  have HK : Hid (∃ k, r2.size ≤ k ∧ lpF k 0 r2 = F) := ⟨path.size, by
    have a1 := rdR_size path tsB
    have a2 := rdR_size r1 slB
    rw [HR1.out] at a1
    rw [HR2.out] at a2
    omega, HF.out⟩
  have HX : Hid ((dRd path).h = hh ∧ (dRd path).l = ll ∧ (dRd path).i = stI F.1 (rdV F.2 slB) ∧ (dRd path).last = rdV F.2 slB ∧ (dRd path).e = rdR F.2 slB) := by
    refine ⟨?_, ?_, ?_, ?_, ?_⟩
    · rw [dRd_h, HH.out]
    · rw [dRd_l, HR1.out, HL.out]
    · rw [dRd_i, HR1.out, HR2.out, HF.out]
    · rw [dRd_last, HR1.out, HR2.out, HF.out]
    · rw [dRd_e, HR1.out, HR2.out, HF.out]
  clear hP ez
  have C1 : Hid (Calls _ _ _ _ _) := RD.out path tsB hs (by decide) W1
  rw [HH.out, HR1.out] at C1
  go_enter Tryz.func9, Tryz.ntmps9
  go_wp2_with fail
  rw [HW1.out, HT.out]
  refine C1.out.mono ?_
  rintro e w2 ⟨rfl, hb⟩
  have T2 : Hid (Tw w T 0 0 0 0 w2) := TW1.out.later hb
  clear hb C1
  obtain ⟨W3, HW3⟩ : ∃ W, Hid (w2.setCell ⟨T, 0, none⟩ (.int .i64 hh) = W) := ⟨_, rfl⟩
  have T3 : Hid (Tw w T hh 0 0 0 W3) := by show Tw _ _ _ _ _ _ _; rw [← HW3.out]; exact T2.out.put 0 hh _ _ _ _ rfl
  have C2 : Hid (Calls _ _ _ _ _) := RD.out r1 slB z1 (by decide) W3
  rw [HL.out, HR2.out] at C2
  obtain ⟨k0, k1, k2, k3, f0, f1, f2, f3⟩ := T2.out.cells
  go_upto_region 4 with fail
  rw [HW3.out]
  clear k0 k1 k2 k3 f0 f1 f2 f3
  go_wp2_with fail
  refine C2.out.mono ?_
  rintro e w4 ⟨rfl, hb⟩
  have T4 : Hid (Tw w T hh 0 0 0 w4) := T3.out.later hb
  clear hb C2
  obtain ⟨W5, HW5⟩ : ∃ W, Hid (w4.setCell ⟨T, 1, none⟩ (.int .i64 ll) = W) := ⟨_, rfl⟩
  have T5 : Hid (Tw w T hh ll 0 0 W5) := by show Tw _ _ _ _ _ _ _; rw [← HW5.out]; exact T4.out.put 1 ll _ _ _ _ rfl
  have C3 : Hid (Calls _ _ _ _ _) := RD.out r2 sxB z2 (by decide) W5
  obtain ⟨k0, k1, k2, k3, f0, f1, f2, f3⟩ := T4.out.cells
  go_upto_region 5 with fail
  rw [HW5.out]
  clear k0 k1 k2 k3 f0 f1 f2 f3
  go_wp2_with fail
  refine C3.out.mono ?_
  rintro e w6 ⟨rfl, hb⟩
  have T6 : Hid (Tw w T hh ll 0 0 w6) := T5.out.later hb
  clear hb C3 HW1 HW3 HW5 TW1 T2 T3 T4 T5
  go_upto_block 1 with fail
  go_loopw [5, 6, 7] (fun r n t wr => ∃ (s : ByteArray) (k : Nat) (ix : Int), r = .string s ∧ n = .int .i64 (rdV s sxB) ∧ t = .string (rdR s sxB) ∧ Hid (s.size ≤ 2097152) ∧ Hid (s.size ≤ k) ∧ I64 ix ∧ Hid (lpF k ix s = F) ∧ Hid (Tw w T hh ll ix 0 wr)) (fun r _ _ _ => szV r)
  case atStart =>
    obtain ⟨k, hk1, hk2⟩ := HK.out
    exact ⟨r2, k, 0, rfl, rfl, rfl, z2, hk1, ⟨by omega, by omega⟩, hk2, T6.out⟩
  case round =>
    obtain ⟨s, k, ix, rfl, rfl, rfl, hz, hk, hix, hf, ht⟩ := hrel
    obtain ⟨x0, x1⟩ := hix
    obtain ⟨n, HN⟩ : ∃ n, Hid (rdV s sxB = n) := ⟨_, rfl⟩
    have hn : -1 ≤ n ∧ n < 1000000000000000000 := by rw [← HN.out]; exact rdV_in _ _
    obtain ⟨n0, n1⟩ := hn
    obtain ⟨r', HR⟩ : ∃ r, Hid (rdR s sxB = r) := ⟨_, rfl⟩
    rw [HN.out, HR.out]
    obtain ⟨k0, k1, k2, k3, f0, f1, f2, f3⟩ := ht.out.cells
    by_cases hc : 0 ≤ n ∧ ix < 4503599627370496
    · obtain ⟨c1, c2⟩ := hc
      have hst : Hid (stI ix n = IntKind.i64.wrap (IntKind.i64.wrap (1000 * ix) + n)) := rfl
      obtain ⟨y, HY⟩ : ∃ y, Hid (stI ix n = y) := ⟨_, rfl⟩
      obtain ⟨k', hk', hl'⟩ := lp_yes k ix s hk.out (by rw [HN.out]; exact ⟨c1, c2⟩)
      rw [HN.out, HR.out] at hl'
      rw [HR.out] at hk'
      have HL' : Hid (r'.size ≤ k' ∧ lpF k' y r' = F) := ⟨hk', by rw [← HY.out, ← hl']; exact hf.out⟩
      have hzr : Hid (r'.size < s.size) := by
        have a1 := rdR_size s sxB
        have a2 := rdV_some s sxB (by rw [HN.out]; exact c1)
        have a3 : sxB.size = 2 := rfl
        rw [HR.out] at a1
        show r'.size < s.size
        omega
      obtain ⟨W7, HW7⟩ : ∃ W, Hid (wr.setCell ⟨T, 2, none⟩ (.int .i64 y) = W) := ⟨_, rfl⟩
      have T7 : Hid (Tw w T hh ll y 0 W7) := by show Tw _ _ _ _ _ _ _; rw [← HW7.out]; exact ht.out.put 2 y _ _ _ _ rfl
      have C4 : Hid (Calls _ _ _ _ _) := RD.out r' sxB (by have := hzr.out; have := hz.out; omega) (by decide) W7
      have hyI : Hid (I64 y) := by show I64 y; rw [← HY.out]; exact stI_in _ _
      clear hk' hl'
      go_wp2_with fail
      rw [show wr.setCell ⟨T, 2, none⟩ (.int .i64 (wrap64 (wrap64 (1000 * ix) + n))) = W7 by rw [← HW7.out, ← HY.out, st_eq]]
      refine C4.out.mono ?_
      rintro e w8 ⟨rfl, hb⟩
      have T8 : Hid (Tw w T hh ll y 0 w8) := T7.out.later hb
      clear hb
      go_wp2
      go_roundw
      case rel => exact ⟨r', k', y, rfl, rfl, rfl, (by have := hzr.out; have := hz.out; show r'.size ≤ 2097152; omega), HL'.out.1, hyI.out, HL'.out.2, T8.out⟩
      case measure => exact hzr.out
    · have hF : F = (ix, s) := by
        have := hf.out
        rw [lp_no k ix s (by rw [HN.out]; exact hc)] at this
        exact this.symm
      subst hF
      clear hk hf HF HK
      obtain ⟨la, HLA⟩ : ∃ x, Hid (rdV s slB = x) := ⟨_, rfl⟩
      have hla : -1 ≤ la ∧ la < 1000000000000000000 := by rw [← HLA.out]; exact rdV_in _ _
      obtain ⟨la0, la1⟩ := hla
      obtain ⟨en, HEN⟩ : ∃ x, Hid (rdR s slB = x) := ⟨_, rfl⟩
      have zen : Hid (en.size ≤ 2097152) := by show _ ≤ _; rw [← HEN.out]; exact r_size _ _ hz.out _
      obtain ⟨q, HQ⟩ : ∃ x, Hid (stI ix la = x) := ⟨_, rfl⟩
      have zq : Hid (I64 q) := by show I64 q; rw [← HQ.out]; exact stI_in _ _
      have HD : Hid ((dRd path).h = hh ∧ (dRd path).l = ll ∧ (dRd path).i = q ∧ (dRd path).last = la ∧ (dRd path).e = en) := by
        obtain ⟨y1, y2, y3, y4, y5⟩ := HX.out
        have y4' : (dRd path).last = rdV s slB := y4
        have y5' : (dRd path).e = rdR s slB := y5
        have y3' : (dRd path).i = stI ix (rdV s slB) := y3
        refine ⟨y1, y2, ?_, ?_, ?_⟩
        · rw [y3', HLA.out, HQ.out]
        · rw [y4', HLA.out]
        · rw [y5', HEN.out]
      have C5 : Hid (Calls _ _ _ _ _) := RD.out s slB hz.out (by decide) wr
      rw [HLA.out, HEN.out] at C5
      clear HX
      by_cases c1 : 0 ≤ n
      · have c2 : ¬ ix < 4503599627370496 := fun e => hc ⟨c1, e⟩
        clear hc
        go_wp2_with fail
        refine C5.out.mono ?_
        rintro e w9 ⟨rfl, hb⟩
        have T9 : Hid (Tw w T hh ll ix 0 w9) := ht.out.later hb
        clear hb k0 k1 k2 k3 f0 f1 f2 f3 C5
        obtain ⟨W10, HW10⟩ : ∃ W, Hid (w9.setCell ⟨T, 2, none⟩ (.int .i64 q) = W) := ⟨_, rfl⟩
        have T10 : Hid (Tw w T hh ll q 0 W10) := by show Tw _ _ _ _ _ _ _; rw [← HW10.out]; exact T9.out.put 2 q _ _ _ _ rfl
        obtain ⟨k0, k1, k2, k3, f0, f1, f2, f3⟩ := T9.out.cells
        go_upto_region 12 with fail
        rw [show w9.setCell ⟨T, 2, none⟩ (.int .i64 (wrap64 (wrap64 (1000 * ix) + la))) = W10 by rw [← HW10.out, ← HQ.out, st_eq]]
        clear k0 k1 k2 k3 f0 f1 f2 f3
        obtain ⟨k0, k1, k2, k3, f0, f1, f2, f3⟩ := T10.out.cells
        by_cases b1 : hh < 1
        · have HU : Hid (drV path = noV) := if_pos (by obtain ⟨y1, y2, y3, y4, y5⟩ := HD.out; show dBad _; unfold dBad; rw [y1, y4]; omega)
          obtain ⟨m0, m1, m2, m3, n0, n1, n2, n3⟩ := T10.out.ends
          go_wp2
          obtain ⟨W9, HW9, B9, d0, d1, d2, d3⟩ := T10.out.fin (.int .i64 0) (.int .i64 0) (.int .i64 0) (.int .i64 0)
          rw [HW9.out]
          refine bodyPost_ret (by simp [results, Tryz.results9, go_sem, d0, d1, d2, d3]; try rfl) rfl ?_
          exact ⟨by rw [HU.out]; rfl, B9.out⟩
        by_cases b2 : 8 < hh
        · have HU : Hid (drV path = noV) := if_pos (by obtain ⟨y1, y2, y3, y4, y5⟩ := HD.out; show dBad _; unfold dBad; rw [y1, y4]; omega)
          obtain ⟨m0, m1, m2, m3, n0, n1, n2, n3⟩ := T10.out.ends
          go_wp2
          obtain ⟨W9, HW9, B9, d0, d1, d2, d3⟩ := T10.out.fin (.int .i64 0) (.int .i64 0) (.int .i64 0) (.int .i64 0)
          rw [HW9.out]
          refine bodyPost_ret (by simp [results, Tryz.results9, go_sem, d0, d1, d2, d3]; try rfl) rfl ?_
          exact ⟨by rw [HU.out]; rfl, B9.out⟩
        by_cases b3 : la < 0
        · have HU : Hid (drV path = noV) := if_pos (by obtain ⟨y1, y2, y3, y4, y5⟩ := HD.out; show dBad _; unfold dBad; rw [y1, y4]; omega)
          obtain ⟨m0, m1, m2, m3, n0, n1, n2, n3⟩ := T10.out.ends
          go_wp2
          obtain ⟨W9, HW9, B9, d0, d1, d2, d3⟩ := T10.out.fin (.int .i64 0) (.int .i64 0) (.int .i64 0) (.int .i64 0)
          rw [HW9.out]
          refine bodyPost_ret (by simp [results, Tryz.results9, go_sem, d0, d1, d2, d3]; try rfl) rfl ?_
          exact ⟨by rw [HU.out]; rfl, B9.out⟩
        have HNB : Hid (drV path = prV hh ll q (dCt (dRd path)) path) := by
          obtain ⟨y1, y2, y3, y4, y5⟩ := HD.out
          show (if _ then _ else _) = _
          rw [if_neg (by unfold dBad; rw [y1, y4]; omega), y1, y2, y3]
        obtain ⟨g0, g1⟩ := pow8 hh (by omega) (by omega)
        obtain ⟨kk, hkk⟩ : ∃ k : Nat, hh = (k : Int) := ⟨hh.toNat, by omega⟩
        have hkn : hh.toNat = kk := by omega
        have hk8 : kk ≤ 8 := by omega
        have hu : IntKind.u64.wrap hh = (kk : Int) := by rw [IntKind.wrap_u64]; omega
        rw [hkn] at g0 g1
        obtain ⟨fu, HFU⟩ : ∃ F, Hid ((2 : Int) ^ kk = F) := ⟨_, rfl⟩
        rw [HFU.out] at g0 g1
        have hp : IntKind.i64.wrap ((2 : Int) ^ kk) = fu := by rw [HFU.out, IntKind.wrap_i64]; omega
        have hhp : Hid ((2 : Int) ^ hh.toNat = fu) := by show _ = _; rw [hkn]; exact HFU.out
        clear hkn hkk
        obtain ⟨W11, HW11⟩ : ∃ W, Hid (W10.setCell ⟨T, 3, none⟩ (.int .i64 fu) = W) := ⟨_, rfl⟩
        have T11 : Hid (Tw w T hh ll q fu W11) := by show Tw _ _ _ _ _ _ _; rw [← HW11.out]; exact T10.out.put 3 fu _ _ _ _ rfl
        by_cases e0 : en.size = 0
        · have he : en.toList.isEmpty = true := (yes_empty en e0).2
          have HDR : Hid (drV path = prV hh ll q fu path) := by
            obtain ⟨y1, y2, y3, y4, y5⟩ := HD.out
            show _ = _
            rw [HNB.out]
            unfold dCt
            rw [y5, if_pos e0, y1, hhp.out]
          have zcc : i64 fu := ⟨by omega, by omega⟩
          go_upto_region 17 with fail
          rw [HW11.out]
          clear k0 k1 k2 k3 f0 f1 f2 f3
          have C6 : Hid (Calls _ _ _ _ _) := pathD hh ll q fu ⟨by omega, by omega⟩ ⟨by omega, by omega⟩ zq.out zcc W11 (PP.out _ T11.out.bl)
          obtain ⟨k0, k1, k2, k3, f0, f1, f2, f3⟩ := T11.out.cells
          go_wp2_with fail
          refine C6.out.mono ?_
          rintro e w14 ⟨rfl, hb⟩
          have T14 : Hid (Tw w T hh ll q fu w14) := T11.out.later hb
          clear hb k0 k1 k2 k3 f0 f1 f2 f3 C6
          obtain ⟨k0, k1, k2, k3, f0, f1, f2, f3⟩ := T14.out.cells
          obtain ⟨m0, m1, m2, m3, n0, n1, n2, n3⟩ := T14.out.ends
          obtain ⟨sp, HSP⟩ : ∃ s, Hid (pathS hh ll q fu = s) := ⟨_, rfl⟩
          by_cases g : Goes hh ll q fu
          · have HV : Hid (pathV hh ll q fu = .tuple #[.string sp, .int .i64 0]) := by show _ = _; rw [← HSP.out]; exact if_pos g
            rw [HV.out]
            by_cases hp : sp = path
            · have HU : Hid (drV path = .tuple #[.agg #[.int .i64 hh, .int .i64 ll, .int .i64 q, .int .i64 fu], .int .i64 0]) := HDR.out.trans (if_pos ⟨g, HSP.out.trans hp⟩)
              clear g
              subst hp
              go_wp2
              obtain ⟨W9, HW9, B9, d0, d1, d2, d3⟩ := T14.out.fin (.int .i64 hh) (.int .i64 ll) (.int .i64 q) (.int .i64 fu)
              rw [HW9.out]
              refine bodyPost_ret (by simp [results, Tryz.results9, go_sem, d0, d1, d2, d3]; try rfl) rfl ?_
              exact ⟨by rw [HU.out], B9.out⟩
            · have HU : Hid (drV path = noV) := HDR.out.trans (if_neg fun e => hp (HSP.out.symm.trans e.2))
              have ht' : (sp.toList == path.toList) = false := data_ne hp
              clear g hp
              go_wp2
              obtain ⟨W9, HW9, B9, d0, d1, d2, d3⟩ := T14.out.fin (.int .i64 0) (.int .i64 0) (.int .i64 0) (.int .i64 0)
              rw [HW9.out]
              refine bodyPost_ret (by simp [results, Tryz.results9, go_sem, d0, d1, d2, d3]; try rfl) rfl ?_
              exact ⟨by rw [HU.out]; rfl, B9.out⟩
          · have HV : Hid (pathV hh ll q fu = .tuple #[.string ⟨#[]⟩, .int .i64 230]) := if_neg g
            have HU : Hid (drV path = noV) := HDR.out.trans (if_neg fun e => g e.1)
            rw [HV.out]
            clear g
            go_wp2
            obtain ⟨W9, HW9, B9, d0, d1, d2, d3⟩ := T14.out.fin (.int .i64 0) (.int .i64 0) (.int .i64 0) (.int .i64 0)
            rw [HW9.out]
            refine bodyPost_ret (by simp [results, Tryz.results9, go_sem, d0, d1, d2, d3]; try rfl) rfl ?_
            exact ⟨by rw [HU.out]; rfl, B9.out⟩
        · have he : en.toList.isEmpty = false := (ne_empty en e0).2
          obtain ⟨cc, HCC⟩ : ∃ x, Hid (rdV en ptB = x) := ⟨_, rfl⟩
          have zc : -1 ≤ cc ∧ cc < 1000000000000000000 := by rw [← HCC.out]; exact rdV_in _ _
          have HDR : Hid (drV path = prV hh ll q cc path) := by
            obtain ⟨y1, y2, y3, y4, y5⟩ := HD.out
            show _ = _
            rw [HNB.out]
            unfold dCt
            rw [y5, if_neg e0, HCC.out]
          have zcc : i64 cc := ⟨by omega, by omega⟩
          have C7 : Hid (Calls _ _ _ _ _) := RD.out en ptB zen.out (by decide) W11
          rw [HCC.out] at C7
          go_upto_region 16 with fail
          rw [HW11.out]
          clear k0 k1 k2 k3 f0 f1 f2 f3
          go_wp2_with fail
          refine C7.out.mono ?_
          rintro e w12 ⟨rfl, hb⟩
          have T12 : Hid (Tw w T hh ll q fu w12) := T11.out.later hb
          clear hb C7
          obtain ⟨k0, k1, k2, k3, f0, f1, f2, f3⟩ := T12.out.cells
          obtain ⟨W13, HW13⟩ : ∃ W, Hid (w12.setCell ⟨T, 3, none⟩ (.int .i64 cc) = W) := ⟨_, rfl⟩
          have T13 : Hid (Tw w T hh ll q cc W13) := by show Tw _ _ _ _ _ _ _; rw [← HW13.out]; exact T12.out.put 3 cc _ _ _ _ rfl
          go_upto_region 17 with fail
          rw [HW13.out]
          clear k0 k1 k2 k3 f0 f1 f2 f3
          have C6 : Hid (Calls _ _ _ _ _) := pathD hh ll q cc ⟨by omega, by omega⟩ ⟨by omega, by omega⟩ zq.out zcc W13 (PP.out _ T13.out.bl)
          obtain ⟨k0, k1, k2, k3, f0, f1, f2, f3⟩ := T13.out.cells
          go_wp2_with fail
          refine C6.out.mono ?_
          rintro e w14 ⟨rfl, hb⟩
          have T14 : Hid (Tw w T hh ll q cc w14) := T13.out.later hb
          clear hb k0 k1 k2 k3 f0 f1 f2 f3 C6
          obtain ⟨k0, k1, k2, k3, f0, f1, f2, f3⟩ := T14.out.cells
          obtain ⟨m0, m1, m2, m3, n0, n1, n2, n3⟩ := T14.out.ends
          obtain ⟨sp, HSP⟩ : ∃ s, Hid (pathS hh ll q cc = s) := ⟨_, rfl⟩
          by_cases g : Goes hh ll q cc
          · have HV : Hid (pathV hh ll q cc = .tuple #[.string sp, .int .i64 0]) := by show _ = _; rw [← HSP.out]; exact if_pos g
            rw [HV.out]
            by_cases hp : sp = path
            · have HU : Hid (drV path = .tuple #[.agg #[.int .i64 hh, .int .i64 ll, .int .i64 q, .int .i64 cc], .int .i64 0]) := HDR.out.trans (if_pos ⟨g, HSP.out.trans hp⟩)
              clear g
              subst hp
              go_wp2
              obtain ⟨W9, HW9, B9, d0, d1, d2, d3⟩ := T14.out.fin (.int .i64 hh) (.int .i64 ll) (.int .i64 q) (.int .i64 cc)
              rw [HW9.out]
              refine bodyPost_ret (by simp [results, Tryz.results9, go_sem, d0, d1, d2, d3]; try rfl) rfl ?_
              exact ⟨by rw [HU.out], B9.out⟩
            · have HU : Hid (drV path = noV) := HDR.out.trans (if_neg fun e => hp (HSP.out.symm.trans e.2))
              have ht' : (sp.toList == path.toList) = false := data_ne hp
              clear g hp
              go_wp2
              obtain ⟨W9, HW9, B9, d0, d1, d2, d3⟩ := T14.out.fin (.int .i64 0) (.int .i64 0) (.int .i64 0) (.int .i64 0)
              rw [HW9.out]
              refine bodyPost_ret (by simp [results, Tryz.results9, go_sem, d0, d1, d2, d3]; try rfl) rfl ?_
              exact ⟨by rw [HU.out]; rfl, B9.out⟩
          · have HV : Hid (pathV hh ll q cc = .tuple #[.string ⟨#[]⟩, .int .i64 230]) := if_neg g
            have HU : Hid (drV path = noV) := HDR.out.trans (if_neg fun e => g e.1)
            rw [HV.out]
            clear g
            go_wp2
            obtain ⟨W9, HW9, B9, d0, d1, d2, d3⟩ := T14.out.fin (.int .i64 0) (.int .i64 0) (.int .i64 0) (.int .i64 0)
            rw [HW9.out]
            refine bodyPost_ret (by simp [results, Tryz.results9, go_sem, d0, d1, d2, d3]; try rfl) rfl ?_
            exact ⟨by rw [HU.out]; rfl, B9.out⟩
      · clear hc
        go_wp2_with fail
        refine C5.out.mono ?_
        rintro e w9 ⟨rfl, hb⟩
        have T9 : Hid (Tw w T hh ll ix 0 w9) := ht.out.later hb
        clear hb k0 k1 k2 k3 f0 f1 f2 f3 C5
        obtain ⟨W10, HW10⟩ : ∃ W, Hid (w9.setCell ⟨T, 2, none⟩ (.int .i64 q) = W) := ⟨_, rfl⟩
        have T10 : Hid (Tw w T hh ll q 0 W10) := by show Tw _ _ _ _ _ _ _; rw [← HW10.out]; exact T9.out.put 2 q _ _ _ _ rfl
        obtain ⟨k0, k1, k2, k3, f0, f1, f2, f3⟩ := T9.out.cells
        go_upto_region 12 with fail
        rw [show w9.setCell ⟨T, 2, none⟩ (.int .i64 (wrap64 (wrap64 (1000 * ix) + la))) = W10 by rw [← HW10.out, ← HQ.out, st_eq]]
        clear k0 k1 k2 k3 f0 f1 f2 f3
        obtain ⟨k0, k1, k2, k3, f0, f1, f2, f3⟩ := T10.out.cells
        by_cases b1 : hh < 1
        · have HU : Hid (drV path = noV) := if_pos (by obtain ⟨y1, y2, y3, y4, y5⟩ := HD.out; show dBad _; unfold dBad; rw [y1, y4]; omega)
          obtain ⟨m0, m1, m2, m3, n0, n1, n2, n3⟩ := T10.out.ends
          go_wp2
          obtain ⟨W9, HW9, B9, d0, d1, d2, d3⟩ := T10.out.fin (.int .i64 0) (.int .i64 0) (.int .i64 0) (.int .i64 0)
          rw [HW9.out]
          refine bodyPost_ret (by simp [results, Tryz.results9, go_sem, d0, d1, d2, d3]; try rfl) rfl ?_
          exact ⟨by rw [HU.out]; rfl, B9.out⟩
        by_cases b2 : 8 < hh
        · have HU : Hid (drV path = noV) := if_pos (by obtain ⟨y1, y2, y3, y4, y5⟩ := HD.out; show dBad _; unfold dBad; rw [y1, y4]; omega)
          obtain ⟨m0, m1, m2, m3, n0, n1, n2, n3⟩ := T10.out.ends
          go_wp2
          obtain ⟨W9, HW9, B9, d0, d1, d2, d3⟩ := T10.out.fin (.int .i64 0) (.int .i64 0) (.int .i64 0) (.int .i64 0)
          rw [HW9.out]
          refine bodyPost_ret (by simp [results, Tryz.results9, go_sem, d0, d1, d2, d3]; try rfl) rfl ?_
          exact ⟨by rw [HU.out]; rfl, B9.out⟩
        by_cases b3 : la < 0
        · have HU : Hid (drV path = noV) := if_pos (by obtain ⟨y1, y2, y3, y4, y5⟩ := HD.out; show dBad _; unfold dBad; rw [y1, y4]; omega)
          obtain ⟨m0, m1, m2, m3, n0, n1, n2, n3⟩ := T10.out.ends
          go_wp2
          obtain ⟨W9, HW9, B9, d0, d1, d2, d3⟩ := T10.out.fin (.int .i64 0) (.int .i64 0) (.int .i64 0) (.int .i64 0)
          rw [HW9.out]
          refine bodyPost_ret (by simp [results, Tryz.results9, go_sem, d0, d1, d2, d3]; try rfl) rfl ?_
          exact ⟨by rw [HU.out]; rfl, B9.out⟩
        have HNB : Hid (drV path = prV hh ll q (dCt (dRd path)) path) := by
          obtain ⟨y1, y2, y3, y4, y5⟩ := HD.out
          show (if _ then _ else _) = _
          rw [if_neg (by unfold dBad; rw [y1, y4]; omega), y1, y2, y3]
        obtain ⟨g0, g1⟩ := pow8 hh (by omega) (by omega)
        obtain ⟨kk, hkk⟩ : ∃ k : Nat, hh = (k : Int) := ⟨hh.toNat, by omega⟩
        have hkn : hh.toNat = kk := by omega
        have hk8 : kk ≤ 8 := by omega
        have hu : IntKind.u64.wrap hh = (kk : Int) := by rw [IntKind.wrap_u64]; omega
        rw [hkn] at g0 g1
        obtain ⟨fu, HFU⟩ : ∃ F, Hid ((2 : Int) ^ kk = F) := ⟨_, rfl⟩
        rw [HFU.out] at g0 g1
        have hp : IntKind.i64.wrap ((2 : Int) ^ kk) = fu := by rw [HFU.out, IntKind.wrap_i64]; omega
        have hhp : Hid ((2 : Int) ^ hh.toNat = fu) := by show _ = _; rw [hkn]; exact HFU.out
        clear hkn hkk
        obtain ⟨W11, HW11⟩ : ∃ W, Hid (W10.setCell ⟨T, 3, none⟩ (.int .i64 fu) = W) := ⟨_, rfl⟩
        have T11 : Hid (Tw w T hh ll q fu W11) := by show Tw _ _ _ _ _ _ _; rw [← HW11.out]; exact T10.out.put 3 fu _ _ _ _ rfl
        by_cases e0 : en.size = 0
        · have he : en.toList.isEmpty = true := (yes_empty en e0).2
          have HDR : Hid (drV path = prV hh ll q fu path) := by
            obtain ⟨y1, y2, y3, y4, y5⟩ := HD.out
            show _ = _
            rw [HNB.out]
            unfold dCt
            rw [y5, if_pos e0, y1, hhp.out]
          have zcc : i64 fu := ⟨by omega, by omega⟩
          go_upto_region 17 with fail
          rw [HW11.out]
          clear k0 k1 k2 k3 f0 f1 f2 f3
          have C6 : Hid (Calls _ _ _ _ _) := pathD hh ll q fu ⟨by omega, by omega⟩ ⟨by omega, by omega⟩ zq.out zcc W11 (PP.out _ T11.out.bl)
          obtain ⟨k0, k1, k2, k3, f0, f1, f2, f3⟩ := T11.out.cells
          go_wp2_with fail
          refine C6.out.mono ?_
          rintro e w14 ⟨rfl, hb⟩
          have T14 : Hid (Tw w T hh ll q fu w14) := T11.out.later hb
          clear hb k0 k1 k2 k3 f0 f1 f2 f3 C6
          obtain ⟨k0, k1, k2, k3, f0, f1, f2, f3⟩ := T14.out.cells
          obtain ⟨m0, m1, m2, m3, n0, n1, n2, n3⟩ := T14.out.ends
          obtain ⟨sp, HSP⟩ : ∃ s, Hid (pathS hh ll q fu = s) := ⟨_, rfl⟩
          by_cases g : Goes hh ll q fu
          · have HV : Hid (pathV hh ll q fu = .tuple #[.string sp, .int .i64 0]) := by show _ = _; rw [← HSP.out]; exact if_pos g
            rw [HV.out]
            by_cases hp : sp = path
            · have HU : Hid (drV path = .tuple #[.agg #[.int .i64 hh, .int .i64 ll, .int .i64 q, .int .i64 fu], .int .i64 0]) := HDR.out.trans (if_pos ⟨g, HSP.out.trans hp⟩)
              clear g
              subst hp
              go_wp2
              obtain ⟨W9, HW9, B9, d0, d1, d2, d3⟩ := T14.out.fin (.int .i64 hh) (.int .i64 ll) (.int .i64 q) (.int .i64 fu)
              rw [HW9.out]
              refine bodyPost_ret (by simp [results, Tryz.results9, go_sem, d0, d1, d2, d3]; try rfl) rfl ?_
              exact ⟨by rw [HU.out], B9.out⟩
            · have HU : Hid (drV path = noV) := HDR.out.trans (if_neg fun e => hp (HSP.out.symm.trans e.2))
              have ht' : (sp.toList == path.toList) = false := data_ne hp
              clear g hp
              go_wp2
              obtain ⟨W9, HW9, B9, d0, d1, d2, d3⟩ := T14.out.fin (.int .i64 0) (.int .i64 0) (.int .i64 0) (.int .i64 0)
              rw [HW9.out]
              refine bodyPost_ret (by simp [results, Tryz.results9, go_sem, d0, d1, d2, d3]; try rfl) rfl ?_
              exact ⟨by rw [HU.out]; rfl, B9.out⟩
          · have HV : Hid (pathV hh ll q fu = .tuple #[.string ⟨#[]⟩, .int .i64 230]) := if_neg g
            have HU : Hid (drV path = noV) := HDR.out.trans (if_neg fun e => g e.1)
            rw [HV.out]
            clear g
            go_wp2
            obtain ⟨W9, HW9, B9, d0, d1, d2, d3⟩ := T14.out.fin (.int .i64 0) (.int .i64 0) (.int .i64 0) (.int .i64 0)
            rw [HW9.out]
            refine bodyPost_ret (by simp [results, Tryz.results9, go_sem, d0, d1, d2, d3]; try rfl) rfl ?_
            exact ⟨by rw [HU.out]; rfl, B9.out⟩
        · have he : en.toList.isEmpty = false := (ne_empty en e0).2
          obtain ⟨cc, HCC⟩ : ∃ x, Hid (rdV en ptB = x) := ⟨_, rfl⟩
          have zc : -1 ≤ cc ∧ cc < 1000000000000000000 := by rw [← HCC.out]; exact rdV_in _ _
          have HDR : Hid (drV path = prV hh ll q cc path) := by
            obtain ⟨y1, y2, y3, y4, y5⟩ := HD.out
            show _ = _
            rw [HNB.out]
            unfold dCt
            rw [y5, if_neg e0, HCC.out]
          have zcc : i64 cc := ⟨by omega, by omega⟩
          have C7 : Hid (Calls _ _ _ _ _) := RD.out en ptB zen.out (by decide) W11
          rw [HCC.out] at C7
          go_upto_region 16 with fail
          rw [HW11.out]
          clear k0 k1 k2 k3 f0 f1 f2 f3
          go_wp2_with fail
          refine C7.out.mono ?_
          rintro e w12 ⟨rfl, hb⟩
          have T12 : Hid (Tw w T hh ll q fu w12) := T11.out.later hb
          clear hb C7
          obtain ⟨k0, k1, k2, k3, f0, f1, f2, f3⟩ := T12.out.cells
          obtain ⟨W13, HW13⟩ : ∃ W, Hid (w12.setCell ⟨T, 3, none⟩ (.int .i64 cc) = W) := ⟨_, rfl⟩
          have T13 : Hid (Tw w T hh ll q cc W13) := by show Tw _ _ _ _ _ _ _; rw [← HW13.out]; exact T12.out.put 3 cc _ _ _ _ rfl
          go_upto_region 17 with fail
          rw [HW13.out]
          clear k0 k1 k2 k3 f0 f1 f2 f3
          have C6 : Hid (Calls _ _ _ _ _) := pathD hh ll q cc ⟨by omega, by omega⟩ ⟨by omega, by omega⟩ zq.out zcc W13 (PP.out _ T13.out.bl)
          obtain ⟨k0, k1, k2, k3, f0, f1, f2, f3⟩ := T13.out.cells
          go_wp2_with fail
          refine C6.out.mono ?_
          rintro e w14 ⟨rfl, hb⟩
          have T14 : Hid (Tw w T hh ll q cc w14) := T13.out.later hb
          clear hb k0 k1 k2 k3 f0 f1 f2 f3 C6
          obtain ⟨k0, k1, k2, k3, f0, f1, f2, f3⟩ := T14.out.cells
          obtain ⟨m0, m1, m2, m3, n0, n1, n2, n3⟩ := T14.out.ends
          obtain ⟨sp, HSP⟩ : ∃ s, Hid (pathS hh ll q cc = s) := ⟨_, rfl⟩
          by_cases g : Goes hh ll q cc
          · have HV : Hid (pathV hh ll q cc = .tuple #[.string sp, .int .i64 0]) := by show _ = _; rw [← HSP.out]; exact if_pos g
            rw [HV.out]
            by_cases hp : sp = path
            · have HU : Hid (drV path = .tuple #[.agg #[.int .i64 hh, .int .i64 ll, .int .i64 q, .int .i64 cc], .int .i64 0]) := HDR.out.trans (if_pos ⟨g, HSP.out.trans hp⟩)
              clear g
              subst hp
              go_wp2
              obtain ⟨W9, HW9, B9, d0, d1, d2, d3⟩ := T14.out.fin (.int .i64 hh) (.int .i64 ll) (.int .i64 q) (.int .i64 cc)
              rw [HW9.out]
              refine bodyPost_ret (by simp [results, Tryz.results9, go_sem, d0, d1, d2, d3]; try rfl) rfl ?_
              exact ⟨by rw [HU.out], B9.out⟩
            · have HU : Hid (drV path = noV) := HDR.out.trans (if_neg fun e => hp (HSP.out.symm.trans e.2))
              have ht' : (sp.toList == path.toList) = false := data_ne hp
              clear g hp
              go_wp2
              obtain ⟨W9, HW9, B9, d0, d1, d2, d3⟩ := T14.out.fin (.int .i64 0) (.int .i64 0) (.int .i64 0) (.int .i64 0)
              rw [HW9.out]
              refine bodyPost_ret (by simp [results, Tryz.results9, go_sem, d0, d1, d2, d3]; try rfl) rfl ?_
              exact ⟨by rw [HU.out]; rfl, B9.out⟩
          · have HV : Hid (pathV hh ll q cc = .tuple #[.string ⟨#[]⟩, .int .i64 230]) := if_neg g
            have HU : Hid (drV path = noV) := HDR.out.trans (if_neg fun e => g e.1)
            rw [HV.out]
            clear g
            go_wp2
            obtain ⟨W9, HW9, B9, d0, d1, d2, d3⟩ := T14.out.fin (.int .i64 0) (.int .i64 0) (.int .i64 0) (.int .i64 0)
            rw [HW9.out]
            refine bodyPost_ret (by simp [results, Tryz.results9, go_sem, d0, d1, d2, d3]; try rfl) rfl ?_
            exact ⟨by rw [HU.out]; rfl, B9.out⟩
end Go.Proofs.YtfbglffookacbaaGreatDoor.rn
