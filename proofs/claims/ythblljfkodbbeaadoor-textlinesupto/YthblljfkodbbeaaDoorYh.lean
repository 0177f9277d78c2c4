import Derived.Test.YthblljfkodbbeaaDoorYg
import Derived.Deep.DeepCutAuto
namespace Go.Proofs.YthblljfkodbbeaaDoor.yh
open Go.RowKit Go.PlainAid
open Go.Proofs.YthblljfkodbbeaaDoor.ta Go.Proofs.YthblljfkodbbeaaDoor.tb Go.Proofs.YthblljfkodbbeaaDoor.tc Go.Proofs.YthblljfkodbbeaaDoor.te Go.Proofs.YthblljfkodbbeaaDoor.tj Go.Proofs.YthblljfkodbbeaaDoor.va Go.Proofs.YthblljfkodbbeaaDoor.vb Go.Proofs.YthblljfkodbbeaaDoor.vc Go.Proofs.YthblljfkodbbeaaDoor.vd Go.Proofs.YthblljfkodbbeaaDoor.ya Go.Proofs.YthblljfkodbbeaaDoor.yb Go.Proofs.YthblljfkodbbeaaDoor.yc Go.Proofs.YthblljfkodbbeaaDoor.yd Go.Proofs.YthblljfkodbbeaaDoor.ye Go.Proofs.YthblljfkodbbeaaDoor.yf Go.Proofs.YthblljfkodbbeaaDoor.yg
set_option linter.unusedVariables false

theorem down {B : Nat} {w w1 w2 : World} (h : Below B w w1) (b : Below w1.heap.size w1 w2) (hB : B ≤ w.heap.size) : Below B w w2 := h.trans (b.mono (Nat.le_trans hB h.size))
theorem Reads.below {B : Nat} {w w' : World} {v : Value} {xs : List ByteArray} (h : Reads w v xs) (hb : Below w.heap.size w w') : Reads w' v xs := h.later hb

set_option maxHeartbeats 6400000 in
set_option maxRecDepth 100000 in
theorem text_lines (s : ByteArray) (v : Value) (xs : List ByteArray) (w : World) (hr : Reads w v xs) (hnone : ∀ k c, v = .slice none k c → c = 0) (hz : s.size + (tk xs xs.length + xs.length) ≤ 1048576) :
    Calls Tryd.prog 5 #[.string s, v] w fun e w' => e = .returned (.bool true) ∧ Below w.heap.size w w' := by
  obtain ⟨i9, hi, hz0, hz1, hz2⟩ := info_parts hi9
  have HIN : Hid (_ ∧ _ ∧ _ ∧ _) := ⟨hi, hz0, hz1, hz2⟩
  clear hi hz0 hz1 hz2
  obtain ⟨Y, ec, hYl, ly, rl⟩ := two_lines s (by omega)
  have L1 : Hid (∀ w, Calls _ _ _ _ _) := ly
  have L2 : Hid (∀ w, Calls _ _ _ _ _) := rl
  have HRD : Hid (Reads w v xs) := hr
  have JN : Hid (∀ (w : World) (v : Value) (ys : List ByteArray), Reads w v ys → tk ys ys.length + ys.length ≤ 1073741824 → Calls Tryd.prog 8 #[v] w fun e w' => e = .returned (joinV ys) ∧ Below w.heap.size w w') := fun w v ys h hz => join v ys w h hz
  have hzx : tk xs xs.length + xs.length ≤ 1048576 := by omega
  have HZX : Hid (tk xs xs.length + xs.length ≤ 1048576) := hzx
  obtain ⟨T, tc, HJV⟩ : ∃ T tc, Hid (joinV xs = .tuple #[.string T, .int .i64 tc]) := by
    unfold joinV
    split
    · exact ⟨_, _, rfl⟩
    · exact ⟨_, _, rfl⟩
  clear ly rl
  obtain ⟨a, cap, rfl, hcl⟩ := hr
  have HCL : Hid (xs.length = 0 ∨ ∃ b off, a = some ⟨b, off, none⟩ ∧ ∀ i, i < xs.length → w.cell? ⟨b, off + i, none⟩ = some (.string (xs.getD i ByteArray.empty))) := hcl
  obtain ⟨n, HN⟩ : ∃ n, Hid (xs.length = n) := ⟨_, rfl⟩
  have hn : n ≤ 1048576 := by rw [← HN.out]; omega
  have hn63 : n ≤ maxLen := by unfold maxLen; omega
  have hcap0 : a = none → cap = 0 := fun h => hnone xs.length cap (by rw [h])
  have HC0 : Hid (a = none → cap = 0) := hcap0
  rw [HN.out] at HRD ⊢
  clear hcl hz hzx hnone hcap0
  have qT : (T.toList == T.toList) = true := beq_self_eq_true _
  have qe : (ec == ec) = true := beq_self_eq_true _
  have qt : (tc == tc) = true := beq_self_eq_true _
  have qb : (BEHIND.toList == BEHIND.toList) = true := beq_self_eq_true _
  go_enter Tryd.func5, Tryd.ntmps5
  go_wp2_with fail
  refine (L1.out _).mono ?_
  rintro e w1 ⟨⟨v1, rfl, hr1, hv1⟩, hb⟩
  have B1 : Hid (Below w.heap.size w w1) := hb
  have R1 : Hid (Reads w1 v1 Y) := hr1
  clear hb hr1 L1
  go_wp2_with fail
  refine (L2.out _).mono ?_
  rintro e w2 ⟨⟨v2, rfl, hr2, hv2⟩, hb⟩
  have B2 : Hid (Below w.heap.size w w2) := over B1.out hb
  have R1b : Hid (Reads w2 v1 Y) := R1.out.later hb
  have R2 : Hid (Reads w2 v2 Y) := hr2
  have RX : Hid (Reads w2 (.slice a n cap) xs) := HRD.out.later B2.out
  clear hb hr2 L2 R1
  -- append([]string{}, lines...)
  have O0 : Hid ((w2.alloc (.cells #[] 9)).ownsRow w2.heap.size 9 1 (.slice (some ⟨w2.heap.size, 0, none⟩) 0 0) 0 []) := World.ownsRow_lit w2 #[] 0 (Nat.le_refl _) (Nat.zero_le _) rfl
  have HB0 : Hid (Below w2.heap.size w2 (w2.alloc (.cells #[] 9))) := (Below.refl _ _).alloc (Nat.le_refl _) _
  go_upto_region 3 with fail
  go_cut [9] (fun f wx => ∃ f', f = f' ∧ Hid (wx.ownsRow w2.heap.size 9 1 f' n (xs.map Value.string)) ∧ Hid (Below w2.heap.size w2 wx))
  case first =>
    cases a with
    | none =>
      obtain rfl : cap = 0 := HC0.out rfl
      have hx0 : xs = [] := by
        rcases HCL.out with h | ⟨b, off, h, _⟩
        · exact List.length_eq_zero_iff.1 h
        · cases h
      have hn0 : n = 0 := by rw [← HN.out, hx0]; rfl
      subst hn0
      go_wp2_with (at_builtin; refine wpList_append_own_none rfl _ _ 22 rfl w2.heap.size 9 i9 1 Tryd.underlying22 HIN.out.1 _ 0 _ rfl O0.out rfl ?_)
      go_meet
      refine ⟨_, rfl, ?_, HB0.out⟩
      rw [hx0]
      exact O0.out
    | some ad =>
      have hnews : ∀ j u, (xs.map Value.string)[j]? = some u → (w2.alloc (.cells #[] 9)).cell? (ad.add j) = some u := by
        intro j u hu
        have hj : j < xs.length := by
          rcases Nat.lt_or_ge j xs.length with g | g
          · exact g
          · rw [List.getElem?_eq_none (by rw [List.length_map]; exact g)] at hu; cases hu
        rw [List.getElem?_map, List.getElem?_eq_getElem hj] at hu
        obtain rfl := Option.some.inj hu
        obtain ⟨a', cap', he, hcl⟩ := RX.out
        rcases hcl with h | ⟨b, off, rfl, hc⟩
        · omega
        · injection he with e1 e2 e3
          obtain rfl := Option.some.inj e1
          rw [Addr.add_mid]
          have := hc j hj
          rw [HB0.out.cell (p := ⟨b, off + j, none⟩) (World.block_lt_of_cell? _ _ this), this, List.getD_eq_getElem?_getD, List.getElem?_eq_getElem hj]
          rfl
      have HNW : Hid (∀ j u, (xs.map Value.string)[j]? = some u → (w2.alloc (.cells #[] 9)).cell? (ad.add j) = some u) := hnews
      have HNL : Hid ((xs.map Value.string).length = n * 1) := by show _ = _; rw [List.length_map, HN.out, Nat.mul_one]
      have HN1 : Hid (∀ u ∈ xs.map Value.string, u.oneCell' = true) := by
        intro u hu
        obtain ⟨x, _, rfl⟩ := List.mem_map.1 hu
        rfl
      have H1 : Hid (w2.heap.size ≤ (w2.alloc (.cells #[] 9)).heap.size) := HB0.out.size
      clear hnews
      go_wp2_with (at_builtin; refine wpList_append_own _ rfl _ _ 22 rfl w2.heap.size 9 i9 (.string ByteArray.empty) 1 16 Tryd.underlying22 HIN.out.1 HIN.out.2.1 HIN.out.2.2.1 HIN.out.2.2.2 rfl (by decide) _ 0 _ rfl O0.out ad n cap (xs.map Value.string) rfl HNL.out HNW.out HN1.out (by omega) (by omega) H1.out ?_; intro f' w3 hown' hgrow3 hnil3; have HO3 : Hid (World.ownsRow _ _ _ _ _ _ _) := hown'; have HB3 : Hid (Below w2.heap.size w2 w3) := Below.grown HB0.out hgrow3 H1.out (fun j hj => (O0.out.lt _ hj).1); clear hown' hgrow3 hnil3)
      go_meet
      refine ⟨_, rfl, ?_, HB3.out⟩
      have := HO3.out
      rw [Nat.zero_add, List.nil_append] at this
      exact this
  case rest =>
    obtain ⟨f1, rfl, O1, B3⟩ := hcut
    have hsz2 := B3.out.size
    clear O0 HB0 HC0
    have O1a : Hid (World.ownsRow _ _ _ _ _ _ _) := O1.out.alloc (.cells #[.string BEHIND] 9)
    unfold BEHIND at O1a
    go_wp2_with (at_builtin; refine wpList_append_own _ rfl _ _ 22 rfl w2.heap.size 9 i9 (.string ByteArray.empty) 1 16 Tryd.underlying22 HIN.out.1 HIN.out.2.1 HIN.out.2.2.1 HIN.out.2.2.2 rfl (by decide) _ n _ rfl O1a.out ⟨wc.heap.size, 0, none⟩ 1 1 [.string BEHIND] rfl rfl (fun i u hu => by cases i with | zero => (simp at hu; rw [← hu]; exact new_cell _ _ _) | succ i => simp at hu) (fun u hu => by simp at hu; subst hu; rfl) (by unfold maxLen; omega) (by omega) (by simp; omega) ?_; intro f' w4 hown' hgrow3 hnil3; have O2 : Hid (World.ownsRow _ _ _ _ _ _ _) := hown'; have B4 : Hid (Below w2.heap.size w2 w4) := Below.grown (B3.out.alloc B3.out.size _) hgrow3 (by simp; omega) (fun j hj => (O1.out.lt _ hj).1); clear hown' hgrow3 hnil3)
    obtain ⟨g, cp, rfl⟩ : ∃ g cp, f' = .slice (some ⟨g, 0, none⟩) (n + 1) cp := by
      rcases O2.out.2 with ⟨_, h⟩ | ⟨g, cp, cur, h, _⟩
      · omega
      · exact ⟨g, cp, h⟩
    have hgB : w2.heap.size ≤ g := (O2.out.lt g rfl).1
    have O2' : Hid (w4.ownsRow w2.heap.size 9 1 (.slice (some ⟨g, 0, none⟩) (n + 1) cp) (n + 1) ((mix1 xs 0).map Value.string ++ [.string BEHIND])) := O2.out
    clear O2 O1 O1a B3 hsz2
    go_loopw [11] (fun i wr => ∃ (k : Nat), k ≤ n ∧ i = .int .i64 k ∧ Hid (wr.ownsRow w2.heap.size 9 1 (.slice (some ⟨g, 0, none⟩) (n + 1) cp) (n + 1) ((mix1 xs k).map Value.string ++ [.string BEHIND]) ∧ Below w2.heap.size w2 wr)) (fun i _ => (n - intOf i).toNat)
    case atStart => exact ⟨0, by omega, rfl, O2'.out, B4.out⟩
    case round =>
      clear O2' B4
      obtain ⟨k, hk, rfl, HL⟩ := hrel
      by_cases hlt : k < n
      · have hlt' : (k : Int) < n := by omega
        have hk1 : (k : Int) < (n : Int) + 1 := by omega
        have hkx : k < xs.length := by rw [HN.out]; exact hlt
        have hml : (mix1 xs k).length = xs.length := mix1_len xs k (by omega)
        obtain ⟨old, c1⟩ : ∃ old, wr.cell? ⟨g, k, none⟩ = some (.string old) := by
          refine ⟨(mix1 xs k)[k]'(by omega), ?_⟩
          rw [HL.out.1.cellAt k (by omega), List.getElem?_append_left (by rw [List.length_map]; omega), List.getElem?_map, List.getElem?_eq_getElem (by omega)]
          rfl
        have c0 := c1
        have f1 := HL.out.1.frozenAt k
        obtain ⟨st, gr⟩ := HL.out.1.stored k (.string OTHER)
        rw [set_row _ _ _ _ (by omega), mix1_set xs k hkx] at st
        have ST : Hid (World.ownsRow _ _ _ _ _ _ _) := st
        have BB : Hid (Below w2.heap.size w2 (wr.setCell ⟨g, k, none⟩ (.string OTHER))) := Below.grown HL.out.2 gr (Nat.le_trans (Nat.le_refl _) HL.out.2.size) (fun j hj => by injection hj with hj; omega)
        unfold OTHER at ST BB
        clear st gr hml
        go_wp2
        go_roundw
        case rel => exact ⟨k + 1, by omega, by go_num, ST.out, BB.out⟩
        case measure => simp [intOf]; omega
      · have hlt' : ¬ (k : Int) < n := by omega
        obtain rfl : k = n := by omega
        have hcp : k + 1 ≤ cp := by
          rcases HL.out.1.2 with ⟨h, _⟩ | ⟨g', cp', cur, h, _, _, hnc, _⟩
          · cases h
          · injection h with h1 h2 h3
            omega
        have hcp' : (k : Int) ≤ cp := by omega
        have e1 : mix1 xs k = List.replicate k OTHER := by unfold mix1; rw [List.drop_of_length_le (by rw [HN.out]; exact Nat.le_refl _), List.append_nil]
        have J1 : Hid (Calls _ _ _ _ _) := JN.out wr (.slice (some ⟨g, 0, none⟩) k cp) (mix1 xs k) (own_first HL.out.1 (by rw [mix1_len xs k (by rw [HN.out]; exact Nat.le_refl _), HN.out])) (by rw [e1, List.length_replicate, tk_rep k k (Nat.le_refl _)]; omega)
        have HM : Hid (mix1 xs k = mix2 xs 0) := by show _ = _; rw [← HN.out]; exact mix_end xs
        generalize joinV (mix1 xs k) = V1 at *
        clear e1
        go_wp2_with fail
        refine J1.out.mono ?_
        rintro e w5 ⟨rfl, hb⟩
        have O5 : Hid (w5.ownsRow w2.heap.size 9 1 (.slice (some ⟨g, 0, none⟩) (k + 1) cp) (k + 1) ((mix2 xs 0).map Value.string ++ [.string BEHIND])) := by
          rw [← HM.out]
          exact HL.out.1.kept (row := none) ⟨hb.os, hb.tape, hb.output, hb.size, fun i hi _ => hb.block i hi⟩ (.inr (by simp [Value.ownBlock]))
        have B5 : Hid (Below w2.heap.size w2 w5) := down HL.out.2 hb (Nat.le_refl _)
        clear hb J1 HM HL
        go_wp2_with fail
        go_loopw [12] (fun i wr => ∃ (m : Nat), m ≤ k ∧ i = .int .i64 m ∧ Hid (wr.ownsRow w2.heap.size 9 1 (.slice (some ⟨g, 0, none⟩) (k + 1) cp) (k + 1) ((mix2 xs m).map Value.string ++ [.string BEHIND]) ∧ Below w2.heap.size w2 wr)) (fun i _ => (k - intOf i).toNat)
        case atStart => exact ⟨0, by omega, rfl, O5.out, B5.out⟩
        case round =>
          clear O5 B5
          obtain ⟨m, hm, rfl, HL⟩ := hrel
          by_cases hmt : m < k
          · have hmt' : (m : Int) < k := by omega
            have hm1 : (m : Int) < (k : Int) + 1 := by omega
            have hmx : m < xs.length := by rw [HN.out]; exact hmt
            have hml : (mix2 xs m).length = xs.length := mix2_len xs m (by omega)
            obtain ⟨b, off, rfl, hc⟩ : ∃ b off, a = some ⟨b, off, none⟩ ∧ ∀ i, i < xs.length → w2.cell? ⟨b, off + i, none⟩ = some (.string (xs.getD i ByteArray.empty)) := by
              obtain ⟨a', cap', he, hcl⟩ := RX.out
              injection he with h1 h2 h3
              rcases hcl with h | ⟨b, off, h, hc⟩
              · omega
              · exact ⟨b, off, h1.trans h, hc⟩
            have c2 : wr.cell? ⟨b, off + m, none⟩ = some (.string (xs.getD m ByteArray.empty)) := (HL.out.2.cell (p := ⟨b, off + m, none⟩) (World.block_lt_of_cell? _ _ (hc m hmx))).trans (hc m hmx)
            clear hc
            obtain ⟨old, c1⟩ : ∃ old, wr.cell? ⟨g, m, none⟩ = some (.string old) := by
              refine ⟨(mix2 xs m)[m]'(by omega), ?_⟩
              rw [HL.out.1.cellAt m (by omega), List.getElem?_append_left (by rw [List.length_map]; omega), List.getElem?_map, List.getElem?_eq_getElem (by omega)]
              rfl
            have f1 := HL.out.1.frozenAt m
            obtain ⟨st, gr⟩ := HL.out.1.stored m (.string (xs.getD m ByteArray.empty))
            rw [set_row _ _ _ _ (by omega), mix2_set xs m hmx] at st
            have ST : Hid (World.ownsRow _ _ _ _ _ _ _) := st
            have BB : Hid (Below w2.heap.size w2 (wr.setCell ⟨g, m, none⟩ (.string (xs.getD m ByteArray.empty)))) := Below.grown HL.out.2 gr (Nat.le_trans (Nat.le_refl _) HL.out.2.size) (fun j hj => by injection hj with hj; omega)
            clear st gr hml
            obtain ⟨X, HX⟩ : ∃ X, Hid (xs.getD m ByteArray.empty = X) := ⟨_, rfl⟩
            rw [HX.out] at c2 ST BB
            go_wp2
            go_roundw
            case rel => exact ⟨m + 1, by omega, by go_num, ST.out, BB.out⟩
            case measure => simp [intOf]; omega
          · have hmt' : ¬ (m : Int) < k := by omega
            obtain rfl : m = k := by omega
            have O6 : Hid (wr.ownsRow w2.heap.size 9 1 (.slice (some ⟨g, 0, none⟩) (m + 1) cp) (m + 1) (xs.map Value.string ++ [.string BEHIND])) := by
              have h := HL.out.1
              rw [show mix2 xs m = xs by rw [← HN.out]; exact mix2_end xs] at h
              exact h
            have B6 : Hid (Below w2.heap.size w2 wr) := HL.out.2
            have J2 : Hid (Calls _ _ _ _ _) := JN.out wr (.slice (some ⟨g, 0, none⟩) m cp) xs (own_first O6.out HN.out) (by have := HZX.out; omega)
            rw [HJV.out] at J2
            clear HL
            go_wp2_with fail
            refine J2.out.mono ?_
            rintro e w7 ⟨rfl, hb⟩
            have O7 : Hid (w7.ownsRow w2.heap.size 9 1 (.slice (some ⟨g, 0, none⟩) (m + 1) cp) (m + 1) (xs.map Value.string ++ [.string BEHIND])) := O6.out.kept (row := none) ⟨hb.os, hb.tape, hb.output, hb.size, fun i hi _ => hb.block i hi⟩ (.inr (by simp [Value.ownBlock]))
            have B7 : Hid (Below w2.heap.size w2 w7) := down B6.out hb (Nat.le_refl _)
            clear hb J2 O6 B6
            have J3 : Hid (Calls _ _ _ _ _) := rJoin (.slice a m cap) xs w7 (RX.out.later B7.out) (by have := HZX.out; omega)
            rw [HJV.out] at J3
            go_wp2_with fail
            refine J3.out.mono ?_
            rintro e w8 ⟨rfl, hw8⟩
            have B8 : Hid (Below w2.heap.size w2 w8) := by rw [hw8]; exact B7.out
            have O8 : Hid (w8.ownsRow w2.heap.size 9 1 (.slice (some ⟨g, 0, none⟩) (m + 1) cp) (m + 1) (xs.map Value.string ++ [.string BEHIND])) := by rw [hw8]; exact O7.out
            clear hw8 J3 O7 B7
            have S1 := sameTexts v1 v2 Y Y w8 (R1b.out.later B8.out) (R2.out.later B8.out) (by omega) (by omega)
            rw [decide_eq_true rfl] at S1
            have HS1 : Hid (Calls _ _ _ _ _) := S1
            clear S1
            go_wp2_with fail
            refine HS1.out.mono ?_
            rintro e w9 ⟨rfl, hb⟩
            have O9 : Hid (w9.ownsRow w2.heap.size 9 1 (.slice (some ⟨g, 0, none⟩) (m + 1) cp) (m + 1) (xs.map Value.string ++ [.string BEHIND])) := O8.out.kept (row := none) ⟨hb.os, hb.tape, hb.output, hb.size, fun i hi _ => hb.block i hi⟩ (.inr (by simp [Value.ownBlock]))
            have B9 : Hid (Below w2.heap.size w2 w9) := down B8.out hb (Nat.le_refl _)
            clear hb HS1 O8 B8
            have hxl : xs.length ≤ 140737488355328 := by rw [HN.out]; omega
            have S2 := sameTexts (.slice (some ⟨g, 0, none⟩) m cp) (.slice a m cap) xs xs w9 (own_first O9.out HN.out) (RX.out.later B9.out) hxl hxl
            rw [decide_eq_true rfl] at S2
            have HS2 : Hid (Calls _ _ _ _ _) := S2
            clear S2 hxl
            go_wp2_with fail
            refine HS2.out.mono ?_
            rintro e w10 ⟨rfl, hb⟩
            have O10 : Hid (w10.ownsRow w2.heap.size 9 1 (.slice (some ⟨g, 0, none⟩) (m + 1) cp) (m + 1) (xs.map Value.string ++ [.string BEHIND])) := O9.out.kept (row := none) ⟨hb.os, hb.tape, hb.output, hb.size, fun i hi _ => hb.block i hi⟩ (.inr (by simp [Value.ownBlock]))
            have B10 : Hid (Below w2.heap.size w2 w10) := down B9.out hb (Nat.le_refl _)
            have B11 : Hid (Below w.heap.size w w10) := over B2.out B10.out
            clear hb HS2 O9 B9
            have c3 : w10.cell? ⟨g, m, none⟩ = some (.string BEHIND) := by
              rw [O10.out.cellAt m (by omega), List.getElem?_append_right (by rw [List.length_map, HN.out]; exact Nat.le_refl _), List.length_map, HN.out, Nat.sub_self]
              rfl
            have hm2 : (m : Int) < (m : Int) + 1 := by omega
            unfold BEHIND at c3 qb
            go_wp2
            go_ret
            exact ⟨rfl, B11.out⟩
end Go.Proofs.YthblljfkodbbeaaDoor.yh
