import Derived.Test.YtfbglffookacbaaGreatDoorR3
import Derived.Laws.Cover3
namespace Go.Proofs.YtfbglffookacbaaGreatDoor.r4
open Go.RowKit Go.PlainAid Go.Shelf
open Go.Proofs.YtfbglffookacbaaGreatDoor.ta Go.Proofs.YtfbglffookacbaaGreatDoor.tb Go.Proofs.YtfbglffookacbaaGreatDoor.tc Go.Proofs.YtfbglffookacbaaGreatDoor.cp Go.Proofs.YtfbglffookacbaaGreatDoor.r3
set_option linter.unusedVariables false

theorem one5 : (Tryz.prog.info? 5).map (·.size) = some 1 := by kernel_rfl
theorem make_row (n : Nat) (hn : n ≤ 2097152) (w : World) :
    (Instr.makeSlice 51 (.int .i64 n) (.int .i64 n)).run Tryz.prog w = .ok (.slice (some ⟨w.heap.size, 0, none⟩) n n) (w.alloc (.cells (row (List.replicate n 0)) 5)) := by
  obtain ⟨i, hi, hz0, hz1, hz2⟩ := info_parts info5
  have h := run_make (P := Tryz.prog) w 51 5 i (.int .u8 0) Tryz.underlying51 hi hz0 .i64 .i64 (n : Int) (n : Int) (by omega) (by omega) (by rw [hz2]; omega) (by omega)
  rw [hz1] at h
  simp only [Int.toNat_natCast, Nat.mul_one] at h
  rw [made_row] at h
  exact h
theorem neS (z : Addr) (n c : Nat) (w : World) : (binOp .neq 51 (.slice (some z) n c) (.slice none 0 0)).run Tryz.prog w = .ok (.bool true) w := by
  rw [run_neq_slice_nil _ _ 5 _ _ _ Tryz.underlying51]
  rfl
theorem neN (w : World) : (binOp .neq 51 (.slice none 0 0) (.slice none 0 0)).run Tryz.prog w = .ok (.bool false) w := by
  rw [run_neq_slice_nil _ _ 5 _ _ _ Tryz.underlying51]
  rfl
theorem bt_cast (s : ByteArray) (k : Nat) : ∃ b : Nat, bt s k = (b : Int) ∧ b < 256 := by
  have h0 := bt_nonneg s k
  have h1 := bt_le s k
  exact ⟨(bt s k).toNat, by omega, by omega⟩
set_option maxRecDepth 100000 in
set_option maxHeartbeats 3200000 in
theorem bsC (r lo : Nat) (s : ByteArray) (hs : s.size ≤ 2097152) (w : World) (h : Bsr w r lo) :
    Calls Tryz.prog 146 #[.pointer (some ⟨r, 0, none⟩), .string s] w fun e w' => e = .returned (.string (kpB s)) ∧ Below w.heap.size w w' := by
  have HB : Hid (Bsr w r lo) := h
  have hne : ∀ (z : Addr) (n c : Nat) (w : World), (binOp .neq 51 (.slice (some z) n c) (.slice none 0 0)).run Tryz.prog w = .ok (.bool true) w := fun z n c w => neS z n c w
  have hn0 : ∀ (w : World), (binOp .neq 51 (.slice none 0 0) (.slice none 0 0)).run Tryz.prog w = .ok (.bool false) w := fun w => neN w
  have hgb := get_bt s
  have hgc := get_bt ⟨#[47]⟩
  have hgd := get_bt ⟨#[120]⟩
  have hb47 : bt ⟨#[47]⟩ 0 = 47 := rfl
  have hb120 : bt ⟨#[120]⟩ 0 = 120 := rfl
  obtain ⟨tb, tc, _, k256, kt0, kt1⟩ := h.two
  have CC : Hid (∀ c w, Calls _ _ _ _ _) := fun c w => countC s c w
  have SUM := count_KK s
  obtain ⟨p, HP⟩ : ∃ p, Hid (Lib.countByte s.data.toList 47 = p) := ⟨_, rfl⟩
  obtain ⟨q, HQ⟩ : ∃ q, Hid (Lib.countByte s.data.toList 120 = q) := ⟨_, rfl⟩
  have C47 : Hid (∀ w, Calls _ _ _ _ _) := fun w => CC.out 47 w
  have C120 : Hid (∀ w, Calls _ _ _ _ _) := fun w => CC.out 120 w
  rw [HP.out] at C47
  rw [HQ.out] at C120
  rw [HP.out, HQ.out] at SUM
  obtain ⟨z47, c47, k47⟩ := h.yes 47 (.inl rfl)
  obtain ⟨z120, c120, k120⟩ := h.yes 120 (.inr rfl)
  have K : Hid (∀ w', Below w.heap.size w w' → w'.cell? ⟨r, 256, none⟩ = some (.slice (some ⟨tb, 0, none⟩) 2 tc) ∧ w'.cell? ⟨tb, 0, none⟩ = some (.string ⟨#[47]⟩) ∧ w'.cell? ⟨tb, 1, none⟩ = some (.string ⟨#[120]⟩) ∧ w'.cell? ⟨r, 47, none⟩ = some (.slice (some z47) 0 c47) ∧ w'.cell? ⟨r, 120, none⟩ = some (.slice (some z120) 0 c120)) := fun w' hb => by
    have K : ∀ {a : Addr} {v : Value}, w.cell? a = some v → w'.cell? a = some v := fun {a v} hv => (hb.cell (World.block_lt_of_cell? _ _ hv)).trans hv
    exact ⟨K k256, K kt0, K kt1, K k47, K k120⟩
  have HSUM : Hid (p + q + KK s s.size = s.size) := SUM
  clear h CC SUM HP HQ
  by_cases h16 : (16 : Int) ≤ s.size
  · go_enter Tryz.func146, Tryz.ntmps146
    go_wp2
    go_loopw [32, 5, 6] (fun i ns ch wr => Hid (Below w.heap.size w wr) ∧ ((i = .int .i64 0 ∧ ns = .int .i64 (s.size : Int) ∧ ch = .bool false) ∨ (i = .int .i64 1 ∧ ns = .int .i64 ((s.size : Int) - p) ∧ ch = .bool (decide (0 < p))) ∨ (i = .int .i64 2 ∧ ns = .int .i64 (KK s s.size) ∧ ch = .bool (decide (KK s s.size < s.size))))) (fun i _ _ _ => (2 - intOf i).toNat)
    case atStart => exact ⟨Below.refl _ _, .inl ⟨rfl, rfl, rfl⟩⟩
    case round =>
      clear k256 kt0 kt1 k47 k120
      obtain ⟨HBW, ⟨rfl, rfl, rfl⟩ | ⟨rfl, rfl, rfl⟩ | ⟨rfl, rfl, rfl⟩⟩ := hrel
      ·
        obtain ⟨k256, kt0, kt1, k47, k120⟩ := K.out _ HBW.out
        by_cases hp : p = 0
        · have e0 : ((p : Int) != 0) = false := by rw [hp]; rfl
          go_wp2_with (go_at_call 51; refine (C47.out _).mono ?_; rintro _ w' ⟨rfl, hw⟩; replace hw := hw.symm; subst hw)
          go_roundw
          case rel => exact ⟨HBW.out, .inr (.inl ⟨by go_num, by rw [hp]; go_num, by rw [hp]; rfl⟩)⟩
          case measure => simp [intOf]
        · have e0 : ((p : Int) != 0) = true := by rw [bne_iff_ne]; omega
          go_wp2_with (go_at_call 51; refine (C47.out _).mono ?_; rintro _ w' ⟨rfl, hw⟩; replace hw := hw.symm; subst hw)
          go_quiet (fail)
          go_wp2
          go_roundw
          case rel => exact ⟨below_dN HBW.out _, .inr (.inl ⟨by go_num, by have := HSUM.out; unfold wrap64; congr 1; omega, by rw [decide_eq_true (show 0 < p by omega)]⟩)⟩
          case measure => simp [intOf]
      ·
        obtain ⟨k256, kt0, kt1, k47, k120⟩ := K.out _ HBW.out
        by_cases hp : q = 0
        · have e0 : ((q : Int) != 0) = false := by rw [hp]; rfl
          go_wp2_with (go_at_call 51; refine (C120.out _).mono ?_; rintro _ w' ⟨rfl, hw⟩; replace hw := hw.symm; subst hw)
          go_roundw
          case rel => exact ⟨HBW.out, .inr (.inr ⟨by go_num, by have := HSUM.out; go_num, by congr 2; have := HSUM.out; exact propext ⟨fun h => by omega, fun h => by omega⟩⟩)⟩
          case measure => simp [intOf]
        · have e0 : ((q : Int) != 0) = true := by rw [bne_iff_ne]; omega
          go_wp2_with (go_at_call 51; refine (C120.out _).mono ?_; rintro _ w' ⟨rfl, hw⟩; replace hw := hw.symm; subst hw)
          go_quiet (fail)
          go_wp2
          go_roundw
          case rel => exact ⟨below_dN HBW.out _, .inr (.inr ⟨by go_num, by have := HSUM.out; unfold wrap64; congr 1; omega, by have := HSUM.out; rw [decide_eq_true (show KK s s.size < s.size by omega)]⟩)⟩
          case measure => simp [intOf]
      ·
        rename World => Wo
        have hKn := KK_le s s.size
        have hcpy : ∀ (W : World) (z : Addr) (c : Nat) (d : Option Addr) (dl dc : Nat), (Builtin.copy_ #[51, 51] 3 #[.slice d dl dc, .slice (some z) 0 c]).run Tryz.prog W = .ok (goInt 0) W := fun W z c d dl dc => run_copy_none W 51 51 3 5 d (some z) dl dc 0 c Tryz.underlying51 one5 (Nat.zero_min _)
        by_cases hch : KK s s.size < s.size
        · have d6 : decide (KK s s.size < s.size) = true := decide_eq_true hch
          obtain ⟨m, HM⟩ : ∃ m, Hid (KK s s.size = m) := ⟨_, rfl⟩
          have hmk : ∀ w' : World, (Instr.makeSlice 51 (.int .i64 m) (.int .i64 m)).run Tryz.prog w' = .ok (.slice (some ⟨w'.heap.size, 0, none⟩) m m) (w'.alloc (.cells (row (List.replicate m 0)) 5)) := fun w' => make_row m (by rw [HM.out] at hKn; omega) w'
          have HR0 : Hid ((Wo.alloc (.cells (row (List.replicate m 0)) 5)).heap[Wo.heap.size]? = some (.cells (row (keepL (btL s 0) ++ List.replicate (m - KK s 0) 0)) 5 (0, 0))) := heap_alloc_new _ _
          have HB1 : Hid (Below w.heap.size w (Wo.alloc (.cells (row (List.replicate m 0)) 5))) := HBW.out.alloc HBW.out.size _
          have HSZ : Hid (w.heap.size ≤ Wo.heap.size) := HBW.out.size
          rw [HM.out] at d6 hch hKn ⊢
          obtain ⟨G, HG⟩ : ∃ G, Hid (Wo.heap.size = G) := ⟨_, rfl⟩
          rw [HG.out] at HR0 HSZ
          go_wp2
          rw [HG.out]
          go_loopw [14, 13] (fun i j wr => ∃ k : Nat, i = .int .i64 k ∧ k ≤ s.size ∧ j = .int .i64 (KK s k) ∧ Hid (wr.heap[G]? = some (.cells (row (keepL (btL s k) ++ List.replicate (m - KK s k) 0)) 5 (0, 0)) ∧ Below w.heap.size w wr)) (fun i _ _ => (s.size - intOf i).toNat)
          case atStart => exact ⟨0, rfl, Nat.zero_le _, rfl, HR0.out, HB1.out⟩
          case round =>
            clear d6 HR0 HB1
            obtain ⟨k, rfl, hkn, rfl, HR⟩ := hrel
            by_cases hk : k < s.size
            · have hk' : (k : Int) < s.size := by omega
              obtain ⟨b, hbt, hb⟩ := bt_cast s k
              have hmo : KK s (k + 1) ≤ m := by
                have := KK_mono s (k + 1) (s.size - (k + 1))
                rw [show k + 1 + (s.size - (k + 1)) = s.size by omega, HM.out] at this
                exact this
              by_cases hd : b = 47 ∨ b = 120
              · obtain ⟨z, cz, kz⟩ := (HB.out.later HR.out.2).yes b hd
                have hKK : KK s (k + 1) = KK s k := KK_yes s k (by omega)
                have hkeep : keepL (btL s (k + 1)) = keepL (btL s k) := by rw [btL_succ, keep_yes _ _ (by omega)]
                rw [hKK] at hmo
                have hj0 : (0 : Int) ≤ (KK s k : Int) := by omega
                have hj1 : ((KK s k : Nat) : Int) ≤ (m : Int) := by omega
                go_wp2
                go_region
                all_goals (go_wp2; go_roundw)
                case rel => exact ⟨k + 1, by go_num, by omega, by rw [hKK], by rw [hKK, hkeep]; exact ⟨HR.out.1, below_dN HR.out.2 1⟩⟩
                case measure => simp [intOf]; omega
              · have kz := (HB.out.later HR.out.2).no b hb hd
                have hKK : KK s (k + 1) = KK s k + 1 := KK_no s k (by omega)
                have hkeep : keepL (btL s (k + 1)) = keepL (btL s k) ++ [(b : Int)] := by rw [btL_succ, keep_no _ _ (by omega), hbt]
                have hlen : (keepL (btL s k)).length = KK s k := rfl
                obtain ⟨J, HJ⟩ : ∃ J, Hid (KK s k = J) := ⟨_, rfl⟩
                rw [HJ.out] at hKK HR hlen ⊢
                rw [hKK] at hmo
                have hjm : (J : Int) < m := by omega
                have hcj : wr.cell? ⟨G, J, none⟩ = some (.int .u8 0) := by
                  rw [cell_of_row _ _ _ _ _ _ HR.out.1, row_get, List.getElem?_append_right (by omega), hlen, List.getElem?_replicate, if_pos (by omega)]
                  rfl
                have hfz := frozen_of_row wr G J _ _ HR.out.1
                have hnew := heap_setCell_same wr G J _ _ (.int .u8 b) HR.out.1
                have HN : Hid ((wr.setCell ⟨G, J, none⟩ (.int .u8 b)).heap[G]? = some (.cells (row (keepL (btL s (k + 1)) ++ List.replicate (m - (J + 1)) 0)) 5 (0, 0))) := by
                  show _ = _
                  rw [hnew, row_set, hkeep, List.append_assoc]
                  congr 3
                  rw [List.set_append_right _ _ (by omega), hlen, Nat.sub_self, show m - J = (m - (J + 1)) + 1 by omega, List.replicate_succ, List.set_cons_zero]
                  rfl
                have HBN : Hid (Below w.heap.size w (wr.setCell ⟨G, J, none⟩ (.int .u8 b))) := HR.out.2.trans ((Below.refl _ _).setCell (p := ⟨G, J, none⟩) HSZ.out _)
                clear hnew
                go_wp2
                go_roundw
                case rel => exact ⟨k + 1, by go_num, by omega, by rw [hKK]; go_num, by rw [hKK]; exact ⟨HN.out, HBN.out⟩⟩
                case measure => simp [intOf]; omega
            · obtain rfl : k = s.size := by omega
              have hk' : ¬ ((s.size : Nat) : Int) < s.size := by omega
              have hcv : (convert 51 9 (.slice (some ⟨G, 0, none⟩) m m)).run Tryz.prog wr = .ok (.string (kpB s)) wr := by
                have h1 := HR.out.1
                rw [HM.out, Nat.sub_self, List.replicate_zero, List.append_nil] at h1
                exact conv_at (keepL (bs s)) wr G 0 m m HM.out.symm (fun j v hj => by
                  rw [Addr.add_mid, Nat.zero_add, cell_of_row _ _ _ _ _ _ h1, row, List.getElem?_toArray]
                  exact hj)
              go_wp2
              go_ret
              exact ⟨rfl, HR.out.2⟩
        · have d6 : decide (KK s s.size < s.size) = false := decide_eq_false hch
          have HSM : Hid (kpB s = s) := kpB_same s hch
          go_wp2
          go_ret
          exact ⟨by rw [HSM.out]; rfl, HBW.out⟩
  · go_enter Tryz.func146, Tryz.ntmps146
    go_wp2
    go_loopw [10, 5, 6] (fun i ns ch wr => Hid (Below w.heap.size w wr) ∧ ∃ k : Nat, i = .int .i64 k ∧ k ≤ s.size ∧ ns = .int .i64 ((s.size : Int) - k + KK s k) ∧ ch = .bool (decide (KK s k < k))) (fun i _ _ _ => (s.size - intOf i).toNat)
    case atStart => exact ⟨Below.refl _ _, 0, rfl, Nat.zero_le _, by rw [KK_zero]; go_num, rfl⟩
    case round =>
      clear k256 kt0 kt1 k47 k120
      obtain ⟨HBW, k, rfl, hkn, rfl, rfl⟩ := hrel
      by_cases hk : k < s.size
      · have hk' : (k : Int) < s.size := by omega
        obtain ⟨b, hbt, hb⟩ := bt_cast s k
        have hle := KK_le s k
        by_cases hd : b = 47 ∨ b = 120
        · obtain ⟨z, cz, kz⟩ := (HB.out.later HBW.out).yes b hd
          have hKK : KK s (k + 1) = KK s k := KK_yes s k (by omega)
          go_wp2
          go_roundw
          case rel => exact ⟨HBW.out, k + 1, by go_num, by omega, by rw [hKK]; go_num, by rw [hKK, decide_eq_true (show KK s k < k + 1 by omega)]⟩
          case measure => simp [intOf]; omega
        · have kz := (HB.out.later HBW.out).no b hb hd
          have hKK : KK s (k + 1) = KK s k + 1 := KK_no s k (by omega)
          go_wp2
          go_roundw
          case rel => exact ⟨HBW.out, k + 1, by go_num, by omega, by rw [hKK]; go_num, by rw [hKK]; congr 2; exact propext ⟨fun h => by omega, fun h => by omega⟩⟩
          case measure => simp [intOf]; omega
      · have hk' : ¬ (k : Int) < s.size := by omega
        obtain rfl : k = s.size := by omega
        have ens : ((s.size : Nat) : Int) - (s.size : Nat) + (KK s s.size : Nat) = (KK s s.size : Nat) := by omega
        rw [ens]
        rename World => Wo
        have hKn := KK_le s s.size
        have hcpy : ∀ (W : World) (z : Addr) (c : Nat) (d : Option Addr) (dl dc : Nat), (Builtin.copy_ #[51, 51] 3 #[.slice d dl dc, .slice (some z) 0 c]).run Tryz.prog W = .ok (goInt 0) W := fun W z c d dl dc => run_copy_none W 51 51 3 5 d (some z) dl dc 0 c Tryz.underlying51 one5 (Nat.zero_min _)
        by_cases hch : KK s s.size < s.size
        · have d6 : decide (KK s s.size < s.size) = true := decide_eq_true hch
          obtain ⟨m, HM⟩ : ∃ m, Hid (KK s s.size = m) := ⟨_, rfl⟩
          have hmk : ∀ w' : World, (Instr.makeSlice 51 (.int .i64 m) (.int .i64 m)).run Tryz.prog w' = .ok (.slice (some ⟨w'.heap.size, 0, none⟩) m m) (w'.alloc (.cells (row (List.replicate m 0)) 5)) := fun w' => make_row m (by rw [HM.out] at hKn; omega) w'
          have HR0 : Hid ((Wo.alloc (.cells (row (List.replicate m 0)) 5)).heap[Wo.heap.size]? = some (.cells (row (keepL (btL s 0) ++ List.replicate (m - KK s 0) 0)) 5 (0, 0))) := heap_alloc_new _ _
          have HB1 : Hid (Below w.heap.size w (Wo.alloc (.cells (row (List.replicate m 0)) 5))) := HBW.out.alloc HBW.out.size _
          have HSZ : Hid (w.heap.size ≤ Wo.heap.size) := HBW.out.size
          rw [HM.out] at d6 hch hKn ⊢
          obtain ⟨G, HG⟩ : ∃ G, Hid (Wo.heap.size = G) := ⟨_, rfl⟩
          rw [HG.out] at HR0 HSZ
          go_wp2
          rw [HG.out]
          go_loopw [14, 13] (fun i j wr => ∃ k : Nat, i = .int .i64 k ∧ k ≤ s.size ∧ j = .int .i64 (KK s k) ∧ Hid (wr.heap[G]? = some (.cells (row (keepL (btL s k) ++ List.replicate (m - KK s k) 0)) 5 (0, 0)) ∧ Below w.heap.size w wr)) (fun i _ _ => (s.size - intOf i).toNat)
          case atStart => exact ⟨0, rfl, Nat.zero_le _, rfl, HR0.out, HB1.out⟩
          case round =>
            clear d6 HR0 HB1
            obtain ⟨k, rfl, hkn, rfl, HR⟩ := hrel
            by_cases hk : k < s.size
            · have hk' : (k : Int) < s.size := by omega
              obtain ⟨b, hbt, hb⟩ := bt_cast s k
              have hmo : KK s (k + 1) ≤ m := by
                have := KK_mono s (k + 1) (s.size - (k + 1))
                rw [show k + 1 + (s.size - (k + 1)) = s.size by omega, HM.out] at this
                exact this
              by_cases hd : b = 47 ∨ b = 120
              · obtain ⟨z, cz, kz⟩ := (HB.out.later HR.out.2).yes b hd
                have hKK : KK s (k + 1) = KK s k := KK_yes s k (by omega)
                have hkeep : keepL (btL s (k + 1)) = keepL (btL s k) := by rw [btL_succ, keep_yes _ _ (by omega)]
                rw [hKK] at hmo
                have hj0 : (0 : Int) ≤ (KK s k : Int) := by omega
                have hj1 : ((KK s k : Nat) : Int) ≤ (m : Int) := by omega
                go_wp2
                go_region
                all_goals (go_wp2; go_roundw)
                case rel => exact ⟨k + 1, by go_num, by omega, by rw [hKK], by rw [hKK, hkeep]; exact ⟨HR.out.1, below_dN HR.out.2 1⟩⟩
                case measure => simp [intOf]; omega
              · have kz := (HB.out.later HR.out.2).no b hb hd
                have hKK : KK s (k + 1) = KK s k + 1 := KK_no s k (by omega)
                have hkeep : keepL (btL s (k + 1)) = keepL (btL s k) ++ [(b : Int)] := by rw [btL_succ, keep_no _ _ (by omega), hbt]
                have hlen : (keepL (btL s k)).length = KK s k := rfl
                obtain ⟨J, HJ⟩ : ∃ J, Hid (KK s k = J) := ⟨_, rfl⟩
                rw [HJ.out] at hKK HR hlen ⊢
                rw [hKK] at hmo
                have hjm : (J : Int) < m := by omega
                have hcj : wr.cell? ⟨G, J, none⟩ = some (.int .u8 0) := by
                  rw [cell_of_row _ _ _ _ _ _ HR.out.1, row_get, List.getElem?_append_right (by omega), hlen, List.getElem?_replicate, if_pos (by omega)]
                  rfl
                have hfz := frozen_of_row wr G J _ _ HR.out.1
                have hnew := heap_setCell_same wr G J _ _ (.int .u8 b) HR.out.1
                have HN : Hid ((wr.setCell ⟨G, J, none⟩ (.int .u8 b)).heap[G]? = some (.cells (row (keepL (btL s (k + 1)) ++ List.replicate (m - (J + 1)) 0)) 5 (0, 0))) := by
                  show _ = _
                  rw [hnew, row_set, hkeep, List.append_assoc]
                  congr 3
                  rw [List.set_append_right _ _ (by omega), hlen, Nat.sub_self, show m - J = (m - (J + 1)) + 1 by omega, List.replicate_succ, List.set_cons_zero]
                  rfl
                have HBN : Hid (Below w.heap.size w (wr.setCell ⟨G, J, none⟩ (.int .u8 b))) := HR.out.2.trans ((Below.refl _ _).setCell (p := ⟨G, J, none⟩) HSZ.out _)
                clear hnew
                go_wp2
                go_roundw
                case rel => exact ⟨k + 1, by go_num, by omega, by rw [hKK]; go_num, by rw [hKK]; exact ⟨HN.out, HBN.out⟩⟩
                case measure => simp [intOf]; omega
            · obtain rfl : k = s.size := by omega
              have hk' : ¬ ((s.size : Nat) : Int) < s.size := by omega
              have hcv : (convert 51 9 (.slice (some ⟨G, 0, none⟩) m m)).run Tryz.prog wr = .ok (.string (kpB s)) wr := by
                have h1 := HR.out.1
                rw [HM.out, Nat.sub_self, List.replicate_zero, List.append_nil] at h1
                exact conv_at (keepL (bs s)) wr G 0 m m HM.out.symm (fun j v hj => by
                  rw [Addr.add_mid, Nat.zero_add, cell_of_row _ _ _ _ _ _ h1, row, List.getElem?_toArray]
                  exact hj)
              go_wp2
              go_ret
              exact ⟨rfl, HR.out.2⟩
        · have d6 : decide (KK s s.size < s.size) = false := decide_eq_false hch
          have HSM : Hid (kpB s = s) := kpB_same s hch
          go_wp2
          go_ret
          exact ⟨by rw [HSM.out]; rfl, HBW.out⟩
end Go.Proofs.YtfbglffookacbaaGreatDoor.r4
