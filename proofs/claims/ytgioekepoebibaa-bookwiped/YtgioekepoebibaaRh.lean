import Derived.Test.YtgioekepoebibaaRg
namespace Go.Proofs.Ytgioekepoebibaa.rh
open Go.RowKit Go.PlainAid
open Go.Proofs.Ytgioekepoebibaa.ra Go.Proofs.Ytgioekepoebibaa.rb Go.Proofs.Ytgioekepoebibaa.nb Go.Proofs.Ytgioekepoebibaa.rc Go.Proofs.Ytgioekepoebibaa.rg
set_option linter.unusedVariables false

set_option maxHeartbeats 800000 in
theorem shifted (r : Nat) (w : World) (hr : r < 4294967296) :
    Calls Try.prog 91 #[.int .u32 r] w fun e w' => e = .returned (.int .u32 (sts 8 r : Nat)) ∧ w' = w := by
  go_enter Try.func91, Try.ntmps91
  go_wp2
  go_loop [0, 4] (fun x j => ∃ t X : Nat, t ≤ 8 ∧ j = .int .i64 t ∧ x = .int .u32 X ∧ X < 4294967296 ∧ Hid (X = sts t r)) (fun _ j => (8 - intOf j).toNat)
  case atStart => exact ⟨0, r, by omega, rfl, rfl, hr, rfl⟩
  case round =>
    obtain ⟨t, X, ht, rfl, rfl, hX, HT⟩ := hrel
    by_cases hl8 : t < 8
    · have hl8' : (t : Int) < 8 := by omega
      have HA : Hid _ := and_one X hX
      have HP : Hid _ := xor_po (X / 2) (by omega)
      rcases Nat.mod_two_eq_zero_or_one X with hm | hm
      · have HS : Hid (X / 2 = st X) := st0 X hm
        rw [hm] at HA
        have h01 : (bits .and .u32 (X : Int) 1 == 1) = false := by rw [HA.out]; rfl
        go_wp2
        go_round
        case rel => exact ⟨t + 1, X / 2, by omega, by go_num, by go_num, by omega, by rw [sts_succ, ← HT.out]; exact HS.out⟩
        case measure => simp [intOf]; omega
      · have HS : Hid ((X / 2) ^^^ PO = st X) := st1 X hm
        rw [hm] at HA
        have h01 : (bits .and .u32 (X : Int) 1 == 1) = true := by rw [HA.out]; rfl
        go_wp2
        go_round
        case rel => exact ⟨t + 1, (X / 2) ^^^ PO, by omega, by go_num, by rw [← HP.out]; go_num, by rw [HS.out]; exact st_lt X hX, by rw [sts_succ, ← HT.out]; exact HS.out⟩
        case measure => simp [intOf]; omega
    · have hl8' : ¬ (t : Int) < 8 := by omega
      obtain rfl : t = 8 := by omega
      go_wp2
      go_ret
      exact ⟨by rw [HT.out]; rfl, rfl⟩

theorem wpList_alloc {P : Program} {ops : Array Oper} {rest : List Oper} {o : Oper} {a : Act} {w : World} {Q : Exit → Act → World → Prop} (hgd : o.guard = none) (t : TypeId) (ho : o.op = .alloc t) (v : Value) (w' : World)
    (hrun : (Instr.alloc t true (.tuple #[])).run P w = .ok v w') (h : wpList P ops Q rest (a.put o.dst v) w') : wpList P ops Q (o :: rest) a w := by
  refine wpList_plain hgd fun K hK => ?_
  unfold Oper.wp execOp
  simp only [ho, Sem.run_bind, hrun, Result.andThen_ok, Sem.run_pure]
  exact hK _ _ h
set_option maxRecDepth 100000 in
theorem alloc256 (W : World) : (Instr.alloc 112 true (.tuple #[])).run Try.prog W = .ok (.pointer (some ⟨W.heap.size, 0, none⟩)) (W.alloc (.cells zT 112)) := by kernel_rfl
theorem info256 : (Try.prog.info? 112).map (·.size) = some 256 := by kernel_rfl

structure LayB (w : World) (X : Array Value) (wr : World) : Prop where
  lr : wr.heap[w.heap.size]? = some (.cells zT 112 (0, 0))
  lx : wr.heap[w.heap.size + 1]? = some (.cells X 112 (0, 0))
  lb : Below w.heap.size w wr
theorem LayB.set {w : World} {l l' : List Int} {wr : World} (h : LayB w (row32 l) wr) (t : Nat) (v : Int) (hs : l.set t v = l') : LayB w (row32 l') (wr.setCell ⟨w.heap.size + 1, t, none⟩ (.int .u32 v)) := by
  refine ⟨?_, ?_, ?_⟩
  · rw [heap_setCell_other _ _ _ _ (by simp)]; exact h.lr
  · rw [heap_setCell_same _ _ _ _ _ _ h.lx, row32_set, hs]
  · exact h.lb.setCell (by simp) _

set_option maxHeartbeats 1600000 in
set_option maxRecDepth 100000 in
theorem byteSums (w : World) : Calls Try.prog 83 #[] w fun e w' => e = .returned (.agg (row32 (tabL 256))) ∧ Below w.heap.size w w' := by
  go_enter Try.func83, Try.ntmps83
  go_wp2_with (refine wpList_alloc rfl 112 rfl _ _ (alloc256 _) ?_)
  go_loopw [2] (fun i wr => ∃ k T : Nat, k ≤ 8 ∧ Hid (T = 2 ^ k) ∧ 1 ≤ T ∧ T ≤ 256 ∧ i = .int .i64 T ∧ Hid (LayB w (row32 (tabL T)) wr)) (fun i _ => (256 - intOf i).toNat)
  case atStart =>
    refine ⟨0, 1, by omega, rfl, by omega, by omega, rfl, ⟨?_, ?_, ?_⟩⟩
    · rw [heap_alloc_old _ _ (by simp)]; exact heap_alloc_new w _
    · rw [← tabL_one]; exact heap_alloc2_new w _ _
    · exact ((Below.refl _ _).alloc (Nat.le_refl _) _).alloc (by simp) _
  case round =>
    obtain ⟨k, T, hk, HT, t1, t2, rfl, LAY⟩ := hrel
    by_cases hlt : T < 256
    · have hlt' : (T : Int) < 256 := by omega
      have hk8 : k < 8 := by
        have := HT.out
        rcases Nat.lt_or_ge k 8 with h | h
        · exact h
        · obtain rfl : k = 8 := by omega
          rw [this] at hlt; omega
      have t32 : IntKind.u32.wrap (T : Int) = (T : Int) := by rw [IntKind.wrap_u32]; omega
      go_wp2_with fail
      refine (shifted T _ (by omega)).mono ?_
      rintro e w1 ⟨rfl, rfl⟩
      have sT := sts_lt 8 T (by omega)
      go_wp2_with fail
      go_loopw [13] (fun j wr => ∃ r : Nat, r ≤ T ∧ j = .int .i64 r ∧ Hid (LayB w (row32 (tabL (T + r))) wr)) (fun j _ => (T - intOf j).toNat)
      case atStart => exact ⟨0, by omega, rfl, LAY.out⟩
      case round =>
        obtain ⟨r, hr, rfl, LAY2⟩ := hrel
        clear LAY
        by_cases hrt : r < T
        · have hrt' : (r : Int) < T := by omega
          have hT2 : T + r < 256 := by
            have h1 : T ≤ 128 := by
              rw [HT.out]
              exact Nat.pow_le_pow_right (n := 2) (i := k) (j := 7) (by omega) (by omega)
            omega
          have a1 : IntKind.i64.wrap ((T : Int) + (r : Int)) = (T : Int) + (r : Int) := by rw [IntKind.wrap_i64]; omega
          have a2 : (T : Int) + (r : Int) < 256 := by omega
          have a3 : ((T : Int) + (r : Int)).toNat = T + r := by omega
          have a4 : (0 : Int) ≤ (T : Int) + (r : Int) := by omega
          have a5 : (r : Int) < 256 := by omega
          have C1 : wr.cell? ⟨w.heap.size + 1, r, none⟩ = some (.int .u32 ((sts 8 r : Nat) : Int)) := by
            rw [cell_of_row _ _ _ _ _ _ LAY2.out.lx, row32_get, tabL_low _ _ (by omega) (by omega)]; rfl
          have C2 : wr.cell? ⟨w.heap.size + 1, T + r, none⟩ = some (.int .u32 0) := by
            rw [cell_of_row _ _ _ _ _ _ LAY2.out.lx, row32_get, tabL_get _ _ (by omega), if_neg (by omega)]; rfl
          have F2 : wr.frozen? ⟨w.heap.size + 1, T + r, none⟩ = false := frozen_of_row _ _ _ _ _ LAY2.out.lx
          have HX : Hid (bits .xor .u32 ((sts 8 T : Nat) : Int) ((sts 8 r : Nat) : Int) = ((sts 8 (T + r) : Nat) : Int)) := by
            show _ = _
            have e : sts 8 (T + r) = sts 8 T ^^^ sts 8 r := by rw [HT.out]; exact sts_top k r (by rw [← HT.out]; exact hrt)
            rw [u32_xor_nat _ _ sT (sts_lt 8 r (by omega)), e]
          go_wp2
          go_roundw
          case rel => exact ⟨r + 1, by omega, by go_num, LAY2.out.set (T + r) _ (tabL_set (T + r) _ hT2 HX.out)⟩
          case measure => simp [intOf]; omega
        · have hrt' : ¬ (r : Int) < T := by omega
          obtain rfl : r = T := by omega
          go_wp2
          go_roundw
          case rel =>
            refine ⟨k + 1, r * 2, by omega, ?_, by omega, ?_, by go_num, ?_⟩
            · show _ = _; rw [HT.out, Nat.pow_succ]
            · have := Nat.pow_le_pow_right (n := 2) (i := k + 1) (j := 8) (by omega) (by omega)
              rw [HT.out, ← Nat.pow_succ]; omega
            · rw [show r * 2 = r + r by omega]; exact LAY2.out
          case measure => simp [intOf]; omega
    · have hlt' : ¬ (T : Int) < 256 := by omega
      obtain rfl : T = 256 := by omega
      have hlen : (row32 (tabL 256)).size = 256 := by rw [row32_size, tabL_length]
      have HI : Hid ((Try.prog.info? 112).map (·.size) = some (row32 (tabL 256)).size) := by show _ = _; rw [hlen]; exact info256
      have H3 : Hid ((row32 (tabL 256)).all (·.oneCell') = true) := by show _ = _; simp [row32, Value.oneCell']
      have H4 : Hid (zT.size = (row32 (tabL 256)).size) := by show _ = _; rw [hlen, tabL_one, row32_size, tabL_length]
      clear hlen
      obtain ⟨WL, HW⟩ : ∃ WL, Hid (row32 (tabL 256) = WL) := ⟨_, rfl⟩
      rw [HW.out] at HI H3 H4 LAY
      go_wp2_with (first | (refine wpList_load_row rfl 112 (.tmp 1) rfl (w.heap.size + 1) rfl 112 WL (0, 0) _ LAY.out.lx Try.underlying112 rfl HI.out ?_) | (refine wpList_store_row rfl 112 (.tmp 0) (.tmp 26) rfl w.heap.size WL rfl rfl 112 zT LAY.out.lr HI.out H4.out H3.out ?_))
      exact bodyPost_ret (v := .agg WL) (results_cell_row Try.results83 _ _ w.heap.size 112 _ (0, 0) _ rfl (setRow_heap _ _ _ _ _ _ LAY.out.lr) Try.underlying112 rfl HI.out) rfl ⟨by rw [HW.out], below_setRow LAY.out.lb (by omega) _⟩
end Go.Proofs.Ytgioekepoebibaa.rh
