import Derived.Test.YtmigdhohbjnhcaaDoorPa
import Derived.Deep.WholeRow
namespace Go.Proofs.YtmigdhohbjnhcaaDoor.pb
open Go.RowKit Go.PlainAid
open Go.Proofs.YtmigdhohbjnhcaaDoor.pl Go.Proofs.YtmigdhohbjnhcaaDoor.pa
set_option linter.unusedVariables false

theorem setCell_drewN (w : World) (n : Nat) (a : Addr) (v : Value) : (w.drewN n).setCell a v = (w.setCell a v).drewN n := rfl

theorem store_next (W : World) (m N : Nat) (l l' : List Int) (t : Nat) (v x : Int) (hN : N = W.heap.size) (hv : v = x) (hset : l.set t x = l') :
    ((W.alloc (.cells (row32 l) 64)).drewN m).setCell ⟨N, t, none⟩ (.int .u32 v) = (W.alloc (.cells (row32 l') 64)).drewN m := by
  rw [setCell_drewN, World.setCell_alloc_at _ _ _ _ _ hN, hv, row32_set, hset]

theorem al64 : Tryd.prog.arrayLen 56 = 64 := by kernel_rfl
theorem el64 : Tryd.prog.elem 56 = 5 := by kernel_rfl
theorem si8 (W : World) : (sizeOf 5).run Tryd.prog W = .ok 1 W := by
  have h : (Tryd.prog.info? 5).map (·.size) = some 1 := by kernel_rfl
  cases hq : Tryd.prog.info? 5 with
  | none => simp [hq] at h
  | some i => simp [hq] at h; simp [sizeOf, typeInfo, hq, h]
theorem un64 : Tryd.prog.underlying 56 = some (.array (Tryd.prog.arrayLen 56) (Tryd.prog.elem 56)) := by rw [al64, el64]; exact Tryd.underlying56

theorem sliceAt_lh (b o l h : Nat) (L H : Int) (hL : L = l) (hH : H = h) (h1 : l ≤ h) (h2 : h ≤ 64) (hl : l < 64) (W : World) :
    (Instr.sliceAt 56 (.pointer (some ⟨b, o, none⟩)) (some (.int .i64 L)) (some (.int .i64 H)) none).run Tryd.prog W = .ok (.slice (some ⟨b, o + l, none⟩) (h - l) (64 - l)) W := by
  subst hL hH
  rw [run_sliceAt_array_lh W 56 _ un64 .i64 .i64 l h (by omega) (by omega) (by rw [al64]; omega), el64, si8, al64]
  simp only [Result.andThen_ok, slicedAt, Int.toNat_natCast, Nat.mul_one]
  rw [if_neg (by omega), Addr.add_mid]
theorem sliceAt_l (b o l : Nat) (L : Int) (hL : L = l) (hl : l < 64) (W : World) :
    (Instr.sliceAt 56 (.pointer (some ⟨b, o, none⟩)) (some (.int .i64 L)) none none).run Tryd.prog W = .ok (.slice (some ⟨b, o + l, none⟩) (64 - l) (64 - l)) W := by
  subst hL
  rw [run_sliceAt_array_l W 56 _ un64 .i64 l (by omega) (by rw [al64]; omega), el64, si8, al64]
  simp only [Result.andThen_ok, slicedAt, Int.toNat_natCast, Nat.mul_one]
  rw [if_neg (by omega), Addr.add_mid]

theorem spreadZ (x I J K : Int) (w : World) (h0 : 0 ≤ x) (h1 : x < 4294967296) (i1 : 1 ≤ I) (i2 : I ≤ 31) (j1 : 1 ≤ J) (j2 : J ≤ 31) (k1 : 1 ≤ K) (k2 : K ≤ 31) :
    Calls Tryd.prog 48 #[.int .u32 x, .int .i64 I, .int .i64 J, .int .i64 K] w fun e w' => e = .returned (.int .u32 (SPR x I.toNat J.toNat K.toNat)) ∧ ∃ n, w' = w.drewN n := by
  obtain ⟨i, rfl⟩ := Int.eq_ofNat_of_zero_le (show 0 ≤ I by omega)
  obtain ⟨j, rfl⟩ := Int.eq_ofNat_of_zero_le (show 0 ≤ J by omega)
  obtain ⟨k, rfl⟩ := Int.eq_ofNat_of_zero_le (show 0 ≤ K by omega)
  exact spread x i j k w h0 h1 (by omega) (by omega) (by omega) (by omega) (by omega) (by omega)
theorem turnsZ (x I J K : Int) (w : World) (h0 : 0 ≤ x) (h1 : x < 4294967296) (i1 : 1 ≤ I) (i2 : I ≤ 31) (j1 : 1 ≤ J) (j2 : J ≤ 31) (k1 : 1 ≤ K) (k2 : K ≤ 31) :
    Calls Tryd.prog 40 #[.int .u32 x, .int .i64 I, .int .i64 J, .int .i64 K] w fun e w' => e = .returned (.int .u32 (TRN x I.toNat J.toNat K.toNat)) ∧ w' = w := by
  obtain ⟨i, rfl⟩ := Int.eq_ofNat_of_zero_le (show 0 ≤ I by omega)
  obtain ⟨j, rfl⟩ := Int.eq_ofNat_of_zero_le (show 0 ≤ J by omega)
  obtain ⟨k, rfl⟩ := Int.eq_ofNat_of_zero_le (show 0 ≤ K by omega)
  exact turns x i j k w h0 h1 (by omega) (by omega) (by omega) (by omega) (by omega) (by omega)
theorem spread1 (x : Int) (w : World) (h0 : 0 ≤ x) (h1 : x < 4294967296) : Calls Tryd.prog 48 #[.int .u32 x, .int .i64 17, .int .i64 19, .int .i64 10] w fun e w' => e = .returned (.int .u32 (S1 x)) ∧ ∃ n, w' = w.drewN n :=
  spread x 17 19 10 w h0 h1 (by omega) (by omega) (by omega) (by omega) (by omega) (by omega)
theorem spread0 (x : Int) (w : World) (h0 : 0 ≤ x) (h1 : x < 4294967296) : Calls Tryd.prog 48 #[.int .u32 x, .int .i64 7, .int .i64 18, .int .i64 3] w fun e w' => e = .returned (.int .u32 (S0 x)) ∧ ∃ n, w' = w.drewN n :=
  spread x 7 18 3 w h0 h1 (by omega) (by omega) (by omega) (by omega) (by omega) (by omega)
theorem turns1 (x : Int) (w : World) (h0 : 0 ≤ x) (h1 : x < 4294967296) : Calls Tryd.prog 40 #[.int .u32 x, .int .i64 6, .int .i64 11, .int .i64 25] w fun e w' => e = .returned (.int .u32 (BS1 x)) ∧ w' = w :=
  turns x 6 11 25 w h0 h1 (by omega) (by omega) (by omega) (by omega) (by omega) (by omega)
theorem turns0 (x : Int) (w : World) (h0 : 0 ≤ x) (h1 : x < 4294967296) : Calls Tryd.prog 40 #[.int .u32 x, .int .i64 2, .int .i64 13, .int .i64 22] w fun e w' => e = .returned (.int .u32 (BS0 x)) ∧ w' = w :=
  turns x 2 13 22 w h0 h1 (by omega) (by omega) (by omega) (by omega) (by omega) (by omega)

theorem info64 : (Tryd.prog.info? 64).map (·.size) = some 64 := by kernel_rfl

theorem keep4 (wr : World) (B t : Nat) (v : Value) (n : Nat) (x2 x7 x15 x16 : Value) (g2 : wr.cell? ⟨B, t - 2, none⟩ = some x2) (g7 : wr.cell? ⟨B, t - 7, none⟩ = some x7) (g15 : wr.cell? ⟨B, t - 15, none⟩ = some x15) (g16 : wr.cell? ⟨B, t - 16, none⟩ = some x16) (h : 16 ≤ (t : Int)) :
    ((wr.drewN n).setCell ⟨B, t, none⟩ v).cell? ⟨B, t - 2, none⟩ = some x2 ∧ ((wr.drewN n).setCell ⟨B, t, none⟩ v).cell? ⟨B, t - 7, none⟩ = some x7 ∧ ((wr.drewN n).setCell ⟨B, t, none⟩ v).cell? ⟨B, t - 15, none⟩ = some x15 ∧ ((wr.drewN n).setCell ⟨B, t, none⟩ v).cell? ⟨B, t - 16, none⟩ = some x16 := by
  have e : ∀ d, 1 ≤ d → d ≤ 16 → ((wr.drewN n).setCell ⟨B, t, none⟩ v).cell? ⟨B, t - d, none⟩ = wr.cell? ⟨B, t - d, none⟩ := fun d h1 h2 => World.cell?_setCell_other _ _ _ _ (by intro hh; injection hh with _ h2 _; omega)
  exact ⟨(e 2 (by omega) (by omega)).trans g2, (e 7 (by omega) (by omega)).trans g7, (e 15 (by omega) (by omega)).trans g15, (e 16 (by omega) (by omega)).trans g16⟩

theorem wrap_sum (a b c d : Int) : IntKind.u32.wrap (IntKind.u32.wrap (IntKind.u32.wrap (a + b) + c) + d) = (a + b + c + d) % 4294967296 := by
  simp only [IntKind.wrap_u32]; omega

structure Lay (w : World) (R V X : Array Value) (wr : World) : Prop where
  lr : wr.heap[w.heap.size]? = some (.cells R 56 (0, 0))
  lv : wr.heap[w.heap.size + 1]? = some (.cells V 64 (0, 0))
  lx : wr.heap[w.heap.size + 1 + 1]? = some (.cells X 64 (0, 0))
  lb : Below w.heap.size w wr

theorem wrap_small (x : Int) (h0 : 0 ≤ x) (h1 : x < 4294967296) : IntKind.u32.wrap x = x := by
  rw [IntKind.wrap_u32]; omega

theorem fillW_at (g : Nat → Int) (p t : Nat) (h : t < 64) : (fillW g p t)[t]? = some 0 := by
  rw [fillW, List.getElem?_append_right (by rw [wL_length]; omega), wL_length, List.getElem?_replicate]
  rw [if_pos (by omega)]

theorem Lay.set {w : World} {R V : Array Value} {l l' : List Int} {wr : World} (h : Lay w R V (row32 l) wr) (t : Nat) (v : Int) (hs : l.set t v = l') (n : Nat) : Lay w R V (row32 l') ((wr.setCell ⟨w.heap.size + 1 + 1, t, none⟩ (.int .u32 v)).drewN n) := by
  refine ⟨?_, ?_, ?_, ?_⟩
  · show (wr.setCell _ _).heap[_]? = _
    rw [heap_setCell_other _ _ _ _ (by simp; omega)]; exact h.lr
  · show (wr.setCell _ _).heap[_]? = _
    rw [heap_setCell_other _ _ _ _ (by simp)]; exact h.lv
  · show (wr.setCell _ _).heap[_]? = _
    rw [heap_setCell_same _ _ _ _ _ _ h.lx, row32_set, hs]
  · exact below_drewN (h.lb.setCell (by simp; omega) _) n

set_option maxHeartbeats 400000 in
theorem schedule (R : Array Value) (g : Nat → Int) (w : World) (HRs : Hid (R.size = 64)) (HR : Hid (∀ j, j < 64 → R[j]? = some (.int .u8 (g j)) ∧ 0 ≤ g j ∧ g j ≤ 255)) :
    Calls Tryd.prog 39 #[.agg R] w fun e w' => e = .returned (.agg (row32 (wL g 0 64))) ∧ Below w.heap.size w w' := by
  go_enter Tryd.func39, Tryd.ntmps39
  go_wp2_with fail
  go_loopw [7] (fun i wr => ∃ k : Nat, k ≤ 16 ∧ i = .int .i64 k ∧ Lay w R z64 (row32 (fillW g 0 k)) wr) (fun i _ => (16 - intOf i).toNat)
  case atStart =>
    refine ⟨0, by omega, rfl, ⟨?_, ?_, ?_, ?_⟩⟩
    · rw [heap_alloc_old _ _ (by simp; omega), heap_alloc_old _ _ (by simp)]; exact heap_alloc_new w _
    · rw [heap_alloc_old _ _ (by simp)]; exact heap_alloc2_new w _ _
    · have h := heap_alloc2_new (w.alloc (.cells R 56)) (.cells z64 64) (.cells z64 64)
      rw [show (w.alloc (.cells R 56)).heap.size = w.heap.size + 1 by simp] at h
      exact h
    · exact (((Below.refl _ _).alloc (Nat.le_refl _) _).alloc (by simp) _).alloc (by simp; omega) _
  case round =>
    obtain ⟨k, hk, rfl, lay⟩ := hrel
    have LAY : Hid (Lay _ _ _ _ _) := lay
    clear lay
    by_cases hlt : k < 16
    · have hlt' : (k : Int) < 16 := by omega
      have hk64 : (k : Int) < 64 := by omega
      have hk0 : (0 : Int) ≤ (k : Int) := by omega
      have hcr : ∀ j, j < 64 → wr.cell? ⟨w.heap.size, j, none⟩ = some (.int .u8 (g j)) := by
        intro j hj
        rw [cell_of_row _ _ _ _ _ _ LAY.out.lr]
        exact (HR.out j hj).1
      have c0 := hcr (4 * k) (by omega)
      have c1 := hcr (4 * k + 1) (by omega)
      have c2 := hcr (4 * k + 2) (by omega)
      have c3 := hcr (4 * k + 3) (by omega)
      clear hcr
      obtain ⟨b0, b0'⟩ := (HR.out (4 * k) (by omega)).2
      obtain ⟨b1, b1'⟩ := (HR.out (4 * k + 1) (by omega)).2
      obtain ⟨b2, b2'⟩ := (HR.out (4 * k + 2) (by omega)).2
      obtain ⟨b3, b3'⟩ := (HR.out (4 * k + 3) (by omega)).2
      have w0 := wrap_small (g (4 * k)) (by omega) (by omega)
      have w0' := wrap_small (g (4 * k) * 16777216) (by omega) (by omega)
      have w1 := wrap_small (g (4 * k + 1)) (by omega) (by omega)
      have w1' := wrap_small (g (4 * k + 1) * 65536) (by omega) (by omega)
      have w2 := wrap_small (g (4 * k + 2)) (by omega) (by omega)
      have w2' := wrap_small (g (4 * k + 2) * 256) (by omega) (by omega)
      have w3 := wrap_small (g (4 * k + 3)) (by omega) (by omega)
      have hne : w.heap.size + 1 + 1 ≠ w.heap.size := by omega
      have HX : Hid _ := fillW_set g 0 k _ (by omega) (wL_low g 0 k hlt)
      rw [Nat.zero_add] at HX
      have X1 : wr.cell? ⟨w.heap.size + 1 + 1, k, none⟩ = some (.int .u32 0) := by
        rw [cell_of_row _ _ _ _ _ _ LAY.out.lx, row32_get, fillW_at g 0 k (by omega)]; rfl
      have F1 : wr.frozen? ⟨w.heap.size + 1 + 1, k, none⟩ = false := frozen_of_row _ _ _ _ _ LAY.out.lx
      have hsl := fun W => sliceAt_lh w.heap.size 0 (4 * k) (4 * k + 4) (4 * (k : Int)) (4 * (k : Int) + 4) (by omega) (by omega) (by omega) (by omega) (by omega) W
      simp only [Nat.zero_add, show 4 * k + 4 - 4 * k = 4 by omega] at hsl
      go_wp2_with fail
      go_region_held3 (fun w' => w'.cell? ⟨w.heap.size, 4 * k, none⟩ = some (.int .u8 (g (4 * k))) ∧ w'.cell? ⟨w.heap.size, 4 * k + 1, none⟩ = some (.int .u8 (g (4 * k + 1))) ∧ w'.cell? ⟨w.heap.size, 4 * k + 2, none⟩ = some (.int .u8 (g (4 * k + 2))) ∧ w'.cell? ⟨w.heap.size, 4 * k + 3, none⟩ = some (.int .u8 (g (4 * k + 3)))) (go_keep) (fail)
      go_wp2
      go_roundw
      case rel => exact ⟨k + 1, by omega, by go_num, LAY.out.set k _ HX.out 1⟩
      case measure => simp [intOf]; omega
    · have hlt' : ¬ (k : Int) < 16 := by omega
      obtain rfl : k = 16 := by omega
      go_wp2_with fail
      go_loopw [6] (fun i wr => ∃ t : Nat, 16 ≤ t ∧ t ≤ 64 ∧ i = .int .i64 t ∧ Lay w R z64 (row32 (fillW g 0 t)) wr) (fun i _ => (64 - intOf i).toNat)
      case atStart => exact ⟨16, by omega, by omega, rfl, LAY.out⟩
      case round =>
        obtain ⟨t, ht1, ht2, rfl, lay⟩ := hrel
        clear LAY
        have LAY : Hid (Lay _ _ _ _ _) := lay
        clear lay
        by_cases hlt : t < 64
        · have hlt' : (t : Int) < 64 := by omega
          have ht0 : (0 : Int) ≤ (t : Int) := by omega
          have ht16 : (16 : Int) ≤ (t : Int) := by omega
          have HX : Hid _ := fillW_set g 0 t _ hlt (wL_high g 0 t (by omega))
          have get : ∀ d, 1 ≤ d → d ≤ 16 → wr.cell? ⟨w.heap.size + 1 + 1, t - d, none⟩ = some (.int .u32 ((wL g 0 t).getD (t - d) 0)) := by
            intro d h1 h2
            rw [cell_of_row _ _ _ _ _ _ LAY.out.lx, row32_get, fillW_get g 0 t (t - d) (by omega)]; rfl
          have g15 := get 15 (by omega) (by omega)
          have g2 := get 2 (by omega) (by omega)
          have g7 := get 7 (by omega) (by omega)
          have g16 := get 16 (by omega) (by omega)
          have r15 := wL_range g 0 t (t - 15)
          have r2 := wL_range g 0 t (t - 2)
          clear get
          have HN : Hid (nextW (wL g 0 t) t = (S1 ((wL g 0 t).getD (t - 2) 0) + (wL g 0 t).getD (t - 7) 0 + S0 ((wL g 0 t).getD (t - 15) 0) + (wL g 0 t).getD (t - 16) 0) % 4294967296) := rfl
          revert HN g15 g2 g7 g16 r15 r2
          generalize (wL g 0 t).getD (t - 15) 0 = x15
          generalize (wL g 0 t).getD (t - 2) 0 = x2
          generalize (wL g 0 t).getD (t - 7) 0 = x7
          generalize (wL g 0 t).getD (t - 16) 0 = x16
          intro g15 g2 g7 g16 r15 r2 HN
          obtain ⟨r15a, r15b⟩ := r15
          obtain ⟨r2a, r2b⟩ := r2
          have X1 : wr.cell? ⟨w.heap.size + 1 + 1, t, none⟩ = some (.int .u32 0) := by
            rw [cell_of_row _ _ _ _ _ _ LAY.out.lx, row32_get, fillW_at g 0 t (by omega)]; rfl
          have F1 : wr.frozen? ⟨w.heap.size + 1 + 1, t, none⟩ = false := frozen_of_row _ _ _ _ _ LAY.out.lx
          have i2 : IntKind.i64.wrap ((t : Int) - 2) = (t : Int) - 2 := by rw [IntKind.wrap_i64]; omega
          have j2 : (0 : Int) ≤ (t : Int) - 2 := by omega
          have m2 : (2 : Int) ≤ (t : Int) := by omega
          have k2 : (t : Int) - 2 < 64 := by omega
          have l2 : ((t : Int) - 2).toNat = t - 2 := by omega
          have i7 : IntKind.i64.wrap ((t : Int) - 7) = (t : Int) - 7 := by rw [IntKind.wrap_i64]; omega
          have j7 : (0 : Int) ≤ (t : Int) - 7 := by omega
          have m7 : (7 : Int) ≤ (t : Int) := by omega
          have k7 : (t : Int) - 7 < 64 := by omega
          have l7 : ((t : Int) - 7).toNat = t - 7 := by omega
          have i15 : IntKind.i64.wrap ((t : Int) - 15) = (t : Int) - 15 := by rw [IntKind.wrap_i64]; omega
          have j15 : (0 : Int) ≤ (t : Int) - 15 := by omega
          have m15 : (15 : Int) ≤ (t : Int) := by omega
          have k15 : (t : Int) - 15 < 64 := by omega
          have l15 : ((t : Int) - 15).toNat = t - 15 := by omega
          have i16 : IntKind.i64.wrap ((t : Int) - 16) = (t : Int) - 16 := by rw [IntKind.wrap_i64]; omega
          have j16 : (0 : Int) ≤ (t : Int) - 16 := by omega
          have k16 : (t : Int) - 16 < 64 := by omega
          have l16 : ((t : Int) - 16).toNat = t - 16 := by omega
          go_wp2_with fail
          go_region_held3 (fun w' => w'.cell? ⟨w.heap.size + 1 + 1, t - 2, none⟩ = some (.int .u32 x2) ∧ w'.cell? ⟨w.heap.size + 1 + 1, t - 7, none⟩ = some (.int .u32 x7) ∧ w'.cell? ⟨w.heap.size + 1 + 1, t - 15, none⟩ = some (.int .u32 x15) ∧ w'.cell? ⟨w.heap.size + 1 + 1, t - 16, none⟩ = some (.int .u32 x16)) (first | exact ⟨g2, g7, g15, g16⟩ | exact keep4 _ _ _ _ _ _ _ _ _ g2 g7 g15 g16 ht16) ((go_at_call 48; refine (spreadZ _ _ _ _ _ (by assumption) (by assumption) (by omega) (by omega) (by omega) (by omega) (by omega) (by omega)).mono ?_; rintro e w' ⟨rfl, n1, rfl⟩))
          go_wp2
          go_roundw
          case rel => exact ⟨t + 1, by omega, by omega, by go_num, LAY.out.set t _ ((congrArg _ ((wrap_sum _ _ _ _).trans HN.out.symm)).trans HX.out) _⟩
          case measure => simp [intOf]; omega
        · have hlt' : ¬ (t : Int) < 64 := by omega
          obtain rfl : t = 64 := by omega
          have hf : fillW g 0 64 = wL g 0 64 := by simp [fillW]
          rw [hf] at LAY
          have hlen : (row32 (wL g 0 64)).size = 64 := by rw [row32_size, wL_length]
          have hi : (Tryd.prog.info? 64).map (·.size) = some (row32 (wL g 0 64)).size := by rw [hlen]; kernel_rfl
          have h3 : (row32 (wL g 0 64)).all (·.oneCell') = true := by simp [row32, Value.oneCell']
          have h4 : z64.size = (row32 (wL g 0 64)).size := by rw [hlen]; rfl
          have HI : Hid _ := hi; have H3 : Hid _ := h3; have H4 : Hid _ := h4
          clear hf hlen hi h3 h4
          go_wp2_with (first | (refine wpList_load_row rfl 64 (.tmp 3) rfl (w.heap.size + 1 + 1) rfl 64 (row32 (wL g 0 64)) (0, 0) _ LAY.out.lx Tryd.underlying64 rfl HI.out ?_) | (refine wpList_store_row rfl 64 (.tmp 2) (.tmp 68) rfl (w.heap.size + 1) (row32 (wL g 0 64)) rfl rfl 64 z64 LAY.out.lv HI.out H4.out H3.out ?_))
          exact bodyPost_ret (v := .agg (row32 (wL g 0 64))) (results_cell_row Tryd.results39 _ _ (w.heap.size + 1) 64 _ (0, 0) _ rfl (setRow_heap _ _ _ _ _ _ LAY.out.lv) Tryd.underlying64 rfl HI.out) rfl ⟨rfl, below_setRow LAY.out.lb (by omega) _⟩
end Go.Proofs.YtmigdhohbjnhcaaDoor.pb
