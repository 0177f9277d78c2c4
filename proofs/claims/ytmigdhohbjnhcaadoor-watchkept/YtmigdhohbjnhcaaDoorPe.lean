import Derived.Test.YtmigdhohbjnhcaaDoorPd
namespace Go.Proofs.YtmigdhohbjnhcaaDoor.pe
open Go.RowKit Go.PlainAid
open Go.Proofs.YtmigdhohbjnhcaaDoor.pl Go.Proofs.YtmigdhohbjnhcaaDoor.pa Go.Proofs.YtmigdhohbjnhcaaDoor.pb Go.Proofs.YtmigdhohbjnhcaaDoor.pc Go.Proofs.YtmigdhohbjnhcaaDoor.pd
set_option linter.unusedVariables false

structure Inv (g : Nat → Int) (N : Nat) (L : List Int) : Prop where
  len : L.length = 64
  rng : ∀ j, j < 64 → 0 ≤ L.getD j 0 ∧ L.getD j 0 ≤ 255
  eq : ∀ j, j < N % 64 → L.getD j 0 = g (64 * (N / 64) + j)

def szOf : Value → Nat | .string s => s.size | _ => 0

-- behind a copy that does not fill the block
theorem Inv.some {g : Nat → Int} {N : Nat} {L : List Int} (x : Inv g N L) (r : ByteArray) (n : Nat) (hr : ∀ j, j < r.size → bt r j = g (N + j)) (hn : n ≤ r.size) (h : N % 64 + n < 64) : Inv g (N + n) (laidL L (N % 64) (btL r n)) := by
  have hl : N % 64 + (btL r n).length ≤ L.length := by rw [btL_length, x.len]; omega
  have e1 : (N + n) % 64 = N % 64 + n := by omega
  have e2 : (N + n) / 64 = N / 64 := by omega
  refine ⟨by rw [laidL_length _ _ _ hl, x.len], fun j hj => ?_, fun j hj => ?_⟩
  · rcases Nat.lt_or_ge j (N % 64) with h1 | h1
    · rw [laidL_old _ _ _ hl _ h1]; exact x.rng j hj
    · rcases Nat.lt_or_ge j (N % 64 + n) with h2 | h2
      · obtain ⟨i, rfl⟩ : ∃ i, j = N % 64 + i := ⟨j - N % 64, by omega⟩
        rw [laidL_new _ _ _ hl _ (by rw [btL_length]; omega), btL_get _ _ _ (by omega)]
        exact ⟨bt_nonneg _ _, bt_le _ _⟩
      · rw [laidL_past _ _ _ hl _ (by rw [btL_length]; omega)]; exact x.rng j hj
  · rw [e1] at hj
    rw [e2]
    rcases Nat.lt_or_ge j (N % 64) with h1 | h1
    · rw [laidL_old _ _ _ hl _ h1]; exact x.eq j h1
    · obtain ⟨i, rfl⟩ : ∃ i, j = N % 64 + i := ⟨j - N % 64, by omega⟩
      rw [laidL_new _ _ _ hl _ (by rw [btL_length]; omega), btL_get _ _ _ (by omega), hr i (by omega)]
      congr 1; omega

-- behind a copy that fills it
theorem Inv.full {g : Nat → Int} {N : Nat} {L : List Int} (x : Inv g N L) (r : ByteArray) (n : Nat) (hr : ∀ j, j < r.size → bt r j = g (N + j)) (hn : n ≤ r.size) (h : N % 64 + n = 64) :
    Inv g (N + n) (laidL L (N % 64) (btL r n)) ∧ ∀ j, j < 64 → (laidL L (N % 64) (btL r n)).getD j 0 = g (64 * (N / 64) + j) := by
  have hl : N % 64 + (btL r n).length ≤ L.length := by rw [btL_length, x.len]; omega
  have key : ∀ j, j < 64 → (laidL L (N % 64) (btL r n)).getD j 0 = g (64 * (N / 64) + j) ∧ 0 ≤ (laidL L (N % 64) (btL r n)).getD j 0 ∧ (laidL L (N % 64) (btL r n)).getD j 0 ≤ 255 := fun j hj => by
    rcases Nat.lt_or_ge j (N % 64) with h1 | h1
    · rw [laidL_old _ _ _ hl _ h1]; exact ⟨x.eq j h1, x.rng j hj⟩
    · obtain ⟨i, rfl⟩ : ∃ i, j = N % 64 + i := ⟨j - N % 64, by omega⟩
      rw [laidL_new _ _ _ hl _ (by rw [btL_length]; omega), btL_get _ _ _ (by omega)]
      refine ⟨?_, bt_nonneg _ _, bt_le _ _⟩
      rw [hr i (by omega)]; congr 1; omega
  exact ⟨⟨by rw [laidL_length _ _ _ hl, x.len], fun j hj => (key j hj).2, fun j hj => by omega⟩, fun j hj => (key j hj).1⟩

theorem rest_size (r : ByteArray) (n : Nat) (h : n ≤ r.size) : (r.extract n r.size).size = r.size - n := by rw [ByteArray.size_extract]; omega
theorem rest_bt (r : ByteArray) (n M : Nat) (g : Nat → Int) (h : n ≤ r.size) (hr : ∀ j, j < r.size → bt r j = g (M + j)) : ∀ j, j < (r.extract n r.size).size → bt (r.extract n r.size) j = g (M + n + j) := fun j hj => by
  rw [rest_size r n h] at hj
  rw [bt_extract r n r.size j (by omega) (Nat.le_refl _), hr _ (by omega)]
  congr 1; omega

theorem size64b : (Tryd.prog.info? 56).map (·.size) = some 64 := by kernel_rfl

set_option maxHeartbeats 800000 in
set_option maxRecDepth 100000 in
theorem fill (h : Nat) (kk g : Nat → Int) (v0 : St) (N d : Nat) (L : List Int) (sz : Int) (q : ByteArray) (w : World) (h4 : 4 ≤ h) (HO : Hid v0.ok) (HD : Hid (d = N % 64)) (hqs : q.size ≤ 1152921504606846976)
    (HI : Hid (Inv g N L)) (HQ : Hid (∀ j, j < q.size → bt q j = g (N + j))) (HH : Hid (w.heap[h]? = some (.cells (hcells (hs kk g v0 (N / 64)) L sz) 58 (0, 0)))) (HK : Hid (KT w kk)) :
    Calls Tryd.prog 28 #[.pointer (some ⟨h, 8, none⟩), .int .i64 d, .string q, .func (.func 29) #[.pointer (some ⟨h, 0, none⟩)] #[]] w fun e w' => e = .returned (.tuple #[]) ∧ Keeps h w w' ∧ ∃ L', Inv g (N + q.size) L' ∧ w'.heap[h]? = some (.cells (hcells (hs kk g v0 ((N + q.size) / 64)) L' sz) 58 (0, 0)) := by
  go_enter Tryd.func28, Tryd.ntmps28
  go_wp2_with fail
  go_loopw [1, 2] (fun hd tx wr => ∃ (M d : Nat) (r : ByteArray) (L : List Int), r.size ≤ q.size ∧ Hid (M + r.size = N + q.size) ∧ Hid (d = M % 64) ∧ hd = .int .i64 d ∧ tx = .string r ∧ Hid (∀ j, j < r.size → bt r j = g (M + j)) ∧ Hid (Inv g M L) ∧ Hid (wr.heap[h]? = some (.cells (hcells (hs kk g v0 (M / 64)) L sz) 58 (0, 0))) ∧ Hid (Keeps h w wr)) (fun _ tx _ => szOf tx)
  case atStart => exact ⟨N, d, q, L, Nat.le_refl _, rfl, HD, rfl, rfl, HQ, HI, HH, Keeps.refl _ _⟩
  case round =>
    obtain ⟨M, d, r, L, hrq, HM, HD, rfl, rfl, HR, HI, HH, HKp⟩ := hrel
    by_cases hr : r.size = 0
    · have hr0 : decide (0 < r.size) = false := by simp [hr]
      have hr1 : decide (0 < (r.size : Int)) = false := by simp [hr]
      have HR0 : Hid _ := hr
      clear hr
      go_wp2
      go_end0
      have e : M = N + q.size := by have := HM.out; have := HR0.out; omega
      subst e
      exact ⟨rfl, HKp.out, L, HI.out, HH.out⟩
    · have hr0 : (0 : Int) < (r.size : Int) := by omega
      obtain ⟨n, hn⟩ : ∃ n, n = Nat.min r.size (64 - d) := ⟨_, rfl⟩
      have hd64 : d < 64 := by have := HD.out; omega
      have hn1 : n ≤ r.size := by rw [hn]; exact Nat.min_le_left _ _
      have hn2 : n ≤ 64 - d := by rw [hn]; exact Nat.min_le_right _ _
      have hn3 : n = r.size ∨ n = 64 - d := by rw [hn]; rcases Nat.le_total r.size (64 - d) with a | a; exact .inl (Nat.min_eq_left a); exact .inr (Nat.min_eq_right a)
      have hn0 : 1 ≤ n := by omega
      have hlen : (hcells (hs kk g v0 (M / 64)) L sz).size = 73 := by simp [hcells, hc, HI.out.len, St.list]
      have hcp := run_copy_str wr 3 h (8 + d) (64 - d) (64 - d) n r _ _ hn HH.out (by rw [hlen]; omega)
      have hbl : (btL r n).length = n := btL_length r n
      have hcc := hcells_copy (hs kk g v0 (M / 64)) L sz d (btL r n) (by rw [hbl, HI.out.len]; omega)
      rw [hbl] at hcc
      rw [hcc] at hcp
      have HH2 : Hid ((wr.setRow h (hcells (hs kk g v0 (M / 64)) (laidL L d (btL r n)) sz)).heap[h]? = some (.cells (hcells (hs kk g v0 (M / 64)) (laidL L d (btL r n)) sz) 58 (0, 0))) := setRow_heap _ _ _ _ _ _ HH.out
      have HK2 : Hid (Keeps h w (wr.setRow h (hcells (hs kk g v0 (M / 64)) (laidL L d (btL r n)) sz))) := HKp.out.setRow _
      generalize wr.setRow h (hcells (hs kk g v0 (M / 64)) (laidL L d (btL r n)) sz) = wr2 at *
      have hsl := fun W => sliceAt_l h 8 d d rfl hd64 W
      have HN3 : Hid _ := hn3
      have HN : Hid _ := hn
      clear hn hn3 hcc hbl hlen
      have hi1 : (0 : Int) ≤ (n : Int) := by omega
      have hi2 : (n : Int) ≤ (r.size : Int) := by omega
      by_cases hf : d + n = 64
      · have hf' : ((d : Int) + (n : Int) == 64) = true := by rw [beq_iff_eq]; omega
        have HF : Hid _ := hf
        clear hf
        have HX : Hid _ := (HD.out ▸ HI.out.full r n HR.out hn1 (by have := HD.out; have := HF.out; omega) : Inv g (M + n) (laidL L d (btL r n)) ∧ ∀ j, j < 64 → (laidL L d (btL r n)).getD j 0 = g (64 * (M / 64) + j))
        have HL2 : Hid ((laidL L d (btL r n)).length = 64) := HX.out.1.len
        generalize laidL L d (btL r n) = L2 at *
        have HRG : Hid (wr2.rangeAt h 8 (L2.map (Value.int .u8))) := fun j v hj => by
          have hjl : j < L2.length := by simpa using (List.getElem?_eq_some_iff.1 hj).1
          rw [cell_of_row _ _ _ _ _ _ HH2.out, hcells_at _ _ _ _ hjl, ← hj]
          simp [List.getD, hjl]
        have HI64 : Hid ((Tryd.prog.info? 56).map (·.size) = some (L2.map (Value.int .u8)).length) := by show _ = _; rw [List.length_map, HL2.out]; exact size64b
        go_wp2_with (refine wpList_load_mid rfl 56 (.tmp 28) rfl h 8 rfl (L2.map (Value.int .u8)) _ HRG.out Tryd.underlying56 rfl HI64.out ?_)
        refine (take h (hs kk g v0 (M / 64)) (L2.map (Value.int .u8) ++ [Value.int .i64 sz]) 58 (L2.map (Value.int .u8)).toArray (fun j => L2.getD j 0) kk wr2 h4 (hs_ok _ _ _ HO.out _) HH2 (show _ = _ by simp [HL2.out]) ?_ (HK.out.keep HK2.out h4)).mono ?_
        · intro j hj
          refine ⟨?_, HX.out.1.rng j hj⟩
          rw [List.getElem?_toArray]
          have hjl : j < L2.length := by rw [HL2.out]; exact hj
          simp [List.getD, hjl]
        rintro e w' ⟨rfl, hk, hh⟩
        have HK3 : Hid (Keeps h w w') := HK2.out.trans hk
        have HH3 : Hid _ := hh
        clear hk hh
        go_wp2
        go_roundw
        case rel =>
          have hs1 := rest_size r n hn1
          have hD := HD.out; have hF := HF.out; have hM := HM.out
          have e1 : (M + n) / 64 = M / 64 + 1 := by omega
          refine ⟨M + n, 0, r.extract n r.size, L2, by omega, (show _ = _ by omega), (show _ = _ by omega), rfl, rfl, rest_bt r n M g hn1 HR.out, HX.out.1, ?_, HK3⟩
          rw [e1]
          show _ = some (Obj.cells (hc (blockF kk g (64 * (M / 64)) (hs kk g v0 (M / 64))).list _) _ _)
          rw [← blockF_congr kk (fun j => L2.getD j 0) g 0 (64 * (M / 64)) _ (fun j hj => by rw [Nat.zero_add]; exact HX.out.2 j hj)]
          exact HH3.out
        case measure =>
          have hs1 := rest_size r n hn1
          simp only [szOf]; omega
      · have hf' : ((d : Int) + (n : Int) == 64) = false := by rw [beq_eq_false_iff_ne]; omega
        have HF : Hid (d + n < 64) := (show d + n < 64 by omega)
        clear hf
        have HX : Hid (Inv g (M + n) (laidL L d (btL r n))) := (HD.out ▸ HI.out.some r n HR.out hn1 (by have := HD.out; have := HF.out; omega) : Inv g (M + n) (laidL L d (btL r n)))
        generalize laidL L d (btL r n) = L2 at *
        go_wp2
        go_roundw
        case rel =>
          have hs1 := rest_size r n hn1
          have hD := HD.out; have hF := HF.out; have hM := HM.out
          have e1 : (M + n) / 64 = M / 64 := by omega
          refine ⟨M + n, d + n, r.extract n r.size, L2, by omega, (show _ = _ by omega), (show _ = _ by omega), by go_num, rfl, rest_bt r n M g hn1 HR.out, HX.out, ?_, HK2⟩
          rw [e1]
          exact HH2.out
        case measure =>
          have hs1 := rest_size r n hn1
          simp only [szOf]; omega
end Go.Proofs.YtmigdhohbjnhcaaDoor.pe
