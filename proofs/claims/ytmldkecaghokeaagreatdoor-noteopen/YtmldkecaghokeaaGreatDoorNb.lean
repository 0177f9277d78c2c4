import Derived.Test.YtmldkecaghokeaaGreatDoorNa
namespace Go.Proofs.YtmldkecaghokeaaGreatDoor.nb
open Go.RowKit Go.PlainAid
open Go.Proofs.YtmldkecaghokeaaGreatDoor.pl Go.Proofs.YtmldkecaghokeaaGreatDoor.pb Go.Proofs.YtmldkecaghokeaaGreatDoor.pc Go.Proofs.YtmldkecaghokeaaGreatDoor.pd Go.Proofs.YtmldkecaghokeaaGreatDoor.pe Go.Proofs.YtmldkecaghokeaaGreatDoor.pf Go.Proofs.YtmldkecaghokeaaGreatDoor.pg Go.Proofs.YtmldkecaghokeaaGreatDoor.ph Go.Proofs.YtmldkecaghokeaaGreatDoor.pi Go.Proofs.YtmldkecaghokeaaGreatDoor.ft Go.Proofs.YtmldkecaghokeaaGreatDoor.pj Go.Proofs.YtmldkecaghokeaaGreatDoor.mo Go.Proofs.YtmldkecaghokeaaGreatDoor.na
set_option linter.unusedVariables false
set_option maxRecDepth 4000

-- the key as a block
def fillL (k : ByteArray) : List Int := (List.range 64).map (kbt k)
theorem fillL_length (k : ByteArray) : (fillL k).length = 64 := by simp [fillL]
theorem fillL_get (k : ByteArray) (j : Nat) (h : j < 64) : (fillL k)[j]? = some (kbt k j) := by simp [fillL, h]
def zL64 : List Int := List.replicate 64 0
def zB : Array Value := row zL64
theorem filled_row (k : ByteArray) (n : Nat) (hn : n = k.size) (h : k.size ≤ 64) : ((row zL64).toList.take 0 ++ (btL k n).map (Value.int .u8) ++ (row zL64).toList.drop (0 + n)).toArray = row (fillL k) := by
  subst hn
  apply Array.ext_getElem?
  intro j
  rw [row_get]
  by_cases hj : j < 64
  · rw [fillL_get k j hj]
    rw [List.getElem?_toArray, List.take_zero, List.nil_append, Nat.zero_add]
    by_cases hk : j < k.size
    · rw [List.getElem?_append_left (by rw [List.length_map, btL_length]; exact hk)]
      simp [kbt, btL, hk]
    · rw [List.getElem?_append_right (by rw [List.length_map, btL_length]; omega), List.length_map, btL_length, List.getElem?_drop, Array.getElem?_toList, row_get, zL64, List.getElem?_replicate, if_pos (by omega)]
      simp [kbt, hk]
  · rw [List.getElem?_eq_none (by rw [fillL_length]; omega)]
    simp [zL64, row, btL_length]
    omega

theorem alloc64b (W : World) : (Instr.alloc 73 true (.tuple #[])).run Tryz.prog W = .ok (.pointer (some ⟨W.heap.size, 0, none⟩)) (W.alloc (.cells (row zL64) 73)) := by kernel_rfl

theorem sliceAt_all (b : Nat) (W : World) :
    (Instr.sliceAt 73 (.pointer (some ⟨b, 0, none⟩)) none none none).run Tryz.prog W = .ok (.slice (some ⟨b, 0, none⟩) 64 64) W := by
  rw [run_sliceAt_array_all W 73 _ un64, el64, al64]
  first | rfl | simp [slicedAt, si8]

theorem World.lt_of_heap {w : World} {b : Nat} {o : Obj} (h : w.heap[b]? = some o) : b < w.heap.size := (Array.getElem?_eq_some_iff.1 h).1

set_option maxHeartbeats 800000 in
theorem filled (key : ByteArray) (w : World) (hk : key.size ≤ 140737488352256) (T : Hid (Tab w)) :
    Calls Tryz.prog 38 #[.string key] w fun e w' => e = .returned (.agg (row (fillL (keyS key)))) ∧ Below w.heap.size w w' := by
  have HS := keyS_size key
  have HB0 : Hid (Below w.heap.size w (w.alloc (.cells (row zL64) 73))) := (Below.refl _ _).alloc (Nat.le_refl _) _
  have HR0 : Hid ((w.alloc (.cells (row zL64) 73)).heap[w.heap.size]? = some (.cells (row zL64) 73 (0, 0))) := heap_alloc_new w _
  have ws0 : (w.alloc (.cells (row zL64) 73)).heap.size = w.heap.size + 1 := by simp
  by_cases h64 : 64 < key.size
  · have h64' : (key.size : Int) > 64 := by omega
    have HKS : Hid (keyS key = sha key) := by show _ = _; unfold keyS; rw [if_pos h64]
    go_enter Tryz.func38, Tryz.ntmps38
    go_wp2_with (refine wpList_alloc rfl 73 rfl _ _ (alloc64b _) ?_)
    refine (Sum key _ (by omega) (T.out.down HB0.out)).mono ?_
    rintro e w1 ⟨rfl, hb1⟩
    rw [← HKS.out]
    have B1 : Hid (Below w.heap.size w w1) := HB0.out.trans (hb1.mono HB0.out.size)
    have HR1 : Hid (w1.heap[w.heap.size]? = some (.cells (row zL64) 73 (0, 0))) := (hb1.block _ (by rw [ws0]; omega)).trans HR0.out
    clear hb1 HR0 HB0 ws0 HKS
    obtain ⟨k, HK⟩ : ∃ k, Hid (keyS key = k) := ⟨_, rfl⟩
    rw [HK.out]
    rw [HK.out] at HS
    have hsl := fun W => sliceAt_all w1.heap.size W
    have hcp := run_copy_str (w1.alloc (.cells (row zL64) 73)) 3 w1.heap.size 0 64 64 k.size k _ _ (show k.size = Nat.min k.size 64 from (Nat.min_eq_left HS).symm) (heap_alloc_new w1 _) (by rw [row_size]; simp [zL64]; omega)
    rw [filled_row k k.size rfl HS, World.setRow_alloc_new] at hcp
    have HX : Hid ((w1.alloc (.cells (row (fillL k)) 73)).heap[w1.heap.size]? = some (.cells (row (fillL k)) 73 (0, 0))) := heap_alloc_new w1 _
    have HY : Hid ((w1.alloc (.cells (row (fillL k)) 73)).heap[w.heap.size]? = some (.cells (row zL64) 73 (0, 0))) := by
      show _ = _; rw [heap_alloc_old _ _ (World.lt_of_heap HR1.out)]; exact HR1.out
    have HB2 : Hid (Below w.heap.size w (w1.alloc (.cells (row (fillL k)) 73))) := B1.out.alloc B1.out.size _
    have hlen : (row (fillL k)).size = 64 := by rw [row_size, fillL_length]
    have HI : Hid ((Tryz.prog.info? 73).map (·.size) = some (row (fillL k)).size) := by show _ = _; rw [hlen]; exact size64b
    have H3 : Hid ((row (fillL k)).all (·.oneCell') = true) := by show _ = _; simp [row, Value.oneCell']
    have H4 : Hid ((row zL64).size = (row (fillL k)).size) := by show _ = _; rw [hlen, row_size]; simp [zL64]
    clear hlen HS
    obtain ⟨WL, HW⟩ : ∃ WL, Hid (row (fillL k) = WL) := ⟨_, rfl⟩
    rw [HW.out] at hcp HX HY HB2 HI H3 H4
    have ws : (w1.alloc (.cells WL 73)).heap.size = w1.heap.size + 1 := by simp
    generalize hw2 : w1.alloc (.cells WL 73) = w2 at *
    go_wp2_with (first | (refine wpList_alloc rfl 73 rfl _ _ (alloc64b _) ?_) | (refine wpList_load_row rfl 73 (.tmp 3) rfl w1.heap.size rfl 73 WL (0, 0) _ HX.out Tryz.underlying73 rfl HI.out ?_) | (refine wpList_store_row rfl 73 (.tmp 2) (.tmp 12) rfl w.heap.size WL rfl rfl 73 (row zL64) HY.out HI.out H4.out H3.out ?_))
    exact bodyPost_ret (v := .agg WL) (results_cell_row Tryz.results38 _ _ w.heap.size 73 _ (0, 0) _ rfl (setRow_heap _ _ _ _ _ _ HY.out) Tryz.underlying73 rfl HI.out) rfl ⟨by rw [HK.out, HW.out], below_setRow HB2.out (Nat.le_refl _) _⟩
  · have h64' : ¬ (key.size : Int) > 64 := by omega
    have HKS : Hid (keyS key = key) := by show _ = _; unfold keyS; rw [if_neg h64]
    rw [HKS.out] at HS
    rw [HKS.out]
    clear HKS
    have B1 := HB0
    have HR1 := HR0
    obtain ⟨w1, hw1⟩ : ∃ w1, w.alloc (.cells (row zL64) 73) = w1 := ⟨_, rfl⟩
    rw [hw1] at B1 HR1
    have hal : (Instr.alloc 73 true (.tuple #[])).run Tryz.prog w = .ok (.pointer (some ⟨w.heap.size, 0, none⟩)) w1 := by rw [← hw1]; exact alloc64b w
    clear hw1 HB0 HR0 ws0
    obtain ⟨k, rfl⟩ : ∃ k, k = key := ⟨_, rfl⟩
    go_enter Tryz.func38, Tryz.ntmps38
    have hsl := fun W => sliceAt_all w1.heap.size W
    have hcp := run_copy_str (w1.alloc (.cells (row zL64) 73)) 3 w1.heap.size 0 64 64 k.size k _ _ (show k.size = Nat.min k.size 64 from (Nat.min_eq_left HS).symm) (heap_alloc_new w1 _) (by rw [row_size]; simp [zL64]; omega)
    rw [filled_row k k.size rfl HS, World.setRow_alloc_new] at hcp
    have HX : Hid ((w1.alloc (.cells (row (fillL k)) 73)).heap[w1.heap.size]? = some (.cells (row (fillL k)) 73 (0, 0))) := heap_alloc_new w1 _
    have HY : Hid ((w1.alloc (.cells (row (fillL k)) 73)).heap[w.heap.size]? = some (.cells (row zL64) 73 (0, 0))) := by
      show _ = _; rw [heap_alloc_old _ _ (World.lt_of_heap HR1.out)]; exact HR1.out
    have HB2 : Hid (Below w.heap.size w (w1.alloc (.cells (row (fillL k)) 73))) := B1.out.alloc B1.out.size _
    have hlen : (row (fillL k)).size = 64 := by rw [row_size, fillL_length]
    have HI : Hid ((Tryz.prog.info? 73).map (·.size) = some (row (fillL k)).size) := by show _ = _; rw [hlen]; exact size64b
    have H3 : Hid ((row (fillL k)).all (·.oneCell') = true) := by show _ = _; simp [row, Value.oneCell']
    have H4 : Hid ((row zL64).size = (row (fillL k)).size) := by show _ = _; rw [hlen, row_size]; simp [zL64]
    clear hlen HS
    obtain ⟨WL, HW⟩ : ∃ WL, Hid (row (fillL k) = WL) := ⟨_, rfl⟩
    rw [HW.out] at hcp HX HY HB2 HI H3 H4
    have ws : (w1.alloc (.cells WL 73)).heap.size = w1.heap.size + 1 := by simp
    generalize hw2 : w1.alloc (.cells WL 73) = w2 at *
    go_wp2_with (first | (refine wpList_alloc rfl 73 rfl _ _ hal ?_) | (refine wpList_alloc rfl 73 rfl _ _ (alloc64b _) ?_) | (refine wpList_load_row rfl 73 (.tmp 3) rfl w1.heap.size rfl 73 WL (0, 0) _ HX.out Tryz.underlying73 rfl HI.out ?_) | (refine wpList_store_row rfl 73 (.tmp 2) (.tmp 12) rfl w.heap.size WL rfl rfl 73 (row zL64) HY.out HI.out H4.out H3.out ?_))
    exact bodyPost_ret (v := .agg WL) (results_cell_row Tryz.results38 _ _ w.heap.size 73 _ (0, 0) _ rfl (setRow_heap _ _ _ _ _ _ HY.out) Tryz.underlying73 rfl HI.out) rfl ⟨by rw [HW.out], below_setRow HB2.out (Nat.le_refl _) _⟩
end Go.Proofs.YtmldkecaghokeaaGreatDoor.nb
