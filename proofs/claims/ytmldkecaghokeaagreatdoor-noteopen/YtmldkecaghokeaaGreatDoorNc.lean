import Derived.Test.YtmldkecaghokeaaGreatDoorNb
namespace Go.Proofs.YtmldkecaghokeaaGreatDoor.nc
open Go.RowKit Go.PlainAid
open Go.Proofs.YtmldkecaghokeaaGreatDoor.pl Go.Proofs.YtmldkecaghokeaaGreatDoor.pb Go.Proofs.YtmldkecaghokeaaGreatDoor.pc Go.Proofs.YtmldkecaghokeaaGreatDoor.pd Go.Proofs.YtmldkecaghokeaaGreatDoor.pe Go.Proofs.YtmldkecaghokeaaGreatDoor.pf Go.Proofs.YtmldkecaghokeaaGreatDoor.pg Go.Proofs.YtmldkecaghokeaaGreatDoor.ph Go.Proofs.YtmldkecaghokeaaGreatDoor.pi Go.Proofs.YtmldkecaghokeaaGreatDoor.ft Go.Proofs.YtmldkecaghokeaaGreatDoor.pj Go.Proofs.YtmldkecaghokeaaGreatDoor.mo Go.Proofs.YtmldkecaghokeaaGreatDoor.na Go.Proofs.YtmldkecaghokeaaGreatDoor.nb
set_option linter.unusedVariables false
set_option maxRecDepth 4000

theorem make_wide (w : World) (c : Nat) (hc : c ≤ 140737488355328) :
    (Instr.makeSlice 75 (.int .i64 0) (.int .i64 c)).run Tryz.prog w = .ok (.slice (some ⟨w.heap.size, 0, none⟩) 0 c) (w.alloc (.cells (row (List.replicate c 0)) 5)) := by
  obtain ⟨i, hi, hz0, hz1, hz2⟩ := info_parts info5
  have h := run_make (P := Tryz.prog) w 75 5 i (.int .u8 0) Tryz.underlying75 hi hz0 .i64 .i64 0 (c : Int) (by omega) (by omega) (by rw [hz2]; omega) (by omega)
  rw [hz1] at h
  simp only [Int.toNat_natCast, Nat.mul_one, Int.toNat_zero] at h
  rw [made_row] at h
  exact h

theorem index64 (cs : Array Value) (n : Nat) (v : Value) (h : n < 64) (hc : cs[n]? = some v) (W : World) : (Instr.index 73 (.agg cs) (.int .i64 n)).run Tryz.prog W = .ok v W := by
  have h1 : (0 : Int) ≤ (n : Int) := by omega
  have h2 : (n : Int) < 64 := by omega
  simp only [Instr.index, asIntOf, part, Sem.run_bind, Sem.run_pure, run_underlying Tryz.underlying73, Result.andThen_ok]
  simp [h2, hc]

theorem str_two (a b : List Int) : str (a ++ b) = str a ++ str b := by
  apply ByteArray.ext
  rw [ByteArray.data_append, str_data, str_data, str_data, List.map_append]
  simp
theorem str_btL (q : ByteArray) : str (btL q q.size) = q := by
  apply ByteArray.ext
  rw [str_data]
  apply Array.ext_getElem?
  intro j
  by_cases h : j < q.size
  · have h' : j < q.data.size := h
    have e := get_bt q j h
    rw [List.getElem?_toArray, Array.getElem?_eq_getElem h']
    simp only [btL, List.map_map, List.getElem?_map, List.getElem?_range h, Option.map_some, Function.comp]
    rw [← e]
    simp
    rfl
  · have h' : ¬ j < q.data.size := h
    rw [Array.getElem?_eq_none (by simp [btL]; omega), Array.getElem?_eq_none (by omega)]

set_option maxHeartbeats 800000 in
theorem behind (k : ByteArray) (x : Int) (q : ByteArray) (b : Nat) (w : World) (hq : q.size ≤ 140737488352000) (HC : Hid (w.heap[b]? = some (.cells (row (fillL k)) 73 (0, 0)))) :
    Calls Tryz.prog 39 #[.int .u8 x, .string q, .pointer (some ⟨b, 0, none⟩)] w fun e w' => e = .returned (.string (str (keyL k x 64) ++ q)) ∧ Below w.heap.size w w' := by
  obtain ⟨i5, hi, hz0, hz1, hz2⟩ := info_parts info5
  have HIN : Hid (_ ∧ _ ∧ _ ∧ _) := ⟨hi, hz0, hz1, hz2⟩
  clear hi hz0 hz1 hz2
  have hlen : (row (fillL k)).size = 64 := by rw [row_size, fillL_length]
  have HI : Hid ((Tryz.prog.info? 73).map (·.size) = some (row (fillL k)).size) := by show _ = _; rw [hlen]; exact size64b
  have HG : Hid (∀ j, j < 64 → (row (fillL k))[j]? = some (.int .u8 (kbt k j))) := fun j hj => by rw [row_get, fillL_get k j hj]; rfl
  have hmk : (Instr.makeSlice 75 (.int .i64 0) (.int .i64 (64 + (q.size : Int)))).run Tryz.prog w = .ok (.slice (some ⟨w.heap.size, 0, none⟩) 0 (64 + q.size)) (w.alloc (.cells (row (List.replicate (64 + q.size) 0)) 5)) := make_wide w (64 + q.size) (by omega)
  have HO0 : Hid ((w.alloc (.cells (row (List.replicate (64 + q.size) 0)) 5)).ownsRow w.heap.size 5 1 (.slice (some ⟨w.heap.size, 0, none⟩) 0 (64 + q.size)) 0 []) := World.ownsRow_made w _ (64 + q.size) (Nat.le_refl _) (by unfold maxLen; omega) (by rw [row_size]; simp)
  have HB0 : Hid (Below w.heap.size w (w.alloc (.cells (row (List.replicate (64 + q.size) 0)) 5))) := (Below.refl _ _).alloc (Nat.le_refl _) _
  have HC1 : Hid ((w.alloc (.cells (row (List.replicate (64 + q.size) 0)) 5)).heap[b]? = some (.cells (row (fillL k)) 73 (0, 0))) := by
    show _ = _; rw [heap_alloc_old _ _ (World.lt_of_heap HC.out)]; exact HC.out
  generalize w.alloc (.cells (row (List.replicate (64 + q.size) 0)) 5) = w1 at *
  clear hlen
  generalize row (fillL k) = WL at *
  go_enter Tryz.func39, Tryz.ntmps39
  go_wp2_with (refine wpList_load_row rfl 73 (.tmp 2) rfl b rfl 73 WL (0, 0) _ HC1.out Tryz.underlying73 rfl HI.out ?_)
  go_loopw [6, 14] (fun out i wr => ∃ n : Nat, n ≤ 64 ∧ i = .int .i64 n ∧ wr.ownsRow w.heap.size 5 1 out n ((keyL k x n).map (Value.int .u8)) ∧ Below w.heap.size w wr) (fun _ i _ => (64 - intOf i).toNat)
  case atStart => exact ⟨0, by omega, rfl, HO0.out, HB0.out⟩
  case round =>
    clear hmk HO0 HB0
    obtain ⟨n, hn, rfl, hown, hbel⟩ := hrel
    have HOWN : Hid (World.ownsRow _ _ _ _ _ _ _) := hown
    have HBEL : Hid (Below _ _ _) := hbel
    clear hown hbel
    by_cases hlt : n < 64
    · have hlt' : (n : Int) < 64 := by omega
      have hg := fun W => index64 WL n _ hlt (HG.out n hlt) W
      have hsz : WL.size = 64 := by have h := HI.out; rw [size64b] at h; exact (Option.some.inj h).symm
      go_wp2_with (at_builtin; refine wpList_append_own _ rfl _ _ 75 rfl w.heap.size 5 i5 (.int .u8 0) 1 1 Tryz.underlying75 HIN.out.1 HIN.out.2.1 HIN.out.2.2.1 HIN.out.2.2.2 rfl (by decide) _ _ _ rfl (HOWN.out.alloc _) ⟨wr.heap.size, 0, none⟩ 1 1 [.int .u8 (bits .xor .u8 (kbt k n) x)] rfl rfl (one_new' _ _ _) (fun u hu => by simp at hu; subst hu; rfl) (by unfold maxLen; omega) (by omega) (by have := HBEL.out.size; simp; omega) ?_; intro v' w3 hown' hgrow3 hnil3; have HOWN3 : Hid (World.ownsRow _ _ _ _ _ _ _) := hown'; have HBEL3 : Hid (Below w.heap.size w w3) := Below.grown (HBEL.out.alloc HBEL.out.size _) hgrow3 (by have := HBEL.out.size; simp; omega) (fun j hj => (HOWN.out.lt _ hj).1); clear hown' hgrow3 hnil3)
      go_roundw
      case rel =>
        refine ⟨n + 1, by omega, by go_num, ?_, HBEL3.out⟩
        rw [keyL_succ, List.map_append]
        exact HOWN3.out
      case measure => simp [intOf]; omega
    · have hlt' : ¬ (n : Int) < 64 := by omega
      obtain rfl : n = 64 := by omega
      go_wp2_with (at_builtin; refine wpList_append_str rfl (.tmp 24) (.tmp 25) rfl w.heap.size _ 64 _ rfl HOWN.out q rfl (by omega) (by have := HBEL.out.size; omega) ?_; intro v2 w2 hown2 hgr2; have HB2 : Hid (Below w.heap.size w w2) := Below.grown HBEL.out hgr2 (by have := HBEL.out.size; omega) (fun j hj => (HOWN.out.lt _ hj).1); have hcv := own_conv w2 w.heap.size v2 (keyL k x 64 ++ btL q q.size) (64 + q.size) (by rw [List.length_append, keyL_length, btL_length]) (by omega) (by rw [List.map_append]; exact hown2); rw [str_two, str_btL] at hcv; clear hown2 hgr2)
      go_ret
      exact ⟨rfl, HB2.out⟩
end Go.Proofs.YtmldkecaghokeaaGreatDoor.nc
