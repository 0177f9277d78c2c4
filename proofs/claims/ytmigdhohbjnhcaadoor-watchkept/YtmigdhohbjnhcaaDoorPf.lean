import Derived.Test.YtmigdhohbjnhcaaDoorPe
import Derived.Laws.BytesString
import Derived.Laws.MakeOwn
import Derived.OwnWalk
import Derived.Laws.AppendOwn
import Derived.Deep.AppendLies
namespace Go.Proofs.YtmigdhohbjnhcaaDoor.pf
open Go.RowKit Go.PlainAid
open Go.Proofs.YtmigdhohbjnhcaaDoor.pl Go.Proofs.YtmigdhohbjnhcaaDoor.pa Go.Proofs.YtmigdhohbjnhcaaDoor.pb Go.Proofs.YtmigdhohbjnhcaaDoor.pc Go.Proofs.YtmigdhohbjnhcaaDoor.pd Go.Proofs.YtmigdhohbjnhcaaDoor.pe
set_option linter.unusedVariables false

theorem info5 : (Tryd.prog.info? 5).map (fun i => (i.zero, i.size, i.bytes)) = some (some (.int .u8 0), 1, 1) := by kernel_rfl

theorem made_row (n : Nat) : madeCells (Value.int .u8 0).cells n = row (List.replicate n 0) := by
  apply Array.ext
  · simp [size_madeCells, row_size]
  · intro i h1 h2
    simp [madeCells, row, Value.cells, Nat.mod_one]

theorem make_row (n : Nat) (hn : n ≤ 1048576) (w : World) :
    (Instr.makeSlice 48 (.int .i64 n) (.int .i64 n)).run Tryd.prog w = .ok (.slice (some ⟨w.heap.size, 0, none⟩) n n) (w.alloc (.cells (row (List.replicate n 0)) 5)) := by
  obtain ⟨i, hi, hz0, hz1, hz2⟩ := info_parts info5
  have h := run_make (P := Tryd.prog) w 48 5 i (.int .u8 0) Tryd.underlying48 hi hz0 .i64 .i64 (n : Int) (n : Int) (by omega) (by omega) (by rw [hz2]; omega) (by omega)
  rw [hz1] at h
  simp only [Int.toNat_natCast, Nat.mul_one] at h
  rw [made_row] at h
  exact h

-- string(b) where b's cells are known
theorem conv_at (ns : List Int) (W : World) (g o n cap : Nat) (hn : n = ns.length) (hc : ∀ j v, (ns.map (Value.int .u8))[j]? = some v → W.cell? ((⟨g, o, none⟩ : Addr).add j) = some v) :
    (convert 48 9 (.slice (some ⟨g, o, none⟩) n cap)).run Tryd.prog W = .ok (.string (str ns)) W := by
  subst hn
  rw [run_convert_bytes_string _ 48 9 5 _ _ _ Tryd.underlying48 Tryd.underlying5 Tryd.underlying9]
  refine run_bytesToString _ _ _ _ ns ?_
  have h := run_loadCells_list (P := Tryd.prog) (w := W) ⟨g, o, none⟩ (ns.map (Value.int .u8)) hc
  simpa using h

theorem conv_row (ns : List Int) (w : World) (n : Nat) (hn : n = ns.length) :
    (convert 48 9 (.slice (some ⟨w.heap.size, 0, none⟩) n n)).run Tryd.prog (w.alloc (.cells (row ns) 5)) = .ok (.string (str ns)) (w.alloc (.cells (row ns) 5)) :=
  conv_at ns _ _ _ _ _ hn (fun j v hj => by
    have e : (Addr.add ⟨w.heap.size, 0, none⟩ j) = ⟨w.heap.size, j, none⟩ := by cases j <;> simp [Addr.add]
    rw [e, World.cell?_alloc_at _ _ _ _ rfl, row, List.getElem?_toArray]
    exact hj)

def beL (v : Int) (n k : Nat) : List Int := List.replicate (n - k) 0 ++ lowB v k
theorem beL_full (v : Int) (n : Nat) : beL v n n = lowB v n := by simp [beL]
theorem beL_length (v : Int) (n k : Nat) (h : k ≤ n) : (beL v n k).length = n := by simp [beL, lowB_length]; omega
theorem beL_set (v : Int) (n k : Nat) (h : k < n) : (beL v n k).set (n - 1 - k) (v / 256 ^ k % 256) = beL v n (k + 1) := by
  obtain ⟨m, rfl⟩ : ∃ m, n = k + 1 + m := ⟨n - (k + 1), by omega⟩
  have e1 : k + 1 + m - 1 - k = m := by omega
  have e2 : k + 1 + m - k = m + 1 := by omega
  have e3 : k + 1 + m - (k + 1) = m := by omega
  rw [beL, beL, e1, e2, e3, List.replicate_succ', List.append_assoc, List.set_append_right _ _ (by simp)]
  simp [lowB]
theorem pow256 (k : Nat) : (2 : Int) ^ (8 * k) = 256 ^ k := by rw [Int.pow_mul]; rfl

def padK (z : Nat) (c : Int) (k : Nat) : List Int := 128 :: (List.replicate z 0 ++ beL c 8 k)
theorem padK_zero (z : Nat) (c : Int) : (List.replicate (9 + z) (0 : Int)).set 0 128 = padK z c 0 := by
  rw [padK, beL, show 9 + z = (z + 8) + 1 by omega, List.replicate_succ, List.set_cons_zero]
  simp [lowB, ← List.replicate_append_replicate]
theorem padK_length (z : Nat) (c : Int) (k : Nat) (h : k ≤ 8) : (padK z c k).length = 9 + z := by simp [padK, beL_length c 8 k h]; omega
theorem padK_set (z : Nat) (c : Int) (k : Nat) (h : k < 8) : (padK z c k).set (8 + z - k) (c / 256 ^ k % 256) = padK z c (k + 1) := by
  rw [padK, padK, show 8 + z - k = (z + (8 - 1 - k)) + 1 by omega, List.set_cons_succ, List.set_append_right _ _ (by simp), List.length_replicate, Nat.add_sub_cancel_left, beL_set c 8 k h]

set_option maxHeartbeats 800000 in
theorem padding (n : Nat) (w : World) (hn : n ≤ 1152921504606846976) :
    Calls Tryd.prog 31 #[.int .i64 n] w fun e w' => e = .returned (.string (str (padL n))) ∧ w' = w.alloc (.cells (row (padL n)) 5) := by
  obtain ⟨z, hz⟩ : ∃ z, z = zerosF n := ⟨_, rfl⟩
  have hz64 : z < 64 := by rw [hz]; unfold zerosF; omega
  have HZ : Hid _ := hz
  have HB : Hid (bitsF n = (n : Int) * 8) := by show _ = _; unfold bitsF; omega
  have hmk := make_row (9 + z) (by omega)
  rw [show ((9 + z : Nat) : Int) = 1 + (z : Int) + 8 by omega] at hmk
  have hz1 : (119 - (n : Int) % 64) % 64 = (z : Int) := by rw [hz]; unfold zerosF; omega
  have hz2 : (119 - (n : Int)) % 64 = (z : Int) := by rw [hz]; unfold zerosF; omega
  have hr0 : 0 < (row (List.replicate (9 + z) 0)).size := by rw [row_size, List.length_replicate]; omega
  clear hz
  go_enter Tryd.func31, Tryd.ntmps31
  go_wp2
  go_loopw [20] (fun i wr => ∃ k : Nat, k ≤ 8 ∧ i = .int .i64 k ∧ wr = w.alloc (.cells (row (padK z ((n : Int) * 8) k)) 5)) (fun i _ => (8 - intOf i).toNat)
  case atStart => exact ⟨0, by omega, rfl, by rw [row_set, padK_zero z ((n : Int) * 8)]⟩
  case round =>
    obtain ⟨k, hk, rfl, rfl⟩ := hrel
    clear hz1 hz2 hmk hr0
    have HL : Hid _ := padK_length z ((n : Int) * 8) k hk
    by_cases hlt : k < 8
    · have hlt' : (k : Int) < 8 := by omega
      have hsz : 8 + z - k < (row (padK z ((n : Int) * 8) k)).size := by rw [row_size, HL.out]; omega
      go_wp2
      go_roundw
      case rel => exact ⟨k + 1, by omega, by go_num, by rw [pow256, row_set, padK_set z _ k hlt]⟩
      case measure => simp [intOf]; omega
    · have hlt' : ¬ (k : Int) < 8 := by omega
      have e : k = 8 := by omega
      subst e
      have hp : padK z ((n : Int) * 8) 8 = padL n := by rw [padK, beL_full, padL, HB.out, ← HZ.out]
      rw [hp]
      have hcv := conv_row (padL n) w (9 + z) (by rw [padL_length, ← HZ.out])
      go_wp2
      go_ret
      exact ⟨rfl, rfl⟩
end Go.Proofs.YtmigdhohbjnhcaaDoor.pf
