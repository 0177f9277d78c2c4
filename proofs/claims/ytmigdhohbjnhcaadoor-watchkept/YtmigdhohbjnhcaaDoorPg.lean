import Derived.Test.YtmigdhohbjnhcaaDoorPf
namespace Go.Proofs.YtmigdhohbjnhcaaDoor.pg
open Go.RowKit Go.PlainAid
open Go.Proofs.YtmigdhohbjnhcaaDoor.pl Go.Proofs.YtmigdhohbjnhcaaDoor.pa Go.Proofs.YtmigdhohbjnhcaaDoor.pb Go.Proofs.YtmigdhohbjnhcaaDoor.pc Go.Proofs.YtmigdhohbjnhcaaDoor.pd Go.Proofs.YtmigdhohbjnhcaaDoor.pe Go.Proofs.YtmigdhohbjnhcaaDoor.pf
set_option linter.unusedVariables false

theorem own_conv (W : World) (B : Nat) (v : Value) (ns : List Int) (n : Nat) (hn : n = ns.length) (h0 : 0 < n) (ho : W.ownsRow B 5 1 v n (ns.map (Value.int .u8))) :
    (convert 48 9 v).run Tryd.prog W = .ok (.string (str ns)) W := by
  obtain ⟨hl, h | ⟨g, cap, cur, rfl, hg, hh, h1, h2, h3, h4⟩⟩ := ho
  · omega
  · refine conv_at ns W g 0 n cap hn (fun j u hj => ?_)
    have hjl : j < n := by rw [hn]; simpa using (List.getElem?_eq_some_iff.1 hj).1
    rw [Addr.add_mid, Nat.zero_add, cell_of_row _ _ _ _ _ _ hh, ← hj, ← h4, List.getElem?_take, if_pos (by omega), Array.getElem?_toList]

theorem make_room (w : World) (c : Nat) (hc : c ≤ 1048576) :
    (Instr.makeSlice 48 (.int .i64 0) (.int .i64 c)).run Tryd.prog w = .ok (.slice (some ⟨w.heap.size, 0, none⟩) 0 c) (w.alloc (.cells (row (List.replicate c 0)) 5)) := by
  obtain ⟨i, hi, hz0, hz1, hz2⟩ := info_parts info5
  have h := run_make (P := Tryd.prog) w 48 5 i (.int .u8 0) Tryd.underlying48 hi hz0 .i64 .i64 0 (c : Int) (by omega) (by omega) (by rw [hz2]; omega) (by omega)
  rw [hz1] at h
  simp only [Int.toNat_natCast, Nat.mul_one, Int.toNat_zero] at h
  rw [made_row] at h
  exact h

theorem four_new (W : World) (a b c d : Value) (t : TypeId) : ∀ j u, [a, b, c, d][j]? = some u → (W.alloc (.cells #[a, b, c, d] t)).cell? ((⟨W.heap.size, 0, none⟩ : Addr).add j) = some u := by
  intro j u hj
  rw [Addr.add_mid, Nat.zero_add, World.cell?_alloc_at _ _ _ _ rfl]
  simpa using hj

theorem bytes_next (v : St) (k : Nat) (h : k < 8) : bytesL (v.list.take (k + 1)) = bytesL (v.list.take k) ++ wordB (v.list.getD k 0) := by
  have hk : k < v.list.length := h
  rw [← bytesL_snoc]
  congr 1
  rw [List.take_add_one, List.getElem?_eq_getElem hk]
  simp [List.getD, hk]

theorem St.rng (v : St) (hv : v.ok) : ∀ k, k < 8 → 0 ≤ v.list.getD k 0 ∧ v.list.getD k 0 < 4294967296
  | 0, _ => hv.1
  | 1, _ => hv.2.1
  | 2, _ => hv.2.2.1
  | 3, _ => hv.2.2.2.1
  | 4, _ => hv.2.2.2.2.1
  | 5, _ => hv.2.2.2.2.2.1
  | 6, _ => hv.2.2.2.2.2.2.1
  | 7, _ => hv.2.2.2.2.2.2.2

set_option maxHeartbeats 800000 in
theorem text (h : Nat) (v : St) (rest : List Value) (T : TypeId) (w : World) (hv : v.ok) (HH : Hid (w.heap[h]? = some (.cells (hc v.list rest) T (0, 0)))) :
    Calls Tryd.prog 32 #[.pointer (some ⟨h, 0, none⟩)] w fun e w' => e = .returned (.string (textF v)) ∧ Below w.heap.size w w' := by
  have hlt : h < w.heap.size := (Array.getElem?_eq_some_iff.1 HH.out).1
  obtain ⟨i5, hi, hz0, hz1, hz2⟩ := info_parts info5
  have HIN : Hid (_ ∧ _ ∧ _ ∧ _) := ⟨hi, hz0, hz1, hz2⟩
  clear hi hz0 hz1 hz2
  have hmk : (Instr.makeSlice 48 (.int .i64 0) (.int .i64 32)).run Tryd.prog w = .ok (.slice (some ⟨w.heap.size, 0, none⟩) 0 32) (w.alloc (.cells (row (List.replicate 32 0)) 5)) := make_room w 32 (by omega)
  have HO0 : Hid ((w.alloc (.cells (row (List.replicate 32 0)) 5)).ownsRow w.heap.size 5 1 (.slice (some ⟨w.heap.size, 0, none⟩) 0 32) 0 []) := World.ownsRow_made w _ 32 (Nat.le_refl _) (by unfold maxLen; omega) (by rw [row_size]; rfl)
  have HB0 : Hid (Below w.heap.size w (w.alloc (.cells (row (List.replicate 32 0)) 5))) := (Below.refl _ _).alloc (Nat.le_refl _) _
  generalize w.alloc (.cells (row (List.replicate 32 0)) 5) = w1 at *
  go_enter Tryd.func32, Tryd.ntmps32
  go_wp2
  go_loopw [3, 8] (fun out i wr => ∃ k : Nat, k ≤ 8 ∧ i = .int .i64 k ∧ wr.ownsRow w.heap.size 5 1 out (4 * k) ((bytesL (v.list.take k)).map (Value.int .u8)) ∧ Below w.heap.size w wr) (fun _ i _ => (8 - intOf i).toNat)
  case atStart => exact ⟨0, by omega, rfl, HO0.out, HB0.out⟩
  case round =>
    clear hmk HO0 HB0
    obtain ⟨k, hk, rfl, hown, hbel⟩ := hrel
    have HOWN : Hid (World.ownsRow _ _ _ _ _ _ _) := hown
    have HBEL : Hid (Below _ _ _) := hbel
    clear hown hbel
    by_cases hlt8 : k < 8
    · have hlt' : (k : Int) < 8 := by omega
      have C1 : wr.cell? ⟨h, k, none⟩ = some (.int .u32 (v.list.getD k 0)) := by
        rw [HBEL.out.cell (show h < w.heap.size from hlt), cell_of_row _ _ _ _ _ _ HH.out]; exact hc_get _ _ _ hlt8
      obtain ⟨r1, r2⟩ := St.rng v hv k hlt8
      have HX : Hid _ := bytes_next v k hlt8
      revert HX C1 r1 r2
      generalize v.list.getD k 0 = x
      intro C1 r1 r2 HX
      have HW : Hid (wordB x = [x / 16777216, x / 65536 % 256, x / 256 % 256, x % 256]) := by
        show _ = _
        unfold wordB
        rw [show x / 16777216 % 256 = x / 16777216 by omega]
      go_wp2_with (at_builtin; refine wpList_append_own _ rfl _ _ 48 rfl w.heap.size 5 i5 (.int .u8 0) 1 1 Tryd.underlying48 HIN.out.1 HIN.out.2.1 HIN.out.2.2.1 HIN.out.2.2.2 rfl (by decide) _ _ _ rfl (HOWN.out.alloc _) ⟨wr.heap.size, 0, none⟩ 4 4 [.int .u8 (x / 16777216), .int .u8 (x / 65536 % 256), .int .u8 (x / 256 % 256), .int .u8 (x % 256)] rfl rfl (four_new _ _ _ _ _ _) (fun u hu => by simp at hu; rcases hu with rfl | rfl | rfl | rfl <;> rfl) (by unfold maxLen; omega) (by omega) (by have := HBEL.out.size; simp; omega) ?_; intro v' w3 hown' hgrow3 hnil3; have HOWN3 : Hid (World.ownsRow _ _ _ _ _ _ _) := hown'; have HBEL3 : Hid (Below w.heap.size w w3) := Below.grown (HBEL.out.alloc HBEL.out.size _) hgrow3 (by have := HBEL.out.size; simp; omega) (fun j hj => (HOWN.out.lt _ hj).1); clear hown' hgrow3 hnil3)
      go_roundw
      case rel =>
        refine ⟨k + 1, by omega, by go_num, ?_, HBEL3.out⟩
        rw [HX.out, HW.out, List.map_append]
        exact HOWN3.out
      case measure => simp [intOf]; omega
    · have hlt' : ¬ (k : Int) < 8 := by omega
      have e : k = 8 := by omega
      subst e
      have hcv := own_conv wr w.heap.size _ (bytesL (v.list.take 8)) 32 (by rw [bytesL_length]; rfl) (by omega) HOWN.out
      have ht : str (bytesL (v.list.take 8)) = textF v := rfl
      rw [ht] at hcv
      clear ht
      go_wp2
      go_ret
      exact ⟨rfl, HBEL.out⟩
end Go.Proofs.YtmigdhohbjnhcaaDoor.pg
