import Derived.Test.YtmgkfkfmiddanabDoorNd
namespace Go.Proofs.YtmgkfkfmiddanabDoor.ne
open Go.RowKit Go.PlainAid
open Go.Proofs.YtmgkfkfmiddanabDoor.pl Go.Proofs.YtmgkfkfmiddanabDoor.pb Go.Proofs.YtmgkfkfmiddanabDoor.pc Go.Proofs.YtmgkfkfmiddanabDoor.pd Go.Proofs.YtmgkfkfmiddanabDoor.pe Go.Proofs.YtmgkfkfmiddanabDoor.pf Go.Proofs.YtmgkfkfmiddanabDoor.pg Go.Proofs.YtmgkfkfmiddanabDoor.ph Go.Proofs.YtmgkfkfmiddanabDoor.pi Go.Proofs.YtmgkfkfmiddanabDoor.ft Go.Proofs.YtmgkfkfmiddanabDoor.pj Go.Proofs.YtmgkfkfmiddanabDoor.mo Go.Proofs.YtmgkfkfmiddanabDoor.na Go.Proofs.YtmgkfkfmiddanabDoor.nb Go.Proofs.YtmgkfkfmiddanabDoor.nc Go.Proofs.YtmgkfkfmiddanabDoor.nd
set_option linter.unusedVariables false

set_option maxHeartbeats 800000 in
theorem derive_no (key label : ByteArray) (n : Int) (w : World) (hn : n < 0 ∨ 8160 < n) :
    Calls Tryd.prog 11 #[.string key, .string label, .int .i64 n] w fun e w' => e = .returned (.tuple #[.string ⟨#[]⟩, .int .i64 30]) ∧ Below w.heap.size w w' := by
  rcases Int.lt_or_le n 0 with h | h
  · clear hn
    go_enter Tryd.func11, Tryd.ntmps11
    go_wp2
    go_ret2
    exact ⟨rfl, Below.refl _ _⟩
  · have h2 : n > 8160 := by omega
    clear hn
    go_enter Tryd.func11, Tryd.ntmps11
    go_wp2
    go_ret2
    exact ⟨rfl, Below.refl _ _⟩

theorem btL_two (a b : ByteArray) : btL (a ++ b) (a.size + b.size) = btL a a.size ++ btL b b.size := by
  apply List.ext_getElem
  · simp [btL]
  · intro j h1 h2
    have hj : j < a.size + b.size := by simpa [btL] using h1
    rcases Nat.lt_or_ge j a.size with h | h
    · rw [List.getElem_append_left (by simpa [btL] using h)]
      simp only [btL, List.getElem_map, List.getElem_range]
      exact bt_append_left _ _ _ h
    · rw [List.getElem_append_right (by simpa [btL] using h)]
      simp only [btL, List.getElem_map, List.getElem_range, List.length_map, List.length_range]
      have e : j = a.size + (j - a.size) := by omega
      rw [e, bt_append_right, Nat.add_sub_cancel_left]

theorem own_slice {w : World} {base : Nat} {v : Value} {n : Nat} {xs : List Value} (h : w.ownsRow base 5 1 v n xs) : ∃ b cap, v = .slice b n cap ∧ n ≤ cap := by
  rcases h.2 with ⟨rfl, rfl⟩ | ⟨g, cap, cur, rfl, _, _, hnc, _⟩
  · exact ⟨none, 0, rfl, Nat.le_refl _⟩
  · exact ⟨_, _, rfl, hnc⟩

theorem own_below {w w' : World} {base : Nat} {v : Value} {n : Nat} {xs : List Value} (h : w.ownsRow base 5 1 v n xs) (b : Below w.heap.size w w') : w'.ownsRow base 5 1 v n xs := by
  refine h.kept (row := none) ⟨b.os, b.tape, b.output, b.size, fun k hk _ => b.block k hk⟩ ?_
  cases v.ownBlock with
  | none => exact .inl rfl
  | some k => exact .inr (by simp)

-- string(out[:N])
theorem elB : Tryd.prog.elem 32 = 5 := by kernel_rfl
theorem unB : Tryd.prog.underlying 32 = some (.slice (Tryd.prog.elem 32)) := by rw [elB]; exact Tryd.underlying32
theorem slice_h (W : World) (b : Option Addr) (n cap N : Nat) (h : N ≤ cap) : (Instr.sliceAt 32 (.slice b n cap) none (some (.int .i64 N)) none).run Tryd.prog W = .ok (.slice (if cap = 0 then b else b.map (·.add 0)) N cap) W := by
  rw [run_sliceAt_slice _ _ _ _ _ _ unB, run_slice_h W 32 b n cap unB .i64 (N : Int) (by omega) (by omega), elB, si8]
  simp only [Result.andThen_ok, sliced, Int.toNat_natCast, Nat.zero_mul, Nat.sub_zero]
theorem cut_conv (W : World) (base : Nat) (b : Option Addr) (n cap N : Nat) (o d : ByteArray) (ho : W.ownsRow base 5 1 (.slice b n cap) n ((btL o n).map (Value.int .u8))) (hN : N ≤ n) (hd : d.size = N) (hb : ∀ j, j < N → bt d j = bt o j) :
    ∃ v, (Instr.sliceAt 32 (.slice b n cap) none (some (.int .i64 N)) none).run Tryd.prog W = .ok v W ∧ (convert 32 9 v).run Tryd.prog W = .ok (.string d) W := by
  have hs : str (btL d N) = d := by rw [← hd]; exact str_btL d
  rcases ho.2 with ⟨e1, e2⟩ | ⟨g, cap', cur, e1, _, hh, hnc, _, h2, h3⟩
  · injection e1 with e3 e4 e5
    subst e3 e5
    obtain rfl : N = 0 := by omega
    refine ⟨_, slice_h W none n 0 0 (Nat.le_refl _), ?_⟩
    rw [← hs]
    rw [run_convert_bytes_string _ 32 9 5 _ _ _ Tryd.underlying32 Tryd.underlying5 Tryd.underlying9]
    rfl
  · injection e1 with e3 e4 e5
    subst e3 e5
    refine ⟨_, slice_h W _ n cap N (by omega), ?_⟩
    have e : (if cap = 0 then some (⟨g, 0, none⟩ : Addr) else (some (⟨g, 0, none⟩ : Addr)).map (·.add 0)) = some ⟨g, 0, none⟩ := by
      split
      · rfl
      · simp [Addr.add]
    rw [e, ← hs]
    refine conv_at (btL d N) W g 0 N cap (by rw [btL_length]) (fun j u hj => ?_)
    have hjN : j < N := by simpa [btL] using (List.getElem?_eq_some_iff.1 hj).1
    refine ho.cells (g := g) rfl j u ?_
    rw [← hj]
    simp [btL, hjN, show j < n by omega, hb j hjN]

set_option maxHeartbeats 800000 in
theorem derive (key label : ByteArray) (N : Nat) (w : World) (hk : key.size ≤ 140737488352256) (hl : label.size ≤ 140737488351232) (hN : N ≤ 8160) (T : Hid (Tab w)) :
    Calls Tryd.prog 11 #[.string key, .string label, .int .i64 N] w fun e w' => e = .returned (.tuple #[.string (derF key label N), .int .i64 0]) ∧ Below w.heap.size w w' := by
  have h0 : ¬ (N : Int) < 0 := by omega
  have h1 : ¬ (N : Int) > 8160 := by omega
  go_enter Tryd.func11, Tryd.ntmps11
  go_wp2_with fail
  go_loopw [8, 9, 10] (fun out last j wr => ∃ i m : Nat, i ≤ (N + 31) / 32 ∧ Hid (m = i + 1) ∧ j = .int .i64 (m : Int) ∧ Hid (wr.ownsRow w.heap.size 5 1 out (32 * i) ((btL (outF key label i) (32 * i)).map (Value.int .u8))) ∧ last = .string (lastF key label i) ∧ Hid (Below w.heap.size w wr)) (fun _ _ j _ => (256 - intOf j).toNat)
  case atStart => exact ⟨0, 1, by omega, rfl, by go_num, World.ownsRow_nil _ _ _ _, rfl, Below.refl _ _⟩
  case round =>
    obtain ⟨i, m, hi, HM, rfl, HOWN, rfl, HB⟩ := hrel
    obtain ⟨bb, cap, rfl, hnc⟩ := own_slice HOWN.out
    have hls := lastF_size key label i
    by_cases hlt : 32 * i < N
    · have i255 : (m : Int) ≤ 255 := by have := HM.out; omega
      have hlt' : ((32 * i : Nat) : Int) < N := by omega
      have hcv : (convert 32 9 (.slice (some ⟨wr.heap.size, 0, none⟩) 1 1)).run Tryd.prog (wr.alloc (.cells #[.int .u8 (m : Int)] 5)) = .ok (.string (str [(m : Int)])) (wr.alloc (.cells #[.int .u8 (m : Int)] 5)) := conv_row [(m : Int)] wr 1 rfl
      have HL : Hid (lastF key label (i + 1) = macF key (lastF key label i ++ label ++ str [(m : Int)])) := by show _ = _; rw [HM.out]; rfl
      have HO : Hid (btL (outF key label (i + 1)) (32 * (i + 1)) = btL (outF key label i) (32 * i) ++ btL (lastF key label (i + 1)) 32) := by
        show _ = _
        have e := btL_two (outF key label i) (lastF key label (i + 1))
        rw [outF_size, lastF_size'] at e
        rw [show 32 * (i + 1) = 32 * i + 32 by omega]
        exact e
      have hst : (str [(m : Int)]).size = 1 := by rw [str_size]; rfl
      generalize str [(m : Int)] = st at *
      generalize lastF key label i = l at *
      obtain ⟨l', EL⟩ : ∃ l', Hid (lastF key label (i + 1) = l') := ⟨_, rfl⟩
      have hl' : l'.size = 32 := by rw [← EL.out]; exact lastF_size' key label i
      rw [EL.out] at HL HO
      have hz : (l ++ label ++ st).size ≤ 140737488352000 := by
        rw [ByteArray.size_append, ByteArray.size_append]; omega
      go_wp2_with fail
      refine (macSum key _ _ hk hz (T.out.down (HB.out.alloc HB.out.size _))).mono ?_
      rintro e w2 ⟨rfl, hb2⟩
      have HB2 : Hid (Below w.heap.size w w2) := (HB.out.alloc HB.out.size _).trans (hb2.mono (by have := HB.out.size; simp; omega))
      have HOWN2 : Hid (w2.ownsRow w.heap.size 5 1 (.slice bb (32 * i) cap) (32 * i) ((btL (outF key label i) (32 * i)).map (Value.int .u8))) := own_below (HOWN.out.alloc _) hb2
      clear hb2
      rw [← HL.out]
      go_wp2_with (at_builtin; refine wpList_append_str rfl (.tmp 33) (.tmp 34) rfl w.heap.size _ (32 * i) _ rfl HOWN2.out l' rfl (by omega) (by have := HB2.out.size; omega) ?_; intro v3 w3 hown3 hgr3; have HB3 : Hid (Below w.heap.size w w3) := Below.grown HB2.out hgr3 (by have := HB2.out.size; omega) (fun j hj => (HOWN2.out.lt _ hj).1); have HOWN3 : Hid (World.ownsRow _ _ _ _ _ _ _) := hown3; clear hown3 hgr3)
      go_roundw
      case rel =>
        refine ⟨i + 1, m + 1, by omega, by show _ = _; rw [HM.out], by go_num, ?_, by rw [EL.out], HB3⟩
        have h := HOWN3.out
        rw [HO.out, List.map_append]
        rw [cellsS, hl'] at h
        exact h
      case measure => simp [intOf]; omega
    · have hi' : i = (N + 31) / 32 := by omega
      have hlt' : ¬ ((32 * i : Nat) : Int) < N := by omega
      have hle : N ≤ 32 * i := by omega
      obtain ⟨v5, hsl, hcv⟩ := cut_conv wr w.heap.size bb (32 * i) cap N (outF key label i) (derF key label N) HOWN.out hle (derF_size key label N) (fun j hj => by rw [derF_bt key label N j hj, hi'])
      clear hi'
      go_wp2
      go_ret2
      exact ⟨rfl, HB.out⟩
end Go.Proofs.YtmgkfkfmiddanabDoor.ne
