import Derived.Test.YtmgkfkfmiddanaaDoorMr
namespace Go.Proofs.YtmgkfkfmiddanaaDoor.ms
open Go.RowKit Go.PlainAid
open Go.Proofs.YtmgkfkfmiddanaaDoor.pl Go.Proofs.YtmgkfkfmiddanaaDoor.pd Go.Proofs.YtmgkfkfmiddanaaDoor.pf Go.Proofs.YtmgkfkfmiddanaaDoor.ft Go.Proofs.YtmgkfkfmiddanaaDoor.pj Go.Proofs.YtmgkfkfmiddanaaDoor.mo Go.Proofs.YtmgkfkfmiddanaaDoor.mr
set_option linter.unusedVariables false

def padk (k : ByteArray) (n : Nat) : List Int := (List.range n).map (kbt k)
theorem padk_succ (k : ByteArray) (n : Nat) (h : k.size ≤ n) : padk k n ++ [0] = padk k (n + 1) := by
  unfold padk
  rw [List.range_succ, List.map_append]
  simp [kbt, show ¬ n < k.size by omega]
theorem padk_start (k : ByteArray) : btL k k.size = padk k k.size := by
  unfold btL padk
  apply List.map_congr_left
  intro j hj
  have := List.mem_range.1 hj
  simp [kbt, this]
def blk (k : ByteArray) (x : Int) (i j : Nat) : Int := if j < i then bits .xor .u8 (kbt k j) x else kbt k j
structure Bk (wr : World) (base g : Nat) (k : ByteArray) (x : Int) (i : Nat) : Prop where
  base : base ≤ g
  lies : g < wr.heap.size
  cell : ∀ j, j < 64 → wr.cell? ⟨g, j, none⟩ = some (.int .u8 (blk k x i j))
  free : ∀ j, j < 64 → wr.frozen? ⟨g, j, none⟩ = false
theorem Bk.step {wr : World} {base g : Nat} {k : ByteArray} {x : Int} {i : Nat} (h : Bk wr base g k x i) (hi : i < 64) : Bk (wr.setCell ⟨g, i, none⟩ (.int .u8 (bits .xor .u8 (kbt k i) x))) base g k x (i + 1) := by
  obtain ⟨h1, h2, h3, h4⟩ := h
  refine ⟨h1, by simpa [World.setCell] using h2, fun j hj => ?_, fun j hj => by rw [World.frozen?_setCell]; exact h4 j hj⟩
  by_cases e : j = i
  · subst e
    rw [World.cell?_setCell_same _ _ _ (h3 j hj)]
    simp [blk]
  · rw [World.cell?_setCell_other _ _ _ _ (by intro hh; injection hh with _ hh2 _; omega), h3 j hj]
    congr 2
    unfold blk
    by_cases hj2 : j < i
    · rw [if_pos hj2, if_pos (by omega)]
    · rw [if_neg hj2, if_neg (by omega)]

set_option maxHeartbeats 1600000 in
theorem lblock (key : ByteArray) (x : Int) (w : World) (hk : key.size ≤ 140737488352256) (T : Hid (Tab w)) :
    Calls Tryd.prog 7 #[.string key, .int .u8 x] w fun e w' => e = .returned (.string (keyedF key x)) ∧ Below w.heap.size w w' := by
  have HS := keyS_size key
  by_cases h64 : 64 < key.size
  · have h64' : (key.size : Int) > 64 := by omega
    have HKS : Hid (keyS key = sha key) := by show _ = _; unfold keyS; rw [if_pos h64]
    have HC1 : Hid (Calls _ _ _ _ _) := Sum key w (by omega) T
    rw [← HKS.out] at HC1
    have HF : Hid (str (keyL (keyS key) x 64) = keyedF key x) := rfl
    generalize keyS key = k at *
    go_enter Tryd.func7, Tryd.ntmps7
    go_wp2_with fail
    refine HC1.out.mono ?_
    rintro e w0 ⟨rfl, hb0⟩
    have HB0 : Hid (Below w.heap.size w w0) := hb0
    clear hb0
    obtain ⟨v, w1, hcv, ho1, hb1⟩ := of_stringF w0 k
    have HO1 : Hid (OwnF w1 w0.heap.size v k.size (padk k k.size)) := by show OwnF _ _ _ _ _; rw [← padk_start]; exact ho1
    have HB1 : Hid (Below w.heap.size w w1) := HB0.out.trans (hb1.mono HB0.out.size)
    have hle0 := HB0.out.size
    have HLE : Hid (w0.heap.size ≤ w1.heap.size) := hb1.size
    clear ho1 hb1
    go_wp2_with fail
    go_loopw [5] (fun v wr => ∃ n : Nat, k.size ≤ n ∧ n ≤ 64 ∧ Hid (OwnF wr w0.heap.size v n (padk k n)) ∧ Hid (Below w.heap.size w wr) ∧ Hid (w0.heap.size ≤ wr.heap.size)) (fun v _ => 64 - lenV v)
    case atStart => exact ⟨k.size, by omega, HS, HO1, HB1, HLE⟩
    case round =>
      clear hcv HO1 HB1 HLE
      obtain ⟨n, hn1, hn2, HO, HB, HLE⟩ := hrel
      obtain ⟨hl, g, cap, rfl, hbg, hg, hnc, h1, h2⟩ := HO.out
      have HX : Hid (_ ∧ _) := ⟨h1, h2⟩
      clear hl h1 h2
      by_cases hlt : n < 64
      · have hlt' : (n : Int) < 64 := by omega
        go_wp2_with (at_builtin; refine append_free rfl (.tmp 17) (.tmp 18) rfl w0.heap.size _ n _ rfl (HO.out.alloc _) ⟨wr.heap.size, 0, none⟩ 1 0 rfl (one_new _ _ _) (by omega) (by have := HLE.out; simp; omega) ?_; intro v' w2 ho2 hb2; have HO2 : Hid (OwnF _ _ _ _ _) := ho2; have HB2 : Hid (Below w.heap.size w w2) := (HB.out.alloc HB.out.size _).trans (hb2.mono hle0); have HL2 : Hid (w0.heap.size ≤ w2.heap.size) := Nat.le_trans HLE.out (Nat.le_trans (by simp) hb2.size); clear ho2 hb2)
        go_roundw
        case rel => exact ⟨n + 1, by omega, by omega, by rw [← padk_succ k n hn1]; exact HO2, HB2, HL2⟩
        case measure =>
          obtain ⟨_, g2, cap2, e2, _⟩ := HO2.out
          rw [e2]
          simp only [lenV]; omega
      · have hlt' : ¬ (n : Int) < 64 := by omega
        obtain rfl : n = 64 := by omega
        have HBK : Hid (Bk wr w.heap.size g k x 0) := ⟨by omega, hg, fun j hj => by rw [HX.out.1 j hj]; simp [padk, blk, List.getD, hj], fun j hj => (HX.out.2 j (by omega)).2⟩
        clear HX
        go_wp2_with fail
        go_loopw [6] (fun i wq => ∃ j : Nat, j ≤ 64 ∧ i = .int .i64 j ∧ Hid (Bk wq w.heap.size g k x j) ∧ Hid (Below w.heap.size w wq)) (fun i _ => (64 - intOf i).toNat)
        case atStart => exact ⟨0, by omega, rfl, HBK, HB⟩
        case round =>
          clear HBK HB HO HLE
          obtain ⟨j, hj, rfl, HBK, HB⟩ := hrel
          by_cases hlj : j < 64
          · have hlj' : (j : Int) < 64 := by omega
            have hc := HBK.out.cell j hlj
            rw [show blk k x j j = kbt k j by simp [blk]] at hc
            have hf := HBK.out.free j hlj
            go_wp2
            go_roundw
            case rel => exact ⟨j + 1, by omega, by go_num, HBK.out.step hlj, HB.out.setCell HBK.out.base _⟩
            case measure => simp [intOf]; omega
          · have hlj' : ¬ (j : Int) < 64 := by omega
            obtain rfl : j = 64 := by omega
            have hcv := conv_at (keyL k x 64) wr g 0 64 cap (by rw [keyL_length]) (fun i u hu => by
              have hi : i < 64 := by have h := (List.getElem?_eq_some_iff.1 hu).1; simpa [keyL_length] using h
              rw [Addr.add_mid, Nat.zero_add, HBK.out.cell i hi, ← hu]
              simp [keyL, blk, hi])
            rw [HF.out] at hcv
            go_wp2
            go_ret
            exact ⟨rfl, HB.out⟩
  · have h64' : ¬ (key.size : Int) > 64 := by omega
    have HKS : Hid (keyS key = key) := by show _ = _; unfold keyS; rw [if_neg h64]
    have HF : Hid (str (keyL key x 64) = keyedF key x) := by show _ = _; unfold keyedF; rw [HKS.out]
    rw [HKS.out] at HS
    obtain ⟨v, w1, hcv, ho1, hb1⟩ := of_stringF w key
    have HB0 : Hid (Below w.heap.size w w) := Below.refl _ _
    go_enter Tryd.func7, Tryd.ntmps7
    have HO1 : Hid (OwnF w1 w.heap.size v key.size (padk key key.size)) := by show OwnF _ _ _ _ _; rw [← padk_start]; exact ho1
    have HB1 : Hid (Below w.heap.size w w1) := HB0.out.trans (hb1.mono HB0.out.size)
    have hle0 := HB0.out.size
    have HLE : Hid (w.heap.size ≤ w1.heap.size) := hb1.size
    clear ho1 hb1
    go_wp2_with fail
    go_loopw [5] (fun v wr => ∃ n : Nat, key.size ≤ n ∧ n ≤ 64 ∧ Hid (OwnF wr w.heap.size v n (padk key n)) ∧ Hid (Below w.heap.size w wr) ∧ Hid (w.heap.size ≤ wr.heap.size)) (fun v _ => 64 - lenV v)
    case atStart => exact ⟨key.size, by omega, HS, HO1, HB1, HLE⟩
    case round =>
      clear hcv HO1 HB1 HLE
      obtain ⟨n, hn1, hn2, HO, HB, HLE⟩ := hrel
      obtain ⟨hl, g, cap, rfl, hbg, hg, hnc, h1, h2⟩ := HO.out
      have HX : Hid (_ ∧ _) := ⟨h1, h2⟩
      clear hl h1 h2
      by_cases hlt : n < 64
      · have hlt' : (n : Int) < 64 := by omega
        go_wp2_with (at_builtin; refine append_free rfl (.tmp 17) (.tmp 18) rfl w.heap.size _ n _ rfl (HO.out.alloc _) ⟨wr.heap.size, 0, none⟩ 1 0 rfl (one_new _ _ _) (by omega) (by have := HLE.out; simp; omega) ?_; intro v' w2 ho2 hb2; have HO2 : Hid (OwnF _ _ _ _ _) := ho2; have HB2 : Hid (Below w.heap.size w w2) := (HB.out.alloc HB.out.size _).trans (hb2.mono hle0); have HL2 : Hid (w.heap.size ≤ w2.heap.size) := Nat.le_trans HLE.out (Nat.le_trans (by simp) hb2.size); clear ho2 hb2)
        go_roundw
        case rel => exact ⟨n + 1, by omega, by omega, by rw [← padk_succ key n hn1]; exact HO2, HB2, HL2⟩
        case measure =>
          obtain ⟨_, g2, cap2, e2, _⟩ := HO2.out
          rw [e2]
          simp only [lenV]; omega
      · have hlt' : ¬ (n : Int) < 64 := by omega
        obtain rfl : n = 64 := by omega
        have HBK : Hid (Bk wr w.heap.size g key x 0) := ⟨by omega, hg, fun j hj => by rw [HX.out.1 j hj]; simp [padk, blk, List.getD, hj], fun j hj => (HX.out.2 j (by omega)).2⟩
        clear HX
        go_wp2_with fail
        go_loopw [6] (fun i wq => ∃ j : Nat, j ≤ 64 ∧ i = .int .i64 j ∧ Hid (Bk wq w.heap.size g key x j) ∧ Hid (Below w.heap.size w wq)) (fun i _ => (64 - intOf i).toNat)
        case atStart => exact ⟨0, by omega, rfl, HBK, HB⟩
        case round =>
          clear HBK HB HO HLE
          obtain ⟨j, hj, rfl, HBK, HB⟩ := hrel
          by_cases hlj : j < 64
          · have hlj' : (j : Int) < 64 := by omega
            have hc := HBK.out.cell j hlj
            rw [show blk key x j j = kbt key j by simp [blk]] at hc
            have hf := HBK.out.free j hlj
            go_wp2
            go_roundw
            case rel => exact ⟨j + 1, by omega, by go_num, HBK.out.step hlj, HB.out.setCell HBK.out.base _⟩
            case measure => simp [intOf]; omega
          · have hlj' : ¬ (j : Int) < 64 := by omega
            obtain rfl : j = 64 := by omega
            have hcv := conv_at (keyL key x 64) wr g 0 64 cap (by rw [keyL_length]) (fun i u hu => by
              have hi : i < 64 := by have h := (List.getElem?_eq_some_iff.1 hu).1; simpa [keyL_length] using h
              rw [Addr.add_mid, Nat.zero_add, HBK.out.cell i hi, ← hu]
              simp [keyL, blk, hi])
            rw [HF.out] at hcv
            go_wp2
            go_ret
            exact ⟨rfl, HB.out⟩
end Go.Proofs.YtmgkfkfmiddanaaDoor.ms
