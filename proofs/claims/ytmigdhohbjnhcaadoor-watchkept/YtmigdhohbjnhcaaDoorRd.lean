import Derived.Test.YtmigdhohbjnhcaaDoorRc
namespace Go.Proofs.YtmigdhohbjnhcaaDoor.rd
open Go.RowKit Go.PlainAid
open Go.Proofs.YtmigdhohbjnhcaaDoor.pl Go.Proofs.YtmigdhohbjnhcaaDoor.pd Go.Proofs.YtmigdhohbjnhcaaDoor.pf Go.Proofs.YtmigdhohbjnhcaaDoor.ra Go.Proofs.YtmigdhohbjnhcaaDoor.rb Go.Proofs.YtmigdhohbjnhcaaDoor.rc
set_option linter.unusedVariables false

theorem one_new (W : World) (u : Value) (t : TypeId) : (W.alloc (.cells #[u] t)).cell? ⟨W.heap.size, 0, none⟩ = some u := by
  rw [World.cell?_alloc_at _ _ _ _ rfl]; rfl

def lenV : Value → Nat | .slice _ n _ => n | _ => 0

def upL (s : ByteArray) (k : Nat) : List Int := btL s s.size ++ (128 :: List.replicate k 0)
theorem upL_next (s : ByteArray) (k : Nat) : upL s k ++ [0] = upL s (k + 1) := by simp [upL, List.replicate_succ']
def fullL (s : ByteArray) (z : Nat) (c : Int) (i : Nat) : List Int := upL s z ++ (lowB c 8).take i
theorem lowB_at (c : Int) : ∀ i, i < 8 → (lowB c 8)[i]? = some (c / 256 ^ (7 - i) % 256)
  | 0, _ => rfl
  | 1, _ => rfl
  | 2, _ => rfl
  | 3, _ => rfl
  | 4, _ => rfl
  | 5, _ => rfl
  | 6, _ => rfl
  | 7, _ => rfl
theorem fullL_next (s : ByteArray) (z : Nat) (c u : Int) (i : Nat) (hi : i < 8) (hu : u = c / 256 ^ (7 - i) % 256) : fullL s z c i ++ [u] = fullL s z c (i + 1) := by
  rw [fullL, fullL, List.append_assoc, List.take_add_one, lowB_at c i hi, hu]
  rfl
theorem pow_back (i : Nat) (h : i < 8) : (2 : Int) ^ (56 - 8 * i) = 256 ^ (7 - i) := by
  rw [show 56 - 8 * i = 8 * (7 - i) by omega, pow256]

theorem lowB_rng (c : Int) (k : Nat) : ∀ x ∈ lowB c k, 0 ≤ x ∧ x ≤ 255 := by
  induction k with
  | zero => intro x hx; cases hx
  | succ k ih =>
    intro x hx
    rcases List.mem_cons.1 hx with rfl | h
    · omega
    · exact ih x h
theorem padL_rng (n : Nat) : ∀ x ∈ padL n, 0 ≤ x ∧ x ≤ 255 := by
  intro x hx
  rcases List.mem_cons.1 hx with rfl | h
  · omega
  · rcases List.mem_append.1 h with h | h
    · have := (List.mem_replicate.1 h).2; omega
    · exact lowB_rng _ _ x h
theorem pad_at (s : ByteArray) (i : Nat) (hi : i < (padB s).size) : (btL s s.size ++ padL s.size).getD i 0 = bt (padB s) i := by
  rcases Nat.lt_or_ge i s.size with h | h
  · rw [padB, bt_append_left _ _ _ h, List.getD, List.getElem?_append_left (by rw [btL_length]; exact h)]
    exact btL_get s s.size i h
  · obtain ⟨j, rfl⟩ : ∃ j, i = s.size + j := ⟨i - s.size, by omega⟩
    have hj : j < (padL s.size).length := by
      rw [padB, ByteArray.size_append, str_size] at hi; omega
    have hr := padL_rng s.size _ (List.getElem_mem hj)
    rw [padB, bt_append_right, str_bt _ _ hj hr.1 hr.2, List.getD, List.getElem?_append_right (by rw [btL_length]; omega), btL_length, Nat.add_sub_cancel_left, List.getElem?_eq_getElem hj]
    rfl

set_option maxHeartbeats 1600000 in
theorem padded (s : ByteArray) (w : World) (hs : s.size ≤ 140737488352256) :
    Calls Tryd.prog 24 #[.string s] w fun e w' => ∃ g cap, e = .returned (.slice (some ⟨g, 0, none⟩) (64 * padN s.size) cap) ∧ Below w.heap.size w w' ∧ Bytes w' g 0 (64 * padN s.size) (bt (padB s)) := by
  obtain ⟨v, w1, hcv, ho1, hb1⟩ := of_string w s hs
  have HO1 : Hid (OwnM _ _ _ _ _) := ho1
  have HB1 : Hid (Below _ _ _) := hb1
  clear ho1 hb1
  obtain ⟨z, HZ⟩ : ∃ z, Hid (z = zerosF s.size) := ⟨_, rfl⟩
  have hz : z < 64 := by have := HZ.out; rw [this]; unfold zerosF; omega
  have HZ2 : Hid (∀ k, k < z → (s.size + 1 + k) % 64 ≠ 56) := fun k hk => by have h1 := HZ.out; unfold zerosF at h1; omega
  have HZ3 : Hid ((s.size + 1 + z) % 64 = 56) := by show _ = _; have h1 := HZ.out; unfold zerosF at h1; omega
  go_enter Tryd.func24, Tryd.ntmps24
  go_wp2_with (at_builtin; refine append_mark rfl (.tmp 8) (.tmp 9) rfl w.heap.size v s.size _ rfl (HO1.out.alloc _) ⟨w1.heap.size, 0, none⟩ 1 128 rfl (one_new _ _ _) (by omega) (by have := HB1.out.size; simp; omega) ?_; intro v' w2 ho2 hb2; have HO2 : Hid (OwnM _ _ _ _ _) := ho2; have HB2 : Hid (Below w.heap.size w w2) := (HB1.out.alloc HB1.out.size _).trans hb2; clear ho2 hb2)
  go_loopw [3] (fun b wr => ∃ k : Nat, k ≤ z ∧ OwnM wr w.heap.size b (s.size + 1 + k) (upL s k) ∧ Below w.heap.size w wr) (fun b _ => s.size + 1 + z - lenV b)
  case atStart => exact ⟨0, by omega, HO2.out, HB2.out⟩
  case round =>
    clear hcv HO1 HB1 HO2 HB2
    obtain ⟨k, hk, hown, hbel⟩ := hrel
    have HOWN : Hid (OwnM _ _ _ _ _) := hown
    have HBEL : Hid (Below _ _ _) := hbel
    obtain ⟨m, HM⟩ : ∃ m, Hid (m = s.size + 1 + k) := ⟨_, rfl⟩
    rw [← HM.out] at HOWN
    clear hown hbel
    obtain ⟨hl, g, cap, rfl, hbg, hg, h1, h2⟩ := HOWN.out
    clear hl h1 h2
    have hmb : m ≤ 140737488352256 + 100 := by have := HM.out; omega
    by_cases hlt : k < z
    · have hq : m % 64 ≠ 56 := by have := HM.out; have := HZ2.out k hlt; rw [‹m = s.size + 1 + k›]; exact this
      have q1 : ((m : Int) % 64 != 56) = true := by rw [bne_iff_ne]; omega
      have q2 : ((m : Int).tmod 64 != 56) = true := by rw [Int.tmod_eq_emod_of_nonneg (by omega)]; exact q1
      have HQ : Hid _ := hq
      clear hq
      go_wp2_with (at_builtin; refine append_mark rfl (.tmp 15) (.tmp 16) rfl w.heap.size _ m _ rfl (HOWN.out.alloc _) ⟨wr.heap.size, 0, none⟩ 1 0 rfl (one_new _ _ _) (by omega) (by have := HBEL.out.size; simp; omega) ?_; intro v' w2 ho2 hb2; have HO2 : Hid (OwnM _ _ _ _ _) := ho2; have HB2 : Hid (Below w.heap.size w w2) := (HBEL.out.alloc HBEL.out.size _).trans hb2; clear ho2 hb2)
      go_roundw
      case rel =>
        refine ⟨k + 1, by omega, ?_, HB2.out⟩
        rw [← upL_next, show s.size + 1 + (k + 1) = m + 1 by have := HM.out; omega]
        exact HO2.out
      case measure =>
        obtain ⟨_, g2, cap2, e2, _⟩ := HO2.out
        rw [e2]
        have := HM.out
        simp only [lenV]; omega
    · have e : k = z := by omega
      subst e
      have hq : m % 64 = 56 := by have h1 := HM.out; have h2 := HZ3.out; rw [h1]; exact h2
      have q1 : ((m : Int) % 64 != 56) = false := by rw [bne_eq_false_iff_eq]; omega
      have q2 : ((m : Int).tmod 64 != 56) = false := by rw [Int.tmod_eq_emod_of_nonneg (by omega)]; exact q1
      have HQ : Hid _ := hq
      clear hq hlt
      have HF0 : Hid (fullL s k ((s.size : Int) * 8) 0 = upL s k) := by show _ = _; simp [fullL]
      go_wp2_with fail
      go_loopw [3, 5] (fun b i wr => ∃ j : Nat, j ≤ 8 ∧ i = .int .i64 j ∧ OwnM wr w.heap.size b (m + j) (fullL s k ((s.size : Int) * 8) j) ∧ Below w.heap.size w wr) (fun _ i _ => (8 - intOf i).toNat)
      case atStart => exact ⟨0, by omega, rfl, by rw [HF0.out]; exact HOWN.out, HBEL.out⟩
      case round =>
        clear HOWN HBEL q1 q2 hbg hg
        obtain ⟨j, hj, rfl, hown, hbel⟩ := hrel
        have HOWN : Hid (OwnM _ _ _ _ _) := hown
        have HBEL : Hid (Below _ _ _) := hbel
        obtain ⟨m2, HM2⟩ : ∃ m2, Hid (m2 = m + j) := ⟨_, rfl⟩
        rw [← HM2.out] at HOWN
        clear hown hbel
        obtain ⟨hl, g, cap, rfl, hbg, hg, h1, h2⟩ := HOWN.out
        clear hl h1 h2
        have hmb2 : m2 ≤ 140737488352256 + 200 := by have := HM2.out; omega
        by_cases hlt : j < 8
        · have hlt' : (j : Int) < 8 := by omega
          have hj56 : (0 : Int) ≤ 56 - 8 * (j : Int) := by omega
          go_wp2_with (at_builtin; refine append_mark rfl (.tmp 26) (.tmp 34) rfl w.heap.size _ m2 _ rfl (HOWN.out.alloc _) ⟨wr.heap.size, 0, none⟩ 1 _ rfl (one_new _ _ _) (by omega) (by have := HBEL.out.size; simp; omega) ?_; intro v' w2 ho2 hb2; have HO2 : Hid (OwnM _ _ _ _ _) := ho2; have HB2 : Hid (Below w.heap.size w w2) := (HBEL.out.alloc HBEL.out.size _).trans hb2; clear ho2 hb2)
          go_roundw
          case rel =>
            refine ⟨j + 1, by omega, by go_num, ?_, HB2.out⟩
            rw [← fullL_next s k _ _ j hlt rfl, show m + (j + 1) = m2 + 1 by have := HM2.out; omega, ← pow_back j hlt]
            exact HO2.out
          case measure => simp [intOf]; omega
        · have e : j = 8 := by omega
          subst e
          have hlt' : ¬ ((8 : Nat) : Int) < 8 := by omega
          go_wp2
          go_ret
          have hm : m2 = 64 * padN s.size := by
            have h1 := HM2.out; have h2 := HM.out; have h3 := HZ.out
            rw [padN_mul]; omega
          obtain ⟨hl, g', cap', e', _, hg', h1, _⟩ := HOWN.out
          obtain ⟨rfl, rfl⟩ : g = g' ∧ cap = cap' := by
            injection e' with e1 e2 e3
            injection e1 with e4
            injection e4 with e5
            exact ⟨e5, e3⟩
          rw [← hm]
          refine ⟨g, ⟨cap, rfl⟩, HBEL.out, hg', fun i hi => ?_⟩
          have hb := (show fullL s k ((s.size : Int) * 8) 8 = btL s s.size ++ padL s.size by
            have e8 : (lowB ((s.size : Int) * 8) 8).take 8 = lowB ((s.size : Int) * 8) 8 := List.take_of_length_le (by rw [lowB_length]; omega)
            have e9 : bitsF s.size = (s.size : Int) * 8 := by unfold bitsF; omega
            rw [fullL, upL, e8, padL, e9, ← HZ.out]
            simp)
          rw [Nat.zero_add, h1 i hi, hb]
          have key := pad_at s i (by rw [padB_size, ← hm]; exact hi)
          rw [key]
          exact ⟨rfl, bt_nonneg _ _, bt_le _ _⟩
end Go.Proofs.YtmigdhohbjnhcaaDoor.rd
