import Derived.Test.YthblljfkodbbeabTn
namespace Go.Proofs.Ythblljfkodbbeab.to
open Go.RowKit Go.PlainAid
open Go.Proofs.Ythblljfkodbbeab.ta Go.Proofs.Ythblljfkodbbeab.tb Go.Proofs.Ythblljfkodbbeab.tc Go.Proofs.Ythblljfkodbbeab.td Go.Proofs.Ythblljfkodbbeab.te Go.Proofs.Ythblljfkodbbeab.tf Go.Proofs.Ythblljfkodbbeab.tg Go.Proofs.Ythblljfkodbbeab.th Go.Proofs.Ythblljfkodbbeab.ti Go.Proofs.Ythblljfkodbbeab.tj Go.Proofs.Ythblljfkodbbeab.tk Go.Proofs.Ythblljfkodbbeab.tm Go.Proofs.Ythblljfkodbbeab.tn
set_option linter.unusedVariables false

theorem over {w w1 w2 : World} (h : Below w.heap.size w w1) (b : Below w1.heap.size w1 w2) : Below w.heap.size w w2 := h.trans (b.mono h.size)
theorem value16 (c : Int) (c0 : 0 ≤ c) (c1 : c ≤ 255) (w : World) : Calls Try.prog 17 #[.string ⟨#[48, 49, 50, 51, 52, 53, 54, 55, 56, 57, 97, 98, 99, 100, 101, 102]⟩, .int .u8 c] w fun e w' => e = .returned (.int .i64 (rv A16 c)) ∧ w' = w := by
  have := value L16 c c0 c1 (by decide) w
  rw [bs16] at this
  exact this
theorem rv16 (c : Int) : 0 ≤ rv A16 c ∧ rv A16 c < 16 := rv_in A16 c 16 (by decide +kernel) (by decide)
theorem pairs_two (n : Nat) : ∀ l : List Int, l.length = 2 * n → ∀ a b, pairs (l ++ [a, b]) = pairs l ++ [a * 16 + b] := by
  induction n with
  | zero => intro l h a b; have : l = [] := List.length_eq_zero_iff.1 (by omega)
            subst this; rfl
  | succ n ih =>
    intro l h a b
    match l, h with
    | [], h => simp at h
    | [x], h => simp at h; omega
    | x :: y :: r, h => simp [pairs, ih r (by simp at h; omega) a b]
theorem gh_two (s : ByteArray) (k : Nat) : ghL (btL s (2 * k + 2)) = ghL (btL s (2 * k)) ++ [rv A16 (bt s (2 * k)) * 16 + rv A16 (bt s (2 * k + 1))] := by
  unfold ghL
  rw [btL_succ, btL_succ, List.append_assoc, List.map_append]
  exact pairs_two k _ (by rw [List.length_map, btL_length]) _ _
theorem pairs_odd (n : Nat) : ∀ l : List Int, l.length = 2 * n → ∀ a, pairs (l ++ [a]) = pairs l := by
  induction n with
  | zero => intro l h a; have : l = [] := List.length_eq_zero_iff.1 (by omega)
            subst this; rfl
  | succ n ih =>
    intro l h a
    match l, h with
    | [], h => simp at h
    | [x], h => simp at h; omega
    | x :: y :: r, h => simp [pairs, ih r (by simp at h; omega) a]
theorem gh_end (s : ByteArray) (k : Nat) (h1 : ¬ 2 * k + 1 < s.size) (h2 : 2 * k ≤ s.size) : ghL (bs s) = ghL (btL s (2 * k)) := by
  unfold bs
  rcases (by omega : s.size = 2 * k ∨ s.size = 2 * k + 1) with h | h
  · rw [h]
  · rw [h]
    unfold ghL
    rw [btL_succ, List.map_append]
    exact pairs_odd k _ (by rw [List.length_map, btL_length]) _

set_option maxHeartbeats 1600000 in
theorem rUnHex (s : ByteArray) (hs : s.size ≤ 140737488355328) (w : World) :
    Calls Try.prog 11 #[.string s] w fun e w' => e = .returned (unhexV s) ∧ Below w.heap.size w w' := by
  obtain ⟨i5, hi, hz0, hz1, hz2⟩ := info_parts info5
  have HIN : Hid (_ ∧ _ ∧ _ ∧ _) := ⟨hi, hz0, hz1, hz2⟩
  clear hi hz0 hz1 hz2
  have hgb := get_bt s
  obtain ⟨R, HR⟩ : ∃ R, Hid (unhexV s = R) := ⟨_, rfl⟩
  rw [HR.out]
  go_enter Try.func11, Try.ntmps11
  go_wp2
  go_loopw [4, 5] (fun o i wr => ∃ k : Nat, 2 * k ≤ s.size ∧ i = .int .i64 ((2 * k : Nat) : Int) ∧ Hid (wr.ownsRow w.heap.size 5 1 o k ((ghL (btL s (2 * k))).map (Value.int .u8))) ∧ Hid (Below w.heap.size w wr)) (fun _ i _ => (s.size - intOf i).toNat)
  case atStart => exact ⟨0, by omega, rfl, World.ownsRow_nil _ _ _ _, Below.refl _ _⟩
  case round =>
    obtain ⟨k, hk, rfl, HO, HB⟩ := hrel
    have hbase := HB.out.size
    by_cases hlt : 2 * k + 1 < s.size
    · have hlt' : ((2 * k : Nat) : Int) + 1 < s.size := by omega
      have hlt2 : ((2 * k : Nat) : Int) < s.size := by omega
      have a0 := bt_nonneg s (2 * k)
      have a1 := bt_le s (2 * k)
      have b0 := bt_nonneg s (2 * k + 1)
      have b1 := bt_le s (2 * k + 1)
      have HG : Hid (_ = _) := gh_two s k
      have hkm : k ≤ 140737488355326 := by omega
      obtain ⟨j, HJ⟩ : ∃ j, Hid (2 * k = j) := ⟨_, rfl⟩
      rw [HJ.out] at hlt hlt' hlt2 a0 a1 b0 b1 HG HO hk
      have hj1 : ((j : Int) + 1).toNat = j + 1 := by omega
      obtain ⟨a, HA⟩ : ∃ a, Hid (bt s j = a) := ⟨_, rfl⟩
      obtain ⟨b, HBB⟩ : ∃ b, Hid (bt s (j + 1) = b) := ⟨_, rfl⟩
      have hga : ∀ (h : j < s.size), ((s[j]'h).toNat : Int) = a := fun h => (hgb j h).trans HA.out
      have hgc : ∀ (h : j + 1 < s.size), ((s[j + 1]'h).toNat : Int) = b := fun h => (hgb (j + 1) h).trans HBB.out
      rw [HA.out] at a0 a1 HG
      rw [HBB.out] at b0 b1 HG
      have ra := rv16 a
      have rb := rv16 b
      obtain ⟨ra0, ra1⟩ := ra
      obtain ⟨rb0, rb1⟩ := rb
      obtain ⟨x, HX⟩ : ∃ x, Hid (rv A16 a = x) := ⟨_, rfl⟩
      obtain ⟨y, HY⟩ : ∃ y, Hid (rv A16 b = y) := ⟨_, rfl⟩
      rw [HX.out] at ra0 ra1 HG
      rw [HY.out] at rb0 rb1 HG
      have hx := HX.out
      have hy := HY.out
      have hwr : IntKind.u8.wrap (16 * x + y) = 16 * x + y := by rw [IntKind.wrap_u8']; omega
      have hw1 : IntKind.i64.wrap (16 * x) = 16 * x := by rw [IntKind.wrap_i64]; omega
      have hw2 : IntKind.i64.wrap (16 * x + y) = 16 * x + y := by rw [IntKind.wrap_i64]; omega
      have hw3 : IntKind.i64.wrap ((j : Int) + 1) = (j : Int) + 1 := by rw [IntKind.wrap_i64]; omega
      clear hgb
      rw [HJ.out]
      go_wp2_with fail
      go_region_held3 (fun w' => True) (trivial) ((first | (go_at_call 17; refine (value16 _ (by omega) (by omega) _).mono ?_; rintro e w' ⟨rfl, rfl⟩) | (refine step_append_lies _ (by rfl) _ _ 35 (by rfl) w.heap.size 5 i5 (.int .u8 0) 1 1 Try.underlying35 HIN.out.1 HIN.out.2.1 HIN.out.2.2.1 HIN.out.2.2.2 rfl (by decide) _ k _ (by rfl) (World.ownsRow.drew (HO.out.alloc _)) ⟨wr.heap.size, 0, none⟩ 1 1 [.int .u8 (16 * x + y)] (by rfl) rfl (fun i u hu => by cases i with | zero => (simp at hu; rw [← hu]; exact new_cell_d _ _ _) | succ i => simp at hu) (fun u hu => by simp at hu; subst hu; rfl) (by omega) (by unfold maxLen; omega) (by omega) (by simp; omega) _ rfl ?_; intro g7 cap7 w7 hown7 hgrow7 hlies7 hglt7)))
      all_goals (
        have HO7 : Hid (World.ownsRow _ _ _ _ _ _ _) := hown7
        have HB7 : Hid (Below w.heap.size w w7) := Below.grown (HB.out.alloc (by omega) _) (grown_drew hgrow7) (by simp; omega) (fun j hj => (HO.out.lt _ hj).1)
        clear hown7 hgrow7 hlies7
        go_wp2
        go_roundw
        case rel =>
          have := HJ.out
          refine ⟨k + 1, by omega, by go_num, ?_, HB7.out⟩
          rw [show 2 * (k + 1) = j + 2 by omega, HG.out, List.map_append, show x * 16 + y = 16 * x + y by omega]
          exact HO7.out
        case measure => simp [intOf]; omega)
    · have hlt' : ¬ ((2 * k : Nat) : Int) + 1 < s.size := by omega
      have HG : Hid (_ = _) := gh_end s k hlt hk
      have hz : (ghL (bs s)).length = k := by rw [HG.out]; have := HO.out.1; rw [List.length_map] at this; omega
      rw [← HG.out] at HO
      have HT : Hid (_ = _) := refHex s
      have HH : Hid (∀ w', Calls _ _ _ _ _) := fun w' => rHex (str (ghL (bs s))) (by rw [str_size, hz]; omega) w'
      have hcv := own_conv wr w.heap.size _ (ghL (bs s)) k hz.symm HO.out
      rw [bs_str _ (ghL_in _)] at HH
      rw [HR.out] at HT
      unfold readV failV at HT
      clear HG HO hgb HR
      by_cases he : str (hexL (ghL (bs s))) = s
      · rw [if_pos he] at HT
        rw [he] at HH
        clear he
        generalize str (ghL (bs s)) = G at *
        have hbb : (s.toList == s.toList) = true := beq_self_eq_true _
        go_wp2_with fail
        refine (HH.out _).mono ?_
        rintro e w1 ⟨rfl, hb1⟩
        have HB1 : Hid (Below w.heap.size w w1) := over HB.out hb1
        clear hb1
        go_wp2
        go_ret2
        exact ⟨by rw [← HT.out]; rfl, HB1.out⟩
      · rw [if_neg he] at HT
        have hbb : ((str (hexL (ghL (bs s)))).toList == s.toList) = false := by rw [toList_bs]; exact decide_eq_false he
        clear he
        generalize str (hexL (ghL (bs s))) = H at *
        generalize str (ghL (bs s)) = G at *
        go_wp2_with fail
        refine (HH.out _).mono ?_
        rintro e w1 ⟨rfl, hb1⟩
        have HB1 : Hid (Below w.heap.size w w1) := over HB.out hb1
        clear hb1
        go_wp2
        go_ret2
        exact ⟨by rw [← HT.out]; rfl, HB1.out⟩
end Go.Proofs.Ythblljfkodbbeab.to
