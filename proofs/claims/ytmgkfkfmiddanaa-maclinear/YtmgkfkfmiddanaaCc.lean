import Derived.Test.YtmgkfkfmiddanaaCb
namespace Go.Proofs.Ytmgkfkfmiddanaa.cc
open Go.RowKit Go.PlainAid
open Go.Proofs.Ytmgkfkfmiddanaa.cl Go.Proofs.Ytmgkfkfmiddanaa.ca Go.Proofs.Ytmgkfkfmiddanaa.cb
set_option linter.unusedVariables false

-- two texts xored, byte by byte
def xI (a b : ByteArray) (k : Nat) : List Int := (List.range k).map fun j => ((nt a j ^^^ nt b j : Nat) : Int)
theorem xI_length (a b : ByteArray) (k : Nat) : (xI a b k).length = k := by simp [xI]
theorem xI_succ (a b : ByteArray) (k : Nat) : xI a b (k + 1) = xI a b k ++ [((nt a k ^^^ nt b k : Nat) : Int)] := by
  unfold xI; rw [List.range_succ, List.map_append]; rfl
def xorF (a b : ByteArray) : ByteArray := str (xI a b (min a.size b.size))
theorem xorF_size (a b : ByteArray) : (xorF a b).size = min a.size b.size := by rw [xorF, str_size, xI_length]
theorem nt_xorF (a b : ByteArray) (j : Nat) (h : j < min a.size b.size) : nt (xorF a b) j = nt a j ^^^ nt b j := by
  have h1 := nt_lt a j
  have h2 := nt_lt b j
  have h3 : nt a j ^^^ nt b j < 256 := Nat.xor_lt_two_pow (n := 8) h1 h2
  have hl : j < (xI a b (min a.size b.size)).length := by rw [xI_length]; exact h
  have e : (xI a b (min a.size b.size))[j] = ((nt a j ^^^ nt b j : Nat) : Int) := by simp [xI]
  have e2 := str_bt _ j hl (by rw [e]; omega) (by rw [e]; omega)
  show (bt (xorF a b) j).toNat = _
  rw [xorF, e2, e]; rfl
theorem nl_xorF (a b : ByteArray) (k : Nat) (h : k ≤ min a.size b.size) : nl (xorF a b) k = List.zipWith (· ^^^ ·) (nl a k) (nl b k) := by
  induction k with
  | zero => rfl
  | succ k ih =>
    rw [nl_succ, nl_succ, nl_succ, ih (by omega), List.zipWith_append (by simp [nl]), nt_xorF a b k (by omega)]
    rfl

theorem one_lies (W : World) (a : Value) (t : TypeId) : ∀ j u, [a][j]? = some u → (W.alloc (.cells #[a] t)).cell? ((⟨W.heap.size, 0, none⟩ : Addr).add j) = some u := by
  intro j u hj
  rw [Addr.add_mid, Nat.zero_add, World.cell?_alloc_at _ _ _ _ rfl]
  simpa using hj

set_option maxHeartbeats 800000 in
theorem xored (a b : ByteArray) (w : World) (ha : a.size ≤ 140737488351232) (hb : b.size ≤ 140737488351232) :
    Calls Try.prog 10 #[.string a, .string b] w fun e w' => e = .returned (.string (xorF a b)) ∧ Below w.heap.size w w' := by
  obtain ⟨i5, hi, hz0, hz1, hz2⟩ := info_parts info5
  have HIN : Hid (_ ∧ _ ∧ _ ∧ _) := ⟨hi, hz0, hz1, hz2⟩
  clear hi hz0 hz1 hz2
  obtain ⟨m, HM⟩ : ∃ m, Hid (m = min a.size b.size) := ⟨_, rfl⟩
  have ma : m ≤ a.size := by have := HM.out; omega
  have mb : m ≤ b.size := by have := HM.out; omega
  go_enter Try.func10, Try.ntmps10
  go_wp2
  go_loopw [5, 6] (fun out i wr => ∃ k : Nat, k ≤ m ∧ i = .int .i64 k ∧ wr.ownsRow w.heap.size 5 1 out k ((xI a b k).map (Value.int .u8)) ∧ Below w.heap.size w wr) (fun _ i _ => (m - intOf i).toNat)
  case atStart => exact ⟨0, by omega, rfl, World.ownsRow_nil _ _ _ _, Below.refl _ _⟩
  case round =>
    obtain ⟨k, hk, rfl, hown, hbel⟩ := hrel
    have HOWN : Hid (World.ownsRow _ _ _ _ _ _ _) := hown
    have HBEL : Hid (Below _ _ _) := hbel
    clear hown hbel
    by_cases hlt : k < m
    · have hka : (k : Int) < a.size := by omega
      have hkb : (k : Int) < b.size := by omega
      have hk0 : (0 : Int) ≤ (k : Int) := by omega
      have hba := get_bt a
      have hbb := get_bt b
      have a0 := bt_nonneg a k
      have a1 := bt_le a k
      have b0 := bt_nonneg b k
      have b1 := bt_le b k
      have HX : Hid (bits .xor .u8 (bt a k) (bt b k) = ((nt a k ^^^ nt b k : Nat) : Int)) := by
        show _ = _
        rw [nt_bt, nt_bt, u8_xor_nat _ _ (nt_lt a k) (nt_lt b k)]
      go_wp2_with fail
      go_region_held3 (fun _ => True) (trivial) ((refine step_append_lies _ (by rfl) _ _ 35 (by rfl) w.heap.size 5 i5 (.int .u8 0) 1 1 Try.underlying35 HIN.out.1 HIN.out.2.1 HIN.out.2.2.1 HIN.out.2.2.2 rfl (by decide) _ _ _ (by rfl) (World.ownsRow.drew (HOWN.out.alloc _)) ⟨wr.heap.size, 0, none⟩ 1 1 [.int .u8 (bits .xor .u8 (bt a k) (bt b k))] (by rfl) rfl (one_lies _ _ _) (fun u hu => by simp at hu; subst hu; rfl) (by omega) (by unfold maxLen; omega) (by omega) (by have := HBEL.out.size; simp; omega) _ rfl ?_; intro g cap w3 hown' hgrow3 hlies hglt))
      all_goals (
        have HO3 : Hid (World.ownsRow _ _ _ _ _ _ _) := hown'
        have HB3 : Hid (Below w.heap.size w w3) := Below.grown ((HBEL.out.alloc HBEL.out.size _).drew) hgrow3 (by have := HBEL.out.size; simp; omega) (fun j hj => (HOWN.out.lt _ hj).1)
        clear hown' hgrow3 hlies hglt
        go_wp2
        go_roundw
        case rel =>
          refine ⟨k + 1, by omega, by go_num, ?_, HB3.out⟩
          rw [xI_succ, List.map_append, ← HX.out]
          exact HO3.out
        case measure => simp [intOf]; omega)
    · have e : k = m := by omega
      subst e
      have hcv := own_conv wr w.heap.size _ (xI a b k) k (by rw [xI_length]) HOWN.out
      have ht : str (xI a b k) = xorF a b := by rw [xorF, ← HM.out]
      rw [ht] at hcv
      clear ht
      rcases Nat.lt_or_ge k a.size with hka | hka
      · have h1 : (k : Int) < a.size := by omega
        have h2 : ¬ (k : Int) < b.size := by have := HM.out; omega
        go_wp2
        go_ret
        exact ⟨rfl, HBEL.out⟩
      · have h1 : ¬ (k : Int) < a.size := by omega
        go_wp2
        go_ret
        exact ⟨rfl, HBEL.out⟩
end Go.Proofs.Ytmgkfkfmiddanaa.cc
