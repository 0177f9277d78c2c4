import Derived.Test.YtpbapaghcabehaaDoorTm
import Derived.Laws.Strings2
namespace Go.Proofs.YtpbapaghcabehaaDoor.tn
open Go.RowKit Go.PlainAid
open Go.Proofs.YtpbapaghcabehaaDoor.ta Go.Proofs.YtpbapaghcabehaaDoor.tb Go.Proofs.YtpbapaghcabehaaDoor.tc Go.Proofs.YtpbapaghcabehaaDoor.td Go.Proofs.YtpbapaghcabehaaDoor.te Go.Proofs.YtpbapaghcabehaaDoor.tf Go.Proofs.YtpbapaghcabehaaDoor.tg Go.Proofs.YtpbapaghcabehaaDoor.th Go.Proofs.YtpbapaghcabehaaDoor.ti Go.Proofs.YtpbapaghcabehaaDoor.tj Go.Proofs.YtpbapaghcabehaaDoor.tk Go.Proofs.YtpbapaghcabehaaDoor.tm
set_option linter.unusedVariables false

theorem one_str (q : ByteArray) (k : Nat) (h : k < q.size) : q.extract k (k + 1) = str [bt q k] := by
  apply bs_inj
  have h0 := bt_nonneg q k; have h1 := bt_le q k
  rw [bs_str _ (fun x hx => by rw [List.mem_singleton.1 hx]; omega), bs_extract q k (k + 1) (by omega) (by omega)]
  apply List.ext_getElem
  · rw [List.length_drop, List.length_take, bs_length]; simp; omega
  · intro i h2 h3
    have : i = 0 := by simpa using h3
    subst this
    rw [List.getElem_drop, List.getElem_take, bs_get q _ (by omega)]
    simp

set_option maxHeartbeats 400000 in
theorem sign (al : ByteArray) (v : Int) (h0 : 0 ≤ v) (h1 : v < al.size) (hz : al.size ≤ 64) (w : World) :
    Calls Tryd.prog 32 #[.string al, .int .i64 v] w fun e w' => e = .returned (.string (str [bt al v.toNat])) ∧ w' = w := by
  obtain ⟨n, rfl⟩ := Int.eq_ofNat_of_zero_le h0
  have hn : n < al.size := by omega
  have HE : Hid (al.extract n (n + 1) = str [bt al n]) := one_str al n hn
  have hk : ((n : Int) + 1).toNat = n + 1 := by omega
  have hk1 : (n : Int) + 1 ≤ al.size := by omega
  have hk2 : (n : Int) ≤ (n : Int) + 1 := by omega
  have hk3 : (n : Int) < al.size := by omega
  go_enter Tryd.func32, Tryd.ntmps32
  go_wp2

  go_ret
  exact ⟨by rw [show ((n : Int).toNat) = n from rfl, ← HE.out]; rfl, rfl⟩

theorem idx_none (al : List Int) (c : Int) (k : Nat) (hk : k ≤ al.length) (h : ∀ j, j < k → al.getD j 0 ≠ c) : k ≤ al.idxOf c := by
  rcases Nat.lt_or_ge (al.idxOf c) k with hlt | hge
  · exfalso
    apply h _ hlt
    have hl : al.idxOf c < al.length := by omega
    rw [List.getD_eq_getElem?_getD, List.getElem?_eq_getElem hl, Option.getD_some]
    exact List.getElem_idxOf hl
  · exact hge
theorem rv_at (al : List Int) (c : Int) (k : Nat) (hk : k < al.length) (h : ∀ j, j < k → al.getD j 0 ≠ c) (he : al.getD k 0 = c) : rv al c = k := by
  have h1 := idx_none al c k (by omega) h
  have hm : c ∈ al := by rw [← he, List.getD_eq_getElem?_getD, List.getElem?_eq_getElem hk, Option.getD_some]; exact List.getElem_mem _
  have h2 : al.idxOf c < al.length := List.idxOf_lt_length_of_mem hm
  have h3 : al.idxOf c ≤ k := by
    rcases Nat.lt_or_ge k (al.idxOf c) with hlt | hge
    · exfalso
      have := List.not_of_lt_findIdx (xs := al) (p := fun x => x == c) hlt
      rw [List.getD_eq_getElem?_getD, List.getElem?_eq_getElem hk, Option.getD_some] at he
      simp [he] at this
    · exact hge
  unfold rv rvN
  rw [if_pos h2]
  omega
theorem rv_no (al : List Int) (c : Int) (h : ∀ j, j < al.length → al.getD j 0 ≠ c) : rv al c = 0 := by
  have h1 := idx_none al c al.length (Nat.le_refl _) h
  unfold rv rvN
  rw [if_neg (by omega)]
  rfl

set_option maxHeartbeats 800000 in
theorem value (al : ByteArray) (c : Int) (c0 : 0 ≤ c) (c1 : c ≤ 255) (hz : al.size ≤ 64) (w : World) :
    Calls Tryd.prog 34 #[.string al, .int .u8 c] w fun e w' => e = .returned (.int .i64 (rv (bs al) c)) ∧ w' = w := by
  have hgb := get_bt al
  obtain ⟨R, HR⟩ : ∃ R, Hid (rv (bs al) c = R) := ⟨_, rfl⟩
  rw [HR.out]
  go_enter Tryd.func34, Tryd.ntmps34
  go_wp2
  go_loop [5] (fun i => ∃ k : Nat, k ≤ al.size ∧ i = .int .i64 k ∧ Hid (∀ j, j < k → (bs al).getD j 0 ≠ c)) (fun i => (al.size - intOf i).toNat)
  case atStart => exact ⟨0, by omega, rfl, fun j hj => by omega⟩
  case round =>
    obtain ⟨k, hk, rfl, HN⟩ := hrel
    by_cases hlt : k < al.size
    · have hlt' : (k : Int) < al.size := by omega
      have b0 := bt_nonneg al k
      have b1 := bt_le al k
      by_cases he : bt al k = c
      · have HX : Hid (rv (bs al) c = (k : Int)) := rv_at (bs al) c k (by rw [bs_length]; exact hlt) HN.out (by rw [← bt_getD]; exact he)
        have he' : (bt al k == c) = true := by rw [he]; simp
        go_wp2
        go_ret
        exact ⟨by rw [← HR.out, HX.out]; rfl, rfl⟩
      · have he' : (bt al k == c) = false := beq_eq_false_iff_ne.2 he
        have HE : Hid (bt al k ≠ c) := he
        clear he
        go_wp2
        go_round
        case rel =>
          refine ⟨k + 1, by omega, by go_num, fun j hj => ?_⟩
          rcases Nat.lt_or_ge j k with h | h
          · exact HN.out j h
          · obtain rfl : j = k := by omega
            rw [← bt_getD]; exact HE.out
        case measure => simp [intOf]; omega
    · have hlt' : ¬ (k : Int) < al.size := by omega
      obtain rfl : k = al.size := by omega
      have HX : Hid (rv (bs al) c = 0) := rv_no (bs al) c (fun j hj => HN.out j (by rwa [bs_length] at hj))
      go_wp2
      go_ret
      exact ⟨by rw [← HR.out, HX.out]; rfl, rfl⟩

set_option maxHeartbeats 400000 in
theorem byteAt (s : ByteArray) (j : Nat) (hj : j ≤ 4611686018427387904) (hs : s.size ≤ 4611686018427387904) (w : World) :
    Calls Tryd.prog 33 #[.string s, .int .i64 j] w fun e w' => e = .returned (.int .i64 (bt s j)) ∧ w' = w := by
  have hgb := get_bt s
  by_cases h : j < s.size
  · have h' : (j : Int) < s.size := by omega
    have b0 := bt_nonneg s j
    have b1 := bt_le s j
    go_enter Tryd.func33, Tryd.ntmps33
    go_wp2
    go_ret
    exact ⟨rfl, rfl⟩
  · have h' : ¬ (j : Int) < s.size := by omega
    have HZ : Hid (bt s j = 0) := by show _ = _; unfold bt; rw [dif_neg h]
    rw [HZ.out]
    go_enter Tryd.func33, Tryd.ntmps33
    go_wp2
    go_ret
    exact ⟨rfl, rfl⟩

-- two signs of a byte
theorem hex_snoc (l : List Int) (b : Int) : hexL (l ++ [b]) = hexL l ++ [sg A16 (b / 16), sg A16 (b % 16)] := by rw [hexL_app]; rfl
theorem bt16 (v : Int) : bt L16 v.toNat = sg A16 v := by unfold sg; rw [bt_getD, bs16]
theorem bt64 (v : Int) : bt L64 v.toNat = sg A64 v := by unfold sg; rw [bt_getD, bs64]
theorem sign16 (v : Int) (h0 : 0 ≤ v) (h1 : v < 16) (w : World) : Calls Tryd.prog 32 #[.string ⟨#[48, 49, 50, 51, 52, 53, 54, 55, 56, 57, 97, 98, 99, 100, 101, 102]⟩, .int .i64 v] w fun e w' => e = .returned (.string (str [sg A16 v])) ∧ w' = w := by
  have := sign L16 v h0 (by show v < (16 : Nat); omega) (by decide) w
  rw [bt16] at this
  exact this
theorem str1_size (x : Int) : (str [x]).size = 1 := by rw [str_size]; rfl

end Go.Proofs.YtpbapaghcabehaaDoor.tn
