import Derived.Test.YthgieagebcjafaaDoorTn
import Derived.Test.YthgieagebcjafaaDoorUc
import Derived.Test.YthgieagebcjafaaDoorTk
namespace Go.Proofs.YthgieagebcjafaaDoor.n3
open Go.RowKit Go.PlainAid
open Go.Proofs.YthgieagebcjafaaDoor.ta Go.Proofs.YthgieagebcjafaaDoor.tb Go.Proofs.YthgieagebcjafaaDoor.tc Go.Proofs.YthgieagebcjafaaDoor.td Go.Proofs.YthgieagebcjafaaDoor.te Go.Proofs.YthgieagebcjafaaDoor.tg Go.Proofs.YthgieagebcjafaaDoor.tj Go.Proofs.YthgieagebcjafaaDoor.tk Go.Proofs.YthgieagebcjafaaDoor.tm Go.Proofs.YthgieagebcjafaaDoor.tn Go.Proofs.YthgieagebcjafaaDoor.ub Go.Proofs.YthgieagebcjafaaDoor.uc
set_option linter.unusedVariables false

-- names
def ok1 (b : Int) : Bool := pr b && !(b == 43)
def nm (s : ByteArray) : Bool := decide (s.size ≠ 0) && decide (s.size ≤ 64) && (bs s).all ok1
set_option maxHeartbeats 400000 in
theorem name1 (b : Int) (w : World) : Calls Tryd.prog 58 #[.int .u8 b] w fun e w' => e = .returned (.bool (ok1 b)) ∧ w' = w := by
  have C : Hid (Calls _ _ _ _ _) := printed b w
  unfold ok1
  generalize pr b = p at *
  cases p
  all_goals
    go_enter Tryd.func58, Tryd.ntmps58
    go_wp2_with fail
    refine C.out.mono ?_
    rintro e w1 ⟨rfl, rfl⟩
    go_wp2
    go_ret
    exact ⟨rfl, rfl⟩
theorem eName1 : ∀ args w, (callFunc 58 args).run Tryd.prog w = .ok (.enter 58 args) w := enters_of Tryd.func58 (by kernel_rfl) rfl
theorem all_to (s : ByteArray) (h : ∀ k, k < s.size → ok1 (bt s k) = true) : (bs s).all ok1 = true := by
  rw [List.all_eq_true]
  intro x hx
  obtain ⟨k, hk, rfl⟩ := List.getElem_of_mem hx
  rw [bs_length] at hk
  rw [bs_get s k hk]
  exact h k hk
theorem all_not (s : ByteArray) (k : Nat) (hk : k < s.size) (h : ok1 (bt s k) = false) : (bs s).all ok1 = false := by
  rw [List.all_eq_false]
  refine ⟨bt s k, ?_, by simp [h]⟩
  rw [← bs_get s k hk]
  exact List.getElem_mem _
theorem thru (s : ByteArray) (hs : s.size ≤ 4611686018427387904) (w : World) : Calls Tryd.prog 57 #[.string s, .func (.func 58) #[] #[]] w fun e w' => e = .returned (.bool ((bs s).all ok1)) ∧ w' = w := by
  refine (through s hs 58 #[] eName1 (fun k w' => w' = w ∧ ∀ j, j < k → ok1 (bt s j) = true) (fun w' => w' = w ∧ (bs s).all ok1 = false) ?_ w ⟨rfl, fun j hj => by omega⟩).mono ?_
  · rintro k w' hk ⟨rfl, hj⟩
    refine (name1 (bt s k) w').mono ?_
    rintro e w2 ⟨rfl, rfl⟩
    cases hb : ok1 (bt s k)
    · exact .inr ⟨rfl, rfl, all_not s k hk hb⟩
    · refine .inl ⟨rfl, rfl, fun j h => ?_⟩
      rcases Nat.lt_or_ge j k with h1 | h1
      · exact hj j h1
      · obtain rfl : j = k := by omega
        exact hb
  · rintro e w' (⟨rfl, rfl, h⟩ | ⟨rfl, rfl, h⟩)
    · exact ⟨by rw [all_to s h], rfl⟩
    · exact ⟨by rw [h], rfl⟩
theorem ne_empty (s : ByteArray) (h : s.size ≠ 0) : (s.toList == []) = false ∧ s.toList.isEmpty = false := by
  have h1 : (s.toList == []) = false := by rw [toList_lit]; exact decide_eq_false (fun e => h (by rw [e]; rfl))
  refine ⟨h1, ?_⟩
  cases hl : s.toList with
  | nil => rw [hl] at h1; cases h1
  | cons => rfl
theorem is_empty (s : ByteArray) (h : s.size = 0) : s = ByteArray.empty := bs_inj (by
  have : bs s = [] := List.length_eq_zero_iff.1 (by rw [bs_length]; exact h)
  rw [this]; rfl)
theorem yes_empty (s : ByteArray) (h : s.size = 0) : (s.toList == []) = true ∧ s.toList.isEmpty = true := by
  rw [is_empty s h, ByteArray.toList_eq]
  exact ⟨rfl, rfl⟩
set_option maxHeartbeats 400000 in
theorem name (s : ByteArray) (hs : s.size ≤ 4611686018427387904) (w : World) : Calls Tryd.prog 24 #[.string s] w fun e w' => e = .returned (.bool (nm s)) ∧ w' = w := by
  have T : Hid (Calls _ _ _ _ _) := thru s hs w
  by_cases h0 : s.size = 0
  · obtain ⟨h1, h2⟩ := yes_empty s h0
    have HN : Hid (nm s = false) := by show _ = _; simp [nm, h0]
    rw [HN.out]
    go_enter Tryd.func24, Tryd.ntmps24
    go_wp2
    go_ret
    exact ⟨rfl, rfl⟩
  · obtain ⟨h1, h2⟩ := ne_empty s h0
    by_cases h64 : s.size ≤ 64
    · have h64' : (s.size : Int) ≤ 64 := by omega
      have HN : Hid (nm s = (bs s).all ok1) := by show _ = _; simp [nm, h0, h64]
      rw [HN.out]
      generalize (bs s).all ok1 = A at *
      go_enter Tryd.func24, Tryd.ntmps24
      go_wp2_with fail
      refine T.out.mono ?_
      rintro e w1 ⟨rfl, rfl⟩
      go_wp2
      go_ret
      exact ⟨rfl, rfl⟩
    · have h64' : ¬ (s.size : Int) ≤ 64 := by omega
      have HN : Hid (nm s = false) := by show _ = _; simp [nm, h64]
      rw [HN.out]
      go_enter Tryd.func24, Tryd.ntmps24
      go_wp2
      go_ret
      exact ⟨rfl, rfl⟩
set_option maxHeartbeats 800000 in
theorem rName (s : ByteArray) (hs : s.size ≤ 4611686018427387904) (w : World) : Calls Tryd.prog 32 #[.string s] w fun e w' => e = .returned (.bool (nm s)) ∧ w' = w := by
  have hgb := get_bt s
  obtain ⟨R, HR⟩ : ∃ R, Hid (nm s = R) := ⟨_, rfl⟩
  rw [HR.out]
  go_enter Tryd.func32, Tryd.ntmps32
  go_wp2
  go_loop [3] (fun i => ∃ k : Nat, k ≤ s.size ∧ i = .int .i64 k ∧ Hid (∀ j, j < k → ok1 (bt s j) = true)) (fun i => (s.size - intOf i).toNat)
  case atStart => exact ⟨0, by omega, rfl, fun j hj => by omega⟩
  case round =>
    obtain ⟨k, hk, rfl, HL⟩ := hrel
    by_cases hlt : k < s.size
    · have hlt' : (k : Int) < s.size := by omega
      obtain ⟨b, HB⟩ : ∃ b, Hid (bt s k = b) := ⟨_, rfl⟩
      have hgk : ∀ (h : k < s.size), ((s[k]'h).toNat : Int) = b := fun h => (hgb k h).trans HB.out
      clear hgb
      by_cases h1 : b < 33
      · have HF : Hid (R = false) := by
          show _ = _
          rw [← HR.out]
          have := all_not s k hlt (by rw [HB.out]; simp [ok1, pr]; omega)
          simp [nm, this]
        go_wp2
        go_ret
        exact ⟨by rw [HF.out]; rfl, rfl⟩
      · by_cases h2 : b > 126
        · have HF : Hid (R = false) := by
            show _ = _
            rw [← HR.out]
            have := all_not s k hlt (by rw [HB.out]; simp [ok1, pr]; omega)
            simp [nm, this]
          go_wp2
          go_ret
          exact ⟨by rw [HF.out]; rfl, rfl⟩
        · by_cases h3 : b = 43
          · have HF : Hid (R = false) := by
              show _ = _
              rw [← HR.out]
              have := all_not s k hlt (by rw [HB.out]; simp [ok1, h3])
              simp [nm, this]
            have h3' : (b == 43) = true := by rw [h3]; rfl
            clear h3
            go_wp2
            go_ret
            exact ⟨by rw [HF.out]; rfl, rfl⟩
          · have h3' : (b == 43) = false := beq_eq_false_iff_ne.2 h3
            have HK : Hid (ok1 (bt s k) = true) := by show _ = _; rw [HB.out]; simp [ok1, pr, h3]; omega
            clear h3
            go_wp2
            go_round
            case rel =>
              refine ⟨k + 1, by omega, by go_num, fun j h => ?_⟩
              rcases Nat.lt_or_ge j k with g | g
              · exact HL.out j g
              · obtain rfl : j = k := by omega
                exact HK.out
            case measure => simp [intOf]; omega
    · have hlt' : ¬ (k : Int) < s.size := by omega
      obtain rfl : k = s.size := by omega
      have hall := all_to s HL.out
      have HT : Hid (R = (decide (s.size ≠ 0) && decide (s.size ≤ 64))) := by show _ = _; rw [← HR.out]; simp [nm, hall]
      clear hall
      by_cases h0 : s.size = 0
      · have h1 : ¬ ((s.size : Int) ≥ 1) := by omega
        go_wp2
        go_ret
        exact ⟨by rw [HT.out]; simp [h0], rfl⟩
      · have h1 : (s.size : Int) ≥ 1 := by omega
        by_cases h64 : s.size ≤ 64
        · have h64' : (s.size : Int) ≤ 64 := by omega
          go_wp2
          go_ret
          exact ⟨by rw [HT.out]; simp [h0, h64], rfl⟩
        · have h64' : ¬ (s.size : Int) ≤ 64 := by omega
          go_wp2
          go_ret
          exact ⟨by rw [HT.out]; simp [h64], rfl⟩
end Go.Proofs.YthgieagebcjafaaDoor.n3
