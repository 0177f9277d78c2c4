import Derived.Test.YtpbapaghcabehaaDoorC2
namespace Go.Proofs.YtpbapaghcabehaaDoor.c3
open Go.RowKit Go.PlainAid Go.Shelf
open Go.Proofs.YtpbapaghcabehaaDoor.tb Go.Proofs.YtpbapaghcabehaaDoor.tc Go.Proofs.YtpbapaghcabehaaDoor.tj Go.Proofs.YtpbapaghcabehaaDoor.tk Go.Proofs.YtpbapaghcabehaaDoor.va Go.Proofs.YtpbapaghcabehaaDoor.vb Go.Proofs.YtpbapaghcabehaaDoor.vc Go.Proofs.YtpbapaghcabehaaDoor.wa Go.Proofs.YtpbapaghcabehaaDoor.wb Go.Proofs.YtpbapaghcabehaaDoor.a1 Go.Proofs.YtpbapaghcabehaaDoor.a2 Go.Proofs.YtpbapaghcabehaaDoor.b3 Go.Proofs.YtpbapaghcabehaaDoor.c2
set_option linter.unusedVariables false
set_option maxRecDepth 4000

-- a line from a place on, as the document reads it
def lnV (b : ByteArray) (i : Nat) : Value := if cutF (rst b i) nlB = true then .tuple #[.string (cutA (rst b i) nlB), .int .i64 ((i : Int) + (cutA (rst b i) nlB).size + 1), .bool true] else .tuple #[.string ByteArray.empty, .int .i64 0, .bool false]
theorem lnV_yes (b : ByteArray) (i k : Nat) (hik : i ≤ k) (hk : k < b.size) (h10 : bt b k = 10) (hno : ∀ j, i ≤ j → j < k → bt b j ≠ 10) : lnV b i = .tuple #[.string (b.extract i k), .int .i64 ((k : Int) + 1), .bool true] := by
  obtain ⟨j, rfl⟩ := Nat.exists_eq_add_of_le hik
  obtain ⟨c1, c2, c3⟩ := line_yes b i j hk h10 (fun x hx => hno (i + x) (by omega) (by omega))
  have hz : (b.extract i (i + j)).size = j := by rw [ByteArray.size_extract]; omega
  unfold lnV
  rw [if_pos c3, c1, hz]
  congr 4
theorem lnV_no (b : ByteArray) (i : Nat) (hi : i ≤ b.size) (hno : ∀ j, i ≤ j → j < b.size → bt b j ≠ 10) : lnV b i = .tuple #[.string ByteArray.empty, .int .i64 0, .bool false] := by
  unfold lnV
  rw [if_neg (by rw [line_no b i hi (fun k hk => hno (i + k) (by omega) hk)]; decide)]
theorem rst_next (b : ByteArray) (i : Nat) (hi : i ≤ b.size) (h : cutF (rst b i) nlB = true) : i + (cutA (rst b i) nlB).size + 1 ≤ b.size ∧ rst b (i + (cutA (rst b i) nlB).size + 1) = cutB (rst b i) nlB := by
  have hz := rst_size b i hi
  rcases cut_nl (rst b i) with ⟨x, y, e, h1, c1, c2, _⟩ | ⟨_, _, _, h2⟩
  · have hs := congrArg ByteArray.size e
    rw [ByteArray.size_append, ByteArray.size_append, nl_size] at hs
    have hbt : ∀ k, i + k < b.size → bt (rst b i) k = bt b (i + k) := fun k hk => bt_extract b i b.size k hk (Nat.le_refl _)
    have hx : bt (rst b i) x.size = 10 := by
      have h4 := bt_right x (nlB ++ y) 0 (by rw [ByteArray.size_append, nl_size]; omega)
      rw [bt_left nlB y 0 (by rw [nl_size]; omega), nl_bt, ← ByteArray.append_assoc, ← e] at h4
      exact h4
    obtain ⟨d1, d2, d3⟩ := line_yes b i x.size (by omega) (by rw [← hbt _ (by omega)]; exact hx) (fun k hk hb => by
      rw [← hbt k (by omega), e, ByteArray.append_assoc, bt_left _ _ _ hk] at hb
      exact h1 k hk hb)
    rw [c1]
    exact ⟨by omega, d2.symm⟩
  · rw [h2] at h; cases h
set_option maxHeartbeats 3200000 in
theorem lineD (b : ByteArray) (i : Nat) (hb : b.size ≤ 1000000000) (hi : i ≤ b.size) (w : World) :
    Calls Tryd.prog 20 #[.string b, .int .i64 i] w fun e w' => e = .returned (lnV b i) ∧ w' = w := by
  have hgb := get_bt b
  have HYES : Hid (∀ k, i ≤ k → k < b.size → bt b k = 10 → (∀ j, i ≤ j → j < k → bt b j ≠ 10) → lnV b i = .tuple #[.string (b.extract i k), .int .i64 ((k : Int) + 1), .bool true]) := fun k h1 h2 h3 h4 => lnV_yes b i k h1 h2 h3 h4
  have HNO : Hid ((∀ j, i ≤ j → j < b.size → bt b j ≠ 10) → lnV b i = .tuple #[.string ByteArray.empty, .int .i64 0, .bool false]) := fun h => lnV_no b i hi h
  obtain ⟨R, HR⟩ : ∃ R, Hid (lnV b i = R) := ⟨_, rfl⟩
  rw [HR.out] at HYES HNO ⊢
  go_enter Tryd.func20, Tryd.ntmps20
  go_wp2
  go_loop [7] (fun s => ∃ k : Nat, i ≤ k ∧ k ≤ b.size ∧ s = .int .i64 k ∧ Hid (∀ j, i ≤ j → j < k → bt b j ≠ 10)) (fun s => (b.size - intOf s).toNat)
  case atStart => exact ⟨i, Nat.le_refl _, hi, rfl, fun j h1 h2 => by omega⟩
  case round =>
    obtain ⟨k, hk0, hk, rfl, HNK⟩ := hrel
    by_cases hlt : k < b.size
    · have hlt' : (k : Int) < b.size := by omega
      by_cases hbe : bt b k = 10
      · have hga : ∀ (h : k < b.size), ((b[k]'h).toNat : Int) = 10 := fun h => (hgb k h).trans hbe
        have HRR : Hid (R = _) := HYES.out k hk0 hlt hbe HNK.out
        have e1 : (i : Int) ≤ k := by omega
        have e2 : (k : Int) ≤ b.size := by omega
        obtain ⟨Z, HZ⟩ : ∃ Z, Hid (b.extract i k = Z) := ⟨_, rfl⟩
        have hxe := HZ.out
        rw [HZ.out] at HRR
        clear hgb hbe
        go_wp2
        exact bodyPost_ret (v := .tuple #[.string Z, .int .i64 ((k : Int) + 1), .bool true]) (by simp [results, Tryd.results20, go_sem]) rfl ⟨by rw [HRR.out], rfl⟩
      · obtain ⟨a, HA⟩ : ∃ a, Hid (bt b k = a) := ⟨_, rfl⟩
        have hga : ∀ (h : k < b.size), ((b[k]'h).toNat : Int) = a := fun h => (hgb k h).trans HA.out
        have hab : (a == 10) = false := beq_eq_false_iff_ne.2 (by rw [← HA.out]; exact hbe)
        have HN2 : Hid (∀ j, i ≤ j → j < k + 1 → bt b j ≠ 10) := fun j h1 h2 => by
          rcases Nat.lt_or_ge j k with g | g
          · exact HNK.out j h1 g
          · obtain rfl : j = k := by omega
            exact hbe
        clear hgb hbe
        go_wp2
        go_roundw
        case rel => exact ⟨k + 1, by omega, by omega, by go_num, HN2.out⟩
        case measure => simp [intOf]; omega
    · have hlt' : ¬ (k : Int) < b.size := by omega
      have HRR : Hid (R = _) := HNO.out (fun j h1 h2 => HNK.out j h1 (by omega))
      clear hgb
      go_wp2
      exact bodyPost_ret (v := .tuple #[.string ByteArray.empty, .int .i64 0, .bool false]) (by simp [results, Tryd.results20, go_sem]; rfl) rfl ⟨by rw [HRR.out], rfl⟩
-- how many rows are read, and what is left
noncomputable def appD (d : List ByteArray) (o : Option (List ByteArray × ByteArray)) : Option (List ByteArray × ByteArray) := o.map fun q => (d ++ q.1, q.2)
def noIf (x : ByteArray) : ByteArray := x
theorem app_nil (o : Option (List ByteArray × ByteArray)) : appD [] o = o := by
  cases o with
  | none => rfl
  | some q => rfl
theorem app_bad (d : List ByteArray) (k : Nat) (R : ByteArray) (h : cutF R nlB = false) : appD d (rowsD (k + 1) R) = none := by rw [rows_bad k R h]; rfl
theorem app_end (d : List ByteArray) (k : Nat) (R : ByteArray) (h : cutF R nlB = true) (h2 : cutA R nlB = ByteArray.empty) : appD d (rowsD (k + 1) R) = some (d, cutB R nlB) := by
  rw [rows_end k R h h2]
  show some (d ++ [], _) = _
  rw [List.append_nil]
theorem app_zero (d : List ByteArray) (R : ByteArray) : appD d (rowsD 0 R) = some (d, R) := by
  show some (d ++ [], R) = _
  rw [List.append_nil]
theorem app_more (d : List ByteArray) (k : Nat) (R : ByteArray) (h : cutF R nlB = true) (h2 : cutA R nlB ≠ ByteArray.empty) : appD d (rowsD (k + 1) R) = appD (d ++ [hOfY (cutA R nlB)]) (rowsD k (cutB R nlB)) := by
  cases h3 : rowsD k (cutB R nlB) with
  | none => rw [rows_skip k R h h2 h3]; rfl
  | some q =>
    obtain ⟨hs, nt⟩ := q
    rw [rows_add k R h h2 hs nt h3]
    show some (d ++ (_ :: hs), nt) = some ((d ++ [_]) ++ hs, nt)
    rw [List.append_assoc]
    rfl
theorem gl_no (b : ByteArray) (h : cutF b nlB = false ∨ (cutA b nlB).size < 4) : glP b = none := by
  unfold glP
  rw [if_pos h]
theorem gl_none (b : ByteArray) (h : rowsD 65 (cutB b nlB) = none) : glP b = none := by
  unfold glP
  split
  · rfl
  · rw [h]
theorem gl_some (b : ByteArray) (h1 : cutF b nlB = true) (h2 : 4 ≤ (cutA b nlB).size) (pf : List ByteArray) (nt : ByteArray) (h : rowsD 65 (cutB b nlB) = some (pf, nt)) : glP b = some ⟨nOfX ((cutA b nlB).extract 4 (cutA b nlB).size), pf, nt⟩ := by
  unfold glP
  rw [if_neg (by rw [h1]; simp; omega), h]
theorem hof_size (y : ByteArray) : (hOfY y).size ≤ y.size := by
  unfold hOfY
  split
  · exact cutS_size y (by assumption)
  · simp
theorem un64_hof (y : ByteArray) : ∃ f, un64V y = .tuple #[.string (hOfY y), .int .i64 f] := by
  unfold un64V hOfY
  by_cases h : Acc64 (bs y)
  · rw [if_pos h, if_pos h]; exact ⟨0, rfl⟩
  · rw [if_neg h, if_neg h]; exact ⟨40, rfl⟩
theorem undec_nof (x : ByteArray) : ∃ f, unDecV x = .tuple #[.int .i64 (nOfX x), .int .i64 f] := by
  unfold unDecV nOfX
  by_cases h : ∃ n, I64 n ∧ decS n = x
  · rw [if_pos h, if_pos h]; exact ⟨0, rfl⟩
  · rw [if_neg h, if_neg h]; exact ⟨42, rfl⟩
end Go.Proofs.YtpbapaghcabehaaDoor.c3
