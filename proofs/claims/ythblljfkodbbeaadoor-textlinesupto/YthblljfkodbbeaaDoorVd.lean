import Derived.Test.YthblljfkodbbeaaDoorVc
namespace Go.Proofs.YthblljfkodbbeaaDoor.vd
open Go.RowKit Go.PlainAid
open Go.Proofs.YthblljfkodbbeaaDoor.ta Go.Proofs.YthblljfkodbbeaaDoor.tb Go.Proofs.YthblljfkodbbeaaDoor.tc Go.Proofs.YthblljfkodbbeaaDoor.tj Go.Proofs.YthblljfkodbbeaaDoor.tk Go.Proofs.YthblljfkodbbeaaDoor.ub Go.Proofs.YthblljfkodbbeaaDoor.uc Go.Proofs.YthblljfkodbbeaaDoor.va Go.Proofs.YthblljfkodbbeaaDoor.vb Go.Proofs.YthblljfkodbbeaaDoor.vc
set_option linter.unusedVariables false

theorem parts_sep (c : Int) (a b : List Int) : parts c (a ++ c :: b) = parts c a ++ parts c b := by
  induction a with
  | nil => simp [parts]
  | cons x a ih =>
    rw [List.cons_append, parts, parts, ih]
    by_cases h : x = c
    · rw [if_pos h, if_pos h]; rfl
    · rw [if_neg h, if_neg h]
      cases hp : parts c a with
      | nil => exact absurd hp (parts_ne c a)
      | cons p ps => rfl
-- words with one blank between each two
def joinK (xs : List ByteArray) : Nat → List Int
  | 0 => []
  | k + 1 => (if k = 0 then [] else joinK xs k ++ [32]) ++ escL (bs (xs.getD k ByteArray.empty))
theorem esc_no32 (l : List Int) (h : In 256 l) : parts 32 (escL l) = [escL l] := parts_none 32 _ (fun x hx e => by have := escL_pr l h x hx; omega)
theorem join_parts (xs : List ByteArray) (k : Nat) : parts 32 (joinK xs (k + 1)) = (List.range (k + 1)).map fun i => escL (bs (xs.getD i ByteArray.empty)) := by
  induction k with
  | zero => rw [joinK, if_pos rfl, List.nil_append, esc_no32 _ (bs_in _)]; rfl
  | succ k ih =>
    rw [joinK, if_neg (by omega), List.append_assoc]
    rw [show [32] ++ escL (bs (xs.getD (k + 1) ByteArray.empty)) = 32 :: escL (bs (xs.getD (k + 1) ByteArray.empty)) from rfl, parts_sep, ih, esc_no32 _ (bs_in _), List.range_succ (n := k + 1), List.map_append]
    rfl
theorem join_ne (xs : List ByteArray) (k : Nat) : joinK xs (k + 1) ≠ [] := by
  rw [joinK]
  intro e
  exact escL_ne _ (List.append_eq_nil_iff.1 e).2
theorem range_bs (xs : List ByteArray) : (List.range xs.length).map (fun i => bs (xs.getD i ByteArray.empty)) = xs.map bs := by
  apply List.ext_getElem
  · simp
  · intro i h1 h2
    simp at h1
    simp [h1]
theorem allP_esc (ws : List (List Int)) (h : ∀ x ∈ ws, In 256 x) : allP (ws.map escL) = some ws := by
  induction ws with
  | nil => rfl
  | cons x ws ih => rw [List.map_cons, allP, unP_there x (h x List.mem_cons_self), ih (fun y hy => h y (List.mem_cons_of_mem _ hy))]
theorem all_bs (xs : List ByteArray) : ∀ x ∈ xs.map bs, In 256 x := by
  intro x hx
  obtain ⟨q, _, rfl⟩ := List.mem_map.1 hx
  exact bs_in q
theorem join_esc (xs : List ByteArray) (n : Nat) (hn : xs.length = n + 1) : parts 32 (joinK xs (n + 1)) = (xs.map bs).map escL := by
  rw [join_parts, ← range_bs xs, hn, List.map_map]
  rfl
theorem join_words (xs : List ByteArray) : wordsP (joinK xs xs.length) = some (xs.map bs) := by
  cases hn : xs.length with
  | zero => rw [List.length_eq_zero_iff.1 hn]; rfl
  | succ n =>
    unfold wordsP
    rw [if_neg (join_ne xs n), join_esc xs n hn, allP_esc _ (all_bs xs)]
theorem unP_nil : unP [] = none := by decide +kernel
theorem join_behind (xs : List ByteArray) : wordsP (joinK xs xs.length ++ [32]) = none := by
  unfold wordsP
  rw [if_neg (by simp), parts_sep]
  cases hn : xs.length with
  | zero => exact allP_bad [] [[]] [] [] rfl unP_nil
  | succ n =>
    rw [join_esc xs n hn]
    exact allP_bad _ [] [] _ (allP_esc _ (all_bs xs)) unP_nil
theorem join_ahead (xs : List ByteArray) : wordsP ([32] ++ joinK xs xs.length) = none := by
  unfold wordsP
  rw [if_neg (by simp)]
  have : [32] ++ joinK xs xs.length = [] ++ 32 :: joinK xs xs.length := rfl
  rw [this, parts_sep]
  exact allP_bad [] _ [] [] rfl unP_nil
-- how long
def tk (xs : List ByteArray) : Nat → Nat
  | 0 => 0
  | k + 1 => tk xs k + (xs.getD k ByteArray.empty).size
theorem tk_mono (xs : List ByteArray) {j k : Nat} (h : j ≤ k) : tk xs j ≤ tk xs k := by
  induction k with
  | zero => obtain rfl : j = 0 := by omega
            exact Nat.le_refl _
  | succ k ih =>
    rcases Nat.lt_or_ge j (k + 1) with h1 | h1
    · exact Nat.le_trans (ih (by omega)) (Nat.le_add_right _ _)
    · obtain rfl : j = k + 1 := by omega
      exact Nat.le_refl _
theorem tk_at (xs : List ByteArray) (k n : Nat) (h : k < n) : (xs.getD k ByteArray.empty).size ≤ tk xs n := by
  have h1 := tk_mono xs (show k + 1 ≤ n from h)
  have e : tk xs (k + 1) = tk xs k + (xs.getD k ByteArray.empty).size := rfl
  rw [e] at h1
  omega
theorem ub_len (l : List Int) : (escL l).length ≤ 3 * l.length + 1 := by
  unfold escL
  split
  · simp
  · have := (escR_length l).2
    omega
theorem join_length (xs : List ByteArray) (k : Nat) : (joinK xs k).length ≤ 3 * tk xs k + 2 * k := by
  induction k with
  | zero => simp [joinK]
  | succ k ih =>
    have h := ub_len (bs (xs.getD k ByteArray.empty))
    rw [bs_length] at h
    have e : tk xs (k + 1) = tk xs k + (xs.getD k ByteArray.empty).size := rfl
    rw [joinK, e, List.length_append]
    generalize (xs.getD k ByteArray.empty).size = z at *
    generalize (escL (bs (xs.getD k ByteArray.empty))).length = y at *
    split
    · rw [List.length_nil]; omega
    · rw [List.length_append, List.length_singleton]; omega
theorem joinK_in (xs : List ByteArray) (k : Nat) : In 256 (joinK xs k) := by
  induction k with
  | zero => intro x hx; simp [joinK] at hx
  | succ k ih =>
    rw [joinK]
    refine In.app ?_ (escL_in _ (bs_in _))
    split
    · intro x hx; simp at hx
    · exact ih.app (fun x hx => by rw [List.mem_singleton.1 hx]; omega)
theorem sz32 : (⟨#[32]⟩ : ByteArray).size = 1 := rfl
theorem bs_32 : bs (⟨#[32]⟩ : ByteArray) = [32] := by decide +kernel

set_option maxHeartbeats 3200000 in
theorem text_words_back (v : Value) (xs : List ByteArray) (w : World) (hr : Reads w v xs) (hz : tk xs xs.length + xs.length ≤ 1048576) :
    Calls Tryd.prog 6 #[v] w fun e w' => e = .returned (.bool true) ∧ Below w.heap.size w w' := by
  have HRD : Hid (Reads w v xs) := hr
  have hzn : xs.length ≤ 1048576 := by omega
  have HTK : Hid (tk xs xs.length + xs.length ≤ 1048576) := by exact hz
  have hjl := join_length xs xs.length
  have hjz : (str (joinK xs xs.length)).size ≤ 5242880 := by rw [str_size]; omega
  have hbj : bs (str (joinK xs xs.length)) = joinK xs xs.length := bs_str _ (joinK_in xs _)
  have W1 : Hid (∀ w, Calls _ _ _ _ _) := fun w => words (str (joinK xs xs.length)) (by omega) w
  rw [hbj, join_words] at W1
  have z2 : (str (joinK xs xs.length) ++ (⟨#[32]⟩ : ByteArray)).size ≤ 5242881 := by rw [ByteArray.size_append, sz32]; omega
  have z3 : ((⟨#[32]⟩ : ByteArray) ++ str (joinK xs xs.length)).size ≤ 5242881 := by rw [ByteArray.size_append, sz32]; omega
  have W2 : Hid (∀ w, Calls _ _ _ _ _) := fun w => words (str (joinK xs xs.length) ++ (⟨#[32]⟩ : ByteArray)) (Nat.lt_of_le_of_lt z2 (by decide)) w
  rw [bs_two, hbj, bs_32, join_behind] at W2
  have W3 : Hid (∀ w, Calls _ _ _ _ _) := fun w => words ((⟨#[32]⟩ : ByteArray) ++ str (joinK xs xs.length)) (Nat.lt_of_le_of_lt z3 (by decide)) w
  rw [bs_two, hbj, bs_32, join_ahead] at W3
  clear hbj hjl hz z2 z3
  obtain ⟨a, cap, rfl, hcl⟩ := hr
  have HCL : Hid (xs.length = 0 ∨ ∃ b off, a = some ⟨b, off, none⟩ ∧ ∀ i, i < xs.length → w.cell? ⟨b, off + i, none⟩ = some (.string (xs.getD i ByteArray.empty))) := hcl
  obtain ⟨n, HN⟩ : ∃ n, Hid (xs.length = n) := ⟨_, rfl⟩
  rw [HN.out] at HCL HTK hzn W1 W2 W3 hjz HRD ⊢
  clear hcl
  go_enter Tryd.func6, Tryd.ntmps6
  go_wp2
  go_loopw [3, 4] (fun o i wr => ∃ (k : Nat) (O : ByteArray), k ≤ n ∧ i = .int .i64 k ∧ o = .string O ∧ Hid (O = str (joinK xs k) ∧ Below w.heap.size w wr)) (fun _ i _ => (n - intOf i).toNat)
  case atStart => exact ⟨0, ByteArray.empty, by omega, rfl, rfl, rfl, Below.refl _ _⟩
  case round =>
    obtain ⟨k, O, hk, rfl, rfl, HL⟩ := hrel
    have hO : O.size ≤ 5242880 := by
      have h1 := join_length xs k
      have h2 := tk_mono xs hk
      have h3 := HTK.out
      rw [HL.out.1, str_size]
      omega
    by_cases hlt : k < n
    · have hlt' : (k : Int) < n := by omega
      obtain ⟨b, off, rfl, hc⟩ : ∃ b off, a = some ⟨b, off, none⟩ ∧ ∀ i, i < n → w.cell? ⟨b, off + i, none⟩ = some (.string (xs.getD i ByteArray.empty)) := by
        rcases HCL.out with h | h
        · omega
        · exact h
      have c1 : wr.cell? ⟨b, off + k, none⟩ = some (.string (xs.getD k ByteArray.empty)) := (HL.out.2.cell (p := ⟨b, off + k, none⟩) (World.block_lt_of_cell? _ _ (hc k hlt))).trans (hc k hlt)
      have hxz : (xs.getD k ByteArray.empty).size ≤ 1048576 := by have := tk_at xs k n hlt; have := HTK.out; omega
      have hel := (escR_length (bs (xs.getD k ByteArray.empty))).2
      rw [bs_length] at hel
      have E1 : Hid (∀ w, Calls _ _ _ _ _) := fun w => escape (xs.getD k ByteArray.empty) (by omega) (by omega) w
      have hez : (str (escL (bs (xs.getD k ByteArray.empty)))).size ≤ 3145729 := by
        rw [str_size]
        have := ub_len (bs (xs.getD k ByteArray.empty))
        rw [bs_length] at this
        omega
      have HJ : Hid (joinK xs (k + 1) = (if k = 0 then [] else joinK xs k ++ [32]) ++ escL (bs (xs.getD k ByteArray.empty))) := rfl
      clear hc hel hxz
      obtain ⟨E, HE⟩ : ∃ E, Hid (str (escL (bs (xs.getD k ByteArray.empty))) = E) := ⟨_, rfl⟩
      rw [HE.out] at E1 hez
      obtain ⟨X, HX⟩ : ∃ X, Hid (xs.getD k ByteArray.empty = X) := ⟨_, rfl⟩
      rw [HX.out] at c1 E1
      by_cases h0 : k = 0
      · subst h0
        have c0 := c1
        rw [Nat.add_zero] at c0
        have HO : Hid (O ++ E = str (joinK xs (0 + 1))) := by
          show _ = _
          rw [HJ.out, if_pos rfl, List.nil_append, HE.out, HL.out.1]
          simp [joinK, str]
        go_wp2_with fail
        refine (E1.out _).mono ?_
        rintro e w1 ⟨rfl, hb1⟩
        have B1 : Hid (Below w.heap.size w w1) := over HL.out.2 hb1
        clear hb1 c1 c0
        go_wp2
        go_roundw
        case rel => exact ⟨0 + 1, _, by omega, by go_num, rfl, HO.out, B1.out⟩
        case measure => simp [intOf]; omega
      · have h0' : (k : Int) > 0 := by omega
        have HO : Hid (O ++ (⟨#[32]⟩ : ByteArray) ++ E = str (joinK xs (k + 1))) := by
          show _ = _
          rw [HJ.out, if_neg h0, str_two, str_two, HE.out, ← HL.out.1]
          congr 2
        go_wp2_with fail
        refine (E1.out _).mono ?_
        rintro e w1 ⟨rfl, hb1⟩
        have B1 : Hid (Below w.heap.size w w1) := over HL.out.2 hb1
        clear hb1 c1
        go_wp2
        go_roundw
        case rel => exact ⟨k + 1, _, by omega, by go_num, rfl, HO.out, B1.out⟩
        case measure => simp [intOf]; omega
    · have hlt' : ¬ (k : Int) < n := by omega
      obtain rfl : k = n := by omega
      obtain rfl : O = str (joinK xs k) := HL.out.1
      generalize str (joinK xs k) = O at *
      go_wp2_with fail
      refine (W1.out _).mono ?_
      rintro e w1 ⟨⟨v1, rfl, ht⟩, hb1⟩
      have B1 : Hid (Below w.heap.size w w1) := over HL.out.2 hb1
      have hid : (xs.map bs).map str = xs := by
        rw [List.map_map]
        conv => rhs; rw [← List.map_id xs]
        apply List.map_congr_left
        intro x _
        simp [str_bs]
      rw [hid] at ht
      have S1 := sameTexts v1 (.slice a k cap) xs xs w1 (Texts.reads (B := wr.heap.size) ht) (HRD.out.later B1.out) (by rw [HN.out]; omega) (by rw [HN.out]; omega)
      rw [decide_eq_true rfl] at S1
      have HS1 : Hid (Calls _ _ _ _ _) := S1
      have hv1 : v1.oneCell' = true := by
        rcases ht with ⟨rfl, _⟩ | ⟨g, rfl, _⟩
        · rfl
        · rfl
      clear hb1 ht S1 hid W1
      go_wp2_with fail
      refine HS1.out.mono ?_
      rintro e w2 ⟨rfl, hb2⟩
      have B2 : Hid (Below w.heap.size w w2) := over B1.out hb2
      clear hb2 HS1
      go_wp2_with fail
      refine (W2.out _).mono ?_
      rintro e w3 ⟨rfl, hb3⟩
      have B3 : Hid (Below w.heap.size w w3) := over B2.out hb3
      clear hb3
      go_wp2_with fail
      refine (W3.out _).mono ?_
      rintro e w4 ⟨rfl, hb4⟩
      have B4 : Hid (Below w.heap.size w w4) := over B3.out hb4
      clear hb4
      go_wp2
      go_ret
      exact ⟨rfl, B4.out⟩
end Go.Proofs.YthblljfkodbbeaaDoor.vd
