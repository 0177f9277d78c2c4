import Derived.Test.YtgioekepoebibaaPd
import Derived.Test.YtgioekepoebibaaRb
namespace Go.Proofs.Ytgioekepoebibaa.qa
open Go.RowKit Go.PlainAid
open Go.Proofs.Ytgioekepoebibaa.na Go.Proofs.Ytgioekepoebibaa.nb Go.Proofs.Ytgioekepoebibaa.pa Go.Proofs.Ytgioekepoebibaa.pd Go.Proofs.Ytgioekepoebibaa.ra Go.Proofs.Ytgioekepoebibaa.rb
set_option linter.unusedVariables false

theorem str_app (xs ys : List Int) : str xs ++ str ys = str (xs ++ ys) := by
  apply ByteArray.ext
  rw [ByteArray.data_append, str_data, str_data, str_data]
  simp
theorem app_size (a b : ByteArray) : (a ++ b).size = a.size + b.size := ByteArray.size_append
theorem app_assoc (a b c : ByteArray) : a ++ b ++ c = a ++ (b ++ c) := by
  apply ByteArray.ext
  simp [ByteArray.data_append]
theorem ext_size (a : ByteArray) (i j : Nat) : (a.extract i j).size = min j a.size - i := ByteArray.size_extract
theorem one_bt (k : Int) (h0 : 0 ≤ k) (h1 : k ≤ 255) : bt (str [k]) 0 = k := str_bt [k] 0 (by simp) h0 h1
theorem bt_one (b : ByteArray) (i : Nat) (h : i < b.size) : str [bt b i] = b.extract i (i + 1) := by
  have h2 := ext_size b i (i + 1)
  refine ext_bt _ _ ?_ ?_
  · rw [str_size, h2]; simp; omega
  · intro k hk
    rw [str_size] at hk
    simp at hk
    subst hk
    rw [one_bt _ (bt_nonneg _ _) (bt_le _ _), bt_extract b i (i + 1) 0 (by omega) (by omega)]
    rfl
theorem ext_join (b : ByteArray) (i j k : Nat) (h1 : i ≤ j) (h2 : j ≤ k) (h3 : k ≤ b.size) : b.extract i j ++ b.extract j k = b.extract i k := by
  have e1 := ext_size b i j
  have e2 := ext_size b j k
  have e3 := ext_size b i k
  refine ext_bt _ _ ?_ ?_
  · rw [app_size]; omega
  · intro m hm
    rw [app_size] at hm
    rw [bt_extract b i k m (by omega) h3]
    rcases Nat.lt_or_ge m (j - i) with h | h
    · rw [bt_append_left _ _ _ (by omega), bt_extract b i j m (by omega) (by omega)]
    · obtain ⟨q, rfl⟩ : ∃ q, m = (b.extract i j).size + q := ⟨m - (b.extract i j).size, by omega⟩
      rw [bt_append_right, bt_extract b j k q (by omega) h3]
      congr 1; omega
theorem ext_all (b : ByteArray) (n : Nat) (h : n = b.size) : b.extract 0 n = b := by
  subst h
  refine ext_bt _ _ (by rw [ext_size]; omega) ?_
  intro k hk
  rw [ext_size] at hk
  rw [bt_extract b 0 b.size k (by omega) (Nat.le_refl _), Nat.zero_add]
theorem app_left (a c : ByteArray) : (a ++ c).extract 0 a.size = a := by
  have h := app_size a c
  refine ext_bt _ _ (by rw [ext_size]; omega) ?_
  intro k hk
  rw [ext_size] at hk
  rw [bt_extract _ 0 a.size k (by omega) (by omega), Nat.zero_add, bt_append_left _ _ _ (by omega)]
theorem app_mid (a c d : ByteArray) : (a ++ c ++ d).extract a.size (a.size + c.size) = c := by
  have h := app_size (a ++ c) d
  have h2 := app_size a c
  refine ext_bt _ _ (by rw [ext_size]; omega) ?_
  intro k hk
  rw [ext_size] at hk
  rw [bt_extract _ _ _ k (by omega) (by omega), bt_append_left _ _ _ (by omega), bt_append_right]

-- numbers read out of a part
theorem beR_congr (a b : ByteArray) (p q n : Nat) (h : ∀ i, i < n → bt a (p + i) = bt b (q + i)) : beR a p n = beR b q n := by
  induction n with
  | zero => rfl
  | succ n ih => rw [beR, beR, ih (fun i hi => h i (by omega)), h n (by omega)]
theorem beR_ext (b : ByteArray) (i j p n : Nat) (h : i + p + n ≤ j) (hj : j ≤ b.size) : beR (b.extract i j) p n = beR b (i + p) n :=
  beR_congr _ _ _ _ _ (fun k hk => by rw [bt_extract b i j (p + k) (by omega) hj]; congr 1; omega)
theorem beR_left (a c : ByteArray) (p n : Nat) (h : p + n ≤ a.size) : beR (a ++ c) p n = beR a p n :=
  beR_congr _ _ _ _ _ (fun k hk => bt_append_left _ _ _ (by omega))
theorem beR_one (b : ByteArray) (p : Nat) : beR b p 1 = bt b p := by
  show (0 : Int) * 256 + bt b (p + 0) = _
  simp

-- keys
def keyT (s k n : Int) : ByteArray := str (66 :: (lowB s 8 ++ k :: lowB n 8))
theorem keyT_size (s k n : Int) : (keyT s k n).size = 18 := by rw [keyT, str_size]; simp [lowB_length]
theorem keyT_parts (s k n : Int) : keyT s k n = str [66] ++ str (lowB s 8) ++ str [k] ++ str (lowB n 8) := by
  rw [str_app, str_app, str_app, keyT]; simp

-- frames
def headT (k n : Int) (l : Nat) : ByteArray := str (165 :: k :: (lowB n 8 ++ lowB (l : Int) 4))
theorem headT_size (k n : Int) (l : Nat) : (headT k n l).size = 14 := by rw [headT, str_size]; simp [lowB_length]
theorem headT_parts (k n : Int) (l : Nat) : headT k n l = str [165] ++ str [k] ++ str (lowB n 8) ++ str (lowB (l : Int) 4) := by
  rw [str_app, str_app, str_app, headT]; simp
def bodyT (k n : Int) (p : ByteArray) : ByteArray := headT k n p.size ++ p
theorem bodyT_size (k n : Int) (p : ByteArray) : (bodyT k n p).size = p.size + 14 := by rw [bodyT, app_size, headT_size]; omega
def frameT (k n : Int) (p : ByteArray) : ByteArray := bodyT k n p ++ str (lowB ((crcF (bodyT k n p) : Nat) : Int) 4)
theorem frameT_size (k n : Int) (p : ByteArray) : (frameT k n p).size = p.size + 18 := by rw [frameT, app_size, bodyT_size, str_size, lowB_length]

theorem fit8 (n : Int) (h0 : 0 ≤ n) (h1 : n ≤ 18446744073709551615) : n / 256 ^ 8 = 0 := by
  rw [fits_iff n 8 h0]; have : (256 : Int) ^ 8 = 18446744073709551616 := by decide
  omega
theorem fit4 (n : Int) (h0 : 0 ≤ n) (h1 : n < 4294967296) : n / 256 ^ 4 = 0 := by
  rw [fits_iff n 4 h0]; have : (256 : Int) ^ 4 = 4294967296 := by decide
  omega
-- what stands in a head, whatever comes behind it
theorem head_mark (k n : Int) (l : Nat) (r : ByteArray) : bt (headT k n l ++ r) 0 = 165 := by
  rw [bt_append_left _ _ _ (by rw [headT_size]; omega), headT_parts]
  have h1 := str_size [(165 : Int)]
  have h2 := app_size (str [165]) (str [k])
  have h3 := app_size (str [165] ++ str [k]) (str (lowB n 8))
  simp at h1
  rw [bt_append_left _ _ _ (by omega), bt_append_left _ _ _ (by omega), bt_append_left _ _ _ (by omega)]
  exact one_bt 165 (by omega) (by omega)
theorem head_kind (k n : Int) (l : Nat) (r : ByteArray) (h0 : 0 ≤ k) (h1 : k ≤ 255) : bt (headT k n l ++ r) 1 = k := by
  rw [bt_append_left _ _ _ (by rw [headT_size]; omega), headT_parts]
  have e1 := str_size [(165 : Int)]
  have e1' := str_size [k]
  have h2 := app_size (str [165]) (str [k])
  have h3 := app_size (str [165] ++ str [k]) (str (lowB n 8))
  simp at e1 e1'
  rw [bt_append_left _ _ _ (by omega), bt_append_left _ _ _ (by omega)]
  have := bt_append_right (str [165]) (str [k]) 0
  rw [e1] at this
  rw [this]
  exact one_bt k h0 h1
theorem head_number (k n : Int) (l : Nat) (r : ByteArray) (h0 : 0 ≤ n) (h1 : n ≤ 18446744073709551615) : beR (headT k n l ++ r) 2 8 = n := by
  rw [beR_left _ _ _ _ (by rw [headT_size]; omega), headT_parts]
  have e1 := str_size [(165 : Int)]
  have e1' := str_size [k]
  have h2 := app_size (str [165]) (str [k])
  simp at e1 e1'
  have h := read_mid (str [165] ++ str [k]) (str (lowB (l : Int) 4)) n 8 (fit8 n h0 h1)
  rw [h2, e1, e1'] at h
  exact h
theorem head_length (k n : Int) (l : Nat) (r : ByteArray) (h : l < 4294967296) : beR (headT k n l ++ r) 10 4 = l := by
  have e1 := str_size [(165 : Int)]
  have e1' := str_size [k]
  have e2 := str_size (lowB n 8)
  rw [lowB_length] at e2
  have h2 := app_size (str [165]) (str [k])
  have h3 := app_size (str [165] ++ str [k]) (str (lowB n 8))
  simp at e1 e1'
  have h := read_mid (str [165] ++ str [k] ++ str (lowB n 8)) r l 4 (fit4 l (by omega) (by omega))
  rw [h3, h2, e1, e1', e2] at h
  rw [headT_parts]
  exact h

-- reading
def parseE (b : ByteArray) : Int :=
  if b.size = 0 then 12
  else if bt b 0 ≠ 165 then 130
  else if b.size < 14 then 12
  else if bt b 1 = 0 then 110
  else if 9223372036854775807 < beR b 2 8 then 10
  else if 524288 < beR b 10 4 then 121
  else if (b.size : Int) < 18 + beR b 10 4 then 12
  else if 18 + beR b 10 4 < b.size then 111
  else if beR b (b.size - 4) 4 ≠ (crcF (b.extract 0 (b.size - 4)) : Nat) then 131
  else 0
def parseK (b : ByteArray) : Int := if parseE b = 0 then bt b 1 else 0
def parseN (b : ByteArray) : Int := if parseE b = 0 then beR b 2 8 else 0
def parseP (b : ByteArray) : ByteArray := if parseE b = 0 then b.extract 14 (b.size - 4) else ByteArray.empty

theorem parse_ok (b : ByteArray) (h : parseE b = 0) : 18 ≤ b.size ∧ bt b 0 = 165 ∧ 1 ≤ bt b 1 ∧ beR b 2 8 ≤ 9223372036854775807 ∧ beR b 10 4 ≤ 524288 ∧ (b.size : Int) = 18 + beR b 10 4 ∧ beR b (b.size - 4) 4 = (crcF (b.extract 0 (b.size - 4)) : Nat) := by
  unfold parseE at h
  have hn := beR_nonneg b 10 4
  have hk := bt_nonneg b 1
  repeat' split at h
  all_goals first | cases h | skip
  refine ⟨by omega, by omega, by omega, by omega, by omega, by omega, ?_⟩
  rename_i hx
  exact Decidable.not_not.1 hx
theorem parse_frame (k n : Int) (p : ByteArray) (k0 : 1 ≤ k) (k1 : k ≤ 255) (n0 : 0 ≤ n) (n1 : n ≤ 9223372036854775807) (hp : p.size ≤ 524288) :
    parseE (frameT k n p) = 0 ∧ parseK (frameT k n p) = k ∧ parseN (frameT k n p) = n ∧ parseP (frameT k n p) = p := by
  have hz := frameT_size k n p
  have hbz := bodyT_size k n p
  have hh : frameT k n p = headT k n p.size ++ (p ++ str (lowB ((crcF (bodyT k n p) : Nat) : Int) 4)) := by rw [frameT, bodyT, app_assoc]
  have e0 : bt (frameT k n p) 0 = 165 := by rw [hh]; exact head_mark _ _ _ _
  have e1 : bt (frameT k n p) 1 = k := by rw [hh]; exact head_kind _ _ _ _ (by omega) k1
  have e2 : beR (frameT k n p) 2 8 = n := by rw [hh]; exact head_number _ _ _ _ n0 (by omega)
  have e3 : beR (frameT k n p) 10 4 = p.size := by rw [hh]; exact head_length _ _ _ _ (by omega)
  have e4 : (frameT k n p).extract 0 ((frameT k n p).size - 4) = bodyT k n p := by
    rw [show (frameT k n p).size - 4 = (bodyT k n p).size by omega]
    exact app_left _ _
  have e5 : beR (frameT k n p) ((frameT k n p).size - 4) 4 = (crcF (bodyT k n p) : Nat) := by
    have h := read_mid (bodyT k n p) ByteArray.empty ((crcF (bodyT k n p) : Nat) : Int) 4 (fit4 _ (by omega) (by have := crcF_lt (bodyT k n p); omega))
    rw [show (frameT k n p).size - 4 = (bodyT k n p).size by omega]
    rw [← frameT, ByteArray.append_empty] at h
    exact h
  have e : parseE (frameT k n p) = 0 := by
    unfold parseE
    rw [if_neg (by omega), if_neg (by rw [e0]; omega), if_neg (by omega), if_neg (by rw [e1]; omega), if_neg (by rw [e2]; omega), if_neg (by rw [e3]; omega), if_neg (by rw [e3]; omega), if_neg (by rw [e3]; omega), e4, if_neg (by rw [e5]; simp)]
  refine ⟨e, ?_, ?_, ?_⟩
  · rw [parseK, if_pos e, e1]
  · rw [parseN, if_pos e, e2]
  · rw [parseP, if_pos e]
    have h := app_mid (headT k n p.size) p (str (lowB ((crcF (bodyT k n p) : Nat) : Int) 4))
    rw [headT_size, ← bodyT, ← frameT] at h
    rw [show (frameT k n p).size - 4 = 14 + p.size by omega]
    exact h
-- what is read would be framed so
theorem frame_parse (b : ByteArray) (h : parseE b = 0) : frameT (parseK b) (parseN b) (parseP b) = b ∧ 1 ≤ parseK b ∧ parseK b ≤ 255 ∧ 0 ≤ parseN b ∧ parseN b ≤ 9223372036854775807 ∧ (parseP b).size ≤ 524288 ∧ (parseP b).size + 18 = b.size := by
  obtain ⟨h1, h2, h3, h4, h5, h6, h7⟩ := parse_ok b h
  have hb := bt_le b 1
  have hn := beR_nonneg b 2 8
  have hl := beR_nonneg b 10 4
  have eP : parseP b = b.extract 14 (b.size - 4) := by rw [parseP, if_pos h]
  have zP : (parseP b).size = b.size - 18 := by rw [eP, ext_size]; omega
  have eK : parseK b = bt b 1 := by rw [parseK, if_pos h]
  have eN : parseN b = beR b 2 8 := by rw [parseN, if_pos h]
  have eH : headT (parseK b) (parseN b) (parseP b).size = b.extract 0 14 := by
    rw [headT_parts, eK, eN, zP]
    have g1 := bt_one b 0 (by omega)
    rw [h2] at g1
    rw [g1, bt_one b 1 (by omega), ext_join b 0 1 2 (by omega) (by omega) (by omega), put_read b 2 8 (by omega), ext_join b 0 2 10 (by omega) (by omega) (by omega)]
    have e : ((b.size - 18 : Nat) : Int) = beR b 10 4 := by omega
    rw [e, put_read b 10 4 (by omega), ext_join b 0 10 14 (by omega) (by omega) (by omega)]
  have eB : bodyT (parseK b) (parseN b) (parseP b) = b.extract 0 (b.size - 4) := by
    rw [bodyT, eH, eP, ext_join b 0 14 (b.size - 4) (by omega) (by omega) (by omega)]
  refine ⟨?_, by omega, by omega, by omega, by omega, by omega, by omega⟩
  rw [frameT, eB, ← h7, put_read b (b.size - 4) 4 (by omega), ext_join b 0 (b.size - 4) (b.size - 4 + 4) (by omega) (by omega) (by omega)]
  exact ext_all _ _ (by omega)
theorem parse_long (k n : Int) (p r : ByteArray) (k0 : 1 ≤ k) (k1 : k ≤ 255) (n0 : 0 ≤ n) (n1 : n ≤ 9223372036854775807) (hp : p.size ≤ 524288) (hr : r.size ≠ 0) : parseE (frameT k n p ++ r) = 111 := by
  have hz := frameT_size k n p
  have hh : frameT k n p ++ r = headT k n p.size ++ (p ++ str (lowB ((crcF (bodyT k n p) : Nat) : Int) 4) ++ r) := by rw [frameT, bodyT, app_assoc, app_assoc, app_assoc]
  have e0 : bt (frameT k n p ++ r) 0 = 165 := by rw [hh]; exact head_mark _ _ _ _
  have e1 : bt (frameT k n p ++ r) 1 = k := by rw [hh]; exact head_kind _ _ _ _ (by omega) k1
  have e2 : beR (frameT k n p ++ r) 2 8 = n := by rw [hh]; exact head_number _ _ _ _ n0 (by omega)
  have e3 : beR (frameT k n p ++ r) 10 4 = p.size := by rw [hh]; exact head_length _ _ _ _ (by omega)
  have hs := app_size (frameT k n p) r
  unfold parseE
  rw [if_neg (by omega), if_neg (by rw [e0]; omega), if_neg (by omega), if_neg (by rw [e1]; omega), if_neg (by rw [e2]; omega), if_neg (by rw [e3]; omega), if_neg (by rw [e3]; omega), if_pos (by rw [e3]; omega)]
theorem parse_cut (k n : Int) (p : ByteArray) (c : Nat) (k0 : 1 ≤ k) (k1 : k ≤ 255) (n0 : 0 ≤ n) (n1 : n ≤ 9223372036854775807) (hp : p.size ≤ 524288) (hc : c < p.size + 18) : parseE ((frameT k n p).extract 0 c) = 12 := by
  have hz := frameT_size k n p
  have hh : frameT k n p = headT k n p.size ++ (p ++ str (lowB ((crcF (bodyT k n p) : Nat) : Int) 4)) := by rw [frameT, bodyT, app_assoc]
  have e0 : bt (frameT k n p) 0 = 165 := by rw [hh]; exact head_mark _ _ _ _
  have e1 : bt (frameT k n p) 1 = k := by rw [hh]; exact head_kind _ _ _ _ (by omega) k1
  have e2 : beR (frameT k n p) 2 8 = n := by rw [hh]; exact head_number _ _ _ _ n0 (by omega)
  have e3 : beR (frameT k n p) 10 4 = p.size := by rw [hh]; exact head_length _ _ _ _ (by omega)
  have hs := ext_size (frameT k n p) 0 c
  unfold parseE
  rcases Nat.eq_zero_or_pos c with h | h
  · rw [if_pos (by omega)]
  have g0 : bt ((frameT k n p).extract 0 c) 0 = 165 := by rw [bt_extract _ 0 c 0 (by omega) (by omega)]; exact e0
  rw [if_neg (by omega), if_neg (by rw [g0]; omega)]
  rcases Nat.lt_or_ge c 14 with h14 | h14
  · rw [if_pos (by omega)]
  have g1 : bt ((frameT k n p).extract 0 c) 1 = k := by rw [bt_extract _ 0 c 1 (by omega) (by omega)]; exact e1
  have g2 : beR ((frameT k n p).extract 0 c) 2 8 = n := by rw [beR_ext _ 0 c 2 8 (by omega) (by omega)]; exact e2
  have g3 : beR ((frameT k n p).extract 0 c) 10 4 = p.size := by rw [beR_ext _ 0 c 10 4 (by omega) (by omega)]; exact e3
  rw [if_neg (by omega), if_neg (by rw [g1]; omega), if_neg (by rw [g2]; omega), if_neg (by rw [g3]; omega), if_pos (by rw [g3]; omega)]
end Go.Proofs.Ytgioekepoebibaa.qa
