import Derived.Test.YtmindflfjocjlaaGreatRows
import Derived.Test.YtmindflfjocjlaaGreatQ11
import Derived.WalkKit
import Derived.WalkSpells
import Derived.PlainAid
import Derived.RowKit3
import Derived.Laws.BitsAllLaws
import Derived.Test.YtmindflfjocjlaaGreatQ01
import Derived.Below
import Derived.BigRegion
import Derived.RegionTactic
import Derived.Deep.QuietTactic
import Derived.Laws.Rows
import Derived.Laws.Tables
import Derived.Laws.CopyOwn
import Derived.Laws.BytesString
import Derived.Laws.BytesArg
import Derived.Laws.MakeOwn
import Derived.OwnWalk
import Derived.Laws.AppendOwn
import Derived.Deep.AppendLies
import Derived.Deep.MidRow
import Derived.Deep.RegionHeld3
import Derived.WalkSmall
import Derived.BigQuiet
import Derived.ArgAppend
import Derived.Laws.IdiomStrings
import Derived.Deep.WholeRow
import Derived.Laws.ResultCell
namespace Go.Proofs.YtmindflfjocjlaaGreat.trb
open Go.RowKit Go.PlainAid
open Go.Proofs.YtmindflfjocjlaaGreat.tra
set_option linter.unusedVariables false

def nt (q : ByteArray) (k : Nat) : Nat := (bt q k).toNat
def nl (q : ByteArray) (k : Nat) : List Nat := (List.range k).map (nt q)
theorem nt_bt (q : ByteArray) (k : Nat) : bt q k = (nt q k : Int) := by
  have := bt_nonneg q k
  unfold nt; omega
theorem nt_lt (q : ByteArray) (k : Nat) : nt q k < 256 := by
  have := bt_le q k
  unfold nt; omega
theorem nl_succ (q : ByteArray) (k : Nat) : nl q (k + 1) = nl q k ++ [nt q k] := by
  unfold nl; rw [List.range_succ, List.map_append]; rfl
theorem nl_lt (q : ByteArray) (k : Nat) : ∀ c ∈ nl q k, c < 256 := by
  intro c h
  obtain ⟨j, _, rfl⟩ := List.mem_map.1 h
  exact nt_lt q j

theorem and_one (r : Nat) (h : r < 4294967296) : bits .and .u32 (r : Int) 1 = ((r % 2 : Nat) : Int) := by
  rw [show (1 : Int) = ((1 : Nat) : Int) by rfl, u32_and_nat r 1 h (by omega), Nat.and_one_is_mod]
theorem xor_po (r : Nat) (h : r < 4294967296) : bits .xor .u32 (r : Int) 3988292384 = ((r ^^^ PO : Nat) : Int) := by
  rw [show (3988292384 : Int) = ((3988292384 : Nat) : Int) by rfl, u32_xor_nat r _ h (by omega)]; rfl
theorem xor_ff (r : Nat) (h : r < 4294967296) : bits .xor .u32 (r : Int) 4294967295 = ((r ^^^ FF : Nat) : Int) := by
  rw [show (4294967295 : Int) = ((4294967295 : Nat) : Int) by rfl, u32_xor_nat r _ h (by omega)]; rfl
theorem st0 (X : Nat) (h : X % 2 = 0) : X / 2 = st X := by unfold st; rw [if_neg (by omega)]
theorem st1 (X : Nat) (h : X % 2 = 1) : (X / 2) ^^^ PO = st X := by unfold st; rw [if_pos h]
theorem sts_succ (k r : Nat) : sts (k + 1) r = st (sts k r) := by rw [sts_add]; rfl

def crcF (s : ByteArray) : Nat := onF 0 (nl s s.size)
def crcOnF (c : Nat) (s : ByteArray) : Nat := onF c (nl s s.size)
theorem crcF_lt (s : ByteArray) : crcF s < 4294967296 := onF_lt 0 _ (by omega) (nl_lt s _)
end Go.Proofs.YtmindflfjocjlaaGreat.trb

namespace Go.Proofs.YtmindflfjocjlaaGreat.tqa
open Go.RowKit Go.PlainAid
open Go.Proofs.YtmindflfjocjlaaGreat.na Go.Proofs.YtmindflfjocjlaaGreat.nb Go.Proofs.YtmindflfjocjlaaGreat.tpa Go.Proofs.YtmindflfjocjlaaGreat.tpd Go.Proofs.YtmindflfjocjlaaGreat.tra Go.Proofs.YtmindflfjocjlaaGreat.trb
set_option linter.unusedVariables false

theorem str_app (xs ys : List Int) : str xs ++ str ys = str (xs ++ ys) := by
  apply ByteArray.ext
  rw [ByteArray.data_append, str_data, str_data, str_data]
  simp
theorem app_size (a b : ByteArray) : (a ++ b).size = a.size + b.size := ByteArray.size_append
theorem app_assoc (a b c : ByteArray) : a ++ b ++ c = a ++ (b ++ c) := by
  apply ByteArray.ext
  simp [ByteArray.data_append]
theorem ext_size (a : ByteArray) (i j : Nat) : (a.extract i j).size = min j a.size - i := ByteArray.size_extract
theorem one_bt (k : Int) (h0 : 0 ≤ k) (h1 : k ≤ 255) : bt (str [k]) 0 = k := str_bt [k] 0 (by simp) h0 h1
theorem bt_one (b : ByteArray) (i : Nat) (h : i < b.size) : str [bt b i] = b.extract i (i + 1) := by
  have h2 := ext_size b i (i + 1)
  refine ext_bt _ _ ?_ ?_
  · rw [str_size, h2]; simp; omega
  · intro k hk
    rw [str_size] at hk
    simp at hk
    subst hk
    rw [one_bt _ (bt_nonneg _ _) (bt_le _ _), bt_extract b i (i + 1) 0 (by omega) (by omega)]
    rfl
theorem ext_join (b : ByteArray) (i j k : Nat) (h1 : i ≤ j) (h2 : j ≤ k) (h3 : k ≤ b.size) : b.extract i j ++ b.extract j k = b.extract i k := by
  have e1 := ext_size b i j
  have e2 := ext_size b j k
  have e3 := ext_size b i k
  refine ext_bt _ _ ?_ ?_
  · rw [app_size]; omega
  · intro m hm
    rw [app_size] at hm
    rw [bt_extract b i k m (by omega) h3]
    rcases Nat.lt_or_ge m (j - i) with h | h
    · rw [bt_append_left _ _ _ (by omega), bt_extract b i j m (by omega) (by omega)]
    · obtain ⟨q, rfl⟩ : ∃ q, m = (b.extract i j).size + q := ⟨m - (b.extract i j).size, by omega⟩
      rw [bt_append_right, bt_extract b j k q (by omega) h3]
      congr 1; omega
theorem ext_all (b : ByteArray) (n : Nat) (h : n = b.size) : b.extract 0 n = b := by
  subst h
  refine ext_bt _ _ (by rw [ext_size]; omega) ?_
  intro k hk
  rw [ext_size] at hk
  rw [bt_extract b 0 b.size k (by omega) (Nat.le_refl _), Nat.zero_add]
theorem app_left (a c : ByteArray) : (a ++ c).extract 0 a.size = a := by
  have h := app_size a c
  refine ext_bt _ _ (by rw [ext_size]; omega) ?_
  intro k hk
  rw [ext_size] at hk
  rw [bt_extract _ 0 a.size k (by omega) (by omega), Nat.zero_add, bt_append_left _ _ _ (by omega)]
theorem app_mid (a c d : ByteArray) : (a ++ c ++ d).extract a.size (a.size + c.size) = c := by
  have h := app_size (a ++ c) d
  have h2 := app_size a c
  refine ext_bt _ _ (by rw [ext_size]; omega) ?_
  intro k hk
  rw [ext_size] at hk
  rw [bt_extract _ _ _ k (by omega) (by omega), bt_append_left _ _ _ (by omega), bt_append_right]

-- numbers read out of a part
theorem beR_congr (a b : ByteArray) (p q n : Nat) (h : ∀ i, i < n → bt a (p + i) = bt b (q + i)) : beR a p n = beR b q n := by
  induction n with
  | zero => rfl
  | succ n ih => rw [beR, beR, ih (fun i hi => h i (by omega)), h n (by omega)]
theorem beR_ext (b : ByteArray) (i j p n : Nat) (h : i + p + n ≤ j) (hj : j ≤ b.size) : beR (b.extract i j) p n = beR b (i + p) n :=
  beR_congr _ _ _ _ _ (fun k hk => by rw [bt_extract b i j (p + k) (by omega) hj]; congr 1; omega)
theorem beR_left (a c : ByteArray) (p n : Nat) (h : p + n ≤ a.size) : beR (a ++ c) p n = beR a p n :=
  beR_congr _ _ _ _ _ (fun k hk => bt_append_left _ _ _ (by omega))
theorem beR_one (b : ByteArray) (p : Nat) : beR b p 1 = bt b p := by
  show (0 : Int) * 256 + bt b (p + 0) = _
  simp

-- keys
def keyT (s k n : Int) : ByteArray := str (66 :: (lowB s 8 ++ k :: lowB n 8))
theorem keyT_size (s k n : Int) : (keyT s k n).size = 18 := by rw [keyT, str_size]; simp [lowB_length]
theorem keyT_parts (s k n : Int) : keyT s k n = str [66] ++ str (lowB s 8) ++ str [k] ++ str (lowB n 8) := by
  rw [str_app, str_app, str_app, keyT]; simp

-- frames
def headT (k n : Int) (l : Nat) : ByteArray := str (165 :: k :: (lowB n 8 ++ lowB (l : Int) 4))
theorem headT_size (k n : Int) (l : Nat) : (headT k n l).size = 14 := by rw [headT, str_size]; simp [lowB_length]
theorem headT_parts (k n : Int) (l : Nat) : headT k n l = str [165] ++ str [k] ++ str (lowB n 8) ++ str (lowB (l : Int) 4) := by
  rw [str_app, str_app, str_app, headT]; simp
def bodyT (k n : Int) (p : ByteArray) : ByteArray := headT k n p.size ++ p
theorem bodyT_size (k n : Int) (p : ByteArray) : (bodyT k n p).size = p.size + 14 := by rw [bodyT, app_size, headT_size]; omega
def frameT (k n : Int) (p : ByteArray) : ByteArray := bodyT k n p ++ str (lowB ((crcF (bodyT k n p) : Nat) : Int) 4)
theorem frameT_size (k n : Int) (p : ByteArray) : (frameT k n p).size = p.size + 18 := by rw [frameT, app_size, bodyT_size, str_size, lowB_length]

theorem fit8 (n : Int) (h0 : 0 ≤ n) (h1 : n ≤ 18446744073709551615) : n / 256 ^ 8 = 0 := by
  rw [fits_iff n 8 h0]; have : (256 : Int) ^ 8 = 18446744073709551616 := by decide
  omega
theorem fit4 (n : Int) (h0 : 0 ≤ n) (h1 : n < 4294967296) : n / 256 ^ 4 = 0 := by
  rw [fits_iff n 4 h0]; have : (256 : Int) ^ 4 = 4294967296 := by decide
  omega
-- what stands in a head, whatever comes behind it
theorem head_mark (k n : Int) (l : Nat) (r : ByteArray) : bt (headT k n l ++ r) 0 = 165 := by
  rw [bt_append_left _ _ _ (by rw [headT_size]; omega), headT_parts]
  have h1 := str_size [(165 : Int)]
  have h2 := app_size (str [165]) (str [k])
  have h3 := app_size (str [165] ++ str [k]) (str (lowB n 8))
  simp at h1
  rw [bt_append_left _ _ _ (by omega), bt_append_left _ _ _ (by omega), bt_append_left _ _ _ (by omega)]
  exact one_bt 165 (by omega) (by omega)
theorem head_kind (k n : Int) (l : Nat) (r : ByteArray) (h0 : 0 ≤ k) (h1 : k ≤ 255) : bt (headT k n l ++ r) 1 = k := by
  rw [bt_append_left _ _ _ (by rw [headT_size]; omega), headT_parts]
  have e1 := str_size [(165 : Int)]
  have e1' := str_size [k]
  have h2 := app_size (str [165]) (str [k])
  have h3 := app_size (str [165] ++ str [k]) (str (lowB n 8))
  simp at e1 e1'
  rw [bt_append_left _ _ _ (by omega), bt_append_left _ _ _ (by omega)]
  have := bt_append_right (str [165]) (str [k]) 0
  rw [e1] at this
  rw [this]
  exact one_bt k h0 h1
theorem head_number (k n : Int) (l : Nat) (r : ByteArray) (h0 : 0 ≤ n) (h1 : n ≤ 18446744073709551615) : beR (headT k n l ++ r) 2 8 = n := by
  rw [beR_left _ _ _ _ (by rw [headT_size]; omega), headT_parts]
  have e1 := str_size [(165 : Int)]
  have e1' := str_size [k]
  have h2 := app_size (str [165]) (str [k])
  simp at e1 e1'
  have h := read_mid (str [165] ++ str [k]) (str (lowB (l : Int) 4)) n 8 (fit8 n h0 h1)
  rw [h2, e1, e1'] at h
  exact h
theorem head_length (k n : Int) (l : Nat) (r : ByteArray) (h : l < 4294967296) : beR (headT k n l ++ r) 10 4 = l := by
  have e1 := str_size [(165 : Int)]
  have e1' := str_size [k]
  have e2 := str_size (lowB n 8)
  rw [lowB_length] at e2
  have h2 := app_size (str [165]) (str [k])
  have h3 := app_size (str [165] ++ str [k]) (str (lowB n 8))
  simp at e1 e1'
  have h := read_mid (str [165] ++ str [k] ++ str (lowB n 8)) r l 4 (fit4 l (by omega) (by omega))
  rw [h3, h2, e1, e1', e2] at h
  rw [headT_parts]
  exact h

-- reading
def parseE (b : ByteArray) : Int :=
  if b.size = 0 then 12
  else if bt b 0 ≠ 165 then 130
  else if b.size < 14 then 12
  else if bt b 1 = 0 then 110
  else if 9223372036854775807 < beR b 2 8 then 10
  else if 524288 < beR b 10 4 then 121
  else if (b.size : Int) < 18 + beR b 10 4 then 12
  else if 18 + beR b 10 4 < b.size then 111
  else if beR b (b.size - 4) 4 ≠ (crcF (b.extract 0 (b.size - 4)) : Nat) then 131
  else 0
def parseK (b : ByteArray) : Int := if parseE b = 0 then bt b 1 else 0
def parseN (b : ByteArray) : Int := if parseE b = 0 then beR b 2 8 else 0
def parseP (b : ByteArray) : ByteArray := if parseE b = 0 then b.extract 14 (b.size - 4) else ByteArray.empty

theorem parse_ok (b : ByteArray) (h : parseE b = 0) : 18 ≤ b.size ∧ bt b 0 = 165 ∧ 1 ≤ bt b 1 ∧ beR b 2 8 ≤ 9223372036854775807 ∧ beR b 10 4 ≤ 524288 ∧ (b.size : Int) = 18 + beR b 10 4 ∧ beR b (b.size - 4) 4 = (crcF (b.extract 0 (b.size - 4)) : Nat) := by
  unfold parseE at h
  have hn := beR_nonneg b 10 4
  have hk := bt_nonneg b 1
  repeat' split at h
  all_goals first | cases h | skip
  refine ⟨by omega, by omega, by omega, by omega, by omega, by omega, ?_⟩
  rename_i hx
  exact Decidable.not_not.1 hx
theorem parse_frame (k n : Int) (p : ByteArray) (k0 : 1 ≤ k) (k1 : k ≤ 255) (n0 : 0 ≤ n) (n1 : n ≤ 9223372036854775807) (hp : p.size ≤ 524288) :
    parseE (frameT k n p) = 0 ∧ parseK (frameT k n p) = k ∧ parseN (frameT k n p) = n ∧ parseP (frameT k n p) = p := by
  have hz := frameT_size k n p
  have hbz := bodyT_size k n p
  have hh : frameT k n p = headT k n p.size ++ (p ++ str (lowB ((crcF (bodyT k n p) : Nat) : Int) 4)) := by rw [frameT, bodyT, app_assoc]
  have e0 : bt (frameT k n p) 0 = 165 := by rw [hh]; exact head_mark _ _ _ _
  have e1 : bt (frameT k n p) 1 = k := by rw [hh]; exact head_kind _ _ _ _ (by omega) k1
  have e2 : beR (frameT k n p) 2 8 = n := by rw [hh]; exact head_number _ _ _ _ n0 (by omega)
  have e3 : beR (frameT k n p) 10 4 = p.size := by rw [hh]; exact head_length _ _ _ _ (by omega)
  have e4 : (frameT k n p).extract 0 ((frameT k n p).size - 4) = bodyT k n p := by
    rw [show (frameT k n p).size - 4 = (bodyT k n p).size by omega]
    exact app_left _ _
  have e5 : beR (frameT k n p) ((frameT k n p).size - 4) 4 = (crcF (bodyT k n p) : Nat) := by
    have h := read_mid (bodyT k n p) ByteArray.empty ((crcF (bodyT k n p) : Nat) : Int) 4 (fit4 _ (by omega) (by have := crcF_lt (bodyT k n p); omega))
    rw [show (frameT k n p).size - 4 = (bodyT k n p).size by omega]
    rw [← frameT, ByteArray.append_empty] at h
    exact h
  have e : parseE (frameT k n p) = 0 := by
    unfold parseE
    rw [if_neg (by omega), if_neg (by rw [e0]; omega), if_neg (by omega), if_neg (by rw [e1]; omega), if_neg (by rw [e2]; omega), if_neg (by rw [e3]; omega), if_neg (by rw [e3]; omega), if_neg (by rw [e3]; omega), e4, if_neg (by rw [e5]; simp)]
  refine ⟨e, ?_, ?_, ?_⟩
  · rw [parseK, if_pos e, e1]
  · rw [parseN, if_pos e, e2]
  · rw [parseP, if_pos e]
    have h := app_mid (headT k n p.size) p (str (lowB ((crcF (bodyT k n p) : Nat) : Int) 4))
    rw [headT_size, ← bodyT, ← frameT] at h
    rw [show (frameT k n p).size - 4 = 14 + p.size by omega]
    exact h
-- what is read would be framed so
theorem frame_parse (b : ByteArray) (h : parseE b = 0) : frameT (parseK b) (parseN b) (parseP b) = b ∧ 1 ≤ parseK b ∧ parseK b ≤ 255 ∧ 0 ≤ parseN b ∧ parseN b ≤ 9223372036854775807 ∧ (parseP b).size ≤ 524288 ∧ (parseP b).size + 18 = b.size := by
  obtain ⟨h1, h2, h3, h4, h5, h6, h7⟩ := parse_ok b h
  have hb := bt_le b 1
  have hn := beR_nonneg b 2 8
  have hl := beR_nonneg b 10 4
  have eP : parseP b = b.extract 14 (b.size - 4) := by rw [parseP, if_pos h]
  have zP : (parseP b).size = b.size - 18 := by rw [eP, ext_size]; omega
  have eK : parseK b = bt b 1 := by rw [parseK, if_pos h]
  have eN : parseN b = beR b 2 8 := by rw [parseN, if_pos h]
  have eH : headT (parseK b) (parseN b) (parseP b).size = b.extract 0 14 := by
    rw [headT_parts, eK, eN, zP]
    have g1 := bt_one b 0 (by omega)
    rw [h2] at g1
    rw [g1, bt_one b 1 (by omega), ext_join b 0 1 2 (by omega) (by omega) (by omega), put_read b 2 8 (by omega), ext_join b 0 2 10 (by omega) (by omega) (by omega)]
    have e : ((b.size - 18 : Nat) : Int) = beR b 10 4 := by omega
    rw [e, put_read b 10 4 (by omega), ext_join b 0 10 14 (by omega) (by omega) (by omega)]
  have eB : bodyT (parseK b) (parseN b) (parseP b) = b.extract 0 (b.size - 4) := by
    rw [bodyT, eH, eP, ext_join b 0 14 (b.size - 4) (by omega) (by omega) (by omega)]
  refine ⟨?_, by omega, by omega, by omega, by omega, by omega, by omega⟩
  rw [frameT, eB, ← h7, put_read b (b.size - 4) 4 (by omega), ext_join b 0 (b.size - 4) (b.size - 4 + 4) (by omega) (by omega) (by omega)]
  exact ext_all _ _ (by omega)
theorem parse_long (k n : Int) (p r : ByteArray) (k0 : 1 ≤ k) (k1 : k ≤ 255) (n0 : 0 ≤ n) (n1 : n ≤ 9223372036854775807) (hp : p.size ≤ 524288) (hr : r.size ≠ 0) : parseE (frameT k n p ++ r) = 111 := by
  have hz := frameT_size k n p
  have hh : frameT k n p ++ r = headT k n p.size ++ (p ++ str (lowB ((crcF (bodyT k n p) : Nat) : Int) 4) ++ r) := by rw [frameT, bodyT, app_assoc, app_assoc, app_assoc]
  have e0 : bt (frameT k n p ++ r) 0 = 165 := by rw [hh]; exact head_mark _ _ _ _
  have e1 : bt (frameT k n p ++ r) 1 = k := by rw [hh]; exact head_kind _ _ _ _ (by omega) k1
  have e2 : beR (frameT k n p ++ r) 2 8 = n := by rw [hh]; exact head_number _ _ _ _ n0 (by omega)
  have e3 : beR (frameT k n p ++ r) 10 4 = p.size := by rw [hh]; exact head_length _ _ _ _ (by omega)
  have hs := app_size (frameT k n p) r
  unfold parseE
  rw [if_neg (by omega), if_neg (by rw [e0]; omega), if_neg (by omega), if_neg (by rw [e1]; omega), if_neg (by rw [e2]; omega), if_neg (by rw [e3]; omega), if_neg (by rw [e3]; omega), if_pos (by rw [e3]; omega)]
theorem parse_cut (k n : Int) (p : ByteArray) (c : Nat) (k0 : 1 ≤ k) (k1 : k ≤ 255) (n0 : 0 ≤ n) (n1 : n ≤ 9223372036854775807) (hp : p.size ≤ 524288) (hc : c < p.size + 18) : parseE ((frameT k n p).extract 0 c) = 12 := by
  have hz := frameT_size k n p
  have hh : frameT k n p = headT k n p.size ++ (p ++ str (lowB ((crcF (bodyT k n p) : Nat) : Int) 4)) := by rw [frameT, bodyT, app_assoc]
  have e0 : bt (frameT k n p) 0 = 165 := by rw [hh]; exact head_mark _ _ _ _
  have e1 : bt (frameT k n p) 1 = k := by rw [hh]; exact head_kind _ _ _ _ (by omega) k1
  have e2 : beR (frameT k n p) 2 8 = n := by rw [hh]; exact head_number _ _ _ _ n0 (by omega)
  have e3 : beR (frameT k n p) 10 4 = p.size := by rw [hh]; exact head_length _ _ _ _ (by omega)
  have hs := ext_size (frameT k n p) 0 c
  unfold parseE
  rcases Nat.eq_zero_or_pos c with h | h
  · rw [if_pos (by omega)]
  have g0 : bt ((frameT k n p).extract 0 c) 0 = 165 := by rw [bt_extract _ 0 c 0 (by omega) (by omega)]; exact e0
  rw [if_neg (by omega), if_neg (by rw [g0]; omega)]
  rcases Nat.lt_or_ge c 14 with h14 | h14
  · rw [if_pos (by omega)]
  have g1 : bt ((frameT k n p).extract 0 c) 1 = k := by rw [bt_extract _ 0 c 1 (by omega) (by omega)]; exact e1
  have g2 : beR ((frameT k n p).extract 0 c) 2 8 = n := by rw [beR_ext _ 0 c 2 8 (by omega) (by omega)]; exact e2
  have g3 : beR ((frameT k n p).extract 0 c) 10 4 = p.size := by rw [beR_ext _ 0 c 10 4 (by omega) (by omega)]; exact e3
  rw [if_neg (by omega), if_neg (by rw [g1]; omega), if_neg (by rw [g2]; omega), if_neg (by rw [g3]; omega), if_pos (by rw [g3]; omega)]
end Go.Proofs.YtmindflfjocjlaaGreat.tqa

namespace Go.Proofs.YtmindflfjocjlaaGreat.trc
open Go.RowKit Go.PlainAid
open Go.Proofs.YtmindflfjocjlaaGreat.tra Go.Proofs.YtmindflfjocjlaaGreat.trb Go.Proofs.YtmindflfjocjlaaGreat.nb
set_option linter.unusedVariables false

def btL (q : ByteArray) (n : Nat) : List Int := (List.range n).map (bt q)
theorem btL_length (q : ByteArray) (n : Nat) : (btL q n).length = n := by simp [btL]
theorem btL_get (q : ByteArray) (n j : Nat) (h : j < n) : (btL q n).getD j 0 = bt q j := by simp [btL, List.getD, h]

-- string(b) where b's cells are known
theorem conv_at (ns : List Int) (W : World) (g o n cap : Nat) (hn : n = ns.length) (hc : ∀ j v, (ns.map (Value.int .u8))[j]? = some v → W.cell? ((⟨g, o, none⟩ : Addr).add j) = some v) :
    (convert 108 9 (.slice (some ⟨g, o, none⟩) n cap)).run Tryz.prog W = .ok (.string (str ns)) W := by
  subst hn
  rw [run_convert_bytes_string _ 108 9 5 _ _ _ Tryz.underlying108 Tryz.underlying5 Tryz.underlying9]
  refine run_bytesToString _ _ _ _ ns ?_
  have h := run_loadCells_list (P := Tryz.prog) (w := W) ⟨g, o, none⟩ (ns.map (Value.int .u8)) hc
  simpa using h

theorem own_conv (W : World) (B : Nat) (v : Value) (ns : List Int) (n : Nat) (hn : n = ns.length) (ho : W.ownsRow B 5 1 v n (ns.map (Value.int .u8))) :
    (convert 108 9 v).run Tryz.prog W = .ok (.string (str ns)) W := by
  obtain ⟨hl, ⟨rfl, h⟩ | ⟨g, cap, cur, rfl, hg, hh, h1, h2, h3, h4⟩⟩ := ho
  · have e : ns = [] := List.length_eq_zero_iff.1 (by omega)
    subst e
    exact run_convert_bytes_nil W 108 5 Tryz.underlying108 Tryz.underlying5 0 0 9 Tryz.underlying9
  · refine conv_at ns W g 0 n cap hn (fun j u hj => ?_)
    have hjl : j < n := by rw [hn]; simpa using (List.getElem?_eq_some_iff.1 hj).1
    rw [Addr.add_mid, Nat.zero_add, cell_of_row _ _ _ _ _ _ hh, ← hj, ← h4, List.getElem?_take, if_pos (by omega), Array.getElem?_toList]

theorem one_new (W : World) (u : Value) (t : TypeId) : (W.alloc (.cells #[u] t)).cell? ⟨W.heap.size, 0, none⟩ = some u := by
  rw [World.cell?_alloc_at _ _ _ _ rfl]; rfl

-- a slice of bytes of our own, by its cells
structure OwnM (w : World) (base : Nat) (v : Value) (n : Nat) (ns : List Int) : Prop where
  len : ns.length = n
  ex : ∃ g cap, v = .slice (some ⟨g, 0, none⟩) n cap ∧ base ≤ g ∧ g < w.heap.size ∧ (∀ j, j < n → w.cell? ⟨g, j, none⟩ = some (.int .u8 (ns.getD j 0))) ∧ (∀ j, n ≤ j → j < cap → (w.cell? ⟨g, j, none⟩).isSome = true ∧ w.frozen? ⟨g, j, none⟩ = false)

theorem OwnM.alloc {w : World} {base : Nat} {v : Value} {n : Nat} {ns : List Int} (h : OwnM w base v n ns) (o : Obj) : OwnM (w.alloc o) base v n ns := by
  obtain ⟨hl, g, cap, rfl, hb, hg, h1, h2⟩ := h
  refine ⟨hl, g, cap, rfl, hb, by simp; omega, fun j hj => ?_, fun j ha hc => ?_⟩
  · rw [World.cell?_alloc_lt _ _ _ hg]; exact h1 j hj
  · rw [World.cell?_alloc_lt _ _ _ hg, World.frozen?_alloc_past _ _ _ hg]; exact h2 j ha hc

-- []byte(s)
theorem of_string (w : World) (s : ByteArray) (hs : s.size ≤ 140737488351232) : ∃ v w', (convert 9 108 (.string s)).run Tryz.prog w = .ok v w' ∧ OwnM w' w.heap.size v s.size (btL s s.size) ∧ Below w.heap.size w w' := by
  refine ⟨_, _, run_bytes_of_string w 9 108 5 s Tryz.underlying9 Tryz.underlying108 Tryz.underlying5, ⟨btL_length _ _, _, _, rfl, Nat.le_refl _, by simp, fun j hj => ?_, fun j ha hc => ?_⟩, ((Below.refl _ _).drew).alloc (Nat.le_refl _) _⟩
  · have hh : (w.drew.alloc (.cells (bytesRow s (grownCap w s.size 0 5)) 5 ((bytesRow s (grownCap w s.size 0 5)).size, (bytesRow s (grownCap w s.size 0 5)).size + 1))).heap[w.heap.size]? = some (.cells (bytesRow s (grownCap w s.size 0 5)) 5 ((bytesRow s (grownCap w s.size 0 5)).size, (bytesRow s (grownCap w s.size 0 5)).size + 1)) := heap_alloc_new w.drew _
    rw [cell_of_row _ _ _ _ _ _ hh, bytesRow, Array.getElem?_append_left (by simpa using hj), btL_get _ _ _ hj]
    have hj' : j < s.data.size := hj
    rw [Array.getElem?_map, Array.getElem?_eq_getElem hj']
    simp only [Option.map_some]
    rw [← get_bt s j hj]
    rfl
  · have hh : (w.drew.alloc (.cells (bytesRow s (grownCap w s.size 0 5)) 5 ((bytesRow s (grownCap w s.size 0 5)).size, (bytesRow s (grownCap w s.size 0 5)).size + 1))).heap[w.heap.size]? = some (.cells (bytesRow s (grownCap w s.size 0 5)) 5 ((bytesRow s (grownCap w s.size 0 5)).size, (bytesRow s (grownCap w s.size 0 5)).size + 1)) := heap_alloc_new w.drew _
    have hsz : (bytesRow s (grownCap w s.size 0 5)).size = grownCap w s.size 0 5 := by
      have := grownCap_ge w s.size 0 5
      have e : s.data.size = s.size := rfl
      simp [bytesRow, e]; omega
    refine ⟨?_, ?_⟩
    · rw [cell_of_row _ _ _ _ _ _ hh, Array.getElem?_eq_getElem (by omega)]; rfl
    · unfold World.frozen?
      rw [hh]
      simp only [hsz]
      simp; omega
end Go.Proofs.YtmindflfjocjlaaGreat.trc

namespace Go.Proofs.YtmindflfjocjlaaGreat.trg
open Go.RowKit Go.PlainAid
open Go.Proofs.YtmindflfjocjlaaGreat.tra Go.Proofs.YtmindflfjocjlaaGreat.trb Go.Proofs.YtmindflfjocjlaaGreat.nb Go.Proofs.YtmindflfjocjlaaGreat.trc
set_option linter.unusedVariables false

-- rows of numbers of 32 bits
def row32 (ns : List Int) : Array Value := (ns.map (Value.int .u32)).toArray
theorem row32_size (ns : List Int) : (row32 ns).size = ns.length := by simp [row32]
theorem row32_set (ns : List Int) (i : Nat) (x : Int) : (row32 ns).setIfInBounds i (.int .u32 x) = row32 (ns.set i x) := by simp [row32]
theorem row32_get (ns : List Int) (i : Nat) : (row32 ns)[i]? = (ns[i]?).map (Value.int .u32) := by simp [row32]

-- the table as far as it is filled
def tabL (m : Nat) : List Int := (List.range 256).map fun j => if j < m then ((sts 8 j : Nat) : Int) else 0
theorem tabL_length (m : Nat) : (tabL m).length = 256 := by simp [tabL]
theorem tabL_get (m j : Nat) (h : j < 256) : (tabL m)[j]? = some (if j < m then ((sts 8 j : Nat) : Int) else 0) := by
  simp [tabL, h]
theorem tabL_low (m j : Nat) (h : j < 256) (hm : j < m) : (tabL m)[j]? = some ((sts 8 j : Nat) : Int) := by
  rw [tabL_get m j h, if_pos hm]
theorem tabL_set (m : Nat) (x : Int) (h : m < 256) (hx : x = ((sts 8 m : Nat) : Int)) : (tabL m).set m x = tabL (m + 1) := by
  apply List.ext_getElem?
  intro j
  by_cases hj : j < 256
  · rw [tabL_get (m + 1) j hj, List.getElem?_set]
    by_cases e : m = j
    · subst e
      rw [if_pos rfl, if_pos (by rw [tabL_length]; exact h), if_pos (by omega), hx]
    · rw [if_neg e, tabL_get m j hj]
      by_cases h2 : j < m
      · rw [if_pos h2, if_pos (by omega)]
      · rw [if_neg h2, if_neg (by omega)]
  · rw [List.getElem?_eq_none (by rw [List.length_set, tabL_length]; omega), List.getElem?_eq_none (by rw [tabL_length]; omega)]
def zT : Array Value := row32 (List.replicate 256 0)
theorem tabL_rep : List.replicate 256 (0 : Int) = tabL 1 := by
  apply List.ext_getElem?
  intro j
  by_cases hj : j < 256
  · rw [tabL_get 1 j hj, List.getElem?_replicate, if_pos hj]
    by_cases h0 : j < 1
    · obtain rfl : j = 0 := by omega
      rw [if_pos h0]; rfl
    · rw [if_neg h0]
  · rw [List.getElem?_eq_none (by rw [List.length_replicate]; omega), List.getElem?_eq_none (by rw [tabL_length]; omega)]
theorem tabL_one : zT = row32 (tabL 1) := by rw [zT, tabL_rep]
theorem top_xor (k r : Nat) (h : r < 2 ^ k) : 2 ^ k + r = 2 ^ k ^^^ r := by
  have h1 : 2 ^ k * 1 + r = 2 ^ k * 1 ||| r := Nat.two_pow_add_eq_or_of_lt h 1
  rw [Nat.mul_one] at h1
  rw [h1]
  apply Nat.eq_of_testBit_eq
  intro i
  rw [Nat.testBit_or, Nat.testBit_xor, Nat.testBit_two_pow]
  by_cases e : k = i
  · subst e
    have : r.testBit k = false := Nat.testBit_lt_two_pow h
    rw [this]; simp
  · simp [e]
theorem sts_top (k r : Nat) (h : r < 2 ^ k) : sts 8 (2 ^ k + r) = sts 8 (2 ^ k) ^^^ sts 8 r := by
  rw [top_xor k r h, sts_xor]

-- one byte by the table
theorem low_xor (R c : Nat) (hc : c < 256) : (R % 256) ^^^ c = (R ^^^ c) % 256 := by
  have h : (R ^^^ c) % 2 ^ 8 = (R % 2 ^ 8) ^^^ (c % 2 ^ 8) := Nat.xor_mod_two_pow
  rw [show (256 : Nat) = 2 ^ 8 by rfl, h, Nat.mod_eq_of_lt (show c < 2 ^ 8 by omega)]
theorem bs_look (R c : Nat) (hc : c < 256) : bs R c = (R / 256) ^^^ sts 8 ((R % 256) ^^^ c) := by
  rw [bs_table R c hc, low_xor R c hc, Nat.xor_comm]

-- a row of 256 in memory
structure LayT (w : World) (B : Nat) (X : Array Value) (wr : World) : Prop where
  lx : wr.heap[B]? = some (.cells X 150 (0, 0))
  lb : Below w.heap.size w wr
theorem LayT.set {w : World} {B : Nat} {l l' : List Int} {wr : World} (h : LayT w B (row32 l) wr) (hB : w.heap.size ≤ B) (t : Nat) (v : Int) (hs : l.set t v = l') (n : Nat) : LayT w B (row32 l') ((wr.setCell ⟨B, t, none⟩ (.int .u32 v)).drewN n) := by
  refine ⟨?_, ?_⟩
  · show (wr.setCell _ _).heap[_]? = _
    rw [heap_setCell_same _ _ _ _ _ _ h.lx, row32_set, hs]
  · exact below_drewN (h.lb.setCell hB _) n
end Go.Proofs.YtmindflfjocjlaaGreat.trg

namespace Go.Proofs.YtmindflfjocjlaaGreat.trh
open Go.RowKit Go.PlainAid
open Go.Proofs.YtmindflfjocjlaaGreat.tra Go.Proofs.YtmindflfjocjlaaGreat.trb Go.Proofs.YtmindflfjocjlaaGreat.nb Go.Proofs.YtmindflfjocjlaaGreat.trc Go.Proofs.YtmindflfjocjlaaGreat.trg
set_option linter.unusedVariables false

set_option maxHeartbeats 800000 in
theorem shifted (r : Nat) (w : World) (hr : r < 4294967296) :
    Calls Tryz.prog 124 #[.int .u32 r] w fun e w' => e = .returned (.int .u32 (sts 8 r : Nat)) ∧ w' = w := by
  go_enter Tryz.func124, Tryz.ntmps124
  go_wp2
  go_loop [0, 4] (fun x j => ∃ t X : Nat, t ≤ 8 ∧ j = .int .i64 t ∧ x = .int .u32 X ∧ X < 4294967296 ∧ Hid (X = sts t r)) (fun _ j => (8 - intOf j).toNat)
  case atStart => exact ⟨0, r, by omega, rfl, rfl, hr, rfl⟩
  case round =>
    obtain ⟨t, X, ht, rfl, rfl, hX, HT⟩ := hrel
    by_cases hl8 : t < 8
    · have hl8' : (t : Int) < 8 := by omega
      have HA : Hid _ := and_one X hX
      have HP : Hid _ := xor_po (X / 2) (by omega)
      rcases Nat.mod_two_eq_zero_or_one X with hm | hm
      · have HS : Hid (X / 2 = st X) := st0 X hm
        rw [hm] at HA
        have h01 : (bits .and .u32 (X : Int) 1 == 1) = false := by rw [HA.out]; rfl
        go_wp2
        go_round
        case rel => exact ⟨t + 1, X / 2, by omega, by go_num, by go_num, by omega, by rw [sts_succ, ← HT.out]; exact HS.out⟩
        case measure => simp [intOf]; omega
      · have HS : Hid ((X / 2) ^^^ PO = st X) := st1 X hm
        rw [hm] at HA
        have h01 : (bits .and .u32 (X : Int) 1 == 1) = true := by rw [HA.out]; rfl
        go_wp2
        go_round
        case rel => exact ⟨t + 1, (X / 2) ^^^ PO, by omega, by go_num, by rw [← HP.out]; go_num, by rw [HS.out]; exact st_lt X hX, by rw [sts_succ, ← HT.out]; exact HS.out⟩
        case measure => simp [intOf]; omega
    · have hl8' : ¬ (t : Int) < 8 := by omega
      obtain rfl : t = 8 := by omega
      go_wp2
      go_ret
      exact ⟨by rw [HT.out]; rfl, rfl⟩

theorem wpList_alloc {P : Program} {ops : Array Oper} {rest : List Oper} {o : Oper} {a : Act} {w : World} {Q : Exit → Act → World → Prop} (hgd : o.guard = none) (t : TypeId) (ho : o.op = .alloc t) (v : Value) (w' : World)
    (hrun : (Instr.alloc t true (.tuple #[])).run P w = .ok v w') (h : wpList P ops Q rest (a.put o.dst v) w') : wpList P ops Q (o :: rest) a w := by
  refine wpList_plain hgd fun K hK => ?_
  unfold Oper.wp execOp
  simp only [ho, Sem.run_bind, hrun, Result.andThen_ok, Sem.run_pure]
  exact hK _ _ h
set_option maxRecDepth 100000 in
theorem alloc256 (W : World) : (Instr.alloc 150 true (.tuple #[])).run Tryz.prog W = .ok (.pointer (some ⟨W.heap.size, 0, none⟩)) (W.alloc (.cells zT 150)) := by kernel_rfl
theorem info256 : (Tryz.prog.info? 150).map (·.size) = some 256 := by kernel_rfl

structure LayB (w : World) (X : Array Value) (wr : World) : Prop where
  lr : wr.heap[w.heap.size]? = some (.cells zT 150 (0, 0))
  lx : wr.heap[w.heap.size + 1]? = some (.cells X 150 (0, 0))
  lb : Below w.heap.size w wr
theorem LayB.set {w : World} {l l' : List Int} {wr : World} (h : LayB w (row32 l) wr) (t : Nat) (v : Int) (hs : l.set t v = l') : LayB w (row32 l') (wr.setCell ⟨w.heap.size + 1, t, none⟩ (.int .u32 v)) := by
  refine ⟨?_, ?_, ?_⟩
  · rw [heap_setCell_other _ _ _ _ (by simp)]; exact h.lr
  · rw [heap_setCell_same _ _ _ _ _ _ h.lx, row32_set, hs]
  · exact h.lb.setCell (by simp) _

set_option maxHeartbeats 1600000 in
set_option maxRecDepth 100000 in
theorem byteSums (w : World) : Calls Tryz.prog 113 #[] w fun e w' => e = .returned (.agg (row32 (tabL 256))) ∧ Below w.heap.size w w' := by
  go_enter Tryz.func113, Tryz.ntmps113
  go_wp2_with (refine wpList_alloc rfl 150 rfl _ _ (alloc256 _) ?_)
  go_loopw [2] (fun i wr => ∃ k T : Nat, k ≤ 8 ∧ Hid (T = 2 ^ k) ∧ 1 ≤ T ∧ T ≤ 256 ∧ i = .int .i64 T ∧ Hid (LayB w (row32 (tabL T)) wr)) (fun i _ => (256 - intOf i).toNat)
  case atStart =>
    refine ⟨0, 1, by omega, rfl, by omega, by omega, rfl, ⟨?_, ?_, ?_⟩⟩
    · rw [heap_alloc_old _ _ (by simp)]; exact heap_alloc_new w _
    · rw [← tabL_one]; exact heap_alloc2_new w _ _
    · exact ((Below.refl _ _).alloc (Nat.le_refl _) _).alloc (by simp) _
  case round =>
    obtain ⟨k, T, hk, HT, t1, t2, rfl, LAY⟩ := hrel
    by_cases hlt : T < 256
    · have hlt' : (T : Int) < 256 := by omega
      have hk8 : k < 8 := by
        have := HT.out
        rcases Nat.lt_or_ge k 8 with h | h
        · exact h
        · obtain rfl : k = 8 := by omega
          rw [this] at hlt; omega
      have t32 : IntKind.u32.wrap (T : Int) = (T : Int) := by rw [IntKind.wrap_u32]; omega
      go_wp2_with fail
      refine (shifted T _ (by omega)).mono ?_
      rintro e w1 ⟨rfl, rfl⟩
      have sT := sts_lt 8 T (by omega)
      go_wp2_with fail
      go_loopw [13] (fun j wr => ∃ r : Nat, r ≤ T ∧ j = .int .i64 r ∧ Hid (LayB w (row32 (tabL (T + r))) wr)) (fun j _ => (T - intOf j).toNat)
      case atStart => exact ⟨0, by omega, rfl, LAY.out⟩
      case round =>
        obtain ⟨r, hr, rfl, LAY2⟩ := hrel
        clear LAY
        by_cases hrt : r < T
        · have hrt' : (r : Int) < T := by omega
          have hT2 : T + r < 256 := by
            have h1 : T ≤ 128 := by
              rw [HT.out]
              exact Nat.pow_le_pow_right (n := 2) (i := k) (j := 7) (by omega) (by omega)
            omega
          have a1 : IntKind.i64.wrap ((T : Int) + (r : Int)) = (T : Int) + (r : Int) := by rw [IntKind.wrap_i64]; omega
          have a2 : (T : Int) + (r : Int) < 256 := by omega
          have a3 : ((T : Int) + (r : Int)).toNat = T + r := by omega
          have a4 : (0 : Int) ≤ (T : Int) + (r : Int) := by omega
          have a5 : (r : Int) < 256 := by omega
          have C1 : wr.cell? ⟨w.heap.size + 1, r, none⟩ = some (.int .u32 ((sts 8 r : Nat) : Int)) := by
            rw [cell_of_row _ _ _ _ _ _ LAY2.out.lx, row32_get, tabL_low _ _ (by omega) (by omega)]; rfl
          have C2 : wr.cell? ⟨w.heap.size + 1, T + r, none⟩ = some (.int .u32 0) := by
            rw [cell_of_row _ _ _ _ _ _ LAY2.out.lx, row32_get, tabL_get _ _ (by omega), if_neg (by omega)]; rfl
          have F2 : wr.frozen? ⟨w.heap.size + 1, T + r, none⟩ = false := frozen_of_row _ _ _ _ _ LAY2.out.lx
          have HX : Hid (bits .xor .u32 ((sts 8 T : Nat) : Int) ((sts 8 r : Nat) : Int) = ((sts 8 (T + r) : Nat) : Int)) := by
            show _ = _
            have e : sts 8 (T + r) = sts 8 T ^^^ sts 8 r := by rw [HT.out]; exact sts_top k r (by rw [← HT.out]; exact hrt)
            rw [u32_xor_nat _ _ sT (sts_lt 8 r (by omega)), e]
          go_wp2
          go_roundw
          case rel => exact ⟨r + 1, by omega, by go_num, LAY2.out.set (T + r) _ (tabL_set (T + r) _ hT2 HX.out)⟩
          case measure => simp [intOf]; omega
        · have hrt' : ¬ (r : Int) < T := by omega
          obtain rfl : r = T := by omega
          go_wp2
          go_roundw
          case rel =>
            refine ⟨k + 1, r * 2, by omega, ?_, by omega, ?_, by go_num, ?_⟩
            · show _ = _; rw [HT.out, Nat.pow_succ]
            · have := Nat.pow_le_pow_right (n := 2) (i := k + 1) (j := 8) (by omega) (by omega)
              rw [HT.out, ← Nat.pow_succ]; omega
            · rw [show r * 2 = r + r by omega]; exact LAY2.out
          case measure => simp [intOf]; omega
    · have hlt' : ¬ (T : Int) < 256 := by omega
      obtain rfl : T = 256 := by omega
      have hlen : (row32 (tabL 256)).size = 256 := by rw [row32_size, tabL_length]
      have HI : Hid ((Tryz.prog.info? 150).map (·.size) = some (row32 (tabL 256)).size) := by show _ = _; rw [hlen]; exact info256
      have H3 : Hid ((row32 (tabL 256)).all (·.oneCell') = true) := by show _ = _; simp [row32, Value.oneCell']
      have H4 : Hid (zT.size = (row32 (tabL 256)).size) := by show _ = _; rw [hlen, tabL_one, row32_size, tabL_length]
      clear hlen
      obtain ⟨WL, HW⟩ : ∃ WL, Hid (row32 (tabL 256) = WL) := ⟨_, rfl⟩
      rw [HW.out] at HI H3 H4 LAY
      go_wp2_with (first | (refine wpList_load_row rfl 150 (.tmp 1) rfl (w.heap.size + 1) rfl 150 WL (0, 0) _ LAY.out.lx Tryz.underlying150 rfl HI.out ?_) | (refine wpList_store_row rfl 150 (.tmp 0) (.tmp 26) rfl w.heap.size WL rfl rfl 150 zT LAY.out.lr HI.out H4.out H3.out ?_))
      exact bodyPost_ret (v := .agg WL) (results_cell_row Tryz.results113 _ _ w.heap.size 150 _ (0, 0) _ rfl (setRow_heap _ _ _ _ _ _ LAY.out.lr) Tryz.underlying150 rfl HI.out) rfl ⟨by rw [HW.out], below_setRow LAY.out.lb (by omega) _⟩
end Go.Proofs.YtmindflfjocjlaaGreat.trh
