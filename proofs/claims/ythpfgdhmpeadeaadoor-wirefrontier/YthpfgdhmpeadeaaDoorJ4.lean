import Derived.Test.YthpfgdhmpeadeaaDoorG1
import Derived.Test.YthpfgdhmpeadeaaDoorG6
import Derived.Test.YthpfgdhmpeadeaaDoorJ2
namespace Go.Proofs.YthpfgdhmpeadeaaDoor.nv
open Go.RowKit Go.PlainAid
open Go.Proofs.YthpfgdhmpeadeaaDoor.na Go.Proofs.YthpfgdhmpeadeaaDoor.nb Go.Proofs.YthpfgdhmpeadeaaDoor.nc
set_option linter.unusedVariables false

theorem add_low (v c : Int) (k i : Nat) (hi : i < k) : (v + c * 128 ^ k) / 128 ^ i % 128 = v / 128 ^ i % 128 := by
  have hc : (0 : Int) < 128 ^ i := Int.pow_pos (by omega)
  obtain ⟨j, rfl⟩ : ∃ j, k = i + 1 + j := ⟨k - (i + 1), by omega⟩
  have e : c * (128 : Int) ^ (i + 1 + j) = c * 128 ^ j * 128 * 128 ^ i := by
    rw [Int.pow_add, Int.pow_succ]
    simp only [Int.mul_assoc, Int.mul_comm, Int.mul_left_comm]
  rw [e, Int.add_mul_ediv_right _ _ (by omega), Int.add_mul_emod_self_right]

theorem add_top (v c : Int) (k : Nat) (h0 : 0 ≤ v) (h1 : v < 128 ^ k) (c0 : 0 ≤ c) (c1 : c < 128) : (v + c * 128 ^ k) / 128 ^ k % 128 = c := by
  have hc : (0 : Int) < 128 ^ k := Int.pow_pos (by omega)
  rw [Int.add_mul_ediv_right _ _ (by omega), Int.ediv_eq_zero_of_lt h0 h1]
  omega

def Tells (b : ByteArray) (p : Nat) (r : Int × Int × Int) : Prop :=
  (r.1 = 0 ∧ r.2.1 = 0 ∧ 11 ≤ r.2.2 ∧ r.2.2 ≤ 13) ∨
  ∃ m : Nat, r.2.2 = 0 ∧ r.2.1 = (p : Int) + m ∧ 0 ≤ r.1 ∧ r.1 ≤ 18446744073709551615 ∧ Wants r.1 m ∧ p + m ≤ b.size ∧ (∀ i, i + 1 < m → bt b (p + i) = gB r.1 i) ∧ bt b (p + (m - 1)) = r.1 / 128 ^ (m - 1) % 128

theorem tells (b : ByteArray) (p : Nat) : ∀ (f k : Nat) (v : Int), f + k = 10 → 0 ≤ v → v < 128 ^ k → p + k ≤ b.size → (∀ i, i < k → bt b (p + i) = gB v i) → Tells b p (varR b p f k v)
  | 0, k, v, _, _, _, _, _ => by rw [varR_end]; exact .inl ⟨rfl, rfl, by decide, by decide⟩
  | f + 1, k, v, hf, h0, h1, hs, hb => by
    by_cases c1 : b.size ≤ p + k
    · rw [varR_short _ _ _ _ _ c1]; exact .inl ⟨rfl, rfl, by decide, by decide⟩
    by_cases c2 : k = 9 ∧ 1 < bt b (p + k)
    · rw [varR_over _ _ _ _ _ c1 c2]; exact .inl ⟨rfl, rfl, by decide, by decide⟩
    by_cases c3 : 0 < k ∧ bt b (p + k) = 0
    · rw [varR_form _ _ _ _ _ c1 c2 c3]; exact .inl ⟨rfl, rfl, by decide, by decide⟩
    have b0 := bt_nonneg b (p + k)
    have b1 := bt_le b (p + k)
    have hg := group_nonneg (bt b (p + k)) k
    have hl := group_lt v (bt b (p + k)) k h1
    have hm := group_max v (bt b (p + k)) k (by omega) h1 (fun e => Int.not_lt.mp fun h => c2 ⟨e, h⟩) b0
    have hc : (0 : Int) < 128 ^ k := Int.pow_pos (by omega)
    by_cases c4 : bt b (p + k) < 128
    · rw [varR_last _ _ _ _ _ c1 c2 c3 c4]
      refine .inr ⟨k + 1, rfl, by show (p : Int) + k + 1 = _; omega, by show 0 ≤ _; omega, hm, ⟨by omega, by omega, hl, ?_⟩, by omega, ?_, ?_⟩
      · intro hk
        show (128 : Int) ^ (k + 1 - 1) ≤ v + _
        rw [Nat.add_sub_cancel]
        have hne : bt b (p + k) ≠ 0 := fun h => c3 ⟨by omega, h⟩
        have : 1 * 128 ^ k ≤ bt b (p + k) % 128 * 128 ^ k := Int.mul_le_mul_of_nonneg_right (by omega) (by omega)
        omega
      · intro i hi
        rw [hb i (by omega)]
        show gB v i = gB (v + bt b (p + k) % 128 * 128 ^ k) i
        unfold gB
        rw [add_low _ _ _ _ (by omega)]
      · show bt b (p + (k + 1 - 1)) = (v + bt b (p + k) % 128 * 128 ^ k) / 128 ^ (k + 1 - 1) % 128
        rw [Nat.add_sub_cancel, add_top _ _ _ h0 h1 (by omega) (by omega)]
        omega
    · rw [varR_next _ _ _ _ _ c1 c2 c3 c4]
      refine tells b p f (k + 1) _ (by omega) (by omega) hl (by omega) ?_
      intro i hi
      by_cases hik : i < k
      · rw [hb i hik]; unfold gB; rw [add_low _ _ _ _ hik]
      · obtain rfl : i = k := by omega
        unfold gB
        rw [add_top _ _ _ h0 h1 (by omega) (by omega)]
        omega

theorem tells_all (b : ByteArray) (p : Nat) (h : p ≤ b.size) : Tells b p (varR b p 10 0 0) :=
  tells b p 10 0 0 rfl (by omega) (by decide) (by omega) (fun i hi => absurd hi (by omega))

theorem same_form (b : ByteArray) (p m : Nat) (x : Int) (hw : Wants x m) (hs : p + m ≤ b.size) (hb : ∀ i, i + 1 < m → bt b (p + i) = gB x i) (hl : bt b (p + (m - 1)) = x / 128 ^ (m - 1) % 128) :
    b.extract p (p + m) = str (putL x m) := by
  have h1 := hw.1
  have hsz : (b.extract p (p + m)).size = min (p + m) b.size - p := ByteArray.size_extract
  refine ext_bt _ _ (by rw [hsz, str_size, putL_length x m h1]; omega) ?_
  intro k hk
  rw [bt_extract b p (p + m) k (by omega) hs]
  by_cases hkm : k + 1 < m
  · rw [hb k hkm, put_bt x m k hkm]
  · obtain rfl : k = m - 1 := by omega
    rw [hl, put_bt_last x m h1]
end Go.Proofs.YthpfgdhmpeadeaaDoor.nv

namespace Go.Proofs.YthpfgdhmpeadeaaDoor.e1
open Go.RowKit Go.PlainAid
open Go.Proofs.YthpfgdhmpeadeaaDoor.na Go.Proofs.YthpfgdhmpeadeaaDoor.nb Go.Proofs.YthpfgdhmpeadeaaDoor.nc Go.Proofs.YthpfgdhmpeadeaaDoor.nv Go.Proofs.YthpfgdhmpeadeaaDoor.ea
set_option linter.unusedVariables false

-- bytes as a list, and what is read of them between two places
def bl (b : ByteArray) : List UInt8 := b.data.toList
theorem bl_len (b : ByteArray) : (bl b).length = b.size := Array.length_toList
theorem bl_inj {a b : ByteArray} (h : bl a = bl b) : a = b := by
  apply ByteArray.ext
  exact Array.toList_inj.1 h
theorem bl_of (l : List UInt8) : bl ⟨l.toArray⟩ = l := rfl
theorem bl_app (a b : ByteArray) : bl (a ++ b) = bl a ++ bl b := by
  unfold bl
  rw [ByteArray.data_append, Array.toList_append]
theorem bl_ext (b : ByteArray) (p q : Nat) : bl (b.extract p q) = ((bl b).drop p).take (q - p) := by
  unfold bl
  rw [ByteArray.data_extract, Array.toList_extract, List.extract_eq_take_drop]
def Rn (b : ByteArray) (p q : Nat) (l : List UInt8) : Prop := p ≤ q ∧ q ≤ b.size ∧ (bl b).drop p = l ++ (bl b).drop q
theorem Rn.refl {b : ByteArray} {p : Nat} (h : p ≤ b.size) : Rn b p p [] := ⟨Nat.le_refl _, h, rfl⟩
theorem Rn.trans {b : ByteArray} {p q r : Nat} {l m : List UInt8} (h : Rn b p q l) (k : Rn b q r m) : Rn b p r (l ++ m) :=
  ⟨Nat.le_trans h.1 k.1, k.2.1, by rw [h.2.2, k.2.2, List.append_assoc]⟩
theorem Rn.whole {b : ByteArray} {l : List UInt8} (h : Rn b 0 b.size l) : bl b = l := by
  have h1 := h.2.2
  rw [List.drop_zero, List.drop_eq_nil_of_le (by rw [bl_len]; exact Nat.le_refl _), List.append_nil] at h1
  exact h1
def Sp (b : ByteArray) (p : Nat) (l : List UInt8) : Prop := p ≤ b.size ∧ ∃ r, (bl b).drop p = l ++ r
theorem Sp.of {b : ByteArray} {l r : List UInt8} (h : bl b = l ++ r) : Sp b 0 l := ⟨Nat.zero_le _, r, by rw [List.drop_zero]; exact h⟩
theorem Sp.fst {b : ByteArray} {p : Nat} {l m : List UInt8} (h : Sp b p (l ++ m)) : Sp b p l := by
  obtain ⟨h1, r, h2⟩ := h
  exact ⟨h1, m ++ r, by rw [h2, List.append_assoc]⟩
theorem Sp.le {b : ByteArray} {p : Nat} {l : List UInt8} (h : Sp b p l) : p + l.length ≤ b.size := by
  obtain ⟨h1, r, h2⟩ := h
  have h3 := congrArg List.length h2
  rw [List.length_drop, bl_len, List.length_append] at h3
  omega
theorem Sp.snd {b : ByteArray} {p : Nat} {l m : List UInt8} (h : Sp b p (l ++ m)) : Sp b (p + l.length) m := by
  have h0 := h.fst.le
  obtain ⟨h1, r, h2⟩ := h
  refine ⟨h0, r, ?_⟩
  rw [← List.drop_drop, h2, List.append_assoc, List.drop_left]
theorem Sp.ext {b s : ByteArray} {p : Nat} (h : Sp b p (bl s)) : b.extract p (p + s.size) = s := by
  obtain ⟨h1, r, h2⟩ := h
  apply bl_inj
  rw [bl_ext, h2, Nat.add_sub_cancel_left, ← bl_len s, List.take_left]

-- a piece of so many bytes
theorem take_only (b : ByteArray) (c p : Nat) (e : Int) (hp : p ≤ b.size) (h : (takeS b c p e).2.2 = 0) :
    e = 0 ∧ (takeS b c p e).2.1 = p + c ∧ (takeS b c p e).1.size = c ∧ Rn b p (p + c) (bl (takeS b c p e).1) := by
  by_cases he : e = 0
  · subst he
    by_cases hs : b.size < p + c
    · rw [takeS_short b c p hs] at h; exact absurd (show (12 : Int) = 0 from h) (by decide)
    · rw [takeS_yes b c p (by omega)]
      have hz : (b.extract p (p + c)).size = min (p + c) b.size - p := ByteArray.size_extract
      refine ⟨rfl, rfl, by show (b.extract p (p + c)).size = c; omega, by omega, by omega, ?_⟩
      show _ = bl (b.extract p (p + c)) ++ _
      rw [bl_ext, Nat.add_sub_cancel_left, ← List.drop_drop, List.take_append_drop]
  · rw [takeS_not b c p e he] at h; exact absurd h he
theorem take_back {b s : ByteArray} {p : Nat} (h : Sp b p (bl s)) : takeS b s.size p 0 = (s, p + s.size, 0) := by
  have h1 := h.le
  rw [bl_len] at h1
  rw [takeS_yes b _ p h1, h.ext]

-- a number
theorem putB_len (v : Int) : (bl (putB v)).length = (putB v).size := bl_len _
theorem num_only (b : ByteArray) (p : Nat) (e : Int) (hp : p ≤ b.size) (h : (numS b p e).2.2 = 0) :
    e = 0 ∧ 0 ≤ (numS b p e).1 ∧ (numS b p e).1 ≤ 18446744073709551615 ∧ Rn b p (numS b p e).2.1 (bl (putB (numS b p e).1)) := by
  by_cases he : e = 0
  · subst he
    by_cases hv : (varR b p 10 0 0).2.2 = 0
    · rw [numS_yes b p hv]
      rcases tells_all b p hp with ⟨h1, h2, h3, h4⟩ | ⟨m, h1, h2, h3, h4, h5, h6, h7, h8⟩
      · omega
      · refine ⟨rfl, h3, h4, ?_⟩
        have hx := same_form b p m _ h5 h6 h7 h8
        rw [putB_of _ m h3 h4 h5] at hx
        show Rn b p (varR b p 10 0 0).2.1.toNat _
        rw [h2, show ((p : Int) + m).toNat = p + m by omega]
        refine ⟨by omega, h6, ?_⟩
        show _ = bl (putB (varR b p 10 0 0).1) ++ _
        rw [← hx, bl_ext, Nat.add_sub_cancel_left, ← List.drop_drop, List.take_append_drop]
    · rw [numS_bad b p hv] at h; exact absurd h hv
  · rw [numS_not b p e he] at h; exact absurd h he
theorem num_back {b : ByteArray} {p : Nat} {v : Int} (h0 : 0 ≤ v) (h1 : v ≤ 18446744073709551615) (h : Sp b p (bl (putB v))) : numS b p 0 = (v, p + (putB v).size, 0) := by
  have hw : Wants v (mOf v) := wants_len v h0 h1
  have hle := h.le
  rw [bl_len] at hle
  have hsz : (putB v).size = mOf v := by rw [putB, str_size, putL_length v _ hw.1]
  have hx := h.ext
  rw [hsz] at hle hx ⊢
  have key : ∀ i, i < mOf v → bt b (p + i) = bt (str (putL v (mOf v))) i := by
    intro i hi
    rw [← bt_extract b p (p + mOf v) i (by omega) hle, hx]
    rfl
  have hm := hw.1
  have hr := varR_back b p (mOf v) v h0 h1 hw hle (fun i hi => by rw [key i (by omega), put_bt v _ i hi]) (by rw [key _ (by omega), put_bt_last v _ hw.1])
  rw [numS_yes b p (by rw [hr]), hr]
  show (v, ((p : Int) + mOf v).toNat, (0 : Int)) = _
  rw [show ((p : Int) + mOf v).toNat = p + mOf v by omega]
theorem refu_zero_only (e f : Int) (hf : f ≠ 0) (h : refu e f = 0) : False := by
  unfold refu at h
  split at h
  · exact hf h
  · rename_i he; exact he h
theorem most_only (b : ByteArray) (m f : Int) (p : Nat) (e : Int) (hp : p ≤ b.size) (hf : f ≠ 0) (h : (mostS b m f p e).2.2 = 0) :
    e = 0 ∧ 0 ≤ (mostS b m f p e).1 ∧ (mostS b m f p e).1 ≤ m ∧ Rn b p (mostS b m f p e).2.1 (bl (putB (mostS b m f p e).1)) := by
  by_cases hm : m < 0 ∨ m < (numS b p e).1
  · rw [mostS_out b m f p e hm] at h
    exact (refu_zero_only _ _ hf h).elim
  · rw [mostS_in b m f p e hm] at h ⊢
    obtain ⟨h1, h2, h3, h4⟩ := num_only b p e hp h
    exact ⟨h1, h2, by omega, h4⟩
theorem most_back {b : ByteArray} {p : Nat} {v m : Int} (f : Int) (h0 : 0 ≤ v) (h1 : v ≤ m) (h2 : m ≤ 18446744073709551615) (h : Sp b p (bl (putB v))) : mostS b m f p 0 = (v, p + (putB v).size, 0) := by
  have hn := num_back h0 (by omega) h
  rw [mostS_in b m f p 0 (by rw [hn]; show ¬ (m < 0 ∨ m < v); omega), hn]

-- the mark, the width
theorem bl_one (c : Int) : bl (str [c]) = [UInt8.ofNat c.toNat] := by
  unfold bl
  rw [str_data]
  rfl
theorem mark_only (b : ByteArray) (c : Int) (p : Nat) (e : Int) (hp : p ≤ b.size) (h : (markS b c p e).2 = 0) :
    e = 0 ∧ Rn b p (markS b c p e).1 [UInt8.ofNat c.toNat] := by
  unfold markS at h ⊢
  show e = 0 ∧ Rn b p (takeS b 1 p e).2.1 _
  by_cases hx : (takeS b 1 p e).1 = str [c]
  · have h' : (takeS b 1 p e).2.2 = 0 := by
      have : (if (takeS b 1 p e).1 = str [c] then (takeS b 1 p e).2.2 else refu (takeS b 1 p e).2.2 110) = 0 := h
      rw [if_pos hx] at this; exact this
    obtain ⟨h1, h2, h3, h4⟩ := take_only b 1 p e hp h'
    rw [hx, bl_one] at h4
    rw [h2]
    exact ⟨h1, h4⟩
  · have : (if (takeS b 1 p e).1 = str [c] then (takeS b 1 p e).2.2 else refu (takeS b 1 p e).2.2 110) = 0 := h
    rw [if_neg hx] at this
    exact (refu_zero_only _ _ (by decide) this).elim
theorem mark_back {b : ByteArray} {p : Nat} {c : Int} (h : Sp b p [UInt8.ofNat c.toNat]) : markS b c p 0 = (p + 1, 0) := by
  rw [← bl_one] at h
  have ht := take_back h
  rw [str_size] at ht
  unfold markS
  rw [show ([c] : List Int).length = 1 from rfl] at ht
  rw [ht]
  show (p + 1, if str [c] = str [c] then (0 : Int) else refu 0 110) = _
  rw [if_pos rfl]
theorem one_byte (s : ByteArray) (h : s.size = 1) : bl s = [UInt8.ofNat (bt s 0).toNat] := by
  have hs : s = str [bt s 0] := by
    refine ext_bt _ _ (by rw [str_size]; exact h) ?_
    intro k hk
    obtain rfl : k = 0 := by omega
    rw [str_bt [bt s 0] 0 (Nat.zero_lt_one) (bt_nonneg s 0) (bt_le s 0)]
    rfl
  rw [← bl_one, ← hs]
theorem width_only (b : ByteArray) (p : Nat) (e : Int) (hp : p ≤ b.size) (h : (widthS b p e).2.2 = 0) :
    e = 0 ∧ 1 ≤ (widthS b p e).1 ∧ (widthS b p e).1 ≤ 32 ∧ Rn b p (widthS b p e).2.1 [UInt8.ofNat (widthS b p e).1.toNat] := by
  have h' : (if 1 ≤ byteS b p e ∧ byteS b p e ≤ 32 then (takeS b 1 p e).2.2 else refu (takeS b 1 p e).2.2 10) = 0 := h
  show e = 0 ∧ 1 ≤ byteS b p e ∧ byteS b p e ≤ 32 ∧ Rn b p (takeS b 1 p e).2.1 [UInt8.ofNat (byteS b p e).toNat]
  by_cases hw : 1 ≤ byteS b p e ∧ byteS b p e ≤ 32
  · rw [if_pos hw] at h'
    obtain ⟨h1, h2, h3, h4⟩ := take_only b 1 p e hp h'
    rw [one_byte _ h3] at h4
    have hb : byteS b p e = bt (takeS b 1 p e).1 0 := by unfold byteS; rw [if_pos h3]
    rw [h2]
    refine ⟨h1, hw.1, hw.2, ?_⟩
    rw [hb]; exact h4
  · rw [if_neg hw] at h'
    exact (refu_zero_only _ _ (by decide) h').elim
theorem width_back {b : ByteArray} {p : Nat} {c : Int} (h0 : 1 ≤ c) (h1 : c ≤ 32) (h : Sp b p [UInt8.ofNat c.toNat]) : widthS b p 0 = (c, p + 1, 0) := by
  rw [← bl_one] at h
  have ht := take_back h
  rw [str_size, show ([c] : List Int).length = 1 from rfl] at ht
  have hb : byteS b p 0 = c := by
    unfold byteS
    rw [ht]
    show (if (str [c]).size = 1 then bt (str [c]) 0 else 0) = c
    rw [if_pos (by rw [str_size]; rfl), str_bt [c] 0 (Nat.zero_lt_one) (by show 0 ≤ c; omega) (by show c ≤ 255; omega)]
    rfl
  unfold widthS
  rw [hb, ht, if_pos ⟨h0, h1⟩]

-- hashes, leaves
theorem cat_cons (x : ByteArray) (l : List ByteArray) : cat (x :: l) = bl x ++ cat l := by
  unfold cat bl; rw [List.flatMap_cons]
theorem hashes_only (b : ByteArray) (w n : Nat) : ∀ (p : Nat) (e : Int), p ≤ b.size → (hashesS b w n p e).2.2 = 0 →
    e = 0 ∧ (hashesS b w n p e).1.length = n ∧ (∀ x ∈ (hashesS b w n p e).1, x.size = w) ∧ Rn b p (hashesS b w n p e).2.1 (cat (hashesS b w n p e).1) := by
  induction n with
  | zero => intro p e hp h; exact ⟨h, rfl, fun x hx => absurd hx (List.not_mem_nil), Rn.refl hp⟩
  | succ n ih =>
    intro p e hp h
    by_cases he : e = 0
    · subst he
      have e1 : hashesS b w (n + 1) p 0 = ((takeS b w p 0).1 :: (hashesS b w n (takeS b w p 0).2.1 (takeS b w p 0).2.2).1, (hashesS b w n (takeS b w p 0).2.1 (takeS b w p 0).2.2).2) := by
        rw [hashesS, if_neg (by decide)]
      rw [e1] at h ⊢
      have ht : (takeS b w p 0).2.2 = 0 := by
        by_cases hz : (takeS b w p 0).2.2 = 0
        · exact hz
        · have h' : (hashesS b w n (takeS b w p 0).2.1 (takeS b w p 0).2.2).2.2 = 0 := h
          rw [hashesS_not b w n _ _ hz] at h'
          exact h'
      obtain ⟨_, t2, t3, t4⟩ := take_only b w p 0 hp ht
      have hq : (takeS b w p 0).2.1 ≤ b.size := by rw [t2]; exact t4.2.1
      obtain ⟨_, i2, i3, i4⟩ := ih _ _ hq h
      refine ⟨rfl, by show (_ :: _).length = _; rw [List.length_cons, i2], ?_, ?_⟩
      · intro x hx
        rcases List.mem_cons.1 hx with rfl | hx
        · exact t3
        · exact i3 x hx
      · show Rn b p _ (cat (_ :: _))
        rw [cat_cons]
        rw [← t2] at t4
        exact t4.trans i4
    · rw [hashesS_not b w (n + 1) p e he] at h
      exact absurd h he
theorem hashes_back (b : ByteArray) (w : Nat) : ∀ (l : List ByteArray) (p : Nat), (∀ x ∈ l, x.size = w) → Sp b p (cat l) → hashesS b w l.length p 0 = (l, p + (cat l).length, 0) := by
  intro l
  induction l with
  | nil => intro p _ _; rfl
  | cons x l ih =>
    intro p hw h
    rw [cat_cons] at h ⊢
    have hx := hw x List.mem_cons_self
    have ht := take_back h.fst
    rw [hx] at ht
    have h2 := h.snd
    rw [bl_len, hx] at h2
    have hi := ih (p + w) (fun y hy => hw y (List.mem_cons_of_mem _ hy)) h2
    rw [List.length_cons, hashesS, if_neg (by decide), ht]
    show (x :: (hashesS b w l.length (p + w) 0).1, (hashesS b w l.length (p + w) 0).2) = _
    rw [hi, List.length_append, bl_len, hx, Nat.add_assoc]
theorem leaf_len (x : ByteArray) : leafB x = bl (putB x.size) ++ bl x := rfl
theorem leaves_only (b : ByteArray) (n : Nat) : ∀ (p : Nat) (e : Int), p ≤ b.size → (leavesS b n p e).2.2 = 0 →
    e = 0 ∧ (leavesS b n p e).1.length = n ∧ (∀ x ∈ (leavesS b n p e).1, x.size ≤ 4096) ∧ Rn b p (leavesS b n p e).2.1 ((leavesS b n p e).1.flatMap leafB) := by
  induction n with
  | zero => intro p e hp h; exact ⟨h, rfl, fun x hx => absurd hx (List.not_mem_nil), Rn.refl hp⟩
  | succ n ih =>
    intro p e hp h
    rw [leavesS] at h ⊢
    obtain ⟨v, q, f, H1⟩ : ∃ v q f, mostS b 4096 121 p e = (v, q, f) := ⟨_, _, _, rfl⟩
    have M := most_only b 4096 121 p e hp (by decide)
    rw [H1] at h M ⊢
    obtain ⟨s, r, g, H2⟩ : ∃ s r g, takeS b v.toNat q f = (s, r, g) := ⟨_, _, _, rfl⟩
    have T := take_only b v.toNat q f
    change (leavesS b n (takeS b v.toNat q f).2.1 (takeS b v.toNat q f).2.2).2.2 = 0 at h
    show e = 0 ∧ ((takeS b v.toNat q f).1 :: (leavesS b n (takeS b v.toNat q f).2.1 (takeS b v.toNat q f).2.2).1).length = n + 1 ∧ (∀ x ∈ ((takeS b v.toNat q f).1 :: (leavesS b n (takeS b v.toNat q f).2.1 (takeS b v.toNat q f).2.2).1), x.size ≤ 4096) ∧ Rn b p (leavesS b n (takeS b v.toNat q f).2.1 (takeS b v.toNat q f).2.2).2.1 (((takeS b v.toNat q f).1 :: (leavesS b n (takeS b v.toNat q f).2.1 (takeS b v.toNat q f).2.2).1).flatMap leafB)
    rw [H2] at h T ⊢
    have hg : g = 0 := by
      by_cases hz : g = 0
      · exact hz
      · have h' : (leavesS b n r g).2.2 = 0 := h
        rw [leavesS_not b n r g hz] at h'
        exact h'
    have hf : f = 0 := by
      by_cases hz : f = 0
      · exact hz
      · rw [takeS_not b _ q f hz] at H2
        injection H2 with _ H2
        injection H2 with _ H2
        omega
    obtain ⟨m1, m2, m3, m4⟩ := M hf
    obtain ⟨_, t2, t3, t4⟩ := T m4.2.1 hg
    have t2' : r = q + v.toNat := t2
    have t3' : s.size = v.toNat := t3
    have hr : r ≤ b.size := by rw [t2']; exact t4.2.1
    obtain ⟨_, i2, i3, i4⟩ := ih r g hr h
    refine ⟨m1, by rw [List.length_cons, i2], ?_, ?_⟩
    · intro x hx
      rcases List.mem_cons.1 hx with hx | hx
      · have m3' : v ≤ 4096 := m3
        rw [hx]
        show s.size ≤ 4096
        omega
      · exact i3 x hx
    · rw [List.flatMap_cons, leaf_len]
      have m2' : 0 ≤ v := m2
      have hv : ((s.size : Nat) : Int) = v := by omega
      show Rn b p _ (bl (putB (s.size : Int)) ++ bl s ++ _)
      rw [hv]
      rw [← t2'] at t4
      exact (m4.trans t4).trans i4
theorem leaves_back (b : ByteArray) : ∀ (l : List ByteArray) (p : Nat), (∀ x ∈ l, x.size ≤ 4096) → Sp b p (l.flatMap leafB) → leavesS b l.length p 0 = (l, p + (l.flatMap leafB).length, 0) := by
  intro l
  induction l with
  | nil => intro p _ _; rfl
  | cons x l ih =>
    intro p hw h
    rw [List.flatMap_cons, leaf_len] at h ⊢
    have hx := hw x List.mem_cons_self
    have hm := most_back (b := b) (p := p) (v := x.size) (m := 4096) 121 (by omega) (by omega) (by decide) h.fst.fst
    have h2 := h.fst.snd
    have ht := take_back h2
    have h3 := h.snd
    rw [bl_len] at ht
    rw [List.length_append, bl_len, bl_len] at h3
    have hi := ih _ (fun y hy => hw y (List.mem_cons_of_mem _ hy)) h3
    rw [List.length_cons, leavesS, hm]
    show ((takeS b (x.size : Int).toNat (p + (putB x.size).size) 0).1 :: (leavesS b l.length (takeS b (x.size : Int).toNat (p + (putB x.size).size) 0).2.1 (takeS b (x.size : Int).toNat (p + (putB x.size).size) 0).2.2).1, (leavesS b l.length (takeS b (x.size : Int).toNat (p + (putB x.size).size) 0).2.1 (takeS b (x.size : Int).toNat (p + (putB x.size).size) 0).2.2).2) = _
    rw [Int.toNat_natCast, ht]
    show (x :: (leavesS b l.length (p + (putB x.size).size + x.size) 0).1, (leavesS b l.length (p + (putB x.size).size + x.size) 0).2) = _
    rw [Nat.add_assoc, hi, List.length_append, List.length_append, bl_len, bl_len, Nat.add_assoc]
theorem end_only (b : ByteArray) (p : Nat) (e : Int) (hp : p ≤ b.size) (h : endS b p e = 0) : e = 0 ∧ p = b.size := by
  unfold endS at h
  split at h
  · exact (refu_zero_only _ _ (by decide) h).elim
  · exact ⟨h, by omega⟩
theorem end_at (b : ByteArray) : endS b b.size 0 = 0 := by unfold endS; rw [if_neg (by omega)]
theorem end_past (b : ByteArray) (p : Nat) (h : p < b.size) : endS b p 0 = 111 := by unfold endS; rw [if_pos h]; rfl

-- leaves, whole
theorem leavesB_is (l : List ByteArray) : leavesB l = [UInt8.ofNat (76 : Int).toNat] ++ (bl (putB l.length) ++ l.flatMap leafB) := rfl
theorem unLeaves_back (b : ByteArray) (l : List ByteArray) (r : List UInt8) (h : bl b = leavesB l ++ r) (hl : l.length ≤ 1024) (hs : ∀ x ∈ l, x.size ≤ 4096) : unLeavesS b = (l, (leavesB l).length, 0) := by
  have h0 := Sp.of h
  rw [leavesB_is] at h0 ⊢
  have hm := mark_back h0.fst
  have h1 := h0.snd
  have hn := most_back (b := b) (v := l.length) (m := 1024) 83 (by omega) (by omega) (by decide) h1.fst
  have h2 := h1.snd
  rw [bl_len] at h2
  have hi := leaves_back b l _ hs h2
  simp only [List.length_singleton, Nat.zero_add] at hm hn hi
  unfold unLeavesS
  rw [hm]
  show leavesS b (mostS b 1024 83 1 0).1.toNat (mostS b 1024 83 1 0).2.1 (mostS b 1024 83 1 0).2.2 = _
  rw [hn]
  show leavesS b (l.length : Int).toNat _ _ = _
  rw [Int.toNat_natCast, hi, List.length_append, List.length_append, bl_len, List.length_singleton]
  simp only [Nat.add_assoc]
theorem unLeaves_only (b : ByteArray) (h : unLeavesE b = 0) : bl b = leavesB (unLeavesS b).1 ∧ (unLeavesS b).1.length ≤ 1024 ∧ (∀ x ∈ (unLeavesS b).1, x.size ≤ 4096) := by
  have hok : Ok b 0 0 := ⟨Nat.zero_le _, by decide, by decide⟩
  have k1 := mark_ok b 76 0 0 hok
  have k2 := (most_ok b 1024 83 _ _ k1 (by decide)).1
  have k3 := (leaves_ok b (mostS b 1024 83 (markS b 76 0 0).1 (markS b 76 0 0).2).1.toNat _ _ k2).1
  obtain ⟨e1, e2⟩ := end_only b _ _ k3.1 h
  obtain ⟨l1, l2, l3, l4⟩ := leaves_only b _ _ _ k2.1 e1
  obtain ⟨m1, m2, m3, m4⟩ := most_only b 1024 83 _ _ k1.1 (by decide) l1
  obtain ⟨_, a2⟩ := mark_only b 76 0 0 hok.1 m1
  have e2' : (unLeavesS b).2.1 = b.size := e2
  have hr := (a2.trans m4).trans l4
  have l2' : (unLeavesS b).1.length = (mostS b 1024 83 (markS b 76 0 0).1 (markS b 76 0 0).2).1.toNat := l2
  refine ⟨?_, by omega, l3⟩
  have hr' : Rn b 0 (unLeavesS b).2.1 (([UInt8.ofNat (76 : Int).toNat] ++ bl (putB (mostS b 1024 83 (markS b 76 0 0).1 (markS b 76 0 0).2).1)) ++ (unLeavesS b).1.flatMap leafB) := hr
  rw [e2'] at hr'
  rw [hr'.whole, leavesB_is, show (((unLeavesS b).1.length : Nat) : Int) = (mostS b 1024 83 (markS b 76 0 0).1 (markS b 76 0 0).2).1 by omega, List.append_assoc]
end Go.Proofs.YthpfgdhmpeadeaaDoor.e1

namespace Go.Proofs.YthpfgdhmpeadeaaDoor.e2
open Go.RowKit Go.PlainAid
open Go.Proofs.YthpfgdhmpeadeaaDoor.na Go.Proofs.YthpfgdhmpeadeaaDoor.nb Go.Proofs.YthpfgdhmpeadeaaDoor.nc Go.Proofs.YthpfgdhmpeadeaaDoor.nv Go.Proofs.YthpfgdhmpeadeaaDoor.ea Go.Proofs.YthpfgdhmpeadeaaDoor.mi Go.Proofs.YthpfgdhmpeadeaaDoor.co Go.Proofs.YthpfgdhmpeadeaaDoor.eo Go.Proofs.YthpfgdhmpeadeaaDoor.e1
set_option linter.unusedVariables false

-- what a proof is written as
def stL : Int → List Int → List Int
  | _, [] => []
  | x, y :: ys => (y - x) :: stL (y + 1) ys
def namedL (k a b n : Int) (at' : List Int) : List Int :=
  if k = 4 then ((at'.length : Int) :: stL 0 at') ++ [n] else if k = 3 then [a, b, n] else [a, n]
def proofB (k wd a b n : Int) (at' : List Int) (hs : List ByteArray) : List UInt8 :=
  [UInt8.ofNat (80 : Int).toNat] ++ ([UInt8.ofNat wd.toNat] ++ (bl (putB k) ++ (numsB (namedL k a b n at') ++ cat hs)))
def bareP (k a b : Int) (at' : List Int) : Prop := if k = 4 then a = 0 ∧ b = 0 else if k = 3 then at' = [] else b = 0 ∧ at' = []
structure Valid (k wd a b n : Int) (at' : List Int) (hs : List ByteArray) : Prop where
  w0 : 1 ≤ wd
  w1 : wd ≤ 32
  rf : ref9 k a b n at' = 0
  br : bareP k a b at'
  sz : ∀ x ∈ hs, (x.size : Int) = wd
  ln : hs.length = num9 k a b n at'
theorem stL_length (at' : List Int) : ∀ x, (stL x at').length = at'.length := by
  induction at' with
  | nil => intro x; rfl
  | cons y ys ih => intro x; rw [stL, List.length_cons, List.length_cons, ih]
theorem numsB_cons (v : Int) (l : List Int) : numsB (v :: l) = bl (putB v) ++ numsB l := by unfold numsB bl; rw [List.flatMap_cons]
theorem numsB_app (l m : List Int) : numsB (l ++ m) = numsB l ++ numsB m := by unfold numsB; rw [List.flatMap_append]
theorem numsB_nil : numsB [] = [] := rfl
theorem numsB_one' (v : Int) : numsB [v] = bl (putB v) := by rw [numsB_cons, numsB_nil, List.append_nil]
-- places
def Rz : Int → List Int → Prop
  | _, [] => True
  | x, y :: ys => x ≤ y ∧ y ≤ MX ∧ Rz (y + 1) ys
theorem pl_only (b : ByteArray) (n : Nat) : ∀ (x : Int) (p : Nat) (e : Int), p ≤ b.size → (plS b n x p e).2.2 = 0 →
    e = 0 ∧ (plS b n x p e).1.length = n ∧ Rn b p (plS b n x p e).2.1 (numsB (stL x (plS b n x p e).1)) := by
  induction n with
  | zero => intro x p e hp h; exact ⟨h, rfl, Rn.refl hp⟩
  | succ n ih =>
    intro x p e hp h
    rw [plS] at h ⊢
    have M := most_only b (MX - x) 10 p e hp (by decide)
    obtain ⟨v, q, f, H1⟩ : ∃ v q f, mostS b (MX - x) 10 p e = (v, q, f) := ⟨_, _, _, rfl⟩
    rw [H1] at h M ⊢
    change (plS b n (x + v + 1) q f).2.2 = 0 at h
    show e = 0 ∧ ((x + v) :: (plS b n (x + v + 1) q f).1).length = n + 1 ∧ Rn b p (plS b n (x + v + 1) q f).2.1 (numsB (stL x ((x + v) :: (plS b n (x + v + 1) q f).1)))
    have hf : f = 0 := by
      by_cases hz : f = 0
      · exact hz
      · rw [plS_not b n _ q f hz] at h; exact h
    obtain ⟨m1, m2, m3, m4⟩ := M hf
    obtain ⟨_, i2, i3⟩ := ih (x + v + 1) q f m4.2.1 h
    refine ⟨m1, by rw [List.length_cons, i2], ?_⟩
    rw [stL, numsB_cons, show x + v - x = v by omega]
    exact m4.trans i3
theorem pl_back (b : ByteArray) : ∀ (l : List Int) (x : Int) (p : Nat), 0 ≤ x → Rz x l → Sp b p (numsB (stL x l)) → plS b l.length x p 0 = (l, p + (numsB (stL x l)).length, 0) := by
  intro l
  induction l with
  | nil => intro x p _ _ _; rfl
  | cons y ys ih =>
    intro x p hx0 hr h
    obtain ⟨r1, r2, r3⟩ := hr
    rw [stL, numsB_cons] at h ⊢
    have hMX : MX = 4611686018427387904 := rfl
    have hm := most_back (b := b) (p := p) (v := y - x) (m := MX - x) 10 (by omega) (by omega) (by omega) h.fst
    have h2 := h.snd
    rw [bl_len] at h2
    have hi := ih (y + 1) _ (by omega) r3 h2
    rw [List.length_cons, plS, hm]
    show ((x + (y - x)) :: (plS b ys.length (x + (y - x) + 1) (p + (putB (y - x)).size) 0).1, (plS b ys.length (x + (y - x) + 1) (p + (putB (y - x)).size) 0).2) = _
    rw [show x + (y - x) = y by omega, hi, List.length_append, bl_len, Nat.add_assoc]
theorem rz_of (xs : List Int) : ∀ (x : Int), (∀ j, j < xs.length → x ≤ xs.getD j 0 ∧ xs.getD j 0 ≤ MX) → (∀ j, j + 1 < xs.length → xs.getD j 0 < xs.getD (j + 1) 0) → Rz x xs := by
  induction xs with
  | nil => intro x _ _; trivial
  | cons y ys ih =>
    intro x h1 h2
    have h0 := h1 0 (by simp)
    have h0' : x ≤ y ∧ y ≤ MX := by simpa using h0
    refine ⟨h0'.1, h0'.2, ih (y + 1) ?_ ?_⟩
    · have key : ∀ j, j < ys.length → y + 1 ≤ ys.getD j 0 := by
        intro j
        induction j with
        | zero =>
          intro hj
          have := h2 0 (by rw [List.length_cons]; omega)
          have e1 : (y :: ys).getD 0 0 = y := rfl
          have e2 : (y :: ys).getD (0 + 1) 0 = ys.getD 0 0 := rfl
          omega
        | succ j ihj =>
          intro hj
          have := h2 (j + 1) (by rw [List.length_cons]; omega)
          have e1 : (y :: ys).getD (j + 1) 0 = ys.getD j 0 := rfl
          have e2 : (y :: ys).getD (j + 1 + 1) 0 = ys.getD (j + 1) 0 := rfl
          have := ihj (by omega)
          omega
      intro j hj
      have h3 := h1 (j + 1) (by rw [List.length_cons]; omega)
      have e1 : (y :: ys).getD (j + 1) 0 = ys.getD j 0 := rfl
      exact ⟨key j hj, by omega⟩
    · intro j hj
      have := h2 (j + 1) (by rw [List.length_cons]; omega)
      exact this
-- the kind
theorem kind_only (b : ByteArray) (p : Nat) (e : Int) (hp : p ≤ b.size) (h : (kindS b p e).2.2 = 0) :
    e = 0 ∧ 1 ≤ (kindS b p e).1 ∧ (kindS b p e).1 ≤ 4 ∧ Rn b p (kindS b p e).2.1 (bl (putB (kindS b p e).1)) := by
  have h' : (if (mostS b 4 110 p e).1 < 1 then refu (mostS b 4 110 p e).2.2 110 else (mostS b 4 110 p e).2.2) = 0 := h
  show e = 0 ∧ 1 ≤ (mostS b 4 110 p e).1 ∧ (mostS b 4 110 p e).1 ≤ 4 ∧ Rn b p (mostS b 4 110 p e).2.1 (bl (putB (mostS b 4 110 p e).1))
  split at h'
  · exact (refu_zero_only _ _ (by decide) h').elim
  · obtain ⟨m1, m2, m3, m4⟩ := most_only b 4 110 p e hp (by decide) h'
    exact ⟨m1, by omega, m3, m4⟩
theorem kind_back {b : ByteArray} {p : Nat} {k : Int} (h0 : 1 ≤ k) (h1 : k ≤ 4) (h : Sp b p (bl (putB k))) : kindS b p 0 = (k, p + (putB k).size, 0) := by
  have hm := most_back (b := b) (p := p) (v := k) (m := 4) 110 (by omega) h1 (by decide) h
  unfold kindS
  rw [hm]
  show (k, p + (putB k).size, if k < 1 then refu 0 110 else (0 : Int)) = _
  rw [if_neg (by omega)]
-- the numbers that a kind names
theorem most_zero {b : ByteArray} {m f : Int} {p : Nat} {e : Int} (h : (mostS b m f p e).2.2 = 0) : e = 0 := by
  by_cases hz : e = 0
  · exact hz
  · rw [mostS_not b m f p e hz] at h; exact h
theorem sh1_only (b : ByteArray) (p : Nat) (e : Int) (hp : p ≤ b.size) (h : (sh1 b p e).e = 0) :
    e = 0 ∧ Rn b p (sh1 b p e).p (numsB [(sh1 b p e).a, (sh1 b p e).n]) := by
  have h' : (mostS b MX 10 (mostS b MX 10 p e).2.1 (mostS b MX 10 p e).2.2).2.2 = 0 := h
  have hf := most_zero h'
  obtain ⟨m1, m2, m3, m4⟩ := most_only b MX 10 p e hp (by decide) hf
  obtain ⟨n1, n2, n3, n4⟩ := most_only b MX 10 _ _ m4.2.1 (by decide) h'
  refine ⟨m1, ?_⟩
  rw [numsB_cons, numsB_one']
  exact m4.trans n4
theorem sh3_only (b : ByteArray) (p : Nat) (e : Int) (hp : p ≤ b.size) (h : (sh3 b p e).e = 0) :
    e = 0 ∧ Rn b p (sh3 b p e).p (numsB [(sh3 b p e).a, (sh3 b p e).b, (sh3 b p e).n]) := by
  have h' : (sh1 b (mostS b MX 10 p e).2.1 (mostS b MX 10 p e).2.2).e = 0 := h
  have hok : (mostS b MX 10 p e).2.2 = 0 := by
    have h2 : (mostS b MX 10 (mostS b MX 10 (mostS b MX 10 p e).2.1 (mostS b MX 10 p e).2.2).2.1 (mostS b MX 10 (mostS b MX 10 p e).2.1 (mostS b MX 10 p e).2.2).2.2).2.2 = 0 := h'
    exact most_zero (most_zero h2)
  obtain ⟨m1, m2, m3, m4⟩ := most_only b MX 10 p e hp (by decide) hok
  obtain ⟨_, n2⟩ := sh1_only b _ _ m4.2.1 h'
  refine ⟨m1, ?_⟩
  rw [numsB_cons]
  exact m4.trans n2
theorem sh4_only (b : ByteArray) (p : Nat) (e : Int) (hp : p ≤ b.size) (h : (sh4 b p e).e = 0) :
    e = 0 ∧ Rn b p (sh4 b p e).p (numsB (((((sh4 b p e).at'.length : Nat) : Int) :: stL 0 (sh4 b p e).at') ++ [(sh4 b p e).n])) := by
  have M := most_only b 1024 83 p e hp (by decide)
  unfold sh4 at h ⊢
  obtain ⟨v, q, f, H1⟩ : ∃ v q f, mostS b 1024 83 p e = (v, q, f) := ⟨_, _, _, rfl⟩
  rw [H1] at h M ⊢
  have P := pl_only b v.toNat 0 q f
  change (mostS b MX 10 (plS b v.toNat 0 q f).2.1 (plS b v.toNat 0 q f).2.2).2.2 = 0 at h
  show e = 0 ∧ Rn b p (mostS b MX 10 (plS b v.toNat 0 q f).2.1 (plS b v.toNat 0 q f).2.2).2.1 (numsB (((((plS b v.toNat 0 q f).1.length : Nat) : Int) :: stL 0 (plS b v.toNat 0 q f).1) ++ [(mostS b MX 10 (plS b v.toNat 0 q f).2.1 (plS b v.toNat 0 q f).2.2).1]))
  have hp2 := most_zero h
  have hf : f = 0 := by
    by_cases hz : f = 0
    · exact hz
    · rw [plS_not b v.toNat 0 q f hz] at hp2; exact hp2
  obtain ⟨m1, m2, m3, m4⟩ := M hf
  have m2' : 0 ≤ v := m2
  obtain ⟨_, i2, i3⟩ := P m4.2.1 hp2
  obtain ⟨_, n2, n3, n4⟩ := most_only b MX 10 _ _ i3.2.1 (by decide) h
  refine ⟨m1, ?_⟩
  rw [i2, show ((v.toNat : Nat) : Int) = v by omega, numsB_app, numsB_cons, numsB_one']
  exact (m4.trans i3).trans n4
theorem sh_only (b : ByteArray) (k : Int) (p : Nat) (e : Int) (hp : p ≤ b.size) (h : (shS b k p e).e = 0) :
    e = 0 ∧ Rn b p (shS b k p e).p (numsB (namedL k (shS b k p e).a (shS b k p e).b (shS b k p e).n (shS b k p e).at')) ∧ bareP k (shS b k p e).a (shS b k p e).b (shS b k p e).at' := by
  unfold shS at h ⊢
  unfold namedL bareP
  by_cases k4 : k = 4
  · rw [if_pos k4] at h
    simp only [if_pos k4]
    obtain ⟨h1, h2⟩ := sh4_only b p e hp h
    exact ⟨h1, h2, rfl, rfl⟩
  · rw [if_neg k4] at h
    simp only [if_neg k4]
    by_cases k3 : k = 3
    · rw [if_pos k3] at h
      simp only [if_pos k3]
      obtain ⟨h1, h2⟩ := sh3_only b p e hp h
      exact ⟨h1, h2, rfl⟩
    · rw [if_neg k3] at h
      simp only [if_neg k3]
      obtain ⟨h1, h2⟩ := sh1_only b p e hp h
      exact ⟨h1, h2, rfl, rfl⟩
theorem sh1_back {b : ByteArray} {p : Nat} {a n : Int} (ha : 0 ≤ a ∧ a ≤ MX) (hn : 0 ≤ n ∧ n ≤ MX) (h : Sp b p (numsB [a, n])) : sh1 b p 0 = ⟨a, 0, n, [], p + (numsB [a, n]).length, 0⟩ := by
  rw [numsB_cons, numsB_one'] at h ⊢
  have m1 := most_back (b := b) (p := p) (v := a) (m := MX) 10 ha.1 ha.2 (by decide) h.fst
  have h2 := h.snd
  rw [bl_len] at h2
  have m2 := most_back (b := b) (v := n) (m := MX) 10 hn.1 hn.2 (by decide) h2
  unfold sh1
  rw [m1]
  show Sh.mk a 0 (mostS b MX 10 (p + (putB a).size) 0).1 [] (mostS b MX 10 (p + (putB a).size) 0).2.1 (mostS b MX 10 (p + (putB a).size) 0).2.2 = _
  rw [m2, List.length_append, bl_len, bl_len, Nat.add_assoc]
theorem sh3_back {b : ByteArray} {p : Nat} {a c n : Int} (ha : 0 ≤ a ∧ a ≤ MX) (hc : 0 ≤ c ∧ c ≤ MX) (hn : 0 ≤ n ∧ n ≤ MX) (h : Sp b p (numsB [a, c, n])) : sh3 b p 0 = ⟨a, c, n, [], p + (numsB [a, c, n]).length, 0⟩ := by
  rw [numsB_cons] at h ⊢
  have m1 := most_back (b := b) (p := p) (v := a) (m := MX) 10 ha.1 ha.2 (by decide) h.fst
  have h2 := h.snd
  rw [bl_len] at h2
  have m2 := sh1_back hc hn h2
  unfold sh3
  rw [m1]
  show Sh.mk a (sh1 b (p + (putB a).size) 0).a (sh1 b (p + (putB a).size) 0).n [] (sh1 b (p + (putB a).size) 0).p (sh1 b (p + (putB a).size) 0).e = _
  rw [m2, List.length_append, bl_len, Nat.add_assoc]
theorem sh4_back {b : ByteArray} {p : Nat} {n : Int} {xs : List Int} (hl : xs.length ≤ 1024) (hr : Rz 0 xs) (hn : 0 ≤ n ∧ n ≤ MX) (h : Sp b p (numsB (((xs.length : Int) :: stL 0 xs) ++ [n]))) : sh4 b p 0 = ⟨0, 0, n, xs, p + (numsB (((xs.length : Int) :: stL 0 xs) ++ [n])).length, 0⟩ := by
  rw [numsB_app, numsB_cons, numsB_one'] at h ⊢
  have m1 := most_back (b := b) (p := p) (v := xs.length) (m := 1024) 83 (by omega) (by omega) (by decide) h.fst.fst
  have h2 := h.fst.snd
  rw [bl_len] at h2
  have m2 := pl_back b xs 0 _ (by omega) hr h2
  have h3 := h.snd
  rw [List.length_append, bl_len] at h3
  have m3 := most_back (b := b) (v := n) (m := MX) 10 hn.1 hn.2 (by decide) h3
  unfold sh4
  rw [m1]
  show Sh.mk 0 0 (mostS b MX 10 (plS b (xs.length : Int).toNat 0 (p + (putB xs.length).size) 0).2.1 (plS b (xs.length : Int).toNat 0 (p + (putB xs.length).size) 0).2.2).1
    (plS b (xs.length : Int).toNat 0 (p + (putB xs.length).size) 0).1
    (mostS b MX 10 (plS b (xs.length : Int).toNat 0 (p + (putB xs.length).size) 0).2.1 (plS b (xs.length : Int).toNat 0 (p + (putB xs.length).size) 0).2.2).2.1
    (mostS b MX 10 (plS b (xs.length : Int).toNat 0 (p + (putB xs.length).size) 0).2.1 (plS b (xs.length : Int).toNat 0 (p + (putB xs.length).size) 0).2.2).2.2 = _
  rw [Int.toNat_natCast, m2]
  show Sh.mk 0 0 (mostS b MX 10 (p + (putB xs.length).size + (numsB (stL 0 xs)).length) 0).1 xs (mostS b MX 10 (p + (putB xs.length).size + (numsB (stL 0 xs)).length) 0).2.1 (mostS b MX 10 (p + (putB xs.length).size + (numsB (stL 0 xs)).length) 0).2.2 = _
  rw [Nat.add_assoc, m3, List.length_append, List.length_append, bl_len, bl_len]
  simp only [Nat.add_assoc]
-- the numbers of a shape that goes are within their bounds
theorem ref_bounds {k a b n : Int} {xs : List Int} (h : ref9 k a b n xs = 0) : 1 ≤ k ∧ k ≤ 4 ∧ (0 ≤ n ∧ n ≤ MX) ∧ (k ≠ 4 → 0 ≤ a ∧ a ≤ MX) ∧ (k = 3 → 0 ≤ b ∧ b ≤ MX) ∧ (k = 4 → xs.length ≤ 1024 ∧ Rz 0 xs) := by
  have hMX : MX = 4611686018427387904 := rfl
  unfold ref9 at h
  by_cases k1 : k < 1 ∨ 4 < k
  · rw [if_pos k1] at h; omega
  rw [if_neg k1] at h
  by_cases k2 : n < 0 ∨ 4611686018427387904 < n
  · rw [if_pos k2] at h; omega
  rw [if_neg k2] at h
  by_cases e1 : k = 1
  · rw [if_pos e1] at h
    by_cases g : a < 0 ∨ n ≤ a
    · rw [if_pos g] at h; omega
    · exact ⟨by omega, by omega, by omega, fun _ => by omega, fun _ => by omega, fun _ => by omega⟩
  rw [if_neg e1] at h
  by_cases e2 : k = 2
  · rw [if_pos e2] at h
    by_cases g : a < 0 ∨ n < a
    · rw [if_pos g] at h; omega
    · exact ⟨by omega, by omega, by omega, fun _ => by omega, fun _ => by omega, fun _ => by omega⟩
  rw [if_neg e2] at h
  by_cases e3 : k = 3
  · rw [if_pos e3] at h
    by_cases g : a < 0 ∨ b ≤ a ∨ n < b
    · rw [if_pos g] at h; omega
    · exact ⟨by omega, by omega, by omega, fun _ => by omega, fun _ => by omega, fun _ => by omega⟩
  rw [if_neg e3] at h
  obtain ⟨z1, z2, z3, z4⟩ := places_ok h
  exact ⟨by omega, by omega, by omega, fun _ => by omega, fun _ => by omega, fun _ => ⟨z2, rz_of xs 0 (fun j hj => ⟨(z3 j hj).1, by have := (z3 j hj).2; omega⟩) z4⟩⟩
theorem sh_back {b : ByteArray} {p : Nat} {k a c n : Int} {xs : List Int} (hr : ref9 k a c n xs = 0) (hb : bareP k a c xs) (h : Sp b p (numsB (namedL k a c n xs))) : shS b k p 0 = ⟨a, c, n, xs, p + (numsB (namedL k a c n xs)).length, 0⟩ := by
  obtain ⟨k1, k2, hn, ha, hc, hx⟩ := ref_bounds hr
  unfold shS
  unfold namedL at h ⊢
  unfold bareP at hb
  by_cases k4 : k = 4
  · rw [if_pos k4] at h hb
    simp only [if_pos k4]
    obtain ⟨rfl, rfl⟩ := hb
    exact sh4_back (hx k4).1 (hx k4).2 hn h
  · rw [if_neg k4] at h hb
    simp only [if_neg k4]
    by_cases k3 : k = 3
    · rw [if_pos k3] at h hb
      simp only [if_pos k3]
      subst hb
      exact sh3_back (ha k4) (hc k3) hn h
    · rw [if_neg k3] at h hb
      simp only [if_neg k3]
      obtain ⟨rfl, rfl⟩ := hb
      exact sh1_back (ha k4) hn h
-- a proof, whole
theorem proof_back (bb : ByteArray) (k wd a c n : Int) (xs : List Int) (hs : List ByteArray) (r : List UInt8) (hv : Valid k wd a c n xs hs) (h : bl bb = proofB k wd a c n xs hs ++ r) :
    (pW bb).1 = wd ∧ (pK bb).1 = k ∧ (pSh bb).a = a ∧ (pSh bb).b = c ∧ (pSh bb).n = n ∧ (pSh bb).at' = xs ∧ pHs bb = (hs, (proofB k wd a c n xs hs).length, 0) := by
  have h0 := Sp.of h
  unfold proofB at h0 ⊢
  obtain ⟨k1, k2, hn, _, _, _⟩ := ref_bounds hv.rf
  have hm := mark_back h0.fst
  have h1 := h0.snd
  have hw := width_back hv.w0 hv.w1 h1.fst
  have h2 := h1.snd
  have hk := kind_back k1 k2 h2.fst
  have h3 := h2.snd
  rw [bl_len] at h3
  have hh := sh_back hv.rf hv.br h3.fst
  have h4 := h3.snd
  have hz := hashes_back bb wd.toNat hs _ (fun x hx => by have := hv.sz x hx; omega) h4
  simp only [List.length_singleton, Nat.zero_add] at hm hw hk hh hz
  have eW : pW bb = (wd, 1 + 1, 0) := by unfold pW; rw [hm]; exact hw
  have eK : pK bb = (k, 1 + 1 + (putB k).size, 0) := by unfold pK; rw [eW]; exact hk
  have eS : pSh bb = ⟨a, c, n, xs, 1 + 1 + (putB k).size + (numsB (namedL k a c n xs)).length, 0⟩ := by unfold pSh; rw [eK]; exact hh
  have eC : pCt bb = (((num9 k a c n xs : Nat) : Int), 0) := by unfold pCt; rw [eK, eS]; show cnt9 k a c n xs = _; unfold cnt9; rw [if_pos hv.rf]
  refine ⟨by rw [eW], by rw [eK], by rw [eS], by rw [eS], by rw [eS], by rw [eS], ?_⟩
  unfold pHs
  rw [eW, eS, eC]
  show hashesS bb wd.toNat ((num9 k a c n xs : Nat) : Int).toNat (1 + 1 + (putB k).size + (numsB (namedL k a c n xs)).length) 0 = _
  rw [Int.toNat_natCast, ← hv.ln, hz]
  simp only [List.length_append, bl_len, List.length_singleton, Nat.add_assoc]
theorem proof_only (bb : ByteArray) (h : pE bb = 0) :
    Valid (pK bb).1 (pW bb).1 (pSh bb).a (pSh bb).b (pSh bb).n (pSh bb).at' (pHs bb).1 ∧ bl bb = proofB (pK bb).1 (pW bb).1 (pSh bb).a (pSh bb).b (pSh bb).n (pSh bb).at' (pHs bb).1 := by
  have k0 := ok0 bb
  have k1 := mark_ok bb 80 0 0 k0
  have k2 := pW_ok bb
  have k3 := pK_ok bb
  have k4 := pSh_ok bb
  have k5 := pRf_ok bb
  have k6 := pHs_ok bb
  obtain ⟨e1, e2⟩ := end_only bb _ _ k6.1 h
  obtain ⟨h1, h2, h3, h4⟩ := hashes_only bb _ _ _ _ k4.1 e1
  have hse : (pSh bb).e = 0 := by
    by_cases hz : (pSh bb).e = 0
    · exact hz
    · rw [refu_not _ _ hz] at h1; exact h1
  have hce : (pCt bb).2 = 0 := by rw [hse, refu_zero] at h1; exact h1
  have hrf : ref9 (pK bb).1 (pSh bb).a (pSh bb).b (pSh bb).n (pSh bb).at' = 0 := by
    have : (cnt9 (pK bb).1 (pSh bb).a (pSh bb).b (pSh bb).n (pSh bb).at').2 = 0 := hce
    unfold cnt9 at this
    split at this
    · assumption
    · exact this
  have hcn : pCt bb = (((num9 (pK bb).1 (pSh bb).a (pSh bb).b (pSh bb).n (pSh bb).at' : Nat) : Int), 0) := by
    show cnt9 _ _ _ _ _ = _
    unfold cnt9; rw [if_pos hrf]
  obtain ⟨s1, s2, s3⟩ := sh_only bb _ _ _ k3.1 hse
  obtain ⟨n1, n2, n3, n4⟩ := kind_only bb _ _ k2.1 s1
  obtain ⟨w1, w2, w3, w4⟩ := width_only bb _ _ k1.1 n1
  obtain ⟨_, a2⟩ := mark_only bb 80 0 0 k0.1 w1
  have w2' : 1 ≤ (pW bb).1 := w2
  refine ⟨⟨w2, w3, hrf, s3, fun x hx => by have := h3 x hx; have e : x.size = (pW bb).1.toNat := this; omega, ?_⟩, ?_⟩
  · have : (pHs bb).1.length = (pCt bb).1.toNat := h2
    rw [this, hcn]
    show ((num9 _ _ _ _ _ : Nat) : Int).toNat = _
    rw [Int.toNat_natCast]
  · have hr := a2.trans (w4.trans (n4.trans (s2.trans h4)))
    have e2' : (pHs bb).2.1 = bb.size := e2
    have hr' : Rn bb 0 (pHs bb).2.1 (proofB (pK bb).1 (pW bb).1 (pSh bb).a (pSh bb).b (pSh bb).n (pSh bb).at' (pHs bb).1) := hr
    rw [e2'] at hr'
    exact hr'.whole
-- no proof's bytes begin another's
theorem proof_ext (x y : ByteArray) (r : List UInt8) (hx : pE x = 0) (h : bl y = bl x ++ r) (hy : pE y = 0) : r = [] := by
  obtain ⟨v, e⟩ := proof_only x hx
  rw [e] at h
  obtain ⟨_, _, _, _, _, _, h7⟩ := proof_back y _ _ _ _ _ _ _ r v h
  obtain ⟨_, e2⟩ := end_only y _ _ (pHs_ok y).1 hy
  rw [h7] at e2
  have e3 := congrArg List.length h
  rw [bl_len, List.length_append] at e3
  have e2' : (proofB (pK x).1 (pW x).1 (pSh x).a (pSh x).b (pSh x).n (pSh x).at' (pHs x).1).length = y.size := e2
  exact List.length_eq_zero_iff.1 (by omega)
end Go.Proofs.YthpfgdhmpeadeaaDoor.e2

namespace Go.Proofs.YthpfgdhmpeadeaaDoor.e3
open Go.RowKit Go.PlainAid
open Go.Proofs.YthpfgdhmpeadeaaDoor.na Go.Proofs.YthpfgdhmpeadeaaDoor.nb Go.Proofs.YthpfgdhmpeadeaaDoor.nc Go.Proofs.YthpfgdhmpeadeaaDoor.nv Go.Proofs.YthpfgdhmpeadeaaDoor.ea Go.Proofs.YthpfgdhmpeadeaaDoor.eo Go.Proofs.YthpfgdhmpeadeaaDoor.ej Go.Proofs.YthpfgdhmpeadeaaDoor.ek Go.Proofs.YthpfgdhmpeadeaaDoor.e1 Go.Proofs.YthpfgdhmpeadeaaDoor.e2
set_option linter.unusedVariables false

-- a tile's hashes, whole
def rowB (wd : Int) (l : List ByteArray) : List UInt8 := [UInt8.ofNat (72 : Int).toNat] ++ ([UInt8.ofNat wd.toNat] ++ (bl (putB l.length) ++ cat l))
theorem hashT_is (wd : Int) (l : List ByteArray) : bl (hashT wd l) = rowB (widI wd) l := by
  unfold hashT rowB
  rw [bl_app, bl_app, bl_app, bl_one, bl_of]
  show (([72] ++ _) ++ _) ++ _ = _
  rw [List.append_assoc, List.append_assoc]
  rfl
theorem row_back (bb : ByteArray) (wd : Int) (l : List ByteArray) (r : List UInt8) (h0 : 1 ≤ wd) (h1 : wd ≤ 32) (hl : l.length ≤ 256) (hz : ∀ x ∈ l, (x.size : Int) = wd) (h : bl bb = rowB wd l ++ r) :
    (hW bb).1 = wd ∧ hS bb = (l, (rowB wd l).length, 0) := by
  have g0 := Sp.of h
  unfold rowB at g0 ⊢
  have hm := mark_back g0.fst
  have g1 := g0.snd
  have hw := width_back h0 h1 g1.fst
  have g2 := g1.snd
  have hn := most_back (b := bb) (v := l.length) (m := 256) 83 (by omega) (by omega) (by decide) g2.fst
  have g3 := g2.snd
  rw [bl_len] at g3
  have hs := hashes_back bb wd.toNat l _ (fun x hx => by have := hz x hx; omega) g3
  simp only [List.length_singleton, Nat.zero_add] at hm hw hn hs
  have eW : hW bb = (wd, 1 + 1, 0) := by unfold hW; rw [hm]; exact hw
  have eN : hN bb = ((l.length : Int), 1 + 1 + (putB l.length).size, 0) := by unfold hN; rw [eW]; exact hn
  refine ⟨by rw [eW], ?_⟩
  unfold hS
  rw [eW, eN]
  show hashesS bb wd.toNat (l.length : Int).toNat (1 + 1 + (putB l.length).size) 0 = _
  rw [Int.toNat_natCast, hs]
  simp only [List.length_append, bl_len, List.length_singleton, Nat.add_assoc]
theorem row_only (bb : ByteArray) (h : hE bb = 0) : 1 ≤ (hW bb).1 ∧ (hW bb).1 ≤ 32 ∧ (hS bb).1.length ≤ 256 ∧ (∀ x ∈ (hS bb).1, (x.size : Int) = (hW bb).1) ∧ bl bb = rowB (hW bb).1 (hS bb).1 := by
  have k0 := ok0 bb
  have k1 := mark_ok bb 72 0 0 k0
  have k2 := hW_ok bb
  have k3 := (hN_ok bb).1
  have k6 := (hS_ok bb).1
  obtain ⟨e1, e2⟩ := end_only bb _ _ k6.1 h
  obtain ⟨h1, h2, h3, h4⟩ := hashes_only bb _ _ _ _ k3.1 e1
  obtain ⟨n1, n2, n3, n4⟩ := most_only bb 256 83 _ _ k2.1 (by decide) h1
  obtain ⟨w1, w2, w3, w4⟩ := width_only bb _ _ k1.1 n1
  obtain ⟨_, a2⟩ := mark_only bb 72 0 0 k0.1 w1
  have w2' : 1 ≤ (hW bb).1 := w2
  have h2' : (hS bb).1.length = (hN bb).1.toNat := h2
  have n2' : 0 ≤ (hN bb).1 := n2
  have n3' : (hN bb).1 ≤ 256 := n3
  have hr : Rn bb 0 (hS bb).2.1 ([UInt8.ofNat (72 : Int).toNat] ++ ([UInt8.ofNat (hW bb).1.toNat] ++ (bl (putB (hN bb).1) ++ cat (hS bb).1))) := a2.trans (w4.trans (n4.trans h4))
  have e2' : (hS bb).2.1 = bb.size := e2
  rw [e2'] at hr
  refine ⟨w2, w3, by omega, fun x hx => by have := h3 x hx; have e : x.size = (hW bb).1.toNat := this; omega, ?_⟩
  rw [hr.whole, rowB, show (((hS bb).1.length : Nat) : Int) = (hN bb).1 by omega]
-- no bytes that are taken begin others that are taken
theorem row_ext (x y : ByteArray) (r : List UInt8) (hx : hE x = 0) (h : bl y = bl x ++ r) (hy : hE y = 0) : r = [] := by
  obtain ⟨v1, v2, v3, v4, e⟩ := row_only x hx
  rw [e] at h
  obtain ⟨_, h7⟩ := row_back y _ _ r v1 v2 v3 v4 h
  obtain ⟨_, e2⟩ := end_only y _ _ (hS_ok y).1.1 hy
  rw [h7] at e2
  have e3 := congrArg List.length h
  rw [bl_len, List.length_append] at e3
  have e2' : (rowB (hW x).1 (hS x).1).length = y.size := e2
  exact List.length_eq_zero_iff.1 (by omega)
theorem unLeaves_ok (b : ByteArray) : Ok b (unLeavesS b).2.1 (unLeavesS b).2.2 := (leaves_ok b _ _ _ (most_ok b 1024 83 _ _ (mark_ok b 76 0 0 (ok0 b)) (by decide)).1).1
theorem leaves_ext (x y : ByteArray) (r : List UInt8) (hx : unLeavesE x = 0) (h : bl y = bl x ++ r) (hy : unLeavesE y = 0) : r = [] := by
  obtain ⟨e, v1, v2⟩ := unLeaves_only x hx
  rw [e] at h
  have h7 := unLeaves_back y _ r h v1 v2
  obtain ⟨_, e2⟩ := end_only y _ _ (unLeaves_ok y).1 hy
  rw [h7] at e2
  have e3 := congrArg List.length h
  rw [bl_len, List.length_append] at e3
  have e2' : (leavesB (unLeavesS x).1).length = y.size := e2
  exact List.length_eq_zero_iff.1 (by omega)
end Go.Proofs.YthpfgdhmpeadeaaDoor.e3

namespace Go.Proofs.YthpfgdhmpeadeaaDoor.e4
open Go.RowKit Go.PlainAid
open Go.Proofs.YthpfgdhmpeadeaaDoor.na Go.Proofs.YthpfgdhmpeadeaaDoor.nb Go.Proofs.YthpfgdhmpeadeaaDoor.nc Go.Proofs.YthpfgdhmpeadeaaDoor.nv Go.Proofs.YthpfgdhmpeadeaaDoor.ea Go.Proofs.YthpfgdhmpeadeaaDoor.eo Go.Proofs.YthpfgdhmpeadeaaDoor.ej Go.Proofs.YthpfgdhmpeadeaaDoor.cs Go.Proofs.YthpfgdhmpeadeaaDoor.e1 Go.Proofs.YthpfgdhmpeadeaaDoor.e2 Go.Proofs.YthpfgdhmpeadeaaDoor.e3
set_option linter.unusedVariables false

-- a compact range, as it is read
def fW (b : ByteArray) : Int × Nat × Int := widthS b (markS b 70 0 0).1 (markS b 70 0 0).2
def fL (b : ByteArray) : Int × Nat × Int := mostS b MX 10 (fW b).2.1 (fW b).2.2
def fH (b : ByteArray) : Int × Nat × Int := mostS b MX 10 (fL b).2.1 (fL b).2.2
def fC (b : ByteArray) : Nat := (covI (fL b).1 (fH b).1).length
def fR (b : ByteArray) : Int := refu (fH b).2.2 (covE (fL b).1 (fH b).1)
def fS (b : ByteArray) : List ByteArray × Nat × Int := hashesS b (fW b).1.toNat (fC b) (fH b).2.1 (fR b)
def fE (b : ByteArray) : Int := endS b (fS b).2.1 (fS b).2.2
theorem covE_in (lo hi : Int) : 0 ≤ covE lo hi ∧ covE lo hi ≤ 1000 := by unfold covE; split <;> omega
theorem fW_ok (b : ByteArray) : Ok b (fW b).2.1 (fW b).2.2 := width_ok b _ _ (mark_ok b 70 0 0 (ok0 b))
theorem fW_in (b : ByteArray) : 0 ≤ (fW b).1 ∧ (fW b).1 ≤ 255 := byte_in b _ _
theorem fL_ok (b : ByteArray) : Ok b (fL b).2.1 (fL b).2.2 ∧ 0 ≤ (fL b).1 ∧ (fL b).1 ≤ MX := by
  obtain ⟨h1, h2, h3⟩ := most_ok b MX 10 _ _ (fW_ok b) (by decide)
  have hMX : MX = 4611686018427387904 := rfl
  exact ⟨h1, h2, by show (mostS b MX 10 (fW b).2.1 (fW b).2.2).1 ≤ MX; omega⟩
theorem fH_ok (b : ByteArray) : Ok b (fH b).2.1 (fH b).2.2 ∧ 0 ≤ (fH b).1 ∧ (fH b).1 ≤ MX := by
  obtain ⟨h1, h2, h3⟩ := most_ok b MX 10 _ _ (fL_ok b).1 (by decide)
  have hMX : MX = 4611686018427387904 := rfl
  exact ⟨h1, h2, by show (mostS b MX 10 (fL b).2.1 (fL b).2.2).1 ≤ MX; omega⟩
theorem fR_ok (b : ByteArray) : Ok b (fH b).2.1 (fR b) := by
  have h := (fH_ok b).1
  have hc := covE_in (fL b).1 (fH b).1
  have := refu_ok (fH b).2.2 _ ⟨h.2.1, h.2.2⟩ hc
  exact ⟨h.1, this.1, this.2⟩
theorem fC_le (b : ByteArray) : fC b ≤ 122 := covI_len _ _
theorem fS_ok (b : ByteArray) : Ok b (fS b).2.1 (fS b).2.2 ∧ (fS b).1.length ≤ 122 := by
  have h := hashes_ok b (fW b).1.toNat (fC b) _ _ (fR_ok b)
  have := fC_le b
  exact ⟨h.1, by have h2 : (fS b).1.length ≤ fC b := h.2; omega⟩
-- and as it is written
def frontB (wd lo hi : Int) (l : List ByteArray) : List UInt8 := [UInt8.ofNat (70 : Int).toNat] ++ ([UInt8.ofNat wd.toNat] ++ (bl (putB lo) ++ (bl (putB hi) ++ cat l)))
theorem covE_zero {lo hi : Int} : covE lo hi = 0 ↔ okR lo hi := by
  unfold covE
  split
  · rename_i h; exact ⟨fun _ => h, fun _ => rfl⟩
  · rename_i h; exact ⟨fun e => absurd e (by decide), fun e => absurd e h⟩
theorem front_back (bb : ByteArray) (wd lo hi : Int) (l : List ByteArray) (r : List UInt8) (h0 : 1 ≤ wd) (h1 : wd ≤ 32) (hk : okR lo hi) (hl : l.length = (covI lo hi).length) (hz : ∀ x ∈ l, (x.size : Int) = wd) (h : bl bb = frontB wd lo hi l ++ r) :
    (fW bb).1 = wd ∧ (fL bb).1 = lo ∧ (fH bb).1 = hi ∧ fS bb = (l, (frontB wd lo hi l).length, 0) := by
  have hMX : MX = 4611686018427387904 := rfl
  obtain ⟨o1, o2, o3⟩ := hk
  have g0 := Sp.of h
  unfold frontB at g0 ⊢
  have hm := mark_back g0.fst
  have g1 := g0.snd
  have hw := width_back h0 h1 g1.fst
  have g2 := g1.snd
  have hn := most_back (b := bb) (v := lo) (m := MX) 10 o1 (by omega) (by decide) g2.fst
  have g3 := g2.snd
  rw [bl_len] at g3
  have hn2 := most_back (b := bb) (v := hi) (m := MX) 10 (by omega) (by omega) (by decide) g3.fst
  have g4 := g3.snd
  rw [bl_len] at g4
  have hs := hashes_back bb wd.toNat l _ (fun x hx => by have := hz x hx; omega) g4
  simp only [List.length_singleton, Nat.zero_add] at hm hw hn hn2 hs
  have eW : fW bb = (wd, 1 + 1, 0) := by unfold fW; rw [hm]; exact hw
  have eL : fL bb = (lo, 1 + 1 + (putB lo).size, 0) := by unfold fL; rw [eW]; exact hn
  have eH : fH bb = (hi, 1 + 1 + (putB lo).size + (putB hi).size, 0) := by unfold fH; rw [eL]; exact hn2
  have eC : fC bb = l.length := by unfold fC; rw [eL, eH]; exact hl.symm
  have eR : fR bb = 0 := by unfold fR; rw [eL, eH]; show refu 0 (covE lo hi) = 0; rw [refu_zero]; exact covE_zero.2 ⟨o1, o2, o3⟩
  refine ⟨by rw [eW], by rw [eL], by rw [eH], ?_⟩
  unfold fS
  rw [eW, eH, eC, eR]
  show hashesS bb wd.toNat l.length (1 + 1 + (putB lo).size + (putB hi).size) 0 = _
  rw [hs]
  simp only [List.length_append, bl_len, List.length_singleton, Nat.add_assoc]
theorem front_only (bb : ByteArray) (h : fE bb = 0) : 1 ≤ (fW bb).1 ∧ (fW bb).1 ≤ 32 ∧ okR (fL bb).1 (fH bb).1 ∧ (fS bb).1.length = (covI (fL bb).1 (fH bb).1).length ∧ (∀ x ∈ (fS bb).1, (x.size : Int) = (fW bb).1) ∧ bl bb = frontB (fW bb).1 (fL bb).1 (fH bb).1 (fS bb).1 := by
  have k0 := ok0 bb
  have k1 := mark_ok bb 70 0 0 k0
  have k2 := fW_ok bb
  have k3 := (fL_ok bb).1
  have k4 := (fH_ok bb).1
  have k5 := fR_ok bb
  have k6 := (fS_ok bb).1
  obtain ⟨e1, e2⟩ := end_only bb _ _ k6.1 h
  obtain ⟨h1, h2, h3, h4⟩ := hashes_only bb _ _ _ _ k5.1 e1
  have hhe : (fH bb).2.2 = 0 := by
    by_cases hz : (fH bb).2.2 = 0
    · exact hz
    · have h1' : refu (fH bb).2.2 (covE (fL bb).1 (fH bb).1) = 0 := h1
      rw [refu_not _ _ hz] at h1'; exact h1'
  have hce : covE (fL bb).1 (fH bb).1 = 0 := by
    have h1' : refu (fH bb).2.2 (covE (fL bb).1 (fH bb).1) = 0 := h1
    rw [hhe, refu_zero] at h1'; exact h1'
  obtain ⟨m1, m2, m3, m4⟩ := most_only bb MX 10 _ _ k3.1 (by decide) hhe
  obtain ⟨n1, n2, n3, n4⟩ := most_only bb MX 10 _ _ k2.1 (by decide) m1
  obtain ⟨w1, w2, w3, w4⟩ := width_only bb _ _ k1.1 n1
  obtain ⟨_, a2⟩ := mark_only bb 70 0 0 k0.1 w1
  have w2' : 1 ≤ (fW bb).1 := w2
  have hr : Rn bb 0 (fS bb).2.1 (frontB (fW bb).1 (fL bb).1 (fH bb).1 (fS bb).1) := a2.trans (w4.trans (n4.trans (m4.trans h4)))
  have e2' : (fS bb).2.1 = bb.size := e2
  rw [e2'] at hr
  exact ⟨w2, w3, covE_zero.1 hce, h2, fun x hx => by have := h3 x hx; have e : x.size = (fW bb).1.toNat := this; omega, hr.whole⟩
theorem front_ext (x y : ByteArray) (r : List UInt8) (hx : fE x = 0) (h : bl y = bl x ++ r) (hy : fE y = 0) : r = [] := by
  obtain ⟨v1, v2, v3, v4, v5, e⟩ := front_only x hx
  rw [e] at h
  obtain ⟨_, _, _, h7⟩ := front_back y _ _ _ _ r v1 v2 v3 v4 v5 h
  obtain ⟨_, e2⟩ := end_only y _ _ (fS_ok y).1.1 hy
  rw [h7] at e2
  have e3 := congrArg List.length h
  rw [bl_len, List.length_append] at e3
  have e2' : (frontB (fW x).1 (fL x).1 (fH x).1 (fS x).1).length = y.size := e2
  exact List.length_eq_zero_iff.1 (by omega)
-- the four begin with letters of their own
theorem head_of (b : ByteArray) (c : UInt8) (l : List UInt8) (h : bl b = [c] ++ l) : ∃ t, bl b = c :: t := ⟨l, h⟩
end Go.Proofs.YthpfgdhmpeadeaaDoor.e4
