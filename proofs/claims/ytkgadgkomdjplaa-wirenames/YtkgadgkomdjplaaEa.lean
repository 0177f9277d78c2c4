import Derived.Test.YtkgadgkomdjplaaNb
import Derived.Test.YtkgadgkomdjplaaNc
namespace Go.Proofs.Ytkgadgkomdjplaa.ea
open Go.RowKit Go.PlainAid
open Go.Proofs.Ytkgadgkomdjplaa.na Go.Proofs.Ytkgadgkomdjplaa.nb Go.Proofs.Ytkgadgkomdjplaa.nc
set_option linter.unusedVariables false

-- what a reader of bytes does: p its place, e its first refusal
def refu (e f : Int) : Int := if e = 0 then f else e
theorem refu_zero (f : Int) : refu 0 f = f := rfl
theorem refu_not (e f : Int) (h : e ≠ 0) : refu e f = e := if_neg h
def takeS (b : ByteArray) (c p : Nat) (e : Int) : ByteArray × Nat × Int :=
  if e ≠ 0 then (ByteArray.empty, p, e) else if b.size < p + c then (ByteArray.empty, p, 12) else (b.extract p (p + c), p + c, 0)
theorem takeS_not (b : ByteArray) (c p : Nat) (e : Int) (h : e ≠ 0) : takeS b c p e = (ByteArray.empty, p, e) := if_pos h
theorem takeS_short (b : ByteArray) (c p : Nat) (h : b.size < p + c) : takeS b c p 0 = (ByteArray.empty, p, 12) := by
  rw [takeS, if_neg (by omega), if_pos h]
theorem takeS_yes (b : ByteArray) (c p : Nat) (h : p + c ≤ b.size) : takeS b c p 0 = (b.extract p (p + c), p + c, 0) := by
  rw [takeS, if_neg (by omega), if_neg (by omega)]
def numS (b : ByteArray) (p : Nat) (e : Int) : Int × Nat × Int :=
  if e ≠ 0 then (0, p, e) else if (varR b p 10 0 0).2.2 ≠ 0 then (0, p, (varR b p 10 0 0).2.2) else ((varR b p 10 0 0).1, (varR b p 10 0 0).2.1.toNat, 0)
theorem numS_not (b : ByteArray) (p : Nat) (e : Int) (h : e ≠ 0) : numS b p e = (0, p, e) := if_pos h
theorem numS_bad (b : ByteArray) (p : Nat) (h : (varR b p 10 0 0).2.2 ≠ 0) : numS b p 0 = (0, p, (varR b p 10 0 0).2.2) := by
  rw [numS, if_neg (by omega), if_pos h]
theorem numS_yes (b : ByteArray) (p : Nat) (h : (varR b p 10 0 0).2.2 = 0) : numS b p 0 = ((varR b p 10 0 0).1, (varR b p 10 0 0).2.1.toNat, 0) := by
  rw [numS, if_neg (by omega), if_neg (by omega)]
def mostS (b : ByteArray) (m f : Int) (p : Nat) (e : Int) : Int × Nat × Int :=
  if m < 0 ∨ m < (numS b p e).1 then (0, (numS b p e).2.1, refu (numS b p e).2.2 f) else numS b p e
theorem mostS_out (b : ByteArray) (m f : Int) (p : Nat) (e : Int) (h : m < 0 ∨ m < (numS b p e).1) : mostS b m f p e = (0, (numS b p e).2.1, refu (numS b p e).2.2 f) := if_pos h
theorem mostS_in (b : ByteArray) (m f : Int) (p : Nat) (e : Int) (h : ¬ (m < 0 ∨ m < (numS b p e).1)) : mostS b m f p e = numS b p e := if_neg h
theorem mostS_not (b : ByteArray) (m f : Int) (p : Nat) (e : Int) (h : e ≠ 0) : mostS b m f p e = (0, p, e) := by
  by_cases hm : m < 0 ∨ m < (numS b p e).1
  · rw [mostS_out b m f p e hm, numS_not b p e h]
    show (0, p, refu e f) = _
    rw [refu_not e f h]
  · rw [mostS_in b m f p e hm, numS_not b p e h]
-- the mark, the width
def markS (b : ByteArray) (c : Int) (p : Nat) (e : Int) : Nat × Int :=
  ((takeS b 1 p e).2.1, if (takeS b 1 p e).1 = str [c] then (takeS b 1 p e).2.2 else refu (takeS b 1 p e).2.2 110)
def byteS (b : ByteArray) (p : Nat) (e : Int) : Int := if (takeS b 1 p e).1.size = 1 then bt (takeS b 1 p e).1 0 else 0
def widthS (b : ByteArray) (p : Nat) (e : Int) : Int × Nat × Int :=
  (byteS b p e, (takeS b 1 p e).2.1, if 1 ≤ byteS b p e ∧ byteS b p e ≤ 32 then (takeS b 1 p e).2.2 else refu (takeS b 1 p e).2.2 10)
-- hashes side by side
def hashesS (b : ByteArray) (w : Nat) : Nat → Nat → Int → List ByteArray × Nat × Int
  | 0, p, e => ([], p, e)
  | n + 1, p, e => if e ≠ 0 then ([], p, e) else ((takeS b w p e).1 :: (hashesS b w n (takeS b w p e).2.1 (takeS b w p e).2.2).1, (hashesS b w n (takeS b w p e).2.1 (takeS b w p e).2.2).2)
def endS (b : ByteArray) (p : Nat) (e : Int) : Int := if p < b.size then refu e 111 else e
-- leaves
def leavesS (b : ByteArray) : Nat → Nat → Int → List ByteArray × Nat × Int
  | 0, p, e => ([], p, e)
  | n + 1, p, e => ((takeS b (mostS b 4096 121 p e).1.toNat (mostS b 4096 121 p e).2.1 (mostS b 4096 121 p e).2.2).1 ::
      (leavesS b n (takeS b (mostS b 4096 121 p e).1.toNat (mostS b 4096 121 p e).2.1 (mostS b 4096 121 p e).2.2).2.1 (takeS b (mostS b 4096 121 p e).1.toNat (mostS b 4096 121 p e).2.1 (mostS b 4096 121 p e).2.2).2.2).1,
      (leavesS b n (takeS b (mostS b 4096 121 p e).1.toNat (mostS b 4096 121 p e).2.1 (mostS b 4096 121 p e).2.2).2.1 (takeS b (mostS b 4096 121 p e).1.toNat (mostS b 4096 121 p e).2.1 (mostS b 4096 121 p e).2.2).2.2).2)
theorem leavesS_not (b : ByteArray) (n p : Nat) (e : Int) (h : e ≠ 0) : (leavesS b n p e).2 = (p, e) := by
  induction n with
  | zero => rfl
  | succ n ih =>
    rw [leavesS]
    show (leavesS b n _ _).2 = _
    rw [mostS_not b _ _ p e h]
    show (leavesS b n (takeS b (0 : Int).toNat p e).2.1 (takeS b (0 : Int).toNat p e).2.2).2 = _
    rw [takeS_not b _ p e h]
    exact ih
theorem hashesS_not (b : ByteArray) (w n p : Nat) (e : Int) (h : e ≠ 0) : hashesS b w n p e = ([], p, e) := by
  cases n with
  | zero => rfl
  | succ n => rw [hashesS, if_pos h]
-- the place stays within the bytes, errors are not below 0
theorem varR_in (b : ByteArray) (p : Nat) : ∀ (f k : Nat) (x : Int), p + k ≤ b.size → 0 ≤ x → x < 128 ^ k → k ≤ 10 → f = 10 - k →
    (varR b p f k x).2.2 = 0 ∧ (∃ q : Nat, (varR b p f k x).2.1 = q ∧ q ≤ b.size ∧ p < q) ∧ 0 ≤ (varR b p f k x).1 ∧ (varR b p f k x).1 ≤ 18446744073709551615 ∨
    (varR b p f k x).2.2 ≠ 0 ∧ 11 ≤ (varR b p f k x).2.2 ∧ (varR b p f k x).2.2 ≤ 13 ∧ (varR b p f k x).1 = 0 := by
  intro f
  induction f with
  | zero => intro k x _ _ _ _ _; right; rw [varR_end]; exact ⟨by decide, by decide, by decide, rfl⟩
  | succ f ih =>
    intro k x hk hx0 hx1 hk10 hf
    by_cases hs : b.size ≤ p + k
    · right; rw [varR_short b p f k x hs]; exact ⟨by decide, by decide, by decide, rfl⟩
    by_cases ho : k = 9 ∧ 1 < bt b (p + k)
    · right; rw [varR_over b p f k x hs ho]; exact ⟨by decide, by decide, by decide, rfl⟩
    by_cases hz : 0 < k ∧ bt b (p + k) = 0
    · right; rw [varR_form b p f k x hs ho hz]; exact ⟨by decide, by decide, by decide, rfl⟩
    have h9 : k = 9 → bt b (p + k) ≤ 1 := fun e => Int.not_lt.mp fun h => ho ⟨e, h⟩
    have hmax := group_max x (bt b (p + k)) k (by omega) hx1 h9 (bt_nonneg b (p + k))
    have hnn := group_nonneg (bt b (p + k)) k
    by_cases hl : bt b (p + k) < 128
    · left; rw [varR_last b p f k x hs ho hz hl]
      exact ⟨rfl, ⟨p + k + 1, by simp, by omega, by omega⟩, by show 0 ≤ x + _; omega, hmax⟩
    · rw [varR_next b p f k x hs ho hz hl]
      exact ih (k + 1) _ (by omega) (by omega) (group_lt x (bt b (p + k)) k hx1) (by omega) (by omega)
theorem var_in (b : ByteArray) (p : Nat) (hp : p ≤ b.size) : (varR b p 10 0 0).2.2 = 0 ∧ (∃ q : Nat, (varR b p 10 0 0).2.1 = q ∧ q ≤ b.size ∧ p < q) ∧ 0 ≤ (varR b p 10 0 0).1 ∧ (varR b p 10 0 0).1 ≤ 18446744073709551615 ∨
    (varR b p 10 0 0).2.2 ≠ 0 ∧ 11 ≤ (varR b p 10 0 0).2.2 ∧ (varR b p 10 0 0).2.2 ≤ 13 ∧ (varR b p 10 0 0).1 = 0 :=
  varR_in b p 10 0 0 (by omega) (by omega) (by decide) (by omega) rfl
-- a state that may be
def Ok (b : ByteArray) (p : Nat) (e : Int) : Prop := p ≤ b.size ∧ 0 ≤ e ∧ e ≤ 1000
theorem refu_ok (e f : Int) (h0 : 0 ≤ e ∧ e ≤ 1000) (h1 : 0 ≤ f ∧ f ≤ 1000) : 0 ≤ refu e f ∧ refu e f ≤ 1000 := by
  unfold refu; split <;> omega
theorem take_ok (b : ByteArray) (c p : Nat) (e : Int) (h : Ok b p e) : Ok b (takeS b c p e).2.1 (takeS b c p e).2.2 := by
  unfold takeS
  obtain ⟨h1, h2, h3⟩ := h
  split
  · exact ⟨h1, h2, h3⟩
  · split
    · exact ⟨h1, by simp, by simp⟩
    · exact ⟨by show p + c ≤ b.size; omega, by simp, by simp⟩
theorem num_ok (b : ByteArray) (p : Nat) (e : Int) (h : Ok b p e) : Ok b (numS b p e).2.1 (numS b p e).2.2 ∧ 0 ≤ (numS b p e).1 ∧ (numS b p e).1 ≤ 18446744073709551615 := by
  obtain ⟨h1, h2, h3⟩ := h
  by_cases he : e = 0
  · subst he
    rcases var_in b p h1 with ⟨v1, ⟨q, v2, v3, v5⟩, v4, v6⟩ | ⟨v1, v2, v3, v4⟩
    · rw [numS_yes b p v1]
      exact ⟨⟨by show Int.toNat _ ≤ _; omega, by simp, by simp⟩, v4, v6⟩
    · rw [numS_bad b p v1]
      exact ⟨⟨h1, by show 0 ≤ (varR b p 10 0 0).2.2; omega, by show (varR b p 10 0 0).2.2 ≤ 1000; omega⟩, by simp, by simp⟩
  · rw [numS_not b p e he]
    exact ⟨⟨h1, h2, h3⟩, by simp, by simp⟩
theorem most_ok (b : ByteArray) (m f : Int) (p : Nat) (e : Int) (h : Ok b p e) (hf : 0 ≤ f ∧ f ≤ 1000) : Ok b (mostS b m f p e).2.1 (mostS b m f p e).2.2 ∧ 0 ≤ (mostS b m f p e).1 ∧ ((mostS b m f p e).1 = 0 ∨ (mostS b m f p e).1 ≤ m) := by
  obtain ⟨h1, h2, h3⟩ := num_ok b p e h
  by_cases hm : m < 0 ∨ m < (numS b p e).1
  · rw [mostS_out b m f p e hm]
    have := refu_ok (numS b p e).2.2 f ⟨h1.2.1, h1.2.2⟩ hf
    exact ⟨⟨h1.1, this.1, this.2⟩, by simp, .inl rfl⟩
  · rw [mostS_in b m f p e hm]
    exact ⟨h1, h2, .inr (by omega)⟩
theorem mark_ok (b : ByteArray) (c : Int) (p : Nat) (e : Int) (h : Ok b p e) : Ok b (markS b c p e).1 (markS b c p e).2 := by
  have h1 := take_ok b 1 p e h
  unfold markS
  refine ⟨h1.1, ?_⟩
  show 0 ≤ ite _ _ _ ∧ ite _ _ _ ≤ (1000 : Int)
  split
  · exact ⟨h1.2.1, h1.2.2⟩
  · exact refu_ok _ _ ⟨h1.2.1, h1.2.2⟩ (by decide)
theorem byte_in (b : ByteArray) (p : Nat) (e : Int) : 0 ≤ byteS b p e ∧ byteS b p e ≤ 255 := by
  unfold byteS
  split
  · exact ⟨bt_nonneg _ _, bt_le _ _⟩
  · exact ⟨by decide, by decide⟩
theorem width_ok (b : ByteArray) (p : Nat) (e : Int) (h : Ok b p e) : Ok b (widthS b p e).2.1 (widthS b p e).2.2 := by
  have h1 := take_ok b 1 p e h
  unfold widthS
  refine ⟨h1.1, ?_⟩
  show 0 ≤ ite _ _ _ ∧ ite _ _ _ ≤ (1000 : Int)
  split
  · exact ⟨h1.2.1, h1.2.2⟩
  · exact refu_ok _ _ ⟨h1.2.1, h1.2.2⟩ (by decide)
theorem hashes_ok (b : ByteArray) (w n : Nat) : ∀ (p : Nat) (e : Int), Ok b p e → Ok b (hashesS b w n p e).2.1 (hashesS b w n p e).2.2 ∧ (hashesS b w n p e).1.length ≤ n := by
  induction n with
  | zero => intro p e h; exact ⟨h, Nat.le_refl _⟩
  | succ n ih =>
    intro p e h
    rw [hashesS]
    split
    · exact ⟨h, by simp⟩
    · have := ih _ _ (take_ok b w p e h)
      exact ⟨this.1, by show (_ :: _).length ≤ _; rw [List.length_cons]; omega⟩
theorem leaves_ok (b : ByteArray) (n : Nat) : ∀ (p : Nat) (e : Int), Ok b p e → Ok b (leavesS b n p e).2.1 (leavesS b n p e).2.2 ∧ (leavesS b n p e).1.length = n := by
  induction n with
  | zero => intro p e h; exact ⟨h, rfl⟩
  | succ n ih =>
    intro p e h
    rw [leavesS]
    have h1 := (most_ok b 4096 121 p e h (by decide)).1
    have := ih _ _ (take_ok b (mostS b 4096 121 p e).1.toNat _ _ h1)
    exact ⟨this.1, by show (_ :: _).length = _; rw [List.length_cons, this.2]⟩
-- what the readers of leaves and of a tile's hashes read
def unLeavesS (b : ByteArray) : List ByteArray × Nat × Int :=
  leavesS b (mostS b 1024 83 (markS b 76 0 0).1 (markS b 76 0 0).2).1.toNat (mostS b 1024 83 (markS b 76 0 0).1 (markS b 76 0 0).2).2.1 (mostS b 1024 83 (markS b 76 0 0).1 (markS b 76 0 0).2).2.2
def unLeavesE (b : ByteArray) : Int := endS b (unLeavesS b).2.1 (unLeavesS b).2.2
def unLeavesL (b : ByteArray) : List ByteArray := if unLeavesE b = 0 then (unLeavesS b).1 else []
-- numbers, as they are written
def mOf (v : Int) : Nat := (Lib.bitLen v.toNat + 6) / 7 + (if v = 0 then 1 else 0)
def putB (v : Int) : ByteArray := str (putL v (mOf v))
theorem putB_of (v : Int) (m : Nat) (h0 : 0 ≤ v) (h1 : v ≤ 18446744073709551615) (hw : Wants v m) : str (putL v m) = putB v := by
  rw [putB, wants_one v m _ hw (wants_len v h0 h1)]
  rfl
theorem putB_size (v : Int) (h0 : 0 ≤ v) (h1 : v ≤ 18446744073709551615) : 1 ≤ (putB v).size ∧ (putB v).size ≤ 10 := by
  have hw : Wants v (mOf v) := wants_len v h0 h1
  rw [putB, str_size, putL_length v _ hw.1]
  exact ⟨hw.1, hw.2.1⟩
def cat (l : List ByteArray) : List UInt8 := l.flatMap fun x => x.data.toList
def numsB (l : List Int) : List UInt8 := l.flatMap fun v => (putB v).data.toList
def leafB (x : ByteArray) : List UInt8 := (putB x.size).data.toList ++ x.data.toList
def leavesB (l : List ByteArray) : List UInt8 := 76 :: (putB l.length).data.toList ++ l.flatMap leafB
def hashesB (w : Nat) (l : List ByteArray) : List UInt8 := 72 :: UInt8.ofNat w :: (putB l.length).data.toList ++ cat l
end Go.Proofs.Ytkgadgkomdjplaa.ea
