import Derived.Test.YtdhhbkkinlmgnaaZf
import Derived.BigQuiet
import Derived.Deep.QuietTactic
namespace Go.Proofs.Ytdhhbkkinlmgnaa.xa
open Go.RowKit Go.PlainAid Go.Maps Go.Shelf
open Go.Proofs.Ytdhhbkkinlmgnaa.ca Go.Proofs.Ytdhhbkkinlmgnaa.cb Go.Proofs.Ytdhhbkkinlmgnaa.cp Go.Proofs.Ytdhhbkkinlmgnaa.kp Go.Proofs.Ytdhhbkkinlmgnaa.ka Go.Proofs.Ytdhhbkkinlmgnaa.ya Go.Proofs.Ytdhhbkkinlmgnaa.yb Go.Proofs.Ytdhhbkkinlmgnaa.yc Go.Proofs.Ytdhhbkkinlmgnaa.ye Go.Proofs.Ytdhhbkkinlmgnaa.yf Go.Proofs.Ytdhhbkkinlmgnaa.za Go.Proofs.Ytdhhbkkinlmgnaa.zf
set_option linter.unusedVariables false
set_option linter.unusedSimpArgs false
-- the document's lists of records
def rc (p : Rec) : List Value := [.string p.1, .string p.2]
def rcs (l : List Rec) : List Value := l.flatMap rc
theorem rcs_app (l l' : List Rec) : rcs (l ++ l') = rcs l ++ rcs l' := by simp [rcs]
theorem rcs_len (l : List Rec) : (rcs l).length = l.length * 2 := by
  induction l with
  | nil => rfl
  | cons p l ih => simp only [rcs, List.flatMap_cons, List.length_append, List.length_cons] at ih ⊢; rw [ih]; simp [rc]; omega
theorem rcs_at (l : List Rec) (j : Nat) (p : Rec) (h : l[j]? = some p) : (rcs l)[j * 2]? = some (.string p.1) ∧ (rcs l)[j * 2 + 1]? = some (.string p.2) := by
  induction l generalizing j with
  | nil => simp at h
  | cons q l ih =>
    cases j with
    | zero =>
      simp at h
      subst h
      exact ⟨rfl, rfl⟩
    | succ j =>
      have := ih j (by simpa using h)
      have e1 : (j + 1) * 2 = j * 2 + 2 := by omega
      rw [e1]
      exact this
abbrev Lr (B : Nat) (v : Value) (r : List Rec) (w : World) : Prop := w.ownsRow B 71 2 v r.length (rcs r)
theorem lr_form {B : Nat} {v : Value} {r : List Rec} {w : World} (o : Lr B v r w) : ∃ a c, v = .slice a r.length c := by
  rcases o.2 with ⟨rfl, h0⟩ | ⟨g, cap, cur, rfl, _⟩
  · exact ⟨none, 0, by rw [h0]⟩
  · exact ⟨_, cap, rfl⟩
theorem lr_at {B : Nat} {a : Option Addr} {c : Nat} {r : List Rec} {w : World} (o : Lr B (.slice a r.length c) r w) (j : Nat) (p : Rec) (hj : r[j]? = some p) : ∃ g, a = some ⟨g, 0, none⟩ ∧ g < w.heap.size ∧ w.cell? ⟨g, j * 2, none⟩ = some (.string p.1) ∧ w.cell? ⟨g, j * 2 + 1, none⟩ = some (.string p.2) := by
  have hjl := (List.getElem?_eq_some_iff.1 hj).1
  rcases o.2 with ⟨_, h0⟩ | ⟨g, cap, cur, e, _, h3, h4, h5, h6, h7⟩
  · omega
  · injection e with e1 _ _
    obtain ⟨s1, s2⟩ := rcs_at r j p hj
    rw [← h7, List.getElem?_take_of_lt (by omega)] at s1 s2
    refine ⟨g, e1, (Array.getElem?_eq_some_iff.1 h3).1, ?_, ?_⟩
    · rw [cell_of_row _ _ _ _ _ _ h3]; simpa using s1
    · rw [cell_of_row _ _ _ _ _ _ h3]; simpa using s2
theorem Lr.later {B : Nat} {v : Value} {r : List Rec} {w w' : World} (h : Lr B v r w) (b : Below w.heap.size w w') : Lr B v r w' := own_kp h (Kp.of_below (A := fun _ => False) b) (fun _ _ e => e)
theorem text_ne {a b : ByteArray} (h : a ≠ b) : (a.toList == b.toList) = false := by
  rw [beq_eq_false_iff_ne]
  intro e
  rw [ByteArray.toList_eq, ByteArray.toList_eq] at e
  exact h (ByteArray.ext (Array.toList_inj.1 e))
-- find
def Fnd (k : ByteArray) (r : List Rec) (i : Int) : Prop := (rget k r = none ∧ i = -1) ∨ ∃ (n : Nat) (d : ByteArray), i = n ∧ r[n]? = some (k, d) ∧ rget k r = some d
set_option maxRecDepth 20000 in
set_option maxHeartbeats 3200000 in
theorem findC {B : Nat} (v : Value) (r : List Rec) (k : ByteArray) (w : World) (h : Lr B v r w) (hs : Srt r) (hl : r.length ≤ 140737488355328) :
    Calls Try.prog 70 #[v, .string k] w fun e w' => (∃ i, e = .returned (.int .i64 i) ∧ Fnd k r i) ∧ w' = w := by
  obtain ⟨a, c, rfl⟩ := lr_form h
  have H : Hid _ := h
  have HS : Hid _ := hs
  clear h hs
  go_enter Try.func70, Try.ntmps70
  go_wp2_with fail
  go_loop [5] (fun iv => ∃ j : Nat, j ≤ r.length ∧ iv = .int .i64 j ∧ Hid (∀ y ∈ r.take j, y.1 ≠ k)) (fun iv => (r.length - intOf iv).toNat)
  case atStart => exact ⟨0, Nat.zero_le _, rfl, fun y hy => by cases hy⟩
  case round =>
    obtain ⟨j, hj, rfl, HJ⟩ := hrel
    by_cases hlt : j < r.length
    · have hlt' : (j : Int) < r.length := by omega
      obtain ⟨p, hp⟩ : ∃ p, r[j]? = some p := ⟨_, List.getElem?_eq_getElem hlt⟩
      obtain ⟨g, rfl, _, c0, c1⟩ := lr_at H.out j p hp
      have HP : Hid _ := hp
      clear hp
      obtain ⟨pk, pd⟩ := p
      by_cases e : pk = k
      · subst e
        have t1 : (pk.toList == pk.toList) = true := by simp
        go_wp2
        go_ret
        exact ⟨⟨j, rfl, .inr ⟨j, pd, rfl, HP.out, (get_some HS.out).2 (List.mem_of_getElem? HP.out)⟩⟩, rfl⟩
      · have t1 : (pk.toList == k.toList) = false := text_ne e
        have HE : Hid _ := e
        clear e
        go_wp2
        go_round
        case rel => exact ⟨j + 1, by omega, by go_num, fun y hy => by
          rw [List.take_add_one, HP.out] at hy
          rcases List.mem_append.1 hy with h | h
          · exact HJ.out y h
          · simp at h; subst h; exact HE.out⟩
        case measure => simp [intOf]; omega
    · have hlt' : ¬ (j : Int) < r.length := by omega
      have HN : Hid (rget k r = none) := get_none.2 (by have h := HJ.out; rw [List.take_of_length_le (by omega)] at h; exact h)
      go_wp2
      go_ret
      exact ⟨⟨-1, rfl, .inl ⟨HN.out, rfl⟩⟩, rfl⟩
-- counts
set_option maxRecDepth 20000 in
set_option maxHeartbeats 3200000 in
theorem cntsC {B : Nat} (v : Value) (r : List Rec) (w : World) (h : Lr B v r w) (hok : OkR r) (hl : r.length < 3518437208883) :
    Calls Try.prog 67 #[v] w fun e w' => e = .returned (.int .i64 (tot r : Nat)) ∧ ∃ n, w' = w.drewN n := by
  obtain ⟨a, c, rfl⟩ := lr_form h
  have htot := hok.tot
  have H : Hid _ := h
  have HK : Hid _ := hok
  clear h hok
  go_enter Try.func67, Try.ntmps67
  go_wp2_with fail
  go_loopw [3, 4] (fun nv iv wr => ∃ j : Nat, j ≤ r.length ∧ iv = .int .i64 j ∧ nv = .int .i64 ((tot (r.take j) : Nat) : Int) ∧ Hid (∃ n, wr = w.drewN n)) (fun _ iv _ => (r.length - intOf iv).toNat)
  case atStart => exact ⟨0, Nat.zero_le _, rfl, rfl, ⟨0, rfl⟩⟩
  case round =>
    obtain ⟨j, hj, rfl, rfl, HW⟩ := hrel
    have hle := tot_take_le r j
    by_cases hlt : j < r.length
    · have hlt' : (j : Int) < r.length := by omega
      obtain ⟨p, hp⟩ : ∃ p, r[j]? = some p := ⟨_, List.getElem?_eq_getElem hlt⟩
      have hz := HK.out p (List.mem_of_getElem? hp)
      have htk := tot_take r j p hp
      have hr : Lr B (.slice a r.length c) r wr := by obtain ⟨n, hn⟩ := HW.out; rw [hn]; exact Lr.later H.out (za.below_dN (Below.refl _ _) n)
      obtain ⟨g, rfl, _, c0, c1⟩ := lr_at hr j p hp
      clear hp hr
      obtain ⟨pk, pd⟩ := p
      simp only at c0 c1 hz htk
      obtain ⟨T, HT⟩ : ∃ T : Nat, Hid (tot (r.take j) = T) := ⟨_, rfl⟩
      rw [HT.out] at htk hle ⊢
      have HTK : Hid _ := htk
      have hT : (T : Int) ≤ 4000000000000000000 := by omega
      have hz1 : (pk.size : Int) ≤ 64 := by omega
      have hz2 : (pd.size : Int) ≤ 1048576 := by omega
      clear htk hz htot
      go_upto_region 5 with fail
      go_quiet (fail)
      obtain ⟨wd, HWD⟩ : ∃ wd, wd = wr.drewN nq := ⟨_, rfl⟩
      have HWD2 : Hid (∃ n, wd = w.drewN n) := by
        obtain ⟨n, hn⟩ := HW.out
        rw [HWD, hn]
        exact ⟨n + nq, by rw [World.drewN_drewN]⟩
      rw [← HWD]
      clear HWD
      go_wp2
      go_roundw
      case rel => exact ⟨j + 1, by omega, by go_num, by rw [HTK.out]; simp only [cnt]; go_num, HWD2.out⟩
      case measure => simp [intOf]; omega
    · have hlt' : ¬ (j : Int) < r.length := by omega
      obtain rfl : j = r.length := by omega
      have HTL : Hid (r.take r.length = r) := List.take_length
      rw [HTL.out]
      go_wp2
      go_ret
      exact ⟨rfl, HW.out⟩
end Go.Proofs.Ytdhhbkkinlmgnaa.xa
