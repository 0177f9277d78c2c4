import Derived.Test.YtmindflfjocjlaaGreatQ10
import Derived.Below
import Derived.ProofKit
import Derived.Test.YtmindflfjocjlaaGreatQ01
import Derived.RowKit3
import Derived.Laws.Strings
import Derived.PlainAid
namespace Go.Proofs.YtmindflfjocjlaaGreat.xh
open Go.RowKit Go.PlainAid Go.Maps Go.Shelf
open Go.Proofs.YtmindflfjocjlaaGreat.ca Go.Proofs.YtmindflfjocjlaaGreat.cb Go.Proofs.YtmindflfjocjlaaGreat.cp Go.Proofs.YtmindflfjocjlaaGreat.kp Go.Proofs.YtmindflfjocjlaaGreat.ka Go.Proofs.YtmindflfjocjlaaGreat.ya Go.Proofs.YtmindflfjocjlaaGreat.yb Go.Proofs.YtmindflfjocjlaaGreat.yc Go.Proofs.YtmindflfjocjlaaGreat.yd Go.Proofs.YtmindflfjocjlaaGreat.ye Go.Proofs.YtmindflfjocjlaaGreat.yf Go.Proofs.YtmindflfjocjlaaGreat.yi Go.Proofs.YtmindflfjocjlaaGreat.zf Go.Proofs.YtmindflfjocjlaaGreat.zg Go.Proofs.YtmindflfjocjlaaGreat.xa Go.Proofs.YtmindflfjocjlaaGreat.xb Go.Proofs.YtmindflfjocjlaaGreat.xc
set_option linter.unusedVariables false
set_option linter.unusedSimpArgs false
theorem keysL_next (pre : ByteArray) (r : List Rec) (j : Nat) (p : Rec) (h : r[j]? = some p) : keysL pre (r.take (j + 1)) = keysL pre (r.take j) ++ (if Lib.hasPrefix (bs p.1) (bs pre) then [p.1] else []) := by
  unfold keysL
  rw [List.take_add_one, h]
  simp only [Option.toList_some, List.filter_append, List.map_append]
  cases hb : Lib.hasPrefix (bs p.1) (bs pre) <;> simp [hb]
theorem keysL_len (pre : ByteArray) (r : List Rec) : (keysL pre r).length ≤ r.length := by
  unfold keysL
  rw [List.length_map]
  exact List.length_filter_le _ _
set_option maxRecDepth 40000 in
set_option maxHeartbeats 6400000 in
theorem keysD {B g : Nat} {dv wv vv : Value} {s : S} {w : World} (pre : ByteArray) (h : Ds B g dv wv vv s w) :
    Calls Tryz.prog 39 #[.pointer (some ⟨g, 0, none⟩), .string pre] w fun e w' => ∃ v, e = .returned v ∧ w'.ownsRow w.heap.size 9 1 v (keysS s pre).length ((keysS s pre).map Value.string) ∧ Below w.heap.size w w' := by
  have c3 := h.row.c3
  have H : Hid (Ds B g dv wv vv s w) := h
  unfold keysS
  cases ho : s.off with
  | true =>
    rw [ho] at c3
    simp only [if_true]
    clear h
    go_enter Tryz.func39, Tryz.ntmps39
    go_wp2
    go_ret
    exact ⟨_, rfl, World.ownsRow_nil _ _ _ _, Below.refl _ _⟩
  | false =>
    rw [ho] at c3
    simp only [Bool.false_eq_true, if_false]
    obtain ⟨va, vc, hvv⟩ := lr_form h.vl
    subst hvv
    have hln := h.ok.lnow
    obtain ⟨i9, hi, hz0, hz1, hz2⟩ := ka.info_parts ka.hi9
    have HIN : Hid (_ ∧ _ ∧ _ ∧ _) := ⟨hi, hz0, hz1, hz2⟩
    clear hi hz0 hz1 hz2
    have VC : Hid (∀ (j : Nat) (p : Rec), (now s)[j]? = some p → ∃ gv, va = some ⟨gv, 0, none⟩ ∧ ∀ wr, Below w.heap.size w wr → wr.cell? ⟨gv, j * 2, none⟩ = some (.string p.1)) := fun j p hp => by
      obtain ⟨gv, e, hg, q1, _⟩ := lr_at H.out.vl j p hp
      exact ⟨gv, e, fun wr b => (b.cell hg).trans q1⟩
    have C6 : Hid (∀ wr, Below w.heap.size w wr → wr.cell? ⟨g, 6, none⟩ = some (.slice va (now s).length vc)) := fun wr b => (H.out.later b).row.c6
    obtain ⟨N, HN⟩ : ∃ N, Hid (now s = N) := ⟨_, rfl⟩
    have c60 := C6.out w (Below.refl _ _)
    rw [HN.out] at VC C6 hln c60 ⊢
    obtain ⟨L, hL⟩ : ∃ L, N.length = L := ⟨_, rfl⟩
    have HLL : Hid _ := hL
    rw [hL] at C6 hln c60
    clear h hL
    go_enter Tryz.func39, Tryz.ntmps39
    go_wp2_with fail
    go_loopw [5, 6] (fun ov iv wr => ∃ j : Nat, j ≤ L ∧ iv = .int .i64 j ∧ Hid (wr.ownsRow w.heap.size 9 1 ov (keysL pre (N.take j)).length ((keysL pre (N.take j)).map Value.string) ∧ Below w.heap.size w wr)) (fun _ iv _ => (L - intOf iv).toNat)
    case atStart => exact ⟨0, Nat.zero_le _, rfl, World.ownsRow_nil _ _ _ _, Below.refl _ _⟩
    case round =>
      clear c60 c3
      obtain ⟨j, hj, rfl, HH⟩ := hrel
      obtain ⟨oa, oc, hov⟩ := own_formS HH.out.1
      subst hov
      have c6 := C6.out wr HH.out.2
      by_cases hlt : j < L
      · have hlt' : (j : Int) < L := by omega
        obtain ⟨p, hp⟩ : ∃ p, N[j]? = some p := ⟨_, List.getElem?_eq_getElem (by have := HLL.out; omega)⟩
        obtain ⟨gv, hva, hcx⟩ := VC.out j p hp
        have cp := hcx wr HH.out.2
        have hnx := keysL_next pre N j p hp
        have hkl := keysL_len pre (N.take j)
        have hkl2 : (N.take j).length ≤ j := by rw [List.length_take]; omega
        obtain ⟨K, HK⟩ : ∃ K, Hid (keysL pre (N.take j) = K) := ⟨_, rfl⟩
        rw [HK.out] at hnx HH hkl ⊢
        obtain ⟨pk, pd⟩ := p
        simp only at hnx cp
        obtain ⟨m, HM⟩ : ∃ m, Hid (K.length = m) := ⟨_, rfl⟩
        have hmb : m ≤ j := by have := HM.out; omega
        rw [HM.out] at HH ⊢
        subst hva
        by_cases hpx : pre.size ≤ pk.size ∧ (pk.extract 0 pre.size).toList = pre.toList
        · have q1 : decide ((pre.size : Int) ≤ (pk.size : Int)) = true := decide_eq_true (by omega)
          have q1' : decide (pre.size ≤ pk.size) = true := decide_eq_true hpx.1
          have q2 : ((pk.extract 0 pre.size).toList == pre.toList) = true := by rw [hpx.2]; simp
          have q3 : (pre.size : Int) ≤ (pk.size : Int) := by omega
          have hh : Lib.hasPrefix (bs pk) (bs pre) = true := by
            have e := Lib.hasPrefix_raw pk pre
            rw [q2] at e
            simp [hpx.1] at e
            exact e
          rw [hh, if_pos rfl] at hnx
          have HNX : Hid _ := hnx
          have A1 : Hid (World.ownsRow (wr.alloc (.cells #[.string pk] 9)) w.heap.size 9 1 (.slice oa m oc) m (K.map Value.string)) := HH.out.1.alloc _
          have hsz : w.heap.size ≤ wr.heap.size := HH.out.2.size
          have b1 : Hid (Below w.heap.size w (wr.alloc (.cells #[.string pk] 9))) := over HH.out.2 ((Below.refl _ wr).alloc (Nat.le_refl _) _)
          clear hpx hp hcx hnx hh
          go_wp2_with (first | (at_builtin; (refine wpList_append_own _ rfl _ _ 82 rfl w.heap.size 9 i9 (.string ByteArray.empty) 1 16 Tryz.underlying82 HIN.out.1 HIN.out.2.1 HIN.out.2.2.1 HIN.out.2.2.2 rfl (by decide) _ m _ rfl A1.out ⟨wr.heap.size, 0, none⟩ 1 1 [.string pk] rfl rfl (new_text _ _ _) (one_text _) (by unfold maxLen; omega) (by omega) (by simp; omega) ?_; intro v' w7 ho hg hnn; have HO3 : Hid (World.ownsRow _ _ _ _ _ _ _) := ho; have HG3 : Hid (World.grownBy _ _ _) := hg; clear ho hg hnn)) | go_in)
          go_roundw
          case rel =>
            refine ⟨j + 1, by omega, by go_num, ?_, ?_⟩
            · rw [HNX.out, List.length_append, List.map_append, HM.out]; exact HO3.out
            · exact below_grownBy b1.out HG3.out (Nat.le_refl _) (fun i hi => (A1.out.lt _ hi).1)
          case measure => simp [intOf]; omega
        · have hcs : (decide ((pre.size : Int) ≤ (pk.size : Int)) = false ∧ decide (pre.size ≤ pk.size) = false) ∨ (decide ((pre.size : Int) ≤ (pk.size : Int)) = true ∧ decide (pre.size ≤ pk.size) = true ∧ (pre.size : Int) ≤ (pk.size : Int) ∧ ((pk.extract 0 pre.size).toList == pre.toList) = false) := by
            by_cases q : pre.size ≤ pk.size
            · exact .inr ⟨decide_eq_true (by omega), decide_eq_true q, by omega, by rw [beq_eq_false_iff_ne]; exact fun e => hpx ⟨q, e⟩⟩
            · exact .inl ⟨decide_eq_false (by omega), decide_eq_false q⟩
          have hh : Lib.hasPrefix (bs pk) (bs pre) = false := by
            have e := Lib.hasPrefix_raw pk pre
            rcases hcs with ⟨_, q⟩ | ⟨_, _, _, q⟩
            · simp at q
              rw [show Lib.hasPrefix (bs pk) (bs pre) = _ from e.symm]; simp; omega
            · rw [q] at e
              simp at e
              exact e.symm ▸ rfl
          rw [hh, if_neg (by simp), List.append_nil] at hnx
          have HNX : Hid _ := hnx
          clear hpx hp hcx hnx hh
          rcases hcs with ⟨q1, q2⟩ | ⟨q1, q2, q3, q4⟩
          all_goals
            go_wp2
            go_roundw
            case rel => exact ⟨j + 1, by omega, by go_num, by rw [HNX.out, HM.out]; exact HH.out⟩
            case measure => simp [intOf]; omega
      · have hlt' : ¬ (j : Int) < L := by omega
        have HF : Hid (wr.ownsRow w.heap.size 9 1 (.slice oa (keysL pre (N.take j)).length oc) (keysL pre N).length ((keysL pre N).map Value.string) ∧ Below w.heap.size w wr) := by
          have h1 := HH.out
          have e : N.take j = N := List.take_of_length_le (by have := HLL.out; omega)
          rw [e] at h1 ⊢
          exact h1
        go_wp2
        go_ret
        exact ⟨_, rfl, HF.out⟩
end Go.Proofs.YtmindflfjocjlaaGreat.xh

namespace Go.Proofs.YtmindflfjocjlaaGreat.tpa
open Go.RowKit Go.PlainAid
open Go.Proofs.YtmindflfjocjlaaGreat.na Go.Proofs.YtmindflfjocjlaaGreat.nb
set_option linter.unusedVariables false

theorem len_yes (n : Int) (w : World) (h1 : 1 ≤ n) (h2 : n ≤ 8) :
    Calls Tryz.prog 111 #[.int .i64 n] w fun e w' => e = .returned (.bool true) ∧ w' = w := by
  go_enter Tryz.func111, Tryz.ntmps111
  go_wp2
  go_ret
  exact ⟨rfl, rfl⟩

theorem len_no (n : Int) (w : World) (h : n < 1 ∨ 8 < n) :
    Calls Tryz.prog 111 #[.int .i64 n] w fun e w' => e = .returned (.bool false) ∧ w' = w := by
  by_cases h1 : 1 ≤ n
  · have h2 : ¬ n ≤ 8 := by omega
    go_enter Tryz.func111, Tryz.ntmps111
    go_wp2
    go_ret
    exact ⟨rfl, rfl⟩
  · go_enter Tryz.func111, Tryz.ntmps111
    go_wp2
    go_ret
    exact ⟨rfl, rfl⟩

def lowB (v : Int) : Nat → List Int
  | 0 => []
  | k + 1 => (v / 256 ^ k % 256) :: lowB v k

theorem lowB_length (v : Int) (k : Nat) : (lowB v k).length = k := by
  induction k with
  | zero => rfl
  | succ k ih => simp [lowB, ih]

def beL (v : Int) (n k : Nat) : List Int := List.replicate (n - k) 0 ++ lowB v k

theorem beL_zero (v : Int) (n : Nat) : beL v n 0 = List.replicate n 0 := by simp [beL, lowB]
theorem beL_full (v : Int) (n : Nat) : beL v n n = lowB v n := by simp [beL]
theorem beL_length (v : Int) (n k : Nat) (h : k ≤ n) : (beL v n k).length = n := by simp [beL, lowB_length]; omega

theorem beL_set (v : Int) (n k : Nat) (h : k < n) : (beL v n k).set (n - 1 - k) (v / 256 ^ k % 256) = beL v n (k + 1) := by
  obtain ⟨m, rfl⟩ : ∃ m, n = k + 1 + m := ⟨n - (k + 1), by omega⟩
  have e1 : k + 1 + m - 1 - k = m := by omega
  have e2 : k + 1 + m - k = m + 1 := by omega
  have e3 : k + 1 + m - (k + 1) = m := by omega
  rw [beL, beL, e1, e2, e3, List.replicate_succ', List.append_assoc, List.set_append_right _ _ (by simp)]
  simp [lowB]

theorem pow256 (k : Nat) : (2 : Int) ^ (8 * k) = 256 ^ k := by rw [Int.pow_mul]; rfl

theorem put_range (v n : Int) (w : World) (h : n < 1 ∨ 8 < n) :
    Calls Tryz.prog 93 #[.int .u64 v, .int .i64 n] w fun e w' => e = .returned (.tuple #[.string ByteArray.empty, .int .i64 10]) ∧ w' = w := by
  have H : Hid _ := h
  clear h
  go_enter Tryz.func93, Tryz.ntmps93
  go_wp2_with (go_at_call 111; refine (len_no n _ H.out).mono ?_; rintro e w' ⟨rfl, rfl⟩)
  go_ret2
  exact ⟨rfl, rfl⟩

theorem put_over (v : Int) (n : Nat) (w : World) (h1 : 1 ≤ n) (h2 : n ≤ 8) (h : v / 256 ^ n ≠ 0) :
    Calls Tryz.prog 93 #[.int .u64 v, .int .i64 n] w fun e w' => e = .returned (.tuple #[.string ByteArray.empty, .int .i64 11]) ∧ w' = w := by
  have h' : (v / 2 ^ (8 * n) != 0) = true := by rw [bne_iff_ne, pow256]; exact h
  clear h
  go_enter Tryz.func93, Tryz.ntmps93
  go_wp2_with (go_at_call 111; refine (len_yes n _ (by omega) (by omega)).mono ?_; rintro e w' ⟨rfl, rfl⟩)
  go_ret2
  exact ⟨rfl, rfl⟩

set_option maxHeartbeats 800000 in
theorem put_any (v : Int) (n : Nat) (w : World) (h1 : 1 ≤ n) (h2 : n ≤ 8) (h : v / 256 ^ n = 0) :
    Calls Tryz.prog 93 #[.int .u64 v, .int .i64 n] w fun e w' => e = .returned (.tuple #[.string (str (lowB v n)), .int .i64 0]) ∧ w' = w.alloc (.cells (row (lowB v n)) 5) := by
  have h' : (v / 2 ^ (8 * n) != 0) = false := by rw [pow256]; simp [h]
  have hmk := make_row n (by omega)
  clear h
  go_enter Tryz.func93, Tryz.ntmps93
  go_wp2_with (go_at_call 111; refine (len_yes n _ (by omega) (by omega)).mono ?_; rintro e w' ⟨rfl, rfl⟩)
  go_loopw [19] (fun i wr => ∃ k : Nat, k ≤ n ∧ i = .int .i64 k ∧ wr = w'.alloc (.cells (row (beL v n k)) 5)) (fun i _ => (n - intOf i).toNat)
  case atStart => exact ⟨0, by omega, rfl, by rw [beL_zero]⟩
  case round =>
    obtain ⟨k, hk, rfl, rfl⟩ := hrel
    have HL : Hid _ := beL_length v n k hk
    by_cases hlt : k < n
    · have hlt' : (k : Int) < n := by omega
      have hix : ((n : Int) - 1 - k).toNat = n - 1 - k := by omega
      have hsz : n - 1 - k < (row (beL v n k)).size := by rw [row_size, HL.out]; omega
      go_wp2
      go_roundw
      case rel => exact ⟨k + 1, by omega, by go_num, by rw [pow256, row_set, beL_set v n k hlt]⟩
      case measure => simp [intOf]; omega
    · have hlt' : ¬ (k : Int) < n := by omega
      have e : k = n := by omega
      subst e
      rw [beL_full]
      have hcv := conv_row (lowB v k) w' k (lowB_length v k).symm
      go_wp2
      go_ret2
      exact ⟨rfl, rfl⟩

end Go.Proofs.YtmindflfjocjlaaGreat.tpa

namespace Go.Proofs.YtmindflfjocjlaaGreat.tpd
open Go.RowKit Go.PlainAid
open Go.Proofs.YtmindflfjocjlaaGreat.na Go.Proofs.YtmindflfjocjlaaGreat.nb Go.Proofs.YtmindflfjocjlaaGreat.tpa
set_option linter.unusedVariables false

theorem lowB_get (v : Int) (n i : Nat) (h : i < n) : (lowB v n)[i]'(by rw [lowB_length]; exact h) = v / 256 ^ (n - 1 - i) % 256 := by
  induction n generalizing i with
  | zero => omega
  | succ n ih =>
    cases i with
    | zero => simp [lowB]
    | succ i =>
      have e : n + 1 - 1 - (i + 1) = n - 1 - i := by omega
      rw [e]
      exact ih i (by omega)

theorem lowB_byte (v : Int) (n i : Nat) (h : i < n) : 0 ≤ (lowB v n)[i]'(by rw [lowB_length]; exact h) ∧ (lowB v n)[i]'(by rw [lowB_length]; exact h) ≤ 255 := by
  rw [lowB_get v n i h]; omega

theorem str_lowB (v : Int) (n i : Nat) (h : i < n) : bt (str (lowB v n)) i = v / 256 ^ (n - 1 - i) % 256 := by
  have h' : i < (lowB v n).length := by rw [lowB_length]; exact h
  have hb := lowB_byte v n i h
  rw [str_bt _ _ h' hb.1 hb.2, lowB_get v n i h]

theorem beR_div (b : ByteArray) (p k m : Nat) : beR b p (k + m) / 256 ^ m = beR b p k := by
  induction m with
  | zero => simp
  | succ m ih =>
    have c0 := bt_nonneg b (p + (k + m))
    have c1 := bt_le b (p + (k + m))
    have e : beR b p (k + (m + 1)) = beR b p (k + m) * 256 + bt b (p + (k + m)) := rfl
    have e2 : (256 : Int) ^ (m + 1) = 256 * 256 ^ m := by rw [Int.pow_succ, Int.mul_comm]
    rw [e, e2, ← Int.ediv_ediv_of_nonneg (by omega)]
    have e3 : (beR b p (k + m) * 256 + bt b (p + (k + m))) / 256 = beR b p (k + m) := by omega
    rw [e3, ih]

theorem put_read (b : ByteArray) (p n : Nat) (h : p + n ≤ b.size) : str (lowB (beR b p n) n) = b.extract p (p + n) := by
  have hs : (b.extract p (p + n)).size = min (p + n) b.size - p := ByteArray.size_extract
  refine ext_bt _ _ ?_ ?_
  · rw [str_size, lowB_length, hs]; omega
  · intro k hk
    rw [str_size, lowB_length] at hk
    rw [str_lowB _ n k hk, bt_extract b p (p + n) k (by omega) h]
    have e := beR_div b p (k + 1) (n - 1 - k)
    rw [show k + 1 + (n - 1 - k) = n by omega] at e
    rw [e]
    have c0 := bt_nonneg b (p + k)
    have c1 := bt_le b (p + k)
    show (beR b p k * 256 + bt b (p + k)) % 256 = _
    omega

theorem read_fits (b : ByteArray) (p n : Nat) : beR b p n / 256 ^ n = 0 := by
  have h := beR_div b p 0 n
  rw [Nat.zero_add] at h
  exact h
theorem read_upto (b : ByteArray) (p n : Nat) (v : Int) (hv : v / 256 ^ n = 0) (hb : ∀ i, i < n → bt b (p + i) = v / 256 ^ (n - 1 - i) % 256) :
    ∀ k, k ≤ n → beR b p k = v / 256 ^ (n - k) := by
  intro k
  induction k with
  | zero => intro _; exact hv.symm
  | succ k ih =>
    intro hk
    have e : beR b p (k + 1) = beR b p k * 256 + bt b (p + k) := rfl
    rw [e, ih (by omega), hb k (by omega)]
    have e1 : n - (k + 1) = n - 1 - k := by omega
    have e2 : (256 : Int) ^ (n - k) = 256 ^ (n - 1 - k) * 256 := by rw [← Int.pow_succ]; congr 1; omega
    have h0 : (0 : Int) ≤ 256 ^ (n - 1 - k) := Int.pow_nonneg (by omega)
    rw [e1, e2, ← Int.ediv_ediv_of_nonneg h0]
    omega

theorem read_put (b : ByteArray) (p n : Nat) (v : Int) (hv : v / 256 ^ n = 0) (hb : ∀ i, i < n → bt b (p + i) = v / 256 ^ (n - 1 - i) % 256) : beR b p n = v := by
  rw [read_upto b p n v hv hb n (Nat.le_refl _)]; simp

theorem read_str (v : Int) (n : Nat) (hv : v / 256 ^ n = 0) : beR (str (lowB v n)) 0 n = v :=
  read_put _ _ _ _ hv (fun i hi => by rw [Nat.zero_add]; exact str_lowB v n i hi)

theorem read_mid (a c : ByteArray) (v : Int) (n : Nat) (hv : v / 256 ^ n = 0) : beR (a ++ str (lowB v n) ++ c) a.size n = v := by
  refine read_put _ _ _ _ hv (fun i hi => ?_)
  have hs : (a ++ str (lowB v n)).size = a.size + n := by rw [ByteArray.size_append, str_size, lowB_length]
  rw [bt_append_left _ _ _ (by omega), bt_append_right]
  exact str_lowB v n i hi

theorem same_iff (v u : Int) (n : Nat) (hv : v / 256 ^ n = 0) (hu : u / 256 ^ n = 0) : ((str (lowB v n)).toList == (str (lowB u n)).toList) = (v == u) := by
  by_cases h : v = u
  · subst h; simp
  · have h1 : (v == u) = false := by simpa using h
    rw [h1, beq_eq_false_iff_ne]
    intro he
    rw [ByteArray.toList_eq, ByteArray.toList_eq] at he
    have he2 : (str (lowB v n)) = (str (lowB u n)) := ByteArray.ext (Array.toList_inj.1 he)
    apply h
    rw [← read_str v n hv, ← read_str u n hu, he2]

def L (ns : List Int) : List UInt8 := ns.map fun n => UInt8.ofNat n.toNat

theorem str_toList (ns : List Int) : (str ns).toList = L ns := by
  rw [ByteArray.toList_eq, str_data]; simp [L]

theorem split_pow (v : Int) (n : Nat) : v % 256 ^ (n + 1) = v / 256 ^ n % 256 * 256 ^ n + v % 256 ^ n := by
  have hc : (0 : Int) < 256 ^ n := Int.pow_pos (by omega)
  have e : (256 : Int) ^ (n + 1) = 256 ^ n * 256 := Int.pow_succ ..
  rw [e]
  generalize (256 : Int) ^ n = c at *
  have h1 := Int.emod_add_mul_ediv v c
  have h2 := Int.emod_nonneg v (Int.ne_of_gt hc)
  have h3 := Int.emod_lt_of_pos v hc
  have h4 := Int.emod_add_mul_ediv (v / c) 256
  have key : v = (v / c % 256 * c + v % c) + c * 256 * (v / c / 256) := by
    have : c * (v / c) = v / c % 256 * c + c * 256 * (v / c / 256) := by
      conv => lhs; rw [← h4]
      rw [Int.mul_add, Int.mul_comm c (v / c % 256), Int.mul_assoc]
    omega
  have hb0 : 0 ≤ v / c % 256 * c + v % c := by
    have : 0 ≤ v / c % 256 * c := Int.mul_nonneg (by omega) (by omega)
    omega
  have hb1 : v / c % 256 * c + v % c < c * 256 := by
    have : v / c % 256 * c ≤ 255 * c := Int.mul_le_mul_of_nonneg_right (by omega) (by omega)
    omega
  conv => lhs; rw [key]
  rw [Int.add_mul_emod_self_left]
  exact Int.emod_eq_of_lt hb0 hb1

theorem u8_lt (x y : Int) (h0 : 0 ≤ x) (h1 : x < 256) (h2 : 0 ≤ y) (h3 : y < 256) : (UInt8.ofNat x.toNat < UInt8.ofNat y.toNat) ↔ x < y := by
  rw [UInt8.lt_iff_toNat_lt]
  simp
  omega

theorem u8_eq (x y : Int) (h0 : 0 ≤ x) (h1 : x < 256) (h2 : 0 ≤ y) (h3 : y < 256) : (UInt8.ofNat x.toNat == UInt8.ofNat y.toNat) = (x == y) := by
  rw [Bool.eq_iff_iff, beq_iff_eq, beq_iff_eq, ← UInt8.toNat_inj]
  simp
  omega

theorem less_low (v u : Int) (n : Nat) : Op.bytesLess (L (lowB v n)) (L (lowB u n)) = decide (v % 256 ^ n < u % 256 ^ n) := by
  induction n with
  | zero => simp [lowB, L, Op.bytesLess, Int.emod_one]
  | succ n ih =>
    have hc : (0 : Int) < 256 ^ n := Int.pow_pos (by omega)
    have hl : ∀ z : Int, L (lowB z (n + 1)) = UInt8.ofNat (z / 256 ^ n % 256).toNat :: L (lowB z n) := fun z => rfl
    rw [hl, hl, Op.bytesLess, ih, split_pow v n, split_pow u n, u8_eq _ _ (by omega) (by omega) (by omega) (by omega)]
    have hlt := u8_lt (v / 256 ^ n % 256) (u / 256 ^ n % 256) (by omega) (by omega) (by omega) (by omega)
    have a1 := Int.emod_nonneg v (Int.ne_of_gt hc)
    have a2 := Int.emod_lt_of_pos v hc
    have a3 := Int.emod_nonneg u (Int.ne_of_gt hc)
    have a4 := Int.emod_lt_of_pos u hc
    generalize v / 256 ^ n % 256 = x at *
    generalize u / 256 ^ n % 256 = y at *
    generalize v % 256 ^ n = r at *
    generalize u % 256 ^ n = q at *
    generalize (256 : Int) ^ n = c at *
    have hd : decide (UInt8.ofNat x.toNat < UInt8.ofNat y.toNat) = decide (x < y) := decide_eq_decide.2 hlt
    rw [hd]
    by_cases h1 : x < y
    · have : (x + 1) * c ≤ y * c := Int.mul_le_mul_of_nonneg_right (by omega) (by omega)
      rw [Int.add_mul] at this
      have : x * c + r < y * c + q := by omega
      simp [h1, this]
    · by_cases h2 : x = y
      · subst h2; simp
      · have h3 : (y + 1) * c ≤ x * c := Int.mul_le_mul_of_nonneg_right (by omega) (by omega)
        rw [Int.add_mul] at h3
        have h4 : ¬ x * c + r < y * c + q := by omega
        have h5 : (x == y) = false := by simpa using h2
        simp [h1, h4, h5]

theorem fits_mod (v : Int) (n : Nat) (hv : v / 256 ^ n = 0) : v % 256 ^ n = v := by
  have h := Int.emod_add_mul_ediv v (256 ^ n)
  rw [hv] at h; omega

theorem less_iff (v u : Int) (n : Nat) (hv : v / 256 ^ n = 0) (hu : u / 256 ^ n = 0) : Op.bytesLess (str (lowB v n)).toList (str (lowB u n)).toList = decide (v < u) := by
  rw [str_toList, str_toList, less_low, fits_mod v n hv, fits_mod u n hu]

theorem fits_iff (v : Int) (n : Nat) (h0 : 0 ≤ v) : v / 256 ^ n = 0 ↔ v < 256 ^ n := by
  have hc : (0 : Int) < 256 ^ n := Int.pow_pos (by omega)
  constructor
  · intro h
    have := fits_mod v n h
    have := Int.emod_lt_of_pos v hc
    omega
  · intro h; exact Int.ediv_eq_zero_of_lt h0 h
end Go.Proofs.YtmindflfjocjlaaGreat.tpd

namespace Go.Proofs.YtmindflfjocjlaaGreat.tra
set_option linter.unusedVariables false

-- one step of the register
def PO : Nat := 3988292384
def st (r : Nat) : Nat := if r % 2 = 1 then (r / 2) ^^^ PO else r / 2

theorem par (a b : Nat) : (a ^^^ b) % 2 = (a + b) % 2 := by
  have h : (a ^^^ b) % 2 ^ 1 = (a % 2 ^ 1) ^^^ (b % 2 ^ 1) := Nat.xor_mod_two_pow
  rw [Nat.pow_one] at h
  rw [h]
  rcases Nat.mod_two_eq_zero_or_one a with ha | ha <;> rcases Nat.mod_two_eq_zero_or_one b with hb | hb <;> rw [ha, hb, Nat.add_mod, ha, hb] <;> rfl
theorem xor_zero_eq (x y : Nat) (h : x ^^^ y = 0) : x = y := by
  have e : (x ^^^ y) ^^^ y = x := by rw [Nat.xor_assoc, Nat.xor_self, Nat.xor_zero]
  rw [h, Nat.zero_xor] at e
  exact e.symm
theorem mul_xor (a b n : Nat) : (a ^^^ b) * 2 ^ n = (a * 2 ^ n) ^^^ (b * 2 ^ n) := by
  rw [← Nat.shiftLeft_eq, ← Nat.shiftLeft_eq, ← Nat.shiftLeft_eq, Nat.shiftLeft_xor_distrib]

theorem st_xor (a b : Nat) : st (a ^^^ b) = st a ^^^ st b := by
  have h1 : (a ^^^ b) % 2 = (a + b) % 2 := par a b
  have h2 : (a ^^^ b) / 2 = (a / 2) ^^^ (b / 2) := Nat.xor_div_two
  unfold st
  rw [h1, h2]
  rcases Nat.mod_two_eq_zero_or_one a with ha | ha <;> rcases Nat.mod_two_eq_zero_or_one b with hb | hb
  · rw [if_neg (by omega), if_neg (by omega), if_neg (by omega)]
  · rw [if_pos (by omega), if_neg (by omega), if_pos (by omega), Nat.xor_assoc]
  · rw [if_pos (by omega), if_pos (by omega), if_neg (by omega), Nat.xor_assoc, Nat.xor_assoc, Nat.xor_comm (b / 2) PO]
  · rw [if_neg (by omega), if_pos (by omega), if_pos (by omega)]
    rw [Nat.xor_assoc, Nat.xor_comm PO, Nat.xor_assoc, Nat.xor_self, Nat.xor_zero]

def sts : Nat → Nat → Nat
  | 0, r => r
  | k + 1, r => sts k (st r)
theorem sts_xor (k a b : Nat) : sts k (a ^^^ b) = sts k a ^^^ sts k b := by
  induction k generalizing a b with
  | zero => rfl
  | succ k ih => rw [sts, sts, sts, st_xor, ih]
theorem sts_add (m n r : Nat) : sts (m + n) r = sts n (sts m r) := by
  induction m generalizing r with
  | zero => rw [Nat.zero_add]; rfl
  | succ m ih => rw [show m + 1 + n = (m + n) + 1 by omega, sts, sts, ih]
theorem st_two (r : Nat) : st (r * 2) = r := by unfold st; rw [if_neg (by omega)]; omega
theorem sts_shift (k r : Nat) : sts k (r * 2 ^ k) = r := by
  induction k generalizing r with
  | zero => simp [sts]
  | succ k ih => rw [sts, show r * 2 ^ (k + 1) = (r * 2 ^ k) * 2 by rw [Nat.pow_succ, Nat.mul_assoc], st_two, ih]

theorem st_lt (r : Nat) (h : r < 4294967296) : st r < 4294967296 := by
  unfold st
  split
  · exact Nat.xor_lt_two_pow (n := 32) (by omega) (by decide)
  · omega
theorem sts_lt (k r : Nat) (h : r < 4294967296) : sts k r < 4294967296 := by
  induction k generalizing r with
  | zero => exact h
  | succ k ih => exact ih _ (st_lt r h)
theorem st_zero (r : Nat) (h : r < 4294967296) (hz : st r = 0) : r = 0 := by
  unfold st at hz
  split at hz
  · have e : r / 2 = PO := xor_zero_eq _ _ hz
    unfold PO at e
    omega
  · omega
theorem sts_zero (k r : Nat) (h : r < 4294967296) (hz : sts k r = 0) : r = 0 := by
  induction k generalizing r with
  | zero => exact hz
  | succ k ih => exact st_zero r h (ih _ (st_lt r h) hz)

-- bytes
def bs (r c : Nat) : Nat := sts 8 (r ^^^ c)
def crcR (r : Nat) (l : List Nat) : Nat := l.foldl bs r
theorem crcR_append (r : Nat) (a b : List Nat) : crcR r (a ++ b) = crcR (crcR r a) b := List.foldl_append
theorem crcR_snoc (r : Nat) (a : List Nat) (c : Nat) : crcR r (a ++ [c]) = bs (crcR r a) c := by rw [crcR_append]; rfl
theorem bs_lt (r c : Nat) (h : r < 4294967296) (hc : c < 256) : bs r c < 4294967296 := sts_lt 8 _ (Nat.xor_lt_two_pow (n := 32) h (by omega))

-- the text as one number, its lowest bit first
def le : List Nat → Nat
  | [] => 0
  | c :: l => c ^^^ (le l * 2 ^ 8)

theorem crc_le (l : List Nat) (r : Nat) : crcR r l = sts (8 * l.length) (r ^^^ le l) := by
  induction l generalizing r with
  | nil => simp [crcR, le, sts]
  | cons c l ih =>
    show crcR (bs r c) l = _
    rw [ih, List.length_cons, show 8 * (l.length + 1) = 8 + 8 * l.length by omega, sts_add, le, ← Nat.xor_assoc, sts_xor 8, sts_shift]
    rfl

theorem le_zip (a b : List Nat) (h : a.length = b.length) : le (List.zipWith (· ^^^ ·) a b) = le a ^^^ le b := by
  induction a generalizing b with
  | nil => cases b with
    | nil => rfl
    | cons => simp at h
  | cons x a ih => cases b with
    | nil => simp at h
    | cons y b =>
      have hl : a.length = b.length := by simpa using h
      rw [List.zipWith_cons_cons, le, le, le, ih b hl, mul_xor]
      rw [Nat.xor_assoc, Nat.xor_assoc, ← Nat.xor_assoc y, Nat.xor_comm y (le a * 2 ^ 8), Nat.xor_assoc]

-- three texts xored (one length)
theorem crc_three (r : Nat) (a b c : List Nat) (h1 : a.length = b.length) (h2 : b.length = c.length) :
    crcR r (List.zipWith (· ^^^ ·) (List.zipWith (· ^^^ ·) a b) c) = crcR r a ^^^ crcR r b ^^^ crcR r c := by
  have hz : (List.zipWith (· ^^^ ·) a b).length = a.length := by simp; omega
  have hz2 : (List.zipWith (· ^^^ ·) (List.zipWith (· ^^^ ·) a b) c).length = a.length := by simp; omega
  rw [crc_le, crc_le, crc_le, crc_le, hz2, ← h2, ← h1, le_zip _ _ (by omega), le_zip _ _ h1, ← sts_xor, ← sts_xor]
  congr 1
  rw [show (r ^^^ le a) ^^^ (r ^^^ le b) = le a ^^^ le b by rw [Nat.xor_comm r (le a), Nat.xor_assoc, ← Nat.xor_assoc r, Nat.xor_self, Nat.zero_xor]]
  rw [← Nat.xor_assoc, Nat.xor_comm r (le a ^^^ le b), Nat.xor_assoc]

-- a bit turned
theorem le_set (l : List Nat) (i x : Nat) (h : i < l.length) : le (l.set i (l[i] ^^^ x)) = le l ^^^ (x * 2 ^ (8 * i)) := by
  induction l generalizing i with
  | nil => simp at h
  | cons c l ih =>
    cases i with
    | zero =>
      rw [List.set_cons_zero, le, le]
      simp only [List.getElem_cons_zero, Nat.mul_zero, Nat.pow_zero, Nat.mul_one]
      rw [Nat.xor_assoc, Nat.xor_comm x, Nat.xor_assoc]
    | succ i =>
      have hi : i < l.length := by simpa using h
      rw [List.set_cons_succ, le, le]
      simp only [List.getElem_cons_succ]
      rw [ih i hi, mul_xor, Nat.xor_assoc, Nat.mul_assoc, ← Nat.pow_add, show 8 * i + 8 = 8 * (i + 1) by omega]

-- some bits turned within 32: another sum
theorem burst (r : Nat) (a b : List Nat) (hl : a.length = b.length) (p at_ : Nat) (h0 : p ≠ 0) (h1 : p < 4294967296) (ha : at_ ≤ 8 * a.length) (he : le b = le a ^^^ (p * 2 ^ at_)) : crcR r a ≠ crcR r b := by
  intro e
  rw [crc_le, crc_le, ← hl, he, ← Nat.xor_assoc, sts_xor _ (r ^^^ le a)] at e
  have e2 : sts (8 * a.length) (p * 2 ^ at_) = 0 := by
    have h := congrArg (fun z => sts (8 * a.length) (r ^^^ le a) ^^^ z) e
    simp only [Nat.xor_self, ← Nat.xor_assoc, Nat.zero_xor] at h
    exact h.symm
  rw [show 8 * a.length = at_ + (8 * a.length - at_) by omega, sts_add, sts_shift] at e2
  exact h0 (sts_zero _ p h1 e2)

-- by a table: one look-up a byte
theorem split_low (x : Nat) : x = (x % 256) ^^^ ((x / 256) * 2 ^ 8) := by
  have h : x = x % 256 + 2 ^ 8 * (x / 256) := by omega
  have h2 : 2 ^ 8 * (x / 256) + x % 256 = 2 ^ 8 * (x / 256) ||| x % 256 := Nat.two_pow_add_eq_or_of_lt (by omega) _
  apply Nat.eq_of_testBit_eq
  intro i
  rw [Nat.testBit_xor, Nat.testBit_mul_two_pow]
  by_cases hi : i < 8
  · have h3 : (x % 2 ^ 8).testBit i = (decide (i < 8) && x.testBit i) := Nat.testBit_mod_two_pow x 8 i
    have h4 : (x % 256).testBit i = x.testBit i := by rw [show (256 : Nat) = 2 ^ 8 by rfl, h3]; simp [hi]
    rw [h4]
    simp [show ¬ 8 ≤ i by omega]
  · have h3 : (x % 2 ^ 8).testBit i = (decide (i < 8) && x.testBit i) := Nat.testBit_mod_two_pow x 8 i
    have h4 : (x % 256).testBit i = false := by rw [show (256 : Nat) = 2 ^ 8 by rfl, h3]; simp [hi]
    have h5 : (x / 2 ^ 8).testBit (i - 8) = x.testBit (i - 8 + 8) := Nat.testBit_div_two_pow x (i - 8)
    rw [h4, show (256 : Nat) = 2 ^ 8 by rfl, h5, show i - 8 + 8 = i by omega]
    simp [show 8 ≤ i by omega]
theorem bs_table (r c : Nat) (hc : c < 256) : bs r c = sts 8 ((r ^^^ c) % 256) ^^^ (r / 256) := by
  have e : (r ^^^ c) / 256 = r / 256 := by
    have h : (r ^^^ c) / 2 ^ 8 = (r / 2 ^ 8) ^^^ (c / 2 ^ 8) := Nat.xor_div_two_pow
    rw [show (256 : Nat) = 2 ^ 8 by rfl, h, Nat.div_eq_of_lt (show c < 2 ^ 8 by omega), Nat.xor_zero]
  have h : sts 8 (r ^^^ c) = sts 8 (((r ^^^ c) % 256) ^^^ (((r ^^^ c) / 256) * 2 ^ 8)) := congrArg (sts 8) (split_low (r ^^^ c))
  unfold bs
  rw [h, sts_xor, sts_shift, e]

-- the sum of a text
def FF : Nat := 4294967295
def onF (crc : Nat) (l : List Nat) : Nat := crcR (crc ^^^ FF) l ^^^ FF
theorem ff_ff (x : Nat) : (x ^^^ FF) ^^^ FF = x := by rw [Nat.xor_assoc, Nat.xor_self, Nat.xor_zero]
theorem onF_append (crc : Nat) (a b : List Nat) : onF (onF crc a) b = onF crc (a ++ b) := by
  unfold onF
  rw [ff_ff, crcR_append]
theorem onF_ne (crc : Nat) (a b : List Nat) (h : crcR (crc ^^^ FF) a ≠ crcR (crc ^^^ FF) b) : onF crc a ≠ onF crc b := by
  intro e
  have := congrArg (· ^^^ FF) e
  simp only [onF, ff_ff] at this
  exact h this
theorem onF_three (crc : Nat) (a b c : List Nat) (h1 : a.length = b.length) (h2 : b.length = c.length) : onF crc (List.zipWith (· ^^^ ·) (List.zipWith (· ^^^ ·) a b) c) = onF crc a ^^^ onF crc b ^^^ onF crc c := by
  unfold onF
  rw [crc_three _ a b c h1 h2]
  generalize crcR (crc ^^^ FF) a = x
  generalize crcR (crc ^^^ FF) b = y
  generalize crcR (crc ^^^ FF) c = z
  rw [show (x ^^^ FF) ^^^ (y ^^^ FF) = x ^^^ y by rw [Nat.xor_comm y FF, Nat.xor_assoc, ← Nat.xor_assoc FF, Nat.xor_self, Nat.zero_xor], Nat.xor_assoc]
theorem crcR_lt (r : Nat) (l : List Nat) (h : r < 4294967296) (hl : ∀ c ∈ l, c < 256) : crcR r l < 4294967296 := by
  induction l generalizing r with
  | nil => exact h
  | cons c l ih => exact ih _ (bs_lt r c h (hl c (List.mem_cons_self ..))) (fun x hx => hl x (List.mem_cons_of_mem _ hx))
theorem xor_ff_lt (x : Nat) (h : x < 4294967296) : x ^^^ FF < 4294967296 := Nat.xor_lt_two_pow (n := 32) h (by decide)
theorem onF_lt (crc : Nat) (l : List Nat) (h : crc < 4294967296) (hl : ∀ c ∈ l, c < 256) : onF crc l < 4294967296 := xor_ff_lt _ (crcR_lt _ l (xor_ff_lt crc h) hl)
end Go.Proofs.YtmindflfjocjlaaGreat.tra
