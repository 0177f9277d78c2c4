import Derived.Test.YtjbaagcpcdmcnaaE1
import Derived.Test.YtjbaagcpcdmcnaaE0
import Derived.Laws.Cover1
import Derived.Deep.RegionWith
import Derived.Test.YtjbaagcpcdmcnaaZh
import Derived.Deep.RegionHeld3
namespace Go.Proofs.Ytjbaagcpcdmcnaa.xm
open Go.RowKit Go.PlainAid Go.Maps Go.Shelf
open Go.Proofs.Ytjbaagcpcdmcnaa.ca Go.Proofs.Ytjbaagcpcdmcnaa.cb Go.Proofs.Ytjbaagcpcdmcnaa.cp Go.Proofs.Ytjbaagcpcdmcnaa.kp Go.Proofs.Ytjbaagcpcdmcnaa.ka Go.Proofs.Ytjbaagcpcdmcnaa.na Go.Proofs.Ytjbaagcpcdmcnaa.ya Go.Proofs.Ytjbaagcpcdmcnaa.yb Go.Proofs.Ytjbaagcpcdmcnaa.yc Go.Proofs.Ytjbaagcpcdmcnaa.ye Go.Proofs.Ytjbaagcpcdmcnaa.yf Go.Proofs.Ytjbaagcpcdmcnaa.yo Go.Proofs.Ytjbaagcpcdmcnaa.yp Go.Proofs.Ytjbaagcpcdmcnaa.ze Go.Proofs.Ytjbaagcpcdmcnaa.zf Go.Proofs.Ytjbaagcpcdmcnaa.xa Go.Proofs.Ytjbaagcpcdmcnaa.xc
set_option linter.unusedVariables false
set_option linter.unusedSimpArgs false
-- a piece of a text
theorem ext_mid (t x : ByteArray) (A Z : List UInt8) (h : bs t = A ++ (bs x ++ Z)) : t.extract A.length (A.length + x.size) = x := by
  apply bs_inj
  rw [bs_ext, h, List.drop_left, ← bs_len x]
  rw [show A.length + (bs x).length - A.length = (bs x).length by omega, List.take_left]
theorem bt_mid (t : ByteArray) (A Z : List UInt8) (u : UInt8) (h : bs t = A ++ (u :: Z)) : bt t A.length = u.toNat := by
  apply bt_bs
  rw [h, List.getElem?_append_right (Nat.le_refl _), Nat.sub_self]
  rfl
theorem be_mid (t : ByteArray) (A Z : List UInt8) (n : Nat) (hn : n < 4294967296) (h : bs t = A ++ (beN 4 n 4 ++ Z)) : beR t A.length 4 = n := by
  have e : beN 4 n 4 = [UInt8.ofNat (n / 16777216), UInt8.ofNat (n / 65536), UInt8.ofNat (n / 256), UInt8.ofNat n] := by simp [beN]
  rw [e] at h
  have h0 := bt_mid t A _ _ h
  have h1 := bt_mid t (A ++ [UInt8.ofNat (n / 16777216)]) ([UInt8.ofNat (n / 256), UInt8.ofNat n] ++ Z) (UInt8.ofNat (n / 65536)) (by rw [h]; simp)
  have h2 := bt_mid t (A ++ [UInt8.ofNat (n / 16777216), UInt8.ofNat (n / 65536)]) ([UInt8.ofNat n] ++ Z) (UInt8.ofNat (n / 256)) (by rw [h]; simp)
  have h3 := bt_mid t (A ++ [UInt8.ofNat (n / 16777216), UInt8.ofNat (n / 65536), UInt8.ofNat (n / 256)]) Z (UInt8.ofNat n) (by rw [h]; simp)
  simp only [List.length_append, List.length_cons, List.length_nil] at h1 h2 h3
  show (((0 * 256 + bt t (A.length + 0)) * 256 + bt t (A.length + 1)) * 256 + bt t (A.length + 2)) * 256 + bt t (A.length + 3) = _
  rw [Nat.add_zero, h0, h1, h2, h3]
  simp
  omega
set_option maxHeartbeats 1600000 in
theorem numberD (t : ByteArray) (p : Nat) (w : World) (hs : t.size ≤ 140737488355328) (hp : p + 4 ≤ t.size) : Calls Try.prog 72 #[.string t, .int .i64 p] w fun e w' => e = .returned (.int .i64 (beR t p 4)) ∧ w' = w := by
  have hbt := get_bt t
  go_enter Try.func72, Try.ntmps72
  go_wp2_with fail
  go_loop [5, 6] (fun v i => ∃ (k : Nat), k ≤ 4 ∧ v = .int .i64 (beR t p k) ∧ i = .int .i64 k) (fun _ i => (4 - intOf i).toNat)
  case atStart => exact ⟨0, by omega, rfl, rfl⟩
  case round =>
    obtain ⟨k, hk, rfl, rfl⟩ := hrel
    by_cases hlt : k < 4
    · have hlt' : (k : Int) < 4 := by omega
      have hpk : p + k < t.size := by omega
      have hpk' : (p : Int) + (k : Int) < (t.size : Int) := by omega
      have hpn : ((p : Int) + (k : Int)).toNat = p + k := by omega
      have hc0 := bt_nonneg t (p + k)
      have hc1 := bt_le t (p + k)
      have hv0 := beR_nonneg t p k
      have hv1 : beR t p k < 16777216 := by
        have h := beR_lt t p k
        have h2 : (256 : Int) ^ k ≤ 256 ^ 3 := ipow_le 256 (by omega) (by omega)
        have h3 : (256 : Int) ^ 3 = 16777216 := by decide
        omega
      have HS : Hid (beR t p (k + 1) = beR t p k * 256 + bt t (p + k)) := rfl
      go_wp2
      go_round
      case rel => exact ⟨k + 1, by omega, by rw [HS.out, Int.mul_comm (beR t p k) 256], by go_num⟩
      case measure => simp [intOf]; omega
    · have hlt' : ¬ (k : Int) < 4 := by omega
      obtain rfl : k = 4 := by omega
      go_wp2
      go_ret
      exact ⟨rfl, rfl⟩
-- a record that stands in a text
set_option maxRecDepth 8000 in
set_option maxHeartbeats 3200000 in
theorem oneD (t k d : ByteArray) (A Y : List UInt8) (w : World) (hs : t.size ≤ 140737488355328) (hk : 1 ≤ k.size ∧ k.size ≤ 64) (hd : d.size ≤ 1048576) (h : bs t = A ++ (beN 1 k.size 1 ++ (bs k ++ (beN 4 d.size 4 ++ (bs d ++ Y))))) :
    Calls Try.prog 46 #[.string t, .int .i64 (A.length : Nat)] w fun e w' => e = .returned (.tuple #[.agg #[.string k, .string d], .int .i64 ((A.length + 1 + k.size + 4 + d.size : Nat) : Int)]) ∧ Below w.heap.size w w' := by
  have e1 : beN 1 k.size 1 = [UInt8.ofNat k.size] := by simp [beN]
  have hz : t.size = A.length + 1 + k.size + 4 + d.size + Y.length := by rw [← bs_len, h]; simp [beN_len, bs_len]; omega
  have q0 : bt t A.length = (k.size : Int) := by
    have := bt_mid t A _ (UInt8.ofNat k.size) (by rw [h, e1]; rfl)
    rw [this]; simp; omega
  have q1 : t.extract (A.length + 1) (A.length + 1 + k.size) = k := by
    have := ext_mid t k (A ++ beN 1 k.size 1) _ (by rw [h, List.append_assoc])
    rw [List.length_append, beN_len] at this
    exact this
  have q2 : beR t (A.length + 1 + k.size) 4 = (d.size : Int) := by
    have := be_mid t (A ++ (beN 1 k.size 1 ++ bs k)) (bs d ++ Y) d.size (by omega) (by rw [h]; simp)
    simp only [List.length_append, beN_len, bs_len] at this
    rw [← Nat.add_assoc] at this
    exact this
  have q3 : t.extract (A.length + 1 + k.size + 4) (A.length + 1 + k.size + 4 + d.size) = d := by
    have := ext_mid t d (A ++ (beN 1 k.size 1 ++ (bs k ++ beN 4 d.size 4))) Y (by rw [h]; simp)
    simp only [List.length_append, beN_len, bs_len] at this
    rw [show A.length + (1 + (k.size + 4)) = A.length + 1 + k.size + 4 by omega] at this
    exact this
  obtain ⟨P, HP⟩ : ∃ P, Hid (A.length = P) := ⟨_, rfl⟩
  obtain ⟨n, HN⟩ : ∃ n, Hid (k.size = n) := ⟨_, rfl⟩
  obtain ⟨m, HM⟩ : ∃ n, Hid (d.size = n) := ⟨_, rfl⟩
  have C : Hid (Calls _ _ _ _ _) := numberD t (A.length + 1 + k.size) w hs (by omega)
  have CN : Hid (∀ w, Calls Try.prog 72 #[.string t, .int .i64 (((P + 1 + n : Nat)) : Int)] w fun e w' => e = .returned (.int .i64 (m : Nat)) ∧ w' = w) := fun w => by
    have := numberD t (A.length + 1 + k.size) w hs (by omega)
    rw [q2, HP.out, HN.out, HM.out] at this
    exact this
  rw [HP.out, HN.out, HM.out] at q3 hz
  rw [HP.out, HN.out] at q1 q0
  rw [HN.out] at hk
  rw [HM.out] at hd
  rw [HP.out, HN.out, HM.out]
  have hbt := get_bt t
  have hPt : P < t.size := by omega
  have sl1 : ∀ w, (Instr.slice 9 (.string t) (some (.int .i64 ((P : Int) + 1))) (some (.int .i64 ((P : Int) + 1 + (n : Int)))) none).run Try.prog w = .ok (.string k) w := fun w => by
    have := run_slice_string (P := Try.prog) w 9 t .i64 .i64 ((P : Int) + 1) ((P : Int) + 1 + (n : Int)) Try.underlying9 (by omega) (by omega) (by omega)
    rw [show ((P : Int) + 1).toNat = P + 1 by omega, show ((P : Int) + 1 + (n : Int)).toNat = P + 1 + n by omega, q1] at this
    exact this
  have sl2 : ∀ w, (Instr.slice 9 (.string t) (some (.int .i64 ((P : Int) + 1 + (n : Int) + 4))) (some (.int .i64 ((P : Int) + 1 + (n : Int) + 4 + (m : Int)))) none).run Try.prog w = .ok (.string d) w := fun w => by
    have := run_slice_string (P := Try.prog) w 9 t .i64 .i64 ((P : Int) + 1 + (n : Int) + 4) ((P : Int) + 1 + (n : Int) + 4 + (m : Int)) Try.underlying9 (by omega) (by omega) (by omega)
    rw [show ((P : Int) + 1 + (n : Int) + 4).toNat = P + 1 + n + 4 by omega, show ((P : Int) + 1 + (n : Int) + 4 + (m : Int)).toNat = P + 1 + n + 4 + m by omega, q3] at this
    exact this
  have hPi : (P : Int) < (t.size : Int) := by omega
  have g1 : ¬ ((n : Int) < 1) := by omega
  have g2 : ¬ ((n : Int) > 64) := by omega
  have g3 : ¬ ((t.size : Int) - (P : Int) - 1 < (n : Int) + 4) := by omega
  have g4 : ¬ ((m : Int) > 1048576) := by omega
  have g5 : ¬ ((t.size : Int) - ((P : Int) + 1 + (n : Int)) - 4 < (m : Int)) := by omega
  have HB0 : Hid (Below w.heap.size w (w.alloc (.cells #[.string k, .string d] 80))) := (Below.refl _ _).alloc (Nat.le_refl _) _
  clear h e1 q1 q2 q3 C
  go_enter Try.func46, Try.ntmps46
  go_wp2_with (first | (go_at_call 72; refine (CN.out _).mono ?_; rintro _ wz ⟨rfl, hwz⟩; rw [hwz]; clear hwz) | go_in)
  have p0 : (w.alloc (.cells #[.string k, .string d] 80)).cell? ⟨w.heap.size, 0, none⟩ = some (.string k) := by rw [World.cell?_alloc_new]; rfl
  have p1 : (w.alloc (.cells #[.string k, .string d] 80)).cell? ⟨w.heap.size, 1, none⟩ = some (.string d) := by rw [World.cell?_alloc_new]; rfl
  refine bodyPost_ret (by simp [results, Try.results46, go_sem, p0, p1]; try rfl) rfl ?_
  exact ⟨by push_cast; rfl, HB0.out⟩
end Go.Proofs.Ytjbaagcpcdmcnaa.xm

namespace Go.Proofs.Ytjbaagcpcdmcnaa.xn
open Go.RowKit Go.PlainAid Go.Maps Go.Shelf
open Go.Proofs.Ytjbaagcpcdmcnaa.ca Go.Proofs.Ytjbaagcpcdmcnaa.cb Go.Proofs.Ytjbaagcpcdmcnaa.cp Go.Proofs.Ytjbaagcpcdmcnaa.kp Go.Proofs.Ytjbaagcpcdmcnaa.ka Go.Proofs.Ytjbaagcpcdmcnaa.na Go.Proofs.Ytjbaagcpcdmcnaa.ya Go.Proofs.Ytjbaagcpcdmcnaa.yb Go.Proofs.Ytjbaagcpcdmcnaa.yc Go.Proofs.Ytjbaagcpcdmcnaa.ye Go.Proofs.Ytjbaagcpcdmcnaa.yo Go.Proofs.Ytjbaagcpcdmcnaa.yp Go.Proofs.Ytjbaagcpcdmcnaa.ze Go.Proofs.Ytjbaagcpcdmcnaa.zf Go.Proofs.Ytjbaagcpcdmcnaa.xa Go.Proofs.Ytjbaagcpcdmcnaa.xb Go.Proofs.Ytjbaagcpcdmcnaa.xc Go.Proofs.Ytjbaagcpcdmcnaa.xm
open Go.Proofs.Ytjbaagcpcdmcnaa.yf (own_tag own_kp)
open Go.Proofs.Ytjbaagcpcdmcnaa.yd (below_grownBy)
set_option linter.unusedVariables false
set_option linter.unusedSimpArgs false
def s00 (c : Int) : S := ⟨c, [], [], 0, false, 0⟩
-- the store that is being read
structure Op1 (w0 : World) (c : Int) (dv : Value) (l : List Rec) (w : World) : Prop where
  row : Dt w0.heap.size dv (.slice none 0 0) (.slice none 0 0) (s00 c) w
  dl : Lr w0.heap.size dv l w
  bl : Below w0.heap.size w0 w
theorem Op1.later {w0 : World} {c : Int} {dv : Value} {l : List Rec} {w w' : World} (h : Op1 w0 c dv l w) (b : Below w.heap.size w w') : Op1 w0 c dv l w' := ⟨(b.block _ h.row.lt).trans h.row, h.dl.later b, over h.bl b⟩
theorem Op1.grown {w0 : World} {c : Int} {dv v' : Value} {l : List Rec} {k d : ByteArray} {w w' : World} (h : Op1 w0 c dv l w) (ho : w'.ownsRow w0.heap.size 80 2 v' (l.length + 1) (rcs l ++ [.string k, .string d])) (hg : w.grownBy w' dv.ownBlock) : Dt w0.heap.size dv (.slice none 0 0) (.slice none 0 0) (s00 c) w' ∧ Op1 w0 c v' (l ++ [(k, d)]) (w'.setCell ⟨w0.heap.size, 1, none⟩ v') := by
  have hne : some w0.heap.size ≠ dv.ownBlock := own_tag h.dl h.row dr1
  have hr : Dt w0.heap.size dv (.slice none 0 0) (.slice none 0 0) (s00 c) w' := (hg.block _ h.row.lt hne).trans h.row
  have hb : Below w0.heap.size w0 w' := below_grownBy h.bl hg (Nat.le_refl _) (fun j hj => (h.dl.lt j hj).1)
  have hn2 : some w0.heap.size ≠ v'.ownBlock := own_tag ho hr dr1
  have ho2 : Lr w0.heap.size v' (l ++ [(k, d)]) w' := by
    unfold Lr
    rw [List.length_append, rcs_app]
    exact ho
  exact ⟨hr, hr.set1 v', own_kp ho2 (Kp.setCell (A := fun j => j = w0.heap.size) _ _ _ _ rfl) (fun j hj e => hn2 (by rw [← e]; exact hj)), hb.setCell (Nat.le_refl _) _⟩
def Zj (r : List Rec) (j : Nat) : Nat := 1 + (recsB (r.take j)).length
theorem recs_split (r : List Rec) (j : Nat) : recsB r = recsB (r.take j) ++ recsB (r.drop j) := by
  unfold recsB
  rw [← List.flatMap_append, List.take_append_drop]
theorem img_bs (r : List Rec) : bs (imageT r) = 83 :: recsB r := by simp [imageT, imgB, recsB, bs]
theorem zj_next {r : List Rec} {j : Nat} {p : Rec} (hp : r[j]? = some p) : Zj r (j + 1) = Zj r j + 1 + p.1.size + 4 + p.2.size := by
  have hj := (List.getElem?_eq_some_iff.1 hp).1
  have h1 := congrArg List.length (recs_split r j)
  have h2 := congrArg List.length (recs_split r (j + 1))
  have h3 := congrArg List.length (recs_at hp)
  simp only [List.length_append, beN_len, bs_len] at h1 h2 h3
  unfold Zj
  omega
theorem zj_all (r : List Rec) : Zj r r.length = (imageT r).size := by
  rw [← bs_len, img_bs, List.length_cons]
  unfold Zj
  rw [List.take_length]
  omega
theorem zj_le (r : List Rec) (j : Nat) : Zj r j ≤ (imageT r).size := by
  rw [← bs_len, img_bs, List.length_cons]
  have h1 := congrArg List.length (recs_split r j)
  rw [List.length_append] at h1
  unfold Zj
  omega
theorem img_size (r : List Rec) : (imageT r).size ≤ isz r + 1 := by
  rw [← bs_len, img_bs, List.length_cons]
  have := recs_len r 0
  rw [List.drop_zero] at this
  omega
set_option maxRecDepth 20000 in
set_option maxHeartbeats 6400000 in
theorem openD (r : List Rec) (c : Int) (w : World) (hc : 0 ≤ c ∧ c ≤ 1073741824) (hs : Srt r) (hok : OkR r) (hz : isz r ≤ 140737488355000) (hl : r.length < 3518437208883) :
    Calls Try.prog 13 #[.string (imageT r), .int .i64 c] w fun e w' => ∃ dv, e = .returned (.tuple #[.pointer (some ⟨w.heap.size, 0, none⟩), .int .i64 0]) ∧ Ds w.heap.size w.heap.size dv (.slice none 0 0) dv ⟨c, r, [], 0, false, 0⟩ w' ∧ Below w.heap.size w w' := by
  obtain ⟨i0, hi0, hz0, hz1, hz2⟩ := info_parts info_R
  have HIN : Hid (_ ∧ _ ∧ _ ∧ _) := ⟨hi0, hz0, hz1, hz2⟩
  clear hi0 hz0 hz1 hz2
  have q1 : decide (c < 0) = false := decide_eq_false (by omega)
  have q2 : decide (1073741824 < c) = false := decide_eq_false (by omega)
  have hisz := img_size r
  have hlr := len_isz r
  have b0 : bt (imageT r) 0 = 83 := bt_bs (imageT r) 0 83 (by rw [img_bs]; rfl)
  have hne : ((imageT r).toList == []) = false := by
    rw [beq_eq_false_iff_ne]
    intro e
    have : (bs (imageT r)).length = 0 := by unfold bs; rw [← ByteArray.toList_eq, e]; rfl
    rw [img_bs, List.length_cons] at this
    omega
  have hne2 : (imageT r).toList.isEmpty = false := by
    cases h : (imageT r).toList with
    | nil => rw [h] at hne; cases hne
    | cons _ _ => rfl
  have hsz1 : 1 ≤ (imageT r).size := by rw [← bs_len, img_bs, List.length_cons]; omega
  have HSR : Hid (Srt r) := hs
  have HOK : Hid (OkR r) := hok
  have HOS : Hid (OkS ⟨c, r, [], 0, false, 0⟩) := ⟨hok, hs, (by intro x hx; cases hx), hc.1, hc.2, by simp, by simp, by simpa using hl⟩
  have HCO : Hid (∀ j p, r[j]? = some p → ∀ w, Calls Try.prog 46 #[.string (imageT r), .int .i64 ((Zj r j : Nat) : Int)] w fun e w' => e = .returned (.tuple #[.agg #[.string p.1, .string p.2], .int .i64 ((Zj r (j + 1) : Nat) : Int)]) ∧ Below w.heap.size w w') := fun j p hp w => by
    have hpz := hok p (List.mem_of_getElem? hp)
    have := oneD (imageT r) p.1 p.2 ([83] ++ recsB (r.take j)) (recsB (r.drop (j + 1))) w (by omega) ⟨hpz.1, hpz.2.1⟩ hpz.2.2 (by rw [img_bs, recs_split r j, recs_at hp]; simp)
    rw [show ([83] ++ recsB (r.take j) : List UInt8).length = Zj r j by unfold Zj; rw [List.length_append]; rfl, ← zj_next hp] at this
    exact this
  have HB0 : Hid (Op1 w c (.slice none 0 0) (r.take 0) (w.alloc (.cells (dcells (.slice none 0 0) (.slice none 0 0) (.slice none 0 0) (s00 c)).toArray 50))) := ⟨(MapKept.heap_alloc w _).1, World.ownsRow_nil _ _ _ _, (Below.refl _ _).alloc (Nat.le_refl _) _⟩
  have HZA := zj_all r
  obtain ⟨L, HL⟩ : ∃ L, Hid ((imageT r).size = L) := ⟨_, rfl⟩
  have hbt := get_bt (imageT r)
  rw [HL.out] at HZA hisz hsz1
  have HZ : Hid (∀ j, Zj r j ≤ L) := fun j => by rw [← HL.out]; exact zj_le r j
  have HZA2 : Hid (Zj r r.length = L) := HZA
  have hL : (L : Int) ≤ 140737488355328 := by omega
  have hL2 : (0 : Int) < (L : Int) := by omega
  have hszL := HL.out
  have HLR : Hid (r.length < 3518437208883) := hl
  clear hc hs hok hz hl hlr hisz hne2 HZA
  unfold s00 dcells at HB0
  generalize imageT r = im at *
  go_enter Try.func13, Try.ntmps13
  go_wp2_with fail
  go_loopw [7] (fun pv wr => ∃ (j : Nat) (dv : Value), j ≤ r.length ∧ pv = .int .i64 ((Zj r j : Nat) : Int) ∧ Hid (Op1 w c dv (r.take j) wr)) (fun pv _ => (L - intOf pv).toNat)
  case atStart => exact ⟨0, _, Nat.zero_le _, rfl, HB0.out⟩
  case round =>
    clear HB0
    obtain ⟨j, dv, hj, rfl, HH⟩ := hrel
    by_cases hlt : j < r.length
    · obtain ⟨p, hp⟩ : ∃ p, r[j]? = some p := ⟨_, List.getElem?_eq_getElem hlt⟩
      have hzn := zj_next hp
      have hzl := HZ.out (j + 1)
      have g1 : ((Zj r j : Nat) : Int) < (L : Int) := by omega
      have CO : Hid (∀ w, Calls _ _ _ _ _) := fun w => HCO.out j p hp w
      have hab := above_last HSR.out HOK.out hp
      have HT : Hid (r.take (j + 1) = r.take j ++ [p]) := by
        show _ = _
        rw [List.take_succ_eq_append_getElem hlt, (List.getElem?_eq_some_iff.1 hp).2]
      have hlen : (r.take j).length = j := by rw [List.length_take]; omega
      have hj35 : j < 3518437208883 := Nat.lt_trans hlt HLR.out
      obtain ⟨pk, pd⟩ := p
      simp only at CO hab hzn
      obtain ⟨z1, HZ1⟩ : ∃ z, Hid (Zj r j = z) := ⟨_, rfl⟩
      obtain ⟨z2, HZ2⟩ : ∃ z, Hid (Zj r (j + 1) = z) := ⟨_, rfl⟩
      rw [HZ1.out] at g1 CO hzn ⊢
      rw [HZ2.out] at CO hzn hzl
      clear hp
      go_upto_region 9 with (first | (go_at_call 46; refine (CO.out _).mono ?_; rintro _ w2 ⟨rfl, b2⟩; have H2 : Hid (Op1 w c dv (r.take j) w2) := HH.out.later b2; clear b2) | go_in)
      obtain ⟨W3, HW3⟩ : ∃ W3, Hid (w2.alloc (.cells #[.string pk, .string pd] 80) = W3) := ⟨_, rfl⟩
      obtain ⟨q, HQ⟩ : ∃ q, Hid (w2.heap.size = q) := ⟨_, rfl⟩
      have H3 : Hid (Op1 w c dv (r.take j) W3) := by rw [← HW3.out]; exact H2.out.later ((Below.refl _ _).alloc (Nat.le_refl _) _)
      have x0 : W3.cell? ⟨q, 0, none⟩ = some (.string pk) := by rw [← HW3.out, ← HQ.out, World.cell?_alloc_new]; rfl
      have x1 : W3.cell? ⟨q, 1, none⟩ = some (.string pd) := by rw [← HW3.out, ← HQ.out, World.cell?_alloc_new]; rfl
      rw [HW3.out, HQ.out]
      obtain ⟨a, cap, hdv⟩ := lr_form H3.out.dl
      rw [hlen] at hdv
      have c1 := H3.out.row.c1
      have f1 := H3.out.row.fz 1
      have g2 : ¬ ((z2 : Int) < 0) := by omega
      have HAB : Hid (_ ∧ _) := hab
      have HHL : Hid ((r.take j).length = j) := hlen
      have hgl := H3.out.row.lt
      clear hab hlen CO HCO H2 HH
      by_cases hj0 : j = 0
      · subst hj0
        subst hdv
        go_upto_region 11 with fail
        go_quiet (fail)
        obtain ⟨W4, HW4⟩ : ∃ W4, Hid (W3.drewN nq = W4) := ⟨_, rfl⟩
        rw [HW4.out]
        have B4 : Below W3.heap.size W3 W4 := by rw [← HW4.out]; exact zh.below_dN (Below.refl _ _) nq
        have H4 : Hid (Op1 w c (.slice a (0) cap) (r.take (0)) W4) := H3.out.later B4
        have hqw : q < W3.heap.size := World.block_lt_of_cell? _ _ x0
        have u0 : W4.cell? ⟨q, 0, none⟩ = some (.string pk) := (Kp.of_below (A := fun _ => False) B4).cell x0 (fun e => e)
        have u1 : W4.cell? ⟨q, 1, none⟩ = some (.string pd) := (Kp.of_below (A := fun _ => False) B4).cell x1 (fun e => e)
        have k1 := H4.out.row.c1
        have k1f := H4.out.row.fz 1
        have hg4 := H4.out.row.lt
        have k1a : (W4.alloc (.cells #[.string pk, .string pd] 80)).cell? ⟨w.heap.size, 1, none⟩ = some (.slice a (0) cap) := (World.cell?_alloc_lt _ _ _ hg4).trans k1
        have H5 : Hid (Op1 w c (.slice a (0) cap) (r.take (0)) (W4.alloc (.cells #[.string pk, .string pd] 80))) := H4.out.later ((Below.refl _ _).alloc (Nat.le_refl _) _)
        have O4 : Hid ((W4.alloc (.cells #[.string pk, .string pd] 80)).drew.ownsRow w.heap.size 80 2 (.slice a (0) cap) (0) (rcs (r.take (0)))) := by have := H5.out.dl; unfold Lr at this; rw [HHL.out] at this; exact this
        have hBw : w.heap.size ≤ W4.heap.size := H4.out.bl.size
        have hn1 : (0 + 1) * 32 ≤ 140737488355328 := by omega
        have AR : Hid (∀ w7 g5 c5, w7.ownsRow w.heap.size 80 2 (.slice (some ⟨g5, 0, none⟩) (0 + 1) c5) (0 + 1) (rcs (r.take (0)) ++ [.string pk, .string pd]) → (W4.alloc (.cells #[.string pk, .string pd] 80)).grownBy w7 (Value.slice a (0) cap).ownBlock → Dt w.heap.size (.slice a (0) cap) (.slice none 0 0) (.slice none 0 0) (s00 c) w7 ∧ Op1 w c (.slice (some ⟨g5, 0, none⟩) (0 + 1) c5) (r.take (0 + 1)) (w7.setCell ⟨w.heap.size, 1, none⟩ (.slice (some ⟨g5, 0, none⟩) (0 + 1) c5))) := fun w7 g5 c5 ho7 hg7 => by
          rw [HT.out]
          exact Op1.grown H5.out (by rw [HHL.out]; exact ho7) hg7
        clear c1 f1 x0 x1 B4 hqw hgl
        go_upto_region 13 with fail
        go_cut [71] from 26 to 72 (fun cc wx => Hid (∃ v', Op1 w c v' (r.take (0 + 1)) wx))
        case first =>
          go_region_law ((first | (have zz := O4.out; refine step_append_lies _ (by rfl) (.tmp 66) (.tmp 68) 47 (by rfl) w.heap.size 80 i0 (.agg #[.string ByteArray.empty, .string ByteArray.empty]) 2 32 Try.underlying47 HIN.out.1 HIN.out.2.1 HIN.out.2.2.1 HIN.out.2.2.2 rfl (by decide) (.slice a (0) cap) (0) _ (by simp [Act.eval]) O4.out ⟨W4.heap.size, 0, none⟩ 1 1 [.string pk, .string pd] (by simp [Act.eval]) rfl (zc.new_two W4 _ _ _) (one_rc _ _) (by omega) (by unfold maxLen; omega) hn1 (by simp; omega) (W4.heap.size + 1) (by simp) ?_; intro g5 c5 w7 ho7 hg7 hl7 hlt7; have A7 : Hid _ := AR.out w7 g5 c5 ho7 ⟨hg7.os, hg7.tape, hg7.output, hg7.size, hg7.block⟩; have c17 := A7.out.1.c1; have f17 := A7.out.1.fz 1; clear ho7 hg7 hl7 zz)))
          all_goals (go_wp2; go_meet; exact ⟨_, A7.out.2⟩)
        case rest =>
          have HC1 := hcut
          clear hcut
          go_wp2
          go_roundw
          case rel =>
            obtain ⟨v', hv'⟩ := HC1.out
            exact ⟨0 + 1, v', by omega, by rw [HZ2.out]; congr 1; omega, hv'⟩
          case measure => simp [intOf]; omega
      · obtain ⟨i, rfl⟩ : ∃ i, j = i + 1 := ⟨j - 1, by omega⟩
        obtain ⟨p', hp'⟩ : ∃ p', r[i]? = some p' := ⟨_, List.getElem?_eq_getElem (by omega)⟩
        have hla : lastK r (i + 1) = p'.1 := by show ((r[i]?).map (·.1)).getD ⟨#[]⟩ = _; rw [hp']; rfl
        have hab := HAB.out
        rw [hla] at hab
        obtain ⟨t1, t2⟩ := hab
        obtain ⟨g3, ha, _, y0, _⟩ := lr_at (a := a) (c := cap) (by have := H3.out.dl; rw [hdv] at this; rw [HHL.out]; exact this) i p' (by rw [List.getElem?_take_of_lt (by omega)]; exact hp')
        subst ha
        have hd1 : decide (((i + 1 : Nat) : Int) > 0) = true := decide_eq_true (by omega)
        have hd2 : ((i + 1 : Nat) : Int) - 1 = (i : Int) := by omega
        have hdi : (i : Int) < ((i + 1 : Nat) : Int) := by omega
        subst hdv
        obtain ⟨lk, HLK⟩ : ∃ l, Hid (p'.1 = l) := ⟨_, rfl⟩
        rw [HLK.out] at t1 t2 y0
        clear hla hp' hj0
        go_upto_region 11 with fail
        go_quiet (fail)
        obtain ⟨W4, HW4⟩ : ∃ W4, Hid (W3.drewN nq = W4) := ⟨_, rfl⟩
        rw [HW4.out]
        have B4 : Below W3.heap.size W3 W4 := by rw [← HW4.out]; exact zh.below_dN (Below.refl _ _) nq
        have H4 : Hid (Op1 w c (.slice (some ⟨g3, 0, none⟩) (i + 1) cap) (r.take (i + 1)) W4) := H3.out.later B4
        have hqw : q < W3.heap.size := World.block_lt_of_cell? _ _ x0
        have u0 : W4.cell? ⟨q, 0, none⟩ = some (.string pk) := (Kp.of_below (A := fun _ => False) B4).cell x0 (fun e => e)
        have u1 : W4.cell? ⟨q, 1, none⟩ = some (.string pd) := (Kp.of_below (A := fun _ => False) B4).cell x1 (fun e => e)
        have k1 := H4.out.row.c1
        have k1f := H4.out.row.fz 1
        have hg4 := H4.out.row.lt
        have k1a : (W4.alloc (.cells #[.string pk, .string pd] 80)).cell? ⟨w.heap.size, 1, none⟩ = some (.slice (some ⟨g3, 0, none⟩) (i + 1) cap) := (World.cell?_alloc_lt _ _ _ hg4).trans k1
        have H5 : Hid (Op1 w c (.slice (some ⟨g3, 0, none⟩) (i + 1) cap) (r.take (i + 1)) (W4.alloc (.cells #[.string pk, .string pd] 80))) := H4.out.later ((Below.refl _ _).alloc (Nat.le_refl _) _)
        have O4 : Hid ((W4.alloc (.cells #[.string pk, .string pd] 80)).drew.ownsRow w.heap.size 80 2 (.slice (some ⟨g3, 0, none⟩) (i + 1) cap) (i + 1) (rcs (r.take (i + 1)))) := by have := H5.out.dl; unfold Lr at this; rw [HHL.out] at this; exact this
        have hBw : w.heap.size ≤ W4.heap.size := H4.out.bl.size
        have hn1 : (i + 1 + 1) * 32 ≤ 140737488355328 := by omega
        have AR : Hid (∀ w7 g5 c5, w7.ownsRow w.heap.size 80 2 (.slice (some ⟨g5, 0, none⟩) (i + 1 + 1) c5) (i + 1 + 1) (rcs (r.take (i + 1)) ++ [.string pk, .string pd]) → (W4.alloc (.cells #[.string pk, .string pd] 80)).grownBy w7 (Value.slice (some ⟨g3, 0, none⟩) (i + 1) cap).ownBlock → Dt w.heap.size (.slice (some ⟨g3, 0, none⟩) (i + 1) cap) (.slice none 0 0) (.slice none 0 0) (s00 c) w7 ∧ Op1 w c (.slice (some ⟨g5, 0, none⟩) (i + 1 + 1) c5) (r.take (i + 1 + 1)) (w7.setCell ⟨w.heap.size, 1, none⟩ (.slice (some ⟨g5, 0, none⟩) (i + 1 + 1) c5))) := fun w7 g5 c5 ho7 hg7 => by
          rw [HT.out]
          exact Op1.grown H5.out (by rw [HHL.out]; exact ho7) hg7
        clear c1 f1 x0 x1 B4 hqw hgl
        go_upto_region 13 with fail
        go_cut [71] from 26 to 72 (fun cc wx => Hid (∃ v', Op1 w c v' (r.take (i + 1 + 1)) wx))
        case first =>
          go_region_law ((first | (have zz := O4.out; refine step_append_lies _ (by rfl) (.tmp 66) (.tmp 68) 47 (by rfl) w.heap.size 80 i0 (.agg #[.string ByteArray.empty, .string ByteArray.empty]) 2 32 Try.underlying47 HIN.out.1 HIN.out.2.1 HIN.out.2.2.1 HIN.out.2.2.2 rfl (by decide) (.slice (some ⟨g3, 0, none⟩) (i + 1) cap) (i + 1) _ (by simp [Act.eval]) O4.out ⟨W4.heap.size, 0, none⟩ 1 1 [.string pk, .string pd] (by simp [Act.eval]) rfl (zc.new_two W4 _ _ _) (one_rc _ _) (by omega) (by unfold maxLen; omega) hn1 (by simp; omega) (W4.heap.size + 1) (by simp) ?_; intro g5 c5 w7 ho7 hg7 hl7 hlt7; have A7 : Hid _ := AR.out w7 g5 c5 ho7 ⟨hg7.os, hg7.tape, hg7.output, hg7.size, hg7.block⟩; have c17 := A7.out.1.c1; have f17 := A7.out.1.fz 1; clear ho7 hg7 hl7 zz)))
          all_goals (go_wp2; go_meet; exact ⟨_, A7.out.2⟩)
        case rest =>
          have HC1 := hcut
          clear hcut
          go_wp2
          go_roundw
          case rel =>
            obtain ⟨v', hv'⟩ := HC1.out
            exact ⟨i + 1 + 1, v', by omega, by rw [HZ2.out]; congr 1; omega, hv'⟩
          case measure => simp [intOf]; omega
    · obtain rfl : j = r.length := by omega
      have g1 : ¬ ((Zj r r.length : Nat) : Int) < (L : Int) := by rw [HZA2.out]; omega
      obtain ⟨a, cap, hdv⟩ := lr_form HH.out.dl
      have HO := HH.out
      rw [List.take_length] at HO hdv
      have c1 := HO.row.c1
      have c6 := HO.row.c6
      have f6 := HO.row.fz 6
      have END : Hid (Ds w.heap.size w.heap.size dv (.slice none 0 0) dv ⟨c, r, [], 0, false, 0⟩ (wr.setCell ⟨w.heap.size, 6, none⟩ dv) ∧ Below w.heap.size w (wr.setCell ⟨w.heap.size, 6, none⟩ dv)) := by
        have hn2 : some w.heap.size ≠ dv.ownBlock := own_tag HO.dl HO.row dr1
        have ho2 : Lr w.heap.size dv r (wr.setCell ⟨w.heap.size, 6, none⟩ dv) := own_kp HO.dl (Kp.setCell (A := fun j => j = w.heap.size) _ _ _ _ rfl) (fun j hj e => hn2 (by rw [← e]; exact hj))
        exact ⟨⟨HO.row.set6 dv, ho2, ho2, World.ownsRow_nil _ _ _ _, Nat.le_refl _, HOS.out⟩, HO.bl.setCell (Nat.le_refl _) _⟩
      clear HO HH
      subst hdv
      go_wp2
      go_ret2
      exact ⟨rfl, ⟨_, END.out.1⟩, END.out.2⟩
theorem openDNo (im : ByteArray) (c : Int) (w : World) (hc : ¬ (0 ≤ c ∧ c ≤ 1073741824)) : Calls Try.prog 13 #[.string im, .int .i64 c] w fun e w' => e = .returned (.tuple #[.pointer none, .int .i64 10]) ∧ w' = w := by
  rcases (show c < 0 ∨ (¬ c < 0 ∧ 1073741824 < c) by omega) with h | ⟨h, h2⟩
  · have q1 : decide (c < 0) = true := decide_eq_true h
    clear hc h
    go_enter Try.func13, Try.ntmps13
    go_wp2
    go_ret2
    first | exact ⟨rfl, rfl⟩ | rfl | trivial
  · have q1 : decide (c < 0) = false := decide_eq_false h
    have q2 : decide (1073741824 < c) = true := decide_eq_true h2
    clear hc h h2
    go_enter Try.func13, Try.ntmps13
    go_wp2
    go_ret2
    first | exact ⟨rfl, rfl⟩ | rfl | trivial
theorem openNo (im : ByteArray) (c : Int) (w : World) (hc : ¬ (0 ≤ c ∧ c ≤ 1073741824)) : Calls Try.prog 12 #[.string im, .int .i64 c] w fun e w' => e = .returned (.tuple #[.pointer none, .int .i64 10]) ∧ w' = w := by
  have CC : Hid (∀ w, Calls _ _ _ _ _) := fun w => capC c w
  rw [decide_eq_false hc] at CC
  clear hc
  go_enter Try.func12, Try.ntmps12
  go_wp2_with fail
  refine (CC.out _).mono ?_
  rintro _ _ ⟨rfl, hw⟩; rw [hw]; clear hw
  go_wp2
  go_ret2
  first | exact ⟨rfl, rfl⟩ | rfl | trivial
end Go.Proofs.Ytjbaagcpcdmcnaa.xn

namespace Go.Proofs.Ytjbaagcpcdmcnaa.xo
open Go.RowKit Go.PlainAid Go.Maps Go.Shelf
open Go.Proofs.Ytjbaagcpcdmcnaa.cp Go.Proofs.Ytjbaagcpcdmcnaa.kp Go.Proofs.Ytjbaagcpcdmcnaa.ka Go.Proofs.Ytjbaagcpcdmcnaa.ya Go.Proofs.Ytjbaagcpcdmcnaa.yb Go.Proofs.Ytjbaagcpcdmcnaa.ye Go.Proofs.Ytjbaagcpcdmcnaa.yf Go.Proofs.Ytjbaagcpcdmcnaa.yo Go.Proofs.Ytjbaagcpcdmcnaa.yp Go.Proofs.Ytjbaagcpcdmcnaa.yr Go.Proofs.Ytjbaagcpcdmcnaa.zg Go.Proofs.Ytjbaagcpcdmcnaa.xa Go.Proofs.Ytjbaagcpcdmcnaa.xc
set_option linter.unusedVariables false
set_option linter.unusedSimpArgs false
-- the program's store and the document's, each in memory of its own: told by the kinds of their blocks
theorem ta1 : (80 : Nat) ≠ 66 := by decide
theorem ta2 : (80 : Nat) ≠ 90 := by decide
theorem ta3 : (94 : Nat) ≠ 66 := by decide
theorem ta4 : (94 : Nat) ≠ 90 := by decide
theorem ta5 : (50 : Nat) ≠ 66 := by decide
theorem ta6 : (50 : Nat) ≠ 90 := by decide
theorem fr_not {B g bn bd T j : Nat} {pv : Value} {s : S} {w : World} {cur : Array Value} {f : Nat × Nat} (h : Sr B g bn bd pv s w) (h1 : T ≠ 66) (h2 : T ≠ 90) (hj : Fr g bn bd pv j) (hh : w.heap[j]? = some (.cells cur T f)) : False := by
  rcases hj with rfl | rfl | rfl | hj
  · have hr : w.heap[j]? = _ := h.row
    rw [hr] at hh
    exact h1 (Obj.cells.inj (Option.some.inj hh)).2.1.symm
  · obtain ⟨es, clock, hb, _⟩ := h.mn
    rw [hb] at hh
    cases hh
  · obtain ⟨es, clock, hb, _⟩ := h.md
    rw [hb] at hh
    cases hh
  · exact own_tag h.pr hh (Ne.symm h2) hj
theorem own_cells {w : World} {B t z n j : Nat} {v : Value} {xs : List Value} (o : w.ownsRow B t z v n xs) (hj : some j = v.ownBlock) : ∃ cur f, w.heap[j]? = some (.cells cur t f) := by
  rcases o.2 with ⟨rfl, _⟩ | ⟨g', cap, cur', rfl, _, h3, _⟩
  · cases hj
  · have e : j = g' := Option.some.inj hj
    exact ⟨_, _, by rw [e]; exact h3⟩
theorem apart {B B' g bn bd g' : Nat} {pv dv wv vv : Value} {s t : S} {w : World} (h1 : Sr B g bn bd pv s w) (h2 : Ds B' g' dv wv vv t w) (j : Nat) (hj : Fr g bn bd pv j) : j ≠ g' ∧ some j ≠ wv.ownBlock ∧ some j ≠ dv.ownBlock ∧ some j ≠ vv.ownBlock := by
  refine ⟨fun e => ?_, fun e => ?_, fun e => ?_, fun e => ?_⟩
  · subst e
    exact fr_not h1 ta5 ta6 hj h2.row
  · obtain ⟨cur, f, hc⟩ := own_cells h2.wl e
    exact fr_not h1 ta3 ta4 hj hc
  · obtain ⟨cur, f, hc⟩ := own_cells h2.dl e
    exact fr_not h1 ta1 ta2 hj hc
  · obtain ⟨cur, f, hc⟩ := own_cells h2.vl e
    exact fr_not h1 ta1 ta2 hj hc
structure Bo (B g bn bd g' : Nat) (s t : S) (w0 w : World) : Prop where
  ex : ∃ pv dv wv vv, Sr B g bn bd pv s w ∧ Ds B g' dv wv vv t w
  bl : Below B w0 w
  low : B ≤ w0.heap.size
section
variable {B g bn bd g' : Nat} {s t : S} {w0 w w' : World}
theorem Bo.later (h : Bo B g bn bd g' s t w0 w) (b : Below w.heap.size w w') : Bo B g bn bd g' s t w0 w' := by
  obtain ⟨⟨pv, dv, wv, vv, h1, h2⟩, hb, hl⟩ := h
  exact ⟨⟨pv, dv, wv, vv, sr_later h1 b, h2.later b⟩, hb.trans (b.mono (Nat.le_trans hl hb.size)), hl⟩
theorem Bo.fst (h : Bo B g bn bd g' s t w0 w) : ∃ pv, Sr B g bn bd pv s w ∧ ∀ s' w', Rn B g bn bd pv s' w w' → Bo B g bn bd g' s' t w0 w' := by
  obtain ⟨⟨pv, dv, wv, vv, h1, h2⟩, hb, hl⟩ := h
  refine ⟨pv, h1, fun s' w' ⟨pv', r1, r2, _⟩ => ⟨⟨pv', dv, wv, vv, r1, h2.keep r2 (fun hf => (apart h1 h2 _ hf).1 rfl) (fun j hj hf => (apart h1 h2 j hf).2.1 hj) (fun j hj hf => (apart h1 h2 j hf).2.2.1 hj) (fun j hj hf => (apart h1 h2 j hf).2.2.2 hj)⟩, ?_, hl⟩⟩
  have hs := hb.size
  exact ⟨r2.os.trans hb.os, r2.tape.trans hb.tape, r2.output.trans hb.output, Nat.le_trans hs r2.size, fun k hk => (r2.block k (by omega) (fun hf => by have := (sr_in h1 k hf).2; omega)).trans (hb.block k hk)⟩
theorem Bo.snd (h : Bo B g bn bd g' s t w0 w) : ∃ dv wv vv, Ds B g' dv wv vv t w ∧ ∀ t' w', Rd B g' wv t' w w' → Bo B g bn bd g' s t' w0 w' := by
  obtain ⟨⟨pv, dv, wv, vv, h1, h2⟩, hb, hl⟩ := h
  refine ⟨dv, wv, vv, h2, fun t' w' ⟨dv', wv', vv', r1, r2, _⟩ => ⟨⟨pv, dv', wv', vv', sr_keep h1 r2 (fun j hj hf => ?_), r1⟩, ?_, hl⟩⟩
  · rcases hf with e | e
    · exact (apart h1 h2 j hj).1 e
    · exact (apart h1 h2 j hj).2.1 e
  · have hs := hb.size
    refine ⟨r2.os.trans hb.os, r2.tape.trans hb.tape, r2.output.trans hb.output, Nat.le_trans hs r2.size, fun k hk => (r2.block k (by omega) (fun hf => ?_)).trans (hb.block k hk)⟩
    rcases hf with e | e
    · have := h2.low; omega
    · have := (h2.wl.lt k e.symm).1; omega
-- one call on each: the law's do and told
theorem doB (kind : Int) (k d : ByteArray) (n : Int) (h : Bo B g bn bd g' s t w0 w) (hk : k.size ≤ 140737488355328) (hd : d.size ≤ 140737488355328) (hn : n ≤ 9223372036854775807) (hl : s.dur.length + s.pend.length + 1 < 3518437208883) (ha : s.age < 4398046511104) (hi : isz s.dur ≤ 140737488355000) :
    Calls Try.prog 7 #[.pointer (some ⟨g, 0, none⟩), .agg #[.int .i64 kind, .string k, .string d, .int .i64 n]] w fun e w' => ∃ (na : Option Addr) (nl nc : Nat), e = .returned (.agg #[.string (aT s kind k), .slice na nl nc, .int .i64 (doS s kind k d n).1, .int .i64 (aA s kind), .int .i64 (aB s kind), .int .i64 (aC s kind), .bool (aD s kind), .int .i64 (aG s kind)]) ∧ w'.ownsRow w.heap.size 9 1 (.slice na nl nc) (aN s kind k).length ((aN s kind k).map Value.string) ∧ Bo B g bn bd g' (doS s kind k d n).2 t w0 w' := by
  obtain ⟨pv, h1, h2⟩ := h.fst
  exact (doT kind k d n h1 hk hd hn hl ha hi (Nat.le_trans h.low h.bl.size)).mono fun e w' ⟨na, nl, nc, g1, g2, g3⟩ => ⟨na, nl, nc, g1, g2, h2 _ _ g3⟩
theorem toldB (kind : Int) (k d : ByteArray) (n : Int) (h : Bo B g bn bd g' s t w0 w) (hk : k.size ≤ 140737488355328) (hd : d.size ≤ 140737488355328) (hn : n ≤ 9223372036854775807) (hl : t.dur.length + t.pend.length + 1 < 3518437208883) (ha : t.age < 4398046511104) (hi : isz t.dur ≤ 140737488355000) :
    Calls Try.prog 8 #[.pointer (some ⟨g', 0, none⟩), .agg #[.int .i64 kind, .string k, .string d, .int .i64 n]] w fun e w' => ∃ (na : Option Addr) (nl nc : Nat), e = .returned (.agg #[.string (aT t kind k), .slice na nl nc, .int .i64 (doS t kind k d n).1, .int .i64 (aA t kind), .int .i64 (aB t kind), .int .i64 (aC t kind), .bool (aD t kind), .int .i64 (aG t kind)]) ∧ w'.ownsRow w.heap.size 9 1 (.slice na nl nc) (aN t kind k).length ((aN t kind k).map Value.string) ∧ Bo B g bn bd g' s (doS t kind k d n).2 w0 w' := by
  obtain ⟨dv, wv, vv, h1, h2⟩ := h.snd
  exact (xl.toldT kind k d n h1 hk hd hn hl ha hi (Nat.le_trans h.low h.bl.size)).mono fun e w' ⟨na, nl, nc, g1, g2, g3⟩ => ⟨na, nl, nc, g1, g2, h2 _ _ g3⟩
end
end Go.Proofs.Ytjbaagcpcdmcnaa.xo

namespace Go.Proofs.Ytjbaagcpcdmcnaa.xp
open Go.RowKit Go.PlainAid Go.Maps Go.Shelf
open Go.Proofs.Ytjbaagcpcdmcnaa.ca Go.Proofs.Ytjbaagcpcdmcnaa.cp Go.Proofs.Ytjbaagcpcdmcnaa.kp Go.Proofs.Ytjbaagcpcdmcnaa.ka Go.Proofs.Ytjbaagcpcdmcnaa.ya Go.Proofs.Ytjbaagcpcdmcnaa.yb Go.Proofs.Ytjbaagcpcdmcnaa.ye Go.Proofs.Ytjbaagcpcdmcnaa.yf Go.Proofs.Ytjbaagcpcdmcnaa.yo Go.Proofs.Ytjbaagcpcdmcnaa.yp Go.Proofs.Ytjbaagcpcdmcnaa.yr Go.Proofs.Ytjbaagcpcdmcnaa.zg Go.Proofs.Ytjbaagcpcdmcnaa.xa Go.Proofs.Ytjbaagcpcdmcnaa.xc Go.Proofs.Ytjbaagcpcdmcnaa.xo
set_option linter.unusedVariables false
set_option linter.unusedSimpArgs false
-- blocks of other kinds stay
def Stay (A : Nat → Prop) (w w' : World) : Prop := w.heap.size ≤ w'.heap.size ∧ ∀ (j : Nat) (cur : Array Value) (T : Nat) (f : Nat × Nat), w.heap[j]? = some (Obj.cells cur T f) → A T → w'.heap[j]? = some (Obj.cells cur T f)
def oth (T : Nat) : Prop := T ≠ 66 ∧ T ≠ 90 ∧ T ≠ 50 ∧ T ≠ 94
section
variable {B g bn bd g' : Nat} {s t : S} {w0 w w' : World}
theorem Bo.fst' (h : Bo B g bn bd g' s t w0 w) : ∃ pv, Sr B g bn bd pv s w ∧ ∀ s' w', Rn B g bn bd pv s' w w' → Bo B g bn bd g' s' t w0 w' ∧ Stay oth w w' := by
  obtain ⟨⟨pv, dv, wv, vv, h1, h2⟩, hb, hl⟩ := h
  obtain ⟨pv2, k1, k2⟩ := Bo.fst ⟨⟨pv, dv, wv, vv, h1, h2⟩, hb, hl⟩
  refine ⟨pv2, k1, fun s' w' r => ⟨k2 s' w' r, ?_⟩⟩
  obtain ⟨pv', r1, r2, _⟩ := r
  exact ⟨r2.size, fun j cur T f hh hT => (r2.block j (Array.getElem?_eq_some_iff.1 hh).1 (fun hf => fr_not k1 hT.1 hT.2.1 hf hh)).trans hh⟩
theorem Bo.snd' (h : Bo B g bn bd g' s t w0 w) : ∃ dv wv vv, Ds B g' dv wv vv t w ∧ ∀ t' w', Rd B g' wv t' w w' → Bo B g bn bd g' s t' w0 w' ∧ Stay oth w w' := by
  obtain ⟨dv, wv, vv, k1, k2⟩ := Bo.snd h
  refine ⟨dv, wv, vv, k1, fun t' w' r => ⟨k2 t' w' r, ?_⟩⟩
  obtain ⟨dv', wv', vv', r1, r2, _⟩ := r
  refine ⟨r2.size, fun j cur T f hh hT => (r2.block j (Array.getElem?_eq_some_iff.1 hh).1 (fun hf => ?_)).trans hh⟩
  rcases hf with e | e
  · subst e
    have hr : w.heap[j]? = _ := k1.row
    rw [hr] at hh
    exact hT.2.2.1 (Obj.cells.inj (Option.some.inj hh)).2.1.symm
  · exact own_tag k1.wl hh (Ne.symm hT.2.2.2) e
end
theorem Stay.own {w w' : World} {B n : Nat} {v : Value} {xs : List Value} (h : Stay oth w w') (o : w.ownsRow B 9 1 v n xs) : w'.ownsRow B 9 1 v n xs := by
  refine ⟨o.1, ?_⟩
  rcases o.2 with h2 | ⟨g', cap, cur', e, h2, h3, h4⟩
  · exact .inl h2
  · exact .inr ⟨g', cap, cur', e, h2, h.2 _ _ _ _ h3 ⟨by decide, by decide, by decide, by decide⟩, h4⟩
-- the pair's block
def pr2 (g g' : Nat) : Array Value := #[.pointer (some ⟨g, 0, none⟩), .pointer (some ⟨g', 0, none⟩)]
theorem oth_op : oth 32 := ⟨by decide, by decide, by decide, by decide⟩
section
variable {B P g bn bd g' : Nat} {s t : S} {w0 w w' : World}
end
end Go.Proofs.Ytjbaagcpcdmcnaa.xp

namespace Go.Proofs.Ytjbaagcpcdmcnaa.xq
open Go.RowKit Go.PlainAid Go.Maps Go.Shelf
open Go.Proofs.Ytjbaagcpcdmcnaa.ca Go.Proofs.Ytjbaagcpcdmcnaa.cp Go.Proofs.Ytjbaagcpcdmcnaa.kp Go.Proofs.Ytjbaagcpcdmcnaa.ka Go.Proofs.Ytjbaagcpcdmcnaa.ya Go.Proofs.Ytjbaagcpcdmcnaa.yb Go.Proofs.Ytjbaagcpcdmcnaa.ye Go.Proofs.Ytjbaagcpcdmcnaa.yf Go.Proofs.Ytjbaagcpcdmcnaa.yo Go.Proofs.Ytjbaagcpcdmcnaa.yp Go.Proofs.Ytjbaagcpcdmcnaa.yr Go.Proofs.Ytjbaagcpcdmcnaa.zg Go.Proofs.Ytjbaagcpcdmcnaa.xa Go.Proofs.Ytjbaagcpcdmcnaa.xc Go.Proofs.Ytjbaagcpcdmcnaa.xo Go.Proofs.Ytjbaagcpcdmcnaa.xp
set_option linter.unusedVariables false
set_option linter.unusedSimpArgs false
theorem four {w : World} {q : Nat} {a b c d : Value} {t : Nat} {f : Nat × Nat} (h : w.heap[q]? = some (.cells #[a, b, c, d] t f)) : w.cell? ⟨q, 0, none⟩ = some a ∧ w.cell? ⟨q, 1, none⟩ = some b ∧ w.cell? ⟨q, 2, none⟩ = some c ∧ w.cell? ⟨q, 3, none⟩ = some d :=
  ⟨cell_of_row _ _ 0 _ _ _ h, cell_of_row _ _ 1 _ _ _ h, cell_of_row _ _ 2 _ _ _ h, cell_of_row _ _ 3 _ _ _ h⟩
end Go.Proofs.Ytjbaagcpcdmcnaa.xq

namespace Go.Proofs.Ytjbaagcpcdmcnaa.xr
open Go.RowKit Go.PlainAid Go.Maps Go.Shelf
open Go.Proofs.Ytjbaagcpcdmcnaa.ca Go.Proofs.Ytjbaagcpcdmcnaa.cp Go.Proofs.Ytjbaagcpcdmcnaa.kp Go.Proofs.Ytjbaagcpcdmcnaa.ka Go.Proofs.Ytjbaagcpcdmcnaa.ya Go.Proofs.Ytjbaagcpcdmcnaa.yb Go.Proofs.Ytjbaagcpcdmcnaa.yc Go.Proofs.Ytjbaagcpcdmcnaa.ye Go.Proofs.Ytjbaagcpcdmcnaa.yf Go.Proofs.Ytjbaagcpcdmcnaa.yo Go.Proofs.Ytjbaagcpcdmcnaa.yp Go.Proofs.Ytjbaagcpcdmcnaa.yr Go.Proofs.Ytjbaagcpcdmcnaa.zg Go.Proofs.Ytjbaagcpcdmcnaa.xa Go.Proofs.Ytjbaagcpcdmcnaa.xc Go.Proofs.Ytjbaagcpcdmcnaa.xo Go.Proofs.Ytjbaagcpcdmcnaa.xp Go.Proofs.Ytjbaagcpcdmcnaa.xq
set_option linter.unusedVariables false
set_option linter.unusedSimpArgs false
theorem own_down {w : World} {B B' t z n : Nat} {v : Value} {xs : List Value} (o : w.ownsRow B' t z v n xs) (h : B ≤ B') : w.ownsRow B t z v n xs := by
  refine ⟨o.1, ?_⟩
  rcases o.2 with h2 | ⟨g', cap, cur', e, h2, h3⟩
  · exact .inl h2
  · exact .inr ⟨g', cap, cur', e, Nat.le_trans h h2, h3⟩
theorem sr_down {B B' g bn bd : Nat} {pv : Value} {s : S} {w : World} (h : Sr B' g bn bd pv s w) (hB : B ≤ B') : Sr B g bn bd pv s w := ⟨h.row, h.mn, h.md, h.ne, own_down h.pr hB, ⟨Nat.le_trans hB h.low.1, Nat.le_trans hB h.low.2.1, Nat.le_trans hB h.low.2.2⟩, h.ok⟩
theorem ds_down {B B' g : Nat} {dv wv vv : Value} {s : S} {w : World} (h : Ds B' g dv wv vv s w) (hB : B ≤ B') : Ds B g dv wv vv s w := ⟨h.row, own_down h.dl hB, own_down h.vl hB, own_down h.wl hB, Nat.le_trans hB h.low, h.ok⟩
end Go.Proofs.Ytjbaagcpcdmcnaa.xr
