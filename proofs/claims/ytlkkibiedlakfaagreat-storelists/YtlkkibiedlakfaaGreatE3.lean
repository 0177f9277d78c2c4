import Derived.Test.YtlkkibiedlakfaaGreatE1
import Derived.Test.YtlkkibiedlakfaaGreatE0
import Derived.Laws.Cover1
import Derived.Deep.RegionWith
import Derived.Test.YtlkkibiedlakfaaGreatZh
import Derived.Deep.RegionHeld3
import Derived.Test.YtlkkibiedlakfaaGreatYu
namespace Go.Proofs.YtlkkibiedlakfaaGreat.xm
open Go.RowKit Go.PlainAid Go.Maps Go.Shelf
open Go.Proofs.YtlkkibiedlakfaaGreat.ca Go.Proofs.YtlkkibiedlakfaaGreat.cb Go.Proofs.YtlkkibiedlakfaaGreat.cp Go.Proofs.YtlkkibiedlakfaaGreat.kp Go.Proofs.YtlkkibiedlakfaaGreat.ka Go.Proofs.YtlkkibiedlakfaaGreat.na Go.Proofs.YtlkkibiedlakfaaGreat.ya Go.Proofs.YtlkkibiedlakfaaGreat.yb Go.Proofs.YtlkkibiedlakfaaGreat.yc Go.Proofs.YtlkkibiedlakfaaGreat.ye Go.Proofs.YtlkkibiedlakfaaGreat.yf Go.Proofs.YtlkkibiedlakfaaGreat.yo Go.Proofs.YtlkkibiedlakfaaGreat.yp Go.Proofs.YtlkkibiedlakfaaGreat.ze Go.Proofs.YtlkkibiedlakfaaGreat.zf Go.Proofs.YtlkkibiedlakfaaGreat.xa Go.Proofs.YtlkkibiedlakfaaGreat.xc
set_option linter.unusedVariables false
set_option linter.unusedSimpArgs false
-- a piece of a text
theorem ext_mid (t x : ByteArray) (A Z : List UInt8) (h : bs t = A ++ (bs x ++ Z)) : t.extract A.length (A.length + x.size) = x := by
  apply bs_inj
  rw [bs_ext, h, List.drop_left, ← bs_len x]
  rw [show A.length + (bs x).length - A.length = (bs x).length by omega, List.take_left]
theorem bt_mid (t : ByteArray) (A Z : List UInt8) (u : UInt8) (h : bs t = A ++ (u :: Z)) : bt t A.length = u.toNat := by
  apply bt_bs
  rw [h, List.getElem?_append_right (Nat.le_refl _), Nat.sub_self]
  rfl
theorem be_mid (t : ByteArray) (A Z : List UInt8) (n : Nat) (hn : n < 4294967296) (h : bs t = A ++ (beN 4 n 4 ++ Z)) : beR t A.length 4 = n := by
  have e : beN 4 n 4 = [UInt8.ofNat (n / 16777216), UInt8.ofNat (n / 65536), UInt8.ofNat (n / 256), UInt8.ofNat n] := by simp [beN]
  rw [e] at h
  have h0 := bt_mid t A _ _ h
  have h1 := bt_mid t (A ++ [UInt8.ofNat (n / 16777216)]) ([UInt8.ofNat (n / 256), UInt8.ofNat n] ++ Z) (UInt8.ofNat (n / 65536)) (by rw [h]; simp)
  have h2 := bt_mid t (A ++ [UInt8.ofNat (n / 16777216), UInt8.ofNat (n / 65536)]) ([UInt8.ofNat n] ++ Z) (UInt8.ofNat (n / 256)) (by rw [h]; simp)
  have h3 := bt_mid t (A ++ [UInt8.ofNat (n / 16777216), UInt8.ofNat (n / 65536), UInt8.ofNat (n / 256)]) Z (UInt8.ofNat n) (by rw [h]; simp)
  simp only [List.length_append, List.length_cons, List.length_nil] at h1 h2 h3
  show (((0 * 256 + bt t (A.length + 0)) * 256 + bt t (A.length + 1)) * 256 + bt t (A.length + 2)) * 256 + bt t (A.length + 3) = _
  rw [Nat.add_zero, h0, h1, h2, h3]
  simp
  omega
set_option maxHeartbeats 1600000 in
theorem numberD (t : ByteArray) (p : Nat) (w : World) (hs : t.size ≤ 140737488355328) (hp : p + 4 ≤ t.size) : Calls Tryz.prog 112 #[.string t, .int .i64 p] w fun e w' => e = .returned (.int .i64 (beR t p 4)) ∧ w' = w := by
  have hbt := get_bt t
  go_enter Tryz.func112, Tryz.ntmps112
  go_wp2_with fail
  go_loop [5, 6] (fun v i => ∃ (k : Nat), k ≤ 4 ∧ v = .int .i64 (beR t p k) ∧ i = .int .i64 k) (fun _ i => (4 - intOf i).toNat)
  case atStart => exact ⟨0, by omega, rfl, rfl⟩
  case round =>
    obtain ⟨k, hk, rfl, rfl⟩ := hrel
    by_cases hlt : k < 4
    · have hlt' : (k : Int) < 4 := by omega
      have hpk : p + k < t.size := by omega
      have hpk' : (p : Int) + (k : Int) < (t.size : Int) := by omega
      have hpn : ((p : Int) + (k : Int)).toNat = p + k := by omega
      have hc0 := bt_nonneg t (p + k)
      have hc1 := bt_le t (p + k)
      have hv0 := beR_nonneg t p k
      have hv1 : beR t p k < 16777216 := by
        have h := beR_lt t p k
        have h2 : (256 : Int) ^ k ≤ 256 ^ 3 := ipow_le 256 (by omega) (by omega)
        have h3 : (256 : Int) ^ 3 = 16777216 := by decide
        omega
      have HS : Hid (beR t p (k + 1) = beR t p k * 256 + bt t (p + k)) := rfl
      go_wp2
      go_round
      case rel => exact ⟨k + 1, by omega, by rw [HS.out, Int.mul_comm (beR t p k) 256], by go_num⟩
      case measure => simp [intOf]; omega
    · have hlt' : ¬ (k : Int) < 4 := by omega
      obtain rfl : k = 4 := by omega
      go_wp2
      go_ret
      exact ⟨rfl, rfl⟩
-- a record that stands in a text
set_option maxRecDepth 8000 in
set_option maxHeartbeats 3200000 in
theorem oneD (t k d : ByteArray) (A Y : List UInt8) (w : World) (hs : t.size ≤ 140737488355328) (hk : 1 ≤ k.size ∧ k.size ≤ 64) (hd : d.size ≤ 1048576) (h : bs t = A ++ (beN 1 k.size 1 ++ (bs k ++ (beN 4 d.size 4 ++ (bs d ++ Y))))) :
    Calls Tryz.prog 79 #[.string t, .int .i64 (A.length : Nat)] w fun e w' => e = .returned (.tuple #[.agg #[.string k, .string d], .int .i64 ((A.length + 1 + k.size + 4 + d.size : Nat) : Int)]) ∧ Below w.heap.size w w' := by
  have e1 : beN 1 k.size 1 = [UInt8.ofNat k.size] := by simp [beN]
  have hz : t.size = A.length + 1 + k.size + 4 + d.size + Y.length := by rw [← bs_len, h]; simp [beN_len, bs_len]; omega
  have q0 : bt t A.length = (k.size : Int) := by
    have := bt_mid t A _ (UInt8.ofNat k.size) (by rw [h, e1]; rfl)
    rw [this]; simp; omega
  have q1 : t.extract (A.length + 1) (A.length + 1 + k.size) = k := by
    have := ext_mid t k (A ++ beN 1 k.size 1) _ (by rw [h, List.append_assoc])
    rw [List.length_append, beN_len] at this
    exact this
  have q2 : beR t (A.length + 1 + k.size) 4 = (d.size : Int) := by
    have := be_mid t (A ++ (beN 1 k.size 1 ++ bs k)) (bs d ++ Y) d.size (by omega) (by rw [h]; simp)
    simp only [List.length_append, beN_len, bs_len] at this
    rw [← Nat.add_assoc] at this
    exact this
  have q3 : t.extract (A.length + 1 + k.size + 4) (A.length + 1 + k.size + 4 + d.size) = d := by
    have := ext_mid t d (A ++ (beN 1 k.size 1 ++ (bs k ++ beN 4 d.size 4))) Y (by rw [h]; simp)
    simp only [List.length_append, beN_len, bs_len] at this
    rw [show A.length + (1 + (k.size + 4)) = A.length + 1 + k.size + 4 by omega] at this
    exact this
  obtain ⟨P, HP⟩ : ∃ P, Hid (A.length = P) := ⟨_, rfl⟩
  obtain ⟨n, HN⟩ : ∃ n, Hid (k.size = n) := ⟨_, rfl⟩
  obtain ⟨m, HM⟩ : ∃ n, Hid (d.size = n) := ⟨_, rfl⟩
  have C : Hid (Calls _ _ _ _ _) := numberD t (A.length + 1 + k.size) w hs (by omega)
  have CN : Hid (∀ w, Calls Tryz.prog 112 #[.string t, .int .i64 (((P + 1 + n : Nat)) : Int)] w fun e w' => e = .returned (.int .i64 (m : Nat)) ∧ w' = w) := fun w => by
    have := numberD t (A.length + 1 + k.size) w hs (by omega)
    rw [q2, HP.out, HN.out, HM.out] at this
    exact this
  rw [HP.out, HN.out, HM.out] at q3 hz
  rw [HP.out, HN.out] at q1 q0
  rw [HN.out] at hk
  rw [HM.out] at hd
  rw [HP.out, HN.out, HM.out]
  have hbt := get_bt t
  have hPt : P < t.size := by omega
  have sl1 : ∀ w, (Instr.slice 9 (.string t) (some (.int .i64 ((P : Int) + 1))) (some (.int .i64 ((P : Int) + 1 + (n : Int)))) none).run Tryz.prog w = .ok (.string k) w := fun w => by
    have := run_slice_string (P := Tryz.prog) w 9 t .i64 .i64 ((P : Int) + 1) ((P : Int) + 1 + (n : Int)) Tryz.underlying9 (by omega) (by omega) (by omega)
    rw [show ((P : Int) + 1).toNat = P + 1 by omega, show ((P : Int) + 1 + (n : Int)).toNat = P + 1 + n by omega, q1] at this
    exact this
  have sl2 : ∀ w, (Instr.slice 9 (.string t) (some (.int .i64 ((P : Int) + 1 + (n : Int) + 4))) (some (.int .i64 ((P : Int) + 1 + (n : Int) + 4 + (m : Int)))) none).run Tryz.prog w = .ok (.string d) w := fun w => by
    have := run_slice_string (P := Tryz.prog) w 9 t .i64 .i64 ((P : Int) + 1 + (n : Int) + 4) ((P : Int) + 1 + (n : Int) + 4 + (m : Int)) Tryz.underlying9 (by omega) (by omega) (by omega)
    rw [show ((P : Int) + 1 + (n : Int) + 4).toNat = P + 1 + n + 4 by omega, show ((P : Int) + 1 + (n : Int) + 4 + (m : Int)).toNat = P + 1 + n + 4 + m by omega, q3] at this
    exact this
  have hPi : (P : Int) < (t.size : Int) := by omega
  have g1 : ¬ ((n : Int) < 1) := by omega
  have g2 : ¬ ((n : Int) > 64) := by omega
  have g3 : ¬ ((t.size : Int) - (P : Int) - 1 < (n : Int) + 4) := by omega
  have g4 : ¬ ((m : Int) > 1048576) := by omega
  have g5 : ¬ ((t.size : Int) - ((P : Int) + 1 + (n : Int)) - 4 < (m : Int)) := by omega
  have HB0 : Hid (Below w.heap.size w (w.alloc (.cells #[.string k, .string d] 82))) := (Below.refl _ _).alloc (Nat.le_refl _) _
  clear h e1 q1 q2 q3 C
  go_enter Tryz.func79, Tryz.ntmps79
  go_wp2_with (first | (go_at_call 112; refine (CN.out _).mono ?_; rintro _ wz ⟨rfl, hwz⟩; rw [hwz]; clear hwz) | go_in)
  have p0 : (w.alloc (.cells #[.string k, .string d] 82)).cell? ⟨w.heap.size, 0, none⟩ = some (.string k) := by rw [World.cell?_alloc_new]; rfl
  have p1 : (w.alloc (.cells #[.string k, .string d] 82)).cell? ⟨w.heap.size, 1, none⟩ = some (.string d) := by rw [World.cell?_alloc_new]; rfl
  refine bodyPost_ret (by simp [results, Tryz.results79, go_sem, p0, p1]; try rfl) rfl ?_
  exact ⟨by push_cast; rfl, HB0.out⟩
end Go.Proofs.YtlkkibiedlakfaaGreat.xm

namespace Go.Proofs.YtlkkibiedlakfaaGreat.xn
open Go.RowKit Go.PlainAid Go.Maps Go.Shelf
open Go.Proofs.YtlkkibiedlakfaaGreat.ca Go.Proofs.YtlkkibiedlakfaaGreat.cb Go.Proofs.YtlkkibiedlakfaaGreat.cp Go.Proofs.YtlkkibiedlakfaaGreat.kp Go.Proofs.YtlkkibiedlakfaaGreat.ka Go.Proofs.YtlkkibiedlakfaaGreat.na Go.Proofs.YtlkkibiedlakfaaGreat.ya Go.Proofs.YtlkkibiedlakfaaGreat.yb Go.Proofs.YtlkkibiedlakfaaGreat.yc Go.Proofs.YtlkkibiedlakfaaGreat.ye Go.Proofs.YtlkkibiedlakfaaGreat.yo Go.Proofs.YtlkkibiedlakfaaGreat.yp Go.Proofs.YtlkkibiedlakfaaGreat.ze Go.Proofs.YtlkkibiedlakfaaGreat.zf Go.Proofs.YtlkkibiedlakfaaGreat.xa Go.Proofs.YtlkkibiedlakfaaGreat.xb Go.Proofs.YtlkkibiedlakfaaGreat.xc Go.Proofs.YtlkkibiedlakfaaGreat.xm
open Go.Proofs.YtlkkibiedlakfaaGreat.yf (own_tag own_kp)
open Go.Proofs.YtlkkibiedlakfaaGreat.yd (below_grownBy)
set_option linter.unusedVariables false
set_option linter.unusedSimpArgs false
def s00 (c : Int) : S := ⟨c, [], [], 0, false, 0⟩
-- the store that is being read
structure Op1 (w0 : World) (c : Int) (dv : Value) (l : List Rec) (w : World) : Prop where
  row : Dt w0.heap.size dv (.slice none 0 0) (.slice none 0 0) (s00 c) w
  dl : Lr w0.heap.size dv l w
  bl : Below w0.heap.size w0 w
theorem Op1.later {w0 : World} {c : Int} {dv : Value} {l : List Rec} {w w' : World} (h : Op1 w0 c dv l w) (b : Below w.heap.size w w') : Op1 w0 c dv l w' := ⟨(b.block _ h.row.lt).trans h.row, h.dl.later b, over h.bl b⟩
theorem Op1.grown {w0 : World} {c : Int} {dv v' : Value} {l : List Rec} {k d : ByteArray} {w w' : World} (h : Op1 w0 c dv l w) (ho : w'.ownsRow w0.heap.size 82 2 v' (l.length + 1) (rcs l ++ [.string k, .string d])) (hg : w.grownBy w' dv.ownBlock) : Dt w0.heap.size dv (.slice none 0 0) (.slice none 0 0) (s00 c) w' ∧ Op1 w0 c v' (l ++ [(k, d)]) (w'.setCell ⟨w0.heap.size, 1, none⟩ v') := by
  have hne : some w0.heap.size ≠ dv.ownBlock := own_tag h.dl h.row dr1
  have hr : Dt w0.heap.size dv (.slice none 0 0) (.slice none 0 0) (s00 c) w' := (hg.block _ h.row.lt hne).trans h.row
  have hb : Below w0.heap.size w0 w' := below_grownBy h.bl hg (Nat.le_refl _) (fun j hj => (h.dl.lt j hj).1)
  have hn2 : some w0.heap.size ≠ v'.ownBlock := own_tag ho hr dr1
  have ho2 : Lr w0.heap.size v' (l ++ [(k, d)]) w' := by
    unfold Lr
    rw [List.length_append, rcs_app]
    exact ho
  exact ⟨hr, hr.set1 v', own_kp ho2 (Kp.setCell (A := fun j => j = w0.heap.size) _ _ _ _ rfl) (fun j hj e => hn2 (by rw [← e]; exact hj)), hb.setCell (Nat.le_refl _) _⟩
def Zj (r : List Rec) (j : Nat) : Nat := 1 + (recsB (r.take j)).length
theorem recs_split (r : List Rec) (j : Nat) : recsB r = recsB (r.take j) ++ recsB (r.drop j) := by
  unfold recsB
  rw [← List.flatMap_append, List.take_append_drop]
theorem img_bs (r : List Rec) : bs (imageT r) = 83 :: recsB r := by simp [imageT, imgB, recsB, bs]
theorem zj_next {r : List Rec} {j : Nat} {p : Rec} (hp : r[j]? = some p) : Zj r (j + 1) = Zj r j + 1 + p.1.size + 4 + p.2.size := by
  have hj := (List.getElem?_eq_some_iff.1 hp).1
  have h1 := congrArg List.length (recs_split r j)
  have h2 := congrArg List.length (recs_split r (j + 1))
  have h3 := congrArg List.length (recs_at hp)
  simp only [List.length_append, beN_len, bs_len] at h1 h2 h3
  unfold Zj
  omega
theorem zj_all (r : List Rec) : Zj r r.length = (imageT r).size := by
  rw [← bs_len, img_bs, List.length_cons]
  unfold Zj
  rw [List.take_length]
  omega
theorem zj_le (r : List Rec) (j : Nat) : Zj r j ≤ (imageT r).size := by
  rw [← bs_len, img_bs, List.length_cons]
  have h1 := congrArg List.length (recs_split r j)
  rw [List.length_append] at h1
  unfold Zj
  omega
theorem img_size (r : List Rec) : (imageT r).size ≤ isz r + 1 := by
  rw [← bs_len, img_bs, List.length_cons]
  have := recs_len r 0
  rw [List.drop_zero] at this
  omega
set_option maxRecDepth 20000 in
set_option maxHeartbeats 6400000 in
theorem openD (r : List Rec) (c : Int) (w : World) (hc : 0 ≤ c ∧ c ≤ 1073741824) (hs : Srt r) (hok : OkR r) (hz : isz r ≤ 140737488355000) (hl : r.length < 3518437208883) :
    Calls Tryz.prog 30 #[.string (imageT r), .int .i64 c] w fun e w' => ∃ dv, e = .returned (.tuple #[.pointer (some ⟨w.heap.size, 0, none⟩), .int .i64 0]) ∧ Ds w.heap.size w.heap.size dv (.slice none 0 0) dv ⟨c, r, [], 0, false, 0⟩ w' ∧ Below w.heap.size w w' := by
  obtain ⟨i0, hi0, hz0, hz1, hz2⟩ := info_parts info_R
  have HIN : Hid (_ ∧ _ ∧ _ ∧ _) := ⟨hi0, hz0, hz1, hz2⟩
  clear hi0 hz0 hz1 hz2
  have q1 : decide (c < 0) = false := decide_eq_false (by omega)
  have q2 : decide (1073741824 < c) = false := decide_eq_false (by omega)
  have hisz := img_size r
  have hlr := len_isz r
  have b0 : bt (imageT r) 0 = 83 := bt_bs (imageT r) 0 83 (by rw [img_bs]; rfl)
  have hne : ((imageT r).toList == []) = false := by
    rw [beq_eq_false_iff_ne]
    intro e
    have : (bs (imageT r)).length = 0 := by unfold bs; rw [← ByteArray.toList_eq, e]; rfl
    rw [img_bs, List.length_cons] at this
    omega
  have hne2 : (imageT r).toList.isEmpty = false := by
    cases h : (imageT r).toList with
    | nil => rw [h] at hne; cases hne
    | cons _ _ => rfl
  have hsz1 : 1 ≤ (imageT r).size := by rw [← bs_len, img_bs, List.length_cons]; omega
  have HSR : Hid (Srt r) := hs
  have HOK : Hid (OkR r) := hok
  have HOS : Hid (OkS ⟨c, r, [], 0, false, 0⟩) := ⟨hok, hs, (by intro x hx; cases hx), hc.1, hc.2, by simp, by simp, by simpa using hl⟩
  have HCO : Hid (∀ j p, r[j]? = some p → ∀ w, Calls Tryz.prog 79 #[.string (imageT r), .int .i64 ((Zj r j : Nat) : Int)] w fun e w' => e = .returned (.tuple #[.agg #[.string p.1, .string p.2], .int .i64 ((Zj r (j + 1) : Nat) : Int)]) ∧ Below w.heap.size w w') := fun j p hp w => by
    have hpz := hok p (List.mem_of_getElem? hp)
    have := oneD (imageT r) p.1 p.2 ([83] ++ recsB (r.take j)) (recsB (r.drop (j + 1))) w (by omega) ⟨hpz.1, hpz.2.1⟩ hpz.2.2 (by rw [img_bs, recs_split r j, recs_at hp]; simp)
    rw [show ([83] ++ recsB (r.take j) : List UInt8).length = Zj r j by unfold Zj; rw [List.length_append]; rfl, ← zj_next hp] at this
    exact this
  have HB0 : Hid (Op1 w c (.slice none 0 0) (r.take 0) (w.alloc (.cells (dcells (.slice none 0 0) (.slice none 0 0) (.slice none 0 0) (s00 c)).toArray 63))) := ⟨(MapKept.heap_alloc w _).1, World.ownsRow_nil _ _ _ _, (Below.refl _ _).alloc (Nat.le_refl _) _⟩
  have HZA := zj_all r
  obtain ⟨L, HL⟩ : ∃ L, Hid ((imageT r).size = L) := ⟨_, rfl⟩
  have hbt := get_bt (imageT r)
  rw [HL.out] at HZA hisz hsz1
  have HZ : Hid (∀ j, Zj r j ≤ L) := fun j => by rw [← HL.out]; exact zj_le r j
  have HZA2 : Hid (Zj r r.length = L) := HZA
  have hL : (L : Int) ≤ 140737488355328 := by omega
  have hL2 : (0 : Int) < (L : Int) := by omega
  have hszL := HL.out
  have HLR : Hid (r.length < 3518437208883) := hl
  clear hc hs hok hz hl hlr hisz hne2 HZA
  unfold s00 dcells at HB0
  generalize imageT r = im at *
  go_enter Tryz.func30, Tryz.ntmps30
  go_wp2_with fail
  go_loopw [7] (fun pv wr => ∃ (j : Nat) (dv : Value), j ≤ r.length ∧ pv = .int .i64 ((Zj r j : Nat) : Int) ∧ Hid (Op1 w c dv (r.take j) wr)) (fun pv _ => (L - intOf pv).toNat)
  case atStart => exact ⟨0, _, Nat.zero_le _, rfl, HB0.out⟩
  case round =>
    clear HB0
    obtain ⟨j, dv, hj, rfl, HH⟩ := hrel
    by_cases hlt : j < r.length
    · obtain ⟨p, hp⟩ : ∃ p, r[j]? = some p := ⟨_, List.getElem?_eq_getElem hlt⟩
      have hzn := zj_next hp
      have hzl := HZ.out (j + 1)
      have g1 : ((Zj r j : Nat) : Int) < (L : Int) := by omega
      have CO : Hid (∀ w, Calls _ _ _ _ _) := fun w => HCO.out j p hp w
      have hab := above_last HSR.out HOK.out hp
      have HT : Hid (r.take (j + 1) = r.take j ++ [p]) := by
        show _ = _
        rw [List.take_succ_eq_append_getElem hlt, (List.getElem?_eq_some_iff.1 hp).2]
      have hlen : (r.take j).length = j := by rw [List.length_take]; omega
      have hj35 : j < 3518437208883 := Nat.lt_trans hlt HLR.out
      obtain ⟨pk, pd⟩ := p
      simp only at CO hab hzn
      obtain ⟨z1, HZ1⟩ : ∃ z, Hid (Zj r j = z) := ⟨_, rfl⟩
      obtain ⟨z2, HZ2⟩ : ∃ z, Hid (Zj r (j + 1) = z) := ⟨_, rfl⟩
      rw [HZ1.out] at g1 CO hzn ⊢
      rw [HZ2.out] at CO hzn hzl
      clear hp
      go_upto_region 9 with (first | (go_at_call 79; refine (CO.out _).mono ?_; rintro _ w2 ⟨rfl, b2⟩; have H2 : Hid (Op1 w c dv (r.take j) w2) := HH.out.later b2; clear b2) | go_in)
      obtain ⟨W3, HW3⟩ : ∃ W3, Hid (w2.alloc (.cells #[.string pk, .string pd] 82) = W3) := ⟨_, rfl⟩
      obtain ⟨q, HQ⟩ : ∃ q, Hid (w2.heap.size = q) := ⟨_, rfl⟩
      have H3 : Hid (Op1 w c dv (r.take j) W3) := by rw [← HW3.out]; exact H2.out.later ((Below.refl _ _).alloc (Nat.le_refl _) _)
      have x0 : W3.cell? ⟨q, 0, none⟩ = some (.string pk) := by rw [← HW3.out, ← HQ.out, World.cell?_alloc_new]; rfl
      have x1 : W3.cell? ⟨q, 1, none⟩ = some (.string pd) := by rw [← HW3.out, ← HQ.out, World.cell?_alloc_new]; rfl
      rw [HW3.out, HQ.out]
      obtain ⟨a, cap, hdv⟩ := lr_form H3.out.dl
      rw [hlen] at hdv
      have c1 := H3.out.row.c1
      have f1 := H3.out.row.fz 1
      have g2 : ¬ ((z2 : Int) < 0) := by omega
      have HAB : Hid (_ ∧ _) := hab
      have HHL : Hid ((r.take j).length = j) := hlen
      have hgl := H3.out.row.lt
      clear hab hlen CO HCO H2 HH
      by_cases hj0 : j = 0
      · subst hj0
        subst hdv
        go_upto_region 11 with fail
        go_quiet (fail)
        obtain ⟨W4, HW4⟩ : ∃ W4, Hid (W3.drewN nq = W4) := ⟨_, rfl⟩
        rw [HW4.out]
        have B4 : Below W3.heap.size W3 W4 := by rw [← HW4.out]; exact zh.below_dN (Below.refl _ _) nq
        have H4 : Hid (Op1 w c (.slice a (0) cap) (r.take (0)) W4) := H3.out.later B4
        have hqw : q < W3.heap.size := World.block_lt_of_cell? _ _ x0
        have u0 : W4.cell? ⟨q, 0, none⟩ = some (.string pk) := (Kp.of_below (A := fun _ => False) B4).cell x0 (fun e => e)
        have u1 : W4.cell? ⟨q, 1, none⟩ = some (.string pd) := (Kp.of_below (A := fun _ => False) B4).cell x1 (fun e => e)
        have k1 := H4.out.row.c1
        have k1f := H4.out.row.fz 1
        have hg4 := H4.out.row.lt
        have k1a : (W4.alloc (.cells #[.string pk, .string pd] 82)).cell? ⟨w.heap.size, 1, none⟩ = some (.slice a (0) cap) := (World.cell?_alloc_lt _ _ _ hg4).trans k1
        have H5 : Hid (Op1 w c (.slice a (0) cap) (r.take (0)) (W4.alloc (.cells #[.string pk, .string pd] 82))) := H4.out.later ((Below.refl _ _).alloc (Nat.le_refl _) _)
        have O4 : Hid ((W4.alloc (.cells #[.string pk, .string pd] 82)).drew.ownsRow w.heap.size 82 2 (.slice a (0) cap) (0) (rcs (r.take (0)))) := by have := H5.out.dl; unfold Lr at this; rw [HHL.out] at this; exact this
        have hBw : w.heap.size ≤ W4.heap.size := H4.out.bl.size
        have hn1 : (0 + 1) * 32 ≤ 140737488355328 := by omega
        have AR : Hid (∀ w7 g5 c5, w7.ownsRow w.heap.size 82 2 (.slice (some ⟨g5, 0, none⟩) (0 + 1) c5) (0 + 1) (rcs (r.take (0)) ++ [.string pk, .string pd]) → (W4.alloc (.cells #[.string pk, .string pd] 82)).grownBy w7 (Value.slice a (0) cap).ownBlock → Dt w.heap.size (.slice a (0) cap) (.slice none 0 0) (.slice none 0 0) (s00 c) w7 ∧ Op1 w c (.slice (some ⟨g5, 0, none⟩) (0 + 1) c5) (r.take (0 + 1)) (w7.setCell ⟨w.heap.size, 1, none⟩ (.slice (some ⟨g5, 0, none⟩) (0 + 1) c5))) := fun w7 g5 c5 ho7 hg7 => by
          rw [HT.out]
          exact Op1.grown H5.out (by rw [HHL.out]; exact ho7) hg7
        clear c1 f1 x0 x1 B4 hqw hgl
        go_upto_region 13 with fail
        go_cut [71] from 26 to 72 (fun cc wx => Hid (∃ v', Op1 w c v' (r.take (0 + 1)) wx))
        case first =>
          go_region_law ((first | (have zz := O4.out; refine step_append_lies _ (by rfl) (.tmp 66) (.tmp 68) 60 (by rfl) w.heap.size 82 i0 (.agg #[.string ByteArray.empty, .string ByteArray.empty]) 2 32 Tryz.underlying60 HIN.out.1 HIN.out.2.1 HIN.out.2.2.1 HIN.out.2.2.2 rfl (by decide) (.slice a (0) cap) (0) _ (by simp [Act.eval]) O4.out ⟨W4.heap.size, 0, none⟩ 1 1 [.string pk, .string pd] (by simp [Act.eval]) rfl (zc.new_two W4 _ _ _) (one_rc _ _) (by omega) (by unfold maxLen; omega) hn1 (by simp; omega) (W4.heap.size + 1) (by simp) ?_; intro g5 c5 w7 ho7 hg7 hl7 hlt7; have A7 : Hid _ := AR.out w7 g5 c5 ho7 ⟨hg7.os, hg7.tape, hg7.output, hg7.size, hg7.block⟩; have c17 := A7.out.1.c1; have f17 := A7.out.1.fz 1; clear ho7 hg7 hl7 zz)))
          all_goals (go_wp2; go_meet; exact ⟨_, A7.out.2⟩)
        case rest =>
          have HC1 := hcut
          clear hcut
          go_wp2
          go_roundw
          case rel =>
            obtain ⟨v', hv'⟩ := HC1.out
            exact ⟨0 + 1, v', by omega, by rw [HZ2.out]; congr 1; omega, hv'⟩
          case measure => simp [intOf]; omega
      · obtain ⟨i, rfl⟩ : ∃ i, j = i + 1 := ⟨j - 1, by omega⟩
        obtain ⟨p', hp'⟩ : ∃ p', r[i]? = some p' := ⟨_, List.getElem?_eq_getElem (by omega)⟩
        have hla : lastK r (i + 1) = p'.1 := by show ((r[i]?).map (·.1)).getD ⟨#[]⟩ = _; rw [hp']; rfl
        have hab := HAB.out
        rw [hla] at hab
        obtain ⟨t1, t2⟩ := hab
        obtain ⟨g3, ha, _, y0, _⟩ := lr_at (a := a) (c := cap) (by have := H3.out.dl; rw [hdv] at this; rw [HHL.out]; exact this) i p' (by rw [List.getElem?_take_of_lt (by omega)]; exact hp')
        subst ha
        have hd1 : decide (((i + 1 : Nat) : Int) > 0) = true := decide_eq_true (by omega)
        have hd2 : ((i + 1 : Nat) : Int) - 1 = (i : Int) := by omega
        have hdi : (i : Int) < ((i + 1 : Nat) : Int) := by omega
        subst hdv
        obtain ⟨lk, HLK⟩ : ∃ l, Hid (p'.1 = l) := ⟨_, rfl⟩
        rw [HLK.out] at t1 t2 y0
        clear hla hp' hj0
        go_upto_region 11 with fail
        go_quiet (fail)
        obtain ⟨W4, HW4⟩ : ∃ W4, Hid (W3.drewN nq = W4) := ⟨_, rfl⟩
        rw [HW4.out]
        have B4 : Below W3.heap.size W3 W4 := by rw [← HW4.out]; exact zh.below_dN (Below.refl _ _) nq
        have H4 : Hid (Op1 w c (.slice (some ⟨g3, 0, none⟩) (i + 1) cap) (r.take (i + 1)) W4) := H3.out.later B4
        have hqw : q < W3.heap.size := World.block_lt_of_cell? _ _ x0
        have u0 : W4.cell? ⟨q, 0, none⟩ = some (.string pk) := (Kp.of_below (A := fun _ => False) B4).cell x0 (fun e => e)
        have u1 : W4.cell? ⟨q, 1, none⟩ = some (.string pd) := (Kp.of_below (A := fun _ => False) B4).cell x1 (fun e => e)
        have k1 := H4.out.row.c1
        have k1f := H4.out.row.fz 1
        have hg4 := H4.out.row.lt
        have k1a : (W4.alloc (.cells #[.string pk, .string pd] 82)).cell? ⟨w.heap.size, 1, none⟩ = some (.slice (some ⟨g3, 0, none⟩) (i + 1) cap) := (World.cell?_alloc_lt _ _ _ hg4).trans k1
        have H5 : Hid (Op1 w c (.slice (some ⟨g3, 0, none⟩) (i + 1) cap) (r.take (i + 1)) (W4.alloc (.cells #[.string pk, .string pd] 82))) := H4.out.later ((Below.refl _ _).alloc (Nat.le_refl _) _)
        have O4 : Hid ((W4.alloc (.cells #[.string pk, .string pd] 82)).drew.ownsRow w.heap.size 82 2 (.slice (some ⟨g3, 0, none⟩) (i + 1) cap) (i + 1) (rcs (r.take (i + 1)))) := by have := H5.out.dl; unfold Lr at this; rw [HHL.out] at this; exact this
        have hBw : w.heap.size ≤ W4.heap.size := H4.out.bl.size
        have hn1 : (i + 1 + 1) * 32 ≤ 140737488355328 := by omega
        have AR : Hid (∀ w7 g5 c5, w7.ownsRow w.heap.size 82 2 (.slice (some ⟨g5, 0, none⟩) (i + 1 + 1) c5) (i + 1 + 1) (rcs (r.take (i + 1)) ++ [.string pk, .string pd]) → (W4.alloc (.cells #[.string pk, .string pd] 82)).grownBy w7 (Value.slice (some ⟨g3, 0, none⟩) (i + 1) cap).ownBlock → Dt w.heap.size (.slice (some ⟨g3, 0, none⟩) (i + 1) cap) (.slice none 0 0) (.slice none 0 0) (s00 c) w7 ∧ Op1 w c (.slice (some ⟨g5, 0, none⟩) (i + 1 + 1) c5) (r.take (i + 1 + 1)) (w7.setCell ⟨w.heap.size, 1, none⟩ (.slice (some ⟨g5, 0, none⟩) (i + 1 + 1) c5))) := fun w7 g5 c5 ho7 hg7 => by
          rw [HT.out]
          exact Op1.grown H5.out (by rw [HHL.out]; exact ho7) hg7
        clear c1 f1 x0 x1 B4 hqw hgl
        go_upto_region 13 with fail
        go_cut [71] from 26 to 72 (fun cc wx => Hid (∃ v', Op1 w c v' (r.take (i + 1 + 1)) wx))
        case first =>
          go_region_law ((first | (have zz := O4.out; refine step_append_lies _ (by rfl) (.tmp 66) (.tmp 68) 60 (by rfl) w.heap.size 82 i0 (.agg #[.string ByteArray.empty, .string ByteArray.empty]) 2 32 Tryz.underlying60 HIN.out.1 HIN.out.2.1 HIN.out.2.2.1 HIN.out.2.2.2 rfl (by decide) (.slice (some ⟨g3, 0, none⟩) (i + 1) cap) (i + 1) _ (by simp [Act.eval]) O4.out ⟨W4.heap.size, 0, none⟩ 1 1 [.string pk, .string pd] (by simp [Act.eval]) rfl (zc.new_two W4 _ _ _) (one_rc _ _) (by omega) (by unfold maxLen; omega) hn1 (by simp; omega) (W4.heap.size + 1) (by simp) ?_; intro g5 c5 w7 ho7 hg7 hl7 hlt7; have A7 : Hid _ := AR.out w7 g5 c5 ho7 ⟨hg7.os, hg7.tape, hg7.output, hg7.size, hg7.block⟩; have c17 := A7.out.1.c1; have f17 := A7.out.1.fz 1; clear ho7 hg7 hl7 zz)))
          all_goals (go_wp2; go_meet; exact ⟨_, A7.out.2⟩)
        case rest =>
          have HC1 := hcut
          clear hcut
          go_wp2
          go_roundw
          case rel =>
            obtain ⟨v', hv'⟩ := HC1.out
            exact ⟨i + 1 + 1, v', by omega, by rw [HZ2.out]; congr 1; omega, hv'⟩
          case measure => simp [intOf]; omega
    · obtain rfl : j = r.length := by omega
      have g1 : ¬ ((Zj r r.length : Nat) : Int) < (L : Int) := by rw [HZA2.out]; omega
      obtain ⟨a, cap, hdv⟩ := lr_form HH.out.dl
      have HO := HH.out
      rw [List.take_length] at HO hdv
      have c1 := HO.row.c1
      have c6 := HO.row.c6
      have f6 := HO.row.fz 6
      have END : Hid (Ds w.heap.size w.heap.size dv (.slice none 0 0) dv ⟨c, r, [], 0, false, 0⟩ (wr.setCell ⟨w.heap.size, 6, none⟩ dv) ∧ Below w.heap.size w (wr.setCell ⟨w.heap.size, 6, none⟩ dv)) := by
        have hn2 : some w.heap.size ≠ dv.ownBlock := own_tag HO.dl HO.row dr1
        have ho2 : Lr w.heap.size dv r (wr.setCell ⟨w.heap.size, 6, none⟩ dv) := own_kp HO.dl (Kp.setCell (A := fun j => j = w.heap.size) _ _ _ _ rfl) (fun j hj e => hn2 (by rw [← e]; exact hj))
        exact ⟨⟨HO.row.set6 dv, ho2, ho2, World.ownsRow_nil _ _ _ _, Nat.le_refl _, HOS.out⟩, HO.bl.setCell (Nat.le_refl _) _⟩
      clear HO HH
      subst hdv
      go_wp2
      go_ret2
      exact ⟨rfl, ⟨_, END.out.1⟩, END.out.2⟩
theorem openDNo (im : ByteArray) (c : Int) (w : World) (hc : ¬ (0 ≤ c ∧ c ≤ 1073741824)) : Calls Tryz.prog 30 #[.string im, .int .i64 c] w fun e w' => e = .returned (.tuple #[.pointer none, .int .i64 10]) ∧ w' = w := by
  rcases (show c < 0 ∨ (¬ c < 0 ∧ 1073741824 < c) by omega) with h | ⟨h, h2⟩
  · have q1 : decide (c < 0) = true := decide_eq_true h
    clear hc h
    go_enter Tryz.func30, Tryz.ntmps30
    go_wp2
    go_ret2
    first | exact ⟨rfl, rfl⟩ | rfl | trivial
  · have q1 : decide (c < 0) = false := decide_eq_false h
    have q2 : decide (1073741824 < c) = true := decide_eq_true h2
    clear hc h h2
    go_enter Tryz.func30, Tryz.ntmps30
    go_wp2
    go_ret2
    first | exact ⟨rfl, rfl⟩ | rfl | trivial
theorem openNo (im : ByteArray) (c : Int) (w : World) (hc : ¬ (0 ≤ c ∧ c ≤ 1073741824)) : Calls Tryz.prog 28 #[.string im, .int .i64 c] w fun e w' => e = .returned (.tuple #[.pointer none, .int .i64 10]) ∧ w' = w := by
  have CC : Hid (∀ w, Calls _ _ _ _ _) := fun w => capC c w
  rw [decide_eq_false hc] at CC
  clear hc
  go_enter Tryz.func28, Tryz.ntmps28
  go_wp2_with fail
  refine (CC.out _).mono ?_
  rintro _ _ ⟨rfl, hw⟩; rw [hw]; clear hw
  go_wp2
  go_ret2
  first | exact ⟨rfl, rfl⟩ | rfl | trivial
end Go.Proofs.YtlkkibiedlakfaaGreat.xn

namespace Go.Proofs.YtlkkibiedlakfaaGreat.wo
open Go.RowKit Go.PlainAid Go.Maps Go.Shelf
open Go.Proofs.YtlkkibiedlakfaaGreat.cp Go.Proofs.YtlkkibiedlakfaaGreat.kp Go.Proofs.YtlkkibiedlakfaaGreat.ka Go.Proofs.YtlkkibiedlakfaaGreat.ya Go.Proofs.YtlkkibiedlakfaaGreat.yb Go.Proofs.YtlkkibiedlakfaaGreat.ye Go.Proofs.YtlkkibiedlakfaaGreat.yf Go.Proofs.YtlkkibiedlakfaaGreat.yo Go.Proofs.YtlkkibiedlakfaaGreat.yp Go.Proofs.YtlkkibiedlakfaaGreat.yr Go.Proofs.YtlkkibiedlakfaaGreat.zg Go.Proofs.YtlkkibiedlakfaaGreat.xa Go.Proofs.YtlkkibiedlakfaaGreat.xc
set_option linter.unusedVariables false
set_option linter.unusedSimpArgs false
-- the program's store and the document's, each in memory of its own: told by the kinds of their blocks
theorem ta1 : (82 : Nat) ≠ 80 := by decide
theorem ta2 : (82 : Nat) ≠ 105 := by decide
theorem ta3 : (109 : Nat) ≠ 80 := by decide
theorem ta4 : (109 : Nat) ≠ 105 := by decide
theorem ta5 : (63 : Nat) ≠ 80 := by decide
theorem ta6 : (63 : Nat) ≠ 105 := by decide
theorem fr_not {B g bn bd T j : Nat} {pv : Value} {s : S} {w : World} {cur : Array Value} {f : Nat × Nat} (h : Sr B g bn bd pv s w) (h1 : T ≠ 80) (h2 : T ≠ 105) (hj : Fr g bn bd pv j) (hh : w.heap[j]? = some (.cells cur T f)) : False := by
  rcases hj with rfl | rfl | rfl | hj
  · have hr : w.heap[j]? = _ := h.row
    rw [hr] at hh
    exact h1 (Obj.cells.inj (Option.some.inj hh)).2.1.symm
  · obtain ⟨es, clock, hb, _⟩ := h.mn
    rw [hb] at hh
    cases hh
  · obtain ⟨es, clock, hb, _⟩ := h.md
    rw [hb] at hh
    cases hh
  · exact own_tag h.pr hh (Ne.symm h2) hj
theorem own_cells {w : World} {B t z n j : Nat} {v : Value} {xs : List Value} (o : w.ownsRow B t z v n xs) (hj : some j = v.ownBlock) : ∃ cur f, w.heap[j]? = some (.cells cur t f) := by
  rcases o.2 with ⟨rfl, _⟩ | ⟨g', cap, cur', rfl, _, h3, _⟩
  · cases hj
  · have e : j = g' := Option.some.inj hj
    exact ⟨_, _, by rw [e]; exact h3⟩
theorem apart {B B' g bn bd g' : Nat} {pv dv wv vv : Value} {s t : S} {w : World} (h1 : Sr B g bn bd pv s w) (h2 : Ds B' g' dv wv vv t w) (j : Nat) (hj : Fr g bn bd pv j) : j ≠ g' ∧ some j ≠ wv.ownBlock ∧ some j ≠ dv.ownBlock ∧ some j ≠ vv.ownBlock := by
  refine ⟨fun e => ?_, fun e => ?_, fun e => ?_, fun e => ?_⟩
  · subst e
    exact fr_not h1 ta5 ta6 hj h2.row
  · obtain ⟨cur, f, hc⟩ := own_cells h2.wl e
    exact fr_not h1 ta3 ta4 hj hc
  · obtain ⟨cur, f, hc⟩ := own_cells h2.dl e
    exact fr_not h1 ta1 ta2 hj hc
  · obtain ⟨cur, f, hc⟩ := own_cells h2.vl e
    exact fr_not h1 ta1 ta2 hj hc
structure Bo (K : Nat → Prop) (g bn bd g' : Nat) (s t : S) (w0 w : World) : Prop where
  ex : ∃ pv dv wv vv, Sr 0 g bn bd pv s w ∧ Ds 0 g' dv wv vv t w ∧ ∀ j, K j → ¬ Fr g bn bd pv j ∧ ¬ xc.Fd g' wv j
  bl : Kp (fun j => ¬ K j) w0 w
  low : ∀ j, K j → j < w0.heap.size
section
variable {K : Nat → Prop} {g bn bd g' : Nat} {s t : S} {w0 w w' : World}
theorem Bo.later (h : Bo K g bn bd g' s t w0 w) (b : Below w.heap.size w w') : Bo K g bn bd g' s t w0 w' := by
  obtain ⟨⟨pv, dv, wv, vv, h1, h2, h3⟩, hb, hl⟩ := h
  exact ⟨⟨pv, dv, wv, vv, sr_later h1 b, h2.later b, h3⟩, hb.trans (Kp.of_below b), hl⟩
theorem Bo.fst (h : Bo K g bn bd g' s t w0 w) : ∃ pv, Sr 0 g bn bd pv s w ∧ ∀ s' w', Rn 0 g bn bd pv s' w w' → Bo K g bn bd g' s' t w0 w' := by
  obtain ⟨⟨pv, dv, wv, vv, h1, h2, h3⟩, hb, hl⟩ := h
  refine ⟨pv, h1, fun s' w' ⟨pv', r1, r2, r3⟩ => ⟨⟨pv', dv, wv, vv, r1, h2.keep r2 (fun hf => (apart h1 h2 _ hf).1 rfl) (fun j hj hf => (apart h1 h2 j hf).2.1 hj) (fun j hj hf => (apart h1 h2 j hf).2.2.1 hj) (fun j hj hf => (apart h1 h2 j hf).2.2.2 hj), fun j hj => ⟨?_, (h3 j hj).2⟩⟩, hb.trans (r2.mono (fun j hj hk => (h3 j hk).1 hj)), hl⟩⟩
  rintro (e | e | e | e)
  · exact (h3 j hj).1 (.inl e)
  · exact (h3 j hj).1 (.inr (.inl e))
  · exact (h3 j hj).1 (.inr (.inr (.inl e)))
  · rcases r3 j e with e2 | e2
    · exact (h3 j hj).1 (.inr (.inr (.inr e2)))
    · have := hl j hj
      have := hb.size
      omega
theorem Bo.snd (h : Bo K g bn bd g' s t w0 w) : ∃ dv wv vv, Ds 0 g' dv wv vv t w ∧ ∀ t' w', Rd 0 g' wv t' w w' → Bo K g bn bd g' s t' w0 w' := by
  obtain ⟨⟨pv, dv, wv, vv, h1, h2, h3⟩, hb, hl⟩ := h
  refine ⟨dv, wv, vv, h2, fun t' w' ⟨dv', wv', vv', r1, r2, r3⟩ => ⟨⟨pv, dv', wv', vv', sr_keep h1 r2 (fun j hj hf => ?_), r1, fun j hj => ⟨(h3 j hj).1, ?_⟩⟩, hb.trans (r2.mono (fun j hj hk => (h3 j hk).2 hj)), hl⟩⟩
  · rcases hf with e | e
    · exact (apart h1 h2 j hj).1 e
    · exact (apart h1 h2 j hj).2.1 e
  · rintro (e | e)
    · exact (h3 j hj).2 (.inl e)
    · rcases r3 j e with e2 | e2
      · exact (h3 j hj).2 (.inr e2)
      · have := hl j hj
        have := hb.size
        omega
-- one call on each: the law's do and told
theorem doB (kind : Int) (k d : ByteArray) (n : Int) (h : Bo K g bn bd g' s t w0 w) (hk : k.size ≤ 140737488355328) (hd : d.size ≤ 140737488355328) (hn : n ≤ 9223372036854775807) (hl : s.dur.length + s.pend.length + 1 < 3518437208883) (ha : s.age < 4398046511104) (hi : isz s.dur ≤ 140737488355000) :
    Calls Tryz.prog 26 #[.pointer (some ⟨g, 0, none⟩), .agg #[.int .i64 kind, .string k, .string d, .int .i64 n]] w fun e w' => ∃ (na : Option Addr) (nl nc : Nat), e = .returned (.agg #[.string (aT s kind k), .slice na nl nc, .int .i64 (doS s kind k d n).1, .int .i64 (aA s kind), .int .i64 (aB s kind), .int .i64 (aC s kind), .bool (aD s kind), .int .i64 (aG s kind)]) ∧ w'.ownsRow w.heap.size 9 1 (.slice na nl nc) (aN s kind k).length ((aN s kind k).map Value.string) ∧ Bo K g bn bd g' (doS s kind k d n).2 t w0 w' := by
  obtain ⟨pv, h1, h2⟩ := h.fst
  exact (doT kind k d n h1 hk hd hn hl ha hi (Nat.zero_le _)).mono fun e w' ⟨na, nl, nc, g1, g2, g3⟩ => ⟨na, nl, nc, g1, g2, h2 _ _ g3⟩
theorem toldB (kind : Int) (k d : ByteArray) (n : Int) (h : Bo K g bn bd g' s t w0 w) (hk : k.size ≤ 140737488355328) (hd : d.size ≤ 140737488355328) (hn : n ≤ 9223372036854775807) (hl : t.dur.length + t.pend.length + 1 < 3518437208883) (ha : t.age < 4398046511104) (hi : isz t.dur ≤ 140737488355000) :
    Calls Tryz.prog 27 #[.pointer (some ⟨g', 0, none⟩), .agg #[.int .i64 kind, .string k, .string d, .int .i64 n]] w fun e w' => ∃ (na : Option Addr) (nl nc : Nat), e = .returned (.agg #[.string (aT t kind k), .slice na nl nc, .int .i64 (doS t kind k d n).1, .int .i64 (aA t kind), .int .i64 (aB t kind), .int .i64 (aC t kind), .bool (aD t kind), .int .i64 (aG t kind)]) ∧ w'.ownsRow w.heap.size 9 1 (.slice na nl nc) (aN t kind k).length ((aN t kind k).map Value.string) ∧ Bo K g bn bd g' s (doS t kind k d n).2 w0 w' := by
  obtain ⟨dv, wv, vv, h1, h2⟩ := h.snd
  exact (xl.toldT kind k d n h1 hk hd hn hl ha hi (Nat.zero_le _)).mono fun e w' ⟨na, nl, nc, g1, g2, g3⟩ => ⟨na, nl, nc, g1, g2, h2 _ _ g3⟩
end
end Go.Proofs.YtlkkibiedlakfaaGreat.wo

namespace Go.Proofs.YtlkkibiedlakfaaGreat.wp
open Go.RowKit Go.PlainAid Go.Maps Go.Shelf
open Go.Proofs.YtlkkibiedlakfaaGreat.ca Go.Proofs.YtlkkibiedlakfaaGreat.cp Go.Proofs.YtlkkibiedlakfaaGreat.kp Go.Proofs.YtlkkibiedlakfaaGreat.ka Go.Proofs.YtlkkibiedlakfaaGreat.ya Go.Proofs.YtlkkibiedlakfaaGreat.yb Go.Proofs.YtlkkibiedlakfaaGreat.ye Go.Proofs.YtlkkibiedlakfaaGreat.yf Go.Proofs.YtlkkibiedlakfaaGreat.yo Go.Proofs.YtlkkibiedlakfaaGreat.yp Go.Proofs.YtlkkibiedlakfaaGreat.yr Go.Proofs.YtlkkibiedlakfaaGreat.zg Go.Proofs.YtlkkibiedlakfaaGreat.xa Go.Proofs.YtlkkibiedlakfaaGreat.xc Go.Proofs.YtlkkibiedlakfaaGreat.wo
set_option linter.unusedVariables false
set_option linter.unusedSimpArgs false
-- blocks of other kinds stay
def Stay (A : Nat → Prop) (w w' : World) : Prop := w.heap.size ≤ w'.heap.size ∧ ∀ (j : Nat) (cur : Array Value) (T : Nat) (f : Nat × Nat), w.heap[j]? = some (Obj.cells cur T f) → A T → w'.heap[j]? = some (Obj.cells cur T f)
def oth (T : Nat) : Prop := T ≠ 80 ∧ T ≠ 105 ∧ T ≠ 63 ∧ T ≠ 109
section
variable {K : Nat → Prop} {g bn bd g' : Nat} {s t : S} {w0 w w' : World}
theorem Bo.fst' (h : Bo K g bn bd g' s t w0 w) : ∃ pv, Sr 0 g bn bd pv s w ∧ ∀ s' w', Rn 0 g bn bd pv s' w w' → Bo K g bn bd g' s' t w0 w' ∧ Stay oth w w' := by
  obtain ⟨pv2, k1, k2⟩ := Bo.fst h
  refine ⟨pv2, k1, fun s' w' r => ⟨k2 s' w' r, ?_⟩⟩
  obtain ⟨pv', r1, r2, _⟩ := r
  exact ⟨r2.size, fun j cur T f hh hT => (r2.block j (Array.getElem?_eq_some_iff.1 hh).1 (fun hf => fr_not k1 hT.1 hT.2.1 hf hh)).trans hh⟩
theorem Bo.snd' (h : Bo K g bn bd g' s t w0 w) : ∃ dv wv vv, Ds 0 g' dv wv vv t w ∧ ∀ t' w', Rd 0 g' wv t' w w' → Bo K g bn bd g' s t' w0 w' ∧ Stay oth w w' := by
  obtain ⟨dv, wv, vv, k1, k2⟩ := Bo.snd h
  refine ⟨dv, wv, vv, k1, fun t' w' r => ⟨k2 t' w' r, ?_⟩⟩
  obtain ⟨dv', wv', vv', r1, r2, _⟩ := r
  refine ⟨r2.size, fun j cur T f hh hT => (r2.block j (Array.getElem?_eq_some_iff.1 hh).1 (fun hf => ?_)).trans hh⟩
  rcases hf with e | e
  · subst e
    have hr : w.heap[j]? = _ := k1.row
    rw [hr] at hh
    exact hT.2.2.1 (Obj.cells.inj (Option.some.inj hh)).2.1.symm
  · exact own_tag k1.wl hh (Ne.symm hT.2.2.2) e
end
theorem Stay.own {w w' : World} {B n : Nat} {v : Value} {xs : List Value} (h : Stay oth w w') (o : w.ownsRow B 9 1 v n xs) : w'.ownsRow B 9 1 v n xs := by
  refine ⟨o.1, ?_⟩
  rcases o.2 with h2 | ⟨g', cap, cur', e, h2, h3, h4⟩
  · exact .inl h2
  · exact .inr ⟨g', cap, cur', e, h2, h.2 _ _ _ _ h3 ⟨by decide, by decide, by decide, by decide⟩, h4⟩
-- the pair's block
def pr2 (g g' : Nat) : Array Value := #[.pointer (some ⟨g, 0, none⟩), .pointer (some ⟨g', 0, none⟩)]
theorem oth_pair : oth 29 := ⟨by decide, by decide, by decide, by decide⟩
theorem oth_op : oth 34 := ⟨by decide, by decide, by decide, by decide⟩
structure Pr (K : Nat → Prop) (P g bn bd g' : Nat) (s t : S) (w0 w : World) : Prop where
  bo : Bo K g bn bd g' s t w0 w
  pr : w.heap[P]? = some (.cells (pr2 g g') 29 (0, 0))
section
variable {K : Nat → Prop} {P g bn bd g' : Nat} {s t : S} {w0 w w' : World}
theorem Pr.later (h : Pr K P g bn bd g' s t w0 w) (b : Below w.heap.size w w') : Pr K P g bn bd g' s t w0 w' := ⟨h.bo.later b, (b.block _ (Array.getElem?_eq_some_iff.1 h.pr).1).trans h.pr⟩
theorem Pr.c0 (h : Pr K P g bn bd g' s t w0 w) : w.cell? ⟨P, 0, none⟩ = some (.pointer (some ⟨g, 0, none⟩)) := cell_of_row _ _ 0 _ _ _ h.pr
theorem Pr.c1 (h : Pr K P g bn bd g' s t w0 w) : w.cell? ⟨P, 1, none⟩ = some (.pointer (some ⟨g', 0, none⟩)) := cell_of_row _ _ 1 _ _ _ h.pr
theorem doP (kind : Int) (k d : ByteArray) (n : Int) (h : Pr K P g bn bd g' s t w0 w) (hk : k.size ≤ 140737488355328) (hd : d.size ≤ 140737488355328) (hn : n ≤ 9223372036854775807) (hl : s.dur.length + s.pend.length + 1 < 3518437208883) (ha : s.age < 4398046511104) (hi : isz s.dur ≤ 140737488355000) :
    Calls Tryz.prog 26 #[.pointer (some ⟨g, 0, none⟩), .agg #[.int .i64 kind, .string k, .string d, .int .i64 n]] w fun e w' => ∃ (na : Option Addr) (nl nc : Nat), e = .returned (.agg #[.string (aT s kind k), .slice na nl nc, .int .i64 (doS s kind k d n).1, .int .i64 (aA s kind), .int .i64 (aB s kind), .int .i64 (aC s kind), .bool (aD s kind), .int .i64 (aG s kind)]) ∧ w'.ownsRow w.heap.size 9 1 (.slice na nl nc) (aN s kind k).length ((aN s kind k).map Value.string) ∧ Pr K P g bn bd g' (doS s kind k d n).2 t w0 w' ∧ Stay oth w w' := by
  obtain ⟨pv, h1, h2⟩ := Bo.fst' h.bo
  exact (doT kind k d n h1 hk hd hn hl ha hi (Nat.zero_le _)).mono fun e w' ⟨na, nl, nc, g1, g2, g3⟩ => ⟨na, nl, nc, g1, g2, ⟨(h2 _ _ g3).1, (h2 _ _ g3).2.2 _ _ _ _ h.pr oth_pair⟩, (h2 _ _ g3).2⟩
theorem toldP (kind : Int) (k d : ByteArray) (n : Int) (h : Pr K P g bn bd g' s t w0 w) (hk : k.size ≤ 140737488355328) (hd : d.size ≤ 140737488355328) (hn : n ≤ 9223372036854775807) (hl : t.dur.length + t.pend.length + 1 < 3518437208883) (ha : t.age < 4398046511104) (hi : isz t.dur ≤ 140737488355000) :
    Calls Tryz.prog 27 #[.pointer (some ⟨g', 0, none⟩), .agg #[.int .i64 kind, .string k, .string d, .int .i64 n]] w fun e w' => ∃ (na : Option Addr) (nl nc : Nat), e = .returned (.agg #[.string (aT t kind k), .slice na nl nc, .int .i64 (doS t kind k d n).1, .int .i64 (aA t kind), .int .i64 (aB t kind), .int .i64 (aC t kind), .bool (aD t kind), .int .i64 (aG t kind)]) ∧ w'.ownsRow w.heap.size 9 1 (.slice na nl nc) (aN t kind k).length ((aN t kind k).map Value.string) ∧ Pr K P g bn bd g' s (doS t kind k d n).2 w0 w' ∧ Stay oth w w' := by
  obtain ⟨dv, wv, vv, h1, h2⟩ := Bo.snd' h.bo
  exact (xl.toldT kind k d n h1 hk hd hn hl ha hi (Nat.zero_le _)).mono fun e w' ⟨na, nl, nc, g1, g2, g3⟩ => ⟨na, nl, nc, g1, g2, ⟨(h2 _ _ g3).1, (h2 _ _ g3).2.2 _ _ _ _ h.pr oth_pair⟩, (h2 _ _ g3).2⟩
end
end Go.Proofs.YtlkkibiedlakfaaGreat.wp

namespace Go.Proofs.YtlkkibiedlakfaaGreat.wq
open Go.RowKit Go.PlainAid Go.Maps Go.Shelf
open Go.Proofs.YtlkkibiedlakfaaGreat.ca Go.Proofs.YtlkkibiedlakfaaGreat.cp Go.Proofs.YtlkkibiedlakfaaGreat.kp Go.Proofs.YtlkkibiedlakfaaGreat.ka Go.Proofs.YtlkkibiedlakfaaGreat.ya Go.Proofs.YtlkkibiedlakfaaGreat.yb Go.Proofs.YtlkkibiedlakfaaGreat.ye Go.Proofs.YtlkkibiedlakfaaGreat.yf Go.Proofs.YtlkkibiedlakfaaGreat.yo Go.Proofs.YtlkkibiedlakfaaGreat.yp Go.Proofs.YtlkkibiedlakfaaGreat.yr Go.Proofs.YtlkkibiedlakfaaGreat.zg Go.Proofs.YtlkkibiedlakfaaGreat.xa Go.Proofs.YtlkkibiedlakfaaGreat.xc Go.Proofs.YtlkkibiedlakfaaGreat.wo Go.Proofs.YtlkkibiedlakfaaGreat.wp
set_option linter.unusedVariables false
set_option linter.unusedSimpArgs false
theorem four {w : World} {q : Nat} {a b c d : Value} {t : Nat} {f : Nat × Nat} (h : w.heap[q]? = some (.cells #[a, b, c, d] t f)) : w.cell? ⟨q, 0, none⟩ = some a ∧ w.cell? ⟨q, 1, none⟩ = some b ∧ w.cell? ⟨q, 2, none⟩ = some c ∧ w.cell? ⟨q, 3, none⟩ = some d :=
  ⟨cell_of_row _ _ 0 _ _ _ h, cell_of_row _ _ 1 _ _ _ h, cell_of_row _ _ 2 _ _ _ h, cell_of_row _ _ 3 _ _ _ h⟩
set_option maxRecDepth 20000 in
set_option maxHeartbeats 1600000 in
theorem stepA {K : Nat → Prop} {P g bn bd g' : Nat} {s : S} {w0 w : World} (kind : Int) (k d : ByteArray) (n : Int) (h : Pr K P g bn bd g' s s w0 w) (h10 : kind ≠ 10) (hk : k.size ≤ 140737488355328) (hd : d.size ≤ 140737488355328) (hn : n ≤ 9223372036854775807) (hl : s.dur.length + s.pend.length + 1 < 3518437208883) (ha : s.age < 4398046511104) (hi : isz s.dur ≤ 140737488355000) (hz : (aN s kind k).length ≤ 140737488355328) :
    Calls Tryz.prog 7 #[.pointer (some ⟨P, 0, none⟩), .agg #[.int .i64 kind, .string k, .string d, .int .i64 n]] w fun e w' => e = .returned (.bool true) ∧ Pr K P g bn bd g' (doS s kind k d n).2 (doS s kind k d n).2 w0 w' := by
  obtain ⟨W1, HW⟩ : ∃ W1, Hid (w.alloc (.cells #[.int .i64 kind, .string k, .string d, .int .i64 n] 34) = W1) := ⟨_, rfl⟩
  have B1 : Below w.heap.size w W1 := by rw [← HW.out]; exact (Below.refl _ _).alloc (Nat.le_refl _) _
  have BD : Below W1.heap.size W1 W1.drew := (Below.refl _ _).drew
  obtain ⟨Q, HQ⟩ : ∃ Q, Hid (w.heap.size = Q) := ⟨_, rfl⟩
  have F1 : W1.heap[Q]? = some (.cells #[.int .i64 kind, .string k, .string d, .int .i64 n] 34 (0, 0)) := by rw [← HW.out, ← HQ.out]; exact heap_alloc_new w _
  have P1 : Hid (Pr K P g bn bd g' s s w0 W1.drew) := (h.later B1).later BD
  have P0 := h.later B1
  have p0 := P0.c0
  have p1 := P0.c1
  obtain ⟨f0, f1, f2, f3⟩ := four F1
  obtain ⟨s1, HS1⟩ : ∃ s1, Hid ((doS s kind k d n).2 = s1) := ⟨_, rfl⟩
  have CD : Hid (∀ w1, Pr K P g bn bd g' s s w0 w1 → Calls Tryz.prog 26 #[.pointer (some ⟨g, 0, none⟩), .agg #[.int .i64 kind, .string k, .string d, .int .i64 n]] w1 fun e w' => ∃ (na : Option Addr) (nl nc : Nat), e = .returned (.agg #[.string (aT s kind k), .slice na nl nc, .int .i64 (doS s kind k d n).1, .int .i64 (aA s kind), .int .i64 (aB s kind), .int .i64 (aC s kind), .bool (aD s kind), .int .i64 (aG s kind)]) ∧ w'.ownsRow w1.heap.size 9 1 (.slice na nl nc) (aN s kind k).length ((aN s kind k).map Value.string) ∧ Pr K P g bn bd g' s1 s w0 w' ∧ Stay oth w1 w') := fun w1 h1 => by
    have := doP kind k d n h1 hk hd hn hl ha hi
    rw [HS1.out] at this
    exact this
  have CT : Hid (∀ w1, Pr K P g bn bd g' s1 s w0 w1 → Calls Tryz.prog 27 #[.pointer (some ⟨g', 0, none⟩), .agg #[.int .i64 kind, .string k, .string d, .int .i64 n]] w1 fun e w' => ∃ (na : Option Addr) (nl nc : Nat), e = .returned (.agg #[.string (aT s kind k), .slice na nl nc, .int .i64 (doS s kind k d n).1, .int .i64 (aA s kind), .int .i64 (aB s kind), .int .i64 (aC s kind), .bool (aD s kind), .int .i64 (aG s kind)]) ∧ w'.ownsRow w1.heap.size 9 1 (.slice na nl nc) (aN s kind k).length ((aN s kind k).map Value.string) ∧ Pr K P g bn bd g' s1 s1 w0 w' ∧ Stay oth w1 w') := fun w1 h1 => by
    have := toldP kind k d n h1 hk hd hn hl ha hi
    rw [HS1.out] at this
    exact this
  have HZ : Hid ((aN s kind k).length ≤ 140737488355328) := hz
  have F1d : Hid (W1.drew.heap[Q]? = some (.cells #[.int .i64 kind, .string k, .string d, .int .i64 n] 34 (0, 0))) := F1
  have S1 : Hid (W1.drew.cell? ⟨P, 0, none⟩ = some (.pointer (some ⟨g, 0, none⟩)) ∧ W1.drew.cell? ⟨P, 1, none⟩ = some (.pointer (some ⟨g', 0, none⟩)) ∧ W1.drew.cell? ⟨Q, 0, none⟩ = some (.int .i64 kind) ∧ W1.drew.cell? ⟨Q, 1, none⟩ = some (.string k) ∧ W1.drew.cell? ⟨Q, 2, none⟩ = some (.string d) ∧ W1.drew.cell? ⟨Q, 3, none⟩ = some (.int .i64 n)) := ⟨P1.out.c0, P1.out.c1, four F1d.out⟩
  have q10 : (kind == 10) = false := by rw [beq_eq_false_iff_ne]; exact h10
  rw [HS1.out]
  obtain ⟨xT, HxT⟩ : ∃ x, Hid (aT s kind k = x) := ⟨_, rfl⟩
  obtain ⟨xN, HxN⟩ : ∃ x, Hid (aN s kind k = x) := ⟨_, rfl⟩
  obtain ⟨xE, HxE⟩ : ∃ x, Hid ((doS s kind k d n).1 = x) := ⟨_, rfl⟩
  obtain ⟨xA, HxA⟩ : ∃ x, Hid (aA s kind = x) := ⟨_, rfl⟩
  obtain ⟨xB, HxB⟩ : ∃ x, Hid (aB s kind = x) := ⟨_, rfl⟩
  obtain ⟨xC, HxC⟩ : ∃ x, Hid (aC s kind = x) := ⟨_, rfl⟩
  obtain ⟨xD, HxD⟩ : ∃ x, Hid (aD s kind = x) := ⟨_, rfl⟩
  obtain ⟨xG, HxG⟩ : ∃ x, Hid (aG s kind = x) := ⟨_, rfl⟩
  rw [HxT.out, HxN.out, HxE.out, HxA.out, HxB.out, HxC.out, HxD.out, HxG.out] at CD CT
  rw [HxN.out] at HZ
  have CS : Hid (∀ w1 na nl nc nb ml mc, ReadsT w1 (.slice na nl nc) xN → ReadsT w1 (.slice nb ml mc) xN → Calls Tryz.prog 25 #[.agg #[.string xT, .slice na nl nc, .int .i64 xE, .int .i64 xA, .int .i64 xB, .int .i64 xC, .bool xD, .int .i64 xG], .agg #[.string xT, .slice nb ml mc, .int .i64 xE, .int .i64 xA, .int .i64 xB, .int .i64 xC, .bool xD, .int .i64 xG]] w1 fun r w' => r = .returned (.bool true) ∧ Below w1.heap.size w1 w') := fun w1 na nl nc nb ml mc r1 r2 => zh.same12 xT na nb nl nc ml mc xE xA xB xC xG xD xN w1 r1 r2 HZ.out
  clear h h10 hk hd hn hl ha hi hz B1 BD F1 P0 HS1 HxT HxN HxE HxA HxB HxC HxD HxG
  go_enter Tryz.func7, Tryz.ntmps7
  go_upto_region 1 with fail
  rw [HW.out, HQ.out]
  go_upto_region 2 with fail
  go_region_held3 (fun w' => w'.cell? ⟨P, 0, none⟩ = some (.pointer (some ⟨g, 0, none⟩)) ∧ w'.cell? ⟨P, 1, none⟩ = some (.pointer (some ⟨g', 0, none⟩)) ∧ w'.cell? ⟨Q, 0, none⟩ = some (.int .i64 kind) ∧ w'.cell? ⟨Q, 1, none⟩ = some (.string k) ∧ w'.cell? ⟨Q, 2, none⟩ = some (.string d) ∧ w'.cell? ⟨Q, 3, none⟩ = some (.int .i64 n)) (first | exact S1.out | exact S2.out | exact S3.out | exact S4.out) (first | (go_at_call 26; refine (CD.out _ P1.out).mono ?_; rintro _ w2 ⟨na, nl, nc, rfl, ow, hp, st⟩; have P2 : Hid (Pr _ _ _ _ _ _ _ _ _ w2) := hp; have O2 : Hid (World.ownsRow w2 _ _ _ _ _ _) := ow; have F2 : Hid (w2.heap[Q]? = _) := st.2 _ _ _ _ F1d.out oth_op; have S2 : Hid (w2.cell? ⟨P, 0, none⟩ = some (.pointer (some ⟨g, 0, none⟩)) ∧ w2.cell? ⟨P, 1, none⟩ = some (.pointer (some ⟨g', 0, none⟩)) ∧ w2.cell? ⟨Q, 0, none⟩ = some (.int .i64 kind) ∧ w2.cell? ⟨Q, 1, none⟩ = some (.string k) ∧ w2.cell? ⟨Q, 2, none⟩ = some (.string d) ∧ w2.cell? ⟨Q, 3, none⟩ = some (.int .i64 n)) := ⟨hp.c0, hp.c1, four F2.out⟩; clear ow hp st) | (go_at_call 27; refine (CT.out _ P2.out).mono ?_; rintro _ w3 ⟨nb, ml, mc, rfl, ow, hp, st⟩; have P3 : Hid (Pr _ _ _ _ _ _ _ _ _ w3) := hp; have R3 : Hid (ReadsT w3 _ xN) := own_readsT (st.own O2.out); have R4 : Hid (ReadsT w3 _ xN) := own_readsT ow; have F3 : Hid (w3.heap[Q]? = _) := st.2 _ _ _ _ F2.out oth_op; have S3 : Hid (w3.cell? ⟨P, 0, none⟩ = some (.pointer (some ⟨g, 0, none⟩)) ∧ w3.cell? ⟨P, 1, none⟩ = some (.pointer (some ⟨g', 0, none⟩)) ∧ w3.cell? ⟨Q, 0, none⟩ = some (.int .i64 kind) ∧ w3.cell? ⟨Q, 1, none⟩ = some (.string k) ∧ w3.cell? ⟨Q, 2, none⟩ = some (.string d) ∧ w3.cell? ⟨Q, 3, none⟩ = some (.int .i64 n)) := ⟨hp.c0, hp.c1, four F3.out⟩; clear ow hp st) | (go_at_call 25; refine (CS.out _ _ _ _ _ _ _ R3.out R4.out).mono ?_; rintro _ w4 ⟨rfl, b4⟩; have P4 : Hid (Pr _ _ _ _ _ _ _ _ _ w4) := P3.out.later b4; have F4 : Hid (w4.heap[Q]? = _) := (b4.block _ (Array.getElem?_eq_some_iff.1 F3.out).1).trans F3.out; have S4 : Hid (w4.cell? ⟨P, 0, none⟩ = some (.pointer (some ⟨g, 0, none⟩)) ∧ w4.cell? ⟨P, 1, none⟩ = some (.pointer (some ⟨g', 0, none⟩)) ∧ w4.cell? ⟨Q, 0, none⟩ = some (.int .i64 kind) ∧ w4.cell? ⟨Q, 1, none⟩ = some (.string k) ∧ w4.cell? ⟨Q, 2, none⟩ = some (.string d) ∧ w4.cell? ⟨Q, 3, none⟩ = some (.int .i64 n)) := ⟨P4.out.c0, P4.out.c1, four F4.out⟩; clear b4))
  all_goals (go_wp2; go_ret; exact ⟨rfl, P4.out⟩)
end Go.Proofs.YtlkkibiedlakfaaGreat.wq

namespace Go.Proofs.YtlkkibiedlakfaaGreat.wr
open Go.RowKit Go.PlainAid Go.Maps Go.Shelf
open Go.Proofs.YtlkkibiedlakfaaGreat.ca Go.Proofs.YtlkkibiedlakfaaGreat.cp Go.Proofs.YtlkkibiedlakfaaGreat.kp Go.Proofs.YtlkkibiedlakfaaGreat.ka Go.Proofs.YtlkkibiedlakfaaGreat.ya Go.Proofs.YtlkkibiedlakfaaGreat.yb Go.Proofs.YtlkkibiedlakfaaGreat.yc Go.Proofs.YtlkkibiedlakfaaGreat.ye Go.Proofs.YtlkkibiedlakfaaGreat.yf Go.Proofs.YtlkkibiedlakfaaGreat.yo Go.Proofs.YtlkkibiedlakfaaGreat.yp Go.Proofs.YtlkkibiedlakfaaGreat.yr Go.Proofs.YtlkkibiedlakfaaGreat.zg Go.Proofs.YtlkkibiedlakfaaGreat.xa Go.Proofs.YtlkkibiedlakfaaGreat.xc Go.Proofs.YtlkkibiedlakfaaGreat.wo Go.Proofs.YtlkkibiedlakfaaGreat.wp Go.Proofs.YtlkkibiedlakfaaGreat.wq
set_option linter.unusedVariables false
set_option linter.unusedSimpArgs false
theorem own_down {w : World} {B B' t z n : Nat} {v : Value} {xs : List Value} (o : w.ownsRow B' t z v n xs) (h : B ≤ B') : w.ownsRow B t z v n xs := by
  refine ⟨o.1, ?_⟩
  rcases o.2 with h2 | ⟨g', cap, cur', e, h2, h3⟩
  · exact .inl h2
  · exact .inr ⟨g', cap, cur', e, Nat.le_trans h h2, h3⟩
theorem sr_down {B B' g bn bd : Nat} {pv : Value} {s : S} {w : World} (h : Sr B' g bn bd pv s w) (hB : B ≤ B') : Sr B g bn bd pv s w := ⟨h.row, h.mn, h.md, h.ne, own_down h.pr hB, ⟨Nat.le_trans hB h.low.1, Nat.le_trans hB h.low.2.1, Nat.le_trans hB h.low.2.2⟩, h.ok⟩
theorem ds_down {B B' g : Nat} {dv wv vv : Value} {s : S} {w : World} (h : Ds B' g dv wv vv s w) (hB : B ≤ B') : Ds B g dv wv vv s w := ⟨h.row, own_down h.dl hB, own_down h.vl hB, own_down h.wl hB, Nat.le_trans hB h.low, h.ok⟩
-- both stores anew, the pair turned to them
theorem pr_new {K : Nat → Prop} {P g g' g2 bn2 bd2 g3 : Nat} {pv dv wv vv : Value} {s : S} {w0 w : World} (h1 : Sr 0 g2 bn2 bd2 pv s w) (h2 : Ds 0 g3 dv wv vv s w) (hp : w.heap[P]? = some (.cells (pr2 g g') 29 (0, 0))) (hP : ¬ K P) (hb : Kp (fun j => ¬ K j) w0 w) (hB : ∀ j, K j → j < w0.heap.size) (hK : ∀ j, K j → ¬ Fr g2 bn2 bd2 pv j ∧ ¬ xc.Fd g3 wv j) :
    Pr K P g2 bn2 bd2 g3 s s w0 ((w.setCell ⟨P, 0, none⟩ (.pointer (some ⟨g2, 0, none⟩))).setCell ⟨P, 1, none⟩ (.pointer (some ⟨g3, 0, none⟩))) := by
  have k : Kp (fun j => j = P) w ((w.setCell ⟨P, 0, none⟩ (.pointer (some ⟨g2, 0, none⟩))).setCell ⟨P, 1, none⟩ (.pointer (some ⟨g3, 0, none⟩))) := (Kp.setCell (A := fun j => j = P) _ _ _ _ rfl).trans (Kp.setCell (A := fun j => j = P) _ _ _ _ rfl)
  have n1 : ∀ j, Fr g2 bn2 bd2 pv j → ¬ j = P := fun j hj e => by subst e; exact fr_not h1 oth_pair.1 oth_pair.2.1 hj hp
  refine ⟨⟨⟨pv, dv, wv, vv, sr_keep h1 k n1, h2.keep k (fun e => ?_) (fun j hj e => own_tag h2.wl hp (Ne.symm oth_pair.2.2.2) (by rw [← e]; exact hj)) (fun j hj e => own_tag h2.dl hp (by decide) (by rw [← e]; exact hj)) (fun j hj e => own_tag h2.vl hp (by decide) (by rw [← e]; exact hj)), hK⟩, hb.trans (k.mono (fun j e hj => hP (by rw [← e]; exact hj))), hB⟩, ?_⟩
  · have hr : w.heap[g3]? = _ := h2.row
    rw [e, hp] at hr
    exact oth_pair.2.2.1 (Obj.cells.inj (Option.some.inj hr)).2.1
  · exact heap_setCell_same _ _ 1 _ _ _ (heap_setCell_same _ _ 0 _ _ _ hp)
theorem new_apart {K : Nat → Prop} {b2 b3 g2 bn2 bd2 g3 : Nat} {dv : Value} {s : S} {w0 w : World} (h1 : Sr b2 g2 bn2 bd2 (.slice none 0 0) s w) (h2 : Ds b3 g3 dv (.slice none 0 0) dv s w) (hB : ∀ j, K j → j < w0.heap.size) (l2 : w0.heap.size ≤ b2) (l3 : w0.heap.size ≤ b3) : ∀ j, K j → ¬ Fr g2 bn2 bd2 (.slice none 0 0) j ∧ ¬ xc.Fd g3 (.slice none 0 0) j := by
  intro j hj
  have := hB j hj
  refine ⟨fun e => ?_, ?_⟩
  · have := (sr_in h1 j e).2
    omega
  · rintro (e | e)
    · have := h2.low
      omega
    · cases e
set_option maxRecDepth 20000 in
set_option maxHeartbeats 3200000 in
theorem stepNo {K : Nat → Prop} {P g bn bd g' : Nat} {s : S} {w0 w : World} (k d : ByteArray) (n : Int) (h : Pr K P g bn bd g' s s w0 w) (hi : isz s.dur ≤ 140737488355000) (hc : ¬ (0 ≤ n ∧ n ≤ 1073741824)) :
    Calls Tryz.prog 7 #[.pointer (some ⟨P, 0, none⟩), .agg #[.int .i64 10, .string k, .string d, .int .i64 n]] w fun e w' => e = .returned (.bool true) ∧ Pr K P g bn bd g' s s w0 w' := by
  obtain ⟨W1, HW⟩ : ∃ W1, Hid (w.alloc (.cells #[.int .i64 10, .string k, .string d, .int .i64 n] 34) = W1) := ⟨_, rfl⟩
  have B1 : Below w.heap.size w W1 := by rw [← HW.out]; exact (Below.refl _ _).alloc (Nat.le_refl _) _
  have BD : Below W1.heap.size W1 W1.drew := (Below.refl _ _).drew
  obtain ⟨Q, HQ⟩ : ∃ Q, Hid (w.heap.size = Q) := ⟨_, rfl⟩
  have F1 : W1.heap[Q]? = some (.cells #[.int .i64 10, .string k, .string d, .int .i64 n] 34 (0, 0)) := by rw [← HW.out, ← HQ.out]; exact heap_alloc_new w _
  have P1 : Hid (Pr K P g bn bd g' s s w0 W1.drew) := (h.later B1).later BD
  have P0 := h.later B1
  have p0 := P0.c0
  have p1 := P0.c1
  obtain ⟨f0, f1, f2, f3⟩ := four F1
  have F1d : Hid (W1.drew.heap[Q]? = some (.cells #[.int .i64 10, .string k, .string d, .int .i64 n] 34 (0, 0))) := F1
  have S1 : Hid (W1.drew.cell? ⟨P, 0, none⟩ = some (.pointer (some ⟨g, 0, none⟩)) ∧ W1.drew.cell? ⟨P, 1, none⟩ = some (.pointer (some ⟨g', 0, none⟩)) ∧ W1.drew.cell? ⟨Q, 0, none⟩ = some (.int .i64 10) ∧ W1.drew.cell? ⟨Q, 1, none⟩ = some (.string k) ∧ W1.drew.cell? ⟨Q, 2, none⟩ = some (.string d) ∧ W1.drew.cell? ⟨Q, 3, none⟩ = some (.int .i64 n)) := ⟨P1.out.c0, P1.out.c1, four F1d.out⟩
  have CI : Hid (∀ w1, Pr K P g bn bd g' s s w0 w1 → Calls Tryz.prog 29 #[.pointer (some ⟨g, 0, none⟩)] w1 fun e w' => e = .returned (.string (imageT s.dur)) ∧ Below w1.heap.size w1 w') := fun w1 h1 => by
    obtain ⟨pv, k1, _⟩ := Bo.fst h1.bo
    exact imageC k1 hi
  have CJ : Hid (∀ w1, Pr K P g bn bd g' s s w0 w1 → Calls Tryz.prog 31 #[.pointer (some ⟨g', 0, none⟩)] w1 fun e w' => e = .returned (.string (imageT s.dur)) ∧ Below w1.heap.size w1 w') := fun w1 h1 => by
    obtain ⟨dv, wv, vv, k1, _⟩ := Bo.snd h1.bo
    exact xj.imageD k1 hi
  have CO : Hid (∀ im w1, Calls Tryz.prog 28 #[.string im, .int .i64 n] w1 fun e w' => e = .returned (.tuple #[.pointer none, .int .i64 10]) ∧ Below w1.heap.size w1 w') := fun im w1 => (xn.openNo im n w1 hc).mono fun e w' ⟨a, b⟩ => ⟨a, by rw [b]; exact Below.refl _ _⟩
  have CQ : Hid (∀ im w1, Calls Tryz.prog 30 #[.string im, .int .i64 n] w1 fun e w' => e = .returned (.tuple #[.pointer none, .int .i64 10]) ∧ Below w1.heap.size w1 w') := fun im w1 => (xn.openDNo im n w1 hc).mono fun e w' ⟨a, b⟩ => ⟨a, by rw [b]; exact Below.refl _ _⟩
  clear h hi hc B1 BD F1 P0
  generalize imageT s.dur = im at *
  go_enter Tryz.func7, Tryz.ntmps7
  go_upto_region 1 with fail
  rw [HW.out, HQ.out]
  go_upto_region 3 with fail
  go_region_held3 (fun w' => w'.cell? ⟨P, 0, none⟩ = some (.pointer (some ⟨g, 0, none⟩)) ∧ w'.cell? ⟨P, 1, none⟩ = some (.pointer (some ⟨g', 0, none⟩)) ∧ w'.cell? ⟨Q, 0, none⟩ = some (.int .i64 10) ∧ w'.cell? ⟨Q, 1, none⟩ = some (.string k) ∧ w'.cell? ⟨Q, 2, none⟩ = some (.string d) ∧ w'.cell? ⟨Q, 3, none⟩ = some (.int .i64 n)) (first | exact S1.out | exact S2.out | exact S3.out) (first | (go_at_call 29; refine (CI.out _ P1.out).mono ?_; rintro _ w2 ⟨rfl, bb⟩; have P2 : Hid (Pr _ _ _ _ _ _ _ _ _ w2) := P1.out.later bb; have F2 : Hid (w2.heap[Q]? = _) := (bb.block _ (Array.getElem?_eq_some_iff.1 F1d.out).1).trans F1d.out; have S2 : Hid (w2.cell? ⟨P, 0, none⟩ = some (.pointer (some ⟨g, 0, none⟩)) ∧ w2.cell? ⟨P, 1, none⟩ = some (.pointer (some ⟨g', 0, none⟩)) ∧ w2.cell? ⟨Q, 0, none⟩ = some (.int .i64 10) ∧ w2.cell? ⟨Q, 1, none⟩ = some (.string k) ∧ w2.cell? ⟨Q, 2, none⟩ = some (.string d) ∧ w2.cell? ⟨Q, 3, none⟩ = some (.int .i64 n)) := ⟨P2.out.c0, P2.out.c1, four F2.out⟩; clear bb) | (go_at_call 28; refine (CO.out _ _).mono ?_; rintro _ w3 ⟨rfl, bb⟩; have P3 : Hid (Pr _ _ _ _ _ _ _ _ _ w3) := P2.out.later bb; have F3 : Hid (w3.heap[Q]? = _) := (bb.block _ (Array.getElem?_eq_some_iff.1 F2.out).1).trans F2.out; have S3 : Hid (w3.cell? ⟨P, 0, none⟩ = some (.pointer (some ⟨g, 0, none⟩)) ∧ w3.cell? ⟨P, 1, none⟩ = some (.pointer (some ⟨g', 0, none⟩)) ∧ w3.cell? ⟨Q, 0, none⟩ = some (.int .i64 10) ∧ w3.cell? ⟨Q, 1, none⟩ = some (.string k) ∧ w3.cell? ⟨Q, 2, none⟩ = some (.string d) ∧ w3.cell? ⟨Q, 3, none⟩ = some (.int .i64 n)) := ⟨P3.out.c0, P3.out.c1, four F3.out⟩; clear bb))
  have BD3 : Below w3.heap.size w3 w3.drew := (Below.refl _ _).drew
  have P3d : Hid (Pr K P g bn bd g' s s w0 w3.drew) := P3.out.later BD3
  have F3d : Hid (w3.drew.heap[Q]? = some (.cells #[.int .i64 10, .string k, .string d, .int .i64 n] 34 (0, 0))) := F3.out
  have S3d : Hid (w3.drew.cell? ⟨P, 0, none⟩ = some (.pointer (some ⟨g, 0, none⟩)) ∧ w3.drew.cell? ⟨P, 1, none⟩ = some (.pointer (some ⟨g', 0, none⟩)) ∧ w3.drew.cell? ⟨Q, 0, none⟩ = some (.int .i64 10) ∧ w3.drew.cell? ⟨Q, 1, none⟩ = some (.string k) ∧ w3.drew.cell? ⟨Q, 2, none⟩ = some (.string d) ∧ w3.drew.cell? ⟨Q, 3, none⟩ = some (.int .i64 n)) := ⟨P3d.out.c0, P3d.out.c1, four F3d.out⟩
  obtain ⟨x0, x1, x2, x3, x4, x5⟩ := S3.out
  clear p0 p1 f0 f1 f2 f3 BD3
  go_upto_region 4 with fail
  go_region_held3 (fun w' => w'.cell? ⟨P, 0, none⟩ = some (.pointer (some ⟨g, 0, none⟩)) ∧ w'.cell? ⟨P, 1, none⟩ = some (.pointer (some ⟨g', 0, none⟩)) ∧ w'.cell? ⟨Q, 0, none⟩ = some (.int .i64 10) ∧ w'.cell? ⟨Q, 1, none⟩ = some (.string k) ∧ w'.cell? ⟨Q, 2, none⟩ = some (.string d) ∧ w'.cell? ⟨Q, 3, none⟩ = some (.int .i64 n)) (first | exact S3d.out | exact S5.out | exact S6.out) (first | (go_at_call 31; refine (CJ.out _ P3d.out).mono ?_; rintro _ w5 ⟨rfl, bb⟩; have P5 : Hid (Pr _ _ _ _ _ _ _ _ _ w5) := P3d.out.later bb; have F5 : Hid (w5.heap[Q]? = _) := (bb.block _ (Array.getElem?_eq_some_iff.1 F3d.out).1).trans F3d.out; have S5 : Hid (w5.cell? ⟨P, 0, none⟩ = some (.pointer (some ⟨g, 0, none⟩)) ∧ w5.cell? ⟨P, 1, none⟩ = some (.pointer (some ⟨g', 0, none⟩)) ∧ w5.cell? ⟨Q, 0, none⟩ = some (.int .i64 10) ∧ w5.cell? ⟨Q, 1, none⟩ = some (.string k) ∧ w5.cell? ⟨Q, 2, none⟩ = some (.string d) ∧ w5.cell? ⟨Q, 3, none⟩ = some (.int .i64 n)) := ⟨P5.out.c0, P5.out.c1, four F5.out⟩; clear bb) | (go_at_call 30; refine (CQ.out _ _).mono ?_; rintro _ w6 ⟨rfl, bb⟩; have P6 : Hid (Pr _ _ _ _ _ _ _ _ _ w6) := P5.out.later bb; have F6 : Hid (w6.heap[Q]? = _) := (bb.block _ (Array.getElem?_eq_some_iff.1 F5.out).1).trans F5.out; have S6 : Hid (w6.cell? ⟨P, 0, none⟩ = some (.pointer (some ⟨g, 0, none⟩)) ∧ w6.cell? ⟨P, 1, none⟩ = some (.pointer (some ⟨g', 0, none⟩)) ∧ w6.cell? ⟨Q, 0, none⟩ = some (.int .i64 10) ∧ w6.cell? ⟨Q, 1, none⟩ = some (.string k) ∧ w6.cell? ⟨Q, 2, none⟩ = some (.string d) ∧ w6.cell? ⟨Q, 3, none⟩ = some (.int .i64 n)) := ⟨P6.out.c0, P6.out.c1, four F6.out⟩; clear bb))
  go_wp2
  go_ret
  exact ⟨rfl, P6.out⟩
set_option maxRecDepth 20000 in
set_option maxHeartbeats 3200000 in
theorem stepYes {K : Nat → Prop} {P g bn bd g' : Nat} {s : S} {w0 w : World} (k d : ByteArray) (n : Int) (h : Pr K P g bn bd g' s s w0 w) (hi : isz s.dur ≤ 140737488355000) (hc : 0 ≤ n ∧ n ≤ 1073741824) (hl : s.dur.length < 3518437208883) (hP : ¬ K P) :
    Calls Tryz.prog 7 #[.pointer (some ⟨P, 0, none⟩), .agg #[.int .i64 10, .string k, .string d, .int .i64 n]] w fun e w' => e = .returned (.bool true) ∧ ∃ g2 bn2 bd2 g3, Pr K P g2 bn2 bd2 g3 ⟨n, s.dur, [], 0, false, 0⟩ ⟨n, s.dur, [], 0, false, 0⟩ w0 w' := by
  obtain ⟨W1, HW⟩ : ∃ W1, Hid (w.alloc (.cells #[.int .i64 10, .string k, .string d, .int .i64 n] 34) = W1) := ⟨_, rfl⟩
  have B1 : Below w.heap.size w W1 := by rw [← HW.out]; exact (Below.refl _ _).alloc (Nat.le_refl _) _
  have BD : Below W1.heap.size W1 W1.drew := (Below.refl _ _).drew
  obtain ⟨Q, HQ⟩ : ∃ Q, Hid (w.heap.size = Q) := ⟨_, rfl⟩
  have F1 : W1.heap[Q]? = some (.cells #[.int .i64 10, .string k, .string d, .int .i64 n] 34 (0, 0)) := by rw [← HW.out, ← HQ.out]; exact heap_alloc_new w _
  have P1 : Hid (Pr K P g bn bd g' s s w0 W1.drew) := (h.later B1).later BD
  have P0 := h.later B1
  have p0 := P0.c0
  have p1 := P0.c1
  obtain ⟨f0, f1, f2, f3⟩ := four F1
  have F1d : Hid (W1.drew.heap[Q]? = some (.cells #[.int .i64 10, .string k, .string d, .int .i64 n] 34 (0, 0))) := F1
  have S1 : Hid (W1.drew.cell? ⟨P, 0, none⟩ = some (.pointer (some ⟨g, 0, none⟩)) ∧ W1.drew.cell? ⟨P, 1, none⟩ = some (.pointer (some ⟨g', 0, none⟩)) ∧ W1.drew.cell? ⟨Q, 0, none⟩ = some (.int .i64 10) ∧ W1.drew.cell? ⟨Q, 1, none⟩ = some (.string k) ∧ W1.drew.cell? ⟨Q, 2, none⟩ = some (.string d) ∧ W1.drew.cell? ⟨Q, 3, none⟩ = some (.int .i64 n)) := ⟨P1.out.c0, P1.out.c1, four F1d.out⟩
  have CI : Hid (∀ w1, Pr K P g bn bd g' s s w0 w1 → Calls Tryz.prog 29 #[.pointer (some ⟨g, 0, none⟩)] w1 fun e w' => e = .returned (.string (imageT s.dur)) ∧ Below w1.heap.size w1 w') := fun w1 h1 => by
    obtain ⟨pv, k1, _⟩ := Bo.fst h1.bo
    exact imageC k1 hi
  have CJ : Hid (∀ w1, Pr K P g bn bd g' s s w0 w1 → Calls Tryz.prog 31 #[.pointer (some ⟨g', 0, none⟩)] w1 fun e w' => e = .returned (.string (imageT s.dur)) ∧ Below w1.heap.size w1 w') := fun w1 h1 => by
    obtain ⟨dv, wv, vv, k1, _⟩ := Bo.snd h1.bo
    exact xj.imageD k1 hi
  have hsd : Srt s.dur := by obtain ⟨pv, k1, _⟩ := Bo.fst h.bo; exact k1.ok.srt
  have hod : OkR s.dur := by obtain ⟨pv, k1, _⟩ := Bo.fst h.bo; exact k1.ok.dur
  have CO : Hid (∀ w1, Calls Tryz.prog 28 #[.string (imageT s.dur), .int .i64 n] w1 fun e w' => ∃ g bn bd, e = .returned (.tuple #[.pointer (some ⟨g, 0, none⟩), .int .i64 0]) ∧ Sr w1.heap.size g bn bd (.slice none 0 0) ⟨n, s.dur, [], 0, false, 0⟩ w' ∧ Below w1.heap.size w1 w') := fun w1 => zf.openC s.dur n w1 hc hsd hod hi hl
  have CQ : Hid (∀ w1, Calls Tryz.prog 30 #[.string (imageT s.dur), .int .i64 n] w1 fun e w' => ∃ dv, e = .returned (.tuple #[.pointer (some ⟨w1.heap.size, 0, none⟩), .int .i64 0]) ∧ Ds w1.heap.size w1.heap.size dv (.slice none 0 0) dv ⟨n, s.dur, [], 0, false, 0⟩ w' ∧ Below w1.heap.size w1 w') := fun w1 => xn.openD s.dur n w1 hc hsd hod hi hl
  obtain ⟨s1, HS1⟩ : ∃ s1, Hid ((⟨n, s.dur, [], 0, false, 0⟩ : S) = s1) := ⟨_, rfl⟩
  rw [HS1.out] at CO CQ ⊢
  have FIN : Hid (∀ (b2 b3 g2 bn2 bd2 g3 : Nat) (dv : Value) (w6 : World), w0.heap.size ≤ b2 → w0.heap.size ≤ b3 → Sr b2 g2 bn2 bd2 (.slice none 0 0) s1 w6 → Ds b3 g3 dv (.slice none 0 0) dv s1 w6 → Pr K P g bn bd g' s s w0 w6 → Pr K P g2 bn2 bd2 g3 s1 s1 w0 ((w6.setCell ⟨P, 0, none⟩ (.pointer (some ⟨g2, 0, none⟩))).setCell ⟨P, 1, none⟩ (.pointer (some ⟨g3, 0, none⟩)))) := fun b2 b3 g2 bn2 bd2 g3 dv w6 hb2 hb3 h1 h2 h3 => pr_new (sr_down h1 (Nat.zero_le _)) (ds_down h2 (Nat.zero_le _)) h3.pr hP h3.bo.bl h3.bo.low (new_apart h1 h2 h3.bo.low hb2 hb3)
  have LOW : Hid (∀ w1, Pr K P g bn bd g' s s w0 w1 → w0.heap.size ≤ w1.heap.size) := fun w1 h1 => h1.bo.bl.size
  clear HS1 hsd hod hl hP
  clear h hi hc B1 BD F1 P0
  generalize imageT s.dur = im at *
  go_enter Tryz.func7, Tryz.ntmps7
  go_upto_region 1 with fail
  rw [HW.out, HQ.out]
  go_upto_region 3 with fail
  go_region_held3 (fun w' => w'.cell? ⟨P, 0, none⟩ = some (.pointer (some ⟨g, 0, none⟩)) ∧ w'.cell? ⟨P, 1, none⟩ = some (.pointer (some ⟨g', 0, none⟩)) ∧ w'.cell? ⟨Q, 0, none⟩ = some (.int .i64 10) ∧ w'.cell? ⟨Q, 1, none⟩ = some (.string k) ∧ w'.cell? ⟨Q, 2, none⟩ = some (.string d) ∧ w'.cell? ⟨Q, 3, none⟩ = some (.int .i64 n)) (first | exact S1.out | exact S2.out | exact S3.out) (first | (go_at_call 29; refine (CI.out _ P1.out).mono ?_; rintro _ w2 ⟨rfl, bb⟩; have P2 : Hid (Pr _ _ _ _ _ _ _ _ _ w2) := P1.out.later bb; have F2 : Hid (w2.heap[Q]? = _) := (bb.block _ (Array.getElem?_eq_some_iff.1 F1d.out).1).trans F1d.out; have S2 : Hid (w2.cell? ⟨P, 0, none⟩ = some (.pointer (some ⟨g, 0, none⟩)) ∧ w2.cell? ⟨P, 1, none⟩ = some (.pointer (some ⟨g', 0, none⟩)) ∧ w2.cell? ⟨Q, 0, none⟩ = some (.int .i64 10) ∧ w2.cell? ⟨Q, 1, none⟩ = some (.string k) ∧ w2.cell? ⟨Q, 2, none⟩ = some (.string d) ∧ w2.cell? ⟨Q, 3, none⟩ = some (.int .i64 n)) := ⟨P2.out.c0, P2.out.c1, four F2.out⟩; clear bb) | (go_at_call 28; refine (CO.out _).mono ?_; rintro _ w3 ⟨g2, bn2, bd2, rfl, hsr, bb⟩; have N3 : Hid (Sr _ _ _ _ _ _ w3) := hsr; clear hsr; have P3 : Hid (Pr _ _ _ _ _ _ _ _ _ w3) := P2.out.later bb; have F3 : Hid (w3.heap[Q]? = _) := (bb.block _ (Array.getElem?_eq_some_iff.1 F2.out).1).trans F2.out; have S3 : Hid (w3.cell? ⟨P, 0, none⟩ = some (.pointer (some ⟨g, 0, none⟩)) ∧ w3.cell? ⟨P, 1, none⟩ = some (.pointer (some ⟨g', 0, none⟩)) ∧ w3.cell? ⟨Q, 0, none⟩ = some (.int .i64 10) ∧ w3.cell? ⟨Q, 1, none⟩ = some (.string k) ∧ w3.cell? ⟨Q, 2, none⟩ = some (.string d) ∧ w3.cell? ⟨Q, 3, none⟩ = some (.int .i64 n)) := ⟨P3.out.c0, P3.out.c1, four F3.out⟩; clear bb))
  have BD3 : Below w3.heap.size w3 w3.drew := (Below.refl _ _).drew
  have N3d : Hid (Sr _ _ _ _ _ _ w3.drew) := sr_later N3.out BD3
  have P3d : Hid (Pr K P g bn bd g' s s w0 w3.drew) := P3.out.later BD3
  have F3d : Hid (w3.drew.heap[Q]? = some (.cells #[.int .i64 10, .string k, .string d, .int .i64 n] 34 (0, 0))) := F3.out
  have S3d : Hid (w3.drew.cell? ⟨P, 0, none⟩ = some (.pointer (some ⟨g, 0, none⟩)) ∧ w3.drew.cell? ⟨P, 1, none⟩ = some (.pointer (some ⟨g', 0, none⟩)) ∧ w3.drew.cell? ⟨Q, 0, none⟩ = some (.int .i64 10) ∧ w3.drew.cell? ⟨Q, 1, none⟩ = some (.string k) ∧ w3.drew.cell? ⟨Q, 2, none⟩ = some (.string d) ∧ w3.drew.cell? ⟨Q, 3, none⟩ = some (.int .i64 n)) := ⟨P3d.out.c0, P3d.out.c1, four F3d.out⟩
  obtain ⟨x0, x1, x2, x3, x4, x5⟩ := S3.out
  clear p0 p1 f0 f1 f2 f3 BD3
  go_upto_region 4 with fail
  go_region_held3 (fun w' => w'.cell? ⟨P, 0, none⟩ = some (.pointer (some ⟨g, 0, none⟩)) ∧ w'.cell? ⟨P, 1, none⟩ = some (.pointer (some ⟨g', 0, none⟩)) ∧ w'.cell? ⟨Q, 0, none⟩ = some (.int .i64 10) ∧ w'.cell? ⟨Q, 1, none⟩ = some (.string k) ∧ w'.cell? ⟨Q, 2, none⟩ = some (.string d) ∧ w'.cell? ⟨Q, 3, none⟩ = some (.int .i64 n)) (first | exact S3d.out | exact S5.out | exact S6.out) (first | (go_at_call 31; refine (CJ.out _ P3d.out).mono ?_; rintro _ w5 ⟨rfl, bb⟩; have N5 : Hid (Sr _ _ _ _ _ _ w5) := sr_later N3d.out bb; have P5 : Hid (Pr _ _ _ _ _ _ _ _ _ w5) := P3d.out.later bb; have F5 : Hid (w5.heap[Q]? = _) := (bb.block _ (Array.getElem?_eq_some_iff.1 F3d.out).1).trans F3d.out; have S5 : Hid (w5.cell? ⟨P, 0, none⟩ = some (.pointer (some ⟨g, 0, none⟩)) ∧ w5.cell? ⟨P, 1, none⟩ = some (.pointer (some ⟨g', 0, none⟩)) ∧ w5.cell? ⟨Q, 0, none⟩ = some (.int .i64 10) ∧ w5.cell? ⟨Q, 1, none⟩ = some (.string k) ∧ w5.cell? ⟨Q, 2, none⟩ = some (.string d) ∧ w5.cell? ⟨Q, 3, none⟩ = some (.int .i64 n)) := ⟨P5.out.c0, P5.out.c1, four F5.out⟩; clear bb) | (go_at_call 30; refine (CQ.out _).mono ?_; rintro _ w6 ⟨dv, rfl, hds, bb⟩; have D6 : Hid (Ds _ _ _ _ _ _ w6) := hds; have N6 : Hid (Sr _ _ _ _ _ _ w6) := sr_later N5.out bb; clear hds; have P6 : Hid (Pr _ _ _ _ _ _ _ _ _ w6) := P5.out.later bb; have F6 : Hid (w6.heap[Q]? = _) := (bb.block _ (Array.getElem?_eq_some_iff.1 F5.out).1).trans F5.out; have S6 : Hid (w6.cell? ⟨P, 0, none⟩ = some (.pointer (some ⟨g, 0, none⟩)) ∧ w6.cell? ⟨P, 1, none⟩ = some (.pointer (some ⟨g', 0, none⟩)) ∧ w6.cell? ⟨Q, 0, none⟩ = some (.int .i64 10) ∧ w6.cell? ⟨Q, 1, none⟩ = some (.string k) ∧ w6.cell? ⟨Q, 2, none⟩ = some (.string d) ∧ w6.cell? ⟨Q, 3, none⟩ = some (.int .i64 n)) := ⟨P6.out.c0, P6.out.c1, four F6.out⟩; clear bb))
  obtain ⟨y0, y1, _⟩ := S6.out
  have z0 : w6.frozen? ⟨P, 0, none⟩ = false := frozen_of_row _ _ 0 _ _ P6.out.pr
  have z1 : w6.frozen? ⟨P, 1, none⟩ = false := frozen_of_row _ _ 1 _ _ P6.out.pr
  have END : Hid (Pr _ _ _ _ _ _ _ _ _ _) := FIN.out _ _ g2 bn2 bd2 w5.heap.size dv w6 (LOW.out _ P2.out) (LOW.out _ P5.out) N6.out D6.out P6.out
  go_wp2
  go_ret
  exact ⟨rfl, _, _, _, _, END.out⟩
end Go.Proofs.YtlkkibiedlakfaaGreat.wr

namespace Go.Proofs.YtlkkibiedlakfaaGreat.ws
open Go.RowKit Go.PlainAid Go.Maps Go.Shelf
open Go.Proofs.YtlkkibiedlakfaaGreat.ca Go.Proofs.YtlkkibiedlakfaaGreat.cp Go.Proofs.YtlkkibiedlakfaaGreat.kp Go.Proofs.YtlkkibiedlakfaaGreat.ka Go.Proofs.YtlkkibiedlakfaaGreat.ya Go.Proofs.YtlkkibiedlakfaaGreat.yb Go.Proofs.YtlkkibiedlakfaaGreat.yc Go.Proofs.YtlkkibiedlakfaaGreat.ye Go.Proofs.YtlkkibiedlakfaaGreat.yf Go.Proofs.YtlkkibiedlakfaaGreat.yo Go.Proofs.YtlkkibiedlakfaaGreat.yp Go.Proofs.YtlkkibiedlakfaaGreat.yr Go.Proofs.YtlkkibiedlakfaaGreat.yt Go.Proofs.YtlkkibiedlakfaaGreat.yu Go.Proofs.YtlkkibiedlakfaaGreat.zg Go.Proofs.YtlkkibiedlakfaaGreat.wo Go.Proofs.YtlkkibiedlakfaaGreat.wp Go.Proofs.YtlkkibiedlakfaaGreat.wq Go.Proofs.YtlkkibiedlakfaaGreat.wr
set_option linter.unusedVariables false
set_option linter.unusedSimpArgs false
-- one call of the law's script: kind 10 opens the store anew
def nx (s : S) (o : Opn) : S := if o.kind = 10 then (if 0 ≤ o.n ∧ o.n ≤ 1073741824 then ⟨o.n, s.dur, [], 0, false, 0⟩ else s) else doO s o
theorem nx_grows (s : S) (o : Opn) : mass (nx s o) ≤ mass s + wt o ∧ nums (nx s o) ≤ nums s + 1 ∧ (nx s o).age ≤ s.age + 1 := by
  unfold nx
  split
  · split
    · refine ⟨?_, ?_, Nat.zero_le _⟩
      · show isz s.dur + 0 ≤ isz s.dur + pw s.pend + wt o
        omega
      · show s.dur.length + 0 ≤ s.dur.length + s.pend.length + 1
        omega
    · exact ⟨Nat.le_add_right _ _, Nat.le_succ _, Nat.le_succ _⟩
  · exact grows s o
theorem stepT {K : Nat → Prop} {P g bn bd g' : Nat} {s : S} {w0 w : World} (o : Opn) (h : Pr K P g bn bd g' s s w0 w) (hP : ¬ K P) (ho : OkO o) (hn : nums s + 1 < 3518437208883) (ha : s.age < 4398046511104) (hm : mass s ≤ 140737488355000) (hz : (aN s o.kind o.key).length ≤ 140737488355328) :
    Calls Tryz.prog 7 #[.pointer (some ⟨P, 0, none⟩), .agg #[.int .i64 o.kind, .string o.key, .string o.data, .int .i64 o.n]] w fun e w' => e = .returned (.bool true) ∧ ∃ g2 bn2 bd2 g3, Pr K P g2 bn2 bd2 g3 (nx s o) (nx s o) w0 w' := by
  have hi : isz s.dur ≤ 140737488355000 := by unfold mass at hm; omega
  have hl : s.dur.length + s.pend.length + 1 < 3518437208883 := hn
  unfold nx
  by_cases h10 : o.kind = 10
  · rw [if_pos h10, h10]
    by_cases hc : 0 ≤ o.n ∧ o.n ≤ 1073741824
    · rw [if_pos hc]
      exact stepYes o.key o.data o.n h hi hc (by omega) hP
    · rw [if_neg hc]
      exact (stepNo o.key o.data o.n h hi hc).mono fun e w' ⟨a, b⟩ => ⟨a, _, _, _, _, b⟩
  · rw [if_neg h10]
    exact (stepA o.kind o.key o.data o.n h h10 ho.1 ho.2.1 ho.2.2 hl ha hi hz).mono fun e w' ⟨a, b⟩ => ⟨a, _, _, _, _, b⟩
end Go.Proofs.YtlkkibiedlakfaaGreat.ws

namespace Go.Proofs.YtlkkibiedlakfaaGreat.wt
open Go.RowKit Go.PlainAid Go.Maps Go.Shelf
open Go.Proofs.YtlkkibiedlakfaaGreat.ca Go.Proofs.YtlkkibiedlakfaaGreat.cp Go.Proofs.YtlkkibiedlakfaaGreat.kp Go.Proofs.YtlkkibiedlakfaaGreat.ka Go.Proofs.YtlkkibiedlakfaaGreat.ya Go.Proofs.YtlkkibiedlakfaaGreat.yb Go.Proofs.YtlkkibiedlakfaaGreat.yc Go.Proofs.YtlkkibiedlakfaaGreat.yd Go.Proofs.YtlkkibiedlakfaaGreat.ye Go.Proofs.YtlkkibiedlakfaaGreat.yf Go.Proofs.YtlkkibiedlakfaaGreat.yg Go.Proofs.YtlkkibiedlakfaaGreat.yo Go.Proofs.YtlkkibiedlakfaaGreat.yp Go.Proofs.YtlkkibiedlakfaaGreat.yr Go.Proofs.YtlkkibiedlakfaaGreat.yt Go.Proofs.YtlkkibiedlakfaaGreat.yu Go.Proofs.YtlkkibiedlakfaaGreat.zg Go.Proofs.YtlkkibiedlakfaaGreat.xa Go.Proofs.YtlkkibiedlakfaaGreat.xc Go.Proofs.YtlkkibiedlakfaaGreat.wo Go.Proofs.YtlkkibiedlakfaaGreat.wp Go.Proofs.YtlkkibiedlakfaaGreat.wq Go.Proofs.YtlkkibiedlakfaaGreat.wr Go.Proofs.YtlkkibiedlakfaaGreat.ws
set_option linter.unusedVariables false
set_option linter.unusedSimpArgs false
theorem names_len {s : S} (h : OkS s) (kind : Int) (k : ByteArray) : (aN s kind k).length ≤ 140737488355328 := by
  unfold aN
  split
  · unfold keysS
    split
    · simp
    · unfold keysL
      have h1 := h.lnow
      have h2 := List.length_filter_le (fun p : Rec => Lib.hasPrefix (bs p.1) (bs k)) (now s)
      rw [List.length_map]
      omega
  · simp
-- a pair with its footprint
def Fo (P g bn bd g' : Nat) (pv wv : Value) (j : Nat) : Prop := Fr g bn bd pv j ∨ xc.Fd g' wv j ∨ j = P
structure Co (P g bn bd g' : Nat) (pv dv wv vv : Value) (s : S) (w : World) : Prop where
  sr : Sr 0 g bn bd pv s w
  ds : Ds 0 g' dv wv vv s w
  pr : w.heap[P]? = some (.cells (pr2 g g') 29 (0, 0))
section
variable {P g bn bd g' : Nat} {pv dv wv vv : Value} {s : S} {w w' : World}
theorem Co.lt (h : Co P g bn bd g' pv dv wv vv s w) : ∀ j, Fo P g bn bd g' pv wv j → j < w.heap.size := by
  rintro j (e | (e | e) | e)
  · exact (sr_in h.sr j e).1
  · rw [e]; exact h.ds.row.lt
  · exact (h.ds.wl.lt j e.symm).2
  · rw [e]; exact (Array.getElem?_eq_some_iff.1 h.pr).1
theorem Co.noRec (h : Co P g bn bd g' pv dv wv vv s w) {j : Nat} {cur : Array Value} {f : Nat × Nat} (hh : w.heap[j]? = some (.cells cur 82 f)) : ¬ Fo P g bn bd g' pv wv j := by
  rintro (e | (e | e) | e)
  · exact fr_not h.sr ta1 ta2 e hh
  · have hr : w.heap[g']? = _ := h.ds.row
    rw [← e, hh] at hr
    exact absurd (Obj.cells.inj (Option.some.inj hr)).2.1 (by decide)
  · exact own_tag h.ds.wl hh (by decide) e
  · have hr := h.pr
    rw [← e, hh] at hr
    exact absurd (Obj.cells.inj (Option.some.inj hr)).2.1 (by decide)
theorem Co.keep {A : Nat → Prop} (h : Co P g bn bd g' pv dv wv vv s w) (k : Kp A w w') (hn : ∀ j, Fo P g bn bd g' pv wv j → ¬ A j) (hr : ∀ j cur f, w.heap[j]? = some (.cells cur 82 f) → ¬ A j) : Co P g bn bd g' pv dv wv vv s w' := by
  refine ⟨sr_keep h.sr k (fun j hj => hn j (.inl hj)), h.ds.keep k (hn g' (.inr (.inl (.inl rfl)))) (fun j hj => hn j (.inr (.inl (.inr hj)))) (fun j hj => ?_) (fun j hj => ?_), (k.block _ (Array.getElem?_eq_some_iff.1 h.pr).1 (hn P (.inr (.inr rfl)))).trans h.pr⟩
  · obtain ⟨cur, f, hc⟩ := own_cells h.ds.dl hj
    exact hr j cur f hc
  · obtain ⟨cur, f, hc⟩ := own_cells h.ds.vl hj
    exact hr j cur f hc
theorem stepF (o : Opn) (h : Co P g bn bd g' pv dv wv vv s w) (ho : OkO o) (hn : nums s + 1 < 3518437208883) (ha : s.age < 4398046511104) (hm : mass s ≤ 140737488355000) :
    Calls Tryz.prog 7 #[.pointer (some ⟨P, 0, none⟩), .agg #[.int .i64 o.kind, .string o.key, .string o.data, .int .i64 o.n]] w fun e w' => e = .returned (.bool true) ∧ ∃ g2 bn2 bd2 g3 pv' dv' wv' vv', Co P g2 bn2 bd2 g3 pv' dv' wv' vv' (nx s o) w' ∧ Kp (Fo P g bn bd g' pv wv) w w' ∧ ∀ j, Fo P g2 bn2 bd2 g3 pv' wv' j → Fo P g bn bd g' pv wv j ∨ w.heap.size ≤ j := by
  have hp : Pr (fun j => j < w.heap.size ∧ ¬ Fo P g bn bd g' pv wv j) P g bn bd g' s s w w := ⟨⟨⟨pv, dv, wv, vv, h.sr, h.ds, fun j hj => ⟨fun e => hj.2 (.inl e), fun e => hj.2 (.inr (.inl e))⟩⟩, Kp.refl _ _, fun j hj => hj.1⟩, h.pr⟩
  refine (ws.stepT o hp (fun e => e.2 (.inr (.inr rfl))) ho hn ha hm (names_len h.sr.ok _ _)).mono ?_
  rintro e w' ⟨rfl, g2, bn2, bd2, g3, hq⟩
  obtain ⟨⟨⟨pv', dv', wv', vv', h1, h2, h3⟩, hb, hl⟩, hpr⟩ := hq
  refine ⟨rfl, g2, bn2, bd2, g3, pv', dv', wv', vv', ⟨h1, h2, hpr⟩, ⟨hb.os, hb.tape, hb.output, hb.size, fun j hj hn => hb.block j hj (fun e => e ⟨hj, hn⟩)⟩, ?_⟩
  intro j hj
  by_cases hlt : j < w.heap.size
  · by_cases hf : Fo P g bn bd g' pv wv j
    · exact .inl hf
    · rcases hj with e | e | e
      · exact absurd e (h3 j ⟨hlt, hf⟩).1
      · exact absurd e (h3 j ⟨hlt, hf⟩).2
      · exact .inl (.inr (.inr e))
  · exact .inr (by omega)
end
-- two pairs beside each other
structure Tp (w0 : World) (P Q : Nat) (s t : S) (w : World) : Prop where
  ex : ∃ g bn bd g' pv dv wv vv h bh dh h' qv ev xv yv, Co P g bn bd g' pv dv wv vv s w ∧ Co Q h bh dh h' qv ev xv yv t w ∧ (∀ j, Fo P g bn bd g' pv wv j → ¬ Fo Q h bh dh h' qv xv j) ∧ (∀ j, Fo P g bn bd g' pv wv j → w0.heap.size ≤ j) ∧ ∀ j, Fo Q h bh dh h' qv xv j → w0.heap.size ≤ j
  bl : Below w0.heap.size w0 w
section
variable {P Q : Nat} {s t : S} {w0 w w' : World}
theorem Tp.swap (h : Tp w0 P Q s t w) : Tp w0 Q P t s w := by
  obtain ⟨⟨g, bn, bd, g', pv, dv, wv, vv, h1, bh, dh, h', qv, ev, xv, yv, c1, c2, ap, lp, lq⟩, bl⟩ := h
  exact ⟨⟨h1, bh, dh, h', qv, ev, xv, yv, g, bn, bd, g', pv, dv, wv, vv, c2, c1, fun j hj hq => ap j hq hj, lq, lp⟩, bl⟩
theorem Tp.later (h : Tp w0 P Q s t w) (b : Below w.heap.size w w') : Tp w0 P Q s t w' := by
  obtain ⟨⟨g, bn, bd, g', pv, dv, wv, vv, h1, bh, dh, h', qv, ev, xv, yv, c1, c2, ap, lp, lq⟩, bl⟩ := h
  have k : Kp (fun _ => False) w w' := Kp.of_below b
  exact ⟨⟨g, bn, bd, g', pv, dv, wv, vv, h1, bh, dh, h', qv, ev, xv, yv, c1.keep k (fun _ _ e => e) (fun _ _ _ _ e => e), c2.keep k (fun _ _ e => e) (fun _ _ _ _ e => e), ap, lp, lq⟩, over bl b⟩
theorem Tp.step (o : Opn) (h : Tp w0 P Q s t w) (ho : OkO o) (hn : nums s + 1 < 3518437208883) (ha : s.age < 4398046511104) (hm : mass s ≤ 140737488355000) :
    Calls Tryz.prog 7 #[.pointer (some ⟨P, 0, none⟩), .agg #[.int .i64 o.kind, .string o.key, .string o.data, .int .i64 o.n]] w fun e w' => e = .returned (.bool true) ∧ Tp w0 P Q (nx s o) t w' := by
  obtain ⟨⟨g, bn, bd, g', pv, dv, wv, vv, h1, bh, dh, h', qv, ev, xv, yv, c1, c2, ap, lp, lq⟩, bl⟩ := h
  refine (stepF o c1 ho hn ha hm).mono ?_
  rintro e w' ⟨rfl, g2, bn2, bd2, g3, pv', dv', wv', vv', c1', k, n⟩
  have c2' : Co Q h1 bh dh h' qv ev xv yv t w' := c2.keep k (fun j hj hf => ap j hf hj) (fun j cur f hh hf => c1.noRec hh hf)
  refine ⟨rfl, ⟨g2, bn2, bd2, g3, pv', dv', wv', vv', h1, bh, dh, h', qv, ev, xv, yv, c1', c2', fun j hj hq => ?_, fun j hj => ?_, lq⟩, ?_⟩
  · rcases n j hj with e | e
    · exact ap j e hq
    · have := c2.lt j hq; omega
  · rcases n j hj with e | e
    · exact lp j e
    · have := bl.size; omega
  · exact ⟨k.os.trans bl.os, k.tape.trans bl.tape, k.output.trans bl.output, Nat.le_trans bl.size k.size, fun q hq => (k.block q (by have := bl.size; omega) (fun e => by have := lp q e; omega)).trans (bl.block q hq)⟩
theorem Tp.ok (h : Tp w0 P Q s t w) : OkS s := by
  obtain ⟨⟨g, bn, bd, g', pv, dv, wv, vv, h1, bh, dh, h', qv, ev, xv, yv, c1, c2, ap, lp, lq⟩, bl⟩ := h
  exact c1.sr.ok
theorem Tp.img (h : Tp w0 P Q s t w) (hi : isz s.dur ≤ 140737488355000) (hj : isz t.dur ≤ 140737488355000) : ∃ g g' k k' : Nat, ∀ w1, Below w.heap.size w w1 → (w1.cell? ⟨P, 0, none⟩ = some (.pointer (some ⟨g, 0, none⟩)) ∧ w1.cell? ⟨P, 1, none⟩ = some (.pointer (some ⟨g', 0, none⟩)) ∧ w1.cell? ⟨Q, 0, none⟩ = some (.pointer (some ⟨k, 0, none⟩)) ∧ w1.cell? ⟨Q, 1, none⟩ = some (.pointer (some ⟨k', 0, none⟩))) ∧
    (∀ x, (x = g ∨ x = k) → Calls Tryz.prog 29 #[.pointer (some ⟨x, 0, none⟩)] w1 fun e w' => (∃ y, e = .returned (.string y) ∧ (x = g → y = imageT s.dur) ∧ (x = k → y = imageT t.dur)) ∧ Below w1.heap.size w1 w') ∧
    (∀ x, (x = g' ∨ x = k') → Calls Tryz.prog 31 #[.pointer (some ⟨x, 0, none⟩)] w1 fun e w' => (∃ y, e = .returned (.string y) ∧ (x = g' → y = imageT s.dur) ∧ (x = k' → y = imageT t.dur)) ∧ Below w1.heap.size w1 w') := by
  obtain ⟨⟨g, bn, bd, g', pv, dv, wv, vv, h1, bh, dh, h', qv, ev, xv, yv, c1, c2, ap, lp, lq⟩, bl⟩ := h
  refine ⟨g, g', h1, h', fun w1 b => ?_⟩
  have kk : Kp (fun _ => False) w w1 := Kp.of_below b
  have d1 := c1.keep kk (fun _ _ e => e) (fun _ _ _ _ e => e)
  have d2 := c2.keep kk (fun _ _ e => e) (fun _ _ _ _ e => e)
  have n1 : g ≠ h1 := fun e => ap g (.inl (.inl rfl)) (.inl (.inl e))
  have n2 : g' ≠ h' := fun e => ap g' (.inr (.inl (.inl rfl))) (.inr (.inl (.inl e)))
  refine ⟨⟨cell_of_row _ _ 0 _ _ _ d1.pr, cell_of_row _ _ 1 _ _ _ d1.pr, cell_of_row _ _ 0 _ _ _ d2.pr, cell_of_row _ _ 1 _ _ _ d2.pr⟩, ?_, ?_⟩
  · rintro x (e | e)
    · subst e
      exact (imageC d1.sr hi).mono fun e w' ⟨a, b⟩ => ⟨⟨_, a, fun _ => rfl, fun e => absurd e n1⟩, b⟩
    · subst e
      exact (imageC d2.sr hj).mono fun e w' ⟨a, b⟩ => ⟨⟨_, a, fun e => absurd e.symm n1, fun _ => rfl⟩, b⟩
  · rintro x (e | e)
    · subst e
      exact (xj.imageD d1.ds hi).mono fun e w' ⟨a, b⟩ => ⟨⟨_, a, fun _ => rfl, fun e => absurd e n2⟩, b⟩
    · subst e
      exact (xj.imageD d2.ds hj).mono fun e w' ⟨a, b⟩ => ⟨⟨_, a, fun e => absurd e.symm n2, fun _ => rfl⟩, b⟩
-- both pairs made
theorem Tp.new {c d : Int} {g bn bd k bm bk g' k' : Nat} {pv qv dv wv vv ev xv yv : Value} {s t : S} {w1 w2 w3 w4 : World} (b1 : Below w.heap.size w w1) (b2 : Below w1.heap.size w1 w2) (b3 : Below w2.heap.size w2 w3) (b4 : Below w3.heap.size w3 w4) (h1 : Sr w.heap.size g bn bd pv s w1) (h2 : Sr w1.heap.size k bm bk qv t w2) (h3 : Ds w2.heap.size g' dv wv vv s w3) (h4 : Ds w3.heap.size k' ev xv yv t w4) :
    Tp w w4.heap.size (w4.heap.size + 1) s t ((w4.alloc (.cells #[.pointer (some ⟨g, 0, none⟩), .pointer (some ⟨g', 0, none⟩)] 29)).alloc (.cells #[.pointer (some ⟨k, 0, none⟩), .pointer (some ⟨k', 0, none⟩)] 29)) := by
  have a5 : Below w4.heap.size w4 (w4.alloc (.cells #[.pointer (some ⟨g, 0, none⟩), .pointer (some ⟨g', 0, none⟩)] 29)) := (Below.refl _ _).alloc (Nat.le_refl _) _
  have a6 : Below (w4.alloc (.cells #[.pointer (some ⟨g, 0, none⟩), .pointer (some ⟨g', 0, none⟩)] 29)).heap.size (w4.alloc (.cells #[.pointer (some ⟨g, 0, none⟩), .pointer (some ⟨g', 0, none⟩)] 29)) ((w4.alloc (.cells #[.pointer (some ⟨g, 0, none⟩), .pointer (some ⟨g', 0, none⟩)] 29)).alloc (.cells #[.pointer (some ⟨k, 0, none⟩), .pointer (some ⟨k', 0, none⟩)] 29)) := (Below.refl _ _).alloc (Nat.le_refl _) _
  have a46 := over a5 a6
  have b34 := over b3 b4
  have b24 := over b2 b34
  have hsz : (w4.alloc (.cells #[.pointer (some ⟨g, 0, none⟩), .pointer (some ⟨g', 0, none⟩)] 29)).heap.size = w4.heap.size + 1 := by simp
  have r5 := heap_alloc_new w4 (.cells #[.pointer (some ⟨g, 0, none⟩), .pointer (some ⟨g', 0, none⟩)] 29)
  have r6 := heap_alloc_new (w4.alloc (.cells #[.pointer (some ⟨g, 0, none⟩), .pointer (some ⟨g', 0, none⟩)] 29)) (.cells #[.pointer (some ⟨k, 0, none⟩), .pointer (some ⟨k', 0, none⟩)] 29)
  rw [hsz] at r6
  have z1 := b1.size
  have z2 := b2.size
  have z3 := b3.size
  have z4 := b4.size
  have f1 : ∀ j, Fr g bn bd pv j → w.heap.size ≤ j ∧ j < w1.heap.size := fun j hj => ⟨(sr_in h1 j hj).2, (sr_in h1 j hj).1⟩
  have f2 : ∀ j, Fr k bm bk qv j → w1.heap.size ≤ j ∧ j < w2.heap.size := fun j hj => ⟨(sr_in h2 j hj).2, (sr_in h2 j hj).1⟩
  have f3 : ∀ j, xc.Fd g' wv j → w2.heap.size ≤ j ∧ j < w3.heap.size := by
    rintro j (e | e)
    · rw [e]; exact ⟨h3.low, h3.row.lt⟩
    · exact h3.wl.lt j e.symm
  have f4 : ∀ j, xc.Fd k' xv j → w3.heap.size ≤ j ∧ j < w4.heap.size := by
    rintro j (e | e)
    · rw [e]; exact ⟨h4.low, h4.row.lt⟩
    · exact h4.wl.lt j e.symm
  refine ⟨⟨g, bn, bd, g', pv, dv, wv, vv, k, bm, bk, k', qv, ev, xv, yv, ⟨sr_down (sr_later h1 (over b24 a46)) (Nat.zero_le _), (ds_down h3 (Nat.zero_le _)).later (over b4 a46), (a6.block _ (Array.getElem?_eq_some_iff.1 r5).1).trans r5⟩, ⟨sr_down (sr_later h2 (over b34 a46)) (Nat.zero_le _), (ds_down h4 (Nat.zero_le _)).later a46, r6⟩, ?_, ?_, ?_⟩, over (over b1 b24) a46⟩
  · rintro j (e | e | e) (q | q | q)
    · have := f1 j e; have := f2 j q; omega
    · have := f1 j e; have := f4 j q; omega
    · have := f1 j e; omega
    · have := f3 j e; have := f2 j q; omega
    · have := f3 j e; have := f4 j q; omega
    · have := f3 j e; omega
    · have := f2 j q; omega
    · have := f4 j q; omega
    · omega
  · rintro j (e | e | e)
    · exact (f1 j e).1
    · have := f3 j e; omega
    · omega
  · rintro j (e | e | e)
    · have := f2 j e; omega
    · have := f4 j e; omega
    · omega
end
end Go.Proofs.YtlkkibiedlakfaaGreat.wt
