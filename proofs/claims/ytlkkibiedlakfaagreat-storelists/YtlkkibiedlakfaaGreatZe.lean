import Derived.Test.YtlkkibiedlakfaaGreatZa
import Derived.Test.YtlkkibiedlakfaaGreatNa
import Derived.Shelf.Small.Wraps
namespace Go.Proofs.YtlkkibiedlakfaaGreat.ze
open Go.RowKit Go.PlainAid Go.Maps Go.Shelf
open Go.Proofs.YtlkkibiedlakfaaGreat.na Go.Proofs.YtlkkibiedlakfaaGreat.ya Go.Proofs.YtlkkibiedlakfaaGreat.yb Go.Proofs.YtlkkibiedlakfaaGreat.yc Go.Proofs.YtlkkibiedlakfaaGreat.yo Go.Proofs.YtlkkibiedlakfaaGreat.yp Go.Proofs.YtlkkibiedlakfaaGreat.za
set_option linter.unusedVariables false
set_option linter.unusedSimpArgs false
theorem or_i64 (v c : Int) (h0 : 0 ≤ v) (h1 : v < 16777216) (c0 : 0 ≤ c) (c1 : c ≤ 255) : bits .or .i64 (v * 256) c = v * 256 + c := by
  obtain ⟨A, rfl⟩ := Int.eq_ofNat_of_zero_le h0
  obtain ⟨C, rfl⟩ := Int.eq_ofNat_of_zero_le c0
  have e1 : ((A : Int) * 256) = ((A * 256 : Nat) : Int) := by omega
  rw [e1]
  show IntKind.i64.wrap ((BitVec.ofInt 64 ((A * 256 : Nat) : Int) ||| BitVec.ofInt 64 (C : Int)).toNat : Nat) = _
  have h : A * 256 ||| C = 2 ^ 8 * A + C := by
    rw [Nat.two_pow_add_eq_or_of_lt (by omega)]
    congr 1
    omega
  rw [BitVec.toNat_or, ofInt_u64 (A * 256) (by omega), ofInt_u64 C (by omega), h, IntKind.wrap_i64]
  omega
-- pieces of texts
theorem bs_ext (t : ByteArray) (i j : Nat) : bs (t.extract i j) = ((bs t).drop i).take (j - i) := by
  unfold bs
  rw [ByteArray.data_extract]
  simp [List.extract_eq_take_drop]
theorem bt_bs (t : ByteArray) (k : Nat) (u : UInt8) (h : (bs t)[k]? = some u) : bt t k = u.toNat := by
  unfold bs at h
  have hk : k < t.size := by
    have := (List.getElem?_eq_some_iff.1 h).1
    simpa using this
  rw [← get_bt t k hk]
  have : t[k] = u := by
    obtain ⟨h1, h2⟩ := List.getElem?_eq_some_iff.1 h
    rw [← h2]; rfl
  rw [this]
def rp (t : ByteArray) (nb : Nat) : ByteArray × ByteArray × Bool :=
  if t.size < nb then (ByteArray.empty, ByteArray.empty, false)
  else if ((t.extract nb t.size).size : Int) < beR t 0 nb then (ByteArray.empty, ByteArray.empty, false)
  else ((t.extract nb t.size).extract 0 (beR t 0 nb).toNat, (t.extract nb t.size).extract (beR t 0 nb).toNat (t.extract nb t.size).size, true)
set_option maxRecDepth 20000 in
set_option maxHeartbeats 3200000 in
theorem readPieceC (t : ByteArray) (nb : Nat) (w : World) (h1 : 1 ≤ nb) (h4 : nb ≤ 4) (hs : t.size ≤ 140737488355328) :
    Calls Tryz.prog 128 #[.string t, .int .i64 nb] w fun e w' => e = .returned (.tuple #[.string (rp t nb).1, .string (rp t nb).2.1, .bool (rp t nb).2.2]) ∧ Below w.heap.size w w' := by
  unfold rp
  by_cases hsh : t.size < nb
  · rw [if_pos hsh]
    have g1 : (t.size : Int) < (nb : Int) := by omega
    go_enter Tryz.func128, Tryz.ntmps128
    go_wp2
    refine bodyPost_ret (by simp [results, Tryz.results128, go_sem]; try rfl) rfl ?_
    exact ⟨rfl, Below.refl _ _⟩
  · rw [if_neg hsh]
    have g1 : ¬ (t.size : Int) < (nb : Int) := by omega
    have g2 : (nb : Int) ≤ (t.size : Int) := by omega
    have hbt := get_bt t
    have hz : (t.extract nb t.size).size = t.size - nb := by simp
    obtain ⟨u, HU⟩ : ∃ u, Hid (t.extract nb t.size = u) := ⟨_, rfl⟩
    obtain ⟨n, hn⟩ := Int.eq_ofNat_of_zero_le (beR_nonneg t 0 nb)
    have HNN : Hid (beR t 0 nb = (n : Int)) := hn
    have hzu : u.size = t.size - nb := by rw [← HU.out]; exact hz
    rw [HNN.out, HU.out]
    have hnn : ((n : Int)).toNat = n := by omega
    rw [hnn]
    clear hz hn hnn
    obtain ⟨xa, xb, xc, hx⟩ : ∃ xa xb xc, (if (u.size : Int) < (n : Int) then ((ByteArray.empty, ByteArray.empty, false) : ByteArray × ByteArray × Bool) else (u.extract 0 n, u.extract n u.size, true)) = (xa, xb, xc) := ⟨_, _, _, rfl⟩
    rw [hx]
    have HXX : Hid _ := hx
    clear hx
    go_enter Tryz.func128, Tryz.ntmps128
    go_wp2_with fail
    go_loop [7, 14] (fun v i => ∃ (k : Nat), k ≤ nb ∧ v = .int .i64 (beR t 0 k) ∧ i = .int .i64 k) (fun _ i => (nb - intOf i).toNat)
    case atStart => exact ⟨0, by omega, rfl, rfl⟩
    case round =>
      obtain ⟨k, hk, rfl, rfl⟩ := hrel
      by_cases hlt : k < nb
      · have hlt' : (k : Int) < nb := by omega
        have hpk : k < t.size := by omega
        have hc0 := bt_nonneg t k
        have hc1 := bt_le t k
        have hv0 := beR_nonneg t 0 k
        have hv1 : beR t 0 k < 16777216 := by
          have h := beR_lt t 0 k
          have h2 : (256 : Int) ^ k ≤ 256 ^ 3 := ipow_le 256 (by omega) (by omega)
          have h3 : (256 : Int) ^ 3 = 16777216 := by decide
          omega
        have HO : Hid _ := or_i64 (beR t 0 k) (bt t k) hv0 hv1 hc0 hc1
        have HS : Hid (beR t 0 (k + 1) = beR t 0 k * 256 + bt t k) := by show beR t 0 k * 256 + bt t (0 + k) = _; rw [Nat.zero_add]
        go_wp2
        go_round
        case rel => exact ⟨k + 1, by omega, by rw [HS.out]; first | rw [HO.out] | (congr 1; exact HO.out) | skip, by go_num⟩
        case measure => simp [intOf]; omega
      · have hlt' : ¬ (k : Int) < nb := by omega
        obtain rfl : k = nb := by omega
        rw [HNN.out]
        by_cases hlen : (u.size : Int) < (n : Int)
        · have hx := HXX.out
          rw [if_pos hlen] at hx
          obtain ⟨e1, e4⟩ := Prod.mk.inj hx
          obtain ⟨e2, e3⟩ := Prod.mk.inj e4
          clear hx e4 HXX
          subst e1 e2 e3
          have HUU := HU.out
          go_wp2
          refine bodyPost_ret (by simp [results, Tryz.results128, go_sem]; try rfl) rfl ?_
          exact ⟨rfl, Below.refl _ _⟩
        · have hx := HXX.out
          rw [if_neg hlen] at hx
          obtain ⟨e1, e4⟩ := Prod.mk.inj hx
          obtain ⟨e2, e3⟩ := Prod.mk.inj e4
          clear hx e4 HXX
          subst e1 e2 e3
          have HUU := HU.out
          have hle : (n : Int) ≤ (u.size : Int) := by omega
          have hle0 : (0 : Int) ≤ (n : Int) := by omega
          go_upto_region 12 with fail
          go_region
          all_goals
            go_wp2
            refine bodyPost_ret (by simp [results, Tryz.results128, go_sem]; try rfl) rfl ?_
            exact ⟨rfl, (Below.refl _ _).drew⟩
end Go.Proofs.YtlkkibiedlakfaaGreat.ze
