import Derived.Test.YthdkbjbhjfiaiaaGreatDoorTe
import Derived.Deep.LoopGhost
import Derived.Laws.BitsAllLaws
import Derived.Laws.BitsLemmas
namespace Go.Proofs.YthdkbjbhjfiaiaaGreatDoor.tf
open Go.RowKit Go.PlainAid
open Go.Proofs.YthdkbjbhjfiaiaaGreatDoor.ta Go.Proofs.YthdkbjbhjfiaiaaGreatDoor.tb Go.Proofs.YthdkbjbhjfiaiaaGreatDoor.tc Go.Proofs.YthdkbjbhjfiaiaaGreatDoor.td Go.Proofs.YthdkbjbhjfiaiaaGreatDoor.te
set_option linter.unusedVariables false

set_option maxHeartbeats 800000 in
theorem regroup (f t : Nat) (give : Value) (hg : give.oneCell' = true) (g : Nat) (lb : Array Value) (hgive : give = .func (.func g) #[] lb) (w : World) :
    Calls Tryz.prog 121 #[.int .i64 f, .int .i64 t, give] w fun e w' => e = .returned (.func (.func 139) #[] #[.pointer (some ⟨w.heap.size + 3, 0, none⟩), .pointer (some ⟨w.heap.size, 0, none⟩), .pointer (some ⟨w.heap.size + 4, 0, none⟩), .pointer (some ⟨w.heap.size + 1, 0, none⟩), .pointer (some ⟨w.heap.size + 2, 0, none⟩)]) ∧
      w' = ((((w.alloc (bx 3 (.int .i64 f))).alloc (bx 3 (.int .i64 t))).alloc (bx 153 give)).alloc (bx 3 (.int .i64 0))).alloc (bx 3 (.int .i64 0)) := by
  subst hgive
  have hmf : ∀ (fn : Fn) (first cap : Array Value) (w : World), (Instr.makeFunc fn first cap).run Tryz.prog w = .ok (.func fn first cap) w := fun _ _ _ _ => rfl
  go_enter Tryz.func121, Tryz.ntmps121
  go_wp2
  go_ret
  exact ⟨rfl, rfl⟩

theorem pow2_le {a b : Nat} (h : a ≤ b) : (2 : Int) ^ a ≤ 2 ^ b := by exact_mod_cast Nat.pow_le_pow_right (by omega) h
theorem pow2_pos (a : Nat) : (0 : Int) < 2 ^ a := Int.pow_pos (by omega)
theorem i64_or_nat (a b : Nat) (ha : a < 4294967296) (hb : b < 4294967296) : bits .or .i64 (a : Int) (b : Int) = ((a ||| b : Nat) : Int) := by
  have hx : a ||| b < 2 ^ 32 := Nat.or_lt_two_pow (by omega) (by omega)
  show IntKind.i64.wrap ((BitVec.ofInt 64 (a : Int) ||| BitVec.ofInt 64 (b : Int)).toNat : Int) = _
  rw [BitVec.toNat_or, BitVec.ofInt_natCast, BitVec.toNat_ofNat, BitVec.ofInt_natCast, BitVec.toNat_ofNat, Nat.mod_eq_of_lt (by omega), Nat.mod_eq_of_lt (by omega), IntKind.wrap_i64]
  omega
theorem i64_and_nat (a b : Nat) (ha : a < 4294967296) (hb : b < 4294967296) : bits .and .i64 (a : Int) (b : Int) = ((a &&& b : Nat) : Int) := by
  have hx : a &&& b < 2 ^ 32 := Nat.and_lt_two_pow _ (by omega)
  show IntKind.i64.wrap ((BitVec.ofInt 64 (a : Int) &&& BitVec.ofInt 64 (b : Int)).toNat : Int) = _
  rw [BitVec.toNat_and, BitVec.ofInt_natCast, BitVec.toNat_ofNat, BitVec.ofInt_natCast, BitVec.toNat_ofNat, Nat.mod_eq_of_lt (by omega), Nat.mod_eq_of_lt (by omega), IntKind.wrap_i64]
  omega
theorem wrap_small (x : Int) (h0 : 0 ≤ x) (h1 : x < 4294967296) : wrap64 x = x := by unfold wrap64; omega
theorem or_add (a v : Int) (f : Nat) (h0 : 0 ≤ a) (h1 : a < 256) (hf : f ≤ 8) (v0 : 0 ≤ v) (v1 : v < 2 ^ f) : bits .or .i64 (wrap64 (a * 2 ^ f)) v = a * 2 ^ f + v := by
  obtain ⟨A, rfl⟩ := Int.eq_ofNat_of_zero_le h0
  obtain ⟨V, rfl⟩ := Int.eq_ofNat_of_zero_le v0
  have hp : 2 ^ f ≤ 256 := Nat.pow_le_pow_right (n := 2) (by omega) hf
  have hv : V < 2 ^ f := by exact_mod_cast v1
  have hm : A * 2 ^ f ≤ 255 * 256 := Nat.mul_le_mul (by omega) hp
  have e : ((A : Int) * 2 ^ f) = ((A * 2 ^ f : Nat) : Int) := by rw [Int.natCast_mul, Int.natCast_pow]; rfl
  rw [e, wrap_small _ (by omega) (by omega), i64_or_nat _ _ (by omega) (by omega)]
  have : A * 2 ^ f ||| V = 2 ^ f * A + V := by rw [Nat.two_pow_add_eq_or_of_lt hv, Nat.mul_comm]
  rw [this, Nat.mul_comm, Int.natCast_add]
theorem and_mod (a : Int) (k : Nat) (h0 : 0 ≤ a) (h1 : a < 65536) (hk : k ≤ 16) : bits .and .i64 a (2 ^ k - 1) = a % 2 ^ k := by
  obtain ⟨A, rfl⟩ := Int.eq_ofNat_of_zero_le h0
  have hp : 2 ^ k ≤ 65536 := Nat.pow_le_pow_right (n := 2) (by omega) hk
  have hq : 1 ≤ 2 ^ k := Nat.one_le_two_pow
  have e : ((2 : Int) ^ k - 1) = ((2 ^ k - 1 : Nat) : Int) := by rw [Int.natCast_sub hq, Int.natCast_pow]; rfl
  rw [e, i64_and_nat _ _ (by omega) (by omega), Nat.and_two_pow_sub_one_eq_mod, Int.natCast_emod, Int.natCast_pow]
  rfl
section
variable {w0 : World} {B bo C bh bc : Nat} {cs : List (Nat × Obj)}
set_option maxHeartbeats 800000 in
set_option maxRecDepth 100000 in
theorem regroup1 (f t : Nat) (hf : f ≤ 8) (ht : 1 ≤ t) (ht8 : t ≤ 8) (N bf bt' bg g : Nat) (lb : Array Value) (eg : ∀ args w, (callFunc g args).run Tryz.prog w = .ok (.enter g args) w) (φ : Int → Int)
    (hbf : (bf, bx 3 (.int .i64 f)) ∈ cs) (hbt : (bt', bx 3 (.int .i64 t)) ∈ cs) (hbg : (bg, bx 153 (.func (.func g) #[] lb)) ∈ cs)
    (hgive : ∀ q h c x w, 0 ≤ x → x < 2 ^ t → q.length < N → St w0 B bo C bh bc cs q h c w → Calls Tryz.prog g (#[.int .u8 x] ++ lb) w fun e w' => e = .returned (.tuple #[]) ∧ St w0 B bo C bh bc cs (q ++ [φ x]) h c w')
    (p : List Int) (h v : Int) (c : Nat) (h0 : 0 ≤ h) (hh : h < 2 ^ c) (hc : c < 8) (v0 : 0 ≤ v) (hv : v < 2 ^ f) (w : World) (s : St w0 B bo C bh bc cs p h c w) (hroom : p.length + (flush t (c + f) (h * 2 ^ f + v) (c + f)).1.length ≤ N) :
    Calls Tryz.prog 139 #[.int .u8 v, .pointer (some ⟨bh, 0, none⟩), .pointer (some ⟨bf, 0, none⟩), .pointer (some ⟨bc, 0, none⟩), .pointer (some ⟨bt', 0, none⟩), .pointer (some ⟨bg, 0, none⟩)] w fun e w' =>
      e = .returned (.tuple #[]) ∧ St w0 B bo C bh bc cs (p ++ (flush t (c + f) (h * 2 ^ f + v) (c + f)).1.map φ) (flush t (c + f) (h * 2 ^ f + v) (c + f)).2.1 (flush t (c + f) (h * 2 ^ f + v) (c + f)).2.2 w' := by
  have hp2 : (2 : Int) ^ f ≤ 256 := pow2_le (b := 8) hf
  have hpc : (2 : Int) ^ c ≤ 128 := pow2_le (b := 7) (by omega)
  have hor := or_add h v f h0 (by omega) hf v0 hv
  have HX : Hid (0 ≤ h * 2 ^ f + v ∧ h * 2 ^ f + v < 2 ^ (c + f)) := by
    have h1 : 0 ≤ h * 2 ^ f := Int.mul_nonneg h0 (Int.le_of_lt (pow2_pos f))
    have h2 : h * 2 ^ f + 2 ^ f ≤ 2 ^ c * 2 ^ f := by
      have := Int.mul_le_mul_of_nonneg_right (a := h + 1) (b := 2 ^ c) (c := 2 ^ f) (by omega) (Int.le_of_lt (pow2_pos f))
      rw [Int.add_mul, Int.one_mul] at this
      exact this
    rw [Int.pow_add]
    exact ⟨by omega, by omega⟩
  obtain ⟨X, HXX⟩ : ∃ X, Hid (h * 2 ^ f + v = X) := ⟨_, rfl⟩
  rw [HXX.out] at hor HX hroom ⊢
  have S1 : Hid (St w0 B bo C bh bc cs p X c (w.setCell ⟨bh, 0, none⟩ (.int .i64 X))) := s.setHeld X
  have S2 : Hid (St w0 B bo C bh bc cs p X (c + f : Nat) ((w.setCell ⟨bh, 0, none⟩ (.int .i64 X)).setCell ⟨bc, 0, none⟩ (.int .i64 (c + f)))) := by
    have := S1.out.setCnt (c + f : Nat)
    rwa [Int.natCast_add] at this ⊢
  have cf := s.at hbf
  have ch := s.held.cell
  have fh := s.held.frozen
  have cc := S1.out.cnt.cell
  have fc := S1.out.cnt.frozen
  have cf1 := S1.out.at hbf
  have v8 : v ≤ 255 := by omega
  have f0 : (0 : Int) ≤ f := by omega
  clear s
  go_enter Tryz.func139, Tryz.ntmps139
  go_wp2
  go_loopg [] (c + f) (fun n wr => ∃ q h' c', St w0 B bo C bh bc cs q h' (c' : Nat) wr ∧ 0 ≤ h' ∧ h' < 2 ^ c' ∧ c' ≤ n ∧ c' ≤ 16 ∧ q.length + (flush t n h' c').1.length ≤ N ∧
    q ++ (flush t n h' c').1.map φ = p ++ (flush t (c + f) X (c + f)).1.map φ ∧ (flush t n h' c').2 = (flush t (c + f) X (c + f)).2)
  case atStart => exact ⟨p, X, c + f, S2.out, HX.out.1, HX.out.2, Nat.le_refl _, by omega, hroom, rfl, rfl⟩
  case round =>
    obtain ⟨q, h', c', st, hh0, hh1, hcn, hc16, hrm, hq1, hq2⟩ := hrel
    have ST : Hid (St w0 B bo C bh bc cs q h' (c' : Nat) wr) := st
    have HQ : Hid (_ ∧ _ ∧ _) := ⟨hrm, hq1, hq2⟩
    clear st hrm hq1 hq2 hroom HX HXX hor S1 S2 cf ch fh cc fc cf1
    have cc := ST.out.cnt.cell
    have fc := ST.out.cnt.frozen
    have ct := ST.out.at hbt
    by_cases hge : t ≤ c'
    · have hge' : (c' : Int) ≥ (t : Int) := by omega
      obtain ⟨d, HD⟩ : ∃ d, Hid (c' - t = d) := ⟨_, rfl⟩
      have hcd : (c' : Int) - (t : Int) = (d : Int) := by have := HD.out; omega
      have S1 : Hid (St w0 B bo C bh bc cs q h' (d : Nat) (wr.setCell ⟨bc, 0, none⟩ (.int .i64 d))) := ST.out.setCnt d
      have gg := S1.out.at hbg
      have ch := S1.out.held.cell
      have fh := S1.out.held.frozen
      have cc1 := S1.out.cnt.cell
      obtain ⟨w1, HW1⟩ : ∃ w1, Hid (wr.setCell ⟨bc, 0, none⟩ (.int .i64 d) = w1) := ⟨_, rfl⟩
      have d0 : (0 : Int) ≤ d := by omega
      have hx0 : 0 ≤ h' / 2 ^ d := Int.ediv_nonneg hh0 (Int.le_of_lt (pow2_pos d))
      have hx1 : h' / 2 ^ d < 2 ^ t := by
        apply Int.ediv_lt_of_lt_mul (pow2_pos d)
        rw [← Int.pow_add, show t + d = c' by have := HD.out; omega]
        exact hh1
      have hpt : (2 : Int) ^ t ≤ 256 := pow2_le (b := 8) ht8
      obtain ⟨n, rfl⟩ : ∃ n, gk = n + 1 := ⟨gk - 1, by omega⟩
      have hfl : flush t (n + 1) h' c' = ((h' / 2 ^ d) :: (flush t n (h' % 2 ^ d) d).1, (flush t n (h' % 2 ^ d) d).2.1, (flush t n (h' % 2 ^ d) d).2.2) := by rw [flush, if_pos hge, HD.out]
      have hql : q.length < N := by
        have := HQ.out.1
        rw [hfl] at this
        simp at this
        omega
      have C1 : Hid (Calls Tryz.prog g (#[.int .u8 (h' / 2 ^ d)] ++ lb) w1.drew fun e w' => e = .returned (.tuple #[]) ∧ St w0 B bo C bh bc cs (q ++ [φ (h' / 2 ^ d)]) h' d w') := hgive q h' d _ w1.drew hx0 hx1 hql (by rw [← HW1.out]; exact S1.out.drew)
      obtain ⟨x, HX⟩ : ∃ x, Hid (h' / 2 ^ d = x) := ⟨_, rfl⟩
      have hx := HX.out
      rw [hx] at C1 hx0 hx1
      have x255 : x ≤ 255 := by omega
      have hwr : IntKind.u8.wrap x = x := by rw [IntKind.wrap_u8']; omega
      rw [HW1.out] at gg ch fh cc1
      have hw1 := HW1.out
      go_wp2_with fail
      go_region_held3 (fun w' => w'.cell? ⟨bg, 0, none⟩ = some (.func (.func g) #[] lb) ∧ w'.cell? ⟨bh, 0, none⟩ = some (.int .i64 h') ∧ w'.cell? ⟨bc, 0, none⟩ = some (.int .i64 d)) (first | exact ⟨gg, ch, cc1⟩ | exact ⟨hs2.at hbg, hs2.held.cell, hs2.cnt.cell⟩) ((refine C1.out.mono ?_; rintro e w2 ⟨rfl, hs2⟩))
      have S2 : Hid (St _ _ _ _ _ _ _ _ _ _ _) := hs2
      have ch2 := hs2.held.cell
      have fh2 := hs2.held.frozen
      have cc2 := hs2.cnt.cell
      clear hs2 gg ch fh cc1 cc fc ct hw1
      have HM : Hid (0 ≤ h' % 2 ^ d ∧ h' % 2 ^ d < 2 ^ d) := ⟨Int.emod_nonneg _ (Int.ne_of_gt (pow2_pos d)), Int.emod_lt_of_pos _ (pow2_pos d)⟩
      have hpd : (2 : Int) ^ d ≤ 65536 := pow2_le (b := 16) (by have := HD.out; omega)
      have hpc' : (2 : Int) ^ c' ≤ 65536 := pow2_le (b := 16) hc16
      have hpd0 := pow2_pos d
      have e1 : bits .and .i64 h' (wrap64 (wrap64 (2 ^ d) - 1)) = h' % 2 ^ d := by
        rw [wrap_small (2 ^ d) (by omega) (by omega), wrap_small _ (by omega) (by omega), and_mod h' d hh0 (by omega) (by have := HD.out; omega)]
      obtain ⟨y, HY⟩ : ∃ y, Hid (h' % 2 ^ d = y) := ⟨_, rfl⟩
      have hy := e1.trans HY.out
      clear hpd hpc' hpd0 e1
      go_wp2_with fail
      go_region
      go_wp2
      go_roundg n
      case measure => omega
      case rel =>
        refine ⟨q ++ [φ x], y, d, ?_, ?_, ?_, ?_, ?_, ?_, ?_, ?_⟩
        · exact (S2.out.setHeld y).drew
        · rw [← HY.out]; exact HM.out.1
        · rw [← HY.out]; exact HM.out.2
        · have := HD.out; omega
        · have := HD.out; omega
        · have := HQ.out.1
          rw [hfl, HY.out] at this
          simp at this ⊢
          omega
        · have := HQ.out.2.1
          rw [hfl, HY.out, HX.out] at this
          rw [← this]
          simp
        · have := HQ.out.2.2
          rw [hfl, HY.out] at this
          exact this
    · have hge' : ¬ (c' : Int) ≥ (t : Int) := by omega
      have hfl : flush t gk h' c' = ([], h', c') := by
        cases gk with
        | zero => rfl
        | succ n => rw [flush, if_neg hge]
      go_wp2
      go_end0
      refine ⟨rfl, ?_⟩
      have h1 := HQ.out.2.1
      have h2 := HQ.out.2.2
      rw [hfl] at h1 h2
      rw [← h1, ← h2]
      simpa using ST.out
end
end Go.Proofs.YthdkbjbhjfiaiaaGreatDoor.tf
