import Derived.Test.YtnnpidjpklfogaaDoorA5
import Derived.Test.YtnnpidjpklfogaaDoorA6
import Derived.WalkSpells
import Derived.PlainAid
import Derived.Lib.BitFns
import Derived.Test.YtnnpidjpklfogaaDoorA4
namespace Go.Proofs.YtnnpidjpklfogaaDoor.yo
open Go.RowKit Go.PlainAid
open Go.Proofs.YtnnpidjpklfogaaDoor.fh Go.Proofs.YtnnpidjpklfogaaDoor.qe
set_option linter.unusedVariables false

theorem pop_add : ∀ (a b x : Nat), Lib.popAux (a + b) x = Lib.popAux a x + Lib.popAux b (x / 2 ^ a)
  | 0, b, x => by simp [Lib.popAux]
  | a + 1, b, x => by
    rw [show a + 1 + b = (a + b) + 1 by omega, Lib.popAux, Lib.popAux, pop_add a b (x / 2), Nat.div_div_eq_div_mul, Nat.pow_succ, Nat.mul_comm 2]
    omega

theorem pop_zero : ∀ a : Nat, Lib.popAux a 0 = 0
  | 0 => rfl
  | a + 1 => by rw [Lib.popAux, pop_zero a]

theorem pop_le : ∀ (a x : Nat), Lib.popAux a x ≤ a
  | 0, _ => by simp [Lib.popAux]
  | a + 1, x => by have := pop_le a (x / 2); rw [Lib.popAux]; omega

theorem pop_more (a b x : Nat) (h : x < 2 ^ a) : Lib.popAux (a + b) x = Lib.popAux a x := by
  rw [pop_add, Nat.div_eq_of_lt h, pop_zero]; omega

theorem pop_four (y : Nat) : ((Lib.popAux 4 y : Nat) : Int) = hoL.getD (y % 16) 0 := by
  have key : ∀ z : Fin 16, ((Lib.popAux 4 z.val : Nat) : Int) = hoL.getD z.val 0 := by decide
  have e : Lib.popAux 4 y = Lib.popAux 4 (y % 16) := by
    simp only [Lib.popAux]
    omega
  rw [e]
  exact key ⟨y % 16, by omega⟩

theorem and15 (n : Int) : bits .and .i64 n 15 = n % 16 := by
  have h15 : (BitVec.ofInt 64 15).toNat = 2 ^ 4 - 1 := by decide
  have key : (BitVec.ofInt 64 n &&& BitVec.ofInt 64 15).toNat = (n % ((2 ^ 64 : Nat) : Int)).toNat % 2 ^ 4 := by
    rw [BitVec.toNat_and, BitVec.toNat_ofInt, h15, Nat.and_two_pow_sub_one_eq_mod]
  show IntKind.i64.wrap ((BitVec.ofInt 64 n &&& BitVec.ofInt 64 15).toNat : Nat) = n % 16
  rw [key, IntKind.wrap_i64]
  omega

theorem pop_step (m k : Nat) : ((Lib.popAux (4 * (k + 1)) m : Nat) : Int) = (Lib.popAux (4 * k) m : Nat) + hoL.getD (m / 2 ^ (4 * k) % 16) 0 := by
  rw [show 4 * (k + 1) = 4 * k + 4 by omega, pop_add, ← pop_four]
  omega

theorem ones_no (n : Int) (w : World) (h : n ≤ 0) :
    Calls Tryd.prog 13 #[.int .i64 n] w fun e w' => e = .returned (.int .i64 0) ∧ w' = w := by
  go_enter Tryd.func13, Tryd.ntmps13
  go_wp2
  go_ret
  exact ⟨rfl, rfl⟩

set_option maxHeartbeats 800000 in
theorem ones_yes (m : Nat) (w : World) (h0 : 0 < m) (h1 : m ≤ 9223372036854775807) (HT : Hid (TabO w)) :
    Calls Tryd.prog 13 #[.int .i64 m] w fun e w' => e = .returned (.int .i64 (Lib.onesCount m)) ∧ w' = w := by
  have d0 : decide ((m : Int) ≤ 0) = false := by simp; omega
  have d1 : decide (m = 0) = false := by simp; omega
  go_enter Tryd.func13, Tryd.ntmps13
  go_wp2_with fail
  go_loop [3, 7] (fun s i => ∃ k : Nat, k ≤ 16 ∧ i = .int .i64 k ∧ s = .int .i64 (Lib.popAux (4 * k) m)) (fun _ i => (16 - intOf i).toNat)
  case atStart => exact ⟨0, by omega, rfl, rfl⟩
  case round =>
    obtain ⟨k, hk, rfl, rfl⟩ := hrel
    by_cases hlt : k < 16
    · have hlt' : (k : Int) < 16 := by omega
      have HP : Hid _ := pop_step m k
      have hpl := pop_le (4 * k) m
      have hc := HT.out (m / 2 ^ (4 * k) % 16) (by omega)
      have hz : 0 ≤ hoL.getD (m / 2 ^ (4 * k) % 16) 0 ∧ hoL.getD (m / 2 ^ (4 * k) % 16) 0 ≤ 4 := by
        rw [← pop_four]; have := pop_le 4 (m / 2 ^ (4 * k)); omega
      have hb : bits BinOp.and IntKind.i64 ((m : Int) / 2 ^ (4 * k)) 15 = ((m / 2 ^ (4 * k) % 16 : Nat) : Int) := by
        rw [and15]; simp
      have hj : m / 2 ^ (4 * k) % 16 < 16 := by omega
      revert HP hc hz hb hj
      generalize m / 2 ^ (4 * k) % 16 = j
      generalize hoL.getD j 0 = z
      intro HP hc hz hb hj
      obtain ⟨z0, z4⟩ := hz
      go_wp2
      go_round
      case rel => exact ⟨k + 1, by omega, by go_num, by rw [HP.out]⟩
      case measure => simp [intOf]; omega
    · have hlt' : ¬ (k : Int) < 16 := by omega
      obtain rfl : k = 16 := by omega
      go_wp2
      go_ret
      exact ⟨rfl, rfl⟩


theorem onesC {T : World → Prop} (tabo : ∀ {w : World}, T w → TabO w) : OnesC T := by
  intro n w hn hT
  by_cases h : n = 0
  · subst h
    refine (ones_no 0 w (by omega)).mono ?_
    rintro e w' ⟨rfl, rfl⟩
    exact ⟨by rw [show Lib.onesCount 0 = 0 from pop_zero 64]; rfl, Below.refl _ _⟩
  · refine (ones_yes n w (by omega) (by omega) (tabo hT)).mono ?_
    rintro e w' ⟨rfl, rfl⟩
    exact ⟨rfl, Below.refl _ _⟩
end Go.Proofs.YtnnpidjpklfogaaDoor.yo

namespace Go.Proofs.YtnnpidjpklfogaaDoor.yw
open Go.Proofs.YtnnpidjpklfogaaDoor.pj Go.Proofs.YtnnpidjpklfogaaDoor.cs Go.Proofs.YtnnpidjpklfogaaDoor.ct Go.Proofs.YtnnpidjpklfogaaDoor.gr Go.Proofs.YtnnpidjpklfogaaDoor.gn Go.Proofs.YtnnpidjpklfogaaDoor.mb Go.Proofs.YtnnpidjpklfogaaDoor.me Go.Proofs.YtnnpidjpklfogaaDoor.ob Go.Proofs.YtnnpidjpklfogaaDoor.xf Go.Proofs.YtnnpidjpklfogaaDoor.tb Go.Proofs.YtnnpidjpklfogaaDoor.wv Go.Proofs.YtnnpidjpklfogaaDoor.yf Go.Proofs.YtnnpidjpklfogaaDoor.yg Go.Proofs.YtnnpidjpklfogaaDoor.yi Go.Proofs.YtnnpidjpklfogaaDoor.yj Go.Proofs.YtnnpidjpklfogaaDoor.yo

theorem checkTB : CheckC TB := fun wd lo hi u hs w a b c t => checkC wd lo hi u hs w a b c t.d
theorem coverTB : CoverC TB := ⟨TB.down, fun lo hi a b w t => coverC.covers lo hi a b w t.d⟩
theorem pushTB : PushC TB := pushC TB.down (fun h => h.t) (fun h => h.d)
theorem mergeTB : MergeC TB := mergeC TB.down (fun h => h.t) (fun h => h.d)
theorem rootTB : RootC7 TB := root7 (fun h => h.t) (fun h => h.d)
theorem mrootTB : RootC TB := fun wd v xs w a t h f => rootC wd v xs w a t.t h f
theorem nodeTB : NodeC TB := fun wd L I v xs w a b c t h f => nodeC wd L I v xs w a b c t.t h f
theorem pushTBO : PushC TBO := pushC TBO.down (fun h => h.b.t) (fun h => h.b.d)
theorem mergeTBO : MergeC TBO := mergeC TBO.down (fun h => h.b.t) (fun h => h.b.d)
theorem onesTBO : Go.Proofs.YtnnpidjpklfogaaDoor.qe.OnesC TBO := onesC (fun h => h.o)
end Go.Proofs.YtnnpidjpklfogaaDoor.yw
