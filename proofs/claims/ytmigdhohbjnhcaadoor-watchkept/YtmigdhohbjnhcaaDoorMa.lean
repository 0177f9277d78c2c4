import Derived.Test.YtmigdhohbjnhcaaDoorGb
import Derived.Test.YtmigdhohbjnhcaaDoorXa
import Derived.Test.YtmigdhohbjnhcaaDoorXb
import Derived.Laws.BitsAllLaws
namespace Go.Proofs.YtmigdhohbjnhcaaDoor.ma
open Go.RowKit Go.PlainAid
open Go.Proofs.YtmigdhohbjnhcaaDoor.ca Go.Proofs.YtmigdhohbjnhcaaDoor.cb Go.Proofs.YtmigdhohbjnhcaaDoor.cp Go.Proofs.YtmigdhohbjnhcaaDoor.ka Go.Proofs.YtmigdhohbjnhcaaDoor.ga Go.Proofs.YtmigdhohbjnhcaaDoor.gb Go.Proofs.YtmigdhohbjnhcaaDoor.xa Go.Proofs.YtmigdhohbjnhcaaDoor.xb
set_option linter.unusedVariables false

theorem len_int (x : Int) (w : World) (h0 : 0 ≤ x) (h1 : x ≤ 9223372036854775807) :
    Calls Tryd.prog 38 #[.int .u64 x] w fun e w' => e = .returned (.int .i64 (Lib.bitLen x.toNat)) ∧ w' = w := by
  have C : Hid (Calls _ _ _ _ _) := len_any x w h0 (by omega)
  obtain ⟨b, HB⟩ : ∃ b, Hid (Lib.bitLen x.toNat = b) := ⟨_, rfl⟩
  rw [HB.out] at C ⊢
  go_enter Tryd.func38, Tryd.ntmps38
  go_wp2_with fail
  refine C.out.mono ?_
  rintro e w1 ⟨rfl, hw⟩
  subst hw
  go_wp2
  go_ret
  exact ⟨rfl, rfl⟩
theorem half_len {n : Nat} (h : 2 ≤ n) (hn : n ≤ 4611686018427387904) : ∃ l, Lib.bitLen (n - 1) = l + 1 ∧ half n = 2 ^ l ∧ l ≤ 62 := by
  obtain ⟨g1, g2⟩ := len_spec (n - 1) (by omega)
  obtain ⟨g3, g4⟩ := g2 (by omega)
  have g5 := len_le63 (n - 1) (by omega)
  obtain ⟨l, hl⟩ : ∃ l, Lib.bitLen (n - 1) = l + 1 := ⟨Lib.bitLen (n - 1) - 1, by omega⟩
  rw [hl] at g1 g3 g5
  rw [Nat.add_sub_cancel] at g3
  exact ⟨l, hl, half_eq (by omega) (by omega), by omega⟩
-- the program's split
theorem msplit (n : Nat) (h : 2 ≤ n) (hn : n ≤ 4611686018427387904) (w : World) :
    Calls Tryd.prog 27 #[.int .i64 n] w fun e w' => e = .returned (.int .i64 (half n : Nat)) ∧ w' = w := by
  obtain ⟨l, hl, he, h62⟩ := half_len h hn
  have hlt := (half_lt h).2.1
  have C : Hid (∀ w, Calls _ _ _ _ _) := fun w => len_int ((n : Int) - 1) w (by omega) (by omega)
  rw [show ((n : Int) - 1).toNat = n - 1 by omega, hl] at C
  obtain ⟨t, HT⟩ : ∃ t : Nat, Hid (2 ^ l = t) := ⟨_, rfl⟩
  have hT : (2 : Int) ^ l = (t : Int) := by rw [cast_pow, HT.out]
  rw [he, HT.out] at hlt ⊢
  have hw1 : ((l + 1 : Nat) : Int) = (l : Int) + 1 := by omega
  have hw2 : IntKind.u64.wrap (l : Int) = l := u64_is l (by omega)
  have hw3 : min (l : Int).toNat 64 = l := by omega
  have hw4 : min l 64 = l := by omega
  have hw5 : IntKind.i64.wrap (t : Int) = t := wrap_is t (by omega)
  rw [hw1] at C
  clear hl he
  go_enter Tryd.func27, Tryd.ntmps27
  go_wp2_with fail
  refine (C.out _).mono ?_
  rintro e w1 ⟨rfl, hw⟩
  subst hw
  go_wp2
  go_ret
  exact ⟨rfl, rfl⟩
-- a list without room behind it
theorem tightT {w : World} {a : Option Addr} {n cap : Nat} {xs : List ByteArray} (h : ReadsT w (.slice a n cap) xs) : ReadsT w (.slice a n n) xs := by
  obtain ⟨a', cap', e, hc, hh⟩ := h
  injection e with e1 e2 e3
  subst e1 e2
  exact ⟨_, _, rfl, Nat.le_refl _, hh⟩
theorem parts (b off n cap : Nat) (h : 2 ≤ n) (hn : n ≤ 4611686018427387904) (hc : n ≤ cap) (w : World) :
    Calls Tryd.prog 14 #[.slice (some ⟨b, off, none⟩) n cap] w fun e w' => e = .returned (.tuple #[.slice (some ⟨b, off, none⟩) (half n) (half n), .slice (some ⟨b, off + half n, none⟩) (n - half n) (n - half n)]) ∧ ∃ m, w' = w.drewN m := by
  have C : Hid (∀ w, Calls _ _ _ _ _) := fun w => msplit n h hn w
  have hh := half_lt h
  obtain ⟨t, HT⟩ : ∃ t : Nat, Hid (half n = t) := ⟨_, rfl⟩
  rw [HT.out] at C hh ⊢
  obtain ⟨h1, h2, h3⟩ := hh
  have g1 : (t : Int) ≤ cap := by omega
  have g2 : (t : Int) ≤ n := by omega
  have g3 : (n : Int) ≤ cap := by omega
  have ent : ((n - t : Nat) : Int) = (n : Int) - t := by omega
  go_enter Tryd.func14, Tryd.ntmps14
  go_wp2_with fail
  refine (C.out _).mono ?_
  rintro e w1 ⟨rfl, hw⟩
  subst hw
  go_wp2_with fail
  go_quiet (fail)
  go_wp2
  go_ret2
  exact ⟨rfl, _, rfl⟩
end Go.Proofs.YtmigdhohbjnhcaaDoor.ma
