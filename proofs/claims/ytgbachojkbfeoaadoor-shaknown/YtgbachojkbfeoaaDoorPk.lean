import Derived.Test.YtgbachojkbfeoaaDoorPj
namespace Go.Proofs.YtgbachojkbfeoaaDoor.pk
open Go.RowKit Go.PlainAid
open Go.Proofs.YtgbachojkbfeoaaDoor.pl Go.Proofs.YtgbachojkbfeoaaDoor.pa Go.Proofs.YtgbachojkbfeoaaDoor.pb Go.Proofs.YtgbachojkbfeoaaDoor.pc Go.Proofs.YtgbachojkbfeoaaDoor.pd Go.Proofs.YtgbachojkbfeoaaDoor.pe Go.Proofs.YtgbachojkbfeoaaDoor.pf Go.Proofs.YtgbachojkbfeoaaDoor.pg Go.Proofs.YtgbachojkbfeoaaDoor.ph Go.Proofs.YtgbachojkbfeoaaDoor.pi Go.Proofs.YtgbachojkbfeoaaDoor.ft Go.Proofs.YtgbachojkbfeoaaDoor.pj
set_option linter.unusedVariables false

-- a digit in hexadecimal, by its number
def D16 : ByteArray := ⟨#[48, 49, 50, 51, 52, 53, 54, 55, 56, 57, 97, 98, 99, 100, 101, 102]⟩
def dig (n : Nat) : Int := bt D16 n
def hexL (s : ByteArray) : Nat → List Int
  | 0 => []
  | k + 1 => hexL s k ++ [dig (bt s k / 16).toNat, dig (bt s k % 16).toNat]
theorem hexL_length (s : ByteArray) (k : Nat) : (hexL s k).length = 2 * k := by
  induction k with
  | zero => rfl
  | succ k ih => simp [hexL, ih]; omega
def hexF (s : ByteArray) : ByteArray := str (hexL s s.size)

theorem two_new (W : World) (a b : Value) (t : TypeId) : ∀ j u, [a, b][j]? = some u → (W.alloc (.cells #[a, b] t)).cell? ((⟨W.heap.size, 0, none⟩ : Addr).add j) = some u := by
  intro j u hj
  rw [Addr.add_mid, Nat.zero_add, World.cell?_alloc_at _ _ _ _ rfl]
  simpa using hj

set_option maxHeartbeats 800000 in
theorem hexa (s : ByteArray) (w : World) (hs : s.size ≤ 64) (h0 : 0 < s.size) :
    Calls Tryd.prog 15 #[.string s] w fun e w' => e = .returned (.string (hexF s)) ∧ Below w.heap.size w w' := by
  obtain ⟨i5, hi, hz0, hz1, hz2⟩ := info_parts info5
  have HIN : Hid (_ ∧ _ ∧ _ ∧ _) := ⟨hi, hz0, hz1, hz2⟩
  clear hi hz0 hz1 hz2
  go_enter Tryd.func15, Tryd.ntmps15
  go_wp2
  go_loopw [3, 4] (fun out i wr => ∃ k : Nat, k ≤ s.size ∧ i = .int .i64 k ∧ wr.ownsRow w.heap.size 5 1 out (2 * k) ((hexL s k).map (Value.int .u8)) ∧ Below w.heap.size w wr) (fun _ i _ => (s.size - intOf i).toNat)
  case atStart => exact ⟨0, by omega, rfl, World.ownsRow_nil _ _ _ _, Below.refl _ _⟩
  case round =>
    obtain ⟨k, hk, rfl, hown, hbel⟩ := hrel
    have HOWN : Hid (World.ownsRow _ _ _ _ _ _ _) := hown
    have HBEL : Hid (Below _ _ _) := hbel
    clear hown hbel
    by_cases hlt8 : k < s.size
    · have hlt' : (k : Int) < s.size := by omega
      have hk0 : (0 : Int) ≤ (k : Int) := by omega
      have hbt := get_bt s
      have b0 := bt_nonneg s k
      have b1 := bt_le s k
      obtain ⟨a, HAa⟩ : ∃ a : Nat, Hid (bt s k / 16 = (a : Int)) := ⟨(bt s k / 16).toNat, show _ = _ by omega⟩
      obtain ⟨b, HBb⟩ : ∃ b : Nat, Hid (bt s k % 16 = (b : Int)) := ⟨(bt s k % 16).toNat, show _ = _ by omega⟩
      have a16 : (a : Int) < 16 := by have := HAa.out; omega
      have b16 : (b : Int) < 16 := by have := HBb.out; omega
      have a0 : (0 : Int) ≤ (a : Int) := by omega
      have bb0 : (0 : Int) ≤ (b : Int) := by omega
      have a16' : a < 16 := by omega
      have b16' : b < 16 := by omega
      have wq : IntKind.u8.wrap ((bt s k).tdiv 16) = (a : Int) := by
        rw [Int.tdiv_eq_ediv_of_nonneg b0, IntKind.wrap_u8, HAa.out]; omega
      have wm : IntKind.u8.wrap ((bt s k).tmod 16) = (b : Int) := by
        rw [Int.tmod_eq_emod_of_nonneg b0, IntKind.wrap_u8, HBb.out]; omega
      have wm2 : (bt s k).tmod 16 = (b : Int) := by rw [Int.tmod_eq_emod_of_nonneg b0, HBb.out]
      have wm3 : bt s k % 16 = (b : Int) := HBb.out
      have wm4 : IntKind.u8.wrap (b : Int) = (b : Int) := by rw [IntKind.wrap_u8]; omega
      have hd : ∀ (n : Nat) (h : n < (⟨#[48, 49, 50, 51, 52, 53, 54, 55, 56, 57, 97, 98, 99, 100, 101, 102]⟩ : ByteArray).size), (((⟨#[48, 49, 50, 51, 52, 53, 54, 55, 56, 57, 97, 98, 99, 100, 101, 102]⟩ : ByteArray)[n]'h).toNat : Int) = dig n := get_bt D16
      have HX : Hid (hexL s (k + 1) = hexL s k ++ [dig a, dig b]) := by
        show hexL s k ++ [dig (bt s k / 16).toNat, dig (bt s k % 16).toNat] = _
        rw [HAa.out, HBb.out]; rfl
      go_wp2_with fail
      go_region_held3 (fun _ => True) (trivial) ((refine step_append_lies _ (by rfl) _ _ 45 (by rfl) w.heap.size 5 i5 (.int .u8 0) 1 1 Tryd.underlying45 HIN.out.1 HIN.out.2.1 HIN.out.2.2.1 HIN.out.2.2.2 rfl (by decide) _ _ _ (by rfl) (World.ownsRow.drew (HOWN.out.alloc _)) ⟨wr.heap.size, 0, none⟩ 2 2 [.int .u8 (dig a), .int .u8 (dig b)] (by rfl) rfl (two_new _ _ _ _) (fun u hu => by simp at hu; rcases hu with rfl | rfl <;> rfl) (by omega) (by unfold maxLen; omega) (by omega) (by have := HBEL.out.size; simp; omega) _ rfl ?_; intro g cap w3 hown' hgrow3 hlies hglt))
      all_goals (
        have HO3 : Hid (World.ownsRow _ _ _ _ _ _ _) := hown'
        have HB3 : Hid (Below w.heap.size w w3) := Below.grown ((HBEL.out.alloc HBEL.out.size _).drew) hgrow3 (by have := HBEL.out.size; simp; omega) (fun j hj => (HOWN.out.lt _ hj).1)
        clear hown' hgrow3 hlies hglt
        go_wp2
        go_roundw
        case rel =>
          refine ⟨k + 1, by omega, by go_num, ?_, HB3.out⟩
          rw [HX.out, List.map_append]
          exact HO3.out
        case measure => simp [intOf]; omega)
    · have hlt' : ¬ (k : Int) < s.size := by omega
      have e : k = s.size := by omega
      subst e
      have hcv := own_conv wr w.heap.size _ (hexL s s.size) (2 * s.size) (by rw [hexL_length]) (by omega) HOWN.out
      have ht : str (hexL s s.size) = hexF s := rfl
      rw [ht] at hcv
      clear ht
      go_wp2
      go_ret
      exact ⟨rfl, HBEL.out⟩
end Go.Proofs.YtgbachojkbfeoaaDoor.pk
