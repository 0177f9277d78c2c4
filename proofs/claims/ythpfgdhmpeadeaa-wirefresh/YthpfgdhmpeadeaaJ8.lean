import Derived.Test.YthpfgdhmpeadeaaJ7
import Derived.Test.YthpfgdhmpeadeaaJ2
import Derived.Test.YthpfgdhmpeadeaaJ5
import Derived.Laws.Strings2
import Derived.Deep.RegionHeldLaw
import Derived.Deep.DeepCutAuto
namespace Go.Proofs.Ythpfgdhmpeadeaa.e8
open Go.RowKit Go.PlainAid Go.Shelf
open Go.Proofs.Ythpfgdhmpeadeaa.ca Go.Proofs.Ythpfgdhmpeadeaa.cb Go.Proofs.Ythpfgdhmpeadeaa.cp Go.Proofs.Ythpfgdhmpeadeaa.ga Go.Proofs.Ythpfgdhmpeadeaa.kp Go.Proofs.Ythpfgdhmpeadeaa.na Go.Proofs.Ythpfgdhmpeadeaa.nb Go.Proofs.Ythpfgdhmpeadeaa.nc Go.Proofs.Ythpfgdhmpeadeaa.nh Go.Proofs.Ythpfgdhmpeadeaa.mi Go.Proofs.Ythpfgdhmpeadeaa.eb Go.Proofs.Ythpfgdhmpeadeaa.ec Go.Proofs.Ythpfgdhmpeadeaa.ee Go.Proofs.Ythpfgdhmpeadeaa.ef Go.Proofs.Ythpfgdhmpeadeaa.eg Go.Proofs.Ythpfgdhmpeadeaa.eh Go.Proofs.Ythpfgdhmpeadeaa.er Go.Proofs.Ythpfgdhmpeadeaa.es Go.Proofs.Ythpfgdhmpeadeaa.ka Go.Proofs.Ythpfgdhmpeadeaa.bn Go.Proofs.Ythpfgdhmpeadeaa.e1 Go.Proofs.Ythpfgdhmpeadeaa.e6 Go.Proofs.Ythpfgdhmpeadeaa.e7 Go.Proofs.Ythpfgdhmpeadeaa.ff
set_option linter.unusedVariables false

-- a number from 0 to n - 1 out of any
set_option maxHeartbeats 1600000 in
theorem pickC (x n : Int) (w : World) (h0 : -9223372036854775808 ≤ x) (h1 : x ≤ 9223372036854775807) (n1 : 1 ≤ n) (n2 : n ≤ 4611686018427387904) :
    Calls Try.prog 35 #[.int .i64 x, .int .i64 n] w fun e w' => e = .returned (.int .i64 (x % n)) ∧ w' = w := by
  have e1 := Int.emod_nonneg x (show n ≠ 0 by omega)
  have e2 := Int.emod_lt_of_pos x (show 0 < n by omega)
  have nz : ¬ n = 0 := by omega
  by_cases hp : 0 ≤ x
  · have ht : x.tmod n = x % n := Int.tmod_eq_emod_of_nonneg hp
    obtain ⟨y, HY⟩ : ∃ y, Hid (x % n = y) := ⟨_, rfl⟩
    rw [HY.out] at ht e1 e2 ⊢
    have hw : IntKind.i64.wrap y = y := by rw [IntKind.wrap_i64]; omega
    have q0 : ¬ y < 0 := by omega
    have q0' : decide (y < 0) = false := by simp; omega
    have ht2 : x % n = y := HY.out
    go_enter Try.func35, Try.ntmps35
    go_wp2
    go_ret
    exact ⟨rfl, rfl⟩
  · have ht : x.tmod n = x % n ∧ x % n = 0 ∨ x.tmod n = x % n - n := by
      rw [Int.tmod_eq_emod]
      split
      · rename_i h
        rcases h with h | h
        · omega
        · exact .inl ⟨by simp, Int.emod_eq_zero_of_dvd h⟩
      · right
        rw [show ((n.natAbs : Nat) : Int) = n by omega]
    obtain ⟨y, HY⟩ : ∃ y, Hid (x % n = y) := ⟨_, rfl⟩
    rw [HY.out] at ht e1 e2 ⊢
    clear HY
    rcases ht with ⟨ht, hy⟩ | ht
    · have hw : IntKind.i64.wrap y = y := by rw [IntKind.wrap_i64]; omega
      have q0 : ¬ y < 0 := by omega
      have q0' : decide (y < 0) = false := by simp; omega
      clear hy
      go_enter Try.func35, Try.ntmps35
      go_wp2
      go_ret
      exact ⟨rfl, rfl⟩
    · have hw : IntKind.i64.wrap (y - n) = y - n := by rw [IntKind.wrap_i64]; omega
      have q0 : y - n < 0 := by omega
      have q0' : decide (y - n < 0) = true := decide_eq_true q0
      have hw2 : y - n + n = y := by omega
      go_enter Try.func35, Try.ntmps35
      go_wp2
      go_ret
      exact ⟨rfl, rfl⟩

theorem one_text' (W : World) (x : ByteArray) : ReadsT (W.alloc (.cells #[.string x] 9)) (.slice (some ⟨W.heap.size, 0, none⟩) 1 1) [x] := by
  refine ⟨_, 1, rfl, Nat.le_refl _, .inr ⟨W.heap.size, 0, rfl, fun i hi => ?_⟩⟩
  have h0 : i = 0 := by simp at hi; omega
  subst h0
  rw [World.cell?_alloc_at _ _ _ _ rfl]
  rfl
theorem all_snoc {wd : Nat} {hs : List ByteArray} {x : ByteArray} (h : ∀ y ∈ hs, y.size = wd) (hx : x.size = wd) : ∀ y ∈ hs ++ [x], y.size = wd := by
  intro y hy
  rcases List.mem_append.1 hy with h1 | h1
  · exact h y h1
  · rw [List.mem_singleton] at h1; subst h1; exact hx
def strOf : Value → ByteArray
  | .string s => s
  | _ => ByteArray.empty
-- so many hashes out of texts
set_option maxRecDepth 100000 in
set_option maxHeartbeats 3200000 in
theorem filledC (n wd : Nat) (v : Value) (fr : List ByteArray) (w : World) (hR : ReadsT w v fr) (hn : n ≤ 70000) (h1 : 1 ≤ wd) (h2 : wd ≤ 32) (hs : ∀ x ∈ fr, x.size ≤ 140737488351232) (hz : fr.length ≤ 140737488351232) :
    Calls Try.prog 37 #[.int .i64 n, .int .i64 wd, v] w fun e w' => (∃ va c hs, e = .returned (.slice va n c) ∧ OwT w' w.heap.size (.slice va n c) hs ∧ hs.length = n ∧ ∀ x ∈ hs, x.size = wd) ∧ Below w.heap.size w w' := by
  have HFS : Hid (∀ j, j < fr.length → (fr.getD j ByteArray.empty).size ≤ 140737488351232) := fun j hj => hs _ (by rw [List.getD_eq_getElem?_getD, List.getElem?_eq_getElem hj]; exact List.getElem_mem _)
  have HRD : Hid (ReadsT w v fr) := hR
  obtain ⟨a, cap, rfl, hcap, hcl⟩ := hR
  have HCL : Hid (∀ (W : World), Below w.heap.size w W → ∀ k, k < fr.length → ∃ bb off, a = some ⟨bb, off, none⟩ ∧ W.cell? ⟨bb, off + k, none⟩ = some (.string (fr.getD k ByteArray.empty))) := fun W hW k hk => by
    rcases hcl with h | ⟨bb, off, ha, hc⟩
    · omega
    · have c := hc k hk
      exact ⟨bb, off, ha, (hW.cell (p := ⟨bb, off + k, none⟩) (World.block_lt_of_cell? _ _ c)).trans c⟩
  clear hcl hs
  obtain ⟨m, HM⟩ : ∃ m, Hid (fr.length = m) := ⟨_, rfl⟩
  rw [HM.out] at HFS HCL hcap hz ⊢
  go_enter Try.func37, Try.ntmps37
  go_wp2
  go_loopw [7, 8] (fun v i wr => ∃ (k : Nat) (hs : List ByteArray), k ≤ n ∧ i = .int .i64 k ∧ Hid (hs.length = k) ∧ Hid (∀ x ∈ hs, x.size = wd) ∧ Hid (OwT wr w.heap.size v hs ∧ Below w.heap.size w wr)) (fun _ i _ => (n - intOf i).toNat)
  case atStart => exact ⟨0, [], by omega, rfl, rfl, fun x hx => absurd hx (List.not_mem_nil), OwT.nil _ _, Below.refl _ _⟩
  case round =>
    obtain ⟨k, hs, hk, rfl, HK, HA, HH⟩ := hrel
    obtain ⟨oa, oc, hv⟩ := HH.out.1.form
    rw [HK.out] at hv
    subst hv
    obtain ⟨wo, hwo⟩ : ∃ wo, wo = wr := ⟨_, rfl⟩
    subst hwo
    have HO : Hid (OwT wo w.heap.size (.slice oa k oc) hs) := HH.out.1
    have HB : Hid (Below w.heap.size w wo) := HH.out.2
    clear HH
    have hu8 : IntKind.u8.wrap (k : Int) = (k : Int) % 256 := by rw [IntKind.wrap_u8]
    by_cases hlt : k < n
    · have hlt' : (k : Int) < n := by omega
      by_cases hm : m = 0
      · obtain ⟨S0, HS⟩ : ∃ S0 : ByteArray, Hid (S0 = (⟨#[]⟩ : ByteArray)) := ⟨_, rfl⟩
        have HS0 : Hid (S0.size ≤ 140737488351232) := by rw [HS.out]; show (0 : Nat) ≤ _; omega
        have qm : decide ((0 : Int) < (m : Int)) = false := by simp; omega
        have qm2 : ¬ (0 : Int) < m := by omega
        have qm3 : decide (0 < m) = false := by simp; omega
        clear hm
        go_wp2
        rw [← HS.out]
        clear HS
        go_loopw [9] (fun s w3 => ∃ S : ByteArray, s = .string S ∧ Hid (S.size ≤ 140737488351232) ∧ Hid (OwT w3 w.heap.size (.slice oa k oc) hs ∧ Below w.heap.size w w3)) (fun s _ => wd - (strOf s).size)
        case atStart => exact ⟨S0, rfl, HS0.out, HO.out, HB.out⟩
        case round =>
          obtain ⟨S, rfl, HSS, HR3⟩ := hrel
          have hss := HSS.out
          have OR : Hid (OwT wr w.heap.size (.slice oa k oc) hs) := HR3.out.1
          have BR : Hid (Below w.heap.size w wr) := HR3.out.2
          clear HR3
          by_cases hsw : S.size < wd
          · have hsw' : (S.size : Int) < wd := by omega
            have hcv := conv_one wr ((k : Int) % 256)
            have hst : (str [(k : Int) % 256]).size = 1 := str_size _
            have HZ : Hid ((S ++ str [(k : Int) % 256]).size = S.size + 1) := by show _ = _; rw [ByteArray.size_append, hst]
            go_wp2
            go_roundw
            case rel => exact ⟨S ++ str [(k : Int) % 256], rfl, by have := HZ.out; show _ ≤ _; omega, OR.out.later ((Below.refl _ _).alloc (Nat.le_refl _) _), BR.out.alloc BR.out.size _⟩
            case measure => show wd - (S ++ str [(k : Int) % 256]).size < wd - S.size; have := HZ.out; omega
          · have hsw' : ¬ (S.size : Int) < wd := by omega
            have hsw2 : (wd : Int) ≤ S.size := by omega
            have HX : Hid ((S.extract 0 wd).size = wd) := by show _ = _; rw [ByteArray.size_extract]; omega
            have OA : Hid (OwT (wr.alloc (.cells #[.string (S.extract 0 wd)] 9)) w.heap.size (.slice oa k oc) hs) := OR.out.later ((Below.refl _ _).alloc (Nat.le_refl _) _)
            have RA : Hid (ReadsT (wr.alloc (.cells #[.string (S.extract 0 wd)] 9)) (.slice (some ⟨wr.heap.size, 0, none⟩) 1 1) [S.extract 0 wd]) := one_text' wr _
            have BA : Hid (Below w.heap.size w (wr.alloc (.cells #[.string (S.extract 0 wd)] 9))) := BR.out.alloc BR.out.size _
            go_wp2_with (at_builtin; refine wpList_appA rfl _ _ rfl w.heap.size (.slice oa k oc) (.slice (some ⟨wr.heap.size, 0, none⟩) 1 1) hs [S.extract 0 wd] rfl OA.out rfl RA.out (fun k c e => absurd (Value.slice.inj e).1 (by simp)) (by have := HK.out; simp only [List.length_cons, List.length_nil]; omega) BA.out.size ?_; intro v5 w5 o5 b5; have O5 : Hid (OwT w5 w.heap.size v5 (hs ++ [S.extract 0 wd])) := o5; have B5 : Hid (Below w.heap.size w w5) := BA.out.trans b5; clear o5 b5)
            go_roundw
            case rel => exact ⟨k + 1, hs ++ [S.extract 0 wd], by omega, by go_num, by rw [List.length_append, HK.out]; rfl, all_snoc HA.out HX.out, O5.out, B5.out⟩
            case measure => simp [intOf]; omega
      · have hr := Nat.mod_lt k (show 0 < m by omega)
        obtain ⟨bb, off, ha, hc⟩ := HCL.out wo HB.out (k % m) hr
        have hsz := HFS.out (k % m) hr
        subst ha
        obtain ⟨S0, HS⟩ : ∃ S0 : ByteArray, Hid (fr.getD (k % m) ByteArray.empty = S0) := ⟨_, rfl⟩
        rw [HS.out] at hc hsz
        have HS0 : Hid (S0.size ≤ 140737488351232) := hsz
        have qm : (0 : Int) < (m : Int) := by omega
        have qz : ¬ (m : Int) = 0 := by omega
        have qr : (k : Int).tmod (m : Int) = ((k % m : Nat) : Int) := by rw [Int.tmod_eq_emod_of_nonneg (by omega)]; rfl
        have qr1 : (k : Int) % (m : Int) = ((k % m : Nat) : Int) := rfl
        have qr2 : ((k % m : Nat) : Int) < m := by omega
        have qr3 : IntKind.i64.wrap ((k % m : Nat) : Int) = ((k % m : Nat) : Int) := by rw [IntKind.wrap_i64]; omega
        clear hm hr hsz
        obtain ⟨r, HRR⟩ : ∃ r, Hid (k % m = r) := ⟨_, rfl⟩
        rw [HRR.out] at qr qr1 qr2 qr3 hc
        go_wp2
        go_loopw [9] (fun s w3 => ∃ S : ByteArray, s = .string S ∧ Hid (S.size ≤ 140737488351232) ∧ Hid (OwT w3 w.heap.size (.slice oa k oc) hs ∧ Below w.heap.size w w3)) (fun s _ => wd - (strOf s).size)
        case atStart => exact ⟨S0, rfl, HS0.out, HO.out, HB.out⟩
        case round =>
          obtain ⟨S, rfl, HSS, HR3⟩ := hrel
          have hss := HSS.out
          have OR : Hid (OwT wr w.heap.size (.slice oa k oc) hs) := HR3.out.1
          have BR : Hid (Below w.heap.size w wr) := HR3.out.2
          clear HR3
          by_cases hsw : S.size < wd
          · have hsw' : (S.size : Int) < wd := by omega
            have hcv := conv_one wr ((k : Int) % 256)
            have hst : (str [(k : Int) % 256]).size = 1 := str_size _
            have HZ : Hid ((S ++ str [(k : Int) % 256]).size = S.size + 1) := by show _ = _; rw [ByteArray.size_append, hst]
            go_wp2
            go_roundw
            case rel => exact ⟨S ++ str [(k : Int) % 256], rfl, by have := HZ.out; show _ ≤ _; omega, OR.out.later ((Below.refl _ _).alloc (Nat.le_refl _) _), BR.out.alloc BR.out.size _⟩
            case measure => show wd - (S ++ str [(k : Int) % 256]).size < wd - S.size; have := HZ.out; omega
          · have hsw' : ¬ (S.size : Int) < wd := by omega
            have hsw2 : (wd : Int) ≤ S.size := by omega
            have HX : Hid ((S.extract 0 wd).size = wd) := by show _ = _; rw [ByteArray.size_extract]; omega
            have OA : Hid (OwT (wr.alloc (.cells #[.string (S.extract 0 wd)] 9)) w.heap.size (.slice oa k oc) hs) := OR.out.later ((Below.refl _ _).alloc (Nat.le_refl _) _)
            have RA : Hid (ReadsT (wr.alloc (.cells #[.string (S.extract 0 wd)] 9)) (.slice (some ⟨wr.heap.size, 0, none⟩) 1 1) [S.extract 0 wd]) := one_text' wr _
            have BA : Hid (Below w.heap.size w (wr.alloc (.cells #[.string (S.extract 0 wd)] 9))) := BR.out.alloc BR.out.size _
            go_wp2_with (at_builtin; refine wpList_appA rfl _ _ rfl w.heap.size (.slice oa k oc) (.slice (some ⟨wr.heap.size, 0, none⟩) 1 1) hs [S.extract 0 wd] rfl OA.out rfl RA.out (fun k c e => absurd (Value.slice.inj e).1 (by simp)) (by have := HK.out; simp only [List.length_cons, List.length_nil]; omega) BA.out.size ?_; intro v5 w5 o5 b5; have O5 : Hid (OwT w5 w.heap.size v5 (hs ++ [S.extract 0 wd])) := o5; have B5 : Hid (Below w.heap.size w w5) := BA.out.trans b5; clear o5 b5)
            go_roundw
            case rel => exact ⟨k + 1, hs ++ [S.extract 0 wd], by omega, by go_num, by rw [List.length_append, HK.out]; rfl, all_snoc HA.out HX.out, O5.out, B5.out⟩
            case measure => simp [intOf]; omega
    · have hlt' : ¬ (k : Int) < n := by omega
      have hkn : k = n := by omega
      subst hkn
      go_wp2
      go_ret
      exact ⟨⟨oa, oc, rfl, hs, HO.out, HK.out, HA.out⟩, HB.out⟩
end Go.Proofs.Ythpfgdhmpeadeaa.e8

namespace Go.Proofs.Ythpfgdhmpeadeaa.e9
open Go.RowKit Go.PlainAid Go.Shelf
open Go.Proofs.Ythpfgdhmpeadeaa.ca Go.Proofs.Ythpfgdhmpeadeaa.cb Go.Proofs.Ythpfgdhmpeadeaa.cp Go.Proofs.Ythpfgdhmpeadeaa.ga Go.Proofs.Ythpfgdhmpeadeaa.kp Go.Proofs.Ythpfgdhmpeadeaa.na Go.Proofs.Ythpfgdhmpeadeaa.nb Go.Proofs.Ythpfgdhmpeadeaa.nc Go.Proofs.Ythpfgdhmpeadeaa.nh Go.Proofs.Ythpfgdhmpeadeaa.mi Go.Proofs.Ythpfgdhmpeadeaa.co Go.Proofs.Ythpfgdhmpeadeaa.cn Go.Proofs.Ythpfgdhmpeadeaa.eb Go.Proofs.Ythpfgdhmpeadeaa.ec Go.Proofs.Ythpfgdhmpeadeaa.ee Go.Proofs.Ythpfgdhmpeadeaa.ef Go.Proofs.Ythpfgdhmpeadeaa.eg Go.Proofs.Ythpfgdhmpeadeaa.eh Go.Proofs.Ythpfgdhmpeadeaa.ei Go.Proofs.Ythpfgdhmpeadeaa.eo Go.Proofs.Ythpfgdhmpeadeaa.ep Go.Proofs.Ythpfgdhmpeadeaa.eq Go.Proofs.Ythpfgdhmpeadeaa.er Go.Proofs.Ythpfgdhmpeadeaa.es Go.Proofs.Ythpfgdhmpeadeaa.ka Go.Proofs.Ythpfgdhmpeadeaa.bn Go.Proofs.Ythpfgdhmpeadeaa.lh Go.Proofs.Ythpfgdhmpeadeaa.e1 Go.Proofs.Ythpfgdhmpeadeaa.e2 Go.Proofs.Ythpfgdhmpeadeaa.e5 Go.Proofs.Ythpfgdhmpeadeaa.e6 Go.Proofs.Ythpfgdhmpeadeaa.e7 Go.Proofs.Ythpfgdhmpeadeaa.e8 Go.Proofs.Ythpfgdhmpeadeaa.ff
set_option linter.unusedVariables false
theorem own_not2 {w w' : World} {B p t s n : Nat} {v : Value} {xs : List Value} (h : w.ownsRow B t s v n xs) (k : Kp (fun q => q = p) w w') (hp : p < B) : w'.ownsRow B t s v n xs :=
  own_not h k (fun j hj => by have := (World.ownsRow.lt h j hj).1; omega)
theorem scan_zero (f : Nat → Int) (m : Nat) : ∀ k, (∀ j, k ≤ j → j < k + m → f j = 0) → scan f m k = 0 := by
  induction m with
  | zero => intro k _; rfl
  | succ m ih =>
    intro k h
    rw [scan, if_pos (h k (Nat.le_refl _) (by omega))]
    exact ih (k + 1) (fun j h1 h2 => h j (by omega) (by omega))
def Ok4 (ys : List Int) (n : Int) : Prop := (∀ j, j < ys.length → 0 ≤ ys.getD j 0 ∧ ys.getD j 0 < n) ∧ (∀ j, j + 1 < ys.length → ys.getD j 0 < ys.getD (j + 1) 0)
theorem Ok4.nil (n : Int) : Ok4 [] n := ⟨fun j h => absurd h (by simp), fun j h => absurd h (by simp)⟩
theorem Ok4.snoc {ys : List Int} {n y : Int} (h : Ok4 ys n) (h0 : 0 ≤ y) (h1 : y < n) (hl : ∀ j, j + 1 = ys.length → ys.getD j 0 < y) : Ok4 (ys ++ [y]) n := by
  have g1 : ∀ j, j < ys.length → (ys ++ [y]).getD j 0 = ys.getD j 0 := fun j hj => by
    rw [List.getD_eq_getElem?_getD, List.getD_eq_getElem?_getD, List.getElem?_append_left hj]
  have g2 : (ys ++ [y]).getD ys.length 0 = y := by
    rw [List.getD_eq_getElem?_getD, List.getElem?_append_right (Nat.le_refl _), Nat.sub_self]
    rfl
  refine ⟨fun j hj => ?_, fun j hj => ?_⟩
  · rw [List.length_append, List.length_singleton] at hj
    by_cases h2 : j < ys.length
    · rw [g1 j h2]; exact h.1 j h2
    · obtain rfl : j = ys.length := by omega
      rw [g2]; exact ⟨h0, h1⟩
  · rw [List.length_append, List.length_singleton] at hj
    by_cases h2 : j + 1 < ys.length
    · rw [g1 j (by omega), g1 (j + 1) h2]; exact h.2 j h2
    · have h3 : j + 1 = ys.length := by omega
      rw [g1 j (by omega), h3, g2]; exact hl j h3
theorem Ok4.ref {ys : List Int} {n : Int} (h : Ok4 ys n) (h1 : 1 ≤ ys.length) (h2 : ys.length ≤ 1024) (n1 : 1 ≤ n) (n2 : n ≤ 4611686018427387904) : ref9 4 0 0 n ys = 0 := by
  unfold ref9
  rw [if_neg (by omega), if_neg (by omega), if_neg (by decide), if_neg (by decide), if_neg (by decide)]
  unfold places
  rw [if_neg (by omega), if_neg (by omega)]
  refine scan_zero _ _ _ (fun j _ hj => ?_)
  have hh := h.1 j (by omega)
  unfold bad
  rw [if_neg (by omega), if_neg (by omega), if_neg]
  rintro ⟨p0, p1⟩
  have := h.2 (j - 1) (by omega)
  rw [show j - 1 + 1 = j by omega] at this
  omega
theorem ref1 {a n : Int} (n1 : 1 ≤ n) (n2 : n ≤ 4611686018427387904) (a0 : 0 ≤ a) (a1 : a < n) : ref9 1 a 0 n [] = 0 := by
  unfold ref9
  rw [if_neg (by omega), if_neg (by omega), if_pos rfl, if_neg (by omega)]
theorem ref2 {a n : Int} (n1 : 1 ≤ n) (n2 : n ≤ 4611686018427387904) (a0 : 0 ≤ a) (a1 : a < n) : ref9 2 a 0 n [] = 0 := by
  unfold ref9
  rw [if_neg (by omega), if_neg (by omega), if_neg (by decide), if_pos rfl, if_neg (by omega)]
theorem ref3 {a b n : Int} (n1 : 1 ≤ n) (n2 : n ≤ 4611686018427387904) (a0 : 0 ≤ a) (a1 : a < b) (b1 : b ≤ n) : ref9 3 a b n [] = 0 := by
  unfold ref9
  rw [if_neg (by omega), if_neg (by omega), if_neg (by decide), if_neg (by decide), if_pos rfl, if_neg (by omega)]
theorem one_new (W : World) (x : Int) : ReadsI (W.alloc (.cells #[.int .i64 x] 3)) (.slice (some ⟨W.heap.size, 0, none⟩) 1 1) [x] := one_int W x _
-- what fitted gives
def Fit (w : World) (e : Ending) (w' : World) : Prop :=
  (∃ (k wd a b n : Int) (xs : List Int) (hs : List ByteArray) (va : Option Addr) (vl vc : Nat) (ha : Option Addr) (hl hc : Nat), e = .returned (.tuple #[.agg #[.int .i64 k, .int .i64 wd, .int .i64 a, .int .i64 b, .int .i64 n, .slice va vl vc, .slice ha hl hc], .bool true]) ∧ Valid k wd a b n xs hs ∧ OwI w' w.heap.size (.slice va vl vc) xs ∧ OwT w' w.heap.size (.slice ha hl hc) hs) ∧ Below w.heap.size w w'
set_option maxRecDepth 100000 in
set_option maxHeartbeats 12800000 in
theorem fittedC (k wd a b n : Int) (va ha : Option Addr) (L vc hl hc : Nat) (xs : List Int) (hs : List ByteArray) (w : World) (i0 : i64 k) (i1 : i64 wd) (i2 : i64 a) (i3 : i64 b) (i4 : i64 n) (hR : ReadsI w (.slice va L vc) xs) (hx : ∀ x ∈ xs, i64 x) (hzI : xs.length * 8 ≤ 140737488351232) (hT : ReadsT w (.slice ha hl hc) hs) (hsz : ∀ x ∈ hs, x.size ≤ 140737488351232) (hzT : hs.length * 16 ≤ 140737488351232) :
    Calls Try.prog 12 #[.agg #[.int .i64 k, .int .i64 wd, .int .i64 a, .int .i64 b, .int .i64 n, .slice va L vc, .slice ha hl hc]] w (Fit w) := by
  have PK : Hid (∀ (x m : Int) (w : World), i64 x → 1 ≤ m → m ≤ 4611686018427387904 → Calls Try.prog 35 #[.int .i64 x, .int .i64 m] w fun e w' => e = .returned (.int .i64 (x % m)) ∧ w' = w) := fun x m w h h1 h2 => pickC x m w h.1 h.2 h1 h2
  have I0 : Hid (i64 k) := i0
  have I1 : Hid (i64 wd) := i1
  have I2 : Hid (i64 a) := i2
  have I3 : Hid (i64 b) := i3
  have I4 : Hid (i64 n) := i4
  have HL : L = xs.length := by obtain ⟨_, _, e, _⟩ := hR; exact (Value.slice.inj e).2.1
  have hLb : (L : Int) ≤ 17592186043904 := by omega
  have HSZ : Hid (∀ x ∈ hs, x.size ≤ 140737488351232) := hsz
  have HZT : Hid (hs.length * 16 ≤ 140737488351232) := hzT
  obtain ⟨W1, HW1⟩ : ∃ W1, Hid (W1 = (w.alloc (.cells #[.int .i64 k, .int .i64 wd, .int .i64 a, .int .i64 b, .int .i64 n, .slice va L vc, .slice ha hl hc] 25)).alloc (.cells #[.int .i64 0, .int .i64 0, .int .i64 0, .int .i64 0, .int .i64 0, .slice none 0 0, .slice none 0 0] 25)) := ⟨_, rfl⟩
  have hp1 : W1.heap[w.heap.size]? = some (.cells #[.int .i64 k, .int .i64 wd, .int .i64 a, .int .i64 b, .int .i64 n, .slice va L vc, .slice ha hl hc] 25 (0, 0)) := by rw [HW1.out]; exact (Below.heap_alloc _ _ _ (by simp)).trans (heap_alloc_new w _)
  have hr1 : W1.heap[w.heap.size + 1]? = some (.cells #[.int .i64 0, .int .i64 0, .int .i64 0, .int .i64 0, .int .i64 0, .slice none 0 0, .slice none 0 0] 25 (0, 0)) := by
    rw [HW1.out]
    have h := heap_alloc_new (w.alloc (.cells #[.int .i64 k, .int .i64 wd, .int .i64 a, .int .i64 b, .int .i64 n, .slice va L vc, .slice ha hl hc] 25)) (.cells #[.int .i64 0, .int .i64 0, .int .i64 0, .int .i64 0, .int .i64 0, .slice none 0 0, .slice none 0 0] 25)
    rw [show (w.alloc (.cells #[.int .i64 k, .int .i64 wd, .int .i64 a, .int .i64 b, .int .i64 n, .slice va L vc, .slice ha hl hc] 25)).heap.size = w.heap.size + 1 by simp] at h
    exact h
  have B01 : Hid (Below w.heap.size w W1) := by rw [HW1.out]; exact ((Below.refl _ _).alloc (Nat.le_refl _) _).alloc (by simp) _
  have HW1S : Hid (W1.heap.size = w.heap.size + 2) := by show _ = _; rw [HW1.out]; simp
  have PB : Hid (∀ w', Below W1.heap.size W1 w' → _) := fun w' h => seven ((h.block _ (Array.getElem?_eq_some_iff.1 hp1).1).trans hp1)
  have PR : Hid (∀ w', Below W1.heap.size W1 w' → w'.heap[w.heap.size + 1]? = some (.cells #[.int .i64 0, .int .i64 0, .int .i64 0, .int .i64 0, .int .i64 0, .slice none 0 0, .slice none 0 0] 25 (0, 0))) := fun w' h => (h.block _ (Array.getElem?_eq_some_iff.1 hr1).1).trans hr1
  have RTW : Hid (ReadsT W1 (.slice ha hl hc) hs) := hT.later B01.out
  have RIW : Hid (ReadsI W1 (.slice va L vc) xs) := hR.later B01.out
  have HEL : Hid (∀ (W : World), Below W1.heap.size W1 W → ∀ j, j < L → ∃ bb off, va = some ⟨bb, off, none⟩ ∧ W.cell? ⟨bb, off + j, none⟩ = some (.int .i64 (xs.getD j 0))) := fun W hW j hj => by
    obtain ⟨a', cap', e, _, h⟩ := RIW.out
    have e1 := (Value.slice.inj e).1
    rcases h with h | ⟨bb, off, ha, hc⟩
    · omega
    · have c := hc j (by omega)
      exact ⟨bb, off, by rw [e1, ha], (hW.cell (p := ⟨bb, off + j, none⟩) (World.block_lt_of_cell? _ _ c)).trans c⟩
  have HXI : Hid (∀ j, j < L → i64 (xs.getD j 0)) := fun j hj => hx _ (by rw [List.getD_eq_getElem?_getD, List.getElem?_eq_getElem (show j < xs.length by omega)]; exact List.getElem_mem _)
  have hcapL : L ≤ vc := by obtain ⟨_, _, e, h, _⟩ := hR; have e1 := (Value.slice.inj e); omega
  have e1 := Int.emod_nonneg k (show (4 : Int) ≠ 0 by decide)
  have e2 := Int.emod_lt_of_pos k (show (0 : Int) < 4 by decide)
  have e3 := Int.emod_nonneg wd (show (32 : Int) ≠ 0 by decide)
  have e4 := Int.emod_lt_of_pos wd (show (0 : Int) < 32 by decide)
  have e5 := Int.emod_nonneg n (show (4611686018427387904 : Int) ≠ 0 by decide)
  have e6 := Int.emod_lt_of_pos n (show (0 : Int) < 4611686018427387904 by decide)
  have g1 : IntKind.i64.wrap (1 + k % 4) = 1 + k % 4 := by rw [IntKind.wrap_i64]; omega
  have g2 : IntKind.i64.wrap (1 + wd % 32) = 1 + wd % 32 := by rw [IntKind.wrap_i64]; omega
  have g3 : IntKind.i64.wrap (1 + n % 4611686018427387904) = 1 + n % 4611686018427387904 := by rw [IntKind.wrap_i64]; omega
  have PB3 : Hid (∀ w', Below W1.heap.size W1 w' → w'.cell? ⟨w.heap.size, 0, none⟩ = some (.int .i64 k) ∧ w'.cell? ⟨w.heap.size, 1, none⟩ = some (.int .i64 wd) ∧ w'.cell? ⟨w.heap.size, 4, none⟩ = some (.int .i64 n)) := fun w' h => by
    obtain ⟨z0, z1, _, _, z4, _⟩ := PB.out w' h
    exact ⟨z0, z1, z4⟩
  have BD : Hid (Below W1.heap.size W1 W1.drew) := below_dr (Below.refl _ _)
  have BA : Hid (∀ o, Below W1.heap.size W1 ((W1.alloc o).drew)) := fun o => below_dr ((Below.refl _ _).alloc (Nat.le_refl _) _)
  have BS : Hid (∀ x0 x1 x2 x3 x4 x5 x6, Below W1.heap.size W1 (((((((((W1.alloc (.cells #[.int .i64 0, .int .i64 0, .int .i64 0, .int .i64 0, .int .i64 0, .slice none 0 0, .slice none 0 0] 25)).drew).setCell ⟨W1.heap.size, 0, none⟩ x0).setCell ⟨W1.heap.size, 1, none⟩ x1).setCell ⟨W1.heap.size, 2, none⟩ x2).setCell ⟨W1.heap.size, 3, none⟩ x3).setCell ⟨W1.heap.size, 4, none⟩ x4).setCell ⟨W1.heap.size, 5, none⟩ x5).setCell ⟨W1.heap.size, 6, none⟩ x6)) := fun x0 x1 x2 x3 x4 x5 x6 => ((((((((BA.out _).setCell (Nat.le_refl _) _).setCell (Nat.le_refl _) _).setCell (Nat.le_refl _) _).setCell (Nat.le_refl _) _).setCell (Nat.le_refl _) _).setCell (Nat.le_refl _) _).setCell (Nat.le_refl _) _)
  have HV0 : Hid (((W1.alloc (.cells #[.int .i64 (1 + k % 4), .int .i64 (1 + wd % 32), .int .i64 0, .int .i64 0, .int .i64 (1 + n % 4611686018427387904), .slice none 0 0, .slice none 0 0] 25)).drew).heap[W1.heap.size]? = some (.cells #[.int .i64 (1 + k % 4), .int .i64 (1 + wd % 32), .int .i64 0, .int .i64 0, .int .i64 (1 + n % 4611686018427387904), .slice none 0 0, .slice none 0 0] 25 (0, 0))) := heap_alloc_new W1 _
  clear hp1 hr1 i0 i1 i2 i3 i4 hx hsz hzT hR hT hzI HL
  go_enter Try.func12, Try.ntmps12
  go_upto_region 1 with fail
  rw [← HW1.out]
  clear HW1
  go_cut [4] (fun q wx => q = .pointer (some ⟨W1.heap.size, 0, none⟩) ∧ Hid (wx = (W1.alloc (.cells #[.int .i64 (1 + k % 4), .int .i64 (1 + wd % 32), .int .i64 0, .int .i64 0, .int .i64 (1 + n % 4611686018427387904), .slice none 0 0, .slice none 0 0] 25)).drew))
  case first =>
    go_region_held_law (fun w' => w'.cell? ⟨w.heap.size, 0, none⟩ = some (.int .i64 k) ∧ w'.cell? ⟨w.heap.size, 1, none⟩ = some (.int .i64 wd) ∧ w'.cell? ⟨w.heap.size, 4, none⟩ = some (.int .i64 n)) (first | exact PB3.out _ BD.out | exact PB3.out _ (BA.out _) | exact PB3.out _ (BS.out _ _ _ _ _ _ _)) ((go_at_call 35; refine (PK.out _ _ _ (by first | exact I0.out | exact I1.out | exact I4.out) (by decide) (by decide)).mono ?_; rintro _ wz ⟨rfl, hz⟩; rw [hz]; clear hz))
    all_goals (
      go_wp2_with fail
      go_meet
      exact ⟨rfl, rfl⟩)
  case rest =>
    obtain ⟨rfl, HWC⟩ := hcut
    have HQ0 : Hid (wc.heap[W1.heap.size]? = some (.cells #[.int .i64 (1 + k % 4), .int .i64 (1 + wd % 32), .int .i64 0, .int .i64 0, .int .i64 (1 + n % 4611686018427387904), .slice none 0 0, .slice none 0 0] 25 (0, 0))) := by rw [HWC.out]; exact HV0.out
    have B2 : Hid (Below W1.heap.size W1 wc) := by rw [HWC.out]; exact BA.out _
    clear HWC BS BA BD PB3 HV0 g1 g2 g3
    obtain ⟨wq, hwq⟩ : ∃ m : Nat, 1 + wd % 32 = m := ⟨(1 + wd % 32).toNat, by omega⟩
    obtain ⟨nq, hnq⟩ : ∃ m : Int, 1 + n % 4611686018427387904 = m := ⟨_, rfl⟩
    have hw1 : 1 ≤ wq := by omega
    have hw2 : wq ≤ 32 := by omega
    have hn1 : 1 ≤ nq := by omega
    have hn2 : nq ≤ 4611686018427387904 := by omega
    rw [hwq, hnq] at HQ0
    clear hwq hnq e3 e4 e5 e6
    have a0 := Int.emod_nonneg a (show nq ≠ 0 by omega)
    have a1 := Int.emod_lt_of_pos a (show 0 < nq by omega)
    obtain ⟨aq, HAQ⟩ : ∃ y, Hid (a % nq = y) := ⟨_, rfl⟩
    rw [HAQ.out] at a0 a1
    have PA : Hid (∀ w : World, Calls _ _ _ _ _) := fun w => PK.out a nq w I2.out hn1 hn2
    rw [HAQ.out] at PA
    obtain ⟨c0, c1, c2, c3, c4, c5, c6⟩ := PB.out wc B2.out
    have hk4 : k % 4 = 0 ∨ k % 4 = 1 ∨ k % 4 = 2 ∨ k % 4 = 3 := by omega
    clear e1 e2
    rcases hk4 with hk | hk | hk | hk
    · have hQ : wc.heap[W1.heap.size]? = some (.cells #[.int .i64 1, .int .i64 (wq : Int), .int .i64 0, .int .i64 0, .int .i64 nq, .slice none 0 0, .slice none 0 0] 25 (0, 0)) := by have h := HQ0.out; rw [hk] at h; exact h
      have HQ : Hid _ := hQ
      obtain ⟨qv0, qv1, qv2, qv3, qv4, qv5, qv6⟩ := seven hQ
      have fz2 := frozen_of_row _ _ 2 _ _ hQ
      clear HQ0 hk hQ
      go_upto_region 21 with (go_at_call 35; refine (PA.out _).mono ?_; rintro _ wz ⟨rfl, hz⟩; rw [hz]; clear hz)
      obtain ⟨WT, HWT⟩ : ∃ WT, WT = wc.setCell ⟨W1.heap.size, 2, none⟩ (.int .i64 aq) := ⟨_, rfl⟩
      have HQT : Hid (WT.heap[W1.heap.size]? = some (.cells #[.int .i64 1, .int .i64 (wq : Int), .int .i64 aq, .int .i64 0, .int .i64 nq, .slice none 0 0, .slice none 0 0] 25 (0, 0))) := by rw [HWT]; exact heap_setCell_same _ _ 2 _ _ _ HQ.out
      have BT : Hid (Below W1.heap.size W1 WT) := by rw [HWT]; exact B2.out.setCell (Nat.le_refl _) _
      rw [← HWT]
      clear HWT qv0 qv1 qv2 qv3 qv4 qv5 qv6 c0 c1 c2 c3 c4 c5 c6 fz2
      have OIT : Hid (OwI WT W1.heap.size (.slice none 0 0) []) := OwI.nil _ _
      have RIT : Hid (ReadsI WT (.slice none 0 0) []) := OIT.out.reads
      have HXL2 : Hid (([] : List Int).length ≤ 1024) := by show 0 ≤ 1024; omega
      have HRF : Hid (ref9 1 aq 0 nq [] = 0) := ref1 hn1 hn2 a0 a1
      have HBR : Hid (bareP 1 aq 0 []) := ⟨rfl, rfl⟩
      have CC : Hid (Calls _ _ _ _ _) := countC 1 aq 0 nq (.slice none 0 0) [] WT RIT.out (by have := HXL2.out; omega)
      have HNL := num_le HRF.out
      rw [show cnt9 1 aq 0 nq [] = (((num9 1 aq 0 nq [] : Nat) : Int), 0) by unfold cnt9; rw [if_pos HRF.out]] at CC
      obtain ⟨nu, HNU⟩ : ∃ r, Hid (num9 1 aq 0 nq [] = r) := ⟨num9 1 aq 0 nq [], (by unfold Hid; exact Eq.refl _)⟩
      rw [HNU.out] at CC HNL
      have gn1 : ¬ (nu : Int) < 0 := by omega
      have gn2 : ¬ (70000 : Int) < nu := by omega
      have gn3 : decide ((nu : Int) < 0) = false := by simp
      have gn4 : decide ((70000 : Int) < (nu : Int)) = false := by simp; omega
      obtain ⟨qv0, qv1, qv2, qv3, qv4, qv5, qv6⟩ := seven HQT.out
      have FC : Hid (∀ W', Below W1.heap.size W1 W' → Calls _ _ _ (W' : World) _) := fun W' h => filledC nu wq (.slice ha hl hc) hs W' (RTW.out.later h) (by omega) (by omega) (by omega) HSZ.out (by have := HZT.out; omega)
      go_upto_region 24 with (first
        | (go_at_call 36; refine CC.out.mono ?_; rintro _ w5 ⟨rfl, k5⟩; have B5 : Hid (Below WT.heap.size WT w5) := k5; clear k5)
        | (go_at_call 9; refine (num 0 _).mono ?_; rintro _ wz ⟨rfl, hz⟩; rw [hz]; clear hz))
      have BT5 : Hid (Below W1.heap.size W1 w5) := below2 BT.out B5.out (Nat.le_refl _)
      have hq5 : w5.heap[W1.heap.size]? = some (.cells #[.int .i64 1, .int .i64 (wq : Int), .int .i64 aq, .int .i64 0, .int .i64 nq, .slice none 0 0, .slice none 0 0] 25 (0, 0)) := (B5.out.block _ (Array.getElem?_eq_some_iff.1 HQT.out).1).trans HQT.out
      have HQ5 : Hid _ := hq5
      clear qv0 qv1 qv2 qv3 qv4 qv5 qv6 CC gn1 gn2 gn3 gn4
      obtain ⟨qv0, qv1, qv2, qv3, qv4, qv5, qv6⟩ := seven hq5
      obtain ⟨c0, c1, c2, c3, c4, c5, c6⟩ := PB.out w5 BT5.out
      clear hq5
      go_upto_region 25 with (go_at_call 37; refine (FC.out _ BT5.out).mono ?_; rintro _ w6 ⟨⟨fa, fc, fs, rfl, o6, l6, z6⟩, k6⟩; have O6 : Hid (OwT w6 w5.heap.size (.slice fa nu fc) fs) := o6; have L6 : Hid (fs.length = nu ∧ ∀ x ∈ fs, x.size = wq) := ⟨l6, z6⟩; have B6 : Hid (Below w5.heap.size w5 w6) := k6; have hq6 := (k6.block _ (Array.getElem?_eq_some_iff.1 HQ5.out).1).trans HQ5.out; have HQ6 : Hid _ := hq6; have y6 := (seven hq6).2.2.2.2.2.2; have fz6 := frozen_of_row _ _ 6 _ _ hq6; clear o6 l6 z6 k6 hq6)
      obtain ⟨W7, HW7⟩ : ∃ W7, W7 = w6.setCell ⟨W1.heap.size, 6, none⟩ (.slice fa nu fc) := ⟨_, rfl⟩
      have hq7 : W7.heap[W1.heap.size]? = some (.cells #[.int .i64 1, .int .i64 (wq : Int), .int .i64 aq, .int .i64 0, .int .i64 nq, .slice none 0 0, .slice fa nu fc] 25 (0, 0)) := by rw [HW7]; exact heap_setCell_same _ _ 6 _ _ _ ((B6.out.block _ (Array.getElem?_eq_some_iff.1 HQ5.out).1).trans HQ5.out)
      have K7 : Hid (Kp (fun q => q = W1.heap.size) w6 W7) := by rw [HW7]; exact kset _ _ _ _
      have BT6 : Hid (Below W1.heap.size W1 w6) := below2 BT5.out B6.out (Nat.le_refl _)
      have BT7 : Hid (Below W1.heap.size W1 W7) := BT6.out.trans (K7.out.below (fun j hj => by omega) BT6.out.size)
      rw [← HW7]
      clear HW7 qv0 qv1 qv2 qv3 qv4 qv5 qv6 c0 c1 c2 c3 c4 c5 c6 y6 fz6 FC
      have h2 : W7.heap[w.heap.size + 1]? = some (.cells #[.int .i64 0, .int .i64 0, .int .i64 0, .int .i64 0, .int .i64 0, .slice none 0 0, .slice none 0 0] 25 (0, 0)) := PR.out W7 BT7.out
      obtain ⟨qv0, qv1, qv2, qv3, qv4, qv5, qv6⟩ := seven hq7
      obtain ⟨c0, c1, c2, c3, c4, c5, c6⟩ := seven h2
      have g0 := frozen_of_row _ _ 0 _ _ h2
      have g1 := frozen_of_row _ _ 1 _ _ h2
      have g2 := frozen_of_row _ _ 2 _ _ h2
      have g3 := frozen_of_row _ _ 3 _ _ h2
      have g4 := frozen_of_row _ _ 4 _ _ h2
      have g5 := frozen_of_row _ _ 5 _ _ h2
      have g6 := frozen_of_row _ _ 6 _ _ h2
      have FIN : Hid (∀ W', W' = _ → _) := put7 W7 (w.heap.size + 1) _ _ _ _ _ _ _ (.int .i64 1) (.int .i64 wq) (.int .i64 aq) (.int .i64 0) (.int .i64 nq) (.slice none 0 0) (.slice fa nu fc) _ h2
      have OI7 : Hid (OwI W7 W1.heap.size (.slice none 0 0) []) := own_tag (own_later (own_later OIT.out B5.out) B6.out) HQ6.out (by decide) K7.out
      have OT7 : Hid (OwT W7 W1.heap.size (.slice fa nu fc) fs) := own_tag (own_base O6.out BT5.out.size) HQ6.out (by decide) K7.out
      have VAL : Hid (Valid 1 wq aq 0 nq [] fs) := ⟨by omega, by omega, HRF.out, HBR.out, fun x hx => by have := L6.out.2 x hx; omega, by rw [L6.out.1, HNU.out]⟩
      clear hq7 h2
      go_wp2
      obtain ⟨G, hk⟩ := FIN.out _ rfl
      obtain ⟨z0, z1, z2, z3, z4, z5, z6⟩ := seven G
      refine bodyPost_ret (by simp [results, Try.results12, go_sem, z0, z1, z2, z3, z4, z5, z6]; try rfl) rfl ?_
      exact ⟨⟨_, _, _, _, _, _, _, _, _, _, _, _, _, rfl, VAL.out, own_base (own_not2 OI7.out hk (by have := HW1S.out; omega)) (by have := HW1S.out; omega), own_base (own_not2 OT7.out hk (by have := HW1S.out; omega)) (by have := HW1S.out; omega)⟩, (B01.out.trans (BT7.out.mono (by have := HW1S.out; omega))).trans (hk.below (fun j hj => by omega) (by have := HW1S.out; have := BT7.out.size; omega))⟩
    · have hQ : wc.heap[W1.heap.size]? = some (.cells #[.int .i64 2, .int .i64 (wq : Int), .int .i64 0, .int .i64 0, .int .i64 nq, .slice none 0 0, .slice none 0 0] 25 (0, 0)) := by have h := HQ0.out; rw [hk] at h; exact h
      have HQ : Hid _ := hQ
      obtain ⟨qv0, qv1, qv2, qv3, qv4, qv5, qv6⟩ := seven hQ
      have fz2 := frozen_of_row _ _ 2 _ _ hQ
      clear HQ0 hk hQ
      go_upto_region 21 with (go_at_call 35; refine (PA.out _).mono ?_; rintro _ wz ⟨rfl, hz⟩; rw [hz]; clear hz)
      obtain ⟨WT, HWT⟩ : ∃ WT, WT = wc.setCell ⟨W1.heap.size, 2, none⟩ (.int .i64 aq) := ⟨_, rfl⟩
      have HQT : Hid (WT.heap[W1.heap.size]? = some (.cells #[.int .i64 2, .int .i64 (wq : Int), .int .i64 aq, .int .i64 0, .int .i64 nq, .slice none 0 0, .slice none 0 0] 25 (0, 0))) := by rw [HWT]; exact heap_setCell_same _ _ 2 _ _ _ HQ.out
      have BT : Hid (Below W1.heap.size W1 WT) := by rw [HWT]; exact B2.out.setCell (Nat.le_refl _) _
      rw [← HWT]
      clear HWT qv0 qv1 qv2 qv3 qv4 qv5 qv6 c0 c1 c2 c3 c4 c5 c6 fz2
      have OIT : Hid (OwI WT W1.heap.size (.slice none 0 0) []) := OwI.nil _ _
      have RIT : Hid (ReadsI WT (.slice none 0 0) []) := OIT.out.reads
      have HXL2 : Hid (([] : List Int).length ≤ 1024) := by show 0 ≤ 1024; omega
      have HRF : Hid (ref9 2 aq 0 nq [] = 0) := ref2 hn1 hn2 a0 a1
      have HBR : Hid (bareP 2 aq 0 []) := ⟨rfl, rfl⟩
      have CC : Hid (Calls _ _ _ _ _) := countC 2 aq 0 nq (.slice none 0 0) [] WT RIT.out (by have := HXL2.out; omega)
      have HNL := num_le HRF.out
      rw [show cnt9 2 aq 0 nq [] = (((num9 2 aq 0 nq [] : Nat) : Int), 0) by unfold cnt9; rw [if_pos HRF.out]] at CC
      obtain ⟨nu, HNU⟩ : ∃ r, Hid (num9 2 aq 0 nq [] = r) := ⟨num9 2 aq 0 nq [], (by unfold Hid; exact Eq.refl _)⟩
      rw [HNU.out] at CC HNL
      have gn1 : ¬ (nu : Int) < 0 := by omega
      have gn2 : ¬ (70000 : Int) < nu := by omega
      have gn3 : decide ((nu : Int) < 0) = false := by simp
      have gn4 : decide ((70000 : Int) < (nu : Int)) = false := by simp; omega
      obtain ⟨qv0, qv1, qv2, qv3, qv4, qv5, qv6⟩ := seven HQT.out
      have FC : Hid (∀ W', Below W1.heap.size W1 W' → Calls _ _ _ (W' : World) _) := fun W' h => filledC nu wq (.slice ha hl hc) hs W' (RTW.out.later h) (by omega) (by omega) (by omega) HSZ.out (by have := HZT.out; omega)
      go_upto_region 24 with (first
        | (go_at_call 36; refine CC.out.mono ?_; rintro _ w5 ⟨rfl, k5⟩; have B5 : Hid (Below WT.heap.size WT w5) := k5; clear k5)
        | (go_at_call 9; refine (num 0 _).mono ?_; rintro _ wz ⟨rfl, hz⟩; rw [hz]; clear hz))
      have BT5 : Hid (Below W1.heap.size W1 w5) := below2 BT.out B5.out (Nat.le_refl _)
      have hq5 : w5.heap[W1.heap.size]? = some (.cells #[.int .i64 2, .int .i64 (wq : Int), .int .i64 aq, .int .i64 0, .int .i64 nq, .slice none 0 0, .slice none 0 0] 25 (0, 0)) := (B5.out.block _ (Array.getElem?_eq_some_iff.1 HQT.out).1).trans HQT.out
      have HQ5 : Hid _ := hq5
      clear qv0 qv1 qv2 qv3 qv4 qv5 qv6 CC gn1 gn2 gn3 gn4
      obtain ⟨qv0, qv1, qv2, qv3, qv4, qv5, qv6⟩ := seven hq5
      obtain ⟨c0, c1, c2, c3, c4, c5, c6⟩ := PB.out w5 BT5.out
      clear hq5
      go_upto_region 25 with (go_at_call 37; refine (FC.out _ BT5.out).mono ?_; rintro _ w6 ⟨⟨fa, fc, fs, rfl, o6, l6, z6⟩, k6⟩; have O6 : Hid (OwT w6 w5.heap.size (.slice fa nu fc) fs) := o6; have L6 : Hid (fs.length = nu ∧ ∀ x ∈ fs, x.size = wq) := ⟨l6, z6⟩; have B6 : Hid (Below w5.heap.size w5 w6) := k6; have hq6 := (k6.block _ (Array.getElem?_eq_some_iff.1 HQ5.out).1).trans HQ5.out; have HQ6 : Hid _ := hq6; have y6 := (seven hq6).2.2.2.2.2.2; have fz6 := frozen_of_row _ _ 6 _ _ hq6; clear o6 l6 z6 k6 hq6)
      obtain ⟨W7, HW7⟩ : ∃ W7, W7 = w6.setCell ⟨W1.heap.size, 6, none⟩ (.slice fa nu fc) := ⟨_, rfl⟩
      have hq7 : W7.heap[W1.heap.size]? = some (.cells #[.int .i64 2, .int .i64 (wq : Int), .int .i64 aq, .int .i64 0, .int .i64 nq, .slice none 0 0, .slice fa nu fc] 25 (0, 0)) := by rw [HW7]; exact heap_setCell_same _ _ 6 _ _ _ ((B6.out.block _ (Array.getElem?_eq_some_iff.1 HQ5.out).1).trans HQ5.out)
      have K7 : Hid (Kp (fun q => q = W1.heap.size) w6 W7) := by rw [HW7]; exact kset _ _ _ _
      have BT6 : Hid (Below W1.heap.size W1 w6) := below2 BT5.out B6.out (Nat.le_refl _)
      have BT7 : Hid (Below W1.heap.size W1 W7) := BT6.out.trans (K7.out.below (fun j hj => by omega) BT6.out.size)
      rw [← HW7]
      clear HW7 qv0 qv1 qv2 qv3 qv4 qv5 qv6 c0 c1 c2 c3 c4 c5 c6 y6 fz6 FC
      have h2 : W7.heap[w.heap.size + 1]? = some (.cells #[.int .i64 0, .int .i64 0, .int .i64 0, .int .i64 0, .int .i64 0, .slice none 0 0, .slice none 0 0] 25 (0, 0)) := PR.out W7 BT7.out
      obtain ⟨qv0, qv1, qv2, qv3, qv4, qv5, qv6⟩ := seven hq7
      obtain ⟨c0, c1, c2, c3, c4, c5, c6⟩ := seven h2
      have g0 := frozen_of_row _ _ 0 _ _ h2
      have g1 := frozen_of_row _ _ 1 _ _ h2
      have g2 := frozen_of_row _ _ 2 _ _ h2
      have g3 := frozen_of_row _ _ 3 _ _ h2
      have g4 := frozen_of_row _ _ 4 _ _ h2
      have g5 := frozen_of_row _ _ 5 _ _ h2
      have g6 := frozen_of_row _ _ 6 _ _ h2
      have FIN : Hid (∀ W', W' = _ → _) := put7 W7 (w.heap.size + 1) _ _ _ _ _ _ _ (.int .i64 2) (.int .i64 wq) (.int .i64 aq) (.int .i64 0) (.int .i64 nq) (.slice none 0 0) (.slice fa nu fc) _ h2
      have OI7 : Hid (OwI W7 W1.heap.size (.slice none 0 0) []) := own_tag (own_later (own_later OIT.out B5.out) B6.out) HQ6.out (by decide) K7.out
      have OT7 : Hid (OwT W7 W1.heap.size (.slice fa nu fc) fs) := own_tag (own_base O6.out BT5.out.size) HQ6.out (by decide) K7.out
      have VAL : Hid (Valid 2 wq aq 0 nq [] fs) := ⟨by omega, by omega, HRF.out, HBR.out, fun x hx => by have := L6.out.2 x hx; omega, by rw [L6.out.1, HNU.out]⟩
      clear hq7 h2
      go_wp2
      obtain ⟨G, hk⟩ := FIN.out _ rfl
      obtain ⟨z0, z1, z2, z3, z4, z5, z6⟩ := seven G
      refine bodyPost_ret (by simp [results, Try.results12, go_sem, z0, z1, z2, z3, z4, z5, z6]; try rfl) rfl ?_
      exact ⟨⟨_, _, _, _, _, _, _, _, _, _, _, _, _, rfl, VAL.out, own_base (own_not2 OI7.out hk (by have := HW1S.out; omega)) (by have := HW1S.out; omega), own_base (own_not2 OT7.out hk (by have := HW1S.out; omega)) (by have := HW1S.out; omega)⟩, (B01.out.trans (BT7.out.mono (by have := HW1S.out; omega))).trans (hk.below (fun j hj => by omega) (by have := HW1S.out; have := BT7.out.size; omega))⟩
    · have hQ : wc.heap[W1.heap.size]? = some (.cells #[.int .i64 3, .int .i64 (wq : Int), .int .i64 0, .int .i64 0, .int .i64 nq, .slice none 0 0, .slice none 0 0] 25 (0, 0)) := by have h := HQ0.out; rw [hk] at h; exact h
      have HQ : Hid _ := hQ
      obtain ⟨qv0, qv1, qv2, qv3, qv4, qv5, qv6⟩ := seven hQ
      have fz2 := frozen_of_row _ _ 2 _ _ hQ
      clear HQ0 hk hQ
      go_upto_region 10 with (go_at_call 35; refine (PA.out _).mono ?_; rintro _ wz ⟨rfl, hz⟩; rw [hz]; clear hz)
      obtain ⟨WA, HWA⟩ : ∃ WT, WT = wc.setCell ⟨W1.heap.size, 2, none⟩ (.int .i64 aq) := ⟨_, rfl⟩
      have HQA : Hid (WA.heap[W1.heap.size]? = some (.cells #[.int .i64 3, .int .i64 (wq : Int), .int .i64 aq, .int .i64 0, .int .i64 nq, .slice none 0 0, .slice none 0 0] 25 (0, 0))) := by rw [HWA]; exact heap_setCell_same _ _ 2 _ _ _ HQ.out
      have BAA : Hid (Below W1.heap.size W1 WA) := by rw [HWA]; exact B2.out.setCell (Nat.le_refl _) _
      rw [← HWA]
      clear HWA qv0 qv1 qv2 qv3 qv4 qv5 qv6 c0 c1 c2 c3 c4 c5 c6 fz2
      have b0 := Int.emod_nonneg b (show nq - aq ≠ 0 by omega)
      have b1 := Int.emod_lt_of_pos b (show 0 < nq - aq by omega)
      have PBq : Hid (∀ w : World, Calls _ _ _ _ _) := fun w => PK.out b (nq - aq) w I3.out (by omega) (by omega)
      obtain ⟨bq, HBQ⟩ : ∃ y, Hid (b % (nq - aq) = y) := ⟨_, rfl⟩
      rw [HBQ.out] at b0 b1 PBq
      have gw1 : IntKind.i64.wrap (aq + 1) = aq + 1 := by rw [IntKind.wrap_i64]; omega
      have gw2 : IntKind.i64.wrap (nq - aq) = nq - aq := by rw [IntKind.wrap_i64]; omega
      have gw3 : IntKind.i64.wrap (aq + 1 + bq) = aq + 1 + bq := by rw [IntKind.wrap_i64]; omega
      have SF : Hid (∀ W' : World, W'.heap[W1.heap.size]? = some (.cells #[.int .i64 3, .int .i64 (wq : Int), .int .i64 aq, .int .i64 0, .int .i64 nq, .slice none 0 0, .slice none 0 0] 25 (0, 0)) → Below W1.heap.size W1 W' → W'.cell? ⟨W1.heap.size, 2, none⟩ = some (.int .i64 aq) ∧ W'.cell? ⟨w.heap.size, 3, none⟩ = some (.int .i64 b)) := fun W' h1 h2 => ⟨(seven h1).2.2.1, (PB.out W' h2).2.2.2.1⟩
      have y3 : WA.cell? ⟨W1.heap.size, 3, none⟩ = some (.int .i64 0) := (seven HQA.out).2.2.2.1
      have z3 := frozen_of_row _ _ 3 _ _ HQA.out
      have QS : Hid (((WA.setCell ⟨W1.heap.size, 3, none⟩ (.int .i64 (aq + 1 + bq))).drew).heap[W1.heap.size]? = some (.cells #[.int .i64 3, .int .i64 (wq : Int), .int .i64 aq, .int .i64 (aq + 1 + bq), .int .i64 nq, .slice none 0 0, .slice none 0 0] 25 (0, 0))) := heap_setCell_same _ _ 3 _ _ _ HQA.out
      have SE : Hid (((WA.setCell ⟨W1.heap.size, 3, none⟩ (.int .i64 (aq + 1 + bq))).drew).cell? ⟨W1.heap.size, 2, none⟩ = some (.int .i64 aq) ∧ ((WA.setCell ⟨W1.heap.size, 3, none⟩ (.int .i64 (aq + 1 + bq))).drew).cell? ⟨w.heap.size, 3, none⟩ = some (.int .i64 b)) := ⟨(seven QS.out).2.2.1, (PB.out _ (below_dr (BAA.out.setCell (Nat.le_refl _) _))).2.2.2.1⟩
      go_region_held_law (fun w' => w'.cell? ⟨W1.heap.size, 2, none⟩ = some (.int .i64 aq) ∧ w'.cell? ⟨w.heap.size, 3, none⟩ = some (.int .i64 b)) (first | exact SF.out _ HQA.out (below_dr BAA.out) | exact SE.out) ((go_at_call 35; refine (PBq.out _).mono ?_; rintro _ wz ⟨rfl, hz⟩; rw [hz]; clear hz))
      go_upto_region 21 with fail
      obtain ⟨WT, HWT⟩ : ∃ WT, WT = (WA.setCell ⟨W1.heap.size, 3, none⟩ (.int .i64 (aq + 1 + bq))).drew := ⟨_, rfl⟩
      have HQT : Hid (WT.heap[W1.heap.size]? = some (.cells #[.int .i64 3, .int .i64 (wq : Int), .int .i64 aq, .int .i64 (aq + 1 + bq), .int .i64 nq, .slice none 0 0, .slice none 0 0] 25 (0, 0))) := by rw [HWT]; exact QS.out
      have BT : Hid (Below W1.heap.size W1 WT) := by rw [HWT]; exact below_dr (BAA.out.setCell (Nat.le_refl _) _)
      rw [← HWT]
      clear HWT y3 z3 QS SE
      have OIT : Hid (OwI WT W1.heap.size (.slice none 0 0) []) := OwI.nil _ _
      have RIT : Hid (ReadsI WT (.slice none 0 0) []) := OIT.out.reads
      have HXL2 : Hid (([] : List Int).length ≤ 1024) := by show 0 ≤ 1024; omega
      have HRF : Hid (ref9 3 aq (aq + 1 + bq) nq [] = 0) := ref3 hn1 hn2 a0 (by omega) (by omega)
      have HBR : Hid (bareP 3 aq (aq + 1 + bq) []) := rfl
      have CC : Hid (Calls _ _ _ _ _) := countC 3 aq (aq + 1 + bq) nq (.slice none 0 0) [] WT RIT.out (by have := HXL2.out; omega)
      have HNL := num_le HRF.out
      rw [show cnt9 3 aq (aq + 1 + bq) nq [] = (((num9 3 aq (aq + 1 + bq) nq [] : Nat) : Int), 0) by unfold cnt9; rw [if_pos HRF.out]] at CC
      obtain ⟨nu, HNU⟩ : ∃ r, Hid (num9 3 aq (aq + 1 + bq) nq [] = r) := ⟨num9 3 aq (aq + 1 + bq) nq [], (by unfold Hid; exact Eq.refl _)⟩
      rw [HNU.out] at CC HNL
      have gn1 : ¬ (nu : Int) < 0 := by omega
      have gn2 : ¬ (70000 : Int) < nu := by omega
      have gn3 : decide ((nu : Int) < 0) = false := by simp
      have gn4 : decide ((70000 : Int) < (nu : Int)) = false := by simp; omega
      obtain ⟨qv0, qv1, qv2, qv3, qv4, qv5, qv6⟩ := seven HQT.out
      have FC : Hid (∀ W', Below W1.heap.size W1 W' → Calls _ _ _ (W' : World) _) := fun W' h => filledC nu wq (.slice ha hl hc) hs W' (RTW.out.later h) (by omega) (by omega) (by omega) HSZ.out (by have := HZT.out; omega)
      go_upto_region 24 with (first
        | (go_at_call 36; refine CC.out.mono ?_; rintro _ w5 ⟨rfl, k5⟩; have B5 : Hid (Below WT.heap.size WT w5) := k5; clear k5)
        | (go_at_call 9; refine (num 0 _).mono ?_; rintro _ wz ⟨rfl, hz⟩; rw [hz]; clear hz))
      have BT5 : Hid (Below W1.heap.size W1 w5) := below2 BT.out B5.out (Nat.le_refl _)
      have hq5 : w5.heap[W1.heap.size]? = some (.cells #[.int .i64 3, .int .i64 (wq : Int), .int .i64 aq, .int .i64 (aq + 1 + bq), .int .i64 nq, .slice none 0 0, .slice none 0 0] 25 (0, 0)) := (B5.out.block _ (Array.getElem?_eq_some_iff.1 HQT.out).1).trans HQT.out
      have HQ5 : Hid _ := hq5
      clear qv0 qv1 qv2 qv3 qv4 qv5 qv6 CC gn1 gn2 gn3 gn4
      obtain ⟨qv0, qv1, qv2, qv3, qv4, qv5, qv6⟩ := seven hq5
      obtain ⟨c0, c1, c2, c3, c4, c5, c6⟩ := PB.out w5 BT5.out
      clear hq5
      go_upto_region 25 with (go_at_call 37; refine (FC.out _ BT5.out).mono ?_; rintro _ w6 ⟨⟨fa, fc, fs, rfl, o6, l6, z6⟩, k6⟩; have O6 : Hid (OwT w6 w5.heap.size (.slice fa nu fc) fs) := o6; have L6 : Hid (fs.length = nu ∧ ∀ x ∈ fs, x.size = wq) := ⟨l6, z6⟩; have B6 : Hid (Below w5.heap.size w5 w6) := k6; have hq6 := (k6.block _ (Array.getElem?_eq_some_iff.1 HQ5.out).1).trans HQ5.out; have HQ6 : Hid _ := hq6; have y6 := (seven hq6).2.2.2.2.2.2; have fz6 := frozen_of_row _ _ 6 _ _ hq6; clear o6 l6 z6 k6 hq6)
      obtain ⟨W7, HW7⟩ : ∃ W7, W7 = w6.setCell ⟨W1.heap.size, 6, none⟩ (.slice fa nu fc) := ⟨_, rfl⟩
      have hq7 : W7.heap[W1.heap.size]? = some (.cells #[.int .i64 3, .int .i64 (wq : Int), .int .i64 aq, .int .i64 (aq + 1 + bq), .int .i64 nq, .slice none 0 0, .slice fa nu fc] 25 (0, 0)) := by rw [HW7]; exact heap_setCell_same _ _ 6 _ _ _ ((B6.out.block _ (Array.getElem?_eq_some_iff.1 HQ5.out).1).trans HQ5.out)
      have K7 : Hid (Kp (fun q => q = W1.heap.size) w6 W7) := by rw [HW7]; exact kset _ _ _ _
      have BT6 : Hid (Below W1.heap.size W1 w6) := below2 BT5.out B6.out (Nat.le_refl _)
      have BT7 : Hid (Below W1.heap.size W1 W7) := BT6.out.trans (K7.out.below (fun j hj => by omega) BT6.out.size)
      rw [← HW7]
      clear HW7 qv0 qv1 qv2 qv3 qv4 qv5 qv6 c0 c1 c2 c3 c4 c5 c6 y6 fz6 FC
      have h2 : W7.heap[w.heap.size + 1]? = some (.cells #[.int .i64 0, .int .i64 0, .int .i64 0, .int .i64 0, .int .i64 0, .slice none 0 0, .slice none 0 0] 25 (0, 0)) := PR.out W7 BT7.out
      obtain ⟨qv0, qv1, qv2, qv3, qv4, qv5, qv6⟩ := seven hq7
      obtain ⟨c0, c1, c2, c3, c4, c5, c6⟩ := seven h2
      have g0 := frozen_of_row _ _ 0 _ _ h2
      have g1 := frozen_of_row _ _ 1 _ _ h2
      have g2 := frozen_of_row _ _ 2 _ _ h2
      have g3 := frozen_of_row _ _ 3 _ _ h2
      have g4 := frozen_of_row _ _ 4 _ _ h2
      have g5 := frozen_of_row _ _ 5 _ _ h2
      have g6 := frozen_of_row _ _ 6 _ _ h2
      have FIN : Hid (∀ W', W' = _ → _) := put7 W7 (w.heap.size + 1) _ _ _ _ _ _ _ (.int .i64 3) (.int .i64 wq) (.int .i64 aq) (.int .i64 (aq + 1 + bq)) (.int .i64 nq) (.slice none 0 0) (.slice fa nu fc) _ h2
      have OI7 : Hid (OwI W7 W1.heap.size (.slice none 0 0) []) := own_tag (own_later (own_later OIT.out B5.out) B6.out) HQ6.out (by decide) K7.out
      have OT7 : Hid (OwT W7 W1.heap.size (.slice fa nu fc) fs) := own_tag (own_base O6.out BT5.out.size) HQ6.out (by decide) K7.out
      have VAL : Hid (Valid 3 wq aq (aq + 1 + bq) nq [] fs) := ⟨by omega, by omega, HRF.out, HBR.out, fun x hx => by have := L6.out.2 x hx; omega, by rw [L6.out.1, HNU.out]⟩
      clear hq7 h2
      go_wp2
      obtain ⟨G, hk⟩ := FIN.out _ rfl
      obtain ⟨z0, z1, z2, z3, z4, z5, z6⟩ := seven G
      refine bodyPost_ret (by simp [results, Try.results12, go_sem, z0, z1, z2, z3, z4, z5, z6]; try rfl) rfl ?_
      exact ⟨⟨_, _, _, _, _, _, _, _, _, _, _, _, _, rfl, VAL.out, own_base (own_not2 OI7.out hk (by have := HW1S.out; omega)) (by have := HW1S.out; omega), own_base (own_not2 OT7.out hk (by have := HW1S.out; omega)) (by have := HW1S.out; omega)⟩, (B01.out.trans (BT7.out.mono (by have := HW1S.out; omega))).trans (hk.below (fun j hj => by omega) (by have := HW1S.out; have := BT7.out.size; omega))⟩
    · have hQ : wc.heap[W1.heap.size]? = some (.cells #[.int .i64 4, .int .i64 (wq : Int), .int .i64 0, .int .i64 0, .int .i64 nq, .slice none 0 0, .slice none 0 0] 25 (0, 0)) := by have h := HQ0.out; rw [hk] at h; exact h
      have HQ : Hid _ := hQ
      obtain ⟨qv0, qv1, qv2, qv3, qv4, qv5, qv6⟩ := seven hQ
      have fz2 := frozen_of_row _ _ 2 _ _ hQ
      clear HQ0 hk hQ
      go_wp2
      go_loopw [6] (fun i wr => ∃ (j : Nat) (ys : List Int) (ya : Option Addr) (m yc : Nat), j ≤ L ∧ j ≤ 1024 ∧ i = .int .i64 j ∧ Hid (ys.length = m ∧ m ≤ j ∧ Ok4 ys nq) ∧ Hid (wr.heap[W1.heap.size]? = some (.cells #[.int .i64 4, .int .i64 (wq : Int), .int .i64 0, .int .i64 0, .int .i64 nq, .slice ya m yc, .slice none 0 0] 25 (0, 0)) ∧ OwI wr (W1.heap.size + 1) (.slice ya m yc) ys ∧ Below W1.heap.size W1 wr)) (fun i _ => (L - intOf i).toNat)
      case atStart => exact ⟨0, [], none, 0, 0, by omega, by omega, rfl, ⟨rfl, by omega, Ok4.nil _⟩, HQ.out, OwI.nil _ _, B2.out⟩
      case round =>
        clear qv0 qv1 qv2 qv3 qv4 qv5 qv6 c0 c1 c2 c3 c4 c5 c6 fz2
        obtain ⟨j, ys, ya, m, yc, hj, hj2, rfl, HY, HH⟩ := hrel
        have HYM : Hid (ys.length = m) := HY.out.1
        have hmj : m ≤ j := HY.out.2.1
        have HOK : Hid (Ok4 ys nq) := HY.out.2.2
        have HO : Hid (OwI wr (W1.heap.size + 1) (.slice ya m yc) ys) := HH.out.2.1
        have HB : Hid (Below W1.heap.size W1 wr) := HH.out.2.2
        have HQR : Hid (wr.heap[W1.heap.size]? = some (.cells #[.int .i64 4, .int .i64 (wq : Int), .int .i64 0, .int .i64 0, .int .i64 nq, .slice ya m yc, .slice none 0 0] 25 (0, 0))) := HH.out.1
        clear HY HH
        obtain ⟨qv0, qv1, qv2, qv3, qv4, qv5, qv6⟩ := seven HQR.out
        obtain ⟨c0, c1, c2, c3, c4, c5, c6⟩ := PB.out wr HB.out
        by_cases hlt : j < L ∧ j < 1024
        · have l1 : (j : Int) < L := by omega
          have l2 : (j : Int) < 1024 := by omega
          obtain ⟨bb, off, hva, hc⟩ := HEL.out wr HB.out j hlt.1
          have y0 := Int.emod_nonneg (xs.getD j 0) (show nq ≠ 0 by omega)
          have y1 := Int.emod_lt_of_pos (xs.getD j 0) (show 0 < nq by omega)
          have PX : Hid (∀ w : World, Calls _ _ _ _ _) := fun w => PK.out (xs.getD j 0) nq w (HXI.out j hlt.1) hn1 hn2
          obtain ⟨y, HYY⟩ : ∃ y, Hid (xs.getD j 0 % nq = y) := ⟨_, rfl⟩
          rw [HYY.out] at PX y0 y1
          obtain ⟨X, HXX⟩ : ∃ y, Hid (xs.getD j 0 = y) := ⟨_, rfl⟩
          rw [HXX.out] at PX hc
          have va1 : va = some ⟨bb, off, none⟩ := hva
          subst va1
          clear hva
          by_cases hm : m = 0
          · have gm : ((m : Int) == 0) = true := by rw [hm]; rfl
            have HLA : Hid (∀ i, i + 1 = ys.length → ys.getD i 0 < y) := fun i hi => by have := HYM.out; omega
            clear hm
            have HB5 : Hid (∀ w5, Below (W1.heap.size + 1) (wr.alloc (.cells #[.int .i64 y] 3)) w5 → w5.heap[W1.heap.size]? = some (.cells #[.int .i64 4, .int .i64 (wq : Int), .int .i64 0, .int .i64 0, .int .i64 nq, .slice ya m yc, .slice none 0 0] 25 (0, 0)) ∧ Below W1.heap.size W1 w5) := fun w5 h => ⟨(h.block _ (by omega)).trans ((Below.heap_alloc _ _ _ (Array.getElem?_eq_some_iff.1 HQR.out).1).trans HQR.out), (HB.out.alloc HB.out.size _).trans (h.mono (by omega))⟩
            go_upto_region 14 with (first
              | (go_at_call 35; refine (PX.out _).mono ?_; rintro _ wz ⟨rfl, hz⟩; rw [hz]; clear hz)
              | (at_builtin; refine wpList_appN rfl _ _ rfl (W1.heap.size + 1) (.slice ya m yc) (.slice (some ⟨wr.heap.size, 0, none⟩) 1 1) ys [y] rfl (own_later HO.out ((Below.refl _ _).alloc (Nat.le_refl _) _)) rfl (one_new wr y) (fun k c e => absurd (Value.slice.inj e).1 (by simp)) (by have := HYM.out; simp only [List.length_cons, List.length_nil]; omega) (by have := (Array.getElem?_eq_some_iff.1 HQR.out).1; simp; omega) ?_; intro v5 w5 o5 b5; have O5 : Hid (OwI w5 (W1.heap.size + 1) v5 (ys ++ [y])) := o5; have hq5 := (HB5.out w5 b5).1; have B5 : Hid (Below W1.heap.size W1 w5) := (HB5.out w5 b5).2; have HQ5 : Hid _ := hq5; have y5 := (seven hq5).2.2.2.2.2.1; have z5 := frozen_of_row _ _ 5 _ _ hq5; obtain ⟨sa5, sc5, hv5⟩ := O5.out.form; rw [List.length_append, List.length_singleton, HYM.out] at hv5; subst hv5; clear o5 b5 hq5))
            obtain ⟨WT, HWT⟩ : ∃ WT, WT = w5.setCell ⟨W1.heap.size, 5, none⟩ (.slice sa5 (m + 1) sc5) := ⟨_, rfl⟩
            have HQT : Hid (WT.heap[W1.heap.size]? = some (.cells #[.int .i64 4, .int .i64 (wq : Int), .int .i64 0, .int .i64 0, .int .i64 nq, .slice sa5 (m + 1) sc5, .slice none 0 0] 25 (0, 0))) := by rw [HWT]; exact heap_setCell_same _ _ 5 _ _ _ HQ5.out
            have BT : Hid (Below W1.heap.size W1 WT) := by rw [HWT]; exact B5.out.setCell (Nat.le_refl _) _
            have OT : Hid (OwI WT (W1.heap.size + 1) (.slice sa5 (m + 1) sc5) (ys ++ [y])) := by rw [HWT]; exact own_tag O5.out HQ5.out (by decide) (kset _ _ _ _)
            rw [← HWT]
            clear HWT qv0 qv1 qv2 qv3 qv4 qv5 qv6 c0 c1 c2 c3 c4 c5 c6 y5 z5 HB5
            go_wp2
            go_roundw
            case rel => exact ⟨j + 1, ys ++ [y], sa5, m + 1, sc5, by omega, by omega, by go_num, ⟨by rw [List.length_append, List.length_singleton, HYM.out], by omega, HOK.out.snoc y0 y1 HLA.out⟩, HQT.out, OT.out, BT.out⟩
            case measure => simp [intOf]; omega
          · obtain ⟨m', hm'⟩ : ∃ m', m = m' + 1 := ⟨m - 1, by omega⟩
            subst hm'
            obtain ⟨gy, hgy⟩ : ∃ g, ya = some ⟨g, 0, none⟩ := by
              rcases HO.out.2 with ⟨_, e⟩ | ⟨g, cap, cur, e, _⟩
              · have := HYM.out; omega
              · exact ⟨g, (Value.slice.inj e).1⟩
            subst hgy
            have cz : wr.cell? ⟨gy, m', none⟩ = some (.int .i64 (ys.getD m' 0)) := by
              have h := HO.out
              unfold OwI at h
              rw [HYM.out] at h
              rw [h.cellAt m' (by omega), List.getElem?_map, List.getElem?_eq_getElem (by have := HYM.out; omega), List.getD_eq_getElem?_getD, List.getElem?_eq_getElem (by have := HYM.out; omega)]
              rfl
            have hcy : m' + 1 ≤ yc := by
              rcases HO.out.2 with ⟨_, e⟩ | ⟨g, cap, cur, e, _, _, hc2, _⟩
              · have := HYM.out; omega
              · have := (Value.slice.inj e).2.2; have := HYM.out; omega
            obtain ⟨z, HZ⟩ : ∃ z, Hid (ys.getD m' 0 = z) := ⟨_, rfl⟩
            rw [HZ.out] at cz
            have gm : (((m' + 1 : Nat) : Int) == 0) = false := by simp; omega
            have gi1 : IntKind.i64.wrap (((m' + 1 : Nat) : Int) - 1) = (m' : Int) := by rw [IntKind.wrap_i64]; omega
            have gi2 : (((m' + 1 : Nat) : Int) - 1).toNat = m' := by omega
            have gi3 : (0 : Int) ≤ ((m' + 1 : Nat) : Int) - 1 := by omega
            have gi4 : ((m' + 1 : Nat) : Int) - 1 < ((m' + 1 : Nat) : Int) := by omega
            have gi5 : (m' : Int) < (m' : Int) + 1 := by omega
            clear hm
            by_cases hgt : z < y
            · have gt1 : decide (z < y) = true := decide_eq_true hgt
              have HLA : Hid (∀ i, i + 1 = ys.length → ys.getD i 0 < y) := fun i hi => (by have := HYM.out; have e : i = m' := (by omega); rw [e, HZ.out]; exact hgt)
              have HB5 : Hid (∀ w5, Below (W1.heap.size + 1) (wr.alloc (.cells #[.int .i64 y] 3)) w5 → w5.heap[W1.heap.size]? = some (.cells #[.int .i64 4, .int .i64 (wq : Int), .int .i64 0, .int .i64 0, .int .i64 nq, .slice (some ⟨gy, 0, none⟩) (m' + 1) yc, .slice none 0 0] 25 (0, 0)) ∧ Below W1.heap.size W1 w5) := fun w5 h => ⟨(h.block _ (by omega)).trans ((Below.heap_alloc _ _ _ (Array.getElem?_eq_some_iff.1 HQR.out).1).trans HQR.out), (HB.out.alloc HB.out.size _).trans (h.mono (by omega))⟩
              go_upto_region 14 with (first
                | (go_at_call 35; refine (PX.out _).mono ?_; rintro _ wz ⟨rfl, hz⟩; rw [hz]; clear hz)
                | (at_builtin; refine wpList_appN rfl _ _ rfl (W1.heap.size + 1) (.slice (some ⟨gy, 0, none⟩) (m' + 1) yc) (.slice (some ⟨wr.heap.size, 0, none⟩) 1 1) ys [y] rfl (own_later HO.out ((Below.refl _ _).alloc (Nat.le_refl _) _)) rfl (one_new wr y) (fun k c e => absurd (Value.slice.inj e).1 (by simp)) (by have := HYM.out; simp only [List.length_cons, List.length_nil]; omega) (by have := (Array.getElem?_eq_some_iff.1 HQR.out).1; simp; omega) ?_; intro v5 w5 o5 b5; have O5 : Hid (OwI w5 (W1.heap.size + 1) v5 (ys ++ [y])) := o5; have hq5 := (HB5.out w5 b5).1; have B5 : Hid (Below W1.heap.size W1 w5) := (HB5.out w5 b5).2; have HQ5 : Hid _ := hq5; have y5 := (seven hq5).2.2.2.2.2.1; have z5 := frozen_of_row _ _ 5 _ _ hq5; obtain ⟨sa5, sc5, hv5⟩ := O5.out.form; rw [List.length_append, List.length_singleton, HYM.out] at hv5; subst hv5; clear o5 b5 hq5))
              obtain ⟨WT, HWT⟩ : ∃ WT, WT = w5.setCell ⟨W1.heap.size, 5, none⟩ (.slice sa5 ((m' + 1) + 1) sc5) := ⟨_, rfl⟩
              have HQT : Hid (WT.heap[W1.heap.size]? = some (.cells #[.int .i64 4, .int .i64 (wq : Int), .int .i64 0, .int .i64 0, .int .i64 nq, .slice sa5 ((m' + 1) + 1) sc5, .slice none 0 0] 25 (0, 0))) := by rw [HWT]; exact heap_setCell_same _ _ 5 _ _ _ HQ5.out
              have BT : Hid (Below W1.heap.size W1 WT) := by rw [HWT]; exact B5.out.setCell (Nat.le_refl _) _
              have OT : Hid (OwI WT (W1.heap.size + 1) (.slice sa5 ((m' + 1) + 1) sc5) (ys ++ [y])) := by rw [HWT]; exact own_tag O5.out HQ5.out (by decide) (kset _ _ _ _)
              rw [← HWT]
              clear HWT qv0 qv1 qv2 qv3 qv4 qv5 qv6 c0 c1 c2 c3 c4 c5 c6 y5 z5 HB5
              go_wp2
              go_roundw
              case rel => exact ⟨j + 1, ys ++ [y], sa5, m' + 1 + 1, sc5, by omega, by omega, by go_num, ⟨by rw [List.length_append, List.length_singleton, HYM.out], by omega, HOK.out.snoc y0 y1 HLA.out⟩, HQT.out, OT.out, BT.out⟩
              case measure => simp [intOf]; omega
            · have gt1 : decide (z < y) = false := decide_eq_false hgt
              go_wp2_with (go_at_call 35; refine (PX.out _).mono ?_; rintro _ wz ⟨rfl, hz⟩; rw [hz]; clear hz)
              go_roundw
              case rel => exact ⟨j + 1, ys, some ⟨gy, 0, none⟩, m' + 1, yc, by omega, by omega, by go_num, ⟨HYM.out, by omega, HOK.out⟩, HQR.out, HO.out, HB.out⟩
              case measure => simp [intOf]; omega
        · have hx1 : ¬ (j : Int) < L ∨ ((j : Int) < L ∧ ¬ (j : Int) < 1024) := by omega
          clear hlt
          by_cases hm : m = 0
          · have gm : ((m : Int) == 0) = true := by rw [hm]; rfl
            have hys : ys = [] := List.length_eq_zero_iff.1 (by have := HYM.out; omega)
            have HYS : Hid (ys ++ [0] = [0]) := by rw [hys]; rfl
            have HOK2 : Hid (Ok4 (ys ++ [0]) nq) := HOK.out.snoc (by omega) (by omega) (fun i hi => by rw [hys] at hi; simp at hi)
            have HM0 : Hid (m = 0) := hm
            clear hm hys
            rcases hx1 with hx1 | ⟨hx1, hx2⟩
            · have HB5 : Hid (∀ w5, Below (W1.heap.size + 1) (wr.alloc (.cells #[.int .i64 0] 3)) w5 → w5.heap[W1.heap.size]? = some (.cells #[.int .i64 4, .int .i64 (wq : Int), .int .i64 0, .int .i64 0, .int .i64 nq, .slice ya m yc, .slice none 0 0] 25 (0, 0)) ∧ Below W1.heap.size W1 w5) := fun w5 h => ⟨(h.block _ (by omega)).trans ((Below.heap_alloc _ _ _ (Array.getElem?_eq_some_iff.1 HQR.out).1).trans HQR.out), (HB.out.alloc HB.out.size _).trans (h.mono (by omega))⟩
              go_upto_region 21 with (first
                | (at_builtin; refine wpList_appN rfl _ _ rfl (W1.heap.size + 1) (.slice ya m yc) (.slice (some ⟨wr.heap.size, 0, none⟩) 1 1) ys [0] rfl (own_later HO.out ((Below.refl _ _).alloc (Nat.le_refl _) _)) rfl (one_new wr 0) (fun k c e => absurd (Value.slice.inj e).1 (by simp)) (by have := HYM.out; simp only [List.length_cons, List.length_nil]; omega) (by have := (Array.getElem?_eq_some_iff.1 HQR.out).1; simp; omega) ?_; intro v5 w5 o5 b5; have O5 : Hid (OwI w5 (W1.heap.size + 1) v5 (ys ++ [0])) := o5; have hq5 := (HB5.out w5 b5).1; have B5 : Hid (Below W1.heap.size W1 w5) := (HB5.out w5 b5).2; have HQ5 : Hid _ := hq5; have y5 := (seven hq5).2.2.2.2.2.1; have z5 := frozen_of_row _ _ 5 _ _ hq5; obtain ⟨sa5, sc5, hv5⟩ := O5.out.form; rw [List.length_append, List.length_singleton, HYM.out] at hv5; subst hv5; clear o5 b5 hq5))
              obtain ⟨WT, HWT⟩ : ∃ WT, WT = w5.setCell ⟨W1.heap.size, 5, none⟩ (.slice sa5 (m + 1) sc5) := ⟨_, rfl⟩
              have HQT : Hid (WT.heap[W1.heap.size]? = some (.cells #[.int .i64 4, .int .i64 (wq : Int), .int .i64 0, .int .i64 0, .int .i64 nq, .slice sa5 (m + 1) sc5, .slice none 0 0] 25 (0, 0))) := by rw [HWT]; exact heap_setCell_same _ _ 5 _ _ _ HQ5.out
              have BT : Hid (Below W1.heap.size W1 WT) := by rw [HWT]; exact B5.out.setCell (Nat.le_refl _) _
              have OT : Hid (OwI WT (W1.heap.size + 1) (.slice sa5 (m + 1) sc5) (ys ++ [0])) := by rw [HWT]; exact own_tag O5.out HQ5.out (by decide) (kset _ _ _ _)
              rw [← HWT]
              clear HWT qv0 qv1 qv2 qv3 qv4 qv5 qv6 c0 c1 c2 c3 c4 c5 c6 y5 z5 HB5
              have OIT : Hid (OwI WT W1.heap.size (.slice sa5 (m + 1) sc5) (ys ++ [0])) := own_base OT.out (by omega)
              have RIT : Hid (ReadsI WT (.slice sa5 (m + 1) sc5) (ys ++ [0])) := OIT.out.reads
              have HXL2 : Hid (((ys ++ [0])).length ≤ 1024) := (by have := HM0.out; have := HYM.out; show _ ≤ _; rw [List.length_append, List.length_singleton]; omega)
              have HRF : Hid (ref9 4 0 0 nq (ys ++ [0]) = 0) := HOK2.out.ref (by rw [List.length_append, List.length_singleton]; omega) HXL2.out hn1 hn2
              have HBR : Hid (bareP 4 0 0 (ys ++ [0])) := ⟨rfl, rfl⟩
              have CC : Hid (Calls _ _ _ _ _) := countC 4 0 0 nq (.slice sa5 (m + 1) sc5) (ys ++ [0]) WT RIT.out (by have := HXL2.out; omega)
              have HNL := num_le HRF.out
              rw [show cnt9 4 0 0 nq (ys ++ [0]) = (((num9 4 0 0 nq (ys ++ [0]) : Nat) : Int), 0) by unfold cnt9; rw [if_pos HRF.out]] at CC
              obtain ⟨nu, HNU⟩ : ∃ r, Hid (num9 4 0 0 nq (ys ++ [0]) = r) := ⟨num9 4 0 0 nq (ys ++ [0]), (by unfold Hid; exact Eq.refl _)⟩
              rw [HNU.out] at CC HNL
              have gn1 : ¬ (nu : Int) < 0 := by omega
              have gn2 : ¬ (70000 : Int) < nu := by omega
              have gn3 : decide ((nu : Int) < 0) = false := by simp
              have gn4 : decide ((70000 : Int) < (nu : Int)) = false := by simp; omega
              obtain ⟨qv0, qv1, qv2, qv3, qv4, qv5, qv6⟩ := seven HQT.out
              have FC : Hid (∀ W', Below W1.heap.size W1 W' → Calls _ _ _ (W' : World) _) := fun W' h => filledC nu wq (.slice ha hl hc) hs W' (RTW.out.later h) (by omega) (by omega) (by omega) HSZ.out (by have := HZT.out; omega)
              go_upto_region 24 with (first
                | (go_at_call 36; refine CC.out.mono ?_; rintro _ w5 ⟨rfl, k5⟩; have B5 : Hid (Below WT.heap.size WT w5) := k5; clear k5)
                | (go_at_call 9; refine (num 0 _).mono ?_; rintro _ wz ⟨rfl, hz⟩; rw [hz]; clear hz))
              have BT5 : Hid (Below W1.heap.size W1 w5) := below2 BT.out B5.out (Nat.le_refl _)
              have hq5 : w5.heap[W1.heap.size]? = some (.cells #[.int .i64 4, .int .i64 (wq : Int), .int .i64 0, .int .i64 0, .int .i64 nq, .slice sa5 (m + 1) sc5, .slice none 0 0] 25 (0, 0)) := (B5.out.block _ (Array.getElem?_eq_some_iff.1 HQT.out).1).trans HQT.out
              have HQ5 : Hid _ := hq5
              clear qv0 qv1 qv2 qv3 qv4 qv5 qv6 CC gn1 gn2 gn3 gn4
              obtain ⟨qv0, qv1, qv2, qv3, qv4, qv5, qv6⟩ := seven hq5
              obtain ⟨c0, c1, c2, c3, c4, c5, c6⟩ := PB.out w5 BT5.out
              clear hq5
              go_upto_region 25 with (go_at_call 37; refine (FC.out _ BT5.out).mono ?_; rintro _ w6 ⟨⟨fa, fc, fs, rfl, o6, l6, z6⟩, k6⟩; have O6 : Hid (OwT w6 w5.heap.size (.slice fa nu fc) fs) := o6; have L6 : Hid (fs.length = nu ∧ ∀ x ∈ fs, x.size = wq) := ⟨l6, z6⟩; have B6 : Hid (Below w5.heap.size w5 w6) := k6; have hq6 := (k6.block _ (Array.getElem?_eq_some_iff.1 HQ5.out).1).trans HQ5.out; have HQ6 : Hid _ := hq6; have y6 := (seven hq6).2.2.2.2.2.2; have fz6 := frozen_of_row _ _ 6 _ _ hq6; clear o6 l6 z6 k6 hq6)
              obtain ⟨W7, HW7⟩ : ∃ W7, W7 = w6.setCell ⟨W1.heap.size, 6, none⟩ (.slice fa nu fc) := ⟨_, rfl⟩
              have hq7 : W7.heap[W1.heap.size]? = some (.cells #[.int .i64 4, .int .i64 (wq : Int), .int .i64 0, .int .i64 0, .int .i64 nq, .slice sa5 (m + 1) sc5, .slice fa nu fc] 25 (0, 0)) := by rw [HW7]; exact heap_setCell_same _ _ 6 _ _ _ ((B6.out.block _ (Array.getElem?_eq_some_iff.1 HQ5.out).1).trans HQ5.out)
              have K7 : Hid (Kp (fun q => q = W1.heap.size) w6 W7) := by rw [HW7]; exact kset _ _ _ _
              have BT6 : Hid (Below W1.heap.size W1 w6) := below2 BT5.out B6.out (Nat.le_refl _)
              have BT7 : Hid (Below W1.heap.size W1 W7) := BT6.out.trans (K7.out.below (fun j hj => by omega) BT6.out.size)
              rw [← HW7]
              clear HW7 qv0 qv1 qv2 qv3 qv4 qv5 qv6 c0 c1 c2 c3 c4 c5 c6 y6 fz6 FC
              have h2 : W7.heap[w.heap.size + 1]? = some (.cells #[.int .i64 0, .int .i64 0, .int .i64 0, .int .i64 0, .int .i64 0, .slice none 0 0, .slice none 0 0] 25 (0, 0)) := PR.out W7 BT7.out
              obtain ⟨qv0, qv1, qv2, qv3, qv4, qv5, qv6⟩ := seven hq7
              obtain ⟨c0, c1, c2, c3, c4, c5, c6⟩ := seven h2
              have g0 := frozen_of_row _ _ 0 _ _ h2
              have g1 := frozen_of_row _ _ 1 _ _ h2
              have g2 := frozen_of_row _ _ 2 _ _ h2
              have g3 := frozen_of_row _ _ 3 _ _ h2
              have g4 := frozen_of_row _ _ 4 _ _ h2
              have g5 := frozen_of_row _ _ 5 _ _ h2
              have g6 := frozen_of_row _ _ 6 _ _ h2
              have FIN : Hid (∀ W', W' = _ → _) := put7 W7 (w.heap.size + 1) _ _ _ _ _ _ _ (.int .i64 4) (.int .i64 wq) (.int .i64 0) (.int .i64 0) (.int .i64 nq) (.slice sa5 (m + 1) sc5) (.slice fa nu fc) _ h2
              have OI7 : Hid (OwI W7 W1.heap.size (.slice sa5 (m + 1) sc5) (ys ++ [0])) := own_tag (own_later (own_later OIT.out B5.out) B6.out) HQ6.out (by decide) K7.out
              have OT7 : Hid (OwT W7 W1.heap.size (.slice fa nu fc) fs) := own_tag (own_base O6.out BT5.out.size) HQ6.out (by decide) K7.out
              have VAL : Hid (Valid 4 wq 0 0 nq (ys ++ [0]) fs) := ⟨by omega, by omega, HRF.out, HBR.out, fun x hx => by have := L6.out.2 x hx; omega, by rw [L6.out.1, HNU.out]⟩
              clear hq7 h2
              go_wp2
              obtain ⟨G, hk⟩ := FIN.out _ rfl
              obtain ⟨z0, z1, z2, z3, z4, z5, z6⟩ := seven G
              refine bodyPost_ret (by simp [results, Try.results12, go_sem, z0, z1, z2, z3, z4, z5, z6]; try rfl) rfl ?_
              exact ⟨⟨_, _, _, _, _, _, _, _, _, _, _, _, _, rfl, VAL.out, own_base (own_not2 OI7.out hk (by have := HW1S.out; omega)) (by have := HW1S.out; omega), own_base (own_not2 OT7.out hk (by have := HW1S.out; omega)) (by have := HW1S.out; omega)⟩, (B01.out.trans (BT7.out.mono (by have := HW1S.out; omega))).trans (hk.below (fun j hj => by omega) (by have := HW1S.out; have := BT7.out.size; omega))⟩
            · have HB5 : Hid (∀ w5, Below (W1.heap.size + 1) (wr.alloc (.cells #[.int .i64 0] 3)) w5 → w5.heap[W1.heap.size]? = some (.cells #[.int .i64 4, .int .i64 (wq : Int), .int .i64 0, .int .i64 0, .int .i64 nq, .slice ya m yc, .slice none 0 0] 25 (0, 0)) ∧ Below W1.heap.size W1 w5) := fun w5 h => ⟨(h.block _ (by omega)).trans ((Below.heap_alloc _ _ _ (Array.getElem?_eq_some_iff.1 HQR.out).1).trans HQR.out), (HB.out.alloc HB.out.size _).trans (h.mono (by omega))⟩
              go_upto_region 21 with (first
                | (at_builtin; refine wpList_appN rfl _ _ rfl (W1.heap.size + 1) (.slice ya m yc) (.slice (some ⟨wr.heap.size, 0, none⟩) 1 1) ys [0] rfl (own_later HO.out ((Below.refl _ _).alloc (Nat.le_refl _) _)) rfl (one_new wr 0) (fun k c e => absurd (Value.slice.inj e).1 (by simp)) (by have := HYM.out; simp only [List.length_cons, List.length_nil]; omega) (by have := (Array.getElem?_eq_some_iff.1 HQR.out).1; simp; omega) ?_; intro v5 w5 o5 b5; have O5 : Hid (OwI w5 (W1.heap.size + 1) v5 (ys ++ [0])) := o5; have hq5 := (HB5.out w5 b5).1; have B5 : Hid (Below W1.heap.size W1 w5) := (HB5.out w5 b5).2; have HQ5 : Hid _ := hq5; have y5 := (seven hq5).2.2.2.2.2.1; have z5 := frozen_of_row _ _ 5 _ _ hq5; obtain ⟨sa5, sc5, hv5⟩ := O5.out.form; rw [List.length_append, List.length_singleton, HYM.out] at hv5; subst hv5; clear o5 b5 hq5))
              obtain ⟨WT, HWT⟩ : ∃ WT, WT = w5.setCell ⟨W1.heap.size, 5, none⟩ (.slice sa5 (m + 1) sc5) := ⟨_, rfl⟩
              have HQT : Hid (WT.heap[W1.heap.size]? = some (.cells #[.int .i64 4, .int .i64 (wq : Int), .int .i64 0, .int .i64 0, .int .i64 nq, .slice sa5 (m + 1) sc5, .slice none 0 0] 25 (0, 0))) := by rw [HWT]; exact heap_setCell_same _ _ 5 _ _ _ HQ5.out
              have BT : Hid (Below W1.heap.size W1 WT) := by rw [HWT]; exact B5.out.setCell (Nat.le_refl _) _
              have OT : Hid (OwI WT (W1.heap.size + 1) (.slice sa5 (m + 1) sc5) (ys ++ [0])) := by rw [HWT]; exact own_tag O5.out HQ5.out (by decide) (kset _ _ _ _)
              rw [← HWT]
              clear HWT qv0 qv1 qv2 qv3 qv4 qv5 qv6 c0 c1 c2 c3 c4 c5 c6 y5 z5 HB5
              have OIT : Hid (OwI WT W1.heap.size (.slice sa5 (m + 1) sc5) (ys ++ [0])) := own_base OT.out (by omega)
              have RIT : Hid (ReadsI WT (.slice sa5 (m + 1) sc5) (ys ++ [0])) := OIT.out.reads
              have HXL2 : Hid (((ys ++ [0])).length ≤ 1024) := (by have := HM0.out; have := HYM.out; show _ ≤ _; rw [List.length_append, List.length_singleton]; omega)
              have HRF : Hid (ref9 4 0 0 nq (ys ++ [0]) = 0) := HOK2.out.ref (by rw [List.length_append, List.length_singleton]; omega) HXL2.out hn1 hn2
              have HBR : Hid (bareP 4 0 0 (ys ++ [0])) := ⟨rfl, rfl⟩
              have CC : Hid (Calls _ _ _ _ _) := countC 4 0 0 nq (.slice sa5 (m + 1) sc5) (ys ++ [0]) WT RIT.out (by have := HXL2.out; omega)
              have HNL := num_le HRF.out
              rw [show cnt9 4 0 0 nq (ys ++ [0]) = (((num9 4 0 0 nq (ys ++ [0]) : Nat) : Int), 0) by unfold cnt9; rw [if_pos HRF.out]] at CC
              obtain ⟨nu, HNU⟩ : ∃ r, Hid (num9 4 0 0 nq (ys ++ [0]) = r) := ⟨num9 4 0 0 nq (ys ++ [0]), (by unfold Hid; exact Eq.refl _)⟩
              rw [HNU.out] at CC HNL
              have gn1 : ¬ (nu : Int) < 0 := by omega
              have gn2 : ¬ (70000 : Int) < nu := by omega
              have gn3 : decide ((nu : Int) < 0) = false := by simp
              have gn4 : decide ((70000 : Int) < (nu : Int)) = false := by simp; omega
              obtain ⟨qv0, qv1, qv2, qv3, qv4, qv5, qv6⟩ := seven HQT.out
              have FC : Hid (∀ W', Below W1.heap.size W1 W' → Calls _ _ _ (W' : World) _) := fun W' h => filledC nu wq (.slice ha hl hc) hs W' (RTW.out.later h) (by omega) (by omega) (by omega) HSZ.out (by have := HZT.out; omega)
              go_upto_region 24 with (first
                | (go_at_call 36; refine CC.out.mono ?_; rintro _ w5 ⟨rfl, k5⟩; have B5 : Hid (Below WT.heap.size WT w5) := k5; clear k5)
                | (go_at_call 9; refine (num 0 _).mono ?_; rintro _ wz ⟨rfl, hz⟩; rw [hz]; clear hz))
              have BT5 : Hid (Below W1.heap.size W1 w5) := below2 BT.out B5.out (Nat.le_refl _)
              have hq5 : w5.heap[W1.heap.size]? = some (.cells #[.int .i64 4, .int .i64 (wq : Int), .int .i64 0, .int .i64 0, .int .i64 nq, .slice sa5 (m + 1) sc5, .slice none 0 0] 25 (0, 0)) := (B5.out.block _ (Array.getElem?_eq_some_iff.1 HQT.out).1).trans HQT.out
              have HQ5 : Hid _ := hq5
              clear qv0 qv1 qv2 qv3 qv4 qv5 qv6 CC gn1 gn2 gn3 gn4
              obtain ⟨qv0, qv1, qv2, qv3, qv4, qv5, qv6⟩ := seven hq5
              obtain ⟨c0, c1, c2, c3, c4, c5, c6⟩ := PB.out w5 BT5.out
              clear hq5
              go_upto_region 25 with (go_at_call 37; refine (FC.out _ BT5.out).mono ?_; rintro _ w6 ⟨⟨fa, fc, fs, rfl, o6, l6, z6⟩, k6⟩; have O6 : Hid (OwT w6 w5.heap.size (.slice fa nu fc) fs) := o6; have L6 : Hid (fs.length = nu ∧ ∀ x ∈ fs, x.size = wq) := ⟨l6, z6⟩; have B6 : Hid (Below w5.heap.size w5 w6) := k6; have hq6 := (k6.block _ (Array.getElem?_eq_some_iff.1 HQ5.out).1).trans HQ5.out; have HQ6 : Hid _ := hq6; have y6 := (seven hq6).2.2.2.2.2.2; have fz6 := frozen_of_row _ _ 6 _ _ hq6; clear o6 l6 z6 k6 hq6)
              obtain ⟨W7, HW7⟩ : ∃ W7, W7 = w6.setCell ⟨W1.heap.size, 6, none⟩ (.slice fa nu fc) := ⟨_, rfl⟩
              have hq7 : W7.heap[W1.heap.size]? = some (.cells #[.int .i64 4, .int .i64 (wq : Int), .int .i64 0, .int .i64 0, .int .i64 nq, .slice sa5 (m + 1) sc5, .slice fa nu fc] 25 (0, 0)) := by rw [HW7]; exact heap_setCell_same _ _ 6 _ _ _ ((B6.out.block _ (Array.getElem?_eq_some_iff.1 HQ5.out).1).trans HQ5.out)
              have K7 : Hid (Kp (fun q => q = W1.heap.size) w6 W7) := by rw [HW7]; exact kset _ _ _ _
              have BT6 : Hid (Below W1.heap.size W1 w6) := below2 BT5.out B6.out (Nat.le_refl _)
              have BT7 : Hid (Below W1.heap.size W1 W7) := BT6.out.trans (K7.out.below (fun j hj => by omega) BT6.out.size)
              rw [← HW7]
              clear HW7 qv0 qv1 qv2 qv3 qv4 qv5 qv6 c0 c1 c2 c3 c4 c5 c6 y6 fz6 FC
              have h2 : W7.heap[w.heap.size + 1]? = some (.cells #[.int .i64 0, .int .i64 0, .int .i64 0, .int .i64 0, .int .i64 0, .slice none 0 0, .slice none 0 0] 25 (0, 0)) := PR.out W7 BT7.out
              obtain ⟨qv0, qv1, qv2, qv3, qv4, qv5, qv6⟩ := seven hq7
              obtain ⟨c0, c1, c2, c3, c4, c5, c6⟩ := seven h2
              have g0 := frozen_of_row _ _ 0 _ _ h2
              have g1 := frozen_of_row _ _ 1 _ _ h2
              have g2 := frozen_of_row _ _ 2 _ _ h2
              have g3 := frozen_of_row _ _ 3 _ _ h2
              have g4 := frozen_of_row _ _ 4 _ _ h2
              have g5 := frozen_of_row _ _ 5 _ _ h2
              have g6 := frozen_of_row _ _ 6 _ _ h2
              have FIN : Hid (∀ W', W' = _ → _) := put7 W7 (w.heap.size + 1) _ _ _ _ _ _ _ (.int .i64 4) (.int .i64 wq) (.int .i64 0) (.int .i64 0) (.int .i64 nq) (.slice sa5 (m + 1) sc5) (.slice fa nu fc) _ h2
              have OI7 : Hid (OwI W7 W1.heap.size (.slice sa5 (m + 1) sc5) (ys ++ [0])) := own_tag (own_later (own_later OIT.out B5.out) B6.out) HQ6.out (by decide) K7.out
              have OT7 : Hid (OwT W7 W1.heap.size (.slice fa nu fc) fs) := own_tag (own_base O6.out BT5.out.size) HQ6.out (by decide) K7.out
              have VAL : Hid (Valid 4 wq 0 0 nq (ys ++ [0]) fs) := ⟨by omega, by omega, HRF.out, HBR.out, fun x hx => by have := L6.out.2 x hx; omega, by rw [L6.out.1, HNU.out]⟩
              clear hq7 h2
              go_wp2
              obtain ⟨G, hk⟩ := FIN.out _ rfl
              obtain ⟨z0, z1, z2, z3, z4, z5, z6⟩ := seven G
              refine bodyPost_ret (by simp [results, Try.results12, go_sem, z0, z1, z2, z3, z4, z5, z6]; try rfl) rfl ?_
              exact ⟨⟨_, _, _, _, _, _, _, _, _, _, _, _, _, rfl, VAL.out, own_base (own_not2 OI7.out hk (by have := HW1S.out; omega)) (by have := HW1S.out; omega), own_base (own_not2 OT7.out hk (by have := HW1S.out; omega)) (by have := HW1S.out; omega)⟩, (B01.out.trans (BT7.out.mono (by have := HW1S.out; omega))).trans (hk.below (fun j hj => by omega) (by have := HW1S.out; have := BT7.out.size; omega))⟩
          · have gm : ((m : Int) == 0) = false := by simp; omega
            have HM1 : Hid (1 ≤ m) := by show _ ≤ _; omega
            clear hm
            rcases hx1 with hx1 | ⟨hx1, hx2⟩
            · go_upto_region 21 with fail
              obtain ⟨WT, HWT⟩ : ∃ WT, WT = wr := ⟨_, rfl⟩
              have HQT : Hid (WT.heap[W1.heap.size]? = some (.cells #[.int .i64 4, .int .i64 (wq : Int), .int .i64 0, .int .i64 0, .int .i64 nq, .slice ya m yc, .slice none 0 0] 25 (0, 0))) := by rw [HWT]; exact HQR.out
              have BT : Hid (Below W1.heap.size W1 WT) := by rw [HWT]; exact HB.out
              have OT : Hid (OwI WT (W1.heap.size + 1) (.slice ya m yc) ys) := by rw [HWT]; exact HO.out
              rw [← HWT]
              clear HWT qv0 qv1 qv2 qv3 qv4 qv5 qv6 c0 c1 c2 c3 c4 c5 c6
              have OIT : Hid (OwI WT W1.heap.size (.slice ya m yc) ys) := own_base OT.out (by omega)
              have RIT : Hid (ReadsI WT (.slice ya m yc) ys) := OIT.out.reads
              have HXL2 : Hid ((ys).length ≤ 1024) := (by have := HYM.out; show _ ≤ _; omega)
              have HRF : Hid (ref9 4 0 0 nq ys = 0) := HOK.out.ref (by have := HM1.out; have := HYM.out; omega) HXL2.out hn1 hn2
              have HBR : Hid (bareP 4 0 0 ys) := ⟨rfl, rfl⟩
              have CC : Hid (Calls _ _ _ _ _) := countC 4 0 0 nq (.slice ya m yc) ys WT RIT.out (by have := HXL2.out; omega)
              have HNL := num_le HRF.out
              rw [show cnt9 4 0 0 nq ys = (((num9 4 0 0 nq ys : Nat) : Int), 0) by unfold cnt9; rw [if_pos HRF.out]] at CC
              obtain ⟨nu, HNU⟩ : ∃ r, Hid (num9 4 0 0 nq ys = r) := ⟨num9 4 0 0 nq ys, (by unfold Hid; exact Eq.refl _)⟩
              rw [HNU.out] at CC HNL
              have gn1 : ¬ (nu : Int) < 0 := by omega
              have gn2 : ¬ (70000 : Int) < nu := by omega
              have gn3 : decide ((nu : Int) < 0) = false := by simp
              have gn4 : decide ((70000 : Int) < (nu : Int)) = false := by simp; omega
              obtain ⟨qv0, qv1, qv2, qv3, qv4, qv5, qv6⟩ := seven HQT.out
              have FC : Hid (∀ W', Below W1.heap.size W1 W' → Calls _ _ _ (W' : World) _) := fun W' h => filledC nu wq (.slice ha hl hc) hs W' (RTW.out.later h) (by omega) (by omega) (by omega) HSZ.out (by have := HZT.out; omega)
              go_upto_region 24 with (first
                | (go_at_call 36; refine CC.out.mono ?_; rintro _ w5 ⟨rfl, k5⟩; have B5 : Hid (Below WT.heap.size WT w5) := k5; clear k5)
                | (go_at_call 9; refine (num 0 _).mono ?_; rintro _ wz ⟨rfl, hz⟩; rw [hz]; clear hz))
              have BT5 : Hid (Below W1.heap.size W1 w5) := below2 BT.out B5.out (Nat.le_refl _)
              have hq5 : w5.heap[W1.heap.size]? = some (.cells #[.int .i64 4, .int .i64 (wq : Int), .int .i64 0, .int .i64 0, .int .i64 nq, .slice ya m yc, .slice none 0 0] 25 (0, 0)) := (B5.out.block _ (Array.getElem?_eq_some_iff.1 HQT.out).1).trans HQT.out
              have HQ5 : Hid _ := hq5
              clear qv0 qv1 qv2 qv3 qv4 qv5 qv6 CC gn1 gn2 gn3 gn4
              obtain ⟨qv0, qv1, qv2, qv3, qv4, qv5, qv6⟩ := seven hq5
              obtain ⟨c0, c1, c2, c3, c4, c5, c6⟩ := PB.out w5 BT5.out
              clear hq5
              go_upto_region 25 with (go_at_call 37; refine (FC.out _ BT5.out).mono ?_; rintro _ w6 ⟨⟨fa, fc, fs, rfl, o6, l6, z6⟩, k6⟩; have O6 : Hid (OwT w6 w5.heap.size (.slice fa nu fc) fs) := o6; have L6 : Hid (fs.length = nu ∧ ∀ x ∈ fs, x.size = wq) := ⟨l6, z6⟩; have B6 : Hid (Below w5.heap.size w5 w6) := k6; have hq6 := (k6.block _ (Array.getElem?_eq_some_iff.1 HQ5.out).1).trans HQ5.out; have HQ6 : Hid _ := hq6; have y6 := (seven hq6).2.2.2.2.2.2; have fz6 := frozen_of_row _ _ 6 _ _ hq6; clear o6 l6 z6 k6 hq6)
              obtain ⟨W7, HW7⟩ : ∃ W7, W7 = w6.setCell ⟨W1.heap.size, 6, none⟩ (.slice fa nu fc) := ⟨_, rfl⟩
              have hq7 : W7.heap[W1.heap.size]? = some (.cells #[.int .i64 4, .int .i64 (wq : Int), .int .i64 0, .int .i64 0, .int .i64 nq, .slice ya m yc, .slice fa nu fc] 25 (0, 0)) := by rw [HW7]; exact heap_setCell_same _ _ 6 _ _ _ ((B6.out.block _ (Array.getElem?_eq_some_iff.1 HQ5.out).1).trans HQ5.out)
              have K7 : Hid (Kp (fun q => q = W1.heap.size) w6 W7) := by rw [HW7]; exact kset _ _ _ _
              have BT6 : Hid (Below W1.heap.size W1 w6) := below2 BT5.out B6.out (Nat.le_refl _)
              have BT7 : Hid (Below W1.heap.size W1 W7) := BT6.out.trans (K7.out.below (fun j hj => by omega) BT6.out.size)
              rw [← HW7]
              clear HW7 qv0 qv1 qv2 qv3 qv4 qv5 qv6 c0 c1 c2 c3 c4 c5 c6 y6 fz6 FC
              have h2 : W7.heap[w.heap.size + 1]? = some (.cells #[.int .i64 0, .int .i64 0, .int .i64 0, .int .i64 0, .int .i64 0, .slice none 0 0, .slice none 0 0] 25 (0, 0)) := PR.out W7 BT7.out
              obtain ⟨qv0, qv1, qv2, qv3, qv4, qv5, qv6⟩ := seven hq7
              obtain ⟨c0, c1, c2, c3, c4, c5, c6⟩ := seven h2
              have g0 := frozen_of_row _ _ 0 _ _ h2
              have g1 := frozen_of_row _ _ 1 _ _ h2
              have g2 := frozen_of_row _ _ 2 _ _ h2
              have g3 := frozen_of_row _ _ 3 _ _ h2
              have g4 := frozen_of_row _ _ 4 _ _ h2
              have g5 := frozen_of_row _ _ 5 _ _ h2
              have g6 := frozen_of_row _ _ 6 _ _ h2
              have FIN : Hid (∀ W', W' = _ → _) := put7 W7 (w.heap.size + 1) _ _ _ _ _ _ _ (.int .i64 4) (.int .i64 wq) (.int .i64 0) (.int .i64 0) (.int .i64 nq) (.slice ya m yc) (.slice fa nu fc) _ h2
              have OI7 : Hid (OwI W7 W1.heap.size (.slice ya m yc) ys) := own_tag (own_later (own_later OIT.out B5.out) B6.out) HQ6.out (by decide) K7.out
              have OT7 : Hid (OwT W7 W1.heap.size (.slice fa nu fc) fs) := own_tag (own_base O6.out BT5.out.size) HQ6.out (by decide) K7.out
              have VAL : Hid (Valid 4 wq 0 0 nq ys fs) := ⟨by omega, by omega, HRF.out, HBR.out, fun x hx => by have := L6.out.2 x hx; omega, by rw [L6.out.1, HNU.out]⟩
              clear hq7 h2
              go_wp2
              obtain ⟨G, hk⟩ := FIN.out _ rfl
              obtain ⟨z0, z1, z2, z3, z4, z5, z6⟩ := seven G
              refine bodyPost_ret (by simp [results, Try.results12, go_sem, z0, z1, z2, z3, z4, z5, z6]; try rfl) rfl ?_
              exact ⟨⟨_, _, _, _, _, _, _, _, _, _, _, _, _, rfl, VAL.out, own_base (own_not2 OI7.out hk (by have := HW1S.out; omega)) (by have := HW1S.out; omega), own_base (own_not2 OT7.out hk (by have := HW1S.out; omega)) (by have := HW1S.out; omega)⟩, (B01.out.trans (BT7.out.mono (by have := HW1S.out; omega))).trans (hk.below (fun j hj => by omega) (by have := HW1S.out; have := BT7.out.size; omega))⟩
            · go_upto_region 21 with fail
              obtain ⟨WT, HWT⟩ : ∃ WT, WT = wr := ⟨_, rfl⟩
              have HQT : Hid (WT.heap[W1.heap.size]? = some (.cells #[.int .i64 4, .int .i64 (wq : Int), .int .i64 0, .int .i64 0, .int .i64 nq, .slice ya m yc, .slice none 0 0] 25 (0, 0))) := by rw [HWT]; exact HQR.out
              have BT : Hid (Below W1.heap.size W1 WT) := by rw [HWT]; exact HB.out
              have OT : Hid (OwI WT (W1.heap.size + 1) (.slice ya m yc) ys) := by rw [HWT]; exact HO.out
              rw [← HWT]
              clear HWT qv0 qv1 qv2 qv3 qv4 qv5 qv6 c0 c1 c2 c3 c4 c5 c6
              have OIT : Hid (OwI WT W1.heap.size (.slice ya m yc) ys) := own_base OT.out (by omega)
              have RIT : Hid (ReadsI WT (.slice ya m yc) ys) := OIT.out.reads
              have HXL2 : Hid ((ys).length ≤ 1024) := (by have := HYM.out; show _ ≤ _; omega)
              have HRF : Hid (ref9 4 0 0 nq ys = 0) := HOK.out.ref (by have := HM1.out; have := HYM.out; omega) HXL2.out hn1 hn2
              have HBR : Hid (bareP 4 0 0 ys) := ⟨rfl, rfl⟩
              have CC : Hid (Calls _ _ _ _ _) := countC 4 0 0 nq (.slice ya m yc) ys WT RIT.out (by have := HXL2.out; omega)
              have HNL := num_le HRF.out
              rw [show cnt9 4 0 0 nq ys = (((num9 4 0 0 nq ys : Nat) : Int), 0) by unfold cnt9; rw [if_pos HRF.out]] at CC
              obtain ⟨nu, HNU⟩ : ∃ r, Hid (num9 4 0 0 nq ys = r) := ⟨num9 4 0 0 nq ys, (by unfold Hid; exact Eq.refl _)⟩
              rw [HNU.out] at CC HNL
              have gn1 : ¬ (nu : Int) < 0 := by omega
              have gn2 : ¬ (70000 : Int) < nu := by omega
              have gn3 : decide ((nu : Int) < 0) = false := by simp
              have gn4 : decide ((70000 : Int) < (nu : Int)) = false := by simp; omega
              obtain ⟨qv0, qv1, qv2, qv3, qv4, qv5, qv6⟩ := seven HQT.out
              have FC : Hid (∀ W', Below W1.heap.size W1 W' → Calls _ _ _ (W' : World) _) := fun W' h => filledC nu wq (.slice ha hl hc) hs W' (RTW.out.later h) (by omega) (by omega) (by omega) HSZ.out (by have := HZT.out; omega)
              go_upto_region 24 with (first
                | (go_at_call 36; refine CC.out.mono ?_; rintro _ w5 ⟨rfl, k5⟩; have B5 : Hid (Below WT.heap.size WT w5) := k5; clear k5)
                | (go_at_call 9; refine (num 0 _).mono ?_; rintro _ wz ⟨rfl, hz⟩; rw [hz]; clear hz))
              have BT5 : Hid (Below W1.heap.size W1 w5) := below2 BT.out B5.out (Nat.le_refl _)
              have hq5 : w5.heap[W1.heap.size]? = some (.cells #[.int .i64 4, .int .i64 (wq : Int), .int .i64 0, .int .i64 0, .int .i64 nq, .slice ya m yc, .slice none 0 0] 25 (0, 0)) := (B5.out.block _ (Array.getElem?_eq_some_iff.1 HQT.out).1).trans HQT.out
              have HQ5 : Hid _ := hq5
              clear qv0 qv1 qv2 qv3 qv4 qv5 qv6 CC gn1 gn2 gn3 gn4
              obtain ⟨qv0, qv1, qv2, qv3, qv4, qv5, qv6⟩ := seven hq5
              obtain ⟨c0, c1, c2, c3, c4, c5, c6⟩ := PB.out w5 BT5.out
              clear hq5
              go_upto_region 25 with (go_at_call 37; refine (FC.out _ BT5.out).mono ?_; rintro _ w6 ⟨⟨fa, fc, fs, rfl, o6, l6, z6⟩, k6⟩; have O6 : Hid (OwT w6 w5.heap.size (.slice fa nu fc) fs) := o6; have L6 : Hid (fs.length = nu ∧ ∀ x ∈ fs, x.size = wq) := ⟨l6, z6⟩; have B6 : Hid (Below w5.heap.size w5 w6) := k6; have hq6 := (k6.block _ (Array.getElem?_eq_some_iff.1 HQ5.out).1).trans HQ5.out; have HQ6 : Hid _ := hq6; have y6 := (seven hq6).2.2.2.2.2.2; have fz6 := frozen_of_row _ _ 6 _ _ hq6; clear o6 l6 z6 k6 hq6)
              obtain ⟨W7, HW7⟩ : ∃ W7, W7 = w6.setCell ⟨W1.heap.size, 6, none⟩ (.slice fa nu fc) := ⟨_, rfl⟩
              have hq7 : W7.heap[W1.heap.size]? = some (.cells #[.int .i64 4, .int .i64 (wq : Int), .int .i64 0, .int .i64 0, .int .i64 nq, .slice ya m yc, .slice fa nu fc] 25 (0, 0)) := by rw [HW7]; exact heap_setCell_same _ _ 6 _ _ _ ((B6.out.block _ (Array.getElem?_eq_some_iff.1 HQ5.out).1).trans HQ5.out)
              have K7 : Hid (Kp (fun q => q = W1.heap.size) w6 W7) := by rw [HW7]; exact kset _ _ _ _
              have BT6 : Hid (Below W1.heap.size W1 w6) := below2 BT5.out B6.out (Nat.le_refl _)
              have BT7 : Hid (Below W1.heap.size W1 W7) := BT6.out.trans (K7.out.below (fun j hj => by omega) BT6.out.size)
              rw [← HW7]
              clear HW7 qv0 qv1 qv2 qv3 qv4 qv5 qv6 c0 c1 c2 c3 c4 c5 c6 y6 fz6 FC
              have h2 : W7.heap[w.heap.size + 1]? = some (.cells #[.int .i64 0, .int .i64 0, .int .i64 0, .int .i64 0, .int .i64 0, .slice none 0 0, .slice none 0 0] 25 (0, 0)) := PR.out W7 BT7.out
              obtain ⟨qv0, qv1, qv2, qv3, qv4, qv5, qv6⟩ := seven hq7
              obtain ⟨c0, c1, c2, c3, c4, c5, c6⟩ := seven h2
              have g0 := frozen_of_row _ _ 0 _ _ h2
              have g1 := frozen_of_row _ _ 1 _ _ h2
              have g2 := frozen_of_row _ _ 2 _ _ h2
              have g3 := frozen_of_row _ _ 3 _ _ h2
              have g4 := frozen_of_row _ _ 4 _ _ h2
              have g5 := frozen_of_row _ _ 5 _ _ h2
              have g6 := frozen_of_row _ _ 6 _ _ h2
              have FIN : Hid (∀ W', W' = _ → _) := put7 W7 (w.heap.size + 1) _ _ _ _ _ _ _ (.int .i64 4) (.int .i64 wq) (.int .i64 0) (.int .i64 0) (.int .i64 nq) (.slice ya m yc) (.slice fa nu fc) _ h2
              have OI7 : Hid (OwI W7 W1.heap.size (.slice ya m yc) ys) := own_tag (own_later (own_later OIT.out B5.out) B6.out) HQ6.out (by decide) K7.out
              have OT7 : Hid (OwT W7 W1.heap.size (.slice fa nu fc) fs) := own_tag (own_base O6.out BT5.out.size) HQ6.out (by decide) K7.out
              have VAL : Hid (Valid 4 wq 0 0 nq ys fs) := ⟨by omega, by omega, HRF.out, HBR.out, fun x hx => by have := L6.out.2 x hx; omega, by rw [L6.out.1, HNU.out]⟩
              clear hq7 h2
              go_wp2
              obtain ⟨G, hk⟩ := FIN.out _ rfl
              obtain ⟨z0, z1, z2, z3, z4, z5, z6⟩ := seven G
              refine bodyPost_ret (by simp [results, Try.results12, go_sem, z0, z1, z2, z3, z4, z5, z6]; try rfl) rfl ?_
              exact ⟨⟨_, _, _, _, _, _, _, _, _, _, _, _, _, rfl, VAL.out, own_base (own_not2 OI7.out hk (by have := HW1S.out; omega)) (by have := HW1S.out; omega), own_base (own_not2 OT7.out hk (by have := HW1S.out; omega)) (by have := HW1S.out; omega)⟩, (B01.out.trans (BT7.out.mono (by have := HW1S.out; omega))).trans (hk.below (fun j hj => by omega) (by have := HW1S.out; have := BT7.out.size; omega))⟩
end Go.Proofs.Ythpfgdhmpeadeaa.e9
