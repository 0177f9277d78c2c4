import Derived.Test.YthpfgdhmpeadeaaDoorG6
import Derived.Test.YthpfgdhmpeadeaaDoorG5
import Derived.Test.YthpfgdhmpeadeaaDoorJ1
import Derived.Laws.AppendOwnNone
import Derived.Laws.OwnMore
import Derived.Test.YthpfgdhmpeadeaaDoorJ2
import Derived.Test.YthpfgdhmpeadeaaDoorJ5
import Derived.Laws.Strings2
namespace Go.Proofs.YthpfgdhmpeadeaaDoor.e7
open Go.RowKit Go.PlainAid
open Go.Proofs.YthpfgdhmpeadeaaDoor.ca Go.Proofs.YthpfgdhmpeadeaaDoor.cb Go.Proofs.YthpfgdhmpeadeaaDoor.cp Go.Proofs.YthpfgdhmpeadeaaDoor.ga Go.Proofs.YthpfgdhmpeadeaaDoor.kp Go.Proofs.YthpfgdhmpeadeaaDoor.mi Go.Proofs.YthpfgdhmpeadeaaDoor.ka Go.Proofs.YthpfgdhmpeadeaaDoor.er
set_option linter.unusedVariables false

-- a list of its own in memory, of texts and of numbers
def OwT (w : World) (B : Nat) (v : Value) (xs : List ByteArray) : Prop := w.ownsRow B 9 1 v xs.length (xs.map Value.string)
def OwI (w : World) (B : Nat) (v : Value) (xs : List Int) : Prop := w.ownsRow B 3 1 v xs.length (xs.map (Value.int .i64))
theorem OwT.nil (w : World) (B : Nat) : OwT w B (.slice none 0 0) [] := World.ownsRow_nil _ _ _ _
theorem OwI.nil (w : World) (B : Nat) : OwI w B (.slice none 0 0) [] := World.ownsRow_nil _ _ _ _
theorem OwT.later {w w' : World} {B : Nat} {v : Value} {xs : List ByteArray} (h : OwT w B v xs) (hb : Below w.heap.size w w') : OwT w' B v xs := own_later h hb
theorem OwI.later {w w' : World} {B : Nat} {v : Value} {xs : List Int} (h : OwI w B v xs) (hb : Below w.heap.size w w') : OwI w' B v xs := own_later h hb
theorem OwT.form {w : World} {B : Nat} {v : Value} {xs : List ByteArray} (h : OwT w B v xs) : ∃ a c, v = .slice a xs.length c := lg.own_form h
theorem OwI.form {w : World} {B : Nat} {v : Value} {xs : List Int} (h : OwI w B v xs) : ∃ a c, v = .slice a xs.length c := lg.own_form h
theorem own_no {w : World} {B t s n : Nat} {v : Value} {xs : List Value} (h : w.ownsRow B t s v n xs) : ∀ k c, v = .slice none k c → c = 0 := fun k c e => by
  rcases h.2 with ⟨e1, _⟩ | ⟨g, cap, cur, e1, _⟩
  · rw [e1] at e; exact ((Value.slice.inj e).2.2).symm
  · rw [e1] at e; exact absurd (Value.slice.inj e).1 (by simp)
theorem OwT.reads {w : World} {B : Nat} {v : Value} {xs : List ByteArray} (h : OwT w B v xs) : ReadsT w v xs := own_readsT h
theorem OwI.reads {w : World} {B : Nat} {v : Value} {xs : List Int} (h : OwI w B v xs) : ReadsI w v xs := own_readsI h
theorem onesI (xs : List Int) : ∀ u ∈ xs.map (Value.int .i64), u.oneCell' = true := by
  intro u hu
  obtain ⟨x, _, rfl⟩ := List.mem_map.1 hu
  rfl
section
variable {ops : Array Oper} {rest : List Oper} {o : Oper} {a : Act} {Q : Exit → Act → World → Prop} {w : World}
set_option maxRecDepth 100000 in
theorem wpList_appA (hgd : o.guard = none) (s x : Operand) (ho : o.op = .call { callee := .builtin .append, args := #[s, x], argTypes := #[22, 22] }) (B : Nat) (v y : Value) (xs ys : List ByteArray) (hs : a.eval s = v) (hown : OwT w B v xs) (hx : a.eval x = y) (hy : ReadsT w y ys) (hno : ∀ k c, y = .slice none k c → c = 0) (hb : (xs.length + ys.length) * 16 ≤ 140737488355328) (hB : B ≤ w.heap.size)
    (h : ∀ v' w', OwT w' B v' (xs ++ ys) → Below B w w' → wpList Tryd.prog ops Q rest (a.put o.dst v') w') : wpList Tryd.prog ops Q (o :: rest) a w := by
  obtain ⟨i9, hi, hz0, hz1, hz2⟩ := lg.info_parts lg.hiE
  obtain ⟨ad, c, rfl, hc, hr⟩ := hy
  cases ad with
  | none =>
    have hc0 := hno _ _ rfl
    subst hc0
    have hl0 : ys = [] := List.length_eq_zero_iff.1 (by omega)
    subst hl0
    refine wpList_append_own_none hgd s x 22 ho B 9 i9 1 Tryd.underlying22 hi v xs.length _ hs hown hx ?_
    exact h v w (by rw [List.append_nil]; exact hown) (Below.refl _ _)
  | some ad =>
    refine wpList_append_own _ hgd s x 22 ho B 9 i9 (.string ByteArray.empty) 1 16 Tryd.underlying22 hi hz0 hz1 hz2 rfl (by decide) v xs.length (xs.map Value.string) hs hown ad ys.length c (ys.map Value.string) hx (by rw [List.length_map, Nat.mul_one]) ?_ (lg.ones _) (by unfold maxLen; omega) (by omega) hB ?_
    · intro j u hu
      rw [List.getElem?_map] at hu
      obtain ⟨t, ht, rfl⟩ := Option.map_eq_some_iff.1 hu
      have hj := (List.getElem?_eq_some_iff.1 ht).1
      rcases hr with h0 | ⟨b, off, e, hcell⟩
      · omega
      · have e := Option.some.inj e
        subst e
        rw [Addr.add_mid, hcell j hj, List.getD_eq_getElem?_getD, ht]
        rfl
    · intro p' w5 ho5 hg hnn
      refine h p' w5 ?_ (Below.grown (Below.refl _ _) hg hB (fun jj hj => (World.ownsRow.lt hown _ hj).1))
      unfold OwT
      rw [List.length_append, List.map_append]
      exact ho5
set_option maxRecDepth 100000 in
theorem wpList_appN (hgd : o.guard = none) (s x : Operand) (ho : o.op = .call { callee := .builtin .append, args := #[s, x], argTypes := #[47, 47] }) (B : Nat) (v y : Value) (xs ys : List Int) (hs : a.eval s = v) (hown : OwI w B v xs) (hx : a.eval x = y) (hy : ReadsI w y ys) (hno : ∀ k c, y = .slice none k c → c = 0) (hb : (xs.length + ys.length) * 8 ≤ 140737488355328) (hB : B ≤ w.heap.size)
    (h : ∀ v' w', OwI w' B v' (xs ++ ys) → Below B w w' → wpList Tryd.prog ops Q rest (a.put o.dst v') w') : wpList Tryd.prog ops Q (o :: rest) a w := by
  obtain ⟨i9, hi, hz0, hz1, hz2⟩ := lg.info_parts ti.hiE
  obtain ⟨ad, c, rfl, hc, hr⟩ := hy
  cases ad with
  | none =>
    have hc0 := hno _ _ rfl
    subst hc0
    have hl0 : ys = [] := List.length_eq_zero_iff.1 (by omega)
    subst hl0
    refine wpList_append_own_none hgd s x 47 ho B 3 i9 1 Tryd.underlying47 hi v xs.length _ hs hown hx ?_
    exact h v w (by rw [List.append_nil]; exact hown) (Below.refl _ _)
  | some ad =>
    refine wpList_append_own _ hgd s x 47 ho B 3 i9 (.int .i64 0) 1 8 Tryd.underlying47 hi hz0 hz1 hz2 rfl (by decide) v xs.length (xs.map (Value.int .i64)) hs hown ad ys.length c (ys.map (Value.int .i64)) hx (by rw [List.length_map, Nat.mul_one]) ?_ (onesI _) (by unfold maxLen; omega) (by omega) hB ?_
    · intro j u hu
      rw [List.getElem?_map] at hu
      obtain ⟨t, ht, rfl⟩ := Option.map_eq_some_iff.1 hu
      have hj := (List.getElem?_eq_some_iff.1 ht).1
      rcases hr with h0 | ⟨b, off, e, hcell⟩
      · omega
      · have e := Option.some.inj e
        subst e
        rw [Addr.add_mid, hcell j hj, List.getD_eq_getElem?_getD, ht]
        rfl
    · intro p' w5 ho5 hg hnn
      refine h p' w5 ?_ (Below.grown (Below.refl _ _) hg hB (fun jj hj => (World.ownsRow.lt hown _ hj).1))
      unfold OwI
      rw [List.length_append, List.map_append]
      exact ho5
end
-- a list with one more behind it: cells, and what stands ahead
theorem own_beg {w : World} {B : Nat} {g n cp : Nat} {xs : List Int} {m : Int} (h : OwI w B (.slice (some ⟨g, 0, none⟩) n cp) (xs ++ [m])) : ReadsI w (.slice (some ⟨g, 0, none⟩) xs.length cp) xs ∧ w.cell? ⟨g, xs.length, none⟩ = some (.int .i64 m) ∧ n = xs.length + 1 ∧ n ≤ cp := by
  obtain ⟨a, c, e⟩ := h.form
  have en := (Value.slice.inj e).2.1
  rw [List.length_append, List.length_singleton] at en
  subst en
  have h' : w.ownsRow B 3 1 (.slice (some ⟨g, 0, none⟩) (xs.length + 1) cp) (xs.length + 1) ((xs ++ [m]).map (Value.int .i64)) := by
    have := h
    unfold OwI at this
    rw [List.length_append, List.length_singleton] at this
    exact this
  have hcp : xs.length + 1 ≤ cp := by
    rcases h'.2 with ⟨e, _⟩ | ⟨g', cap', cur, e, _, _, hc, _⟩
    · exact absurd (Value.slice.inj e).1 (by simp)
    · have := (Value.slice.inj e).2.2; omega
  refine ⟨⟨_, cp, rfl, by omega, .inr ⟨g, 0, rfl, fun i hi => ?_⟩⟩, ?_, rfl, hcp⟩
  · rw [Nat.zero_add, h'.cellAt i (by omega), List.getElem?_map, List.getElem?_append_left hi, List.getElem?_eq_getElem hi, List.getD_eq_getElem?_getD, List.getElem?_eq_getElem hi]
    rfl
  · rw [h'.cellAt _ (by omega), List.getElem?_map, List.getElem?_append_right (Nat.le_refl _), Nat.sub_self]
    rfl
end Go.Proofs.YthpfgdhmpeadeaaDoor.e7

namespace Go.Proofs.YthpfgdhmpeadeaaDoor.e8
open Go.RowKit Go.PlainAid Go.Shelf
open Go.Proofs.YthpfgdhmpeadeaaDoor.ca Go.Proofs.YthpfgdhmpeadeaaDoor.cb Go.Proofs.YthpfgdhmpeadeaaDoor.cp Go.Proofs.YthpfgdhmpeadeaaDoor.ga Go.Proofs.YthpfgdhmpeadeaaDoor.kp Go.Proofs.YthpfgdhmpeadeaaDoor.na Go.Proofs.YthpfgdhmpeadeaaDoor.nb Go.Proofs.YthpfgdhmpeadeaaDoor.nc Go.Proofs.YthpfgdhmpeadeaaDoor.nh Go.Proofs.YthpfgdhmpeadeaaDoor.mi Go.Proofs.YthpfgdhmpeadeaaDoor.eb Go.Proofs.YthpfgdhmpeadeaaDoor.ec Go.Proofs.YthpfgdhmpeadeaaDoor.ee Go.Proofs.YthpfgdhmpeadeaaDoor.ef Go.Proofs.YthpfgdhmpeadeaaDoor.eg Go.Proofs.YthpfgdhmpeadeaaDoor.eh Go.Proofs.YthpfgdhmpeadeaaDoor.er Go.Proofs.YthpfgdhmpeadeaaDoor.es Go.Proofs.YthpfgdhmpeadeaaDoor.ka Go.Proofs.YthpfgdhmpeadeaaDoor.bn Go.Proofs.YthpfgdhmpeadeaaDoor.e1 Go.Proofs.YthpfgdhmpeadeaaDoor.e6 Go.Proofs.YthpfgdhmpeadeaaDoor.e7 Go.Proofs.YthpfgdhmpeadeaaDoor.ff
set_option linter.unusedVariables false

-- a number from 0 to n - 1 out of any
set_option maxHeartbeats 1600000 in
theorem pickC (x n : Int) (w : World) (h0 : -9223372036854775808 ≤ x) (h1 : x ≤ 9223372036854775807) (n1 : 1 ≤ n) (n2 : n ≤ 4611686018427387904) :
    Calls Tryd.prog 19 #[.int .i64 x, .int .i64 n] w fun e w' => e = .returned (.int .i64 (x % n)) ∧ w' = w := by
  have e1 := Int.emod_nonneg x (show n ≠ 0 by omega)
  have e2 := Int.emod_lt_of_pos x (show 0 < n by omega)
  have nz : ¬ n = 0 := by omega
  by_cases hp : 0 ≤ x
  · have ht : x.tmod n = x % n := Int.tmod_eq_emod_of_nonneg hp
    obtain ⟨y, HY⟩ : ∃ y, Hid (x % n = y) := ⟨_, rfl⟩
    rw [HY.out] at ht e1 e2 ⊢
    have hw : IntKind.i64.wrap y = y := by rw [IntKind.wrap_i64]; omega
    have q0 : ¬ y < 0 := by omega
    have q0' : decide (y < 0) = false := by simp; omega
    have ht2 : x % n = y := HY.out
    go_enter Tryd.func19, Tryd.ntmps19
    go_wp2
    go_ret
    exact ⟨rfl, rfl⟩
  · have ht : x.tmod n = x % n ∧ x % n = 0 ∨ x.tmod n = x % n - n := by
      rw [Int.tmod_eq_emod]
      split
      · rename_i h
        rcases h with h | h
        · omega
        · exact .inl ⟨by simp, Int.emod_eq_zero_of_dvd h⟩
      · right
        rw [show ((n.natAbs : Nat) : Int) = n by omega]
    obtain ⟨y, HY⟩ : ∃ y, Hid (x % n = y) := ⟨_, rfl⟩
    rw [HY.out] at ht e1 e2 ⊢
    clear HY
    rcases ht with ⟨ht, hy⟩ | ht
    · have hw : IntKind.i64.wrap y = y := by rw [IntKind.wrap_i64]; omega
      have q0 : ¬ y < 0 := by omega
      have q0' : decide (y < 0) = false := by simp; omega
      clear hy
      go_enter Tryd.func19, Tryd.ntmps19
      go_wp2
      go_ret
      exact ⟨rfl, rfl⟩
    · have hw : IntKind.i64.wrap (y - n) = y - n := by rw [IntKind.wrap_i64]; omega
      have q0 : y - n < 0 := by omega
      have q0' : decide (y - n < 0) = true := decide_eq_true q0
      have hw2 : y - n + n = y := by omega
      go_enter Tryd.func19, Tryd.ntmps19
      go_wp2
      go_ret
      exact ⟨rfl, rfl⟩

theorem one_text' (W : World) (x : ByteArray) : ReadsT (W.alloc (.cells #[.string x] 9)) (.slice (some ⟨W.heap.size, 0, none⟩) 1 1) [x] := by
  refine ⟨_, 1, rfl, Nat.le_refl _, .inr ⟨W.heap.size, 0, rfl, fun i hi => ?_⟩⟩
  have h0 : i = 0 := by simp at hi; omega
  subst h0
  rw [World.cell?_alloc_at _ _ _ _ rfl]
  rfl
theorem all_snoc {wd : Nat} {hs : List ByteArray} {x : ByteArray} (h : ∀ y ∈ hs, y.size = wd) (hx : x.size = wd) : ∀ y ∈ hs ++ [x], y.size = wd := by
  intro y hy
  rcases List.mem_append.1 hy with h1 | h1
  · exact h y h1
  · rw [List.mem_singleton] at h1; subst h1; exact hx
def strOf : Value → ByteArray
  | .string s => s
  | _ => ByteArray.empty
-- so many hashes out of texts
set_option maxRecDepth 100000 in
set_option maxHeartbeats 3200000 in
theorem filledC (n wd : Nat) (v : Value) (fr : List ByteArray) (w : World) (hR : ReadsT w v fr) (hn : n ≤ 70000) (h1 : 1 ≤ wd) (h2 : wd ≤ 32) (hs : ∀ x ∈ fr, x.size ≤ 140737488351232) (hz : fr.length ≤ 140737488351232) :
    Calls Tryd.prog 25 #[.int .i64 n, .int .i64 wd, v] w fun e w' => (∃ va c hs, e = .returned (.slice va n c) ∧ OwT w' w.heap.size (.slice va n c) hs ∧ hs.length = n ∧ ∀ x ∈ hs, x.size = wd) ∧ Below w.heap.size w w' := by
  have HFS : Hid (∀ j, j < fr.length → (fr.getD j ByteArray.empty).size ≤ 140737488351232) := fun j hj => hs _ (by rw [List.getD_eq_getElem?_getD, List.getElem?_eq_getElem hj]; exact List.getElem_mem _)
  have HRD : Hid (ReadsT w v fr) := hR
  obtain ⟨a, cap, rfl, hcap, hcl⟩ := hR
  have HCL : Hid (∀ (W : World), Below w.heap.size w W → ∀ k, k < fr.length → ∃ bb off, a = some ⟨bb, off, none⟩ ∧ W.cell? ⟨bb, off + k, none⟩ = some (.string (fr.getD k ByteArray.empty))) := fun W hW k hk => by
    rcases hcl with h | ⟨bb, off, ha, hc⟩
    · omega
    · have c := hc k hk
      exact ⟨bb, off, ha, (hW.cell (p := ⟨bb, off + k, none⟩) (World.block_lt_of_cell? _ _ c)).trans c⟩
  clear hcl hs
  obtain ⟨m, HM⟩ : ∃ m, Hid (fr.length = m) := ⟨_, rfl⟩
  rw [HM.out] at HFS HCL hcap hz ⊢
  go_enter Tryd.func25, Tryd.ntmps25
  go_wp2
  go_loopw [7, 8] (fun v i wr => ∃ (k : Nat) (hs : List ByteArray), k ≤ n ∧ i = .int .i64 k ∧ Hid (hs.length = k) ∧ Hid (∀ x ∈ hs, x.size = wd) ∧ Hid (OwT wr w.heap.size v hs ∧ Below w.heap.size w wr)) (fun _ i _ => (n - intOf i).toNat)
  case atStart => exact ⟨0, [], by omega, rfl, rfl, fun x hx => absurd hx (List.not_mem_nil), OwT.nil _ _, Below.refl _ _⟩
  case round =>
    obtain ⟨k, hs, hk, rfl, HK, HA, HH⟩ := hrel
    obtain ⟨oa, oc, hv⟩ := HH.out.1.form
    rw [HK.out] at hv
    subst hv
    obtain ⟨wo, hwo⟩ : ∃ wo, wo = wr := ⟨_, rfl⟩
    subst hwo
    have HO : Hid (OwT wo w.heap.size (.slice oa k oc) hs) := HH.out.1
    have HB : Hid (Below w.heap.size w wo) := HH.out.2
    clear HH
    have hu8 : IntKind.u8.wrap (k : Int) = (k : Int) % 256 := by rw [IntKind.wrap_u8]
    by_cases hlt : k < n
    · have hlt' : (k : Int) < n := by omega
      by_cases hm : m = 0
      · obtain ⟨S0, HS⟩ : ∃ S0 : ByteArray, Hid (S0 = (⟨#[]⟩ : ByteArray)) := ⟨_, rfl⟩
        have HS0 : Hid (S0.size ≤ 140737488351232) := by rw [HS.out]; show (0 : Nat) ≤ _; omega
        have qm : decide ((0 : Int) < (m : Int)) = false := by simp; omega
        have qm2 : ¬ (0 : Int) < m := by omega
        have qm3 : decide (0 < m) = false := by simp; omega
        clear hm
        go_wp2
        rw [← HS.out]
        clear HS
        go_loopw [9] (fun s w3 => ∃ S : ByteArray, s = .string S ∧ Hid (S.size ≤ 140737488351232) ∧ Hid (OwT w3 w.heap.size (.slice oa k oc) hs ∧ Below w.heap.size w w3)) (fun s _ => wd - (strOf s).size)
        case atStart => exact ⟨S0, rfl, HS0.out, HO.out, HB.out⟩
        case round =>
          obtain ⟨S, rfl, HSS, HR3⟩ := hrel
          have hss := HSS.out
          have OR : Hid (OwT wr w.heap.size (.slice oa k oc) hs) := HR3.out.1
          have BR : Hid (Below w.heap.size w wr) := HR3.out.2
          clear HR3
          by_cases hsw : S.size < wd
          · have hsw' : (S.size : Int) < wd := by omega
            have hcv := conv_one wr ((k : Int) % 256)
            have hst : (str [(k : Int) % 256]).size = 1 := str_size _
            have HZ : Hid ((S ++ str [(k : Int) % 256]).size = S.size + 1) := by show _ = _; rw [ByteArray.size_append, hst]
            go_wp2
            go_roundw
            case rel => exact ⟨S ++ str [(k : Int) % 256], rfl, by have := HZ.out; show _ ≤ _; omega, OR.out.later ((Below.refl _ _).alloc (Nat.le_refl _) _), BR.out.alloc BR.out.size _⟩
            case measure => show wd - (S ++ str [(k : Int) % 256]).size < wd - S.size; have := HZ.out; omega
          · have hsw' : ¬ (S.size : Int) < wd := by omega
            have hsw2 : (wd : Int) ≤ S.size := by omega
            have HX : Hid ((S.extract 0 wd).size = wd) := by show _ = _; rw [ByteArray.size_extract]; omega
            have OA : Hid (OwT (wr.alloc (.cells #[.string (S.extract 0 wd)] 9)) w.heap.size (.slice oa k oc) hs) := OR.out.later ((Below.refl _ _).alloc (Nat.le_refl _) _)
            have RA : Hid (ReadsT (wr.alloc (.cells #[.string (S.extract 0 wd)] 9)) (.slice (some ⟨wr.heap.size, 0, none⟩) 1 1) [S.extract 0 wd]) := one_text' wr _
            have BA : Hid (Below w.heap.size w (wr.alloc (.cells #[.string (S.extract 0 wd)] 9))) := BR.out.alloc BR.out.size _
            go_wp2_with (at_builtin; refine wpList_appA rfl _ _ rfl w.heap.size (.slice oa k oc) (.slice (some ⟨wr.heap.size, 0, none⟩) 1 1) hs [S.extract 0 wd] rfl OA.out rfl RA.out (fun k c e => absurd (Value.slice.inj e).1 (by simp)) (by have := HK.out; simp only [List.length_cons, List.length_nil]; omega) BA.out.size ?_; intro v5 w5 o5 b5; have O5 : Hid (OwT w5 w.heap.size v5 (hs ++ [S.extract 0 wd])) := o5; have B5 : Hid (Below w.heap.size w w5) := BA.out.trans b5; clear o5 b5)
            go_roundw
            case rel => exact ⟨k + 1, hs ++ [S.extract 0 wd], by omega, by go_num, by rw [List.length_append, HK.out]; rfl, all_snoc HA.out HX.out, O5.out, B5.out⟩
            case measure => simp [intOf]; omega
      · have hr := Nat.mod_lt k (show 0 < m by omega)
        obtain ⟨bb, off, ha, hc⟩ := HCL.out wo HB.out (k % m) hr
        have hsz := HFS.out (k % m) hr
        subst ha
        obtain ⟨S0, HS⟩ : ∃ S0 : ByteArray, Hid (fr.getD (k % m) ByteArray.empty = S0) := ⟨_, rfl⟩
        rw [HS.out] at hc hsz
        have HS0 : Hid (S0.size ≤ 140737488351232) := hsz
        have qm : (0 : Int) < (m : Int) := by omega
        have qz : ¬ (m : Int) = 0 := by omega
        have qr : (k : Int).tmod (m : Int) = ((k % m : Nat) : Int) := by rw [Int.tmod_eq_emod_of_nonneg (by omega)]; rfl
        have qr1 : (k : Int) % (m : Int) = ((k % m : Nat) : Int) := rfl
        have qr2 : ((k % m : Nat) : Int) < m := by omega
        have qr3 : IntKind.i64.wrap ((k % m : Nat) : Int) = ((k % m : Nat) : Int) := by rw [IntKind.wrap_i64]; omega
        clear hm hr hsz
        obtain ⟨r, HRR⟩ : ∃ r, Hid (k % m = r) := ⟨_, rfl⟩
        rw [HRR.out] at qr qr1 qr2 qr3 hc
        go_wp2
        go_loopw [9] (fun s w3 => ∃ S : ByteArray, s = .string S ∧ Hid (S.size ≤ 140737488351232) ∧ Hid (OwT w3 w.heap.size (.slice oa k oc) hs ∧ Below w.heap.size w w3)) (fun s _ => wd - (strOf s).size)
        case atStart => exact ⟨S0, rfl, HS0.out, HO.out, HB.out⟩
        case round =>
          obtain ⟨S, rfl, HSS, HR3⟩ := hrel
          have hss := HSS.out
          have OR : Hid (OwT wr w.heap.size (.slice oa k oc) hs) := HR3.out.1
          have BR : Hid (Below w.heap.size w wr) := HR3.out.2
          clear HR3
          by_cases hsw : S.size < wd
          · have hsw' : (S.size : Int) < wd := by omega
            have hcv := conv_one wr ((k : Int) % 256)
            have hst : (str [(k : Int) % 256]).size = 1 := str_size _
            have HZ : Hid ((S ++ str [(k : Int) % 256]).size = S.size + 1) := by show _ = _; rw [ByteArray.size_append, hst]
            go_wp2
            go_roundw
            case rel => exact ⟨S ++ str [(k : Int) % 256], rfl, by have := HZ.out; show _ ≤ _; omega, OR.out.later ((Below.refl _ _).alloc (Nat.le_refl _) _), BR.out.alloc BR.out.size _⟩
            case measure => show wd - (S ++ str [(k : Int) % 256]).size < wd - S.size; have := HZ.out; omega
          · have hsw' : ¬ (S.size : Int) < wd := by omega
            have hsw2 : (wd : Int) ≤ S.size := by omega
            have HX : Hid ((S.extract 0 wd).size = wd) := by show _ = _; rw [ByteArray.size_extract]; omega
            have OA : Hid (OwT (wr.alloc (.cells #[.string (S.extract 0 wd)] 9)) w.heap.size (.slice oa k oc) hs) := OR.out.later ((Below.refl _ _).alloc (Nat.le_refl _) _)
            have RA : Hid (ReadsT (wr.alloc (.cells #[.string (S.extract 0 wd)] 9)) (.slice (some ⟨wr.heap.size, 0, none⟩) 1 1) [S.extract 0 wd]) := one_text' wr _
            have BA : Hid (Below w.heap.size w (wr.alloc (.cells #[.string (S.extract 0 wd)] 9))) := BR.out.alloc BR.out.size _
            go_wp2_with (at_builtin; refine wpList_appA rfl _ _ rfl w.heap.size (.slice oa k oc) (.slice (some ⟨wr.heap.size, 0, none⟩) 1 1) hs [S.extract 0 wd] rfl OA.out rfl RA.out (fun k c e => absurd (Value.slice.inj e).1 (by simp)) (by have := HK.out; simp only [List.length_cons, List.length_nil]; omega) BA.out.size ?_; intro v5 w5 o5 b5; have O5 : Hid (OwT w5 w.heap.size v5 (hs ++ [S.extract 0 wd])) := o5; have B5 : Hid (Below w.heap.size w w5) := BA.out.trans b5; clear o5 b5)
            go_roundw
            case rel => exact ⟨k + 1, hs ++ [S.extract 0 wd], by omega, by go_num, by rw [List.length_append, HK.out]; rfl, all_snoc HA.out HX.out, O5.out, B5.out⟩
            case measure => simp [intOf]; omega
    · have hlt' : ¬ (k : Int) < n := by omega
      have hkn : k = n := by omega
      subst hkn
      go_wp2
      go_ret
      exact ⟨⟨oa, oc, rfl, hs, HO.out, HK.out, HA.out⟩, HB.out⟩
end Go.Proofs.YthpfgdhmpeadeaaDoor.e8
