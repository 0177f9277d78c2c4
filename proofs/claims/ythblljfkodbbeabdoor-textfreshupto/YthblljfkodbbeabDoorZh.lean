import Derived.Test.YthblljfkodbbeabDoorZd
import Derived.Test.YthblljfkodbbeabDoorZg
import Derived.Deep.DeepCutAuto
namespace Go.Proofs.YthblljfkodbbeabDoor.zh
open Go.RowKit Go.PlainAid
open Go.Proofs.YthblljfkodbbeabDoor.ta Go.Proofs.YthblljfkodbbeabDoor.tb Go.Proofs.YthblljfkodbbeabDoor.tc Go.Proofs.YthblljfkodbbeabDoor.te Go.Proofs.YthblljfkodbbeabDoor.tj Go.Proofs.YthblljfkodbbeabDoor.va Go.Proofs.YthblljfkodbbeabDoor.vb Go.Proofs.YthblljfkodbbeabDoor.vc Go.Proofs.YthblljfkodbbeabDoor.ya Go.Proofs.YthblljfkodbbeabDoor.yb Go.Proofs.YthblljfkodbbeabDoor.za Go.Proofs.YthblljfkodbbeabDoor.zb Go.Proofs.YthblljfkodbbeabDoor.zc Go.Proofs.YthblljfkodbbeabDoor.ze Go.Proofs.YthblljfkodbbeabDoor.zf Go.Proofs.YthblljfkodbbeabDoor.zg Go.Proofs.YthblljfkodbbeabDoor.zd
set_option linter.unusedVariables false

theorem texts_form {w : World} {B : Nat} {v : Value} {xs : List ByteArray} (h : Texts w B v xs) : ∃ a n, v = .slice a n n := by
  rcases h with ⟨rfl, _⟩ | ⟨g, rfl, _⟩
  · exact ⟨_, _, rfl⟩
  · exact ⟨_, _, rfl⟩
theorem own_form {w : World} {B e size n : Nat} {v : Value} {xs : List Value} (h : w.ownsRow B e size v n xs) : ∃ a m c, v = .slice a m c := by
  rcases h.2 with ⟨rfl, _⟩ | ⟨g, cap, cur, rfl, _⟩
  · exact ⟨_, _, _, rfl⟩
  · exact ⟨_, _, _, rfl⟩
set_option maxHeartbeats 6400000 in
set_option maxRecDepth 100000 in
theorem asked (s line : ByteArray) (hs : s.size ≤ 1048576) (hl : line.size ≤ 1048576) (w : World) :
    Calls Tryd.prog 17 #[.string s, .string line] w fun e w' => e = .returned (.bool true) ∧ Below w.heap.size w w' := by
  obtain ⟨iL, hi, hz0, hz1, hz2⟩ := info_parts hiL
  have HIL : Hid (_ ∧ _ ∧ _ ∧ _) := ⟨hi, hz0, hz1, hz2⟩
  clear hi hz0 hz1 hz2
  go_enter Tryd.func17, Tryd.ntmps17
  go_wp2
  go_loopw [5, 6, 7] (fun lv tv i wr => ∃ (k : Nat) (vs us : List Value) (xss : List (List ByteArray)), k ≤ 5 ∧ i = .int .i64 k ∧ Hid (Quest wr w.heap.size lv tv vs us xss ∧ vs.length = 2 * k ∧ us.length = 2 * k ∧ (∀ xs ∈ xss, xs.length ≤ 1048577) ∧ Below w.heap.size w wr)) (fun _ _ i _ => (5 - intOf i).toNat)
  case atStart => exact ⟨0, [], [], [], by omega, rfl, Quest.nil _ _, rfl, rfl, (fun xs h => by cases h), Below.refl _ _⟩
  case round =>
    obtain ⟨k, vs, us, xss, hk, rfl, HL⟩ := hrel
    have HA : Hid (Quest wr w.heap.size u5 u6 vs us xss) := HL.out.1
    have HVL : Hid (vs.length = 2 * k) := HL.out.2.1
    have HUL : Hid (us.length = 2 * k) := HL.out.2.2.1
    have HXL : Hid (∀ xs ∈ xss, xs.length ≤ 1048577) := HL.out.2.2.2.1
    have HBW : Hid (Below w.heap.size w wr) := HL.out.2.2.2.2
    clear HL
    by_cases hlt : k < 5
    · have hlt' : (k : Int) < 5 := by omega
      by_cases h2 : k = 2
      · have t2 : ((k : Int) == 2) = true := by rw [beq_iff_eq]; omega
        clear h2
        obtain ⟨Y, ec, hY, l1, l2⟩ := two_lines (⟨#[120, 10, 121, 10]⟩ : ByteArray) (by decide)
        obtain ⟨Z, fc, hZ, m1, m2⟩ := two_words (⟨#[97, 32, 98, 32, 99]⟩ : ByteArray) (by decide)
        have L1 : Hid (∀ w, Calls _ _ _ _ _) := l1
        have L2 : Hid (∀ w, Calls _ _ _ _ _) := l2
        have M1 : Hid (∀ w, Calls _ _ _ _ _) := m1
        have M2 : Hid (∀ w, Calls _ _ _ _ _) := m2
        have HYL : Hid (Y.length ≤ 1048577) := hY
        have HZL : Hid (Z.length ≤ 1048577) := hZ
        clear l1 l2 m1 m2 hY hZ
        go_wp2_with fail
        refine (L1.out _).mono ?_
        rintro e w11 ⟨⟨va1, rfl, ta⟩, hb⟩
        obtain ⟨aa1, na1, rfl⟩ := texts_form ta
        have B11 : Hid (Below wr.heap.size wr w11) := hb
        have TA11 : Hid (Texts w11 wr.heap.size (Value.slice aa1 na1 na1) Y) := ta
        clear hb ta
        go_wp2_with fail
        refine (L2.out _).mono ?_
        rintro e w12 ⟨⟨vb1, rfl, ob⟩, hb⟩
        obtain ⟨ab1, nb1, cb1, rfl⟩ := own_form ob
        have B12 : Hid (Below wr.heap.size wr w12) := over B11.out hb
        have TA12 : Hid (Texts w12 wr.heap.size (Value.slice aa1 na1 na1) Y) := TA11.out.later hb
        have OB12 : Hid (w12.ownsRow w11.heap.size 9 1 (Value.slice ab1 nb1 cb1) Y.length (Y.map Value.string)) := ob
        clear hb ob
        have B13 : Hid (Below wr.heap.size wr (w12.alloc (.cells #[Value.slice aa1 na1 na1] 29))) := B12.out.alloc B12.out.size _
        have A13 : Hid (Quest (w12.alloc (.cells #[Value.slice aa1 na1 na1] 29)) w.heap.size u5 u6 vs us xss) := HA.out.later B13.out
        have R13 : Hid (World.ownsRow (w12.alloc (.cells #[Value.slice aa1 na1 na1] 29)) w.heap.size 29 1 u5 (2 * k) vs) := by
          have := A13.out.rl
          rw [HVL.out] at this
          exact this
        have TA13 : Hid (Texts (w12.alloc (.cells #[Value.slice aa1 na1 na1] 29)) w.heap.size (Value.slice aa1 na1 na1) Y) := Texts.down (TA12.out.later ((Below.refl _ _).alloc (Nat.le_refl _) _)) HBW.out.size
        have F13 : Hid (∀ (i : Nat) (v : Value) (g : Nat), vs[i]? = some v → v.ownBlock = some g → (Value.slice aa1 na1 na1).ownBlock ≠ some g) := HA.out.fresh TA11.out
        have OB13 : Hid ((w12.alloc (.cells #[Value.slice aa1 na1 na1] 29)).ownsRow w.heap.size 9 1 (Value.slice ab1 nb1 cb1) Y.length (Y.map Value.string)) := own_down (OB12.out.alloc _) (Nat.le_trans HBW.out.size B11.out.size)
        have BW13 : Hid (Below w.heap.size w (w12.alloc (.cells #[Value.slice aa1 na1 na1] 29))) := HBW.out.trans (B13.out.mono HBW.out.size)
        clear B12 TA12 OB12
        go_upto_region 14 with (at_builtin; refine wpList_append_own_at _ rfl _ _ 50 rfl w.heap.size 29 iL (.slice none 0 0) 1 24 Tryd.underlying50 HIL.out.1 HIL.out.2.1 HIL.out.2.2.1 HIL.out.2.2.2 rfl (by decide) _ (2 * k) _ rfl R13.out ⟨w12.heap.size, 0, none⟩ 1 1 [Value.slice aa1 na1 na1] rfl rfl (fun i u hu => by cases i with | zero => (simp at hu; rw [← hu]; exact new_cell _ _ _) | succ i => simp at hu) (fun u hu => by simp at hu; subst hu; rfl) (by unfold maxLen; omega) (by omega) BW13.out.size ?_; intro lv1 w14 ho hg hnn hat; have A14 : Hid (Quest w14 w.heap.size lv1 u6 (vs ++ [Value.slice aa1 na1 na1]) us (xss ++ [Y])) := A13.out.list HVL.out TA13.out F13.out ho hg hat; have OB14 : Hid (w14.ownsRow w.heap.size 9 1 (Value.slice ab1 nb1 cb1) Y.length (Y.map Value.string)) := own_other OB13.out A13.out.rl str_strs hg; have BW14 : Hid (Below w.heap.size w w14) := Below.grown BW13.out hg BW13.out.size (fun j hj => (R13.out.lt _ hj).1); clear ho hg hnn hat)
        obtain ⟨vs1, HVS1⟩ : ∃ vs', Hid (vs ++ [Value.slice aa1 na1 na1] = vs') := ⟨_, rfl⟩
        obtain ⟨xss1, HXS1⟩ : ∃ xs', Hid (xss ++ [Y] = xs') := ⟨_, rfl⟩
        have HXK1 : Hid (xss1[2 * k]? = some Y) := by
          show _ = _
          have e : xss.length = 2 * k := (HA.out.lx).trans HVL.out
          rw [← HXS1.out, List.getElem?_append_right (by omega), e, Nat.sub_self]
          rfl
        have HVL1 : Hid (vs1.length = 2 * k + 1) := by
          show _ = _
          rw [← HVS1.out, List.length_append, HVL.out]
          rfl
        rw [HVS1.out, HXS1.out] at A14
        clear A13 R13 TA13 F13 OB13 B13 B11 TA11
        have A15 : Hid (Quest (w14.alloc (.cells #[Value.slice ab1 nb1 cb1] 29)) w.heap.size lv1 u6 vs1 us xss1) := A14.out.later ((Below.refl _ _).alloc (Nat.le_refl _) _)
        have R15 : Hid (World.ownsRow (w14.alloc (.cells #[Value.slice ab1 nb1 cb1] 29)) w.heap.size 29 1 u6 (2 * k) us) := by
          have := A15.out.rt
          rw [HUL.out] at this
          exact this
        have OB15 : Hid ((w14.alloc (.cells #[Value.slice ab1 nb1 cb1] 29)).ownsRow w.heap.size 9 1 (Value.slice ab1 nb1 cb1) Y.length (Y.map Value.string)) := OB14.out.alloc _
        have BW15 : Hid (Below w.heap.size w (w14.alloc (.cells #[Value.slice ab1 nb1 cb1] 29))) := BW14.out.alloc BW14.out.size _
        have HLT1 : Hid (2 * k < vs1.length) := by show _ < _; rw [HVL1.out]; exact Nat.lt_succ_self _
        go_upto_region 15 with (at_builtin; refine wpList_append_own_at _ rfl _ _ 50 rfl w.heap.size 29 iL (.slice none 0 0) 1 24 Tryd.underlying50 HIL.out.1 HIL.out.2.1 HIL.out.2.2.1 HIL.out.2.2.2 rfl (by decide) _ (2 * k) _ rfl R15.out ⟨w14.heap.size, 0, none⟩ 1 1 [Value.slice ab1 nb1 cb1] rfl rfl (fun i u hu => by cases i with | zero => (simp at hu; rw [← hu]; exact new_cell _ _ _) | succ i => simp at hu) (fun u hu => by simp at hu; subst hu; rfl) (by unfold maxLen; omega) (by omega) BW15.out.size ?_; intro tv1 w16 ho hg hnn hat; have A16 : Hid (Quest w16 w.heap.size lv1 tv1 vs1 (us ++ [Value.slice ab1 nb1 cb1]) xss1) := A15.out.want HUL.out HLT1.out HXK1.out OB15.out ho hg hat; have BW16 : Hid (Below w.heap.size w w16) := Below.grown BW15.out hg BW15.out.size (fun j hj => (R15.out.lt _ hj).1); clear ho hg hnn hat)
        obtain ⟨us1, HUS1⟩ : ∃ us', Hid (us ++ [Value.slice ab1 nb1 cb1] = us') := ⟨_, rfl⟩
        have HUL1 : Hid (us1.length = 2 * k + 1) := by
          show _ = _
          rw [← HUS1.out, List.length_append, HUL.out]
          rfl
        rw [HUS1.out] at A16
        clear A14 A15 R15 OB14 OB15 BW13 BW14 BW15 HLT1 HXK1
        go_wp2_with fail
        refine (M1.out _).mono ?_
        rintro e w21 ⟨⟨va2, rfl, ta⟩, hb⟩
        obtain ⟨aa2, na2, rfl⟩ := texts_form ta
        have B21 : Hid (Below w16.heap.size w16 w21) := hb
        have TA21 : Hid (Texts w21 w16.heap.size (Value.slice aa2 na2 na2) Z) := ta
        clear hb ta
        go_wp2_with fail
        refine (M2.out _).mono ?_
        rintro e w22 ⟨⟨vb2, rfl, ob⟩, hb⟩
        obtain ⟨ab2, nb2, cb2, rfl⟩ := own_form ob
        have B22 : Hid (Below w16.heap.size w16 w22) := over B21.out hb
        have TA22 : Hid (Texts w22 w16.heap.size (Value.slice aa2 na2 na2) Z) := TA21.out.later hb
        have OB22 : Hid (w22.ownsRow w21.heap.size 9 1 (Value.slice ab2 nb2 cb2) Z.length (Z.map Value.string)) := ob
        clear hb ob
        have B23 : Hid (Below w16.heap.size w16 (w22.alloc (.cells #[Value.slice aa2 na2 na2] 29))) := B22.out.alloc B22.out.size _
        have A23 : Hid (Quest (w22.alloc (.cells #[Value.slice aa2 na2 na2] 29)) w.heap.size lv1 tv1 vs1 us1 xss1) := A16.out.later B23.out
        have R23 : Hid (World.ownsRow (w22.alloc (.cells #[Value.slice aa2 na2 na2] 29)) w.heap.size 29 1 lv1 (2 * k + 1) vs1) := by
          have := A23.out.rl
          rw [HVL1.out] at this
          exact this
        have TA23 : Hid (Texts (w22.alloc (.cells #[Value.slice aa2 na2 na2] 29)) w.heap.size (Value.slice aa2 na2 na2) Z) := Texts.down (TA22.out.later ((Below.refl _ _).alloc (Nat.le_refl _) _)) BW16.out.size
        have F23 : Hid (∀ (i : Nat) (v : Value) (g : Nat), vs1[i]? = some v → v.ownBlock = some g → (Value.slice aa2 na2 na2).ownBlock ≠ some g) := A16.out.fresh TA21.out
        have OB23 : Hid ((w22.alloc (.cells #[Value.slice aa2 na2 na2] 29)).ownsRow w.heap.size 9 1 (Value.slice ab2 nb2 cb2) Z.length (Z.map Value.string)) := own_down (OB22.out.alloc _) (Nat.le_trans BW16.out.size B21.out.size)
        have BW23 : Hid (Below w.heap.size w (w22.alloc (.cells #[Value.slice aa2 na2 na2] 29))) := BW16.out.trans (B23.out.mono BW16.out.size)
        clear B22 TA22 OB22
        go_upto_region 18 with (at_builtin; refine wpList_append_own_at _ rfl _ _ 50 rfl w.heap.size 29 iL (.slice none 0 0) 1 24 Tryd.underlying50 HIL.out.1 HIL.out.2.1 HIL.out.2.2.1 HIL.out.2.2.2 rfl (by decide) _ (2 * k + 1) _ rfl R23.out ⟨w22.heap.size, 0, none⟩ 1 1 [Value.slice aa2 na2 na2] rfl rfl (fun i u hu => by cases i with | zero => (simp at hu; rw [← hu]; exact new_cell _ _ _) | succ i => simp at hu) (fun u hu => by simp at hu; subst hu; rfl) (by unfold maxLen; omega) (by omega) BW23.out.size ?_; intro lv2 w24 ho hg hnn hat; have A24 : Hid (Quest w24 w.heap.size lv2 tv1 (vs1 ++ [Value.slice aa2 na2 na2]) us1 (xss1 ++ [Z])) := A23.out.list HVL1.out TA23.out F23.out ho hg hat; have OB24 : Hid (w24.ownsRow w.heap.size 9 1 (Value.slice ab2 nb2 cb2) Z.length (Z.map Value.string)) := own_other OB23.out A23.out.rl str_strs hg; have BW24 : Hid (Below w.heap.size w w24) := Below.grown BW23.out hg BW23.out.size (fun j hj => (R23.out.lt _ hj).1); clear ho hg hnn hat)
        obtain ⟨vs2, HVS2⟩ : ∃ vs', Hid (vs1 ++ [Value.slice aa2 na2 na2] = vs') := ⟨_, rfl⟩
        obtain ⟨xss2, HXS2⟩ : ∃ xs', Hid (xss1 ++ [Z] = xs') := ⟨_, rfl⟩
        have HXK2 : Hid (xss2[2 * k + 1]? = some Z) := by
          show _ = _
          have e : xss1.length = 2 * k + 1 := (A16.out.lx).trans HVL1.out
          rw [← HXS2.out, List.getElem?_append_right (by omega), e, Nat.sub_self]
          rfl
        have HVL2 : Hid (vs2.length = 2 * k + 1 + 1) := by
          show _ = _
          rw [← HVS2.out, List.length_append, HVL1.out]
          rfl
        rw [HVS2.out, HXS2.out] at A24
        clear A23 R23 TA23 F23 OB23 B23 B21 TA21
        have A25 : Hid (Quest (w24.alloc (.cells #[Value.slice ab2 nb2 cb2] 29)) w.heap.size lv2 tv1 vs2 us1 xss2) := A24.out.later ((Below.refl _ _).alloc (Nat.le_refl _) _)
        have R25 : Hid (World.ownsRow (w24.alloc (.cells #[Value.slice ab2 nb2 cb2] 29)) w.heap.size 29 1 tv1 (2 * k + 1) us1) := by
          have := A25.out.rt
          rw [HUL1.out] at this
          exact this
        have OB25 : Hid ((w24.alloc (.cells #[Value.slice ab2 nb2 cb2] 29)).ownsRow w.heap.size 9 1 (Value.slice ab2 nb2 cb2) Z.length (Z.map Value.string)) := OB24.out.alloc _
        have BW25 : Hid (Below w.heap.size w (w24.alloc (.cells #[Value.slice ab2 nb2 cb2] 29))) := BW24.out.alloc BW24.out.size _
        have HLT2 : Hid (2 * k + 1 < vs2.length) := by show _ < _; rw [HVL2.out]; exact Nat.lt_succ_self _
        go_wp2_with (at_builtin; refine wpList_append_own_at _ rfl _ _ 50 rfl w.heap.size 29 iL (.slice none 0 0) 1 24 Tryd.underlying50 HIL.out.1 HIL.out.2.1 HIL.out.2.2.1 HIL.out.2.2.2 rfl (by decide) _ (2 * k + 1) _ rfl R25.out ⟨w24.heap.size, 0, none⟩ 1 1 [Value.slice ab2 nb2 cb2] rfl rfl (fun i u hu => by cases i with | zero => (simp at hu; rw [← hu]; exact new_cell _ _ _) | succ i => simp at hu) (fun u hu => by simp at hu; subst hu; rfl) (by unfold maxLen; omega) (by omega) BW25.out.size ?_; intro tv2 w26 ho hg hnn hat; have A26 : Hid (Quest w26 w.heap.size lv2 tv2 vs2 (us1 ++ [Value.slice ab2 nb2 cb2]) xss2) := A25.out.want HUL1.out HLT2.out HXK2.out OB25.out ho hg hat; have BW26 : Hid (Below w.heap.size w w26) := Below.grown BW25.out hg BW25.out.size (fun j hj => (R25.out.lt _ hj).1); clear ho hg hnn hat)
        obtain ⟨us2, HUS2⟩ : ∃ us', Hid (us1 ++ [Value.slice ab2 nb2 cb2] = us') := ⟨_, rfl⟩
        have HUL2 : Hid (us2.length = 2 * k + 1 + 1) := by
          show _ = _
          rw [← HUS2.out, List.length_append, HUL1.out]
          rfl
        rw [HUS2.out] at A26
        clear A24 A25 R25 OB24 OB25 BW23 BW24 BW25 HLT2 HXK2
        have HXL2 : Hid (∀ xs ∈ xss2, xs.length ≤ 1048577) := by
          intro xs hx
          rw [← HXS2.out, ← HXS1.out] at hx
          rcases List.mem_append.1 hx with h | h
          · rcases List.mem_append.1 h with h | h
            · exact HXL.out xs h
            · rw [List.mem_singleton.1 h]; exact HYL.out
          · rw [List.mem_singleton.1 h]; exact HZL.out
        go_roundw
        case rel => exact ⟨k + 1, vs2, us2, xss2, by omega, by go_num, A26.out, (by rw [HVL2.out]; omega), (by rw [HUL2.out]; omega), HXL2.out, BW26.out⟩
        case measure => simp [intOf]; omega
      · by_cases h3 : k = 3
        · have t2 : ((k : Int) == 2) = false := beq_eq_false_iff_ne.2 (by omega)
          have t3 : ((k : Int) == 3) = true := by rw [beq_iff_eq]; omega
          clear h2 h3
          obtain ⟨Y, ec, hY, l1, l2⟩ := two_lines (⟨#[120, 10, 121, 10]⟩ : ByteArray) (by decide)
          obtain ⟨Z, fc, hZ, m1, m2⟩ := two_words (⟨#[97, 32, 98, 32, 99]⟩ : ByteArray) (by decide)
          have L1 : Hid (∀ w, Calls _ _ _ _ _) := l1
          have L2 : Hid (∀ w, Calls _ _ _ _ _) := l2
          have M1 : Hid (∀ w, Calls _ _ _ _ _) := m1
          have M2 : Hid (∀ w, Calls _ _ _ _ _) := m2
          have HYL : Hid (Y.length ≤ 1048577) := hY
          have HZL : Hid (Z.length ≤ 1048577) := hZ
          clear l1 l2 m1 m2 hY hZ
          go_wp2_with fail
          refine (L1.out _).mono ?_
          rintro e w11 ⟨⟨va1, rfl, ta⟩, hb⟩
          obtain ⟨aa1, na1, rfl⟩ := texts_form ta
          have B11 : Hid (Below wr.heap.size wr w11) := hb
          have TA11 : Hid (Texts w11 wr.heap.size (Value.slice aa1 na1 na1) Y) := ta
          clear hb ta
          go_wp2_with fail
          refine (L2.out _).mono ?_
          rintro e w12 ⟨⟨vb1, rfl, ob⟩, hb⟩
          obtain ⟨ab1, nb1, cb1, rfl⟩ := own_form ob
          have B12 : Hid (Below wr.heap.size wr w12) := over B11.out hb
          have TA12 : Hid (Texts w12 wr.heap.size (Value.slice aa1 na1 na1) Y) := TA11.out.later hb
          have OB12 : Hid (w12.ownsRow w11.heap.size 9 1 (Value.slice ab1 nb1 cb1) Y.length (Y.map Value.string)) := ob
          clear hb ob
          have B13 : Hid (Below wr.heap.size wr (w12.alloc (.cells #[Value.slice aa1 na1 na1] 29))) := B12.out.alloc B12.out.size _
          have A13 : Hid (Quest (w12.alloc (.cells #[Value.slice aa1 na1 na1] 29)) w.heap.size u5 u6 vs us xss) := HA.out.later B13.out
          have R13 : Hid (World.ownsRow (w12.alloc (.cells #[Value.slice aa1 na1 na1] 29)) w.heap.size 29 1 u5 (2 * k) vs) := by
            have := A13.out.rl
            rw [HVL.out] at this
            exact this
          have TA13 : Hid (Texts (w12.alloc (.cells #[Value.slice aa1 na1 na1] 29)) w.heap.size (Value.slice aa1 na1 na1) Y) := Texts.down (TA12.out.later ((Below.refl _ _).alloc (Nat.le_refl _) _)) HBW.out.size
          have F13 : Hid (∀ (i : Nat) (v : Value) (g : Nat), vs[i]? = some v → v.ownBlock = some g → (Value.slice aa1 na1 na1).ownBlock ≠ some g) := HA.out.fresh TA11.out
          have OB13 : Hid ((w12.alloc (.cells #[Value.slice aa1 na1 na1] 29)).ownsRow w.heap.size 9 1 (Value.slice ab1 nb1 cb1) Y.length (Y.map Value.string)) := own_down (OB12.out.alloc _) (Nat.le_trans HBW.out.size B11.out.size)
          have BW13 : Hid (Below w.heap.size w (w12.alloc (.cells #[Value.slice aa1 na1 na1] 29))) := HBW.out.trans (B13.out.mono HBW.out.size)
          clear B12 TA12 OB12
          go_upto_region 14 with (at_builtin; refine wpList_append_own_at _ rfl _ _ 50 rfl w.heap.size 29 iL (.slice none 0 0) 1 24 Tryd.underlying50 HIL.out.1 HIL.out.2.1 HIL.out.2.2.1 HIL.out.2.2.2 rfl (by decide) _ (2 * k) _ rfl R13.out ⟨w12.heap.size, 0, none⟩ 1 1 [Value.slice aa1 na1 na1] rfl rfl (fun i u hu => by cases i with | zero => (simp at hu; rw [← hu]; exact new_cell _ _ _) | succ i => simp at hu) (fun u hu => by simp at hu; subst hu; rfl) (by unfold maxLen; omega) (by omega) BW13.out.size ?_; intro lv1 w14 ho hg hnn hat; have A14 : Hid (Quest w14 w.heap.size lv1 u6 (vs ++ [Value.slice aa1 na1 na1]) us (xss ++ [Y])) := A13.out.list HVL.out TA13.out F13.out ho hg hat; have OB14 : Hid (w14.ownsRow w.heap.size 9 1 (Value.slice ab1 nb1 cb1) Y.length (Y.map Value.string)) := own_other OB13.out A13.out.rl str_strs hg; have BW14 : Hid (Below w.heap.size w w14) := Below.grown BW13.out hg BW13.out.size (fun j hj => (R13.out.lt _ hj).1); clear ho hg hnn hat)
          obtain ⟨vs1, HVS1⟩ : ∃ vs', Hid (vs ++ [Value.slice aa1 na1 na1] = vs') := ⟨_, rfl⟩
          obtain ⟨xss1, HXS1⟩ : ∃ xs', Hid (xss ++ [Y] = xs') := ⟨_, rfl⟩
          have HXK1 : Hid (xss1[2 * k]? = some Y) := by
            show _ = _
            have e : xss.length = 2 * k := (HA.out.lx).trans HVL.out
            rw [← HXS1.out, List.getElem?_append_right (by omega), e, Nat.sub_self]
            rfl
          have HVL1 : Hid (vs1.length = 2 * k + 1) := by
            show _ = _
            rw [← HVS1.out, List.length_append, HVL.out]
            rfl
          rw [HVS1.out, HXS1.out] at A14
          clear A13 R13 TA13 F13 OB13 B13 B11 TA11
          have A15 : Hid (Quest (w14.alloc (.cells #[Value.slice ab1 nb1 cb1] 29)) w.heap.size lv1 u6 vs1 us xss1) := A14.out.later ((Below.refl _ _).alloc (Nat.le_refl _) _)
          have R15 : Hid (World.ownsRow (w14.alloc (.cells #[Value.slice ab1 nb1 cb1] 29)) w.heap.size 29 1 u6 (2 * k) us) := by
            have := A15.out.rt
            rw [HUL.out] at this
            exact this
          have OB15 : Hid ((w14.alloc (.cells #[Value.slice ab1 nb1 cb1] 29)).ownsRow w.heap.size 9 1 (Value.slice ab1 nb1 cb1) Y.length (Y.map Value.string)) := OB14.out.alloc _
          have BW15 : Hid (Below w.heap.size w (w14.alloc (.cells #[Value.slice ab1 nb1 cb1] 29))) := BW14.out.alloc BW14.out.size _
          have HLT1 : Hid (2 * k < vs1.length) := by show _ < _; rw [HVL1.out]; exact Nat.lt_succ_self _
          go_upto_region 15 with (at_builtin; refine wpList_append_own_at _ rfl _ _ 50 rfl w.heap.size 29 iL (.slice none 0 0) 1 24 Tryd.underlying50 HIL.out.1 HIL.out.2.1 HIL.out.2.2.1 HIL.out.2.2.2 rfl (by decide) _ (2 * k) _ rfl R15.out ⟨w14.heap.size, 0, none⟩ 1 1 [Value.slice ab1 nb1 cb1] rfl rfl (fun i u hu => by cases i with | zero => (simp at hu; rw [← hu]; exact new_cell _ _ _) | succ i => simp at hu) (fun u hu => by simp at hu; subst hu; rfl) (by unfold maxLen; omega) (by omega) BW15.out.size ?_; intro tv1 w16 ho hg hnn hat; have A16 : Hid (Quest w16 w.heap.size lv1 tv1 vs1 (us ++ [Value.slice ab1 nb1 cb1]) xss1) := A15.out.want HUL.out HLT1.out HXK1.out OB15.out ho hg hat; have BW16 : Hid (Below w.heap.size w w16) := Below.grown BW15.out hg BW15.out.size (fun j hj => (R15.out.lt _ hj).1); clear ho hg hnn hat)
          obtain ⟨us1, HUS1⟩ : ∃ us', Hid (us ++ [Value.slice ab1 nb1 cb1] = us') := ⟨_, rfl⟩
          have HUL1 : Hid (us1.length = 2 * k + 1) := by
            show _ = _
            rw [← HUS1.out, List.length_append, HUL.out]
            rfl
          rw [HUS1.out] at A16
          clear A14 A15 R15 OB14 OB15 BW13 BW14 BW15 HLT1 HXK1
          go_wp2_with fail
          refine (M1.out _).mono ?_
          rintro e w21 ⟨⟨va2, rfl, ta⟩, hb⟩
          obtain ⟨aa2, na2, rfl⟩ := texts_form ta
          have B21 : Hid (Below w16.heap.size w16 w21) := hb
          have TA21 : Hid (Texts w21 w16.heap.size (Value.slice aa2 na2 na2) Z) := ta
          clear hb ta
          go_wp2_with fail
          refine (M2.out _).mono ?_
          rintro e w22 ⟨⟨vb2, rfl, ob⟩, hb⟩
          obtain ⟨ab2, nb2, cb2, rfl⟩ := own_form ob
          have B22 : Hid (Below w16.heap.size w16 w22) := over B21.out hb
          have TA22 : Hid (Texts w22 w16.heap.size (Value.slice aa2 na2 na2) Z) := TA21.out.later hb
          have OB22 : Hid (w22.ownsRow w21.heap.size 9 1 (Value.slice ab2 nb2 cb2) Z.length (Z.map Value.string)) := ob
          clear hb ob
          have B23 : Hid (Below w16.heap.size w16 (w22.alloc (.cells #[Value.slice aa2 na2 na2] 29))) := B22.out.alloc B22.out.size _
          have A23 : Hid (Quest (w22.alloc (.cells #[Value.slice aa2 na2 na2] 29)) w.heap.size lv1 tv1 vs1 us1 xss1) := A16.out.later B23.out
          have R23 : Hid (World.ownsRow (w22.alloc (.cells #[Value.slice aa2 na2 na2] 29)) w.heap.size 29 1 lv1 (2 * k + 1) vs1) := by
            have := A23.out.rl
            rw [HVL1.out] at this
            exact this
          have TA23 : Hid (Texts (w22.alloc (.cells #[Value.slice aa2 na2 na2] 29)) w.heap.size (Value.slice aa2 na2 na2) Z) := Texts.down (TA22.out.later ((Below.refl _ _).alloc (Nat.le_refl _) _)) BW16.out.size
          have F23 : Hid (∀ (i : Nat) (v : Value) (g : Nat), vs1[i]? = some v → v.ownBlock = some g → (Value.slice aa2 na2 na2).ownBlock ≠ some g) := A16.out.fresh TA21.out
          have OB23 : Hid ((w22.alloc (.cells #[Value.slice aa2 na2 na2] 29)).ownsRow w.heap.size 9 1 (Value.slice ab2 nb2 cb2) Z.length (Z.map Value.string)) := own_down (OB22.out.alloc _) (Nat.le_trans BW16.out.size B21.out.size)
          have BW23 : Hid (Below w.heap.size w (w22.alloc (.cells #[Value.slice aa2 na2 na2] 29))) := BW16.out.trans (B23.out.mono BW16.out.size)
          clear B22 TA22 OB22
          go_upto_region 18 with (at_builtin; refine wpList_append_own_at _ rfl _ _ 50 rfl w.heap.size 29 iL (.slice none 0 0) 1 24 Tryd.underlying50 HIL.out.1 HIL.out.2.1 HIL.out.2.2.1 HIL.out.2.2.2 rfl (by decide) _ (2 * k + 1) _ rfl R23.out ⟨w22.heap.size, 0, none⟩ 1 1 [Value.slice aa2 na2 na2] rfl rfl (fun i u hu => by cases i with | zero => (simp at hu; rw [← hu]; exact new_cell _ _ _) | succ i => simp at hu) (fun u hu => by simp at hu; subst hu; rfl) (by unfold maxLen; omega) (by omega) BW23.out.size ?_; intro lv2 w24 ho hg hnn hat; have A24 : Hid (Quest w24 w.heap.size lv2 tv1 (vs1 ++ [Value.slice aa2 na2 na2]) us1 (xss1 ++ [Z])) := A23.out.list HVL1.out TA23.out F23.out ho hg hat; have OB24 : Hid (w24.ownsRow w.heap.size 9 1 (Value.slice ab2 nb2 cb2) Z.length (Z.map Value.string)) := own_other OB23.out A23.out.rl str_strs hg; have BW24 : Hid (Below w.heap.size w w24) := Below.grown BW23.out hg BW23.out.size (fun j hj => (R23.out.lt _ hj).1); clear ho hg hnn hat)
          obtain ⟨vs2, HVS2⟩ : ∃ vs', Hid (vs1 ++ [Value.slice aa2 na2 na2] = vs') := ⟨_, rfl⟩
          obtain ⟨xss2, HXS2⟩ : ∃ xs', Hid (xss1 ++ [Z] = xs') := ⟨_, rfl⟩
          have HXK2 : Hid (xss2[2 * k + 1]? = some Z) := by
            show _ = _
            have e : xss1.length = 2 * k + 1 := (A16.out.lx).trans HVL1.out
            rw [← HXS2.out, List.getElem?_append_right (by omega), e, Nat.sub_self]
            rfl
          have HVL2 : Hid (vs2.length = 2 * k + 1 + 1) := by
            show _ = _
            rw [← HVS2.out, List.length_append, HVL1.out]
            rfl
          rw [HVS2.out, HXS2.out] at A24
          clear A23 R23 TA23 F23 OB23 B23 B21 TA21
          have A25 : Hid (Quest (w24.alloc (.cells #[Value.slice ab2 nb2 cb2] 29)) w.heap.size lv2 tv1 vs2 us1 xss2) := A24.out.later ((Below.refl _ _).alloc (Nat.le_refl _) _)
          have R25 : Hid (World.ownsRow (w24.alloc (.cells #[Value.slice ab2 nb2 cb2] 29)) w.heap.size 29 1 tv1 (2 * k + 1) us1) := by
            have := A25.out.rt
            rw [HUL1.out] at this
            exact this
          have OB25 : Hid ((w24.alloc (.cells #[Value.slice ab2 nb2 cb2] 29)).ownsRow w.heap.size 9 1 (Value.slice ab2 nb2 cb2) Z.length (Z.map Value.string)) := OB24.out.alloc _
          have BW25 : Hid (Below w.heap.size w (w24.alloc (.cells #[Value.slice ab2 nb2 cb2] 29))) := BW24.out.alloc BW24.out.size _
          have HLT2 : Hid (2 * k + 1 < vs2.length) := by show _ < _; rw [HVL2.out]; exact Nat.lt_succ_self _
          go_wp2_with (at_builtin; refine wpList_append_own_at _ rfl _ _ 50 rfl w.heap.size 29 iL (.slice none 0 0) 1 24 Tryd.underlying50 HIL.out.1 HIL.out.2.1 HIL.out.2.2.1 HIL.out.2.2.2 rfl (by decide) _ (2 * k + 1) _ rfl R25.out ⟨w24.heap.size, 0, none⟩ 1 1 [Value.slice ab2 nb2 cb2] rfl rfl (fun i u hu => by cases i with | zero => (simp at hu; rw [← hu]; exact new_cell _ _ _) | succ i => simp at hu) (fun u hu => by simp at hu; subst hu; rfl) (by unfold maxLen; omega) (by omega) BW25.out.size ?_; intro tv2 w26 ho hg hnn hat; have A26 : Hid (Quest w26 w.heap.size lv2 tv2 vs2 (us1 ++ [Value.slice ab2 nb2 cb2]) xss2) := A25.out.want HUL1.out HLT2.out HXK2.out OB25.out ho hg hat; have BW26 : Hid (Below w.heap.size w w26) := Below.grown BW25.out hg BW25.out.size (fun j hj => (R25.out.lt _ hj).1); clear ho hg hnn hat)
          obtain ⟨us2, HUS2⟩ : ∃ us', Hid (us1 ++ [Value.slice ab2 nb2 cb2] = us') := ⟨_, rfl⟩
          have HUL2 : Hid (us2.length = 2 * k + 1 + 1) := by
            show _ = _
            rw [← HUS2.out, List.length_append, HUL1.out]
            rfl
          rw [HUS2.out] at A26
          clear A24 A25 R25 OB24 OB25 BW23 BW24 BW25 HLT2 HXK2
          have HXL2 : Hid (∀ xs ∈ xss2, xs.length ≤ 1048577) := by
            intro xs hx
            rw [← HXS2.out, ← HXS1.out] at hx
            rcases List.mem_append.1 hx with h | h
            · rcases List.mem_append.1 h with h | h
              · exact HXL.out xs h
              · rw [List.mem_singleton.1 h]; exact HYL.out
            · rw [List.mem_singleton.1 h]; exact HZL.out
          go_roundw
          case rel => exact ⟨k + 1, vs2, us2, xss2, by omega, by go_num, A26.out, (by rw [HVL2.out]; omega), (by rw [HUL2.out]; omega), HXL2.out, BW26.out⟩
          case measure => simp [intOf]; omega
        · have t2 : ((k : Int) == 2) = false := beq_eq_false_iff_ne.2 (by omega)
          have t3 : ((k : Int) == 3) = false := beq_eq_false_iff_ne.2 (by omega)
          clear h2 h3
          obtain ⟨Y, ec, hY, l1, l2⟩ := two_lines s hs
          obtain ⟨Z, fc, hZ, m1, m2⟩ := two_words line hl
          have L1 : Hid (∀ w, Calls _ _ _ _ _) := l1
          have L2 : Hid (∀ w, Calls _ _ _ _ _) := l2
          have M1 : Hid (∀ w, Calls _ _ _ _ _) := m1
          have M2 : Hid (∀ w, Calls _ _ _ _ _) := m2
          have HYL : Hid (Y.length ≤ 1048577) := hY
          have HZL : Hid (Z.length ≤ 1048577) := hZ
          clear l1 l2 m1 m2 hY hZ
          go_wp2_with fail
          refine (L1.out _).mono ?_
          rintro e w11 ⟨⟨va1, rfl, ta⟩, hb⟩
          obtain ⟨aa1, na1, rfl⟩ := texts_form ta
          have B11 : Hid (Below wr.heap.size wr w11) := hb
          have TA11 : Hid (Texts w11 wr.heap.size (Value.slice aa1 na1 na1) Y) := ta
          clear hb ta
          go_wp2_with fail
          refine (L2.out _).mono ?_
          rintro e w12 ⟨⟨vb1, rfl, ob⟩, hb⟩
          obtain ⟨ab1, nb1, cb1, rfl⟩ := own_form ob
          have B12 : Hid (Below wr.heap.size wr w12) := over B11.out hb
          have TA12 : Hid (Texts w12 wr.heap.size (Value.slice aa1 na1 na1) Y) := TA11.out.later hb
          have OB12 : Hid (w12.ownsRow w11.heap.size 9 1 (Value.slice ab1 nb1 cb1) Y.length (Y.map Value.string)) := ob
          clear hb ob
          have B13 : Hid (Below wr.heap.size wr (w12.alloc (.cells #[Value.slice aa1 na1 na1] 29))) := B12.out.alloc B12.out.size _
          have A13 : Hid (Quest (w12.alloc (.cells #[Value.slice aa1 na1 na1] 29)) w.heap.size u5 u6 vs us xss) := HA.out.later B13.out
          have R13 : Hid (World.ownsRow (w12.alloc (.cells #[Value.slice aa1 na1 na1] 29)) w.heap.size 29 1 u5 (2 * k) vs) := by
            have := A13.out.rl
            rw [HVL.out] at this
            exact this
          have TA13 : Hid (Texts (w12.alloc (.cells #[Value.slice aa1 na1 na1] 29)) w.heap.size (Value.slice aa1 na1 na1) Y) := Texts.down (TA12.out.later ((Below.refl _ _).alloc (Nat.le_refl _) _)) HBW.out.size
          have F13 : Hid (∀ (i : Nat) (v : Value) (g : Nat), vs[i]? = some v → v.ownBlock = some g → (Value.slice aa1 na1 na1).ownBlock ≠ some g) := HA.out.fresh TA11.out
          have OB13 : Hid ((w12.alloc (.cells #[Value.slice aa1 na1 na1] 29)).ownsRow w.heap.size 9 1 (Value.slice ab1 nb1 cb1) Y.length (Y.map Value.string)) := own_down (OB12.out.alloc _) (Nat.le_trans HBW.out.size B11.out.size)
          have BW13 : Hid (Below w.heap.size w (w12.alloc (.cells #[Value.slice aa1 na1 na1] 29))) := HBW.out.trans (B13.out.mono HBW.out.size)
          clear B12 TA12 OB12
          go_upto_region 14 with (at_builtin; refine wpList_append_own_at _ rfl _ _ 50 rfl w.heap.size 29 iL (.slice none 0 0) 1 24 Tryd.underlying50 HIL.out.1 HIL.out.2.1 HIL.out.2.2.1 HIL.out.2.2.2 rfl (by decide) _ (2 * k) _ rfl R13.out ⟨w12.heap.size, 0, none⟩ 1 1 [Value.slice aa1 na1 na1] rfl rfl (fun i u hu => by cases i with | zero => (simp at hu; rw [← hu]; exact new_cell _ _ _) | succ i => simp at hu) (fun u hu => by simp at hu; subst hu; rfl) (by unfold maxLen; omega) (by omega) BW13.out.size ?_; intro lv1 w14 ho hg hnn hat; have A14 : Hid (Quest w14 w.heap.size lv1 u6 (vs ++ [Value.slice aa1 na1 na1]) us (xss ++ [Y])) := A13.out.list HVL.out TA13.out F13.out ho hg hat; have OB14 : Hid (w14.ownsRow w.heap.size 9 1 (Value.slice ab1 nb1 cb1) Y.length (Y.map Value.string)) := own_other OB13.out A13.out.rl str_strs hg; have BW14 : Hid (Below w.heap.size w w14) := Below.grown BW13.out hg BW13.out.size (fun j hj => (R13.out.lt _ hj).1); clear ho hg hnn hat)
          obtain ⟨vs1, HVS1⟩ : ∃ vs', Hid (vs ++ [Value.slice aa1 na1 na1] = vs') := ⟨_, rfl⟩
          obtain ⟨xss1, HXS1⟩ : ∃ xs', Hid (xss ++ [Y] = xs') := ⟨_, rfl⟩
          have HXK1 : Hid (xss1[2 * k]? = some Y) := by
            show _ = _
            have e : xss.length = 2 * k := (HA.out.lx).trans HVL.out
            rw [← HXS1.out, List.getElem?_append_right (by omega), e, Nat.sub_self]
            rfl
          have HVL1 : Hid (vs1.length = 2 * k + 1) := by
            show _ = _
            rw [← HVS1.out, List.length_append, HVL.out]
            rfl
          rw [HVS1.out, HXS1.out] at A14
          clear A13 R13 TA13 F13 OB13 B13 B11 TA11
          have A15 : Hid (Quest (w14.alloc (.cells #[Value.slice ab1 nb1 cb1] 29)) w.heap.size lv1 u6 vs1 us xss1) := A14.out.later ((Below.refl _ _).alloc (Nat.le_refl _) _)
          have R15 : Hid (World.ownsRow (w14.alloc (.cells #[Value.slice ab1 nb1 cb1] 29)) w.heap.size 29 1 u6 (2 * k) us) := by
            have := A15.out.rt
            rw [HUL.out] at this
            exact this
          have OB15 : Hid ((w14.alloc (.cells #[Value.slice ab1 nb1 cb1] 29)).ownsRow w.heap.size 9 1 (Value.slice ab1 nb1 cb1) Y.length (Y.map Value.string)) := OB14.out.alloc _
          have BW15 : Hid (Below w.heap.size w (w14.alloc (.cells #[Value.slice ab1 nb1 cb1] 29))) := BW14.out.alloc BW14.out.size _
          have HLT1 : Hid (2 * k < vs1.length) := by show _ < _; rw [HVL1.out]; exact Nat.lt_succ_self _
          go_upto_region 15 with (at_builtin; refine wpList_append_own_at _ rfl _ _ 50 rfl w.heap.size 29 iL (.slice none 0 0) 1 24 Tryd.underlying50 HIL.out.1 HIL.out.2.1 HIL.out.2.2.1 HIL.out.2.2.2 rfl (by decide) _ (2 * k) _ rfl R15.out ⟨w14.heap.size, 0, none⟩ 1 1 [Value.slice ab1 nb1 cb1] rfl rfl (fun i u hu => by cases i with | zero => (simp at hu; rw [← hu]; exact new_cell _ _ _) | succ i => simp at hu) (fun u hu => by simp at hu; subst hu; rfl) (by unfold maxLen; omega) (by omega) BW15.out.size ?_; intro tv1 w16 ho hg hnn hat; have A16 : Hid (Quest w16 w.heap.size lv1 tv1 vs1 (us ++ [Value.slice ab1 nb1 cb1]) xss1) := A15.out.want HUL.out HLT1.out HXK1.out OB15.out ho hg hat; have BW16 : Hid (Below w.heap.size w w16) := Below.grown BW15.out hg BW15.out.size (fun j hj => (R15.out.lt _ hj).1); clear ho hg hnn hat)
          obtain ⟨us1, HUS1⟩ : ∃ us', Hid (us ++ [Value.slice ab1 nb1 cb1] = us') := ⟨_, rfl⟩
          have HUL1 : Hid (us1.length = 2 * k + 1) := by
            show _ = _
            rw [← HUS1.out, List.length_append, HUL.out]
            rfl
          rw [HUS1.out] at A16
          clear A14 A15 R15 OB14 OB15 BW13 BW14 BW15 HLT1 HXK1
          go_wp2_with fail
          refine (M1.out _).mono ?_
          rintro e w21 ⟨⟨va2, rfl, ta⟩, hb⟩
          obtain ⟨aa2, na2, rfl⟩ := texts_form ta
          have B21 : Hid (Below w16.heap.size w16 w21) := hb
          have TA21 : Hid (Texts w21 w16.heap.size (Value.slice aa2 na2 na2) Z) := ta
          clear hb ta
          go_wp2_with fail
          refine (M2.out _).mono ?_
          rintro e w22 ⟨⟨vb2, rfl, ob⟩, hb⟩
          obtain ⟨ab2, nb2, cb2, rfl⟩ := own_form ob
          have B22 : Hid (Below w16.heap.size w16 w22) := over B21.out hb
          have TA22 : Hid (Texts w22 w16.heap.size (Value.slice aa2 na2 na2) Z) := TA21.out.later hb
          have OB22 : Hid (w22.ownsRow w21.heap.size 9 1 (Value.slice ab2 nb2 cb2) Z.length (Z.map Value.string)) := ob
          clear hb ob
          have B23 : Hid (Below w16.heap.size w16 (w22.alloc (.cells #[Value.slice aa2 na2 na2] 29))) := B22.out.alloc B22.out.size _
          have A23 : Hid (Quest (w22.alloc (.cells #[Value.slice aa2 na2 na2] 29)) w.heap.size lv1 tv1 vs1 us1 xss1) := A16.out.later B23.out
          have R23 : Hid (World.ownsRow (w22.alloc (.cells #[Value.slice aa2 na2 na2] 29)) w.heap.size 29 1 lv1 (2 * k + 1) vs1) := by
            have := A23.out.rl
            rw [HVL1.out] at this
            exact this
          have TA23 : Hid (Texts (w22.alloc (.cells #[Value.slice aa2 na2 na2] 29)) w.heap.size (Value.slice aa2 na2 na2) Z) := Texts.down (TA22.out.later ((Below.refl _ _).alloc (Nat.le_refl _) _)) BW16.out.size
          have F23 : Hid (∀ (i : Nat) (v : Value) (g : Nat), vs1[i]? = some v → v.ownBlock = some g → (Value.slice aa2 na2 na2).ownBlock ≠ some g) := A16.out.fresh TA21.out
          have OB23 : Hid ((w22.alloc (.cells #[Value.slice aa2 na2 na2] 29)).ownsRow w.heap.size 9 1 (Value.slice ab2 nb2 cb2) Z.length (Z.map Value.string)) := own_down (OB22.out.alloc _) (Nat.le_trans BW16.out.size B21.out.size)
          have BW23 : Hid (Below w.heap.size w (w22.alloc (.cells #[Value.slice aa2 na2 na2] 29))) := BW16.out.trans (B23.out.mono BW16.out.size)
          clear B22 TA22 OB22
          go_upto_region 18 with (at_builtin; refine wpList_append_own_at _ rfl _ _ 50 rfl w.heap.size 29 iL (.slice none 0 0) 1 24 Tryd.underlying50 HIL.out.1 HIL.out.2.1 HIL.out.2.2.1 HIL.out.2.2.2 rfl (by decide) _ (2 * k + 1) _ rfl R23.out ⟨w22.heap.size, 0, none⟩ 1 1 [Value.slice aa2 na2 na2] rfl rfl (fun i u hu => by cases i with | zero => (simp at hu; rw [← hu]; exact new_cell _ _ _) | succ i => simp at hu) (fun u hu => by simp at hu; subst hu; rfl) (by unfold maxLen; omega) (by omega) BW23.out.size ?_; intro lv2 w24 ho hg hnn hat; have A24 : Hid (Quest w24 w.heap.size lv2 tv1 (vs1 ++ [Value.slice aa2 na2 na2]) us1 (xss1 ++ [Z])) := A23.out.list HVL1.out TA23.out F23.out ho hg hat; have OB24 : Hid (w24.ownsRow w.heap.size 9 1 (Value.slice ab2 nb2 cb2) Z.length (Z.map Value.string)) := own_other OB23.out A23.out.rl str_strs hg; have BW24 : Hid (Below w.heap.size w w24) := Below.grown BW23.out hg BW23.out.size (fun j hj => (R23.out.lt _ hj).1); clear ho hg hnn hat)
          obtain ⟨vs2, HVS2⟩ : ∃ vs', Hid (vs1 ++ [Value.slice aa2 na2 na2] = vs') := ⟨_, rfl⟩
          obtain ⟨xss2, HXS2⟩ : ∃ xs', Hid (xss1 ++ [Z] = xs') := ⟨_, rfl⟩
          have HXK2 : Hid (xss2[2 * k + 1]? = some Z) := by
            show _ = _
            have e : xss1.length = 2 * k + 1 := (A16.out.lx).trans HVL1.out
            rw [← HXS2.out, List.getElem?_append_right (by omega), e, Nat.sub_self]
            rfl
          have HVL2 : Hid (vs2.length = 2 * k + 1 + 1) := by
            show _ = _
            rw [← HVS2.out, List.length_append, HVL1.out]
            rfl
          rw [HVS2.out, HXS2.out] at A24
          clear A23 R23 TA23 F23 OB23 B23 B21 TA21
          have A25 : Hid (Quest (w24.alloc (.cells #[Value.slice ab2 nb2 cb2] 29)) w.heap.size lv2 tv1 vs2 us1 xss2) := A24.out.later ((Below.refl _ _).alloc (Nat.le_refl _) _)
          have R25 : Hid (World.ownsRow (w24.alloc (.cells #[Value.slice ab2 nb2 cb2] 29)) w.heap.size 29 1 tv1 (2 * k + 1) us1) := by
            have := A25.out.rt
            rw [HUL1.out] at this
            exact this
          have OB25 : Hid ((w24.alloc (.cells #[Value.slice ab2 nb2 cb2] 29)).ownsRow w.heap.size 9 1 (Value.slice ab2 nb2 cb2) Z.length (Z.map Value.string)) := OB24.out.alloc _
          have BW25 : Hid (Below w.heap.size w (w24.alloc (.cells #[Value.slice ab2 nb2 cb2] 29))) := BW24.out.alloc BW24.out.size _
          have HLT2 : Hid (2 * k + 1 < vs2.length) := by show _ < _; rw [HVL2.out]; exact Nat.lt_succ_self _
          go_wp2_with (at_builtin; refine wpList_append_own_at _ rfl _ _ 50 rfl w.heap.size 29 iL (.slice none 0 0) 1 24 Tryd.underlying50 HIL.out.1 HIL.out.2.1 HIL.out.2.2.1 HIL.out.2.2.2 rfl (by decide) _ (2 * k + 1) _ rfl R25.out ⟨w24.heap.size, 0, none⟩ 1 1 [Value.slice ab2 nb2 cb2] rfl rfl (fun i u hu => by cases i with | zero => (simp at hu; rw [← hu]; exact new_cell _ _ _) | succ i => simp at hu) (fun u hu => by simp at hu; subst hu; rfl) (by unfold maxLen; omega) (by omega) BW25.out.size ?_; intro tv2 w26 ho hg hnn hat; have A26 : Hid (Quest w26 w.heap.size lv2 tv2 vs2 (us1 ++ [Value.slice ab2 nb2 cb2]) xss2) := A25.out.want HUL1.out HLT2.out HXK2.out OB25.out ho hg hat; have BW26 : Hid (Below w.heap.size w w26) := Below.grown BW25.out hg BW25.out.size (fun j hj => (R25.out.lt _ hj).1); clear ho hg hnn hat)
          obtain ⟨us2, HUS2⟩ : ∃ us', Hid (us1 ++ [Value.slice ab2 nb2 cb2] = us') := ⟨_, rfl⟩
          have HUL2 : Hid (us2.length = 2 * k + 1 + 1) := by
            show _ = _
            rw [← HUS2.out, List.length_append, HUL1.out]
            rfl
          rw [HUS2.out] at A26
          clear A24 A25 R25 OB24 OB25 BW23 BW24 BW25 HLT2 HXK2
          have HXL2 : Hid (∀ xs ∈ xss2, xs.length ≤ 1048577) := by
            intro xs hx
            rw [← HXS2.out, ← HXS1.out] at hx
            rcases List.mem_append.1 hx with h | h
            · rcases List.mem_append.1 h with h | h
              · exact HXL.out xs h
              · rw [List.mem_singleton.1 h]; exact HYL.out
            · rw [List.mem_singleton.1 h]; exact HZL.out
          go_roundw
          case rel => exact ⟨k + 1, vs2, us2, xss2, by omega, by go_num, A26.out, (by rw [HVL2.out]; omega), (by rw [HUL2.out]; omega), HXL2.out, BW26.out⟩
          case measure => simp [intOf]; omega
    · have hlt' : ¬ (k : Int) < 5 := by omega
      obtain rfl : k = 5 := by omega
      obtain ⟨w7, rfl⟩ : ∃ w7, w7 = wr := ⟨_, rfl⟩
      have HV10 : Hid (vs.length = 10) := HVL.out
      have HU10 : Hid (us.length = 10) := HUL.out
      have HX10 : Hid (xss.length = 10) := HA.out.lx.trans HVL.out
      obtain ⟨gv, cv, gs, hlv, hgv, hR⟩ := HA.out.row (by rw [HVL.out]; omega) HBW.out.size
      rw [HV10.out] at hlv
      obtain ⟨gt, ct, htv⟩ : ∃ gt ct, u6 = .slice (some ⟨gt, 0, none⟩) 10 ct := by
        have := HA.out.rt
        rw [HU10.out] at this
        rcases this.2 with ⟨_, h⟩ | ⟨g', cp, cur, h, _⟩
        · omega
        · exact ⟨g', cp, h⟩
      have AP : Hid (∀ wx, Below w7.heap.size w7 wx → Calls Tryd.prog 32 #[.slice (some ⟨gv, 0, none⟩) 10 cv] wx fun e w' => e = .returned (.bool true) ∧ Below w.heap.size w w') := by
        intro wx hb
        have := apart1 w.heap.size gv vs gs xss cv wx (Row.below hR hb) hgv (Nat.le_trans HBW.out.size hb.size) (by rw [HV10.out]; omega) HXL.out
        rw [HV10.out] at this
        refine this.mono ?_
        rintro e w' ⟨he, hb'⟩
        exact ⟨he, (HBW.out.trans (hb.mono HBW.out.size)).trans hb'⟩
      have HR : Hid (Row w7 w.heap.size gv vs gs xss) := hR
      subst hlv htv
      clear hgv hR
      go_wp2
      go_loopw [18] (fun i wr => ∃ (j : Nat), j ≤ 10 ∧ i = .int .i64 j ∧ Hid (Below w7.heap.size w7 wr)) (fun i _ => (10 - intOf i).toNat)
      case atStart => exact ⟨0, by omega, rfl, Below.refl _ _⟩
      case round =>
        obtain ⟨j, hj, rfl, HB7⟩ := hrel
        by_cases hjt : j < 10
        · have hjt' : (j : Int) < 10 := by omega
          obtain ⟨v, hv⟩ : ∃ v, vs[j]? = some v := ⟨vs[j]'(by rw [HV10.out]; exact hjt), List.getElem?_eq_getElem _⟩
          obtain ⟨u, hu⟩ : ∃ u, us[j]? = some u := ⟨us[j]'(by rw [HU10.out]; exact hjt), List.getElem?_eq_getElem _⟩
          obtain ⟨xs, hx⟩ : ∃ xs, xss[j]? = some xs := ⟨xss[j]'(by rw [HX10.out]; exact hjt), List.getElem?_eq_getElem _⟩
          have T := HA.out.ts j v xs hv hx
          have O := HA.out.ow j u xs hu hx
          have c1' : w7.cell? ⟨gv, j, none⟩ = some v := HR.out.cell j v hv
          have c2' : w7.cell? ⟨gt, j, none⟩ = some u := by
            have := HA.out.rt
            rw [HU10.out] at this
            rw [this.cellAt j (by omega), hu]
          have c1 : wr.cell? ⟨gv, j, none⟩ = some v := (HB7.out.cell (p := ⟨gv, j, none⟩) (World.block_lt_of_cell? _ _ c1')).trans c1'
          have c2 : wr.cell? ⟨gt, j, none⟩ = some u := (HB7.out.cell (p := ⟨gt, j, none⟩) (World.block_lt_of_cell? _ _ c2')).trans c2'
          obtain ⟨av, nv, rfl⟩ := texts_form T
          obtain ⟨bu, nu, cu, rfl⟩ := own_form O
          have SM : Hid (∀ n, Calls Tryd.prog 13 #[.slice av nv nv, .slice bu nu cu] (wr.drewN n) fun e w' => e = .returned (.bool true) ∧ ∃ m, w' = (wr.drewN n).drewN m) := fun n =>
            same _ _ xs _ ((Texts.reads T).later (below_dN HB7.out n)) ((own_reads2 O).1.later (below_dN HB7.out n)) (by have := HXL.out xs (List.mem_of_getElem? hx); omega)
          clear T O hv hu hx c1' c2'
          go_wp2_with fail
          go_quiet ((go_at_call 13; exact Calls.quiet_of (SM.out _)))
          generalize hW : wr.drewN nq = wr2
          have HB8 : Hid (Below w7.heap.size w7 wr2) := by subst hW; exact below_dN HB7.out nq
          clear hW
          go_wp2
          go_roundw
          case rel => exact ⟨j + 1, by omega, by go_num, HB8.out⟩
          case measure => simp [intOf]; omega
        · have hjt' : ¬ (j : Int) < 10 := by omega
          go_wp2_with fail
          refine (AP.out _ HB7.out).mono ?_
          rintro e w9 ⟨rfl, hb⟩
          have HB9 : Hid (Below w.heap.size w w9) := hb
          clear hb
          go_wp2
          go_ret
          exact ⟨rfl, HB9.out⟩
end Go.Proofs.YthblljfkodbbeabDoor.zh
