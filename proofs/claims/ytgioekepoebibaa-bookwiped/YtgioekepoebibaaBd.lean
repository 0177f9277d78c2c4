import Derived.Test.YtgioekepoebibaaBc
import Derived.Test.YtgioekepoebibaaBb
namespace Go.Proofs.Ytgioekepoebibaa.bd
open Go.RowKit Go.PlainAid Go.Maps Go.Shelf
open Go.Proofs.Ytgioekepoebibaa.kp Go.Proofs.Ytgioekepoebibaa.ka Go.Proofs.Ytgioekepoebibaa.ya Go.Proofs.Ytgioekepoebibaa.yb Go.Proofs.Ytgioekepoebibaa.yc Go.Proofs.Ytgioekepoebibaa.yd Go.Proofs.Ytgioekepoebibaa.ye Go.Proofs.Ytgioekepoebibaa.yf Go.Proofs.Ytgioekepoebibaa.yg Go.Proofs.Ytgioekepoebibaa.yi Go.Proofs.Ytgioekepoebibaa.yj Go.Proofs.Ytgioekepoebibaa.yk Go.Proofs.Ytgioekepoebibaa.yl
open Go.Proofs.Ytgioekepoebibaa.qa Go.Proofs.Ytgioekepoebibaa.ba Go.Proofs.Ytgioekepoebibaa.bb Go.Proofs.Ytgioekepoebibaa.bc
open Go.Proofs.Ytgioekepoebibaa.qb (over keyC keyNo isKindC kindKeysC kindT kindT_size spaceC spaceT spaceT_size)
set_option linter.unusedVariables false
set_option linter.unusedSimpArgs false
-- rows of numbers
theorem info3 : (Try.prog.info? 3).map (fun i => (i.zero, i.size, i.bytes)) = some (some (.int .i64 0), 1, 8) := by kernel_rfl
theorem new_num (W : World) (u : Value) (t : TypeId) : ∀ (j : Nat) (x : Value), [u][j]? = some x → (W.alloc (.cells #[u] t)).cell? (Addr.add ⟨W.heap.size, 0, none⟩ j) = some x := new_text W u t
theorem one_num (x : Int) : ∀ u ∈ [Value.int .i64 x], u.oneCell' = true := by intro u hu; simp at hu; subst hu; rfl
def numOf (k : ByteArray) : Option Int := if isKey k then some (sg (kL k)) else none
def nums (l : List ByteArray) : List Int := l.filterMap numOf
theorem nums_next (l : List ByteArray) (k : ByteArray) : nums (l ++ [k]) = nums l ++ (if isKey k then [sg (kL k)] else []) := by
  unfold nums
  rw [List.filterMap_append]
  congr 1
  unfold numOf
  cases h : isKey k <;> simp [List.filterMap, h]
def numbersS (s : S) (sp k : Int) : List Int := if 0 ≤ sp ∧ 1 ≤ k ∧ k ≤ 255 then nums (keysS s (kindT sp k)) else []
theorem keys_ok {s : S} (h : OkS s) (p : ByteArray) : (keysS s p).length < 3518437208883 ∧ ∀ x ∈ keysS s p, x.size ≤ 64 := by
  unfold keysS
  split
  · exact ⟨by simp, fun x hx => by cases hx⟩
  · have h1 := h.lnow
    constructor
    · unfold keysL
      rw [List.length_map]
      exact Nat.lt_of_le_of_lt (List.length_filter_le _ _) h1
    · intro x hx
      obtain ⟨p, hp, rfl⟩ := List.mem_map.1 hx
      exact (h.now p (List.mem_filter.1 hp).1).2.1
theorem take_next {α : Type} {l : List α} {i : Nat} {x : α} (h : l[i]? = some x) : l.take (i + 1) = l.take i ++ [x] := by
  rw [List.take_add_one, h]; rfl
theorem nums_len (l : List ByteArray) : (nums l).length ≤ l.length := List.length_filterMap_le _ _
set_option maxRecDepth 100000 in
set_option maxHeartbeats 6400000 in
theorem numbersC {B g bn bd : Nat} {pv : Value} {s : S} {w : World} (sp k : Int) (h : Sr B g bn bd pv s w) (h1 : sp ≤ 9223372036854775807) :
    Calls Try.prog 24 #[.pointer (some ⟨g, 0, none⟩), .int .i64 sp, .int .i64 k] w fun e w' => ∃ v, e = .returned v ∧ w'.ownsRow w.heap.size 3 1 v (numbersS s sp k).length ((numbersS s sp k).map (Value.int .i64)) ∧ Below w.heap.size w w' := by
  have H : Hid (Sr B g bn bd pv s w) := h
  have CK : Hid (∀ w, Calls _ _ _ _ _) := fun w => isKindC k w
  unfold numbersS
  by_cases hk : 0 ≤ sp ∧ 1 ≤ k ∧ k ≤ 255
  · rw [if_pos hk]
    rw [decide_eq_true hk.2] at CK
    have hs0 : ¬ sp < 0 := by omega
    have C1 : Hid (∀ w, Calls _ _ _ _ _) := fun w => kindKeysC sp k w hk.1 h1 (by omega) hk.2.2
    have C2 : Hid (∀ w1, Below w.heap.size w w1 → Calls _ _ _ _ _) := fun w1 b => keysC (kindT sp k) (sr_later H.out b)
    have hko := keys_ok h.ok (kindT sp k)
    generalize kindT sp k = K at *
    obtain ⟨ks, HKS⟩ : ∃ ks, Hid (keysS s K = ks) := ⟨_, rfl⟩
    rw [HKS.out] at C2 hko ⊢
    have hlen := hko.1
    have HZ : Hid _ := hko.2
    obtain ⟨i3, hi, hz0, hz1, hz2⟩ := info_parts info3
    have HIN : Hid (_ ∧ _ ∧ _ ∧ _) := ⟨hi, hz0, hz1, hz2⟩
    clear h hk hko hi hz0 hz1 hz2
    go_enter Try.func24, Try.ntmps24
    go_wp2_with fail
    refine (CK.out _).mono ?_
    rintro _ _ ⟨rfl, hw⟩; rw [hw]; clear hw
    go_wp2_with fail
    refine (C1.out _).mono ?_
    rintro _ w1 ⟨rfl, b1⟩
    go_wp2_with fail
    refine (C2.out _ b1).mono ?_
    rintro _ w2 ⟨v, rfl, hrow, b2⟩
    have B2 : Hid (Below w.heap.size w w2) := over b1 b2
    have HRD : Hid (ReadsT w2 v ks) := own_readsT hrow
    clear b1 b2 hrow
    obtain ⟨ka', kc, rfl, _, _⟩ := HRD.out
    go_wp2_with fail
    go_loopw [7, 26] (fun lv iv wr => ∃ i : Nat, i ≤ ks.length ∧ iv = .int .i64 i ∧ Hid (wr.ownsRow w2.heap.size 3 1 lv (nums (ks.take i)).length ((nums (ks.take i)).map (Value.int .i64)) ∧ Below w2.heap.size w2 wr)) (fun _ iv _ => (ks.length - intOf iv).toNat)
    case atStart => exact ⟨0, by omega, rfl, World.ownsRow_nil _ _ _ _, Below.refl _ _⟩
    case round =>
      obtain ⟨i, hil, rfl, HH⟩ := hrel
      obtain ⟨ma, mc, hform⟩ := own_formS HH.out.1
      subst hform
      by_cases hlt : i < ks.length
      · have g1 : (i : Int) < ks.length := by omega
        obtain ⟨x, hx⟩ : ∃ x, ks[i]? = some x := ⟨_, List.getElem?_eq_getElem hlt⟩
        have CR : Hid (∀ w, Calls _ _ _ _ _) := fun w => readKeyC x w (by have := HZ.out x (List.mem_of_getElem? hx); omega)
        obtain ⟨la', lc', e0, _, hcl⟩ := HRD.out.later HH.out.2
        injection e0 with e1 e2 e3
        subst e1
        rcases hcl with h0 | ⟨lb, lo', rfl, hcl⟩
        · omega
        have cx : wr.cell? ⟨lb, lo' + i, none⟩ = some (.string x) := by
          have h := hcl i hlt
          rw [List.getD, hx] at h
          exact h
        have HT : Hid _ := take_next hx
        have HN : Hid _ := nums_next (ks.take i) x
        have hnl : (nums (ks.take i)).length ≤ i := by have h1 := nums_len (ks.take i); rw [List.length_take] at h1; omega
        clear hcl e2 e3 hx
        unfold rkV at CR
        obtain ⟨y, HY⟩ : ∃ y, Hid (sg (kL x) = y) := ⟨_, rfl⟩
        rw [HY.out] at CR HN
        cases hik : isKey x with
        | false =>
          rw [hik] at CR HN
          clear hik
          go_wp2_with fail
          refine (CR.out _).mono ?_
          rintro _ w5 ⟨rfl, b5⟩
          have O5 : Hid (World.ownsRow _ _ _ _ _ _ _) := own_kp HH.out.1 (Kp.of_below (A := fun _ => False) b5) (fun _ _ e => e)
          have B5 : Hid (Below w2.heap.size w2 w5) := over HH.out.2 b5
          clear b5
          simp only [Bool.false_eq_true, if_false]
          go_wp2
          go_roundw
          case rel => exact ⟨i + 1, by omega, by go_num, by rw [HT.out, HN.out]; simpa using O5.out, B5.out⟩
          case measure => simp [intOf]; omega
        | true =>
          rw [hik] at CR HN
          clear hik
          go_wp2_with fail
          refine (CR.out _).mono ?_
          rintro _ w5 ⟨rfl, b5⟩
          have O5 : Hid ((w5.alloc (.cells #[.int .i64 y] 3)).ownsRow w2.heap.size 3 1 (.slice ma (nums (ks.take i)).length mc) (nums (ks.take i)).length ((nums (ks.take i)).map (Value.int .i64))) := (own_kp HH.out.1 (Kp.of_below (A := fun _ => False) b5) (fun _ _ e => e)).alloc _
          have hB5 := over HH.out.2 b5
          have hsz5 : w2.heap.size ≤ w5.heap.size := hB5.size
          have B5 : Hid (Below w2.heap.size w2 (w5.alloc (.cells #[.int .i64 y] 3))) := hB5.alloc hB5.size _
          clear b5 hB5
          simp only [if_true]
          go_wp2_with (first | (at_builtin; (refine wpList_append_own _ rfl _ _ 50 rfl w2.heap.size 3 i3 (.int .i64 0) 1 8 Try.underlying50 HIN.out.1 HIN.out.2.1 HIN.out.2.2.1 HIN.out.2.2.2 rfl (by decide) _ (nums (ks.take i)).length _ rfl O5.out ⟨w5.heap.size, 0, none⟩ 1 1 [.int .i64 y] rfl rfl (new_num _ _ _) (one_num _) (by unfold maxLen; omega) (by omega) (by simp; omega) ?_; intro v' w7 ho hg hnn; have HO3 : Hid (World.ownsRow _ _ _ _ _ _ _) := ho; have HG3 : Hid (World.grownBy _ _ _) := hg; clear ho hg hnn)) | go_in)
          go_roundw
          case rel =>
            refine ⟨i + 1, by omega, by go_num, ?_, ?_⟩
            · rw [HT.out, HN.out, if_pos trivial, List.map_append, List.length_append]
              exact HO3.out
            · exact B5.out.grown HG3.out (by simp; omega) (fun j hj => (O5.out.lt _ hj).1)
          case measure => simp [intOf]; omega
      · have g1 : ¬ (i : Int) < ks.length := by omega
        obtain rfl : i = ks.length := by omega
        have HF : Hid (ks.take ks.length = ks) := List.take_length
        rw [HF.out] at HH
        go_wp2
        go_ret
        exact ⟨_, rfl, ⟨HH.out.1.1, by
          rcases HH.out.1.2 with h | ⟨g', cap, cur, e, hb, hrest⟩
          · exact .inl h
          · exact .inr ⟨g', cap, cur, e, Nat.le_trans B2.out.size hb, hrest⟩⟩, over B2.out HH.out.2⟩
  · rw [if_neg hk]
    by_cases hs0 : sp < 0
    · clear h hk
      go_enter Try.func24, Try.ntmps24
      go_wp2
      go_ret
      exact ⟨_, rfl, World.ownsRow_nil _ _ _ _, Below.refl _ _⟩
    · rw [decide_eq_false (fun h2 => hk ⟨by omega, h2⟩)] at CK
      clear h hk
      go_enter Try.func24, Try.ntmps24
      go_wp2_with fail
      refine (CK.out _).mono ?_
      rintro _ _ ⟨rfl, hw⟩; rw [hw]; clear hw
      go_wp2
      go_ret
      exact ⟨_, rfl, World.ownsRow_nil _ _ _ _, Below.refl _ _⟩
end Go.Proofs.Ytgioekepoebibaa.bd
