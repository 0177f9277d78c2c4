import Derived.Test.YtgioekepoebibaaBf
namespace Go.Proofs.Ytgioekepoebibaa.lw
open Go.RowKit Go.PlainAid Go.Maps Go.Shelf
open Go.Proofs.Ytgioekepoebibaa.kp Go.Proofs.Ytgioekepoebibaa.ka Go.Proofs.Ytgioekepoebibaa.ya Go.Proofs.Ytgioekepoebibaa.yb Go.Proofs.Ytgioekepoebibaa.yc Go.Proofs.Ytgioekepoebibaa.yd Go.Proofs.Ytgioekepoebibaa.ye Go.Proofs.Ytgioekepoebibaa.yf Go.Proofs.Ytgioekepoebibaa.yg Go.Proofs.Ytgioekepoebibaa.yi Go.Proofs.Ytgioekepoebibaa.yk Go.Proofs.Ytgioekepoebibaa.yl
open Go.Proofs.Ytgioekepoebibaa.qa Go.Proofs.Ytgioekepoebibaa.ba Go.Proofs.Ytgioekepoebibaa.bb Go.Proofs.Ytgioekepoebibaa.bc Go.Proofs.Ytgioekepoebibaa.bd Go.Proofs.Ytgioekepoebibaa.be Go.Proofs.Ytgioekepoebibaa.bf
open Go.Proofs.Ytgioekepoebibaa.qb (over kindT)
open Go.Proofs.Ytgioekepoebibaa.qc (wi kd wi_ok kd_ok withinC kindOfC)
open Go.Proofs.Ytgioekepoebibaa.lo (bget_frame)
set_option linter.unusedVariables false
set_option linter.unusedSimpArgs false
theorem ti1 : (3 : Nat) ≠ 79 := by decide
theorem ti2 : (3 : Nat) ≠ 82 := by decide
theorem below_dN {B : Nat} {w w' : World} (h : Below B w w') (n : Nat) : Below B w (w'.drewN n) := ⟨h.os, h.tape, h.output, h.size, h.block⟩
def tA : ByteArray := ⟨#[97]⟩
def tB : ByteArray := ⟨#[98]⟩
set_option maxRecDepth 100000 in
set_option maxHeartbeats 25600000 in
theorem wiped_core (space kind S0 Sp Kd : Int) (nv : Value) (ns : List Int) (W : World) (hr : ReadsN W nv ns) (hok : ∀ x ∈ ns, -9223372036854775808 ≤ x ∧ x ≤ 9223372036854775807) (hln : ns.length * 8 ≤ 140737488351232)
    (HS1 : Hid (∀ w, Calls Try.prog 10 #[.int .i64 space] w fun e w' => e = .returned (.int .i64 S0) ∧ w' = w))
    (HK1 : Hid (∀ w, Calls Try.prog 11 #[.int .i64 kind] w fun e w' => e = .returned (.int .i64 Kd) ∧ w' = w))
    (hS : ((S0 == 9223372036854775807) = true ∧ Sp = 5) ∨ ((S0 == 9223372036854775807) = false ∧ Sp = S0)) (hs : okI Sp) (hs1 : okI (Sp + 1)) (hk : 1 ≤ Kd ∧ Kd ≤ 255) :
    Calls Try.prog 8 #[.int .i64 space, nv, .int .i64 kind] W fun e w' => e = .returned (.bool true) ∧ Below W.heap.size W w' := by
  have zA : tA.size = 1 := rfl
  have zB : tB.size = 1 := rfl
  have CW : Hid (∀ x w, Calls _ _ _ _ _) := fun x w => withinC x w
  have CN : Hid (∀ w1, Calls _ _ _ _ _) := fun w1 => newC 536870912 w1 (by omega)
  have hwi : ∀ x ∈ ns, okI (wi x) := fun x hx => wi_ok x (hok x hx).2
  have CA : Hid (∀ g bn bd w1 xs x, xs.length ≤ 100 → (∀ y ∈ xs, okI y) → okI x → Mt 3 1 W.heap.size g bn bd (sW Kd Sp tA tB xs) (.slice none 0 0) 0 [] W w1 → Calls Try.prog 19 #[.pointer (some ⟨g, 0, none⟩), .int .i64 Sp, .int .i64 Kd, .int .i64 x, .string tA] w1 fun e w' => e = .returned (.int .i64 0) ∧ Mt 3 1 W.heap.size g bn bd (addW (sW Kd Sp tA tB xs) ⟨false, keyT Sp Kd x, frameT Kd x tA⟩) (.slice none 0 0) 0 [] W w') := fun g bn bd w1 xs x hl hxs hx h => by
    obtain ⟨pv, hp⟩ := h.ex
    have C := bputC Sp Kd x tA hp hs.2 hx.2 (by simp only [sW, ws_len]; simp; omega) (Nat.le_trans (Nat.le_refl _) h.bl.size)
    have e : bputS (sW Kd Sp tA tB xs) Sp Kd x tA = (0, addW (sW Kd Sp tA tB xs) ⟨false, keyT Sp Kd x, frameT Kd x tA⟩) := by
      unfold bputS
      rw [if_pos ⟨hs.1, hk.1, hk.2, hx.1⟩, if_pos (by omega), (sW_put hs hs1 hk zA zB xs hxs hl x).1]
    rw [e] at C
    exact C.mono (by rintro e w' ⟨rfl, r⟩; exact ⟨rfl, h.rn ti1 ti2 hp r (Nat.le_refl _)⟩)
  have CB : Hid (∀ g bn bd w1 xs x, xs.length ≤ 100 → (∀ y ∈ xs, okI y) → okI x → Mt 3 1 W.heap.size g bn bd (addW (sW Kd Sp tA tB xs) ⟨false, keyT Sp Kd x, frameT Kd x tA⟩) (.slice none 0 0) 0 [] W w1 → Calls Try.prog 19 #[.pointer (some ⟨g, 0, none⟩), .int .i64 (Sp + 1), .int .i64 Kd, .int .i64 x, .string tB] w1 fun e w' => e = .returned (.int .i64 0) ∧ Mt 3 1 W.heap.size g bn bd (sW Kd Sp tA tB (xs ++ [x])) (.slice none 0 0) 0 [] W w') := fun g bn bd w1 xs x hl hxs hx h => by
    obtain ⟨pv, hp⟩ := h.ex
    have C := bputC (Sp + 1) Kd x tB hp hs1.2 hx.2 (by simp only [sW, addW, List.length_append, ws_len]; simp; omega) (Nat.le_trans (Nat.le_refl _) h.bl.size)
    have e : bputS (addW (sW Kd Sp tA tB xs) ⟨false, keyT Sp Kd x, frameT Kd x tA⟩) (Sp + 1) Kd x tB = (0, sW Kd Sp tA tB (xs ++ [x])) := by
      unfold bputS
      rw [if_pos ⟨hs1.1, hk.1, hk.2, hx.1⟩, if_pos (by omega), (sW_put hs hs1 hk zA zB xs hxs hl x).2]
    rw [e] at C
    exact C.mono (by rintro e w' ⟨rfl, r⟩; exact ⟨rfl, h.rn ti1 ti2 hp r (Nat.le_refl _)⟩)
  -- all that is asked behind the puts
  have CQ : Hid (∀ xs, xs.length ≤ 100 → (∀ y ∈ xs, okI y) → ∃ nn : List Int, nn.length ≤ 200 ∧ nn.Pairwise (· < ·) ∧ (∀ y, y ∈ nn ↔ y ∈ xs) ∧ (∀ y ∈ nn, okI y) ∧
      (∀ g bn bd v n ys w1, Mt 3 1 W.heap.size g bn bd (sW Kd Sp tA tB xs) v n ys W w1 → ∀ t, t = Sp ∨ t = Sp + 1 → Calls Try.prog 24 #[.pointer (some ⟨g, 0, none⟩), .int .i64 t, .int .i64 Kd] w1 fun e w' => ∃ v', e = .returned v' ∧ w'.ownsRow w1.heap.size 3 1 v' nn.length (nn.map (Value.int .i64)) ∧ Below w1.heap.size w1 w') ∧
      (∀ g bn bd pv w1, Sr W.heap.size g bn bd pv (sW Kd Sp tA tB xs) w1 → W.heap.size ≤ w1.heap.size → Calls Try.prog 25 #[.pointer (some ⟨g, 0, none⟩), .int .i64 Sp] w1 fun e w' => e = .returned (.tuple #[.int .i64 (nn.length : Nat), .int .i64 0]) ∧ Rn W.heap.size g bn bd pv (sV Kd Sp tA tB xs) w1 w') ∧
      (∀ g bn bd v n ys w1, Mt 3 1 W.heap.size g bn bd (sV Kd Sp tA tB xs) v n ys W w1 → Calls Try.prog 24 #[.pointer (some ⟨g, 0, none⟩), .int .i64 Sp, .int .i64 Kd] w1 fun e w' => ∃ v', e = .returned v' ∧ w'.ownsRow w1.heap.size 3 1 v' 0 [] ∧ Below w1.heap.size w1 w') ∧
      (∀ g bn bd v n ys w1, Mt 3 1 W.heap.size g bn bd (sV Kd Sp tA tB xs) v n ys W w1 → Calls Try.prog 24 #[.pointer (some ⟨g, 0, none⟩), .int .i64 (Sp + 1), .int .i64 Kd] w1 fun e w' => ∃ v', e = .returned v' ∧ w'.ownsRow w1.heap.size 3 1 v' nn.length (nn.map (Value.int .i64)) ∧ Below w1.heap.size w1 w') ∧
      (∀ g bn bd v n ys w1 y, y ∈ nn → Mt 3 1 W.heap.size g bn bd (sV Kd Sp tA tB xs) v n ys W w1 → Calls Try.prog 22 #[.pointer (some ⟨g, 0, none⟩), .int .i64 (Sp + 1), .int .i64 Kd, .int .i64 y] w1 fun e w' => e = .returned (.tuple #[.string tB, .int .i64 0]) ∧ Below w1.heap.size w1 w')) := fun xs hl hxs => by
    have h2 := sW_two (a := tA) (b := tB) hs hs1 hk xs.length xs rfl hxs
    have hL := h2.left hs hs1 hk hxs
    have hR := h2.right hs hs1 hk hxs
    have hV := h2.wiped hs hs1 hk hxs
    rw [← sV_now] at hV
    have mL := half_mem hL hs hk hxs
    have e1 : nums (keysL (kindT (Sp + 1) Kd) (now (sW Kd Sp tA tB xs))) = nums (keysL (kindT Sp Kd) (now (sW Kd Sp tA tB xs))) :=
      rise_unique (half_rise hR hs1 hk hxs) (half_rise hL hs hk hxs) (fun x => by rw [half_mem hR hs1 hk hxs, mL])
    have e2 : nums (keysL (kindT (Sp + 1) Kd) (now (sV Kd Sp tA tB xs))) = nums (keysL (kindT Sp Kd) (now (sW Kd Sp tA tB xs))) :=
      rise_unique (half_rise hV.1 hs1 hk hxs) (half_rise hL hs hk hxs) (fun x => by rw [half_mem hV.1 hs1 hk hxs, mL])
    have hlen : (now (sW Kd Sp tA tB xs)).length ≤ 0 + (ws Kd Sp tA tB xs).length := len_do _ _
    rw [ws_len] at hlen
    refine ⟨nums (keysL (kindT Sp Kd) (now (sW Kd Sp tA tB xs))), ?_, half_rise hL hs hk hxs, mL, fun y hy => hxs y ((mL y).1 hy), ?_, ?_, ?_, ?_, ?_⟩
    · rw [half_len hL hs hk hxs]
      unfold keysL
      rw [List.length_map]
      exact Nat.le_trans (List.length_filter_le _ _) (by omega)
    · intro g bn bd v n ys w1 h t ht
      obtain ⟨pv, hp⟩ := h.ex
      rcases ht with rfl | rfl
      · have C := numbersC t Kd hp hs.2
        rw [numbers_is rfl hs hk] at C
        exact C
      · have C := numbersC (Sp + 1) Kd hp hs1.2
        rw [numbers_is rfl hs1 hk, e1] at C
        exact C
    · intro g bn bd pv w1 hp hB
      have C := wipeC Sp hp hs.2 (by simp only [sW, ws_len]; simp; omega) hB
      rw [sW_wipe hs hs1 hk xs hxs] at C
      exact C
    · intro g bn bd v n ys w1 h
      obtain ⟨pv, hp⟩ := h.ex
      have C := numbersC Sp Kd hp hs.2
      rw [numbers_is rfl hs hk, hV.2] at C
      exact C
    · intro g bn bd v n ys w1 h
      obtain ⟨pv, hp⟩ := h.ex
      have C := numbersC (Sp + 1) Kd hp hs1.2
      rw [numbers_is rfl hs1 hk, e2] at C
      exact C
    · intro g bn bd v n ys w1 y hy h
      obtain ⟨pv, hp⟩ := h.ex
      have hyo := hxs y ((mL y).1 hy)
      have C := bgetC (Sp + 1) Kd y hp hs1.2 hyo.2
      have z := keyT_size (Sp + 1) Kd y
      have e : bgetS (sV Kd Sp tA tB xs) (Sp + 1) Kd y = (tB, 0) := by
        unfold bgetS
        rw [if_pos ⟨hs1.1, hk.1, hk.2, hyo.1⟩]
        have hr : refS (sV Kd Sp tA tB xs) (keyT (Sp + 1) Kd y) = 0 := by unfold refS; rw [show (sV Kd Sp tA tB xs).off = false from rfl]; simp [z]
        unfold getS
        rw [if_neg (by simp [hr]), half_get hV.1 ((mL y).1 hy)]
        exact bget_frame hk.1 hk.2 hyo.1 hyo.2 (by rw [zB]; omega)
      rw [e] at C
      exact C
  unfold tA tB at CA CB CQ
  have hs9 : Sp + 1 ≤ 9223372036854775807 := hs1.2
  have hs8 : 0 ≤ Sp := hs.1
  have HRD : Hid (ReadsN W nv ns) := hr
  obtain ⟨na, nc, rfl, _⟩ := hr
  have HWI : Hid (∀ x ∈ ns, okI (wi x)) := hwi
  have HLN : Hid (ns.length * 8 ≤ 140737488351232) := hln
  have hnl : ns.length ≤ 140737488351232 := by omega
  clear hok hln hwi hs hs1 hk zA zB
  rcases hS with ⟨hS, HSE⟩ | ⟨hS, HSE⟩
  all_goals
    have HSP : Hid _ := HSE
    clear HSE
    go_enter Try.func8, Try.ntmps8
    go_wp2_with fail
    refine (CN.out _).mono ?_
    rintro _ w1 ⟨g, bn, bd, rfl, h1, b1⟩
    have M1 : Hid (Mt 3 1 W.heap.size g bn bd (sW Kd Sp ⟨#[97]⟩ ⟨#[98]⟩ []) (.slice none 0 0) 0 [] W w1) := ⟨⟨_, h1⟩, World.ownsRow_nil _ _ _ _, b1⟩
    clear h1 b1
    go_wp2_with fail
    refine (HS1.out _).mono ?_
    rintro _ _ ⟨rfl, hw⟩; rw [hw]; clear hw
    go_wp2_with fail
    refine (HK1.out _).mono ?_
    rintro _ _ ⟨rfl, hw⟩; rw [hw]; clear hw
    rw [← HSP.out]
    go_wp2_with fail
    go_loopw [10] (fun iv wr => ∃ (i : Nat) (xs : List Int), i ≤ 100 ∧ i ≤ ns.length ∧ iv = .int .i64 i ∧ Hid (xs.length = i ∧ ∀ y ∈ xs, okI y) ∧ Hid (Mt 3 1 W.heap.size g bn bd (sW Kd Sp ⟨#[97]⟩ ⟨#[98]⟩ xs) (.slice none 0 0) 0 [] W wr)) (fun iv _ => (100 - intOf iv).toNat)
    case atStart => exact ⟨0, [], by omega, by omega, rfl, ⟨rfl, fun y hy => by cases hy⟩, M1.out⟩
    case round =>
      clear M1
      obtain ⟨i, xs, hi50, hil, rfl, HP, MM⟩ := hrel
      by_cases hgo : i < ns.length ∧ i < 100
      · have g1 : (i : Int) < ns.length := by omega
        have g2 : (i : Int) < 100 := by omega
        have hi1 := hgo.1
        have hi2 := hgo.2
        clear hgo
        obtain ⟨x, hx⟩ : ∃ x, ns[i]? = some x := ⟨_, List.getElem?_eq_getElem hi1⟩
        have HX : Hid (okI (wi x)) := HWI.out x (List.mem_of_getElem? hx)
        have CWx : Hid (∀ w, Calls _ _ _ _ _) := fun w => CW.out x w
        obtain ⟨y, HY⟩ : ∃ y, Hid (wi x = y) := ⟨_, rfl⟩
        rw [HY.out] at CWx HX
        have HRr : Hid (∀ w, Below W.heap.size W w → w.cell? ⟨0, 0, none⟩ = w.cell? ⟨0, 0, none⟩ ∧ ReadsN w (.slice na ns.length nc) ns) := fun w b => ⟨rfl, HRD.out.later b⟩
        obtain ⟨na', nc', e0, hcl⟩ := HRD.out
        injection e0 with e1 e2 e3
        subst e1
        rcases hcl with h0 | ⟨lb, lo', rfl, hcl⟩
        · omega
        have cxW : W.cell? ⟨lb, lo' + i, none⟩ = some (.int .i64 x) := by
          have h := hcl i hi1
          rw [List.getD, hx] at h
          exact h
        have HCX : Hid (∀ w, Below W.heap.size W w → w.cell? ⟨lb, lo' + i, none⟩ = some (.int .i64 x)) := fun w b => (b.cell (World.block_lt_of_cell? _ _ cxW)).trans cxW
        have cx := HCX.out wr MM.out.bl
        clear hcl e2 e3 hx cxW
        go_wp2_with fail
        refine (CWx.out _).mono ?_
        rintro _ _ ⟨rfl, hw⟩; rw [hw]; clear hw
        go_wp2_with fail
        refine (CA.out _ _ _ _ xs y (by rw [HP.out.1]; omega) HP.out.2 HX.out MM.out).mono ?_
        rintro _ w5 ⟨rfl, m5⟩
        have M5 : Hid (Mt _ _ _ _ _ _ _ _ _ _ _ _) := m5
        have cx5 := HCX.out w5 m5.bl
        clear m5
        go_wp2_with fail
        refine (CWx.out _).mono ?_
        rintro _ _ ⟨rfl, hw⟩; rw [hw]; clear hw
        go_wp2_with fail
        refine (CB.out _ _ _ _ xs y (by rw [HP.out.1]; omega) HP.out.2 HX.out M5.out).mono ?_
        rintro _ w6 ⟨rfl, m6⟩
        have M6 : Hid (Mt _ _ _ _ _ _ _ _ _ _ _ _) := m6
        clear m6 M5
        go_wp2
        go_roundw
        case rel =>
          refine ⟨i + 1, xs ++ [y], by omega, by omega, by go_num, ⟨by have := HP.out.1; simp; omega, fun q hq => ?_⟩, M6.out⟩
          rcases List.mem_append.1 hq with h | h
          · exact HP.out.2 q h
          · simp at h; subst h; exact HX.out
        case measure => simp [intOf]; omega
      · have hend : (¬ (i : Int) < ns.length) ∨ ((i : Int) < ns.length ∧ ¬ (i : Int) < 100) := by omega
        obtain ⟨nn, q1, q2, q3, q4, q5, q6, q7, q8, q9⟩ := CQ.out xs (by rw [HP.out.1]; omega) HP.out.2
        have HQ2 : Hid _ := q2
        have HQ4 : Hid _ := q4
        have Q5 : Hid (∀ g bn bd v n ys w1, Mt _ _ _ _ _ _ _ _ _ _ _ _ → ∀ t, t = Sp ∨ t = Sp + 1 → Calls _ _ _ _ _) := q5
        have Q6 : Hid (∀ g bn bd pv (w1 : World), Sr _ _ _ _ _ _ _ → W.heap.size ≤ w1.heap.size → Calls _ _ _ _ _) := q6
        have Q7 : Hid (∀ g bn bd v n ys w1, Mt _ _ _ _ _ _ _ _ _ _ _ _ → Calls _ _ _ _ _) := q7
        have Q8 : Hid (∀ g bn bd v n ys w1, Mt _ _ _ _ _ _ _ _ _ _ _ _ → Calls _ _ _ _ _) := q8
        have Q9 : Hid (∀ g bn bd v n ys w1 y, y ∈ nn → Mt _ _ _ _ _ _ _ _ _ _ _ _ → Calls _ _ _ _ _) := q9
        have hnn : ns.length = 0 ∨ (0 < ns.length ∧ ((nn.length : Int) == 0) = false) := by
          rcases Nat.eq_zero_or_pos ns.length with h | h
          · exact .inl h
          · refine .inr ⟨h, ?_⟩
            rw [beq_eq_false_iff_ne]
            intro e
            have e2 : nn = [] := List.length_eq_zero_iff.1 (by omega)
            subst e2
            have hx0 : xs = [] := by
              rw [List.eq_nil_iff_forall_not_mem]
              intro y hy
              exact absurd ((q3 y).2 hy) (by simp)
            have := HP.out.1
            rw [hx0] at this
            simp at this
            omega
        clear q2 q3 q4 q5 q6 q7 q8 q9 hgo CQ CA CB
        rcases hend with g1 | ⟨g1, g2⟩
        all_goals
          go_wp2_with fail
          refine (Q5.out _ _ _ _ _ _ _ MM.out Sp (.inl rfl)).mono ?_
          rintro _ w5 ⟨v5, rfl, o5, b5⟩
          have M5 : Hid (Mt _ _ _ _ _ _ _ _ _ _ _ _) := MM.out.later b5 (Nat.le_refl _)
          have O5 : Hid (World.ownsRow _ _ _ _ _ _ _) := o5
          obtain ⟨a5, c5, hf5⟩ := own_formS o5
          subst hf5
          clear o5 b5
          go_wp2_with fail
          refine (Q5.out _ _ _ _ _ _ _ M5.out (Sp + 1) (.inr rfl)).mono ?_
          rintro _ w6 ⟨v6, rfl, o6, b6⟩
          have M6 : Hid (Mt _ _ _ _ _ _ _ _ _ _ _ _) := M5.out.later b6 (Nat.le_refl _)
          have O6 : Hid (World.ownsRow _ _ _ _ _ _ _) := o6
          have P5 : Hid (World.ownsRow _ _ _ _ _ _ _) := own_kp O5.out (Kp.of_below (A := fun _ => False) b6) (fun _ _ e => e)
          obtain ⟨a6, c6, hf6⟩ := own_formS o6
          subst hf6
          clear o6 b6 O5 M5
          obtain ⟨pv, hpv⟩ := M6.out.ex
          have HPV : Hid (Sr _ _ _ _ _ _ _) := hpv
          clear hpv
          go_wp2_with fail
          refine (Q6.out _ _ _ _ _ HPV.out M6.out.bl.size).mono ?_
          rintro _ w7 ⟨rfl, r7⟩
          have M7 : Hid (Mt 3 1 W.heap.size g bn bd (sV Kd Sp ⟨#[97]⟩ ⟨#[98]⟩ xs) (.slice none 0 0) 0 [] W w7) := M6.out.rn ti1 ti2 HPV.out r7 (Nat.le_refl _)
          have R5 : Hid (ReadsN w7 (.slice a5 nn.length c5) nn) := by
            obtain ⟨_, _, k7, _⟩ := r7
            exact own_readsN (own_kp P5.out k7 (fun j hj hF => row_apart ti1 ti2 HPV.out P5.out j hF hj))
          have R6 : Hid (ReadsN w7 (.slice a6 nn.length c6) nn) := by
            obtain ⟨_, _, k7, _⟩ := r7
            exact own_readsN (own_kp O6.out k7 (fun j hj hF => row_apart ti1 ti2 HPV.out O6.out j hF hj))
          clear r7 P5 O6 HPV M6
          go_wp2_with fail
          refine (Q7.out _ _ _ _ _ _ _ M7.out).mono ?_
          rintro _ w8 ⟨v8, rfl, o8, b8⟩
          have M8 : Hid (Mt _ _ _ _ _ _ _ _ _ _ _ _) := M7.out.later b8 (Nat.le_refl _)
          have S5 : Hid (ReadsN _ _ _) := R5.out.later b8
          have S6 : Hid (ReadsN _ _ _) := R6.out.later b8
          obtain ⟨a8, c8, hf8⟩ := own_formS o8
          subst hf8
          clear o8 b8 R5 R6 M7
          go_wp2_with fail
          refine (Q8.out _ _ _ _ _ _ _ M8.out).mono ?_
          rintro _ w9 ⟨v9, rfl, o9, b9⟩
          have M9 : Hid (Mt _ _ _ _ _ _ _ _ _ _ _ _) := M8.out.later b9 (Nat.le_refl _)
          have T5 : Hid (ReadsN _ _ _) := S5.out.later b9
          have T6 : Hid (ReadsN _ _ _) := S6.out.later b9
          have T9 : Hid (ReadsN w9 v9 nn) := own_readsN o9
          obtain ⟨a9, c9, hf9⟩ := own_formS o9
          subst hf9
          clear o9 b9 S5 S6 M8
          go_wp2_with fail
          refine (sameIntsC _ _ nn nn _ T9.out T6.out (by omega) (by omega) rfl).mono ?_
          rintro _ wa ⟨rfl, ba⟩
          have Ma : Hid (Mt _ _ _ _ _ _ _ _ _ _ _ _) := M9.out.later ba (Nat.le_refl _)
          have U5 : Hid (ReadsN _ _ _) := T5.out.later ba
          have U6 : Hid (ReadsN _ _ _) := T6.out.later ba
          have U9 : Hid (ReadsN _ _ _) := T9.out.later ba
          clear ba T5 T6 T9 M9
          go_wp2_with fail
          refine (sameIntsC _ _ nn nn _ U5.out U6.out (by omega) (by omega) rfl).mono ?_
          rintro _ wb ⟨rfl, bb⟩
          have Mb : Hid (Mt _ _ _ _ _ _ _ _ _ _ _ _) := Ma.out.later bb (Nat.le_refl _)
          have V9 : Hid (ReadsN _ _ _) := U9.out.later bb
          clear bb U5 U6 U9 Ma
          have gn : (¬ (0 : Int) < ns.length) ∨ ((0 : Int) < ns.length ∧ ((nn.length : Int) == 0) = false) := by
            rcases hnn with h | ⟨h, h2⟩
            · exact .inl (by omega)
            · exact .inr ⟨by omega, h2⟩
          obtain ⟨m, HMN⟩ : ∃ m, Hid (nn.length = m) := ⟨_, rfl⟩
          rw [HMN.out] at gn q1 V9 ⊢
          clear hnn
          have tb2 : ((⟨#[98]⟩ : ByteArray).toList == (⟨#[98]⟩ : ByteArray).toList) = true := by simp
          rcases gn with gn | ⟨gn, gn2⟩
          all_goals (first | (exfalso; omega) | skip)
          all_goals
            go_wp2_with fail
            go_loopw [21] (fun iv wr => ∃ j : Nat, j ≤ m ∧ iv = .int .i64 j ∧ Hid (Mt 3 1 W.heap.size g bn bd (sV Kd Sp ⟨#[97]⟩ ⟨#[98]⟩ xs) (.slice none 0 0) 0 [] W wr ∧ ReadsN wr (.slice a9 m c9) nn)) (fun iv _ => (m - intOf iv).toNat)
            case atStart => exact ⟨0, by omega, rfl, Mb.out, V9.out⟩
            case round =>
              obtain ⟨j, hj, rfl, HH⟩ := hrel
              by_cases hlt : j < m
              · have g3 : (j : Int) < m := by omega
                obtain ⟨y, hy⟩ : ∃ y, nn[j]? = some y := ⟨_, List.getElem?_eq_getElem (by have := HMN.out; omega)⟩
                have CG : Hid (∀ w1, Mt _ _ _ _ _ _ _ _ _ _ _ _ → Calls _ _ _ _ _) := fun w1 h => Q9.out g bn bd (.slice none 0 0) 0 [] w1 y (List.mem_of_getElem? hy) h
                have HRW : Hid (∀ w, Below wr.heap.size wr w → ReadsN w (.slice a9 m c9) nn) := fun w b => HH.out.2.later b
                obtain ⟨na', nc', e0, hcl⟩ := HH.out.2
                injection e0 with e1 e2 e3
                subst e1
                rcases hcl with h0 | ⟨lb, lo', rfl, hcl⟩
                · have := HMN.out; omega
                have cy : wr.cell? ⟨lb, lo' + j, none⟩ = some (.int .i64 y) := by
                  have h := hcl j (by have := HMN.out; omega)
                  rw [List.getD, hy] at h
                  exact h
                have HCY : Hid (∀ w, Below wr.heap.size wr w → w.cell? ⟨lb, lo' + j, none⟩ = some (.int .i64 y)) := fun w b => (b.cell (World.block_lt_of_cell? _ _ cy)).trans cy
                have HPR : Hid (0 < j → ∃ z, z < y ∧ ∀ w, Below wr.heap.size wr w → w.cell? ⟨lb, lo' + (j - 1), none⟩ = some (.int .i64 z)) := fun hj0 => by
                  obtain ⟨z, hz⟩ : ∃ z, nn[j - 1]? = some z := ⟨_, List.getElem?_eq_getElem (by have := HMN.out; omega)⟩
                  obtain ⟨hz1, hz2⟩ := List.getElem?_eq_some_iff.1 hz
                  obtain ⟨hy1, hy2⟩ := List.getElem?_eq_some_iff.1 hy
                  refine ⟨z, ?_, fun w b => ?_⟩
                  · rw [← hz2, ← hy2]
                    exact List.pairwise_iff_getElem.1 HQ2.out (j - 1) j hz1 hy1 (by omega)
                  · have h := hcl (j - 1) (by have := HMN.out; omega)
                    rw [List.getD, hz] at h
                    exact (b.cell (World.block_lt_of_cell? _ _ h)).trans h
                clear hcl e2 e3 hy
                go_wp2_with fail
                refine (CG.out _ HH.out.1).mono ?_
                rintro _ wc ⟨rfl, bc⟩
                have Mc : Hid (Mt _ _ _ _ _ _ _ _ _ _ _ _) := HH.out.1.later bc (Nat.le_refl _)
                have RW : Hid (ReadsN _ _ _) := HRW.out wc bc
                have cyc := HCY.out wc bc
                rcases Nat.eq_zero_or_pos j with hj0 | hj0
                · have g4 : ¬ (0 : Int) < j := by omega
                  have g4d : decide (0 < j) = false := decide_eq_false (by omega)
                  have HJ0 : Hid _ := hj0
                  clear hj0 bc
                  go_upto_region 28 with fail
                  go_quiet (fail)
                  obtain ⟨wd, HWD⟩ : ∃ wd, wd = wc.drewN nq := ⟨_, rfl⟩
                  have BD : Hid (Below wc.heap.size wc wd) := by rw [HWD]; exact below_dN (Below.refl _ _) nq
                  rw [← HWD]
                  clear HWD
                  go_wp2
                  go_roundw
                  case rel => exact ⟨j + 1, by omega, by go_num, Mc.out.later BD.out (Nat.le_refl _), RW.out.later BD.out⟩
                  case measure => simp [intOf]; omega
                · have g4 : (0 : Int) < j := by omega
                  have g4b : decide ((0 : Int) < (j : Int)) = true := decide_eq_true g4
                  have g4c : decide (0 < j) = true := decide_eq_true hj0
                  obtain ⟨z, hzy, hzc⟩ := HPR.out hj0
                  have czc := hzc wc bc
                  have g5 : ¬ z ≥ y := by omega
                  have g6 : ¬ y ≤ z := by omega
                  have g5b : decide (z ≥ y) = false := decide_eq_false g5
                  have g6b : decide (y ≤ z) = false := decide_eq_false g6
                  have hj1 : ((j : Int) - 1).toNat = j - 1 := by omega
                  have hj2 : (0 : Int) ≤ (j : Int) - 1 := by omega
                  have hj3 : (j : Int) - 1 < m := by omega
                  have hj5 : (1 : Int) ≤ (j : Int) := by omega
                  have hj6 : 1 ≤ j := hj0
                  have hj7 : (j : Int) ≤ m := by omega
                  have hj4 : IntKind.i64.wrap ((j : Int) - 1) = (j : Int) - 1 := by rw [IntKind.wrap_i64]; omega
                  clear hzc bc
                  go_upto_region 28 with fail
                  go_quiet (fail)
                  obtain ⟨wd, HWD⟩ : ∃ wd, wd = wc.drewN nq := ⟨_, rfl⟩
                  have BD : Hid (Below wc.heap.size wc wd) := by rw [HWD]; exact below_dN (Below.refl _ _) nq
                  rw [← HWD]
                  clear HWD
                  go_wp2
                  go_roundw
                  case rel => exact ⟨j + 1, by omega, by go_num, Mc.out.later BD.out (Nat.le_refl _), RW.out.later BD.out⟩
                  case measure => simp [intOf]; omega
              · have g3 : ¬ (j : Int) < m := by omega
                go_wp2
                go_ret
                exact ⟨rfl, HH.out.1.bl⟩
theorem wiped_walk (space : Int) (ws : (Lit.int .i64 space).wf = true) (nv : Value) (ns : List Int) {W : World} (hr : ReadsN W nv ns) (hok : ∀ x ∈ ns, -9223372036854775808 ≤ x ∧ x ≤ 9223372036854775807) (hln : ns.length * 8 ≤ 140737488351232) (kind : Int) (wk : (Lit.int .i64 kind).wf = true) :
    Calls Try.prog 8 #[.int .i64 space, nv, .int .i64 kind] W fun e w' => e = .returned (.bool true) ∧ Below W.heap.size W w' := by
  have bs := bounds_i64 ws
  have bk := bounds_i64 wk
  have aS := wi_ok space bs.2
  by_cases h : wi space = 9223372036854775807
  · exact wiped_core space kind (wi space) 5 (kd kind) nv ns W hr hok hln (fun w => withinC space w) (fun w => kindOfC kind w bk.1 bk.2) (.inl ⟨by rw [h]; rfl, rfl⟩) ⟨by omega, by omega⟩ ⟨by omega, by omega⟩ (kd_ok kind)
  · exact wiped_core space kind (wi space) (wi space) (kd kind) nv ns W hr hok hln (fun w => withinC space w) (fun w => kindOfC kind w bk.1 bk.2) (.inr ⟨by rw [beq_eq_false_iff_ne]; exact h, rfl⟩) aS ⟨by omega, by omega⟩ (kd_ok kind)
end Go.Proofs.Ytgioekepoebibaa.lw
