import Derived.Test.YtgioekepoebibaaBd
namespace Go.Proofs.Ytgioekepoebibaa.be
open Go.RowKit Go.PlainAid Go.Maps Go.Shelf
open Go.Proofs.Ytgioekepoebibaa.kp Go.Proofs.Ytgioekepoebibaa.ka Go.Proofs.Ytgioekepoebibaa.ya Go.Proofs.Ytgioekepoebibaa.yb Go.Proofs.Ytgioekepoebibaa.yc Go.Proofs.Ytgioekepoebibaa.yd Go.Proofs.Ytgioekepoebibaa.ye Go.Proofs.Ytgioekepoebibaa.yf Go.Proofs.Ytgioekepoebibaa.yg Go.Proofs.Ytgioekepoebibaa.yi Go.Proofs.Ytgioekepoebibaa.yj Go.Proofs.Ytgioekepoebibaa.yk Go.Proofs.Ytgioekepoebibaa.yl
open Go.Proofs.Ytgioekepoebibaa.qa Go.Proofs.Ytgioekepoebibaa.ba Go.Proofs.Ytgioekepoebibaa.bb Go.Proofs.Ytgioekepoebibaa.bc Go.Proofs.Ytgioekepoebibaa.bd
open Go.Proofs.Ytgioekepoebibaa.qb (over spaceC spaceT spaceT_size)
set_option linter.unusedVariables false
set_option linter.unusedSimpArgs false
def wipeL : List ByteArray → S → Int × S
  | [], s => (0, s)
  | k :: ks, s => if (cutS s k).1 = 0 then wipeL ks (cutS s k).2 else cutS s k
def wipeS (s : S) (sp : Int) : (Int × Int) × S :=
  if sp < 0 then ((0, 10), s) else if s.off then ((0, 124), s)
  else if (wipeL (keysS s (spaceT sp)) s).1 = 0 then (((keysS s (spaceT sp)).length, 0), (wipeL (keysS s (spaceT sp)) s).2) else ((0, (wipeL (keysS s (spaceT sp)) s).1), (wipeL (keysS s (spaceT sp)) s).2)
theorem cut_len (s : S) (k : ByteArray) : (cutS s k).2.dur = s.dur ∧ (cutS s k).2.pend.length ≤ s.pend.length + 1 := by
  unfold cutS
  split
  · exact ⟨rfl, by simp⟩
  · split
    · rw [dur_spend, pend_spend]; exact ⟨rfl, by simp [addW]⟩
    · exact ⟨rfl, by simp⟩
theorem sr_pv {B g bn bd : Nat} {p1 p2 : Value} {s : S} {w : World} (h1 : Sr B g bn bd p1 s w) (h2 : Sr B g bn bd p2 s w) : p1 = p2 := by
  have a := h1.row.c2
  have b := h2.row.c2
  rw [a] at b
  exact Option.some.inj b
theorem drop_next {α : Type} {l : List α} {i : Nat} {x : α} (h : l[i]? = some x) : l.drop i = x :: l.drop (i + 1) := by
  obtain ⟨h1, rfl⟩ := List.getElem?_eq_some_iff.1 h
  exact List.drop_eq_getElem_cons h1
set_option maxRecDepth 100000 in
set_option maxHeartbeats 6400000 in
theorem wipeC {B g bn bd : Nat} {pv : Value} {s : S} {w : World} (sp : Int) (h : Sr B g bn bd pv s w) (h1 : sp ≤ 9223372036854775807) (hl : 2 * (s.dur.length + s.pend.length) + 1 < 3518437208883) (hB : B ≤ w.heap.size) :
    Calls Try.prog 25 #[.pointer (some ⟨g, 0, none⟩), .int .i64 sp] w fun e w' => e = .returned (.tuple #[.int .i64 (wipeS s sp).1.1, .int .i64 (wipeS s sp).1.2]) ∧ Rn B g bn bd pv (wipeS s sp).2 w w' := by
  have H : Hid (Sr B g bn bd pv s w) := h
  unfold wipeS
  by_cases hs0 : sp < 0
  · rw [if_pos hs0]
    clear h
    go_enter Try.func25, Try.ntmps25
    go_wp2
    go_ret2
    exact ⟨rfl, Rn.refl H.out⟩
  rw [if_neg hs0]
  have CD : Hid (Calls _ _ _ _ _) := downC h.row
  cases ho : s.off with
  | true =>
    rw [ho] at CD
    rw [if_pos rfl]
    clear h
    go_enter Try.func25, Try.ntmps25
    go_wp2_with fail
    refine CD.out.mono ?_
    rintro _ _ ⟨rfl, hw⟩; rw [hw]; clear hw
    go_wp2
    go_ret2
    exact ⟨rfl, Rn.refl H.out⟩
  | false =>
    rw [ho] at CD
    rw [if_neg (by simp)]
    have C1 : Hid (∀ w, Calls _ _ _ _ _) := fun w => spaceC sp w (by omega) h1
    have C2 : Hid (∀ w1, Below w.heap.size w w1 → Calls _ _ _ _ _) := fun w1 b => keysC (spaceT sp) (sr_later H.out b)
    have hko := keys_ok h.ok (spaceT sp)
    have hkl : (keysS s (spaceT sp)).length ≤ s.dur.length + s.pend.length := by
      unfold keysS
      split
      · exact Nat.zero_le _
      · unfold keysL
        rw [List.length_map]
        exact Nat.le_trans (List.length_filter_le _ _) (len_do _ _)
    generalize spaceT sp = K at *
    obtain ⟨ks, HKS⟩ : ∃ ks, Hid (keysS s K = ks) := ⟨_, rfl⟩
    rw [HKS.out] at C2 hko hkl ⊢
    have hlen := hko.1
    have HZ : Hid _ := hko.2
    have hcut : Hid (∀ s' pv' w1 (k : ByteArray), Sr B g bn bd pv' s' w1 → k.size ≤ 64 → s'.dur.length + s'.pend.length + 1 < 3518437208883 → B ≤ w1.heap.size → Calls _ _ _ _ _) := fun s' pv' w1 k h' hk hl' hB' => cutC k h' (by omega) hl' hB'
    have HL0 : Hid (2 * (s.dur.length + s.pend.length) + 1 < 3518437208883 ∧ ks.length ≤ s.dur.length + s.pend.length) := ⟨hl, hkl⟩
    obtain ⟨rs, HRS⟩ : ∃ rs, Hid (wipeL ks s = rs) := ⟨_, rfl⟩
    rw [HRS.out]
    obtain ⟨fv, HFV⟩ : ∃ fv, Hid ((if rs.1 = 0 then (((ks.length : Int), (0 : Int)), rs.2) else ((0, rs.1), rs.2)) = fv) := ⟨_, rfl⟩
    rw [HFV.out]
    clear h hko hl hkl ho
    go_enter Try.func25, Try.ntmps25
    go_wp2_with fail
    refine CD.out.mono ?_
    rintro _ _ ⟨rfl, hw⟩; rw [hw]; clear hw
    go_wp2_with fail
    refine (C1.out _).mono ?_
    rintro _ w1 ⟨rfl, b1⟩
    go_wp2_with fail
    refine (C2.out _ b1).mono ?_
    rintro _ w2 ⟨v, rfl, hrow, b2⟩
    have B2 : Hid (Below w.heap.size w w2) := over b1 b2
    have O2 : Hid (w2.ownsRow w1.heap.size 9 1 v ks.length (ks.map Value.string)) := hrow
    clear b1 b2 hrow
    obtain ⟨ka', kc, hform⟩ := own_formS O2.out
    subst hform
    go_wp2_with fail
    go_loopw [20] (fun iv wr => ∃ (i : Nat) (s' : S), i ≤ ks.length ∧ iv = .int .i64 i ∧ Hid (wipeL (ks.drop i) s' = rs ∧ s'.dur.length + s'.pend.length ≤ s.dur.length + s.pend.length + i) ∧ Hid (Rn B g bn bd pv s' w2 wr ∧ wr.ownsRow w1.heap.size 9 1 (.slice ka' ks.length kc) ks.length (ks.map Value.string))) (fun iv _ => (ks.length - intOf iv).toNat)
    case atStart => exact ⟨0, s, by omega, rfl, ⟨HRS.out, by omega⟩, Rn.refl (sr_later H.out B2.out), O2.out⟩
    case round =>
      obtain ⟨i, s', hil, rfl, HW, HH⟩ := hrel
      by_cases hlt : i < ks.length
      · have g1 : (i : Int) < ks.length := by omega
        obtain ⟨x, hx⟩ : ∃ x, ks[i]? = some x := ⟨_, List.getElem?_eq_getElem hlt⟩
        obtain ⟨pv', h', k', n'⟩ := HH.out.1
        have hsz : B ≤ wr.heap.size := by have := k'.size; have := B2.out.size; omega
        have hl2 : s'.dur.length + s'.pend.length + 1 < 3518437208883 := by have h1 := HW.out.2; have h2 := HL0.out; omega
        have CC : Hid (Calls _ _ _ _ _) := hcut.out s' pv' wr x h' (HZ.out x (List.mem_of_getElem? hx)) hl2 hsz
        have HS' : Hid (Sr B g bn bd pv' s' wr) := h'
        have HD : Hid _ := drop_next hx
        have HCL : Hid _ := cut_len s' x
        obtain ⟨a', c', e0, _, hcl⟩ := own_readsT HH.out.2
        injection e0 with e1 e2 e3
        subst e1
        rcases hcl with h0 | ⟨lb, lo', rfl, hcl⟩
        · omega
        have cx : wr.cell? ⟨lb, lo' + i, none⟩ = some (.string x) := by
          have h := hcl i hlt
          rw [List.getD, hx] at h
          exact h
        clear hcl e2 e3 hx h' k' n' hl2 hsz
        obtain ⟨cs, HCS⟩ : ∃ cs, Hid (cutS s' x = cs) := ⟨_, rfl⟩
        rw [HCS.out] at CC HCL
        have HWW : Hid ((if cs.1 = 0 then wipeL (ks.drop (i + 1)) cs.2 else cs) = rs) := by
          have h := HW.out.1
          rw [HD.out, wipeL, HCS.out] at h
          exact h
        obtain ⟨ce, c2⟩ := cs
        by_cases hce : ce = 0
        · subst hce
          have HW2 : Hid (wipeL (ks.drop (i + 1)) c2 = rs) := by have h9 := HWW.out; rw [if_pos rfl] at h9; exact h9
          go_wp2_with fail
          refine CC.out.mono ?_
          rintro _ w5 ⟨rfl, r5⟩
          have R5 : Hid (Rn B g bn bd pv' c2 wr w5) := r5
          clear r5
          go_wp2
          go_roundw
          case rel =>
            refine ⟨i + 1, c2, by omega, by go_num, ⟨HW2.out, ?_⟩, ?_, ?_⟩
            · have h1 : c2.dur = s'.dur ∧ c2.pend.length ≤ s'.pend.length + 1 := HCL.out
              have h2 := HW.out.2
              rw [h1.1]; omega
            · exact HH.out.1.trans (fun p'' h'' => by
                have e := sr_pv h'' HS'.out
                subst e
                exact R5.out)
            · obtain ⟨_, _, k5, _⟩ := R5.out
              exact own_kp HH.out.2 k5 (fun j hj hF => row_apart (by decide) (by decide) HS'.out HH.out.2 j hF hj)
          case measure => simp [intOf]; omega
        · have hce' : (ce != 0) = true := by rw [bne_iff_ne]; exact hce
          have HW2 : Hid (rs = (ce, c2) ∧ ¬ rs.1 = 0) := by
            have h := HWW.out
            rw [if_neg hce] at h
            exact ⟨h.symm, by rw [← h]; exact hce⟩
          clear hce
          go_wp2_with fail
          refine CC.out.mono ?_
          rintro _ w5 ⟨rfl, r5⟩
          have R5 : Hid (Rn B g bn bd pv' c2 wr w5) := r5
          clear r5
          go_wp2
          go_ret2
          have hfv : fv = ((0, ce), c2) := by rw [← HFV.out, if_neg HW2.out.2, HW2.out.1]
          subst hfv
          refine ⟨rfl, ?_⟩
          exact rn_pre B2.out (HH.out.1.trans (fun p'' h'' => by
            have e := sr_pv h'' HS'.out
            subst e
            exact R5.out))
      · have g1 : ¬ (i : Int) < ks.length := by omega
        obtain rfl : i = ks.length := by omega
        have HR : Hid (rs = (0, s')) := by
          have h := HW.out.1
          rw [List.drop_length] at h
          exact h.symm
        go_wp2
        go_ret2
        have hfv : fv = (((ks.length : Int), (0 : Int)), s') := by rw [← HFV.out, HR.out, if_pos rfl]
        subst hfv
        refine ⟨rfl, ?_⟩
        exact rn_pre B2.out HH.out.1
-- two lists of numbers alike
def ReadsN (w : World) (v : Value) (xs : List Int) : Prop :=
  ∃ a cap, v = .slice a xs.length cap ∧ (xs.length = 0 ∨ ∃ b off, a = some ⟨b, off, none⟩ ∧ ∀ i, i < xs.length → w.cell? ⟨b, off + i, none⟩ = some (.int .i64 (xs.getD i 0)))
theorem ReadsN.later {w w' : World} {v : Value} {xs : List Int} (h : ReadsN w v xs) (hb : Below w.heap.size w w') : ReadsN w' v xs := by
  obtain ⟨a, cap, rfl, h0 | ⟨b, off, rfl, hh⟩⟩ := h
  · exact ⟨a, cap, rfl, .inl h0⟩
  · refine ⟨_, cap, rfl, .inr ⟨b, off, rfl, fun i hi => ?_⟩⟩
    have := hh i hi
    exact (hb.cell (p := ⟨b, off + i, none⟩) (World.block_lt_of_cell? _ _ this)).trans this
theorem own_readsN {w : World} {B n : Nat} {v : Value} {xs : List Int} (h : w.ownsRow B 3 1 v n (xs.map (Value.int .i64))) : ReadsN w v xs := by
  obtain ⟨hl, ⟨rfl, h0⟩ | ⟨g, cap, cur, rfl, hg, hh, h1, h2, h3, h4⟩⟩ := h
  · have e : xs.length = 0 := by simpa [h0] using hl
    exact ⟨none, 0, by rw [e], .inl e⟩
  · have e : xs.length = n := by simpa using hl
    refine ⟨_, cap, by rw [e], .inr ⟨g, 0, rfl, fun i hi => ?_⟩⟩
    rw [Nat.zero_add, cell_of_row _ _ _ _ _ _ hh]
    have h5 := congrArg (·[i]?) h4
    simp only [List.getElem?_take, List.getElem?_map, Nat.mul_one] at h5
    rw [if_pos (by omega), Array.getElem?_toList] at h5
    rw [h5, List.getD, List.getElem?_eq_getElem hi]
    rfl
theorem same_int (a b : Int) : (a != b) = !decide (a = b) := by
  by_cases h : a = b
  · subst h; simp
  · rw [decide_eq_false h]; simp [h]
set_option maxRecDepth 100000 in
set_option maxHeartbeats 3200000 in
theorem sameIntsC (v1 v2 : Value) (xs ys : List Int) (w : World) (h1 : ReadsN w v1 xs) (h2 : ReadsN w v2 ys) (hx : xs.length ≤ 140737488351232) (hy : ys.length ≤ 140737488351232) (he : xs = ys) :
    Calls Try.prog 26 #[v1, v2] w fun e w' => e = .returned (.bool true) ∧ Below w.heap.size w w' := by
  subst he
  obtain ⟨a1, c1, rfl, k1⟩ := h1
  obtain ⟨a2, c2, rfl, k2⟩ := h2
  have K1 : Hid _ := k1
  have K2 : Hid _ := k2
  obtain ⟨n, HN⟩ : ∃ n, Hid (xs.length = n) := ⟨_, rfl⟩
  rw [HN.out] at K1 K2 hx ⊢
  clear k1 k2 hy
  go_enter Try.func26, Try.ntmps26
  go_wp2_with fail
  go_loopw [5] (fun iv wr => ∃ i : Nat, i ≤ n ∧ iv = .int .i64 i ∧ Hid (Below w.heap.size w wr)) (fun iv _ => (n - intOf iv).toNat)
  case atStart => exact ⟨0, by omega, rfl, Below.refl _ _⟩
  case round =>
    obtain ⟨i, hi, rfl, HB⟩ := hrel
    by_cases hlt : i < n
    · have g1 : (i : Int) < n := by omega
      rcases K1.out with h0 | ⟨b1, o1, rfl, k1⟩
      · omega
      rcases K2.out with h0 | ⟨b2, o2, rfl, k2⟩
      · omega
      have d1 := k1 i hlt
      have d2 := k2 i hlt
      have e1 : wr.cell? ⟨b1, o1 + i, none⟩ = some (.int .i64 (xs.getD i 0)) := (HB.out.cell (World.block_lt_of_cell? _ _ d1)).trans d1
      have e2 : wr.cell? ⟨b2, o2 + i, none⟩ = some (.int .i64 (xs.getD i 0)) := (HB.out.cell (World.block_lt_of_cell? _ _ d2)).trans d2
      generalize xs.getD i 0 = z at *
      clear k1 k2 d1 d2
      go_upto_region 6 with fail
      go_region
      go_wp2
      go_roundw
      case rel => exact ⟨i + 1, by omega, by go_num, HB.out.drew⟩
      case measure => simp [intOf]; omega
    · have g1 : ¬ (i : Int) < n := by omega
      go_wp2
      go_ret
      exact ⟨rfl, HB.out⟩
end Go.Proofs.Ytgioekepoebibaa.be
