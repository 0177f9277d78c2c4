import Derived.Test.YtmindflfjocjlaaGreatRd0
namespace Go.Proofs.YtmindflfjocjlaaGreat.tbe
open Go.RowKit Go.PlainAid Go.Maps Go.Shelf
open Go.Proofs.YtmindflfjocjlaaGreat.kp Go.Proofs.YtmindflfjocjlaaGreat.ka Go.Proofs.YtmindflfjocjlaaGreat.ya Go.Proofs.YtmindflfjocjlaaGreat.yb Go.Proofs.YtmindflfjocjlaaGreat.yc Go.Proofs.YtmindflfjocjlaaGreat.yd Go.Proofs.YtmindflfjocjlaaGreat.ye Go.Proofs.YtmindflfjocjlaaGreat.yf Go.Proofs.YtmindflfjocjlaaGreat.yg Go.Proofs.YtmindflfjocjlaaGreat.yi Go.Proofs.YtmindflfjocjlaaGreat.yj Go.Proofs.YtmindflfjocjlaaGreat.yk Go.Proofs.YtmindflfjocjlaaGreat.yl
open Go.Proofs.YtmindflfjocjlaaGreat.tqa Go.Proofs.YtmindflfjocjlaaGreat.tba Go.Proofs.YtmindflfjocjlaaGreat.tbb Go.Proofs.YtmindflfjocjlaaGreat.tbc Go.Proofs.YtmindflfjocjlaaGreat.tbd
open Go.Proofs.YtmindflfjocjlaaGreat.tqb (over spaceC spaceT spaceT_size)
set_option linter.unusedVariables false
set_option linter.unusedSimpArgs false
def wipeL : List ByteArray → S → Int × S
  | [], s => (0, s)
  | k :: ks, s => if (cutS s k).1 = 0 then wipeL ks (cutS s k).2 else cutS s k
def wipeS (s : S) (sp : Int) : (Int × Int) × S :=
  if sp < 0 then ((0, 10), s) else if s.off then ((0, 124), s)
  else if (wipeL (keysS s (spaceT sp)) s).1 = 0 then (((keysS s (spaceT sp)).length, 0), (wipeL (keysS s (spaceT sp)) s).2) else ((0, (wipeL (keysS s (spaceT sp)) s).1), (wipeL (keysS s (spaceT sp)) s).2)
theorem cut_len (s : S) (k : ByteArray) : (cutS s k).2.dur = s.dur ∧ (cutS s k).2.pend.length ≤ s.pend.length + 1 := by
  unfold cutS
  split
  · exact ⟨rfl, by simp⟩
  · split
    · rw [dur_spend, pend_spend]; exact ⟨rfl, by simp [addW]⟩
    · exact ⟨rfl, by simp⟩
theorem sr_pv {B g bn bd : Nat} {p1 p2 : Value} {s : S} {w : World} (h1 : Sr B g bn bd p1 s w) (h2 : Sr B g bn bd p2 s w) : p1 = p2 := by
  have a := h1.row.c2
  have b := h2.row.c2
  rw [a] at b
  exact Option.some.inj b
theorem drop_next {α : Type} {l : List α} {i : Nat} {x : α} (h : l[i]? = some x) : l.drop i = x :: l.drop (i + 1) := by
  obtain ⟨h1, rfl⟩ := List.getElem?_eq_some_iff.1 h
  exact List.drop_eq_getElem_cons h1
set_option maxRecDepth 100000 in
set_option maxHeartbeats 6400000 in
theorem wipeC {B g bn bd : Nat} {pv : Value} {s : S} {w : World} (sp : Int) (h : Sr B g bn bd pv s w) (h1 : sp ≤ 9223372036854775807) (hl : 2 * (s.dur.length + s.pend.length) + 1 < 3518437208883) (hB : B ≤ w.heap.size) :
    Calls Tryz.prog 24 #[.pointer (some ⟨g, 0, none⟩), .int .i64 sp] w fun e w' => e = .returned (.tuple #[.int .i64 (wipeS s sp).1.1, .int .i64 (wipeS s sp).1.2]) ∧ Rn B g bn bd pv (wipeS s sp).2 w w' := by
  have H : Hid (Sr B g bn bd pv s w) := h
  unfold wipeS
  by_cases hs0 : sp < 0
  · rw [if_pos hs0]
    clear h
    go_enter Tryz.func24, Tryz.ntmps24
    go_wp2
    go_ret2
    exact ⟨rfl, Rn.refl H.out⟩
  rw [if_neg hs0]
  have CD : Hid (Calls _ _ _ _ _) := downC h.row
  cases ho : s.off with
  | true =>
    rw [ho] at CD
    rw [if_pos rfl]
    clear h
    go_enter Tryz.func24, Tryz.ntmps24
    go_wp2_with fail
    refine CD.out.mono ?_
    rintro _ _ ⟨rfl, hw⟩; rw [hw]; clear hw
    go_wp2
    go_ret2
    exact ⟨rfl, Rn.refl H.out⟩
  | false =>
    rw [ho] at CD
    rw [if_neg (by simp)]
    have C1 : Hid (∀ w, Calls _ _ _ _ _) := fun w => spaceC sp w (by omega) h1
    have C2 : Hid (∀ w1, Below w.heap.size w w1 → Calls _ _ _ _ _) := fun w1 b => keysC (spaceT sp) (sr_later H.out b)
    have hko := keys_ok h.ok (spaceT sp)
    have hkl : (keysS s (spaceT sp)).length ≤ s.dur.length + s.pend.length := by
      unfold keysS
      split
      · exact Nat.zero_le _
      · unfold keysL
        rw [List.length_map]
        exact Nat.le_trans (List.length_filter_le _ _) (len_do _ _)
    generalize spaceT sp = K at *
    obtain ⟨ks, HKS⟩ : ∃ ks, Hid (keysS s K = ks) := ⟨_, rfl⟩
    rw [HKS.out] at C2 hko hkl ⊢
    have hlen := hko.1
    have HZ : Hid _ := hko.2
    have hcut : Hid (∀ s' pv' w1 (k : ByteArray), Sr B g bn bd pv' s' w1 → k.size ≤ 64 → s'.dur.length + s'.pend.length + 1 < 3518437208883 → B ≤ w1.heap.size → Calls _ _ _ _ _) := fun s' pv' w1 k h' hk hl' hB' => cutC k h' (by omega) hl' hB'
    have HL0 : Hid (2 * (s.dur.length + s.pend.length) + 1 < 3518437208883 ∧ ks.length ≤ s.dur.length + s.pend.length) := ⟨hl, hkl⟩
    obtain ⟨rs, HRS⟩ : ∃ rs, Hid (wipeL ks s = rs) := ⟨_, rfl⟩
    rw [HRS.out]
    obtain ⟨fv, HFV⟩ : ∃ fv, Hid ((if rs.1 = 0 then (((ks.length : Int), (0 : Int)), rs.2) else ((0, rs.1), rs.2)) = fv) := ⟨_, rfl⟩
    rw [HFV.out]
    clear h hko hl hkl ho
    go_enter Tryz.func24, Tryz.ntmps24
    go_wp2_with fail
    refine CD.out.mono ?_
    rintro _ _ ⟨rfl, hw⟩; rw [hw]; clear hw
    go_wp2_with fail
    refine (C1.out _).mono ?_
    rintro _ w1 ⟨rfl, b1⟩
    go_wp2_with fail
    refine (C2.out _ b1).mono ?_
    rintro _ w2 ⟨v, rfl, hrow, b2⟩
    have B2 : Hid (Below w.heap.size w w2) := over b1 b2
    have O2 : Hid (w2.ownsRow w1.heap.size 9 1 v ks.length (ks.map Value.string)) := hrow
    clear b1 b2 hrow
    obtain ⟨ka', kc, hform⟩ := own_formS O2.out
    subst hform
    go_wp2_with fail
    go_loopw [20] (fun iv wr => ∃ (i : Nat) (s' : S), i ≤ ks.length ∧ iv = .int .i64 i ∧ Hid (wipeL (ks.drop i) s' = rs ∧ s'.dur.length + s'.pend.length ≤ s.dur.length + s.pend.length + i) ∧ Hid (Rn B g bn bd pv s' w2 wr ∧ wr.ownsRow w1.heap.size 9 1 (.slice ka' ks.length kc) ks.length (ks.map Value.string))) (fun iv _ => (ks.length - intOf iv).toNat)
    case atStart => exact ⟨0, s, by omega, rfl, ⟨HRS.out, by omega⟩, Rn.refl (sr_later H.out B2.out), O2.out⟩
    case round =>
      obtain ⟨i, s', hil, rfl, HW, HH⟩ := hrel
      by_cases hlt : i < ks.length
      · have g1 : (i : Int) < ks.length := by omega
        obtain ⟨x, hx⟩ : ∃ x, ks[i]? = some x := ⟨_, List.getElem?_eq_getElem hlt⟩
        obtain ⟨pv', h', k', n'⟩ := HH.out.1
        have hsz : B ≤ wr.heap.size := by have := k'.size; have := B2.out.size; omega
        have hl2 : s'.dur.length + s'.pend.length + 1 < 3518437208883 := by have h1 := HW.out.2; have h2 := HL0.out; omega
        have CC : Hid (Calls _ _ _ _ _) := hcut.out s' pv' wr x h' (HZ.out x (List.mem_of_getElem? hx)) hl2 hsz
        have HS' : Hid (Sr B g bn bd pv' s' wr) := h'
        have HD : Hid _ := drop_next hx
        have HCL : Hid _ := cut_len s' x
        obtain ⟨a', c', e0, _, hcl⟩ := own_readsT HH.out.2
        injection e0 with e1 e2 e3
        subst e1
        rcases hcl with h0 | ⟨lb, lo', rfl, hcl⟩
        · omega
        have cx : wr.cell? ⟨lb, lo' + i, none⟩ = some (.string x) := by
          have h := hcl i hlt
          rw [List.getD, hx] at h
          exact h
        clear hcl e2 e3 hx h' k' n' hl2 hsz
        obtain ⟨cs, HCS⟩ : ∃ cs, Hid (cutS s' x = cs) := ⟨_, rfl⟩
        rw [HCS.out] at CC HCL
        have HWW : Hid ((if cs.1 = 0 then wipeL (ks.drop (i + 1)) cs.2 else cs) = rs) := by
          have h := HW.out.1
          rw [HD.out, wipeL, HCS.out] at h
          exact h
        obtain ⟨ce, c2⟩ := cs
        by_cases hce : ce = 0
        · subst hce
          have HW2 : Hid (wipeL (ks.drop (i + 1)) c2 = rs) := by have h9 := HWW.out; rw [if_pos rfl] at h9; exact h9
          go_wp2_with fail
          refine CC.out.mono ?_
          rintro _ w5 ⟨rfl, r5⟩
          have R5 : Hid (Rn B g bn bd pv' c2 wr w5) := r5
          clear r5
          go_wp2
          go_roundw
          case rel =>
            refine ⟨i + 1, c2, by omega, by go_num, ⟨HW2.out, ?_⟩, ?_, ?_⟩
            · have h1 : c2.dur = s'.dur ∧ c2.pend.length ≤ s'.pend.length + 1 := HCL.out
              have h2 := HW.out.2
              rw [h1.1]; omega
            · exact HH.out.1.trans (fun p'' h'' => by
                have e := sr_pv h'' HS'.out
                subst e
                exact R5.out)
            · obtain ⟨_, _, k5, _⟩ := R5.out
              exact own_kp HH.out.2 k5 (fun j hj hF => row_apart (by decide) (by decide) HS'.out HH.out.2 j hF hj)
          case measure => simp [intOf]; omega
        · have hce' : (ce != 0) = true := by rw [bne_iff_ne]; exact hce
          have HW2 : Hid (rs = (ce, c2) ∧ ¬ rs.1 = 0) := by
            have h := HWW.out
            rw [if_neg hce] at h
            exact ⟨h.symm, by rw [← h]; exact hce⟩
          clear hce
          go_wp2_with fail
          refine CC.out.mono ?_
          rintro _ w5 ⟨rfl, r5⟩
          have R5 : Hid (Rn B g bn bd pv' c2 wr w5) := r5
          clear r5
          go_wp2
          go_ret2
          have hfv : fv = ((0, ce), c2) := by rw [← HFV.out, if_neg HW2.out.2, HW2.out.1]
          subst hfv
          refine ⟨rfl, ?_⟩
          exact rn_pre B2.out (HH.out.1.trans (fun p'' h'' => by
            have e := sr_pv h'' HS'.out
            subst e
            exact R5.out))
      · have g1 : ¬ (i : Int) < ks.length := by omega
        obtain rfl : i = ks.length := by omega
        have HR : Hid (rs = (0, s')) := by
          have h := HW.out.1
          rw [List.drop_length] at h
          exact h.symm
        go_wp2
        go_ret2
        have hfv : fv = (((ks.length : Int), (0 : Int)), s') := by rw [← HFV.out, HR.out, if_pos rfl]
        subst hfv
        refine ⟨rfl, ?_⟩
        exact rn_pre B2.out HH.out.1
-- two lists of numbers alike
def ReadsN (w : World) (v : Value) (xs : List Int) : Prop :=
  ∃ a cap, v = .slice a xs.length cap ∧ (xs.length = 0 ∨ ∃ b off, a = some ⟨b, off, none⟩ ∧ ∀ i, i < xs.length → w.cell? ⟨b, off + i, none⟩ = some (.int .i64 (xs.getD i 0)))
theorem ReadsN.later {w w' : World} {v : Value} {xs : List Int} (h : ReadsN w v xs) (hb : Below w.heap.size w w') : ReadsN w' v xs := by
  obtain ⟨a, cap, rfl, h0 | ⟨b, off, rfl, hh⟩⟩ := h
  · exact ⟨a, cap, rfl, .inl h0⟩
  · refine ⟨_, cap, rfl, .inr ⟨b, off, rfl, fun i hi => ?_⟩⟩
    have := hh i hi
    exact (hb.cell (p := ⟨b, off + i, none⟩) (World.block_lt_of_cell? _ _ this)).trans this
theorem own_readsN {w : World} {B n : Nat} {v : Value} {xs : List Int} (h : w.ownsRow B 3 1 v n (xs.map (Value.int .i64))) : ReadsN w v xs := by
  obtain ⟨hl, ⟨rfl, h0⟩ | ⟨g, cap, cur, rfl, hg, hh, h1, h2, h3, h4⟩⟩ := h
  · have e : xs.length = 0 := by simpa [h0] using hl
    exact ⟨none, 0, by rw [e], .inl e⟩
  · have e : xs.length = n := by simpa using hl
    refine ⟨_, cap, by rw [e], .inr ⟨g, 0, rfl, fun i hi => ?_⟩⟩
    rw [Nat.zero_add, cell_of_row _ _ _ _ _ _ hh]
    have h5 := congrArg (·[i]?) h4
    simp only [List.getElem?_take, List.getElem?_map, Nat.mul_one] at h5
    rw [if_pos (by omega), Array.getElem?_toList] at h5
    rw [h5, List.getD, List.getElem?_eq_getElem hi]
    rfl
theorem same_int (a b : Int) : (a != b) = !decide (a = b) := by
  by_cases h : a = b
  · subst h; simp
  · rw [decide_eq_false h]; simp [h]
set_option maxRecDepth 100000 in
set_option maxHeartbeats 3200000 in
theorem sameIntsC (v1 v2 : Value) (xs ys : List Int) (w : World) (h1 : ReadsN w v1 xs) (h2 : ReadsN w v2 ys) (hx : xs.length ≤ 140737488351232) (hy : ys.length ≤ 140737488351232) (he : xs = ys) :
    Calls Tryz.prog 13 #[v1, v2] w fun e w' => e = .returned (.bool true) ∧ Below w.heap.size w w' := by
  subst he
  obtain ⟨a1, c1, rfl, k1⟩ := h1
  obtain ⟨a2, c2, rfl, k2⟩ := h2
  have K1 : Hid _ := k1
  have K2 : Hid _ := k2
  obtain ⟨n, HN⟩ : ∃ n, Hid (xs.length = n) := ⟨_, rfl⟩
  rw [HN.out] at K1 K2 hx ⊢
  clear k1 k2 hy
  go_enter Tryz.func13, Tryz.ntmps13
  go_wp2_with fail
  go_loopw [5] (fun iv wr => ∃ i : Nat, i ≤ n ∧ iv = .int .i64 i ∧ Hid (Below w.heap.size w wr)) (fun iv _ => (n - intOf iv).toNat)
  case atStart => exact ⟨0, by omega, rfl, Below.refl _ _⟩
  case round =>
    obtain ⟨i, hi, rfl, HB⟩ := hrel
    by_cases hlt : i < n
    · have g1 : (i : Int) < n := by omega
      rcases K1.out with h0 | ⟨b1, o1, rfl, k1⟩
      · omega
      rcases K2.out with h0 | ⟨b2, o2, rfl, k2⟩
      · omega
      have d1 := k1 i hlt
      have d2 := k2 i hlt
      have e1 : wr.cell? ⟨b1, o1 + i, none⟩ = some (.int .i64 (xs.getD i 0)) := (HB.out.cell (World.block_lt_of_cell? _ _ d1)).trans d1
      have e2 : wr.cell? ⟨b2, o2 + i, none⟩ = some (.int .i64 (xs.getD i 0)) := (HB.out.cell (World.block_lt_of_cell? _ _ d2)).trans d2
      generalize xs.getD i 0 = z at *
      clear k1 k2 d1 d2
      go_upto_region 6 with fail
      go_region
      go_wp2
      go_roundw
      case rel => exact ⟨i + 1, by omega, by go_num, HB.out.drew⟩
      case measure => simp [intOf]; omega
    · have g1 : ¬ (i : Int) < n := by omega
      go_wp2
      go_ret
      exact ⟨rfl, HB.out⟩
end Go.Proofs.YtmindflfjocjlaaGreat.tbe

namespace Go.Proofs.YtmindflfjocjlaaGreat.tbf
open Go.RowKit Go.PlainAid Go.Maps Go.Shelf
open Go.Proofs.YtmindflfjocjlaaGreat.ya Go.Proofs.YtmindflfjocjlaaGreat.yc Go.Proofs.YtmindflfjocjlaaGreat.yd Go.Proofs.YtmindflfjocjlaaGreat.ye Go.Proofs.YtmindflfjocjlaaGreat.yf Go.Proofs.YtmindflfjocjlaaGreat.yi Go.Proofs.YtmindflfjocjlaaGreat.yk
open Go.Proofs.YtmindflfjocjlaaGreat.tqa Go.Proofs.YtmindflfjocjlaaGreat.tba Go.Proofs.YtmindflfjocjlaaGreat.tbb Go.Proofs.YtmindflfjocjlaaGreat.tbc Go.Proofs.YtmindflfjocjlaaGreat.tbd Go.Proofs.YtmindflfjocjlaaGreat.tbe
open Go.Proofs.YtmindflfjocjlaaGreat.nb (str str_size)
open Go.Proofs.YtmindflfjocjlaaGreat.tpa (lowB lowB_length)
open Go.Proofs.YtmindflfjocjlaaGreat.tqb (kindT kindT_size spaceT spaceT_size key_is)
open Go.Proofs.YtmindflfjocjlaaGreat.tqc (key_less key_same)
open Go.Proofs.YtmindflfjocjlaaGreat.tlo (keys_apart bget_frame)
set_option linter.unusedVariables false
set_option linter.unusedSimpArgs false
theorem less_is (l m : List UInt8) : Op.bytesLess l m = bytesBefore l m := by
  induction l generalizing m with
  | nil => cases m <;> rfl
  | cons x l ih =>
    cases m with
    | nil => rfl
    | cons y m => show (decide (x < y) || (x == y && Op.bytesLess l m)) = _; rw [ih]; rfl
def okI (x : Int) : Prop := 0 ≤ x ∧ x ≤ 9223372036854775807
theorem key_lt {t k x y : Int} (ht : okI t) (hk : 1 ≤ k ∧ k ≤ 255) (hx : okI x) (hy : okI y) : lt (keyT t k x) (keyT t k y) = decide (x < y) := by
  have h := key_less t k x t k y ht.1 ht.2 (by omega) hk.2 hx.1 hx.2 ht.1 ht.2 (by omega) hk.2 hy.1 hy.2
  rw [less_is, ByteArray.toList_eq, ByteArray.toList_eq] at h
  unfold lt bs
  rw [h, decide_eq_decide]
  omega
-- what keys begin with
theorem app_bs (a b : ByteArray) : bs (a ++ b) = bs a ++ bs b := by unfold bs; rw [ByteArray.data_append, Array.toList_append]
theorem prefix_of (p q a : ByteArray) (h : p.size = q.size) : Lib.hasPrefix (bs (p ++ a)) (bs q) = decide (p = q) := by
  unfold Lib.hasPrefix
  rw [app_bs]
  have hl : (bs p).length = (bs q).length := by rw [bs_len, bs_len]; exact h
  by_cases e : p = q
  · subst e
    rw [decide_eq_true rfl]
    exact List.isPrefixOf_iff_prefix.2 (List.prefix_append _ _)
  · rw [decide_eq_false e]
    cases hh : (bs q).isPrefixOf (bs p ++ bs a) with
    | false => rfl
    | true =>
      obtain ⟨z, hz⟩ := List.isPrefixOf_iff_prefix.1 hh
      have := (List.append_inj hz hl.symm).1
      exact absurd (bs_inj this).symm e
theorem kind_inj {t l s k : Int} (ht : okI t) (hl : 1 ≤ l ∧ l ≤ 255) (hs : okI s) (hk : 1 ≤ k ∧ k ≤ 255) (h : kindT t l = kindT s k) : t = s ∧ l = k := by
  have e : keyT t l 0 = keyT s k 0 := by rw [key_is, key_is, h]
  by_cases hh : t = s ∧ l = k
  · exact hh
  · exact absurd e (keys_apart t l 0 s k 0 ht.1 ht.2 (by omega) hl.2 (by omega) (by omega) hs.1 hs.2 (by omega) hk.2 (by omega) (by omega) (fun h2 => hh ⟨h2.1, h2.2.1⟩))
theorem kind_is (s k : Int) : kindT s k = spaceT s ++ str [k] := by
  rw [spaceT, str_app, kindT]; rfl
theorem space_inj {t s : Int} (ht : okI t) (hs : okI s) (h : spaceT t = spaceT s) : t = s :=
  (kind_inj ht (l := 1) (by omega) hs (k := 1) (by omega) (by rw [kind_is, kind_is, h])).1
theorem pre_kind {t l m s k : Int} (ht : okI t) (hl : 1 ≤ l ∧ l ≤ 255) (hs : okI s) (hk : 1 ≤ k ∧ k ≤ 255) : Lib.hasPrefix (bs (keyT t l m)) (bs (kindT s k)) = decide (t = s ∧ l = k) := by
  rw [key_is, prefix_of _ _ _ (by rw [kindT_size, kindT_size]), decide_eq_decide]
  exact ⟨kind_inj ht hl hs hk, fun h => by rw [h.1, h.2]⟩
theorem pre_space {t l m s : Int} (ht : okI t) (hs : okI s) : Lib.hasPrefix (bs (keyT t l m)) (bs (spaceT s)) = decide (t = s) := by
  rw [key_is, kind_is, app_assoc, prefix_of _ _ _ (by rw [spaceT_size, spaceT_size]), decide_eq_decide]
  exact ⟨space_inj ht hs, fun h => by rw [h]⟩
-- a space and a kind of it whose records are told
structure Half (k t : Int) (d : ByteArray) (xs : List Int) (R : List Rec) : Prop where
  srt : Srt R
  all : ∀ p ∈ R, Lib.hasPrefix (bs p.1) (bs (kindT t k)) = true → ∃ x ∈ xs, p = (keyT t k x, frameT k x d)
  has : ∀ x ∈ xs, (keyT t k x, frameT k x d) ∈ R
theorem num_key {t k x : Int} (ht : okI t) (hk : 1 ≤ k ∧ k ≤ 255) (hx : okI x) : numOf (keyT t k x) = some x := by
  obtain ⟨_, _, h3, h4⟩ := isKey_of t k x ht.1 ht.2 hk.1 hk.2 hx.1 hx.2
  unfold numOf
  rw [if_pos h4, h3]
theorem half_keys {k t : Int} {d : ByteArray} {xs : List Int} {R : List Rec} (h : Half k t d xs R) (ht : okI t) (hk : 1 ≤ k ∧ k ≤ 255) (hxs : ∀ x ∈ xs, okI x) : ∀ key, key ∈ keysL (kindT t k) R ↔ ∃ x ∈ xs, key = keyT t k x := by
  intro key
  unfold keysL
  rw [List.mem_map]
  constructor
  · rintro ⟨p, hp, rfl⟩
    obtain ⟨h1, h2⟩ := List.mem_filter.1 hp
    obtain ⟨x, hx, rfl⟩ := h.all p h1 h2
    exact ⟨x, hx, rfl⟩
  · rintro ⟨x, hx, rfl⟩
    exact ⟨_, List.mem_filter.2 ⟨h.has x hx, by rw [pre_kind ht hk ht hk]; simp⟩, rfl⟩
theorem half_mem {k t : Int} {d : ByteArray} {xs : List Int} {R : List Rec} (h : Half k t d xs R) (ht : okI t) (hk : 1 ≤ k ∧ k ≤ 255) (hxs : ∀ x ∈ xs, okI x) : ∀ y, y ∈ nums (keysL (kindT t k) R) ↔ y ∈ xs := by
  intro y
  unfold nums
  rw [List.mem_filterMap]
  constructor
  · rintro ⟨key, h1, h2⟩
    obtain ⟨x, hx, rfl⟩ := (half_keys h ht hk hxs key).1 h1
    rw [num_key ht hk (hxs x hx)] at h2
    rw [← Option.some.inj h2]; exact hx
  · intro hy
    exact ⟨_, (half_keys h ht hk hxs _).2 ⟨y, hy, rfl⟩, num_key ht hk (hxs y hy)⟩
theorem half_rise {k t : Int} {d : ByteArray} {xs : List Int} {R : List Rec} (h : Half k t d xs R) (ht : okI t) (hk : 1 ≤ k ∧ k ≤ 255) (hxs : ∀ x ∈ xs, okI x) : (nums (keysL (kindT t k) R)).Pairwise (· < ·) := by
  unfold nums
  rw [List.pairwise_filterMap]
  refine (keysL_srt (pre := kindT t k) h.srt).imp_of_mem ?_
  intro a b ha hb hlt x hx y hy
  obtain ⟨x', hx', rfl⟩ := (half_keys h ht hk hxs a).1 ha
  obtain ⟨y', hy', rfl⟩ := (half_keys h ht hk hxs b).1 hb
  rw [num_key ht hk (hxs x' hx')] at hx
  rw [num_key ht hk (hxs y' hy')] at hy
  rw [key_lt ht hk (hxs x' hx') (hxs y' hy')] at hlt
  rw [← Option.some.inj hx, ← Option.some.inj hy]
  exact of_decide_eq_true hlt
theorem rise_unique {a b : List Int} (ha : a.Pairwise (· < ·)) (hb : b.Pairwise (· < ·)) (h : ∀ x, x ∈ a ↔ x ∈ b) : a = b := by
  have na : a.Nodup := ha.imp (fun h => Int.ne_of_lt h)
  have nb : b.Nodup := hb.imp (fun h => Int.ne_of_lt h)
  exact List.Perm.eq_of_pairwise (le := fun x y : Int => x < y) (fun x y _ _ h1 h2 => by omega) ha hb ((List.perm_ext_iff_of_nodup na nb).2 h)
theorem nums_all {l : List ByteArray} (h : ∀ key ∈ l, (numOf key).isSome = true) : (nums l).length = l.length := by
  induction l with
  | nil => rfl
  | cons x l ih =>
    have h1 := h x (by simp)
    obtain ⟨y, hy⟩ := Option.isSome_iff_exists.1 h1
    unfold nums
    rw [List.filterMap_cons_some hy, List.length_cons, List.length_cons]
    have := ih (fun k hk => h k (by simp [hk]))
    unfold nums at this
    omega
theorem half_len {k t : Int} {d : ByteArray} {xs : List Int} {R : List Rec} (h : Half k t d xs R) (ht : okI t) (hk : 1 ≤ k ∧ k ≤ 255) (hxs : ∀ x ∈ xs, okI x) : (nums (keysL (kindT t k) R)).length = (keysL (kindT t k) R).length := nums_all (fun key hkey => by
  obtain ⟨x, hx, rfl⟩ := (half_keys h ht hk hxs key).1 hkey
  rw [num_key ht hk (hxs x hx)]; rfl)
theorem half_get {k t : Int} {d : ByteArray} {xs : List Int} {R : List Rec} (h : Half k t d xs R) {x : Int} (hx : x ∈ xs) : rget (keyT t k x) R = some (frameT k x d) := (get_some h.srt).2 (h.has x hx)
-- the two of them
structure Two (k s : Int) (a b : ByteArray) (xs : List Int) (R : List Rec) : Prop where
  srt : Srt R
  all : ∀ p ∈ R, ∃ x ∈ xs, p = (keyT s k x, frameT k x a) ∨ p = (keyT (s + 1) k x, frameT k x b)
  ha : ∀ x ∈ xs, (keyT s k x, frameT k x a) ∈ R
  hb : ∀ x ∈ xs, (keyT (s + 1) k x, frameT k x b) ∈ R
theorem Two.nil (k s : Int) (a b : ByteArray) : Two k s a b [] [] := ⟨srt_nil, fun p hp => (by cases hp), fun x hx => (by cases hx), fun x hx => (by cases hx)⟩
theorem Two.add {k s : Int} {a b : ByteArray} {xs : List Int} {R : List Rec} (h : Two k s a b xs R) (hs : okI s) (hs1 : okI (s + 1)) (hk : 1 ≤ k ∧ k ≤ 255) (hxs : ∀ x ∈ xs, okI x) (x : Int) (hx : okI x) : Two k s a b (xs ++ [x]) (put (keyT (s + 1) k x) (frameT k x b) (put (keyT s k x) (frameT k x a) R)) := by
  have hap : ∀ y z, okI y → okI z → keyT s k y ≠ keyT (s + 1) k z := fun y z hy hz => keys_apart s k y (s + 1) k z hs.1 hs.2 (by omega) hk.2 hy.1 hy.2 hs1.1 hs1.2 (by omega) hk.2 hz.1 hz.2 (fun h => by omega)
  have hsame : ∀ t, okI t → ∀ y z, okI y → okI z → y ≠ z → keyT t k y ≠ keyT t k z := fun t ht y z hy hz hne => keys_apart t k y t k z ht.1 ht.2 (by omega) hk.2 hy.1 hy.2 ht.1 ht.2 (by omega) hk.2 hz.1 hz.2 (fun h => hne h.2.2)
  have hok : ∀ y ∈ xs ++ [x], okI y := fun y hy => by
    rcases List.mem_append.1 hy with h1 | h1
    · exact hxs y h1
    · simp at h1; subst h1; exact hx
  refine ⟨srt_put (srt_put h.srt), ?_, ?_, ?_⟩
  · intro p hp
    rcases mem_put.1 hp with rfl | ⟨hp, _⟩
    · exact ⟨x, by simp, .inr rfl⟩
    · rcases mem_put.1 hp with rfl | ⟨hp, _⟩
      · exact ⟨x, by simp, .inl rfl⟩
      · obtain ⟨y, hy, hh⟩ := h.all p hp
        exact ⟨y, List.mem_append_left _ hy, hh⟩
  · intro y hy
    refine mem_put.2 (.inr ⟨?_, hap y x (hok y hy) hx⟩)
    by_cases e : y = x
    · subst e; exact mem_put.2 (.inl rfl)
    · rcases List.mem_append.1 hy with h1 | h1
      · exact mem_put.2 (.inr ⟨h.ha y h1, hsame s hs y x (hok y hy) hx e⟩)
      · simp at h1; exact absurd h1 e
  · intro y hy
    by_cases e : y = x
    · subst e; exact mem_put.2 (.inl rfl)
    · rcases List.mem_append.1 hy with h1 | h1
      · exact mem_put.2 (.inr ⟨mem_put.2 (.inr ⟨h.hb y h1, (hap x y hx (hok y hy)).symm⟩), hsame (s + 1) hs1 y x (hok y hy) hx e⟩)
      · simp at h1; exact absurd h1 e
theorem Two.left {k s : Int} {a b : ByteArray} {xs : List Int} {R : List Rec} (h : Two k s a b xs R) (hs : okI s) (hs1 : okI (s + 1)) (hk : 1 ≤ k ∧ k ≤ 255) (hxs : ∀ x ∈ xs, okI x) : Half k s a xs R := by
  refine ⟨h.srt, fun p hp hpre => ?_, h.ha⟩
  obtain ⟨x, hx, rfl | rfl⟩ := h.all p hp
  · exact ⟨x, hx, rfl⟩
  · rw [pre_kind hs1 hk hs hk] at hpre
    have := of_decide_eq_true hpre
    omega
theorem Two.right {k s : Int} {a b : ByteArray} {xs : List Int} {R : List Rec} (h : Two k s a b xs R) (hs : okI s) (hs1 : okI (s + 1)) (hk : 1 ≤ k ∧ k ≤ 255) (hxs : ∀ x ∈ xs, okI x) : Half k (s + 1) b xs R := by
  refine ⟨h.srt, fun p hp hpre => ?_, h.hb⟩
  obtain ⟨x, hx, rfl | rfl⟩ := h.all p hp
  · rw [pre_kind hs hk hs1 hk] at hpre
    have := of_decide_eq_true hpre
    omega
  · exact ⟨x, hx, rfl⟩
theorem Two.space {k s : Int} {a b : ByteArray} {xs : List Int} {R : List Rec} (h : Two k s a b xs R) (hs : okI s) (hs1 : okI (s + 1)) (hk : 1 ≤ k ∧ k ≤ 255) : keysL (spaceT s) R = keysL (kindT s k) R := by
  unfold keysL
  congr 1
  apply List.filter_congr
  intro p hp
  obtain ⟨x, hx, rfl | rfl⟩ := h.all p hp
  · rw [pre_space hs hs, pre_kind hs hk hs hk, decide_eq_decide]; simp
  · rw [pre_space hs1 hs, pre_kind hs1 hk hs hk, decide_eq_decide]
    constructor
    · intro h; omega
    · intro h; omega
-- what is left behind a Wipe
theorem mem_dels (ks : List ByteArray) (R : List Rec) (p : Rec) : p ∈ ks.foldl (fun r k => del k r) R ↔ p ∈ R ∧ p.1 ∉ ks := by
  induction ks generalizing R with
  | nil => simp
  | cons k ks ih =>
    rw [List.foldl_cons, ih, mem_del]
    simp only [List.mem_cons, not_or]
    constructor
    · rintro ⟨⟨h1, h2⟩, h3⟩; exact ⟨h1, h2, h3⟩
    · rintro ⟨h1, h2, h3⟩; exact ⟨⟨h1, h2⟩, h3⟩
theorem srt_dels (ks : List ByteArray) {R : List Rec} (h : Srt R) : Srt (ks.foldl (fun r k => del k r) R) := by
  induction ks generalizing R with
  | nil => exact h
  | cons k ks ih => exact ih (srt_del h)
theorem Two.wiped {k s : Int} {a b : ByteArray} {xs : List Int} {R : List Rec} (h : Two k s a b xs R) (hs : okI s) (hs1 : okI (s + 1)) (hk : 1 ≤ k ∧ k ≤ 255) (hxs : ∀ x ∈ xs, okI x) :
    Half k (s + 1) b xs ((keysL (spaceT s) R).foldl (fun r k => del k r) R) ∧ keysL (kindT s k) ((keysL (spaceT s) R).foldl (fun r k => del k r) R) = [] := by
  have hL := h.left hs hs1 hk hxs
  have hR := h.right hs hs1 hk hxs
  rw [h.space hs hs1 hk]
  have hks := half_keys hL hs hk hxs
  constructor
  · refine ⟨srt_dels _ h.srt, fun p hp hpre => hR.all p ((mem_dels _ _ _).1 hp).1 hpre, fun x hx => (mem_dels _ _ _).2 ⟨h.hb x hx, fun hin => ?_⟩⟩
    obtain ⟨y, hy, e⟩ := (hks _).1 hin
    exact keys_apart s k y (s + 1) k x hs.1 hs.2 (by omega) hk.2 (hxs y hy).1 (hxs y hy).2 hs1.1 hs1.2 (by omega) hk.2 (hxs x hx).1 (hxs x hx).2 (fun h => by omega) e.symm
  · rw [List.eq_nil_iff_forall_not_mem]
    intro key hkey
    unfold keysL at hkey
    obtain ⟨p, hp, rfl⟩ := List.mem_map.1 hkey
    obtain ⟨h1, h2⟩ := List.mem_filter.1 hp
    obtain ⟨h3, h4⟩ := (mem_dels _ _ _).1 h1
    obtain ⟨x, hx, rfl⟩ := hL.all p h3 h2
    exact h4 ((hks _).2 ⟨x, hx, rfl⟩)
theorem wipe_all (ks : List ByteArray) : ∀ (s : S), s.off = false → s.armed = 0 → (∀ key ∈ ks, 1 ≤ key.size ∧ key.size ≤ 64 ∧ (rget key (now s)).isSome = true) → ks.Nodup → Srt (now s) →
    wipeL ks s = (0, { s with pend := s.pend ++ ks.map fun k => ⟨true, k, ByteArray.empty⟩ }) := by
  induction ks with
  | nil => intro s _ _ _ _ _; simp [wipeL]
  | cons k ks ih =>
    intro s ho ha hall hnd hsrt
    obtain ⟨h1, h2, h3⟩ := hall k (by simp)
    have hr : refS s k = 0 := by unfold refS; rw [ho]; simp [h1, h2]
    have hc : cutS s k = (0, addW s ⟨true, k, ByteArray.empty⟩) := by
      unfold cutS
      rw [if_neg (by simp [hr]), if_pos h3]
      unfold spendS
      rw [if_pos (show (addW s ⟨true, k, ByteArray.empty⟩).armed = 0 from ha)]
    have hn : now (addW s ⟨true, k, ByteArray.empty⟩) = del k (now s) := by rw [now_add]; rfl
    obtain ⟨hnk, hnd2⟩ := List.nodup_cons.1 hnd
    rw [wipeL, hc, if_pos rfl]
    rw [ih (addW s ⟨true, k, ByteArray.empty⟩) ho ha (fun key hkey => by
      obtain ⟨a1, a2, a3⟩ := hall key (by simp [hkey])
      refine ⟨a1, a2, ?_⟩
      rw [hn, get_del_other hsrt (show key ≠ k by rintro rfl; exact hnk hkey)]
      exact a3) hnd2 (by rw [hn]; exact srt_del hsrt)]
    simp [addW]
theorem now_wiped (ks : List ByteArray) (s : S) : now { s with pend := s.pend ++ ks.map fun k => (⟨true, k, ByteArray.empty⟩ : W) } = ks.foldl (fun r k => del k r) (now s) := by
  unfold now
  simp only [List.foldl_append, List.foldl_map]
  rfl
-- the states of the law
def ws (k s : Int) (a b : ByteArray) (xs : List Int) : List W := xs.flatMap fun x => [⟨false, keyT s k x, frameT k x a⟩, ⟨false, keyT (s + 1) k x, frameT k x b⟩]
def sW (k s : Int) (a b : ByteArray) (xs : List Int) : S := ⟨536870912, [], ws k s a b xs, 0, false, 0⟩
theorem sW_add (k s : Int) (a b : ByteArray) (xs : List Int) (x : Int) : addW (addW (sW k s a b xs) ⟨false, keyT s k x, frameT k x a⟩) ⟨false, keyT (s + 1) k x, frameT k x b⟩ = sW k s a b (xs ++ [x]) := by simp [sW, ws, addW]
theorem sW_now (k s : Int) (a b : ByteArray) (xs : List Int) (x : Int) : now (sW k s a b (xs ++ [x])) = put (keyT (s + 1) k x) (frameT k x b) (put (keyT s k x) (frameT k x a) (now (sW k s a b xs))) := by
  rw [← sW_add, now_add, now_add]; rfl
theorem ws_len (k s : Int) (a b : ByteArray) (xs : List Int) : (ws k s a b xs).length = 2 * xs.length := by
  unfold ws
  induction xs with
  | nil => rfl
  | cons x l ih => rw [List.flatMap_cons, List.length_append, ih]; simp; omega
theorem sW_two {k s : Int} {a b : ByteArray} (hs : okI s) (hs1 : okI (s + 1)) (hk : 1 ≤ k ∧ k ≤ 255) : ∀ n (xs : List Int), xs.length = n → (∀ x ∈ xs, okI x) → Two k s a b xs (now (sW k s a b xs)) := by
  intro n
  induction n with
  | zero =>
    intro xs h _
    have : xs = [] := List.length_eq_zero_iff.1 h
    subst this
    exact Two.nil k s a b
  | succ n ih =>
    intro xs h hok
    rcases List.eq_nil_or_concat xs with e | ⟨l, x, e⟩
    · subst e; simp at h
    · subst e
      rw [List.concat_eq_append] at h hok ⊢
      rw [sW_now]
      have hl : l.length = n := by simp at h; exact h
      exact (ih l hl (fun y hy => hok y (by simp [hy]))).add hs hs1 hk (fun y hy => hok y (by simp [hy])) x (hok x (by simp))
theorem tot_bound (c : Nat) {R : List Rec} (h : ∀ p ∈ R, cnt p ≤ c) : tot R ≤ c * R.length := by
  induction R with
  | nil => simp [tot]
  | cons p R ih =>
    have h1 := h p (by simp)
    have h2 := ih (fun q hq => h q (by simp [hq]))
    rw [tot, List.length_cons, Nat.mul_succ]; omega
theorem sW_tot {k s : Int} {a b : ByteArray} (hs : okI s) (hs1 : okI (s + 1)) (hk : 1 ≤ k ∧ k ≤ 255) (ha : a.size = 1) (hb : b.size = 1) (xs : List Int) (hok : ∀ x ∈ xs, okI x) (hl : xs.length ≤ 100) : tot (now (sW k s a b xs)) ≤ 10600 := by
  have h := sW_two (a := a) (b := b) hs hs1 hk xs.length xs rfl hok
  have h1 := tot_bound 53 (R := now (sW k s a b xs)) (fun p hp => by
    obtain ⟨x, hx, rfl | rfl⟩ := h.all p hp
    · have z1 := keyT_size s k x
      have z2 := frameT_size k x a
      simp only [cnt]; omega
    · have z1 := keyT_size (s + 1) k x
      have z2 := frameT_size k x b
      simp only [cnt]; omega)
  have h2 : (now (sW k s a b xs)).length ≤ 0 + (ws k s a b xs).length := len_do _ _
  rw [ws_len] at h2
  have h3 : 53 * (now (sW k s a b xs)).length ≤ 53 * 200 := Nat.mul_le_mul_left _ (by omega)
  omega
theorem sW_put {k s : Int} {a b : ByteArray} (hs : okI s) (hs1 : okI (s + 1)) (hk : 1 ≤ k ∧ k ≤ 255) (ha : a.size = 1) (hb : b.size = 1) (xs : List Int) (hok : ∀ x ∈ xs, okI x) (hl : xs.length ≤ 100) (x : Int) :
    putS (sW k s a b xs) (keyT s k x) (frameT k x a) = (0, addW (sW k s a b xs) ⟨false, keyT s k x, frameT k x a⟩) ∧
    putS (addW (sW k s a b xs) ⟨false, keyT s k x, frameT k x a⟩) (keyT (s + 1) k x) (frameT k x b) = (0, sW k s a b (xs ++ [x])) := by
  have ht := sW_tot (a := a) (b := b) hs hs1 hk ha hb xs hok hl
  have hsr := (sW_two (a := a) (b := b) hs hs1 hk xs.length xs rfl hok).srt
  have z1 := keyT_size s k x
  have z2 := frameT_size k x a
  have z3 := keyT_size (s + 1) k x
  have z4 := frameT_size k x b
  have h1 := tot_le (keyT s k x) (frameT k x a) hsr
  have h2 := tot_le (keyT (s + 1) k x) (frameT k x b) (srt_put (k := keyT s k x) (d := frameT k x a) hsr)
  simp only [cnt] at h1 h2
  constructor
  · refine put_ok rfl rfl (by omega) (by omega) ?_
    show (_ : Int) ≤ 536870912
    omega
  · rw [← sW_add]
    refine put_ok rfl rfl (by omega) (by omega) ?_
    rw [now_add]
    show ((tot (put (keyT (s + 1) k x) (frameT k x b) (put (keyT s k x) (frameT k x a) (now (sW k s a b xs)))) : Nat) : Int) ≤ 536870912
    omega
-- the state behind the Wipe
def sV (k s : Int) (a b : ByteArray) (xs : List Int) : S := { sW k s a b xs with pend := (sW k s a b xs).pend ++ (keysL (spaceT s) (now (sW k s a b xs))).map fun k => ⟨true, k, ByteArray.empty⟩ }
theorem sV_now (k s : Int) (a b : ByteArray) (xs : List Int) : now (sV k s a b xs) = (keysL (spaceT s) (now (sW k s a b xs))).foldl (fun r k => del k r) (now (sW k s a b xs)) := now_wiped _ _
theorem sW_wipe {k s : Int} {a b : ByteArray} (hs : okI s) (hs1 : okI (s + 1)) (hk : 1 ≤ k ∧ k ≤ 255) (xs : List Int) (hok : ∀ x ∈ xs, okI x) :
    wipeS (sW k s a b xs) s = (((((nums (keysL (kindT s k) (now (sW k s a b xs)))).length : Nat) : Int), 0), sV k s a b xs) := by
  have h := sW_two (a := a) (b := b) hs hs1 hk xs.length xs rfl hok
  have hL := h.left hs hs1 hk hok
  have hkeys : keysS (sW k s a b xs) (spaceT s) = keysL (spaceT s) (now (sW k s a b xs)) := by unfold keysS; rw [if_neg (by simp [sW])]
  have hw := wipe_all (keysL (spaceT s) (now (sW k s a b xs))) (sW k s a b xs) rfl rfl (fun key hkey => by
    rw [h.space hs hs1 hk] at hkey
    obtain ⟨x, hx, rfl⟩ := (half_keys hL hs hk hok key).1 hkey
    have z := keyT_size s k x
    refine ⟨by omega, by omega, ?_⟩
    rw [half_get hL hx]; rfl) (keysL_nodup h.srt) h.srt
  unfold wipeS
  rw [if_neg (by have := hs.1; omega), if_neg (by simp [sW]), hkeys, hw, if_pos rfl, half_len hL hs hk hok, ← h.space hs hs1 hk]
  rfl
theorem numbers_is {st : S} (ho : st.off = false) {t k : Int} (ht : okI t) (hk : 1 ≤ k ∧ k ≤ 255) : numbersS st t k = nums (keysL (kindT t k) (now st)) := by
  unfold numbersS
  rw [if_pos ⟨ht.1, hk.1, hk.2⟩]
  unfold keysS
  rw [if_neg (by simp [ho])]
end Go.Proofs.YtmindflfjocjlaaGreat.tbf
