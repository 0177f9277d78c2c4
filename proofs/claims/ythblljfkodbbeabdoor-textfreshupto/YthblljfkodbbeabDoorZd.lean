import Derived.Test.YthblljfkodbbeabDoorZe
import Derived.Deep.DeepCutAuto
namespace Go.Proofs.YthblljfkodbbeabDoor.zd
open Go.RowKit Go.PlainAid
open Go.Proofs.YthblljfkodbbeabDoor.ta Go.Proofs.YthblljfkodbbeabDoor.tb Go.Proofs.YthblljfkodbbeabDoor.tc Go.Proofs.YthblljfkodbbeabDoor.te Go.Proofs.YthblljfkodbbeabDoor.tj Go.Proofs.YthblljfkodbbeabDoor.va Go.Proofs.YthblljfkodbbeabDoor.vb Go.Proofs.YthblljfkodbbeabDoor.vc Go.Proofs.YthblljfkodbbeabDoor.ya Go.Proofs.YthblljfkodbbeabDoor.yb Go.Proofs.YthblljfkodbbeabDoor.za Go.Proofs.YthblljfkodbbeabDoor.zb Go.Proofs.YthblljfkodbbeabDoor.zc Go.Proofs.YthblljfkodbbeabDoor.ze
set_option linter.unusedVariables false

theorem conv_one (W : World) (c : Int) : (convert 39 9 (.slice (some ⟨W.heap.size, 0, none⟩) 1 1)).run Tryd.prog (W.alloc (.cells #[.int .u8 c] 5)).drew = .ok (.string (str [c])) (W.alloc (.cells #[.int .u8 c] 5)).drew := by
  apply conv_at [c] _ _ _ _ _ rfl
  intro j v hj
  have e : (Addr.add ⟨W.heap.size, 0, none⟩ j) = ⟨W.heap.size, j, none⟩ := by cases j <;> simp [Addr.add]
  rw [e]
  show (W.alloc (.cells #[.int .u8 c] 5)).cell? _ = _
  rw [World.cell?_alloc_at _ _ _ _ rfl]
  simpa using hj
theorem conv_one' (W : World) (c : Int) : (convert 39 9 (.slice (some ⟨W.heap.size, 0, none⟩) 1 1)).run Tryd.prog (W.alloc (.cells #[.int .u8 c] 5)) = .ok (.string (str [c])) (W.alloc (.cells #[.int .u8 c] 5)) := by
  apply conv_at [c] _ _ _ _ _ rfl
  intro j v hj
  have e : (Addr.add ⟨W.heap.size, 0, none⟩ j) = ⟨W.heap.size, j, none⟩ := by cases j <;> simp [Addr.add]
  rw [e, World.cell?_alloc_at _ _ _ _ rfl]
  simpa using hj
def At (xss yss : List (List ByteArray)) (i j : Nat) : Prop :=
  ∀ (t : Nat) (ys xs : List ByteArray), yss[t]? = some ys → xss[t]? = some xs → ys = if t < i then List.replicate xs.length (mk t) else if t = i then fill (mk i) xs j else xs

theorem Row.below {w w' : World} {B gv : Nat} {vs : List Value} {gs : List Nat} {xss : List (List ByteArray)} (h : Row w B gv vs gs xss) (hb : Below w.heap.size w w') : Row w' B gv vs gs xss := by
  refine ⟨h.lv, h.lx, fun i v hv => ?_, fun i v g xs hv hg hx => ?_, h.apart⟩
  · have := h.cell i v hv
    exact (hb.cell (p := ⟨gv, i, none⟩) (World.block_lt_of_cell? _ _ this)).trans this
  · obtain ⟨a, b, c⟩ := h.lst i v g xs hv hg hx
    exact ⟨a.kept fun o ho => (hb.block g (Array.getElem?_eq_some_iff.1 ho).1).trans ho, b, c⟩
theorem At.len {xss yss : List (List ByteArray)} {i j t : Nat} {ys xs : List ByteArray} (h : At xss yss i j) (hy : yss[t]? = some ys) (hx : xss[t]? = some xs) (hj : t = i → j ≤ xs.length) : ys.length = xs.length := by
  have e := h t ys xs hy hx
  split at e
  · rw [e, List.length_replicate]
  · split at e
    · rename_i hh
      rw [e, fill_len _ _ _ (hj hh)]
    · rw [e]
theorem At.step {xss yss : List (List ByteArray)} {k m : Nat} {ys xs : List ByteArray} (h : At xss yss k m) (hy : yss[k]? = some ys) (hx : xss[k]? = some xs) (hm : m < xs.length) : At xss (yss.set k (ys.set m (mk k))) k (m + 1) := by
  intro t zs us h1 h2
  rcases Decidable.em (t = k) with rfl | hne
  · have hl : t < yss.length := (List.getElem?_eq_some_iff.1 hy).1
    rw [List.getElem?_set_self hl] at h1
    obtain rfl := Option.some.inj h1
    rw [hx] at h2
    obtain rfl := Option.some.inj h2
    have e := h t ys xs hy hx
    rw [if_neg (by omega), if_pos rfl] at e ⊢
    rw [e, fill_set _ _ _ hm]
  · rw [List.getElem?_set_ne (fun e => hne e.symm)] at h1
    have e := h t zs us h1 h2
    rw [if_neg hne] at e ⊢
    exact e
theorem At.next {xss yss : List (List ByteArray)} {k : Nat} {xs : List ByteArray} (h : At xss yss k xs.length) (hx : xss[k]? = some xs) : At xss yss (k + 1) 0 := by
  intro t zs us h1 h2
  have e := h t zs us h1 h2
  rcases Nat.lt_or_ge t k with g | g
  · rw [if_pos g] at e
    rw [if_pos (by omega)]
    exact e
  · rw [if_neg (by omega)] at e
    rcases Decidable.em (t = k) with rfl | hne
    · rw [if_pos rfl] at e
      rw [hx] at h2
      obtain rfl := Option.some.inj h2
      rw [if_pos (by omega), e, fill_end]
    · rw [if_neg hne] at e
      rw [if_neg (by omega)]
      split
      · rw [e, fill_zero]
      · exact e
set_option maxHeartbeats 3200000 in
set_option maxRecDepth 100000 in
theorem apart1 (B gv : Nat) (vs : List Value) (gs : List Nat) (xss : List (List ByteArray)) (cv : Nat) (w : World) (h : Row w B gv vs gs xss) (hB : B ≤ gv) (hBw : B ≤ w.heap.size) (hp : vs.length ≤ 16) (hx : ∀ xs ∈ xss, xs.length ≤ 1048577) :
    Calls Tryd.prog 32 #[.slice (some ⟨gv, 0, none⟩) vs.length cv] w fun e w' => e = .returned (.bool true) ∧ Below B w w' := by
  have HR : Hid (Row w B gv vs gs xss) := h
  obtain ⟨p, HP⟩ : ∃ p, Hid (vs.length = p) := ⟨_, rfl⟩
  have hp' : p ≤ 16 := by rw [← HP.out]; exact hp
  rw [HP.out]
  have HXL : Hid (∀ xs ∈ xss, xs.length ≤ 1048577) := hx
  clear h hp hx
  have hcv := conv_one
  have hcv' := conv_one'
  obtain ⟨i9, hi, hz0, hz1, hz2⟩ := info_parts hi9
  have HIN : Hid (_ ∧ _ ∧ _ ∧ _) := ⟨hi, hz0, hz1, hz2⟩
  clear hi hz0 hz1 hz2
  obtain ⟨iL, hi, hz0, hz1, hz2⟩ := info_parts hiL
  have HIL : Hid (_ ∧ _ ∧ _ ∧ _) := ⟨hi, hz0, hz1, hz2⟩
  clear hi hz0 hz1 hz2
  have hst : ∀ c : Int, (str [c]).size = 1 := fun c => str_size [c]
  have h4 : (⟨#[109, 97, 114, 107]⟩ : ByteArray).size = 4 := rfl
  go_enter Tryd.func32, Tryd.ntmps32
  go_wp2
  go_loopw [3] (fun i wr => ∃ (k : Nat) (yss : List (List ByteArray)), k ≤ p ∧ i = .int .i64 k ∧ Hid (Row wr B gv vs gs yss ∧ At xss yss k 0 ∧ Below B w wr)) (fun i _ => (p - intOf i).toNat)
  case atStart => exact ⟨0, xss, by omega, rfl, HR.out, (fun t ys xs h1 h2 => by rw [h1] at h2; obtain rfl := Option.some.inj h2; split; omega; split; rw [fill_zero]; rfl), Below.refl _ _⟩
  case round =>
    obtain ⟨k, yss, hk, rfl, HL⟩ := hrel
    by_cases hlt : k < p
    · have hlt' : (k : Int) < p := by omega
      have hkv : k < vs.length := by rw [HP.out]; exact hlt
      obtain ⟨v, HV⟩ : ∃ v, Hid (vs[k]? = some v) := ⟨vs[k]'hkv, List.getElem?_eq_getElem hkv⟩
      obtain ⟨g, HG⟩ : ∃ g, Hid (gs[k]? = some g) := ⟨gs[k]'(by rw [HR.out.lv]; exact hkv), List.getElem?_eq_getElem (by rw [HR.out.lv]; exact hkv)⟩
      obtain ⟨xs, HX⟩ : ∃ xs, Hid (xss[k]? = some xs) := ⟨xss[k]'(by rw [HR.out.lx]; exact hkv), List.getElem?_eq_getElem (by rw [HR.out.lx]; exact hkv)⟩
      have hxl := HXL.out xs (List.mem_of_getElem? HX.out)
      have hm26 : (97 : Int) + (k : Int) % 26 < 256 := by omega
      have hm0 : (0 : Int) ≤ (k : Int) % 26 := by omega
      have hw1 : IntKind.u8.wrap (97 + (k : Int) % 26) = 97 + (k : Int) % 26 := by rw [IntKind.wrap_u8]; omega
      have HMK : Hid (mk k = (⟨#[109, 97, 114, 107]⟩ : ByteArray) ++ str [97 + (k : Int) % 26]) := by show _ = _; unfold mk; congr 2
      obtain ⟨n, HN⟩ : ∃ n, Hid (xs.length = n) := ⟨_, rfl⟩
      have hn : n ≤ 1048577 := by rw [← HN.out]; exact hxl
      -- the list's value
      have HVF : Hid (∃ av, v = .slice av n n) := by
        obtain ⟨ys, hy⟩ : ∃ ys, yss[k]? = some ys := ⟨yss[k]'(by rw [HL.out.1.lx]; exact hkv), List.getElem?_eq_getElem (by rw [HL.out.1.lx]; exact hkv)⟩
        have hl := HL.out.2.1.len hy HX.out (fun _ => Nat.zero_le _)
        rcases (HL.out.1.lst k v g ys HV.out HG.out hy).1.form with ⟨h1, h2⟩ | ⟨h1, _⟩
        · subst h2
          have : n = 0 := by rw [← HN.out, ← hl]; rfl
          subst this
          exact ⟨none, h1⟩
        · rw [hl, HN.out] at h1
          exact ⟨_, h1⟩
      obtain ⟨av, hav⟩ := HVF.out
      subst hav
      have c1 := HL.out.1.cell k _ HV.out
      clear hxl
      go_wp2
      go_loopw [4] (fun j wr' => ∃ (m : Nat) (zss : List (List ByteArray)), m ≤ n ∧ j = .int .i64 m ∧ Hid (Row wr' B gv vs gs zss ∧ At xss zss k m ∧ Below B w wr')) (fun j _ => (n - intOf j).toNat)
      case atStart => exact ⟨0, yss, by omega, rfl, HL.out⟩
      case round =>
        clear c1
        obtain ⟨m, zss, hm, rfl, HI⟩ := hrel
        have c1 := HI.out.1.cell k _ HV.out
        by_cases hmt : m < n
        · have hmt' : (m : Int) < n := by omega
          obtain ⟨zs, hy⟩ : ∃ zs, zss[k]? = some zs := ⟨zss[k]'(by rw [HI.out.1.lx]; exact hkv), List.getElem?_eq_getElem (by rw [HI.out.1.lx]; exact hkv)⟩
          have hl := HI.out.2.1.len hy HX.out (fun _ => by rw [HN.out]; omega)
          obtain ⟨e1, c2, f2⟩ := (HI.out.1.lst k _ g zs HV.out HG.out hy).1.cell (k := m) (by rw [hl, HN.out]; exact hmt)
          injection e1 with e1 e2 e3
          subst e1
          obtain ⟨O, HO⟩ : ∃ O, Hid (Obj.cells #[Value.int .u8 (97 + (k : Int) % 26)] 5 = O) := ⟨_, rfl⟩
          have ba : Below wr.heap.size wr (wr.alloc O) := (Below.refl _ _).alloc (Nat.le_refl _) _
          have c1a : (wr.alloc O).cell? ⟨gv, k, none⟩ = _ := (ba.cell (p := ⟨gv, k, none⟩) (World.block_lt_of_cell? _ _ c1)).trans c1
          have c2a : (wr.alloc O).cell? ⟨g, m, none⟩ = _ := (ba.cell (p := ⟨g, m, none⟩) (World.block_lt_of_cell? _ _ c2)).trans c2
          have bd : Below wr.heap.size wr (wr.alloc O).drew := ⟨ba.os, ba.tape, ba.output, ba.size, ba.block⟩
          have RA : Hid (Row (wr.alloc O).drew B gv vs gs zss) := Row.below HI.out.1 bd
          have f2a : (wr.alloc O).frozen? ⟨g, m, none⟩ = false := ((RA.out.lst k _ g zs HV.out HG.out hy).1.cell (k := m) (by rw [hl, HN.out]; exact hmt)).2.2
          have c1b : (wr.alloc O).drew.cell? ⟨gv, k, none⟩ = _ := c1a
          have c2b : (wr.alloc O).drew.cell? ⟨g, m, none⟩ = _ := c2a
          have f2b : (wr.alloc O).drew.frozen? ⟨g, m, none⟩ = false := f2a
          have BA : Hid (Below B w ((wr.alloc O).drew)) := HI.out.2.2.trans (bd.mono (Nat.le_trans hBw HI.out.2.2.size))
          rw [← HO.out] at c1a c2a f2a c1b c2b f2b RA BA
          have RS := RA.out.set k m g zs (mk k) HG.out hy (by rw [hl, HN.out]; exact hmt)
          have AS := HI.out.2.1.step hy HX.out (by rw [HN.out]; exact hmt)
          have BS := BA.out.trans (set_below _ B g m (.string (mk k)) (RA.out.lst k _ g zs HV.out HG.out hy).2.1)
          rw [HMK.out] at RS BS
          have HRS : Hid (Row _ _ _ _ _ _) := RS
          have HAS : Hid (At _ _ _ _) := AS
          have HBS : Hid (Below _ _ _) := BS
          clear ba bd e2 e3 hl RS AS BS
          go_wp2_with fail
          go_region
          go_wp2
          go_roundw
          case rel => exact ⟨m + 1, _, by omega, by go_num, HRS.out, HAS.out, HBS.out⟩
          case measure => simp [intOf]; omega
        · have hmt' : ¬ (m : Int) < n := by omega
          obtain rfl : m = n := by omega
          have HA : Hid (At xss zss (k + 1) 0) := by
            have := HI.out.2.1
            rw [← HN.out] at this
            exact this.next HX.out
          go_wp2
          go_roundw
          case rel => exact ⟨k + 1, zss, by omega, by go_num, HI.out.1, HA.out, HI.out.2.2⟩
          case measure => simp [intOf]; omega
    · have hlt' : ¬ (k : Int) < p := by omega
      obtain rfl : k = p := by omega
      obtain ⟨w3, rfl⟩ : ∃ w3, w3 = wr := ⟨_, rfl⟩
      have HB3 : Hid (Below B w w3) := HL.out.2.2
      have HR3 : Hid (Row w3 B gv vs gs yss) := HL.out.1
      have HALL : Hid (∀ (t : Nat) (ys : List ByteArray), yss[t]? = some ys → ∃ n, n ≤ 1048577 ∧ ys = List.replicate n (mk t)) := by
        intro t ys hy
        have ht : t < yss.length := (List.getElem?_eq_some_iff.1 hy).1
        have ht' : t < k := by rw [HR3.out.lx, HP.out] at ht; exact ht
        have hxs : xss[t]? = some (xss[t]'(by rw [HR.out.lx, HP.out]; exact ht')) := List.getElem?_eq_getElem _
        have e := HL.out.2.1 t ys _ hy hxs
        rw [if_pos ht'] at e
        exact ⟨_, HXL.out _ (List.mem_of_getElem? hxs), e⟩
      obtain ⟨ns, HNS⟩ : ∃ ns, Hid (yss.map List.length = ns) := ⟨_, rfl⟩
      clear HL HXL HR
      go_wp2
      go_loopw [5, 6] (fun mv i wr => ∃ (q : Nat) (ms : List Value), q ≤ k ∧ i = .int .i64 q ∧ Hid (ms.length = q ∧ More wr w3.heap.size mv ns ms ∧ Below w3.heap.size w3 wr)) (fun _ i _ => (k - intOf i).toNat)
      case atStart => exact ⟨0, [], by omega, rfl, rfl, More.nil _ _ _, Below.refl _ _⟩
      case round =>
        obtain ⟨q, ms, hq, rfl, HM⟩ := hrel
        obtain ⟨wk, rfl⟩ : ∃ wk, wk = wr := ⟨_, rfl⟩
        by_cases hqt : q < k
        · have hqt' : (q : Int) < k := by omega
          have hqv : q < vs.length := by rw [HP.out]; exact hqt
          obtain ⟨v, HV⟩ : ∃ v, Hid (vs[q]? = some v) := ⟨vs[q]'hqv, List.getElem?_eq_getElem hqv⟩
          obtain ⟨g, HG⟩ : ∃ g, Hid (gs[q]? = some g) := ⟨gs[q]'(by rw [HR3.out.lv]; exact hqv), List.getElem?_eq_getElem (by rw [HR3.out.lv]; exact hqv)⟩
          obtain ⟨ys, HY⟩ : ∃ ys, Hid (yss[q]? = some ys) := ⟨yss[q]'(by rw [HR3.out.lx]; exact hqv), List.getElem?_eq_getElem (by rw [HR3.out.lx]; exact hqv)⟩
          obtain ⟨n, hn, hyn⟩ := HALL.out q ys HY.out
          have HYN : Hid (ys = List.replicate n (mk q)) := hyn
          have RQ : Hid (Row wk B gv vs gs yss) := Row.below HR3.out HM.out.2.2
          have HVF : Hid (∃ av, v = .slice av n n ∧ (av = none → n = 0 ∧ n = 0) ∧ ∀ (W' : World), Below wk.heap.size wk W' → ∀ b, av = some b → ∀ (j : Nat) (u : Value), ((List.replicate n (mk q)).map Value.string)[j]? = some u → W'.cell? (b.add j) = some u) := by
            have hL := (RQ.out.lst q v g ys HV.out HG.out HY.out).1
            rw [hyn] at hL
            have hR := hL.reads
            rcases hL.form with ⟨h1, h2⟩ | ⟨h1, _⟩
            · have : n = 0 := by have := congrArg List.length h2; simpa using this
              subst this
              exact ⟨none, h1, fun _ => ⟨rfl, rfl⟩, fun W' _ b hb => by cases hb⟩
            · rw [List.length_replicate] at h1
              refine ⟨_, h1, (fun h => by cases h), fun W' hb b e j u hu => ?_⟩
              obtain rfl := Option.some.inj e
              obtain ⟨a', cap', e1, hc⟩ := hR.later hb
              rw [h1] at e1
              injection e1 with e1 e2 e3
              have hj : j < (List.replicate n (mk q)).length := by
                have := (List.getElem?_eq_some_iff.1 hu).1
                simpa using this
              rcases hc with h0 | ⟨b', off, e4, hc⟩
              · omega
              · rw [← e1] at e4
                injection e4 with e4
                injection e4 with e5 e6
                subst e5 e6
                have := hc j hj
                rw [Nat.zero_add] at this
                rw [show (Addr.add ⟨g, 0, none⟩ j) = ⟨g, j, none⟩ by cases j <;> simp [Addr.add], this, ← hu, List.getElem?_map, List.getElem?_eq_getElem hj, List.getD_eq_getElem?_getD, List.getElem?_eq_getElem hj]
                rfl
          obtain ⟨av, hav, hnone, holds⟩ := HVF.out
          have HNO : Hid (av = none → n = 0 ∧ n = 0) := hnone
          have HOL : Hid (∀ (W' : World), Below wk.heap.size wk W' → ∀ b, av = some b → ∀ (j : Nat) (u : Value), ((List.replicate n (mk q)).map Value.string)[j]? = some u → W'.cell? (b.add j) = some u) := holds
          subst hav
          have c1 := RQ.out.cell q _ HV.out
          have HMK : Hid (mk q = (⟨#[109, 97, 114, 107]⟩ : ByteArray) ++ str [97 + (q : Int) % 26]) := by show _ = _; unfold mk; congr 2
          have hm26 : (97 : Int) + (q : Int) % 26 < 256 := by omega
          have hm0 : (0 : Int) ≤ (q : Int) % 26 := by omega
          have hw1 : IntKind.u8.wrap (97 + (q : Int) % 26) = 97 + (q : Int) % 26 := by rw [IntKind.wrap_u8]; omega
          clear hyn hnone holds HVF
          go_wp2
          clear c1
          go_loopw [7, 8] (fun l j wr => ∃ (m : Nat), m ≤ 64 ∧ j = .int .i64 m ∧ Hid (Below wk.heap.size wk wr ∧ ((m = 0 ∧ l = .slice av n n) ∨ (0 < m ∧ wr.ownsRow wk.heap.size 9 1 l (n + m) ((List.replicate (n + m) (mk q)).map Value.string))))) (fun _ j _ => (64 - intOf j).toNat)
          case atStart => exact ⟨0, by omega, rfl, Below.refl _ _, .inl ⟨rfl, rfl⟩⟩
          case round =>
            obtain ⟨m, hm, rfl, HI⟩ := hrel
            by_cases hmt : m < 64
            · have hmt' : (m : Int) < 64 := by omega
              obtain ⟨MK, HMV⟩ : ∃ MK, Hid ((⟨#[109, 97, 114, 107]⟩ : ByteArray) ++ str [97 + (q : Int) % 26] = MK) := ⟨_, rfl⟩
              have HMQ : Hid (MK = mk q) := by show _ = _; rw [HMK.out, HMV.out]
              have hmv := HMV.out
              have B1 : Hid (Below wk.heap.size wk ((wr.alloc (.cells #[.int .u8 (97 + (q : Int) % 26)] 5)).alloc (.cells #[.string MK] 9))) :=
                (HI.out.1.alloc HI.out.1.size _).alloc (Nat.le_trans HI.out.1.size (by simp)) _
              have HNC : Hid (∀ (j : Nat) (u : Value), [Value.string MK][j]? = some u → ((wr.alloc (.cells #[.int .u8 (97 + (q : Int) % 26)] 5)).alloc (.cells #[.string MK] 9)).cell? (Addr.add ⟨wr.heap.size + 1, 0, none⟩ j) = some u) := by
                intro j u hu
                cases j with
                | zero =>
                  simp at hu
                  subst hu
                  have := new_cell (wr.alloc (.cells #[.int .u8 (97 + (q : Int) % 26)] 5)) (.string MK) 9
                  simpa using this
                | succ j => simp at hu
              have HN1 : Hid (∀ u ∈ [Value.string MK], u.oneCell' = true) := fun u hu => by simp at hu; subst hu; rfl
              have HRP : Hid ((List.replicate (n + m) (mk q)).map Value.string ++ [Value.string MK] = (List.replicate (n + (m + 1)) (mk q)).map Value.string) := by
                show _ = _
                rw [HMQ.out, ← Nat.add_assoc, List.replicate_succ', List.map_append]
                rfl
              have HSZ : Hid (wk.heap.size ≤ ((wr.alloc (.cells #[.int .u8 (97 + (q : Int) % 26)] 5)).alloc (.cells #[.string MK] 9)).heap.size) := B1.out.size
              rcases HI.out.2 with ⟨hm0, hl⟩ | ⟨hm0, hown⟩
              · subst hm0 hl
                have HLN : Hid (((List.replicate n (mk q)).map Value.string).length = n * 1) := by show _ = _; simp
                have HOS : Hid (∀ b, av = some b → ∀ (j : Nat) (u : Value), ((List.replicate n (mk q)).map Value.string)[j]? = some u → ((wr.alloc (.cells #[.int .u8 (97 + (q : Int) % 26)] 5)).alloc (.cells #[.string MK] 9)).cell? (b.add j) = some u) := HOL.out _ B1.out
                go_wp2_with (at_builtin; refine wpList_append_grows _ rfl _ _ 29 rfl 9 i9 (.string ByteArray.empty) 1 16 Tryd.underlying29 HIN.out.1 HIN.out.2.1 HIN.out.2.2.1 HIN.out.2.2.2 rfl (by decide) av n n ((List.replicate n (mk q)).map Value.string) rfl HNO.out HLN.out HOS.out ⟨wr.heap.size + 1, 0, none⟩ 1 1 [.string MK] rfl rfl HNC.out HN1.out (by omega) (by unfold maxLen; omega) (by omega) ?_; intro l' w5 hown' hgrow3; have HO5 : Hid (w5.ownsRow wk.heap.size 9 1 l' (n + 1) ((List.replicate (n + 0) (mk q)).map Value.string ++ [Value.string MK])) := own_down hown' HSZ.out; have HB5 : Hid (Below wk.heap.size wk w5) := Below.grown B1.out hgrow3 HSZ.out (fun j hj => by cases hj); clear hown' hgrow3)
                go_roundw
                case rel =>
                  refine ⟨1, by omega, by go_num, HB5.out, .inr ⟨by omega, ?_⟩⟩
                  rw [← HRP.out]
                  exact HO5.out
                case measure => simp [intOf]
              · have HO4 : Hid (World.ownsRow _ _ _ _ _ _ _) := (hown.alloc (.cells #[.int .u8 (97 + (q : Int) % 26)] 5)).alloc (.cells #[.string MK] 9)
                have HOB : Hid (∀ j, u7.ownBlock = some j → wk.heap.size ≤ j) := fun j hj => (hown.lt _ hj).1
                clear hown
                go_wp2_with (at_builtin; refine wpList_append_own _ rfl _ _ 29 rfl wk.heap.size 9 i9 (.string ByteArray.empty) 1 16 Tryd.underlying29 HIN.out.1 HIN.out.2.1 HIN.out.2.2.1 HIN.out.2.2.2 rfl (by decide) _ (n + m) _ rfl HO4.out ⟨wr.heap.size + 1, 0, none⟩ 1 1 [.string MK] rfl rfl HNC.out HN1.out (by unfold maxLen; omega) (by omega) HSZ.out ?_; intro l' w5 hown' hgrow3 hnil3; have HO5 : Hid (w5.ownsRow wk.heap.size 9 1 l' (n + m + 1) ((List.replicate (n + m) (mk q)).map Value.string ++ [Value.string MK])) := hown'; have HB5 : Hid (Below wk.heap.size wk w5) := Below.grown B1.out hgrow3 HSZ.out HOB.out; clear hown' hgrow3 hnil3)
                go_roundw
                case rel =>
                  refine ⟨m + 1, by omega, by go_num, HB5.out, .inr ⟨by omega, ?_⟩⟩
                  rw [← HRP.out]
                  exact HO5.out
                case measure => simp [intOf]; omega
            · have hmt' : ¬ (m : Int) < 64 := by omega
              obtain rfl : m = 64 := by omega
              have HOL6 : Hid (wr.ownsRow wk.heap.size 9 1 u7 (n + 64) ((List.replicate (n + 64) (mk q)).map Value.string)) := by
                rcases HI.out.2 with ⟨h, _⟩ | ⟨_, h⟩
                · omega
                · exact h
              obtain ⟨gl, cl, rfl⟩ : ∃ gl cl, u7 = .slice (some ⟨gl, 0, none⟩) (n + 64) cl := by
                rcases HOL6.out.2 with ⟨_, h⟩ | ⟨g', cp, cur, h, _⟩
                · omega
                · exact ⟨g', cp, h⟩
              have hns : ns.getD q 0 = n := by
                rw [← HNS.out, List.getD_eq_getElem?_getD, List.getElem?_map, HY.out, HYN.out]
                simp
              have HNQ : Hid (ns.getD q 0 = n) := hns
              have BW : Hid (Below wk.heap.size wk (wr.alloc (.cells #[.slice (some ⟨gl, 0, none⟩) (n + 64) cl] 29))) := HI.out.1.alloc HI.out.1.size _
              have B3 : Hid (Below w3.heap.size w3 (wr.alloc (.cells #[.slice (some ⟨gl, 0, none⟩) (n + 64) cl] 29))) := HM.out.2.2.trans (BW.out.mono HM.out.2.2.size)
              have MO : Hid (More (wr.alloc (.cells #[.slice (some ⟨gl, 0, none⟩) (n + 64) cl] 29)) w3.heap.size u5 ns ms) := HM.out.2.1.later BW.out
              have HLW : Hid ((wr.alloc (.cells #[.slice (some ⟨gl, 0, none⟩) (n + 64) cl] 29)).ownsRow w3.heap.size 9 1 (.slice (some ⟨gl, 0, none⟩) (n + 64) cl) (ns.getD q 0 + 64) ((List.replicate (ns.getD q 0 + 64) (mk q)).map Value.string)) := by
                show World.ownsRow _ _ _ _ _ _ _
                rw [HNQ.out]
                exact (own_down HOL6.out HM.out.2.2.size).alloc _
              have HMO : Hid (World.ownsRow _ _ _ _ _ _ _) := MO.out.row
              have HML : Hid (ms.length = q) := HM.out.1
              rw [HML.out] at HMO
              have HOB : Hid (∀ j, u5.ownBlock = some j → w3.heap.size ≤ j) := fun j hj => (HMO.out.lt _ hj).1
              clear hns
              go_wp2_with (at_builtin; refine wpList_append_own _ rfl _ _ 50 rfl w3.heap.size 29 iL (.slice none 0 0) 1 24 Tryd.underlying50 HIL.out.1 HIL.out.2.1 HIL.out.2.2.1 HIL.out.2.2.2 rfl (by decide) _ q _ rfl HMO.out ⟨wr.heap.size, 0, none⟩ 1 1 [.slice (some ⟨gl, 0, none⟩) (n + 64) cl] rfl rfl (fun i u hu => by cases i with | zero => (simp at hu; rw [← hu]; exact new_cell _ _ _) | succ i => simp at hu) (fun u hu => by simp at hu; subst hu; rfl) (by unfold maxLen; omega) (by omega) B3.out.size ?_; intro mv' w5 hown' hgrow3 hnil3; have HM5 : Hid (More w5 w3.heap.size mv' ns (ms ++ [.slice (some ⟨gl, 0, none⟩) (n + 64) cl])) := MO.out.put HML.out HLW.out hown' hgrow3; have HB5 : Hid (Below w3.heap.size w3 w5) := Below.grown B3.out hgrow3 B3.out.size HOB.out; clear hown' hgrow3 hnil3)
              go_roundw
              case rel => exact ⟨q + 1, _, by omega, by go_num, (by rw [List.length_append, HML.out]; rfl), HM5.out, HB5.out⟩
              case measure => simp [intOf]; omega
        · have hqt' : ¬ (q : Int) < k := by omega
          obtain rfl : q = k := by omega
          have RQ : Hid (Row wk B gv vs gs yss) := Row.below HR3.out HM.out.2.2
          have BQ : Hid (Below B w wk) := HB3.out.trans (HM.out.2.2.mono (Nat.le_trans hBw HB3.out.size))
          have hBk : B ≤ wk.heap.size := Nat.le_trans hBw BQ.out.size
          have HMF : Hid (∃ am cm, u5 = .slice am q cm ∧ ∀ (t : Nat) (v : Value), ms[t]? = some v → ∃ gm, am = some ⟨gm, 0, none⟩ ∧ wk.cell? ⟨gm, t, none⟩ = some v) := by
            have hr := HM.out.2.1.row
            rw [HM.out.1] at hr
            have hl := HM.out.1
            rcases hr.2 with ⟨h1, h2⟩ | ⟨g', cp, cur, h1, _⟩
            · refine ⟨none, 0, by rw [h1, h2], fun t v hv => ?_⟩
              have := (List.getElem?_eq_some_iff.1 hv).1
              omega
            · refine ⟨_, cp, h1, fun t v hv => ⟨g', rfl, ?_⟩⟩
              subst h1
              have := (List.getElem?_eq_some_iff.1 hv).1
              rw [hr.cellAt t (by omega), hv]
          obtain ⟨am, cm, hu5, hmc⟩ := HMF.out
          subst hu5
          have HMC : Hid (∀ (t : Nat) (v : Value), ms[t]? = some v → ∃ gm, am = some ⟨gm, 0, none⟩ ∧ wk.cell? ⟨gm, t, none⟩ = some v) := hmc
          have HML : Hid (ms.length = q) := HM.out.1
          have HMO : Hid (∀ (t : Nat) (v : Value), ms[t]? = some v → wk.ownsRow w3.heap.size 9 1 v (ns.getD t 0 + 64) ((List.replicate (ns.getD t 0 + 64) (mk t)).map Value.string)) := HM.out.2.1.one
          clear hmc HMF HM HR3 HB3
          go_wp2
          go_loopw [9] (fun i wr => ∃ (t : Nat), t ≤ q ∧ i = .int .i64 t ∧ Hid (Below wk.heap.size wk wr)) (fun i _ => (q - intOf i).toNat)
          case atStart => exact ⟨0, by omega, rfl, Below.refl _ _⟩
          case round =>
            obtain ⟨t, ht, rfl, HW⟩ := hrel
            obtain ⟨wx, rfl⟩ : ∃ wx, wx = wr := ⟨_, rfl⟩
            by_cases htt : t < q
            · have htt' : (t : Int) < q := by omega
              have hqv : t < vs.length := by rw [HP.out]; exact htt
              obtain ⟨v, HV⟩ : ∃ v, Hid (vs[t]? = some v) := ⟨vs[t]'hqv, List.getElem?_eq_getElem hqv⟩
              obtain ⟨g, HG⟩ : ∃ g, Hid (gs[t]? = some g) := ⟨gs[t]'(by rw [RQ.out.lv]; exact hqv), List.getElem?_eq_getElem (by rw [RQ.out.lv]; exact hqv)⟩
              obtain ⟨ys, HY⟩ : ∃ ys, Hid (yss[t]? = some ys) := ⟨yss[t]'(by rw [RQ.out.lx]; exact hqv), List.getElem?_eq_getElem (by rw [RQ.out.lx]; exact hqv)⟩
              obtain ⟨mt, HMT⟩ : ∃ mt, Hid (ms[t]? = some mt) := ⟨ms[t]'(by rw [HML.out]; exact htt), List.getElem?_eq_getElem _⟩
              obtain ⟨n, hn, hyn⟩ := HALL.out t ys HY.out
              have HYN : Hid (ys = List.replicate n (mk t)) := hyn
              have hns : ns.getD t 0 = n := by
                rw [← HNS.out, List.getD_eq_getElem?_getD, List.getElem?_map, HY.out, HYN.out]
                simp
              obtain ⟨gm, ham, hcm⟩ := HMC.out t mt HMT.out
              subst ham
              have HOT : Hid (wk.ownsRow w3.heap.size 9 1 mt (n + 64) ((List.replicate (n + 64) (mk t)).map Value.string)) := by
                have := HMO.out t mt HMT.out
                rw [hns] at this
                exact this
              obtain ⟨gt, ct, rfl⟩ : ∃ gt ct, mt = .slice (some ⟨gt, 0, none⟩) (n + 64) ct := by
                rcases HOT.out.2 with ⟨_, h⟩ | ⟨g', cp, cur, h, _⟩
                · omega
                · exact ⟨g', cp, h⟩
              have HCM : Hid (wk.cell? ⟨gm, t, none⟩ = some (.slice (some ⟨gt, 0, none⟩) (n + 64) ct)) := hcm
              have HVF : Hid (∃ av, v = .slice av n n ∧ ∀ j, j < n → av = some ⟨g, 0, none⟩ ∧ wk.cell? ⟨g, j, none⟩ = some (.string (mk t))) := by
                have hL := (RQ.out.lst t v g ys HV.out HG.out HY.out).1
                rw [hyn] at hL
                rcases hL.form with ⟨h1, h2⟩ | ⟨h1, h2⟩
                · have : n = 0 := by have := congrArg List.length h2; simpa using this
                  subst this
                  exact ⟨none, h1, fun j hj => by omega⟩
                · rw [List.length_replicate] at h1
                  refine ⟨_, h1, fun j hj => ⟨rfl, ?_⟩⟩
                  rw [(hL.cell (k := j) (by rw [List.length_replicate]; exact hj)).2.1, List.getD_eq_getElem?_getD, List.getElem?_replicate, if_pos hj]
                  rfl
              obtain ⟨av, hav, hcl⟩ := HVF.out
              subst hav
              have HCL : Hid (∀ j, j < n → av = some ⟨g, 0, none⟩ ∧ wk.cell? ⟨g, j, none⟩ = some (.string (mk t))) := hcl
              have HCV : Hid (wk.cell? ⟨gv, t, none⟩ = some (.slice av n n)) := RQ.out.cell t _ HV.out
              have HMK : Hid (mk t = (⟨#[109, 97, 114, 107]⟩ : ByteArray) ++ str [97 + (t : Int) % 26]) := by show _ = _; unfold mk; congr 2
              have hm26 : (97 : Int) + (t : Int) % 26 < 256 := by omega
              have hm0 : (0 : Int) ≤ (t : Int) % 26 := by omega
              have hw1 : IntKind.u8.wrap (97 + (t : Int) % 26) = 97 + (t : Int) % 26 := by rw [IntKind.wrap_u8]; omega
              have HBX : Hid (Below wk.heap.size wk (wx.alloc (.cells #[.int .u8 (97 + (t : Int) % 26)] 5))) := HW.out.alloc HW.out.size _
              clear hyn hns hcm hcl HVF
              go_wp2
              obtain ⟨wy, hwy⟩ : ∃ wy, wx.alloc (.cells #[.int .u8 (97 + (t : Int) % 26)] 5) = wy := ⟨_, rfl⟩
              rw [hwy] at HBX ⊢
              clear hwy
              have qm : (((⟨#[109, 97, 114, 107]⟩ : ByteArray) ++ str [97 + (t : Int) % 26]).toList == ((⟨#[109, 97, 114, 107]⟩ : ByteArray) ++ str [97 + (t : Int) % 26]).toList) = true := beq_self_eq_true _
              go_loopw [11] (fun j wr => ∃ (r : Nat), r ≤ n + 64 ∧ j = .int .i64 r ∧ wr = wy) (fun j _ => (n + 64 - intOf j).toNat)
              case atStart => exact ⟨0, by omega, rfl, rfl⟩
              case round =>
                obtain ⟨r, hr, rfl, rfl⟩ := hrel
                have c1 : wr.cell? ⟨gm, t, none⟩ = some (.slice (some ⟨gt, 0, none⟩) (n + 64) ct) := (HBX.out.cell (p := ⟨gm, t, none⟩) (World.block_lt_of_cell? _ _ HCM.out)).trans HCM.out
                by_cases hrt : r < n + 64
                · have hrt' : (r : Int) < (n : Int) + 64 := by omega
                  have c0 : wk.cell? ⟨gt, r, none⟩ = some (.string (mk t)) := by
                    rw [HOT.out.cellAt r (by omega), List.getElem?_map, List.getElem?_replicate, if_pos (by omega)]
                    rfl
                  have c2 : wr.cell? ⟨gt, r, none⟩ = some (.string ((⟨#[109, 97, 114, 107]⟩ : ByteArray) ++ str [97 + (t : Int) % 26])) := by
                    rw [← HMK.out]
                    exact (HBX.out.cell (p := ⟨gt, r, none⟩) (World.block_lt_of_cell? _ _ c0)).trans c0
                  have c3 : wr.cell? ⟨gv, t, none⟩ = some (.slice av n n) := (HBX.out.cell (p := ⟨gv, t, none⟩) (World.block_lt_of_cell? _ _ HCV.out)).trans HCV.out
                  clear c0
                  by_cases hrn : r < n
                  · have hrn' : (r : Int) < n := by omega
                    obtain ⟨hav, c0⟩ := HCL.out r hrn
                    subst hav
                    have c4 : wr.cell? ⟨g, r, none⟩ = some (.string ((⟨#[109, 97, 114, 107]⟩ : ByteArray) ++ str [97 + (t : Int) % 26])) := by
                      rw [← HMK.out]
                      exact (HBX.out.cell (p := ⟨g, r, none⟩) (World.block_lt_of_cell? _ _ c0)).trans c0
                    clear c0
                    go_wp2
                    go_roundw
                    case rel => exact ⟨r + 1, by omega, by go_num, by first | rfl | trivial⟩
                    case measure => simp [intOf]; omega
                  · have hrn' : ¬ (r : Int) < n := by omega
                    go_wp2
                    go_roundw
                    case rel => exact ⟨r + 1, by omega, by go_num, by first | rfl | trivial⟩
                    case measure => simp [intOf]; omega
                · have hrt' : ¬ (r : Int) < (n : Int) + 64 := by omega
                  go_wp2
                  go_roundw
                  case rel => exact ⟨t + 1, by omega, by go_num, HBX.out⟩
                  case measure => simp [intOf]; omega
            · have htt' : ¬ (t : Int) < q := by omega
              go_wp2
              go_ret
              exact ⟨rfl, BQ.out.trans (HW.out.mono hBk)⟩
end Go.Proofs.YthblljfkodbbeabDoor.zd
