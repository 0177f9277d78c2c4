import Derived.Test.YtmindflfjocjlaaGreatRj0
namespace Go.Proofs.YtmindflfjocjlaaGreat.fb
open Go.RowKit Go.PlainAid
open Go.Proofs.YtmindflfjocjlaaGreat.kp Go.Proofs.YtmindflfjocjlaaGreat.ka Go.Proofs.YtmindflfjocjlaaGreat.fa
set_option linter.unusedVariables false

-- a list written full, as far as it is
def fill (M : Int) (xs : List Int) (k : Nat) : List Int := List.replicate k M ++ xs.drop k
theorem fill_len (M : Int) (xs : List Int) (k : Nat) (h : k ≤ xs.length) : (fill M xs k).length = xs.length := by simp [fill]; omega
theorem fill_set (M : Int) (xs : List Int) (k : Nat) (h : k < xs.length) : (fill M xs k).set k M = fill M xs (k + 1) := by
  unfold fill
  rw [List.set_append_right _ _ (by simp), List.length_replicate, Nat.sub_self, List.drop_eq_getElem_cons h, List.set_cons_zero, List.replicate_succ', List.append_assoc]
  rfl
theorem fill_end (M : Int) (xs : List Int) : fill M xs xs.length = List.replicate xs.length M := by simp [fill]
theorem fill_zero (M : Int) (xs : List Int) : fill M xs 0 = xs := by simp [fill]
def At (xss yss : List (List Int)) (i j : Nat) : Prop :=
  ∀ (t : Nat) (ys xs : List Int), yss[t]? = some ys → xss[t]? = some xs → ys = if t < i then List.replicate xs.length (mk t) else if t = i then fill (mk i) xs j else xs

theorem At.len {xss yss : List (List Int)} {i j t : Nat} {ys xs : List Int} (h : At xss yss i j) (hy : yss[t]? = some ys) (hx : xss[t]? = some xs) (hj : t = i → j ≤ xs.length) : ys.length = xs.length := by
  have e := h t ys xs hy hx
  split at e
  · rw [e, List.length_replicate]
  · split at e
    · rename_i hh
      rw [e, fill_len _ _ _ (hj hh)]
    · rw [e]
theorem At.step {xss yss : List (List Int)} {k m : Nat} {ys xs : List Int} (h : At xss yss k m) (hy : yss[k]? = some ys) (hx : xss[k]? = some xs) (hm : m < xs.length) : At xss (yss.set k (ys.set m (mk k))) k (m + 1) := by
  intro t zs us h1 h2
  rcases Decidable.em (t = k) with rfl | hne
  · have hl : t < yss.length := (List.getElem?_eq_some_iff.1 hy).1
    rw [List.getElem?_set_self hl] at h1
    obtain rfl := Option.some.inj h1
    rw [hx] at h2
    obtain rfl := Option.some.inj h2
    have e := h t ys xs hy hx
    rw [if_neg (by omega), if_pos rfl] at e ⊢
    rw [e, fill_set _ _ _ hm]
  · rw [List.getElem?_set_ne (fun e => hne e.symm)] at h1
    have e := h t zs us h1 h2
    rw [if_neg hne] at e ⊢
    exact e
theorem At.next {xss yss : List (List Int)} {k : Nat} {xs : List Int} (h : At xss yss k xs.length) (hx : xss[k]? = some xs) : At xss yss (k + 1) 0 := by
  intro t zs us h1 h2
  have e := h t zs us h1 h2
  rcases Nat.lt_or_ge t k with g | g
  · rw [if_pos g] at e
    rw [if_pos (by omega)]
    exact e
  · rw [if_neg (by omega)] at e
    rcases Decidable.em (t = k) with rfl | hne
    · rw [if_pos rfl] at e
      rw [hx] at h2
      obtain rfl := Option.some.inj h2
      rw [if_pos (by omega), e, fill_end]
    · rw [if_neg hne] at e
      rw [if_neg (by omega)]
      split
      · rw [e, fill_zero]
      · exact e
theorem map_mks (n : Nat) (M : Int) : (List.replicate n M).map (Value.int .i64) = mks n M := rfl
theorem mks_get (n j : Nat) (M : Int) (h : j < n) : (mks n M)[j]? = some (.int .i64 M) := by
  unfold mks
  rw [List.getElem?_map, List.getElem?_replicate, if_pos h]
  rfl
set_option maxHeartbeats 6400000 in
set_option maxRecDepth 100000 in
theorem apartC (w : World) (B : Nat) (mv : Value) (vs : List Value) (xss : List (List Int)) (h : Fam w B mv vs xss) (hp0 : 0 < vs.length) (hp : vs.length ≤ 16) (hx : ∀ xs ∈ xss, xs.length ≤ 3518437208883) (hBw : B ≤ w.heap.size) :
    Calls Tryz.prog 15 #[mv] w fun e w' => e = .returned (.bool true) ∧ Below B w w' := by
  obtain ⟨gv, cv, rfl⟩ : ∃ gv cv, mv = .slice (some ⟨gv, 0, none⟩) vs.length cv := by
    rcases own_shape h.row with ⟨_, e⟩ | ⟨g, c, e, _⟩
    · omega
    · exact ⟨g, c, e⟩
  have HR : Hid (Fam w B (.slice (some ⟨gv, 0, none⟩) vs.length cv) vs xss) := h
  obtain ⟨p, HP⟩ : ∃ p, Hid (vs.length = p) := ⟨_, rfl⟩
  have hp' : p ≤ 16 := by rw [← HP.out]; exact hp
  rw [HP.out] at HR ⊢
  have HXL : Hid (∀ xs ∈ xss, xs.length ≤ 3518437208883) := hx
  have HLX : Hid (xss.length = p) := by show _ = _; rw [h.lx, HP.out]
  clear h hp hx hp0
  obtain ⟨i9, hi, hz0, hz1, hz2⟩ := info_parts info_ints
  have HIN : Hid (_ ∧ _ ∧ _ ∧ _) := ⟨hi, hz0, hz1, hz2⟩
  clear hi hz0 hz1 hz2
  obtain ⟨iL, hi, hz0, hz1, hz2⟩ := info_parts infoL
  have HIL : Hid (_ ∧ _ ∧ _ ∧ _) := ⟨hi, hz0, hz1, hz2⟩
  clear hi hz0 hz1 hz2
  have FC : Hid (∀ (wr : World) (yss : List (List Int)), Fam wr B (.slice (some ⟨gv, 0, none⟩) p cv) vs yss → ∀ (t : Nat) (v : Value), vs[t]? = some v → wr.cell? ⟨gv, t, none⟩ = some v) := fun wr yss hf t v hv => by
    have hr := hf.row
    rw [HP.out] at hr
    rw [hr.cellAt t (by rw [← HP.out, Nat.mul_one]; exact (List.getElem?_eq_some_iff.1 hv).1)]
    exact hv
  go_enter Tryz.func15, Tryz.ntmps15
  go_wp2
  go_loopw [3] (fun i wr => ∃ (k : Nat) (yss : List (List Int)), k ≤ p ∧ i = .int .i64 k ∧ Hid (Fam wr B (.slice (some ⟨gv, 0, none⟩) p cv) vs yss ∧ At xss yss k 0 ∧ Below B w wr)) (fun i _ => (p - intOf i).toNat)
  case atStart => exact ⟨0, xss, by omega, rfl, HR.out, (fun t ys xs h1 h2 => by rw [h1] at h2; obtain rfl := Option.some.inj h2; split; omega; split; rw [fill_zero]; rfl), Below.refl _ _⟩
  case round =>
    obtain ⟨k, yss, hk, rfl, HL⟩ := hrel
    by_cases hlt : k < p
    · have hlt' : (k : Int) < p := by omega
      have hkv : k < vs.length := by rw [HP.out]; exact hlt
      obtain ⟨v, HV⟩ : ∃ v, Hid (vs[k]? = some v) := ⟨vs[k]'hkv, List.getElem?_eq_getElem hkv⟩
      obtain ⟨xs, HX⟩ : ∃ xs, Hid (xss[k]? = some xs) := ⟨xss[k]'(by rw [HLX.out]; exact hlt), List.getElem?_eq_getElem (by rw [HLX.out]; exact hlt)⟩
      have hxl := HXL.out xs (List.mem_of_getElem? HX.out)
      have h16 : (k : Int) < 16 := by omega
      have HMK : Hid (mk k = -20 - (k : Int)) := rfl
      obtain ⟨n, HN⟩ : ∃ n, Hid (xs.length = n) := ⟨_, rfl⟩
      have hn : n ≤ 3518437208883 := by rw [← HN.out]; exact hxl
      have HVF : Hid (∃ av cp, v = .slice av n cp ∧ (0 < n → ∃ g, av = some ⟨g, 0, none⟩)) := by
        have hyl : k < yss.length := by rw [HL.out.1.lx]; exact hkv
        have hy : yss[k]? = some (yss[k]'hyl) := List.getElem?_eq_getElem hyl
        have hl := HL.out.2.1.len hy HX.out (fun _ => Nat.zero_le _)
        have ho := HL.out.1.one k v _ HV.out hy
        rw [hl, HN.out] at ho
        rcases own_shape ho with ⟨h1, h2⟩ | ⟨g, c, h1, _⟩
        · exact ⟨none, 0, by rw [h1, h2], fun h => by omega⟩
        · exact ⟨_, c, h1, fun _ => ⟨g, rfl⟩⟩
      obtain ⟨av, cp, hav, hsome⟩ := HVF.out
      subst hav
      have HSO : Hid (0 < n → ∃ g, av = some ⟨g, 0, none⟩) := hsome
      have c1 := FC.out wr yss HL.out.1 k _ HV.out
      clear hxl hsome HVF
      go_wp2
      go_loopw [4] (fun j wr' => ∃ (m : Nat) (zss : List (List Int)), m ≤ n ∧ j = .int .i64 m ∧ Hid (Fam wr' B (.slice (some ⟨gv, 0, none⟩) p cv) vs zss ∧ At xss zss k m ∧ Below B w wr')) (fun j _ => (n - intOf j).toNat)
      case atStart => exact ⟨0, yss, by omega, rfl, HL.out⟩
      case round =>
        clear c1
        obtain ⟨m, zss, hm, rfl, HI⟩ := hrel
        have c1 := FC.out wr zss HI.out.1 k _ HV.out
        by_cases hmt : m < n
        · have hmt' : (m : Int) < n := by omega
          obtain ⟨g, rfl⟩ := HSO.out (by omega)
          have hyl : k < zss.length := by rw [HI.out.1.lx]; exact hkv
          obtain ⟨zs, hy⟩ : ∃ zs, zss[k]? = some zs := ⟨zss[k]'hyl, List.getElem?_eq_getElem hyl⟩
          have hl := HI.out.2.1.len hy HX.out (fun _ => by rw [HN.out]; omega)
          rw [HN.out] at hl
          have RA : Hid (Fam wr B (.slice (some ⟨gv, 0, none⟩) p cv) vs zss) := HI.out.1
          have hoa := RA.out.one k _ zs HV.out hy
          rw [hl] at hoa
          have c2b : wr.cell? ⟨g, m, none⟩ = some (.int .i64 (zs[m]'(by rw [hl]; exact hmt))) := by
            rw [hoa.cellAt m (by omega), List.getElem?_map, List.getElem?_eq_getElem (by rw [hl]; exact hmt)]
            rfl
          have f2b : wr.frozen? ⟨g, m, none⟩ = false := by
            rcases hoa.2 with ⟨e, _⟩ | ⟨g', cp', cur, e, _, h3, _⟩
            · cases e
            · injection e with e1 _ _
              injection e1 with e1
              injection e1 with e1 _ _
              subst e1
              exact frozen_of_row _ _ _ _ _ h3
          have hgB : B ≤ g := (hoa.lt g rfl).1
          have BA : Hid (Below B w wr) := HI.out.2.2
          have RS := Fam.set (cap := cp) RA.out (by rw [hl]; exact HV.out) hy (by rw [hl]; exact hmt) (mk k)
          have AS := HI.out.2.1.step hy HX.out (by rw [HN.out]; exact hmt)
          have BS : Below B w (World.setCell _ ⟨g, m, none⟩ (.int .i64 (mk k))) := BA.out.setCell hgB _
          rw [HMK.out] at RS BS
          have HRS : Hid (Fam _ _ _ _ _) := RS
          have HAS : Hid (At _ _ _ _) := AS
          have HBS : Hid (Below _ _ _) := BS
          clear RS AS BS hoa
          go_wp2
          go_roundw
          case rel => exact ⟨m + 1, _, by omega, by go_num, HRS.out, HAS.out, HBS.out⟩
          case measure => simp [intOf]; omega
        · have hmt' : ¬ (m : Int) < n := by omega
          obtain rfl : m = n := by omega
          have HA : Hid (At xss zss (k + 1) 0) := by
            have := HI.out.2.1
            rw [← HN.out] at this
            exact this.next HX.out
          go_wp2
          go_roundw
          case rel => exact ⟨k + 1, zss, by omega, by go_num, HI.out.1, HA.out, HI.out.2.2⟩
          case measure => simp [intOf]; omega
    · have hlt' : ¬ (k : Int) < p := by omega
      obtain rfl : k = p := by omega
      obtain ⟨w3, rfl⟩ : ∃ w3, w3 = wr := ⟨_, rfl⟩
      have HB3 : Hid (Below B w w3) := HL.out.2.2
      have HR3 : Hid (Fam w3 B (.slice (some ⟨gv, 0, none⟩) k cv) vs yss) := HL.out.1
      have HALL : Hid (∀ (t : Nat) (ys : List Int), yss[t]? = some ys → ∃ n, n ≤ 3518437208883 ∧ ys = List.replicate n (mk t)) := by
        intro t ys hy
        have ht : t < yss.length := (List.getElem?_eq_some_iff.1 hy).1
        have ht' : t < k := by rw [HR3.out.lx, HP.out] at ht; exact ht
        have hxs : xss[t]? = some (xss[t]'(by rw [HLX.out]; exact ht')) := List.getElem?_eq_getElem _
        have e := HL.out.2.1 t ys _ hy hxs
        rw [if_pos ht'] at e
        exact ⟨_, HXL.out _ (List.mem_of_getElem? hxs), e⟩
      obtain ⟨ns, HNS⟩ : ∃ ns, Hid (yss.map List.length = ns) := ⟨_, rfl⟩
      have HNB : Hid (∀ (t : Nat) (v : Value), vs[t]? = some v → ns.getD t 0 ≤ 3518437208883 ∧ w3.ownsRow B 3 1 v (ns.getD t 0) (mks (ns.getD t 0) (mk t))) := fun t v hv => by
        have htl : t < yss.length := by rw [HR3.out.lx]; exact (List.getElem?_eq_some_iff.1 hv).1
        have hy : yss[t]? = some (yss[t]'htl) := List.getElem?_eq_getElem htl
        obtain ⟨n, hn, e⟩ := HALL.out t _ hy
        have ho := HR3.out.one t v _ hv hy
        have hns : ns.getD t 0 = n := by
          rw [← HNS.out, List.getD_eq_getElem?_getD, List.getElem?_map, hy, e]
          simp
        rw [e, List.length_replicate] at ho
        rw [hns]
        exact ⟨hn, ho⟩
      have HAP : Hid (∀ (i j : Nat) (v u : Value) (g : Nat), i ≠ j → vs[i]? = some v → vs[j]? = some u → v.ownBlock = some g → u.ownBlock ≠ some g) := HR3.out.apart
      have HLT : Hid (∀ (t : Nat) (v : Value) (g : Nat), vs[t]? = some v → v.ownBlock = some g → g < w3.heap.size) := fun t v g h1 h2 => HR3.out.lt t v g h1 h2
      have HRW : Hid (w3.ownsRow B 32 1 (.slice (some ⟨gv, 0, none⟩) k cv) k vs) := by have := HR3.out.row; rw [HP.out] at this; exact this
      clear HL HXL HR HALL HNS FC HLX HR3
      go_wp2
      go_loopw [5, 6] (fun nv i wr => ∃ (q : Nat) (ms : List Value), q ≤ k ∧ i = .int .i64 q ∧ Hid (ms.length = q) ∧ Hid (Grew wr B w3.heap.size nv vs ns ms) ∧ Hid (wr.ownsRow B 32 1 (.slice (some ⟨gv, 0, none⟩) k cv) k vs) ∧ Hid (Below B w wr) ∧ Hid (w3.heap.size ≤ wr.heap.size)) (fun _ i _ => (k - intOf i).toNat)
      case atStart => exact ⟨0, [], by omega, rfl, rfl, ⟨fun t v hv => (HNB.out t v hv).2, World.ownsRow_nil _ _ _ _, fun t v hv => by simp at hv, fun t v u hv => by simp at hv⟩, HRW.out, HB3.out, Nat.le_refl _⟩
      case round =>
        obtain ⟨q, ms, hq, rfl, HML, HG, HROW, HBW, HSZ⟩ := hrel
        obtain ⟨wk, rfl⟩ : ∃ wk, wk = wr := ⟨_, rfl⟩
        by_cases hqt : q < k
        · have hqt' : (q : Int) < k := by omega
          have hqv : q < vs.length := by rw [HP.out]; exact hqt
          obtain ⟨v, HV⟩ : ∃ v, Hid (vs[q]? = some v) := ⟨vs[q]'hqv, List.getElem?_eq_getElem hqv⟩
          obtain ⟨n, HN⟩ : ∃ n, Hid (ns.getD q 0 = n) := ⟨_, rfl⟩
          have hn : n ≤ 3518437208883 := by rw [← HN.out]; exact (HNB.out q v HV.out).1
          have HOV : Hid (wk.ownsRow B 3 1 v n (mks n (mk q))) := by have := HG.out.olds q v HV.out; rw [HN.out] at this; exact this
          have c1 : wk.cell? ⟨gv, q, none⟩ = some v := by rw [HROW.out.cellAt q (by omega)]; exact HV.out
          obtain ⟨av, cp, hav⟩ : ∃ av cp, v = .slice av n cp := by
            rcases own_shape HOV.out with ⟨h1, h2⟩ | ⟨g, c, h1, _⟩
            · exact ⟨none, 0, by rw [h1, h2]⟩
            · exact ⟨_, c, h1⟩
          subst hav
          have HMK : Hid (mk q = -20 - (q : Int)) := rfl
          have h16 : (q : Int) < 16 := by omega
          have hBk : B ≤ wk.heap.size := Nat.le_trans hBw HBW.out.size
          go_wp2
          clear c1
          go_loopw [7, 8] (fun l j wr => ∃ (m : Nat), m ≤ 64 ∧ j = .int .i64 m ∧ Hid (J wk wr B (.slice av n cp) l n m (mk q))) (fun _ j _ => (64 - intOf j).toNat)
          case atStart => exact ⟨0, by omega, rfl, J.start HOV.out⟩
          case round =>
            obtain ⟨m, hm, rfl, HJ⟩ := hrel
            by_cases hmt : m < 64
            · have hmt' : (m : Int) < 64 := by omega
              have HMQ : Hid ((-20 - (q : Int)) = mk q) := rfl
              have HJA : Hid (J wk (wr.alloc (.cells #[.int .i64 (-20 - (q : Int))] 3)) B (.slice av n cp) u7 n m (-20 - (q : Int))) := HJ.out.alloc _
              have HNC : Hid (∀ (j : Nat) (u : Value), [(Value.int .i64) (-20 - (q : Int))][j]? = some u → (wr.alloc (.cells #[.int .i64 (-20 - (q : Int))] 3)).cell? (Addr.add ⟨wr.heap.size, 0, none⟩ j) = some u) := Go.Proofs.YtmindflfjocjlaaGreat.fa.new_one wr (.int .i64 (-20 - (q : Int))) 3
              have HN1 : Hid (∀ u ∈ [(Value.int .i64) (-20 - (q : Int))], u.oneCell' = true) := fun u hu => by simp at hu; subst hu; rfl
              have HSB : Hid (B ≤ (wr.alloc (.cells #[.int .i64 (-20 - (q : Int))] 3)).heap.size) := Nat.le_trans hBk HJA.out.gr.size
              have hfo := HJA.out.forms
              rcases hfo with ⟨ao, cl, hl, hcl, hnn⟩ | ⟨gl, cl, hl, hcl⟩
              · rw [hl] at HJA ⊢
                have HLN : Hid ((mks (n + m) (-20 - (q : Int))).length = (n + m) * 1) := HJA.out.own.1
                have HNO : Hid (ao = none → n + m = 0 ∧ cl = 0) := hnn
                have HCC := own_cells HJA.out.own
                clear hnn hl
                go_wp2_with (at_builtin; refine wpList_append_grows _ rfl _ _ 32 rfl 3 i9 (.int .i64 0) 1 8 Tryz.underlying32 HIN.out.1 HIN.out.2.1 HIN.out.2.2.1 HIN.out.2.2.2 rfl (by decide) ao (n + m) cl (mks (n + m) (-20 - (q : Int))) rfl HNO.out HLN.out HCC ⟨wr.heap.size, 0, none⟩ 1 1 [.int .i64 (-20 - (q : Int))] rfl rfl HNC.out HN1.out (by omega) (by unfold maxLen; omega) (by omega) ?_; intro l' w5 hown' hgrow3; have HJ5 : Hid (J wk w5 B (.slice av n cp) l' n (m + 1) (-20 - (q : Int))) := HJA.out.grow HSB.out hown' hgrow3; clear hown' hgrow3)
                go_roundw
                case rel => exact ⟨m + 1, by omega, by go_num, by rw [← HMQ.out]; exact HJ5.out⟩
                case measure => simp [intOf]; omega
              · rw [hl] at HJA ⊢
                have HOA : Hid (World.ownsRow _ _ _ _ _ _ _) := HJA.out.own
                clear hl
                go_wp2_with (at_builtin; refine wpList_append_own_spare _ rfl _ _ 32 rfl B 3 i9 1 Tryz.underlying32 HIN.out.1 HIN.out.2.2.1 gl (n + m) cl (mks (n + m) (-20 - (q : Int))) rfl HOA.out ⟨wr.heap.size, 0, none⟩ 1 1 [.int .i64 (-20 - (q : Int))] rfl rfl HNC.out HN1.out hcl ?_; intro w5 hown' hgrow3; have HJ5 : Hid (J wk w5 B (.slice av n cp) (.slice (some ⟨gl, 0, none⟩) (n + (m + 1)) cl) n (m + 1) (-20 - (q : Int))) := HJA.out.spare hown' hgrow3; clear hown' hgrow3)
                go_roundw
                case rel => exact ⟨m + 1, by omega, by go_num, by rw [← HMQ.out]; exact HJ5.out⟩
                case measure => simp [intOf]; omega
            · have hmt' : ¬ (m : Int) < 64 := by omega
              obtain rfl : m = 64 := by omega
              obtain ⟨gl, cl, hl⟩ : ∃ gl cl, u7 = .slice (some ⟨gl, 0, none⟩) (n + 64) cl := by
                rcases own_shape HJ.out.own with ⟨_, h⟩ | ⟨g', c', h, _⟩
                · omega
                · exact ⟨g', c', h⟩
              subst hl
              have hne : (3 : Nat) ≠ 32 := by decide
              have HG1 : Hid (Grew wr B w3.heap.size u5 vs ns ms) := Grew.keep HG.out HAP.out HLT.out HV.out HML.out (fun t ht => ⟨vs[t]'(by omega), List.getElem?_eq_getElem _⟩) HJ.out.gr (by rw [HN.out]; exact HJ.out.old)
              have HRO1 : Hid (wr.ownsRow B 32 1 (.slice (some ⟨gv, 0, none⟩) k cv) k vs) := own_other HROW.out HOV.out (fun e => hne e.symm) HJ.out.gr
              have HB1 : Hid (Below B w wr) := HBW.out.grown HJ.out.gr hBk (fun j hj => (HOV.out.lt _ hj).1)
              have HS1 : Hid (w3.heap.size ≤ wr.heap.size) := Nat.le_trans HSZ.out HJ.out.gr.size
              have BAL : Hid (Below wr.heap.size wr (wr.alloc (.cells #[.slice (some ⟨gl, 0, none⟩) (n + 64) cl] 32))) := (Below.refl _ _).alloc (Nat.le_refl _) _
              have HG2 : Hid (Grew (wr.alloc (.cells #[.slice (some ⟨gl, 0, none⟩) (n + 64) cl] 32)) B w3.heap.size u5 vs ns ms) := HG1.out.below BAL.out
              have HRO2 : Hid ((wr.alloc (.cells #[.slice (some ⟨gl, 0, none⟩) (n + 64) cl] 32)).ownsRow B 32 1 (.slice (some ⟨gv, 0, none⟩) k cv) k vs) := HRO1.out.alloc _
              have HLW : Hid ((wr.alloc (.cells #[.slice (some ⟨gl, 0, none⟩) (n + 64) cl] 32)).ownsRow B 3 1 (.slice (some ⟨gl, 0, none⟩) (n + 64) cl) (ns.getD q 0 + 64) (mks (ns.getD q 0 + 64) (mk q))) := by
                show World.ownsRow _ _ _ _ _ _ _
                rw [HN.out]
                exact HJ.out.own.alloc _
              have HBL : Hid (∀ u, vs[q]? = some u → Value.ownBlock (.slice (some ⟨gl, 0, none⟩) (n + 64) cl) = u.ownBlock ∨ ∃ g, Value.ownBlock (.slice (some ⟨gl, 0, none⟩) (n + 64) cl) = some g ∧ w3.heap.size ≤ g) := fun u hu => by
                rw [HV.out] at hu
                obtain rfl := Option.some.inj hu
                rcases HJ.out.at_ with e | ⟨g, e, h⟩
                · exact .inl e
                · exact .inr ⟨g, e, Nat.le_trans HSZ.out h⟩
              have HMO := HG2.out.row
              rw [HML.out] at HMO
              have HMO2 : Hid (World.ownsRow _ _ _ _ _ _ _) := HMO
              have HS2 : Hid (w3.heap.size ≤ (wr.alloc (.cells #[.slice (some ⟨gl, 0, none⟩) (n + 64) cl] 32)).heap.size) := Nat.le_trans HS1.out BAL.out.size
              have HB2 : Hid (Below B w (wr.alloc (.cells #[.slice (some ⟨gl, 0, none⟩) (n + 64) cl] 32))) := HB1.out.alloc (Nat.le_trans hBw HB1.out.size) _
              have HB3S : Hid (B ≤ w3.heap.size) := Nat.le_trans hBw HB3.out.size
              have HLO : Hid (∀ j, u5.ownBlock = some j → w3.heap.size ≤ j) := fun j hj => (HMO2.out.lt _ hj).1
              have HGV : Hid (gv < w3.heap.size) := (HRW.out.lt gv rfl).2
              clear HMO
              go_wp2_with (at_builtin; refine wpList_append_own _ rfl _ _ 35 rfl w3.heap.size 32 iL (.slice none 0 0) 1 24 Tryz.underlying35 HIL.out.1 HIL.out.2.1 HIL.out.2.2.1 HIL.out.2.2.2 rfl (by decide) _ q _ rfl HMO2.out ⟨wr.heap.size, 0, none⟩ 1 1 [.slice (some ⟨gl, 0, none⟩) (n + 64) cl] rfl rfl (Go.Proofs.YtmindflfjocjlaaGreat.fa.new_one _ _ _) (fun u hu => by simp at hu; subst hu; rfl) (by unfold maxLen; omega) (by omega) HS2.out ?_; intro mv' w5 hown' hgrow3 hnil3; have HG5 : Hid (Grew w5 B w3.heap.size mv' vs ns (ms ++ [.slice (some ⟨gl, 0, none⟩) (n + 64) cl])) := Grew.push HG2.out HML.out HLW.out HBL.out hown' hgrow3; have HB5 : Hid (Below B w w5) := Below.grown HB2.out hgrow3 (Nat.le_trans hBw HB2.out.size) (fun j hj => Nat.le_trans HB3S.out (HLO.out j hj)); have HRO5 : Hid (w5.ownsRow B 32 1 (.slice (some ⟨gv, 0, none⟩) k cv) k vs) := HRO2.out.kept hgrow3 (.inr (fun e => by have h1 := HLO.out gv e.symm; have h2 := HGV.out; omega)); have HS5 : Hid (w3.heap.size ≤ w5.heap.size) := Nat.le_trans HS2.out hgrow3.size; clear hown' hgrow3 hnil3)
              go_roundw
              case rel => exact ⟨q + 1, ms ++ [Value.slice (some ⟨gl, 0, none⟩) (n + 64) cl], by omega, by go_num, (by show _ = _; rw [List.length_append, HML.out]; rfl), HG5.out, HRO5.out, HB5.out, HS5.out⟩
              case measure => simp [intOf]; omega
        · have hqt' : ¬ (q : Int) < k := by omega
          obtain rfl : q = k := by omega
          have BQ : Hid (Below B w wk) := HBW.out
          have hBk : B ≤ wk.heap.size := Nat.le_trans hBw BQ.out.size
          have HMF : Hid (∃ am cm, u5 = .slice am q cm ∧ ∀ (t : Nat) (v : Value), ms[t]? = some v → ∃ gm, am = some ⟨gm, 0, none⟩ ∧ wk.cell? ⟨gm, t, none⟩ = some v) := by
            have hr := HG.out.row
            rw [HML.out] at hr
            have hl := HML.out
            rcases own_shape hr with ⟨h1, h2⟩ | ⟨g', cp, h1, _⟩
            · refine ⟨none, 0, by rw [h1, h2], fun t v hv => ?_⟩
              have := (List.getElem?_eq_some_iff.1 hv).1
              omega
            · refine ⟨_, cp, h1, fun t v hv => ⟨g', rfl, ?_⟩⟩
              subst h1
              have := (List.getElem?_eq_some_iff.1 hv).1
              rw [hr.cellAt t (by omega), hv]
          obtain ⟨am, cm, hu5, hmc⟩ := HMF.out
          subst hu5
          have HMC : Hid (∀ (t : Nat) (v : Value), ms[t]? = some v → ∃ gm, am = some ⟨gm, 0, none⟩ ∧ wk.cell? ⟨gm, t, none⟩ = some v) := hmc
          clear hmc HMF HB3
          go_wp2
          go_loopw [9] (fun i wr => ∃ (t : Nat), t ≤ q ∧ i = .int .i64 t ∧ Hid (Below wk.heap.size wk wr)) (fun i _ => (q - intOf i).toNat)
          case atStart => exact ⟨0, by omega, rfl, Below.refl _ _⟩
          case round =>
            obtain ⟨t, ht, rfl, HW⟩ := hrel
            obtain ⟨wx, rfl⟩ : ∃ wx, wx = wr := ⟨_, rfl⟩
            by_cases htt : t < q
            · have htt' : (t : Int) < q := by omega
              have hqv : t < vs.length := by rw [HP.out]; exact htt
              obtain ⟨v, HV⟩ : ∃ v, Hid (vs[t]? = some v) := ⟨vs[t]'hqv, List.getElem?_eq_getElem hqv⟩
              obtain ⟨mt, HMT⟩ : ∃ mt, Hid (ms[t]? = some mt) := ⟨ms[t]'(by rw [HML.out]; exact htt), List.getElem?_eq_getElem _⟩
              obtain ⟨n, HN⟩ : ∃ n, Hid (ns.getD t 0 = n) := ⟨_, rfl⟩
              have hn : n ≤ 3518437208883 := by rw [← HN.out]; exact (HNB.out t v HV.out).1
              obtain ⟨gm, ham, hcm⟩ := HMC.out t mt HMT.out
              subst ham
              have HOT : Hid (wk.ownsRow B 3 1 mt (n + 64) (mks (n + 64) (mk t))) := by
                have := HG.out.one t mt HMT.out
                rw [HN.out] at this
                exact this
              obtain ⟨gt, ct, rfl⟩ : ∃ gt ct, mt = .slice (some ⟨gt, 0, none⟩) (n + 64) ct := by
                rcases HOT.out.2 with ⟨_, h⟩ | ⟨g', cp, cur, h, _⟩
                · omega
                · exact ⟨g', cp, h⟩
              have HCM : Hid (wk.cell? ⟨gm, t, none⟩ = some (.slice (some ⟨gt, 0, none⟩) (n + 64) ct)) := hcm
              have HVF : Hid (∃ av cp g, v = .slice av n cp ∧ ∀ j, j < n → av = some ⟨g, 0, none⟩ ∧ wk.cell? ⟨g, j, none⟩ = some (.int .i64 (mk t))) := by
                have hL := HG.out.olds t v HV.out
                rw [HN.out] at hL
                rcases own_shape hL with ⟨h1, h2⟩ | ⟨g, c, h1, _⟩
                · exact ⟨none, 0, 0, by rw [h1, h2], fun j hj => by omega⟩
                · refine ⟨_, c, g, h1, fun j hj => ⟨rfl, ?_⟩⟩
                  subst h1
                  rw [hL.cellAt j (by omega), mks_get _ _ _ hj]
              obtain ⟨av, cp, g, hav, hcl⟩ := HVF.out
              subst hav
              have HCL : Hid (∀ j, j < n → av = some ⟨g, 0, none⟩ ∧ wk.cell? ⟨g, j, none⟩ = some (.int .i64 (mk t))) := hcl
              have HCV : Hid (wk.cell? ⟨gv, t, none⟩ = some (.slice av n cp)) := by show _ = _; rw [HROW.out.cellAt t (by omega)]; exact HV.out
              have HMK : Hid (mk t = -20 - (t : Int)) := rfl
              have h16 : (t : Int) < 16 := by omega
              have HBX : Hid (Below wk.heap.size wk wx) := HW.out
              clear hcm hcl HVF
              go_wp2
              obtain ⟨wy, rfl⟩ : ∃ wy, wy = wx := ⟨_, rfl⟩
              have qm : ((-20 - (t : Int)) == (-20 - (t : Int))) = true := beq_iff_eq.2 rfl
              go_loopw [10] (fun j wr => ∃ (r : Nat), r ≤ n + 64 ∧ j = .int .i64 r ∧ wr = wy) (fun j _ => (n + 64 - intOf j).toNat)
              case atStart => exact ⟨0, by omega, rfl, rfl⟩
              case round =>
                obtain ⟨r, hr, rfl, rfl⟩ := hrel
                have c1 : wr.cell? ⟨gm, t, none⟩ = some (.slice (some ⟨gt, 0, none⟩) (n + 64) ct) := (HBX.out.cell (p := ⟨gm, t, none⟩) (World.block_lt_of_cell? _ _ HCM.out)).trans HCM.out
                by_cases hrt : r < n + 64
                · have hrt' : (r : Int) < (n : Int) + 64 := by omega
                  have c0 : wk.cell? ⟨gt, r, none⟩ = some (.int .i64 (mk t)) := by
                    rw [HOT.out.cellAt r (by omega), mks_get _ _ _ (by omega)]
                  have c2 : wr.cell? ⟨gt, r, none⟩ = some (.int .i64 (-20 - (t : Int))) := by
                    rw [← HMK.out]
                    exact (HBX.out.cell (p := ⟨gt, r, none⟩) (World.block_lt_of_cell? _ _ c0)).trans c0
                  have c3 : wr.cell? ⟨gv, t, none⟩ = some (.slice av n cp) := (HBX.out.cell (p := ⟨gv, t, none⟩) (World.block_lt_of_cell? _ _ HCV.out)).trans HCV.out
                  clear c0
                  by_cases hrn : r < n
                  · have hrn' : (r : Int) < n := by omega
                    obtain ⟨hav, c0⟩ := HCL.out r hrn
                    subst hav
                    have c4 : wr.cell? ⟨g, r, none⟩ = some (.int .i64 (-20 - (t : Int))) := by
                      rw [← HMK.out]
                      exact (HBX.out.cell (p := ⟨g, r, none⟩) (World.block_lt_of_cell? _ _ c0)).trans c0
                    clear c0
                    go_wp2
                    go_roundw
                    case rel => exact ⟨r + 1, by omega, by go_num, by first | rfl | trivial⟩
                    case measure => simp [intOf]; omega
                  · have hrn' : ¬ (r : Int) < n := by omega
                    go_wp2
                    go_roundw
                    case rel => exact ⟨r + 1, by omega, by go_num, by first | rfl | trivial⟩
                    case measure => simp [intOf]; omega
                · have hrt' : ¬ (r : Int) < (n : Int) + 64 := by omega
                  go_wp2
                  go_roundw
                  case rel => exact ⟨t + 1, by omega, by go_num, HBX.out⟩
                  case measure => simp [intOf]; omega
            · have htt' : ¬ (t : Int) < q := by omega
              go_wp2
              go_ret
              exact ⟨rfl, BQ.out.trans (HW.out.mono hBk)⟩
end Go.Proofs.YtmindflfjocjlaaGreat.fb
