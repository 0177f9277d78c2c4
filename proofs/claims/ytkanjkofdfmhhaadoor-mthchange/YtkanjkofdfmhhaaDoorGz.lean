import Derived.Test.YtkanjkofdfmhhaaDoorGx
namespace Go.Proofs.YtkanjkofdfmhhaaDoor.gz
open Go.RowKit Go.PlainAid
open Go.Proofs.YtkanjkofdfmhhaaDoor.pl Go.Proofs.YtkanjkofdfmhhaaDoor.pi Go.Proofs.YtkanjkofdfmhhaaDoor.pj Go.Proofs.YtkanjkofdfmhhaaDoor.rf Go.Proofs.YtkanjkofdfmhhaaDoor.ca Go.Proofs.YtkanjkofdfmhhaaDoor.cb Go.Proofs.YtkanjkofdfmhhaaDoor.cp Go.Proofs.YtkanjkofdfmhhaaDoor.ka Go.Proofs.YtkanjkofdfmhhaaDoor.kb Go.Proofs.YtkanjkofdfmhhaaDoor.kc Go.Proofs.YtkanjkofdfmhhaaDoor.ga Go.Proofs.YtkanjkofdfmhhaaDoor.gb Go.Proofs.YtkanjkofdfmhhaaDoor.gs Go.Proofs.YtkanjkofdfmhhaaDoor.gl Go.Proofs.YtkanjkofdfmhhaaDoor.gr Go.Proofs.YtkanjkofdfmhhaaDoor.gx
set_option linter.unusedVariables false

theorem append_parts {a b c d : ByteArray} (h : a ++ b = c ++ d) (hl : a.size = c.size) : a = c ∧ b = d := by
  have e : (a ++ b).data.toList = (c ++ d).data.toList := by rw [h]
  rw [ByteArray.data_append, ByteArray.data_append, Array.toList_append, Array.toList_append] at e
  have hs : a.data.toList.length = c.data.toList.length := by rw [Array.length_toList, Array.length_toList]; exact hl
  obtain ⟨e1, e2⟩ := List.append_inj e hs
  exact ⟨ByteArray.ext (Array.ext' e1), ByteArray.ext (Array.ext' e2)⟩
theorem NF_cat (wd : Int) (l r : ByteArray) : cutS ((⟨#[1]⟩ : ByteArray) ++ (l ++ r)) wd = NF wd l r := by
  unfold NF
  rw [ByteArray.append_assoc]
theorem add_text (a b : ByteArray) (h : a.size + b.size ≤ 9223372036854775807) : Op.stringOp .add a b = pure (.string (a ++ b)) := by
  unfold Op.stringOp
  rw [if_neg]
  have e : IntKind.i64.max = 9223372036854775807 := by decide
  rw [e]
  omega
theorem two_on {T : World → Prop} {w w' w'' : World} {p q : Addr} {x y : Value} (h : Gd T w w' ∧ w'.cell? p = some x ∧ w'.cell? q = some y) (hb : Below w'.heap.size w' w'') : Gd T w w'' ∧ w''.cell? p = some x ∧ w''.cell? q = some y :=
  ⟨h.1.on hb, (hb.cell (p := p) (World.block_lt_of_cell? _ _ h.2.1)).trans h.2.1, (hb.cell (p := q) (World.block_lt_of_cell? _ _ h.2.2)).trans h.2.2⟩
theorem two_drew {T : World → Prop} {w w' : World} {p q : Addr} {x y : Value} (h : Gd T w w' ∧ w'.cell? p = some x ∧ w'.cell? q = some y) : Gd T w w'.drew ∧ w'.drew.cell? p = some x ∧ w'.drew.cell? q = some y := two_on h (below_dN (Below.refl _ _) 1)
theorem two_g {T : World → Prop} {w w' : World} {p q : Addr} {x y : Value} (h : Gd T w w' ∧ w'.cell? p = some x ∧ w'.cell? q = some y) : Gd T w w' := h.1
set_option maxHeartbeats 800000 in
set_option maxRecDepth 100000 in
theorem clash1 {T : World → Prop} (later : ∀ {w w' : World}, T w → Below w.heap.size w w' → T w') (tab : ∀ {w : World}, T w → Tab w) (wd : Int) (b off cap b' off' cap' : Nat) (x y : ByteArray) (hx : x.size ≤ 140737488352000) (hy : y.size ≤ 140737488352000) (hne : x ≠ y) (hE : LF wd x = LF wd y) (w : World) (hT : T w)
    (c1 : w.cell? ⟨b, off, none⟩ = some (.string x)) (c2 : w.cell? ⟨b', off', none⟩ = some (.string y)) :
    Calls Tryd.prog 17 #[.int .i64 wd, .slice (some ⟨b, off, none⟩) 1 cap, .slice (some ⟨b', off', none⟩) 1 cap'] w fun e w' => e = .returned (.bool true) ∧ Below w.heap.size w w' := by
  have q0 : (x.toList == y.toList) = false := by rw [beqL]; exact decide_eq_false hne
  obtain ⟨h, HH⟩ : ∃ h, Hid (LF wd x = h) := ⟨_, rfl⟩
  have KC : Hid (∀ (z : ByteArray) w', Gd T w w' → (z = x ∨ z = y) → Calls Tryd.prog 29 #[.string ((⟨#[0]⟩ : ByteArray) ++ z), .int .i64 wd] w' fun e w'' => e = .returned (.string h) ∧ Below w'.heap.size w' w'') := by
    intro z w' g hz
    have hzs : ((⟨#[0]⟩ : ByteArray) ++ z).size ≤ 1125899906842624 := by rw [ByteArray.size_append, sz0]; rcases hz with rfl | rfl <;> omega
    have := cutT ((⟨#[0]⟩ : ByteArray) ++ z) wd w' hzs (tab g.t)
    have e : cutS ((⟨#[0]⟩ : ByteArray) ++ z) wd = h := by
      rw [← HH.out]
      rcases hz with rfl | rfl
      · rfl
      · rw [hE]; rfl
    rw [e] at this
    exact this
  have G0 : Gd T w w ∧ w.cell? ⟨b, off, none⟩ = some (.string x) ∧ w.cell? ⟨b', off', none⟩ = some (.string y) := ⟨⟨later, hT, Below.refl _ _⟩, c1, c2⟩
  have f1 := add_text (⟨#[0]⟩ : ByteArray) x (by rw [sz0]; omega)
  have f2 := add_text (⟨#[0]⟩ : ByteArray) y (by rw [sz0]; omega)
  have qh : (h.toList == h.toList) = true := beq_self_eq_true _
  have s0 := sz0
  clear hne hE hT later tab
  go_enter Tryd.func17, Tryd.ntmps17
  go_wp2_with fail
  go_region_held3 (fun w' => Gd T w w' ∧ w'.cell? ⟨b, off, none⟩ = some (.string x) ∧ w'.cell? ⟨b', off', none⟩ = some (.string y)) (first | exact G0 | exact two_drew (by assumption) | exact two_on (by assumption) hb') ((go_at_call 29; refine (KC.out _ _ (by first | exact two_g (by assumption) | exact (two_g (by assumption)).drew) (by first | exact .inl rfl | exact .inr rfl)).mono ?_; rintro e w' ⟨rfl, hb'⟩))
  have g9 : Gd T w w' := two_g (by assumption)
  have G9 : Hid (Below w.heap.size w w') := g9.b
  go_wp2
  go_ret
  exact ⟨rfl, G9.out⟩
set_option maxHeartbeats 1600000 in
set_option maxRecDepth 100000 in
theorem clash {T : World → Prop} (later : ∀ {w w' : World}, T w → Below w.heap.size w w' → T w') (tab : ∀ {w : World}, T w → Tab w) (RC : RootC T) (wd : Int) (hwd : i64 wd) (n : Nat) : ∀ (xs ys : List ByteArray) (va vb : Value) (w : World), xs.length = n → ys.length = n → 1 ≤ n → xs ≠ ys → RT wd xs = RT wd ys → T w → ReadsT w va xs → ReadsT w vb ys → Fits xs → Fits ys →
    Calls Tryd.prog 17 #[.int .i64 wd, va, vb] w fun e w' => e = .returned (.bool true) ∧ Below w.heap.size w w' := by
  induction n using Nat.strongRecOn with
  | ind n ih =>
    intro xs ys va vb w hn hn' hn1 hne hE hT hR hR' hf hf'
    have IH : Hid (∀ (m : Nat), m < n → ∀ (xs ys : List ByteArray) (va vb : Value) (w : World), xs.length = m → ys.length = m → 1 ≤ m → xs ≠ ys → RT wd xs = RT wd ys → T w → ReadsT w va xs → ReadsT w vb ys → Fits xs → Fits ys →
      Calls Tryd.prog 17 #[.int .i64 wd, va, vb] w fun e w' => e = .returned (.bool true) ∧ Below w.heap.size w w') := ih
    clear ih
    have HA : Hid (ReadsT w va xs) := hR
    have HB : Hid (ReadsT w vb ys) := hR'
    obtain ⟨a, cap, rfl, hcap, hh⟩ := hR
    obtain ⟨a', cap', rfl, hcap', hh'⟩ := hR'
    rw [hn] at hh hcap HA ⊢
    rw [hn'] at hh' hcap' HB ⊢
    obtain ⟨b, off, rfl, hq⟩ := hh.resolve_left (by omega)
    obtain ⟨b', off', rfl, hq'⟩ := hh'.resolve_left (by omega)
    by_cases h1 : n = 1
    · subst h1
      obtain ⟨x, rfl⟩ := List.length_eq_one_iff.1 hn
      obtain ⟨y, rfl⟩ := List.length_eq_one_iff.1 hn'
      rw [RT_one, RT_one] at hE
      exact clash1 later tab wd b off cap b' off' cap' x y (hf.each x (by simp)) (hf'.each y (by simp)) (fun e => hne (by rw [e])) hE w hT (hq 0 (by omega)) (hq' 0 (by omega))
    · have h2n : 2 ≤ n := by omega
      have hm := hf.many
      rw [hn] at hm
      obtain ⟨t, HTT⟩ : ∃ t, Hid (half n = t) := ⟨_, rfl⟩
      have SC : Hid (∀ w, Calls _ _ _ _ _) := fun w => split n h2n (by omega) w
      rw [HTT.out] at SC
      have hh2 := half_lt h2n
      rw [HTT.out] at hh2
      obtain ⟨ht1, htn, _⟩ := hh2
      have L1 : (xs.take t).length = t := by rw [List.length_take]; omega
      have L2 : (xs.drop t).length = n - t := by rw [List.length_drop]; omega
      have M1 : (ys.take t).length = t := by rw [List.length_take]; omega
      have M2 : (ys.drop t).length = n - t := by rw [List.length_drop]; omega
      have eA : RT wd xs = NF wd (RT wd (xs.take t)) (RT wd (xs.drop t)) := by rw [RT_half wd (by omega), hn, HTT.out]
      have eB : RT wd ys = NF wd (RT wd (ys.take t)) (RT wd (ys.drop t)) := by rw [RT_half wd (by omega), hn', HTT.out]
      have A1 : Hid (ReadsT w (.slice (some ⟨b, off, none⟩) t cap) (xs.take t)) := HA.out.front (by omega)
      have A2 : Hid (ReadsT w (.slice (some ⟨b, off + t, none⟩) (n - t) (cap - t)) (xs.drop t)) := HA.out.back (by omega)
      have B1 : Hid (ReadsT w (.slice (some ⟨b', off', none⟩) t cap') (ys.take t)) := HB.out.front (by omega)
      have B2 : Hid (ReadsT w (.slice (some ⟨b', off' + t, none⟩) (n - t) (cap' - t)) (ys.drop t)) := HB.out.back (by omega)
      have CR : Hid (∀ u ys w', Gd T w w' → ReadsT w u ys → Fits ys → Calls _ _ _ _ _) := fun u ys w' g h hf => RC wd u ys w' hwd g.t (h.later g.b) hf
      obtain ⟨r1, HR1⟩ : ∃ r, Hid (RT wd (xs.take t) = r) := ⟨_, rfl⟩
      obtain ⟨r2, HR2⟩ : ∃ r, Hid (RT wd (xs.drop t) = r) := ⟨_, rfl⟩
      obtain ⟨s1, HS1⟩ : ∃ r, Hid (RT wd (ys.take t) = r) := ⟨_, rfl⟩
      obtain ⟨s2, HS2⟩ : ∃ r, Hid (RT wd (ys.drop t) = r) := ⟨_, rfl⟩
      have z1 : r1.size ≤ 32 := by rw [← HR1.out]; exact RT_le _ _
      have z2 : r2.size ≤ 32 := by rw [← HR2.out]; exact RT_le _ _
      have z3 : s1.size ≤ 32 := by rw [← HS1.out]; exact RT_le _ _
      have z4 : s2.size ≤ 32 := by rw [← HS2.out]; exact RT_le _ _
      have zz : r1.size = s1.size := by rw [← HR1.out, ← HS1.out, RT_size, RT_size]
      have KR : Hid (∀ (p m c : Nat) w', Gd T w w' → ((p = off ∧ m = t ∧ c = cap) ∨ (p = off + t ∧ m = n - t ∧ c = cap - t)) → Calls Tryd.prog 9 #[.int .i64 wd, .slice (some ⟨b, p, none⟩) m c] w' fun e w'' => (∃ r, e = .returned (.string r) ∧ (p = off → r = r1) ∧ (p = off + t → r = r2)) ∧ Below w'.heap.size w' w'') := by
        intro p m c w' g h
        rcases h with ⟨rfl, rfl, rfl⟩ | ⟨rfl, rfl, rfl⟩
        · refine (CR.out _ _ w' g A1.out (hf.take _)).mono ?_
          rintro e w'' ⟨rfl, hb⟩
          exact ⟨⟨_, rfl, fun _ => HR1.out, fun e => by omega⟩, hb⟩
        · refine (CR.out _ _ w' g A2.out (hf.drop _)).mono ?_
          rintro e w'' ⟨rfl, hb⟩
          exact ⟨⟨_, rfl, fun e => by omega, fun _ => HR2.out⟩, hb⟩
      have KS : Hid (∀ (p m c : Nat) w', Gd T w w' → ((p = off' ∧ m = t ∧ c = cap') ∨ (p = off' + t ∧ m = n - t ∧ c = cap' - t)) → Calls Tryd.prog 9 #[.int .i64 wd, .slice (some ⟨b', p, none⟩) m c] w' fun e w'' => (∃ r, e = .returned (.string r) ∧ (p = off' → r = s1) ∧ (p = off' + t → r = s2)) ∧ Below w'.heap.size w' w'') := by
        intro p m c w' g h
        rcases h with ⟨rfl, rfl, rfl⟩ | ⟨rfl, rfl, rfl⟩
        · refine (CR.out _ _ w' g B1.out (hf'.take _)).mono ?_
          rintro e w'' ⟨rfl, hb⟩
          exact ⟨⟨_, rfl, fun _ => HS1.out, fun e => by omega⟩, hb⟩
        · refine (CR.out _ _ w' g B2.out (hf'.drop _)).mono ?_
          rintro e w'' ⟨rfl, hb⟩
          exact ⟨⟨_, rfl, fun e => by omega, fun _ => HS2.out⟩, hb⟩
      have G0 : Hid (Gd T w w) := ⟨later, hT, Below.refl _ _⟩
      have q1 : ((n : Int) == 1) = false := by rw [beq_eq_false_iff_ne]; omega
      have htc : (t : Int) ≤ cap := by omega
      have htc2 : (t : Int) < cap := by omega
      have htd : (t : Int) ≤ cap' := by omega
      have htd2 : (t : Int) < cap' := by omega
      have htn' : (t : Int) ≤ n := by omega
      have hnc : (n : Int) ≤ cap := by omega
      have hnd : (n : Int) ≤ cap' := by omega
      have ent : ((n - t : Nat) : Int) = (n : Int) - t := by omega
      have u1 := add_text r1 r2 (by omega)
      have u2 := add_text s1 s2 (by omega)
      rw [HR1.out, HR2.out] at eA
      rw [HS1.out, HS2.out] at eB
      rw [eA, eB] at hE
      have HE : Hid (NF wd r1 r2 = NF wd s1 s2) := hE
      have HNE : Hid (xs ≠ ys) := hne
      have HF : Hid (Fits xs ∧ Fits ys) := ⟨hf, hf'⟩
      have HLL : Hid (_ ∧ _ ∧ _ ∧ _) := ⟨L1, L2, M1, M2⟩
      have HTB : Hid (∀ {w : World}, T w → Tab w) := tab
      have HZ : Hid (r1.size ≤ 32 ∧ r2.size ≤ 32 ∧ s1.size ≤ 32 ∧ s2.size ≤ 32 ∧ r1.size = s1.size) := ⟨z1, z2, z3, z4, zz⟩
      clear hh hh' hq hq' hE hne hf hf' hT later tab RC hwd CR h1 hn hn' eA eB L1 L2 M1 M2 z1 z2 z3 z4 zz hm
      obtain ⟨X, HX⟩ : ∃ X, Hid (r1 ++ r2 = X) := ⟨_, rfl⟩
      obtain ⟨Y, HY⟩ : ∃ Y, Hid (s1 ++ s2 = Y) := ⟨_, rfl⟩
      rw [HX.out] at u1
      rw [HY.out] at u2
      by_cases hlr : X = Y
      · obtain ⟨e1, e2⟩ := append_parts (HX.out.trans (hlr.trans HY.out.symm)) HZ.out.2.2.2.2
        have qeq : (X.toList == Y.toList) = true := by rw [beqL]; exact decide_eq_true hlr
        have HQ : Hid (r1 = s1 ∧ r2 = s2) := ⟨e1, e2⟩
        clear hlr e1 e2
        by_cases htk : xs.take t = ys.take t
        · have hdr : xs.drop t ≠ ys.drop t := fun e => HNE.out (by rw [← List.take_append_drop t xs, ← List.take_append_drop t ys, htk, e])
          have SM : Hid (∀ w', Gd T w w' → Calls Tryd.prog 25 #[.slice (some ⟨b, off, none⟩) t cap, .slice (some ⟨b', off', none⟩) t cap'] w' fun e w'' => e = .returned (.bool true) ∧ Below w'.heap.size w' w'') := fun w' g => by
            have hbb := B1.out.later g.b
            rw [← htk] at hbb
            refine (same_yes _ _ (xs.take t) w' (A1.out.later g.b) hbb (by have := (HF.out.1.take t).many; omega)).mono ?_
            rintro e w'' ⟨rfl, m, hw⟩
            exact ⟨rfl, by rw [hw]; exact below_dN (Below.refl _ _) m⟩
          have CK : Hid (∀ w', Gd T w w' → Calls _ _ _ _ _) := fun w' g => IH.out (n - t) (by omega) (xs.drop t) (ys.drop t) _ _ w' HLL.out.2.1 HLL.out.2.2.2 (by omega) hdr (by rw [HR2.out, HS2.out]; exact HQ.out.2) g.t (A2.out.later g.b) (B2.out.later g.b) (HF.out.1.drop t) (HF.out.2.drop t)
          clear htk hdr IH
          go_enter Tryd.func17, Tryd.ntmps17
          go_wp2_with fail
          refine (SC.out _).mono ?_
          rintro e w0 ⟨rfl, hw0⟩
          subst hw0
          go_wp2_with fail
          have g0 := G0.out
          go_region_held3 (fun w' => Gd T w0 w') (first | exact g0 | exact Gd.drew (by assumption) | exact Gd.on (by assumption) hb') ((go_at_call 9; refine (KR.out _ _ _ _ (by first | assumption | exact Gd.drew (by assumption)) (by first | exact .inl ⟨rfl, rfl, rfl⟩ | exact .inr ⟨rfl, rfl, rfl⟩)).mono ?_; rintro e w' ⟨⟨r, rfl, k1, k2⟩, hb'⟩; first | (have k := (k1 rfl).symm; subst k; clear k1 k2) | (have k := (k2 rfl).symm; subst k; clear k1 k2)))
          have ga : Hid (Gd T w0 w') := (by assumption : Gd T w0 w')
          clear hb'
          obtain ⟨wa, HWA⟩ : ∃ wa, wa = w' := ⟨_, rfl⟩
          rw [← HWA] at ga ⊢
          clear HWA
          go_wp2_with fail
          have g0 := ga.out
          go_region_held3 (fun w' => Gd T w0 w') (first | exact g0 | exact Gd.drew (by assumption) | exact Gd.on (by assumption) hb') ((go_at_call 9; refine (KS.out _ _ _ _ (by first | assumption | exact Gd.drew (by assumption)) (by first | exact .inl ⟨rfl, rfl, rfl⟩ | exact .inr ⟨rfl, rfl, rfl⟩)).mono ?_; rintro e w' ⟨⟨r, rfl, k1, k2⟩, hb'⟩; first | (have k := (k1 rfl).symm; subst k; clear k1 k2) | (have k := (k2 rfl).symm; subst k; clear k1 k2)))
          have gb : Hid (Gd T w0 w') := (by assumption : Gd T w0 w')
          clear hb'
          obtain ⟨wb, HWA⟩ : ∃ wa, wa = w' := ⟨_, rfl⟩
          rw [← HWA] at gb ⊢
          clear HWA
          go_wp2_with fail
          have g0 := gb.out
          go_region_held3 (fun w' => Gd T w0 w') (first | exact g0 | exact Gd.drew (by assumption) | exact Gd.on (by assumption) hb') ((go_at_call 25; refine (SM.out _ (by first | assumption | exact Gd.drew (by assumption))).mono ?_; rintro e w' ⟨rfl, hb'⟩))
          have gc : Hid (Gd T w0 w') := (by assumption : Gd T w0 w')
          clear hb'
          obtain ⟨wc, HWA⟩ : ∃ wa, wa = w' := ⟨_, rfl⟩
          rw [← HWA] at gc ⊢
          clear HWA
          go_wp2_with fail
          have g0 := gc.out
          go_region_held3 (fun w' => Gd T w0 w') (first | exact g0 | exact Gd.drew (by assumption) | exact Gd.on (by assumption) hb') ((go_at_call 17; refine (CK.out _ (by first | assumption | exact Gd.drew (by assumption))).mono ?_; rintro e w' ⟨rfl, hb'⟩))
          have gd4 : Hid (Gd T w0 w') := (by assumption : Gd T w0 w')
          clear hb'
          obtain ⟨wd4, HWA⟩ : ∃ wa, wa = w' := ⟨_, rfl⟩
          rw [← HWA] at gd4 ⊢
          clear HWA
          go_wp2
          go_ret
          exact ⟨rfl, gd4.out.b⟩
        · have SM : Hid (∀ w', Gd T w w' → Calls Tryd.prog 25 #[.slice (some ⟨b, off, none⟩) t cap, .slice (some ⟨b', off', none⟩) t cap'] w' fun e w'' => e = .returned (.bool false) ∧ Below w'.heap.size w' w'') := fun w' g => by
            have h := same (.slice (some ⟨b, off, none⟩) t cap) (.slice (some ⟨b', off', none⟩) t cap') (xs.take t) (ys.take t) w' (A1.out.later g.b) (B1.out.later g.b) (by have := (HF.out.1.take t).many; omega)
            rw [decide_eq_false htk] at h
            refine h.mono ?_
            rintro e w'' ⟨rfl, m, hw⟩
            exact ⟨rfl, by rw [hw]; exact below_dN (Below.refl _ _) m⟩
          have CK : Hid (∀ w', Gd T w w' → Calls _ _ _ _ _) := fun w' g => IH.out t htn (xs.take t) (ys.take t) _ _ w' HLL.out.1 HLL.out.2.2.1 ht1 htk (by rw [HR1.out, HS1.out]; exact HQ.out.1) g.t (A1.out.later g.b) (B1.out.later g.b) (HF.out.1.take t) (HF.out.2.take t)
          clear htk IH
          go_enter Tryd.func17, Tryd.ntmps17
          go_wp2_with fail
          refine (SC.out _).mono ?_
          rintro e w0 ⟨rfl, hw0⟩
          subst hw0
          go_wp2_with fail
          have g0 := G0.out
          go_region_held3 (fun w' => Gd T w0 w') (first | exact g0 | exact Gd.drew (by assumption) | exact Gd.on (by assumption) hb') ((go_at_call 9; refine (KR.out _ _ _ _ (by first | assumption | exact Gd.drew (by assumption)) (by first | exact .inl ⟨rfl, rfl, rfl⟩ | exact .inr ⟨rfl, rfl, rfl⟩)).mono ?_; rintro e w' ⟨⟨r, rfl, k1, k2⟩, hb'⟩; first | (have k := (k1 rfl).symm; subst k; clear k1 k2) | (have k := (k2 rfl).symm; subst k; clear k1 k2)))
          have ga : Hid (Gd T w0 w') := (by assumption : Gd T w0 w')
          clear hb'
          obtain ⟨wa, HWA⟩ : ∃ wa, wa = w' := ⟨_, rfl⟩
          rw [← HWA] at ga ⊢
          clear HWA
          go_wp2_with fail
          have g0 := ga.out
          go_region_held3 (fun w' => Gd T w0 w') (first | exact g0 | exact Gd.drew (by assumption) | exact Gd.on (by assumption) hb') ((go_at_call 9; refine (KS.out _ _ _ _ (by first | assumption | exact Gd.drew (by assumption)) (by first | exact .inl ⟨rfl, rfl, rfl⟩ | exact .inr ⟨rfl, rfl, rfl⟩)).mono ?_; rintro e w' ⟨⟨r, rfl, k1, k2⟩, hb'⟩; first | (have k := (k1 rfl).symm; subst k; clear k1 k2) | (have k := (k2 rfl).symm; subst k; clear k1 k2)))
          have gb : Hid (Gd T w0 w') := (by assumption : Gd T w0 w')
          clear hb'
          obtain ⟨wb, HWA⟩ : ∃ wa, wa = w' := ⟨_, rfl⟩
          rw [← HWA] at gb ⊢
          clear HWA
          go_wp2_with fail
          have g0 := gb.out
          go_region_held3 (fun w' => Gd T w0 w') (first | exact g0 | exact Gd.drew (by assumption) | exact Gd.on (by assumption) hb') ((go_at_call 25; refine (SM.out _ (by first | assumption | exact Gd.drew (by assumption))).mono ?_; rintro e w' ⟨rfl, hb'⟩))
          have gc : Hid (Gd T w0 w') := (by assumption : Gd T w0 w')
          clear hb'
          obtain ⟨wc, HWA⟩ : ∃ wa, wa = w' := ⟨_, rfl⟩
          rw [← HWA] at gc ⊢
          clear HWA
          go_wp2_with fail
          have g0 := gc.out
          go_region_held3 (fun w' => Gd T w0 w') (first | exact g0 | exact Gd.drew (by assumption) | exact Gd.on (by assumption) hb') ((go_at_call 17; refine (CK.out _ (by first | assumption | exact Gd.drew (by assumption))).mono ?_; rintro e w' ⟨rfl, hb'⟩))
          have gd4 : Hid (Gd T w0 w') := (by assumption : Gd T w0 w')
          clear hb'
          obtain ⟨wd4, HWA⟩ : ∃ wa, wa = w' := ⟨_, rfl⟩
          rw [← HWA] at gd4 ⊢
          clear HWA
          go_wp2
          go_ret
          exact ⟨rfl, gd4.out.b⟩
      · have qne : (X.toList == Y.toList) = false := by rw [beqL]; exact decide_eq_false hlr
        have zX : X.size ≤ 64 := by rw [← HX.out, ByteArray.size_append]; have := HZ.out; omega
        have zY : Y.size ≤ 64 := by rw [← HY.out, ByteArray.size_append]; have := HZ.out; omega
        obtain ⟨R, HRR⟩ : ∃ R, Hid (NF wd r1 r2 = R) := ⟨_, rfl⟩
        have qR : (R.toList == R.toList) = true := beq_self_eq_true _
        have CUT : Hid (∀ (Z : ByteArray) w', Gd T w w' → (Z = X ∨ Z = Y) → Calls Tryd.prog 29 #[.string ((⟨#[1]⟩ : ByteArray) ++ Z), .int .i64 wd] w' fun e w'' => e = .returned (.string R) ∧ Below w'.heap.size w' w'') := by
          intro Z w' g hz
          have hzs : ((⟨#[1]⟩ : ByteArray) ++ Z).size ≤ 1125899906842624 := by rw [ByteArray.size_append, sz1]; rcases hz with rfl | rfl <;> omega
          have h := cutT ((⟨#[1]⟩ : ByteArray) ++ Z) wd w' hzs (HTB.out g.t)
          have e : cutS ((⟨#[1]⟩ : ByteArray) ++ Z) wd = R := by
            rcases hz with rfl | rfl
            · rw [← HX.out, NF_cat, HRR.out]
            · rw [← HY.out, NF_cat, ← HE.out, HRR.out]
          rw [e] at h
          exact h
        have o1 := sz1
        clear hlr IH
        go_enter Tryd.func17, Tryd.ntmps17
        go_wp2_with fail
        refine (SC.out _).mono ?_
        rintro e w0 ⟨rfl, hw0⟩
        subst hw0
        go_wp2_with fail
        have g0 := G0.out
        go_region_held3 (fun w' => Gd T w0 w') (first | exact g0 | exact Gd.drew (by assumption) | exact Gd.on (by assumption) hb') ((go_at_call 9; refine (KR.out _ _ _ _ (by first | assumption | exact Gd.drew (by assumption)) (by first | exact .inl ⟨rfl, rfl, rfl⟩ | exact .inr ⟨rfl, rfl, rfl⟩)).mono ?_; rintro e w' ⟨⟨r, rfl, k1, k2⟩, hb'⟩; first | (have k := (k1 rfl).symm; subst k; clear k1 k2) | (have k := (k2 rfl).symm; subst k; clear k1 k2)))
        have ga : Hid (Gd T w0 w') := (by assumption : Gd T w0 w')
        clear hb'
        obtain ⟨wa, HWA⟩ : ∃ wa, wa = w' := ⟨_, rfl⟩
        rw [← HWA] at ga ⊢
        clear HWA
        go_wp2_with fail
        have g0 := ga.out
        go_region_held3 (fun w' => Gd T w0 w') (first | exact g0 | exact Gd.drew (by assumption) | exact Gd.on (by assumption) hb') ((go_at_call 9; refine (KS.out _ _ _ _ (by first | assumption | exact Gd.drew (by assumption)) (by first | exact .inl ⟨rfl, rfl, rfl⟩ | exact .inr ⟨rfl, rfl, rfl⟩)).mono ?_; rintro e w' ⟨⟨r, rfl, k1, k2⟩, hb'⟩; first | (have k := (k1 rfl).symm; subst k; clear k1 k2) | (have k := (k2 rfl).symm; subst k; clear k1 k2)))
        have gb : Hid (Gd T w0 w') := (by assumption : Gd T w0 w')
        clear hb'
        obtain ⟨wb, HWA⟩ : ∃ wa, wa = w' := ⟨_, rfl⟩
        rw [← HWA] at gb ⊢
        clear HWA
        go_wp2_with fail
        refine (CUT.out _ _ gb.out (.inl rfl)).mono ?_
        rintro e w3 ⟨rfl, hb⟩
        have g3 : Hid (Gd T w0 w3) := gb.out.on hb
        clear hb
        go_wp2_with fail
        refine (CUT.out _ _ g3.out (.inr rfl)).mono ?_
        rintro e w4 ⟨rfl, hb⟩
        have g4 : Hid (Gd T w0 w4) := g3.out.on hb
        clear hb
        go_wp2
        go_ret
        exact ⟨rfl, g4.out.b⟩
end Go.Proofs.YtkanjkofdfmhhaaDoor.gz
