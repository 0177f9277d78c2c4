import Derived.Test.YtpbapaghcabehaaDoorD1
import Derived.Deep.DeepCutAuto
namespace Go.Proofs.YtpbapaghcabehaaDoor.e1
open Go.RowKit Go.PlainAid Go.Shelf
open Go.Proofs.YtpbapaghcabehaaDoor.tb Go.Proofs.YtpbapaghcabehaaDoor.tc Go.Proofs.YtpbapaghcabehaaDoor.th Go.Proofs.YtpbapaghcabehaaDoor.tj Go.Proofs.YtpbapaghcabehaaDoor.tk Go.Proofs.YtpbapaghcabehaaDoor.va Go.Proofs.YtpbapaghcabehaaDoor.vb Go.Proofs.YtpbapaghcabehaaDoor.vc Go.Proofs.YtpbapaghcabehaaDoor.wa Go.Proofs.YtpbapaghcabehaaDoor.wb Go.Proofs.YtpbapaghcabehaaDoor.kp Go.Proofs.YtpbapaghcabehaaDoor.a1 Go.Proofs.YtpbapaghcabehaaDoor.a2 Go.Proofs.YtpbapaghcabehaaDoor.b1 Go.Proofs.YtpbapaghcabehaaDoor.b2 Go.Proofs.YtpbapaghcabehaaDoor.b3 Go.Proofs.YtpbapaghcabehaaDoor.b4 Go.Proofs.YtpbapaghcabehaaDoor.b5 Go.Proofs.YtpbapaghcabehaaDoor.c1 Go.Proofs.YtpbapaghcabehaaDoor.c2 Go.Proofs.YtpbapaghcabehaaDoor.c4 Go.Proofs.YtpbapaghcabehaaDoor.d1
set_option linter.unusedVariables false
set_option maxRecDepth 8000

theorem infoL : (Tryd.prog.info? 22).map (fun i => (i.zero, i.size, i.bytes)) = some (some (.slice none 0 0), 1, 24) := by kernel_rfl
-- rows of unlike elements: the one grows, the other is kept
theorem own_other {w w' : World} {B B' e e' size size' n n' : Nat} {v v' : Value} {xs xs' : List Value} (h : w.ownsRow B e size v n xs) (h' : w.ownsRow B' e' size' v' n' xs') (hne : e ≠ e') (hg : w.grownBy w' v'.ownBlock) : w'.ownsRow B e size v n xs := by
  refine ⟨h.1, ?_⟩
  rcases h.2 with hn | ⟨g, cap, cur, rfl, hb, hgg, rest⟩
  · exact .inl hn
  · refine .inr ⟨g, cap, cur, rfl, hb, ?_, rest⟩
    rw [hg.block g (Array.getElem?_eq_some_iff.1 hgg).1 ?_]
    · exact hgg
    · intro he
      rcases h'.2 with ⟨rfl, _⟩ | ⟨g', cap', cur', rfl, _, hgg', _⟩
      · cases he
      · have e1 : g = g' := Option.some.inj he
        subst e1
        rw [hgg] at hgg'
        simp only [Option.some.injEq, Obj.cells.injEq] at hgg'
        exact hne hgg'.2.1
-- a row of lists, each of its own
structure Fam (w : World) (B : Nat) (mv : Value) (ms : List Value) (xss : List (List ByteArray)) : Prop where
  row : w.ownsRow B 22 1 mv ms.length ms
  lx : xss.length = ms.length
  one : ∀ (t : Nat) (v : Value) (xs : List ByteArray), ms[t]? = some v → xss[t]? = some xs → w.ownsRow B 9 1 v xs.length (xs.map Value.string)
  apart : ∀ (i j : Nat) (v u : Value) (g : Nat), i ≠ j → ms[i]? = some v → ms[j]? = some u → v.ownBlock = some g → u.ownBlock ≠ some g
theorem Fam.nil (w : World) (B : Nat) : Fam w B (.slice none 0 0) [] [] := ⟨World.ownsRow_nil _ _ _ _, rfl, fun t v xs h => by simp at h, fun i j v u g _ h => by simp at h⟩
theorem Fam.later {w w' : World} {B : Nat} {mv : Value} {ms : List Value} {xss : List (List ByteArray)} (h : Fam w B mv ms xss) (hb : Below w.heap.size w w') : Fam w' B mv ms xss :=
  ⟨own_below h.row hb, h.lx, fun t v xs h1 h2 => own_below (h.one t v xs h1 h2) hb, h.apart⟩
theorem Fam.lt {w : World} {B : Nat} {mv : Value} {ms : List Value} {xss : List (List ByteArray)} (h : Fam w B mv ms xss) (t : Nat) (v : Value) (g : Nat) (h1 : ms[t]? = some v) (h2 : v.ownBlock = some g) : g < w.heap.size := by
  have hl := (List.getElem?_eq_some_iff.1 h1).1
  have h3 := h.one t v _ h1 (List.getElem?_eq_getElem (by rw [h.lx]; exact hl))
  exact (h3.lt _ h2).2
theorem Fam.put {w w' : World} {B S k : Nat} {mv mv' l : Value} {ms : List Value} {xss : List (List ByteArray)} {xs : List ByteArray} (h : Fam w B mv ms xss) (hk : ms.length = k) (hS : B ≤ S) (hm : ∀ (t : Nat) (v : Value) (g : Nat), ms[t]? = some v → v.ownBlock = some g → g < S) (hl : w.ownsRow S 9 1 l xs.length (xs.map Value.string))
    (ho : w'.ownsRow B 22 1 mv' (k + 1) (ms ++ [l])) (hg : w.grownBy w' mv.ownBlock) : Fam w' B mv' (ms ++ [l]) (xss ++ [xs]) := by
  have hne : (9 : Nat) ≠ 22 := by decide
  have hlx := h.lx
  refine ⟨by rw [List.length_append, hk]; exact ho, by simp [hlx], fun t v ys h1 h2 => ?_, fun i j v u g hij h1 h2 h3 h4 => ?_⟩
  · rcases Nat.lt_or_ge t ms.length with e | e
    · rw [List.getElem?_append_left e] at h1
      rw [List.getElem?_append_left (by omega)] at h2
      exact own_other (h.one t v ys h1 h2) h.row hne hg
    · rw [List.getElem?_append_right e] at h1
      rw [List.getElem?_append_right (by omega)] at h2
      have e0 : t - ms.length = 0 := by
        rcases Nat.eq_zero_or_pos (t - ms.length) with e | e
        · exact e
        · rw [List.getElem?_eq_none (by simp; omega)] at h1; cases h1
      rw [e0] at h1
      rw [show t - xss.length = 0 by omega] at h2
      obtain rfl : l = v := by simpa using h1
      obtain rfl : xs = ys := by simpa using h2
      exact own_mono (own_other hl h.row hne hg) hS
  · have key : ∀ (t : Nat) (x : Value), (ms ++ [l])[t]? = some x → (ms[t]? = some x ∧ t < ms.length) ∨ (x = l ∧ t = ms.length) := by
      intro t x hx
      rcases Nat.lt_or_ge t ms.length with e | e
      · rw [List.getElem?_append_left e] at hx
        exact .inl ⟨hx, e⟩
      · rw [List.getElem?_append_right e] at hx
        rcases Nat.eq_zero_or_pos (t - ms.length) with e0 | e0
        · rw [e0] at hx
          exact .inr ⟨by simpa using hx.symm, by omega⟩
        · rw [List.getElem?_eq_none (by simp; omega)] at hx; cases hx
    rcases key i v h1 with ⟨a1, a2⟩ | ⟨rfl, a2⟩
    · rcases key j u h2 with ⟨b1, b2⟩ | ⟨rfl, b2⟩
      · exact h.apart i j v u g hij a1 b1 h3 h4
      · have := hm i v g a1 h3
        have := (hl.lt _ h4).1
        omega
    · rcases key j u h2 with ⟨b1, b2⟩ | ⟨rfl, b2⟩
      · have := hm j u g b1 h4
        have := (hl.lt _ h3).1
        omega
      · omega
def h1B : ByteArray := ⟨#[48, 49, 50, 51, 52, 53, 54, 55, 56, 57, 97, 98, 99, 100, 101, 102]⟩
def h2B : ByteArray := ⟨#[102, 101, 100, 99, 98, 97, 57, 56, 55, 54, 53, 52, 51, 50, 49, 48]⟩
def nB : ByteArray := ⟨#[110, 10]⟩
theorem rqT_size (old : Int) (pf : List ByteArray) (note : ByteArray) (hI : I64 old) : (rqT old pf note).size ≤ note.size + 3000 := by
  by_cases h : rqE old pf = 0
  · rw [rqT_yes h]
    obtain ⟨_, _, h1, h2⟩ := rqE_yes h
    exact rqX_size old pf note hI h2 h1
  · rw [rqT_no h]; show 0 ≤ _; omega
set_option maxHeartbeats 6400000 in
theorem readC (b : ByteArray) (hzb0 : b.size ≤ 1048576) (w : World) (N : Hid (NumW w)) (M : Hid (MaxW w))
    (AP : ∀ (w : World) (B : Nat) (mv : Value) (ms : List Value) (xss : List (List ByteArray)), Fam w B mv ms xss → 0 < ms.length → ms.length ≤ 16 → (∀ xs ∈ xss, xs.length ≤ 1048577) → B ≤ w.heap.size → Calls Tryd.prog 23 #[mv] w fun e w' => e = .returned (.bool true) ∧ Below B w w') :
    Calls Tryd.prog 10 #[.string b] w fun e w' => e = .returned (.bool true) ∧ Below w.heap.size w w' := by
  obtain ⟨iL, hi, hz0, hz1, hz2⟩ := info_parts infoL
  have HIL : Hid (_ ∧ _ ∧ _ ∧ _) := ⟨hi, hz0, hz1, hz2⟩
  clear hi hz0 hz1 hz2
  have HAP : Hid (∀ (w : World) (B : Nat) (mv : Value) (ms : List Value) (xss : List (List ByteArray)), Fam w B mv ms xss → 0 < ms.length → ms.length ≤ 16 → (∀ xs ∈ xss, xs.length ≤ 1048577) → B ≤ w.heap.size → Calls Tryd.prog 23 #[mv] w fun e w' => e = .returned (.bool true) ∧ Below B w w') := AP
  clear AP
  have hzb : b.size ≤ 1100000 := by omega
  have hzO0 := rqT_size 1 [h1B, h2B] nB ⟨by decide, by decide⟩
  have hnz : nB.size = 2 := rfl
  obtain ⟨W, HW⟩ : ∃ W, Hid (w.alloc (.cells #[.string h1B, .string h2B] 9) = W) := ⟨_, rfl⟩
  have BW : Hid (Below w.heap.size w W) := by rw [← HW.out]; exact (Below.refl _ _).alloc (Nat.le_refl _) _
  have HBK : Hid (W.heap[w.heap.size]? = some (.cells #[.string h1B, .string h2B] 9 (0, 0))) := by rw [← HW.out]; exact heap_alloc_new w _
  have C1 : Hid (Calls _ _ _ _ _) := askD 1 [h1B, h2B] nB (some ⟨w.heap.size, 0, none⟩) 2 W ⟨by decide, by decide⟩ (by omega) ⟨_, 2, rfl, .inr ⟨w.heap.size, 0, rfl, fun i hi => by
    rw [Nat.zero_add, cell_of_row _ _ _ _ _ _ HBK.out]
    match i, hi with
    | 0, _ => rfl
    | 1, _ => rfl⟩⟩ (by simp)
  obtain ⟨O, HOO⟩ : ∃ O, Hid (rqT 1 [h1B, h2B] nB = O) := ⟨_, rfl⟩
  obtain ⟨EO, HEO⟩ : ∃ E, Hid (rqE 1 [h1B, h2B] = E) := ⟨_, rfl⟩
  rw [HOO.out, HEO.out] at C1
  rw [HOO.out] at hzO0
  have hzO : O.size ≤ 1100000 := by omega
  have C2 : Hid (∀ w', Calls Tryd.prog 9 #[.string b] w' fun e w'' => asR w' w'' (asP b) e ∧ Below w'.heap.size w' w'') := fun w' => askedD b hzb w'
  have C3 : Hid (∀ w', Calls Tryd.prog 9 #[.string O] w' fun e w'' => asR w' w'' (asP O) e ∧ Below w'.heap.size w' w'') := fun w' => askedD O hzO w'
  have HZ1 : Hid ((asV b).proof.length ≤ 1048577) := Nat.le_trans (asV_len b) (by omega)
  have HZ2 : Hid ((asV O).proof.length ≤ 1048577) := Nat.le_trans (asV_len O) (by omega)
  clear hzO0 hnz HBK
  go_enter Tryd.func10, Tryd.ntmps10
  go_upto_region 2 with (go_at_call 8; (try rw [show w.alloc (.cells #[.string ⟨#[48, 49, 50, 51, 52, 53, 54, 55, 56, 57, 97, 98, 99, 100, 101, 102]⟩, .string ⟨#[102, 101, 100, 99, 98, 97, 57, 56, 55, 54, 53, 52, 51, 50, 49, 48]⟩] 9) = W from HW.out]); refine C1.out.mono ?_; rintro e w1 ⟨rfl, hb1⟩; have B1 : Hid (Below w.heap.size w w1) := BW.out.trans (hb1.mono BW.out.size); clear hb1)
  go_upto_region 3 with (go_at_call 9; refine (C2.out w1).mono ?_; rintro e w2 ⟨ho, hb2⟩; obtain ⟨a1, c1, rfl, ho2⟩ := asR_any ho; have B2 : Hid (Below w.heap.size w w2) := B1.out.trans (hb2.mono B1.out.size); have R1a : Hid (Reads w2 _ _) := own_reads ho2 rfl; clear hb2 ho ho2)
  obtain ⟨o1, HO1⟩ : ∃ o, Hid ((asV b).old = o) := ⟨_, rfl⟩
  obtain ⟨l1, HL1⟩ : ∃ l, Hid ((asV b).proof = l) := ⟨_, rfl⟩
  obtain ⟨t1, HT1⟩ : ∃ t, Hid ((asV b).note = t) := ⟨_, rfl⟩
  obtain ⟨F1, HF1⟩ : ∃ F, Hid (asF b = F) := ⟨_, rfl⟩
  rw [HL1.out] at R1a HZ1
  rw [HO1.out, HL1.out, HT1.out, HF1.out]
  obtain ⟨U1, HU1⟩ : ∃ U, Hid (w2.alloc (.cells #[.int .i64 o1, .slice a1 l1.length c1, .string t1] 24) = U) := ⟨_, rfl⟩
  have BU1 : Hid (Below w2.heap.size w2 U1) := by rw [← HU1.out]; exact (Below.refl _ _).alloc (Nat.le_refl _) _
  have zU1 : Hid (w2.heap.size + 1 ≤ U1.heap.size) := by show _ ≤ _; rw [← HU1.out]; simp
  have SU1 : Hid (∀ w', Below (w2.heap.size + 1) U1 w' → w'.cell? ⟨w2.heap.size, 0, none⟩ = some (.int .i64 o1) ∧ w'.cell? ⟨w2.heap.size, 1, none⟩ = some (.slice a1 l1.length c1) ∧ w'.cell? ⟨w2.heap.size, 2, none⟩ = some (.string t1)) := by
    rw [← HU1.out]; exact fun w' h => box3 w2 w' _ _ _ _ h
  (try rw [HU1.out])
  have BD1 : Hid (Below w.heap.size w U1) := B2.out.trans (BU1.out.mono B2.out.size)
  go_upto_region 4 with (go_at_call 9; refine (C3.out U1).mono ?_; rintro e w3 ⟨ho, hb3⟩; obtain ⟨a2, c2, rfl, ho3⟩ := asR_any ho; have B3 : Hid (Below U1.heap.size U1 w3) := hb3; have R2a : Hid (Reads w3 _ _) := own_reads ho3 rfl; clear hb3 ho ho3)
  obtain ⟨o2, HO2⟩ : ∃ o, Hid ((asV O).old = o) := ⟨_, rfl⟩
  obtain ⟨l2, HL2⟩ : ∃ l, Hid ((asV O).proof = l) := ⟨_, rfl⟩
  obtain ⟨t2, HT2⟩ : ∃ t, Hid ((asV O).note = t) := ⟨_, rfl⟩
  obtain ⟨F2, HF2⟩ : ∃ F, Hid (asF O = F) := ⟨_, rfl⟩
  rw [HL2.out] at R2a HZ2
  rw [HO2.out, HL2.out, HT2.out, HF2.out]
  obtain ⟨Wd, HWd⟩ : ∃ U, Hid (w3.alloc (.cells #[.int .i64 o2, .slice a2 l2.length c2, .string t2] 24) = U) := ⟨_, rfl⟩
  have BWd : Hid (Below w3.heap.size w3 Wd) := by rw [← HWd.out]; exact (Below.refl _ _).alloc (Nat.le_refl _) _
  have zWd : Hid (w3.heap.size + 1 ≤ Wd.heap.size) := by show _ ≤ _; rw [← HWd.out]; simp
  have SD0 : Hid (∀ w', Below (w3.heap.size + 1) Wd w' → w'.cell? ⟨w3.heap.size, 0, none⟩ = some (.int .i64 o2) ∧ w'.cell? ⟨w3.heap.size, 1, none⟩ = some (.slice a2 l2.length c2) ∧ w'.cell? ⟨w3.heap.size, 2, none⟩ = some (.string t2)) := by
    rw [← HWd.out]; exact fun w' h => box3 w3 w' _ _ _ _ h
  (try rw [HWd.out])
  have BUW : Hid (Below U1.heap.size U1 Wd) := B3.out.trans (BWd.out.mono B3.out.size)
  have BDD : Hid (Below w.heap.size w Wd) := BD1.out.trans (BUW.out.mono BD1.out.size)
  have SC : Hid (∀ w', Below Wd.heap.size Wd w' → _ ∧ _ ∧ _) := fun w' h => SU1.out w' ((BUW.out.trans (h.mono BUW.out.size)).mono zU1.out)
  have SD : Hid (∀ w', Below Wd.heap.size Wd w' → _ ∧ _ ∧ _) := fun w' h => SD0.out w' (h.mono zWd.out)
  have R1 : Hid (∀ w', Below Wd.heap.size Wd w' → Reads w' (.slice a1 l1.length c1) l1) := fun w' h => ((R1a.out.later BU1.out).later BUW.out).later h
  have R2 : Hid (∀ w', Below Wd.heap.size Wd w' → Reads w' (.slice a2 l2.length c2) l2) := fun w' h => (R2a.out.later BWd.out).later h
  have NW : Hid (∀ w', Below Wd.heap.size Wd w' → Hid (NumW w')) := fun w' h => N.out.down (BDD.out.trans (h.mono BDD.out.size))
  have MW : Hid (∀ w', Below Wd.heap.size Wd w' → Hid (MaxW w')) := fun w' h => M.out.down (BDD.out.trans (h.mono BDD.out.size))
  have FIN : Hid (∀ w', Below Wd.heap.size Wd w' → Below w.heap.size w w') := fun w' h => BDD.out.trans (h.mono BDD.out.size)
  obtain ⟨P5, HP5⟩ : ∃ p, Hid (w2.heap.size = p) := ⟨_, rfl⟩
  obtain ⟨P7, HP7⟩ : ∃ p, Hid (w3.heap.size = p) := ⟨_, rfl⟩
  rw [HP5.out] at SC
  rw [HP7.out] at SD
  rw [HP5.out, HP7.out]
  have HZL1 := HZ1
  have HZL2 := HZ2
  clear C1 C2 C3 B1 B2 R1a R2a BU1 zU1 SU1 BD1 B3 BWd zWd SD0 BUW HW BW HU1 HWd
  go_upto_region 6 with fail
  go_loopw [9, 10] (fun mv i wr => ∃ (k : Nat) (ms : List Value) (xss : List (List ByteArray)), k ≤ 5 ∧ i = .int .i64 k ∧ Hid (ms.length = k) ∧ Hid (Fam wr Wd.heap.size mv ms xss) ∧ Hid (∀ xs ∈ xss, xs.length ≤ 1048577) ∧ Hid (Below Wd.heap.size Wd wr)) (fun _ i _ => (5 - intOf i).toNat)
  case atStart => exact ⟨0, [], [], by omega, rfl, rfl, Fam.nil _ _, (fun xs h => by cases h), Below.refl _ _⟩
  case round =>
    obtain ⟨k, ms, xss, hk, rfl, HML, HF, HXL, HB⟩ := hrel
    obtain ⟨mv, HMV⟩ : ∃ mv, Hid (u9 = mv) := ⟨_, rfl⟩
    by_cases hlt : k < 5
    · have hlt' : (k : Int) < 5 := by omega
      have hcs : (k = 2 ∨ k = 3) ∨ (k ≠ 2 ∧ k ≠ 3) := by omega
      rcases hcs with (rfl | rfl) | ⟨h2, h3⟩
      · have g2 : Hid True := trivial
        rw [HMV.out] at HF ⊢
        obtain ⟨x0, x1, x2⟩ := SC.out wr HB.out
        obtain ⟨y0, y1, y2⟩ := SD.out wr HB.out

        obtain ⟨V, HV⟩ : ∃ V, Hid (wr.alloc (.cells #[.int .i64 o1, .slice a1 l1.length c1, .string t1] 24) = V) := ⟨_, rfl⟩
        have BV : Hid (Below wr.heap.size wr V) := by rw [← HV.out]; exact (Below.refl _ _).alloc (Nat.le_refl _) _
        have HBV : Hid (V.heap[wr.heap.size]? = some (.cells #[.int .i64 o1, .slice a1 l1.length c1, .string t1] 24 (0, 0))) := by rw [← HV.out]; exact heap_alloc_new wr _
        have zV : Hid (V.heap.size = wr.heap.size + 1) := by show _ = _; rw [← HV.out]; simp
        obtain ⟨r, HRR⟩ : ∃ r, Hid (wr.heap.size = r) := ⟨_, rfl⟩
        have BVD : Hid (Below Wd.heap.size Wd V) := HB.out.trans (BV.out.mono HB.out.size)

        rw [HRR.out] at HBV
        obtain ⟨U, HU⟩ : ∃ U, Hid (((V.setCell ⟨r, 0, none⟩ (.int .i64 o2)).setCell ⟨r, 1, none⟩ (.slice a2 l2.length c2)).setCell ⟨r, 2, none⟩ (.string t2) = U) := ⟨_, rfl⟩
        obtain ⟨⟨z0, z1, z2⟩, hbl⟩ := put3 V r _ _ _ (.int .i64 o2) (.slice a2 l2.length c2) (.string t2) _ HBV.out U HU.out.symm
        have hrd : Wd.heap.size ≤ r := by rw [← HRR.out]; exact HB.out.size
        have BU : Hid (Below r V U) := hbl r (Nat.le_refl _)
        have zU : Hid (r + 1 ≤ U.heap.size) := by have := (hbl r (Nat.le_refl _)).size; show _ ≤ _; rw [zV.out, HRR.out] at this; exact this
        have SZ : Hid (∀ w', Below U.heap.size U w' → w'.cell? ⟨r, 0, none⟩ = some (.int .i64 o2) ∧ w'.cell? ⟨r, 1, none⟩ = some (.slice a2 l2.length c2) ∧ w'.cell? ⟨r, 2, none⟩ = some (.string t2)) := fun w' h => ⟨(h.cell (p := ⟨r, 0, none⟩) (Nat.lt_of_succ_le zU.out)).trans z0, (h.cell (p := ⟨r, 1, none⟩) (Nat.lt_of_succ_le zU.out)).trans z1, (h.cell (p := ⟨r, 2, none⟩) (Nat.lt_of_succ_le zU.out)).trans z2⟩
        have BUD : Hid (Below Wd.heap.size Wd U) := BVD.out.trans (BU.out.mono hrd)
        have BUR : Hid (Below wr.heap.size wr U) := BV.out.trans (by have := BU.out; rw [← HRR.out] at this; exact this)
        clear z0 z1 z2 hbl hrd
        have hbk := HBV.out
        have k0 := cell_of_row _ _ 0 _ _ _ hbk
        have k1 := cell_of_row _ _ 1 _ _ _ hbk
        have k2 := cell_of_row _ _ 2 _ _ _ hbk
        have f0 := frozen_of_row _ _ 0 _ _ hbk
        have f1 := frozen_of_row _ _ 1 _ _ hbk
        have f2 := frozen_of_row _ _ 2 _ _ hbk
        obtain ⟨yy0, yy1, yy2⟩ := SD.out V BVD.out
        clear hbk

        have C7 : Hid (Calls Tryd.prog 6 #[.string O] U fun e w' => asR U w' (asP O) e ∧ Below U.heap.size U w') := askedC O hzO U (NW.out U BUD.out).out (MW.out U BUD.out).out
        go_upto_region 9 with fail
        go_upto_region 10 with fail
        rw [HV.out, HRR.out]
        clear x0 x1 x2 y0 y1 y2

        go_upto_region 15 with fail
        rw [HU.out]
        clear k0 k1 k2 f0 f1 f2 yy0 yy1 yy2

        go_upto_region 16 with (go_at_call 6; refine C7.out.mono ?_; rintro e w7 ⟨ho, hb7⟩; obtain ⟨aa, ac, rfl, ho7⟩ := asR_any ho; have B7 : Hid (Below U.heap.size U w7) := hb7; have O7 : Hid (w7.ownsRow U.heap.size 9 1 _ _ _) := ho7; clear hb7 ho ho7)
        rw [HO2.out, HL2.out, HT2.out, HF2.out]
        rw [HL2.out] at O7
        obtain ⟨Y, HY⟩ : ∃ Y, Hid (w7.alloc (.cells #[.int .i64 o2, .slice aa l2.length ac, .string t2] 24) = Y) := ⟨_, rfl⟩
        have BY : Hid (Below w7.heap.size w7 Y) := by rw [← HY.out]; exact (Below.refl _ _).alloc (Nat.le_refl _) _
        have zY : Hid (w7.heap.size + 1 ≤ Y.heap.size) := by show _ ≤ _; rw [← HY.out]; simp
        have SY : Hid (∀ w', Below (w7.heap.size + 1) Y w' → w'.cell? ⟨w7.heap.size, 0, none⟩ = some (.int .i64 o2) ∧ w'.cell? ⟨w7.heap.size, 1, none⟩ = some (.slice aa l2.length ac) ∧ w'.cell? ⟨w7.heap.size, 2, none⟩ = some (.string t2)) := by
          rw [← HY.out]; exact fun w' h => box3 w7 w' _ _ _ _ h
        (try rw [HY.out])
        have BUY : Hid (Below U.heap.size U Y) := B7.out.trans (BY.out.mono B7.out.size)
        have OY : Hid (Y.ownsRow U.heap.size 9 1 (.slice aa l2.length ac) l2.length (l2.map Value.string)) := own_below O7.out BY.out
        have BYD : Hid (Below Wd.heap.size Wd Y) := BUD.out.trans (BUY.out.mono BUD.out.size)
        have CS : Hid (Calls _ _ _ _ _) := sameReqC o2 o2 l2 l2 t2 t2 aa a2 ac c2 Y (own_reads OY.out rfl) (R2.out Y BYD.out) (by have := HZL2.out; omega) (by have := HZL2.out; omega)
        obtain ⟨x0, x1, x2⟩ := SY.out Y (Below.refl _ _)
        obtain ⟨y0, y1, y2⟩ := SZ.out Y BUY.out
        have e1 : decide (l2 = l2) = true := decide_eq_true rfl
        have e2 : decide (o2 = o2) = true := decide_eq_true rfl
        have e3 : decide (t2 = t2) = true := decide_eq_true rfl
        go_upto_region 17 with (go_at_call 7; refine CS.out.mono ?_; rintro e w8 ⟨rfl, hb8⟩; have B8 : Hid (Below Y.heap.size Y w8) := hb8; clear hb8)
        clear x0 x1 x2 y0 y1 y2 CS
        obtain ⟨x0, x1, x2⟩ := SY.out w8 (B8.out.mono zY.out)
        have O8 : Hid (w8.ownsRow U.heap.size 9 1 (.slice aa l2.length ac) l2.length (l2.map Value.string)) := own_below OY.out B8.out
        have BU8 : Hid (Below U.heap.size U w8) := BUY.out.trans (B8.out.mono BUY.out.size)
        have BR8 : Hid (Below wr.heap.size wr w8) := BUR.out.trans (BU8.out.mono BUR.out.size)
        have F8 : Hid (Fam w8 Wd.heap.size mv ms xss) := HF.out.later BR8.out
        have BD8 : Hid (Below Wd.heap.size Wd w8) := BUD.out.trans (BU8.out.mono BUD.out.size)
        have BA : Hid (Below w8.heap.size w8 (w8.alloc (.cells #[.slice aa l2.length ac] 22))) := (Below.refl _ _).alloc (Nat.le_refl _) _
        have FA : Hid (Fam (w8.alloc (.cells #[.slice aa l2.length ac] 22)) Wd.heap.size mv ms xss) := F8.out.later BA.out
        have OA : Hid ((w8.alloc (.cells #[.slice aa l2.length ac] 22)).ownsRow U.heap.size 9 1 (.slice aa l2.length ac) l2.length (l2.map Value.string)) := O8.out.alloc _
        have HUD : Hid (Wd.heap.size ≤ U.heap.size) := BUD.out.size
        have HMU : Hid (∀ (t : Nat) (v : Value) (g : Nat), ms[t]? = some v → v.ownBlock = some g → g < U.heap.size) := fun t v g h1 h2 => Nat.lt_of_lt_of_le (HF.out.lt t v g h1 h2) BUR.out.size
        have BDA : Hid (Below Wd.heap.size Wd (w8.alloc (.cells #[.slice aa l2.length ac] 22))) := BD8.out.trans (BA.out.mono BD8.out.size)
        have HRW := FA.out.row
        rw [HML.out] at HRW
        have HRW2 : Hid (World.ownsRow _ _ _ _ _ _ _) := HRW
        have hff : (F2 == F2) = true := beq_iff_eq.2 rfl
        have hfn : ¬ F2 ≠ F2 := fun h => h rfl
        clear HRW
        go_wp2_with (at_builtin; refine wpList_append_own _ rfl _ _ 57 rfl Wd.heap.size 22 iL (.slice none 0 0) 1 24 Tryd.underlying57 HIL.out.1 HIL.out.2.1 HIL.out.2.2.1 HIL.out.2.2.2 rfl (by decide) _ 2 _ rfl HRW2.out ⟨w8.heap.size, 0, none⟩ 1 1 [.slice aa l2.length ac] rfl rfl (new_one _ _ _) (fun u hu => by simp at hu; subst hu; rfl) (by unfold maxLen; omega) (by omega) BDA.out.size ?_; intro mv' w9 hown' hgrow' hnil'; have F9 : Hid (Fam w9 Wd.heap.size mv' (ms ++ [.slice aa l2.length ac]) (xss ++ [l2])) := FA.out.put HML.out HUD.out HMU.out OA.out hown' hgrow'; have B9 : Hid (Below Wd.heap.size Wd w9) := BDA.out.grown hgrow' BDA.out.size (fun j hj => (HRW2.out.lt _ hj).1); clear hown' hgrow' hnil')
        go_roundw
        case rel =>
          refine ⟨2 + 1, ms ++ [Value.slice aa l2.length ac], xss ++ [l2], by omega, by go_num, by show _ = _; rw [List.length_append, HML.out]; rfl, F9.out, fun xs hx => ?_, B9.out⟩
          rcases List.mem_append.1 hx with h | h
          · exact HXL.out xs h
          · rw [List.mem_singleton.1 h]; exact HZL2.out
        case measure => first | (simp [intOf]; done) | (simp [intOf]; omega)
      · have g2 : Hid True := trivial
        rw [HMV.out] at HF ⊢
        obtain ⟨x0, x1, x2⟩ := SC.out wr HB.out
        obtain ⟨y0, y1, y2⟩ := SD.out wr HB.out

        obtain ⟨V, HV⟩ : ∃ V, Hid (wr.alloc (.cells #[.int .i64 o1, .slice a1 l1.length c1, .string t1] 24) = V) := ⟨_, rfl⟩
        have BV : Hid (Below wr.heap.size wr V) := by rw [← HV.out]; exact (Below.refl _ _).alloc (Nat.le_refl _) _
        have HBV : Hid (V.heap[wr.heap.size]? = some (.cells #[.int .i64 o1, .slice a1 l1.length c1, .string t1] 24 (0, 0))) := by rw [← HV.out]; exact heap_alloc_new wr _
        have zV : Hid (V.heap.size = wr.heap.size + 1) := by show _ = _; rw [← HV.out]; simp
        obtain ⟨r, HRR⟩ : ∃ r, Hid (wr.heap.size = r) := ⟨_, rfl⟩
        have BVD : Hid (Below Wd.heap.size Wd V) := HB.out.trans (BV.out.mono HB.out.size)

        rw [HRR.out] at HBV
        obtain ⟨U, HU⟩ : ∃ U, Hid (((V.setCell ⟨r, 0, none⟩ (.int .i64 o2)).setCell ⟨r, 1, none⟩ (.slice a2 l2.length c2)).setCell ⟨r, 2, none⟩ (.string t2) = U) := ⟨_, rfl⟩
        obtain ⟨⟨z0, z1, z2⟩, hbl⟩ := put3 V r _ _ _ (.int .i64 o2) (.slice a2 l2.length c2) (.string t2) _ HBV.out U HU.out.symm
        have hrd : Wd.heap.size ≤ r := by rw [← HRR.out]; exact HB.out.size
        have BU : Hid (Below r V U) := hbl r (Nat.le_refl _)
        have zU : Hid (r + 1 ≤ U.heap.size) := by have := (hbl r (Nat.le_refl _)).size; show _ ≤ _; rw [zV.out, HRR.out] at this; exact this
        have SZ : Hid (∀ w', Below U.heap.size U w' → w'.cell? ⟨r, 0, none⟩ = some (.int .i64 o2) ∧ w'.cell? ⟨r, 1, none⟩ = some (.slice a2 l2.length c2) ∧ w'.cell? ⟨r, 2, none⟩ = some (.string t2)) := fun w' h => ⟨(h.cell (p := ⟨r, 0, none⟩) (Nat.lt_of_succ_le zU.out)).trans z0, (h.cell (p := ⟨r, 1, none⟩) (Nat.lt_of_succ_le zU.out)).trans z1, (h.cell (p := ⟨r, 2, none⟩) (Nat.lt_of_succ_le zU.out)).trans z2⟩
        have BUD : Hid (Below Wd.heap.size Wd U) := BVD.out.trans (BU.out.mono hrd)
        have BUR : Hid (Below wr.heap.size wr U) := BV.out.trans (by have := BU.out; rw [← HRR.out] at this; exact this)
        clear z0 z1 z2 hbl hrd
        have hbk := HBV.out
        have k0 := cell_of_row _ _ 0 _ _ _ hbk
        have k1 := cell_of_row _ _ 1 _ _ _ hbk
        have k2 := cell_of_row _ _ 2 _ _ _ hbk
        have f0 := frozen_of_row _ _ 0 _ _ hbk
        have f1 := frozen_of_row _ _ 1 _ _ hbk
        have f2 := frozen_of_row _ _ 2 _ _ hbk
        obtain ⟨yy0, yy1, yy2⟩ := SD.out V BVD.out
        clear hbk

        have C7 : Hid (Calls Tryd.prog 6 #[.string O] U fun e w' => asR U w' (asP O) e ∧ Below U.heap.size U w') := askedC O hzO U (NW.out U BUD.out).out (MW.out U BUD.out).out
        go_upto_region 9 with fail
        go_upto_region 10 with fail
        rw [HV.out, HRR.out]
        clear x0 x1 x2 y0 y1 y2

        go_upto_region 15 with fail
        rw [HU.out]
        clear k0 k1 k2 f0 f1 f2 yy0 yy1 yy2

        go_upto_region 16 with (go_at_call 6; refine C7.out.mono ?_; rintro e w7 ⟨ho, hb7⟩; obtain ⟨aa, ac, rfl, ho7⟩ := asR_any ho; have B7 : Hid (Below U.heap.size U w7) := hb7; have O7 : Hid (w7.ownsRow U.heap.size 9 1 _ _ _) := ho7; clear hb7 ho ho7)
        rw [HO2.out, HL2.out, HT2.out, HF2.out]
        rw [HL2.out] at O7
        obtain ⟨Y, HY⟩ : ∃ Y, Hid (w7.alloc (.cells #[.int .i64 o2, .slice aa l2.length ac, .string t2] 24) = Y) := ⟨_, rfl⟩
        have BY : Hid (Below w7.heap.size w7 Y) := by rw [← HY.out]; exact (Below.refl _ _).alloc (Nat.le_refl _) _
        have zY : Hid (w7.heap.size + 1 ≤ Y.heap.size) := by show _ ≤ _; rw [← HY.out]; simp
        have SY : Hid (∀ w', Below (w7.heap.size + 1) Y w' → w'.cell? ⟨w7.heap.size, 0, none⟩ = some (.int .i64 o2) ∧ w'.cell? ⟨w7.heap.size, 1, none⟩ = some (.slice aa l2.length ac) ∧ w'.cell? ⟨w7.heap.size, 2, none⟩ = some (.string t2)) := by
          rw [← HY.out]; exact fun w' h => box3 w7 w' _ _ _ _ h
        (try rw [HY.out])
        have BUY : Hid (Below U.heap.size U Y) := B7.out.trans (BY.out.mono B7.out.size)
        have OY : Hid (Y.ownsRow U.heap.size 9 1 (.slice aa l2.length ac) l2.length (l2.map Value.string)) := own_below O7.out BY.out
        have BYD : Hid (Below Wd.heap.size Wd Y) := BUD.out.trans (BUY.out.mono BUD.out.size)
        have CS : Hid (Calls _ _ _ _ _) := sameReqC o2 o2 l2 l2 t2 t2 aa a2 ac c2 Y (own_reads OY.out rfl) (R2.out Y BYD.out) (by have := HZL2.out; omega) (by have := HZL2.out; omega)
        obtain ⟨x0, x1, x2⟩ := SY.out Y (Below.refl _ _)
        obtain ⟨y0, y1, y2⟩ := SZ.out Y BUY.out
        have e1 : decide (l2 = l2) = true := decide_eq_true rfl
        have e2 : decide (o2 = o2) = true := decide_eq_true rfl
        have e3 : decide (t2 = t2) = true := decide_eq_true rfl
        go_upto_region 17 with (go_at_call 7; refine CS.out.mono ?_; rintro e w8 ⟨rfl, hb8⟩; have B8 : Hid (Below Y.heap.size Y w8) := hb8; clear hb8)
        clear x0 x1 x2 y0 y1 y2 CS
        obtain ⟨x0, x1, x2⟩ := SY.out w8 (B8.out.mono zY.out)
        have O8 : Hid (w8.ownsRow U.heap.size 9 1 (.slice aa l2.length ac) l2.length (l2.map Value.string)) := own_below OY.out B8.out
        have BU8 : Hid (Below U.heap.size U w8) := BUY.out.trans (B8.out.mono BUY.out.size)
        have BR8 : Hid (Below wr.heap.size wr w8) := BUR.out.trans (BU8.out.mono BUR.out.size)
        have F8 : Hid (Fam w8 Wd.heap.size mv ms xss) := HF.out.later BR8.out
        have BD8 : Hid (Below Wd.heap.size Wd w8) := BUD.out.trans (BU8.out.mono BUD.out.size)
        have BA : Hid (Below w8.heap.size w8 (w8.alloc (.cells #[.slice aa l2.length ac] 22))) := (Below.refl _ _).alloc (Nat.le_refl _) _
        have FA : Hid (Fam (w8.alloc (.cells #[.slice aa l2.length ac] 22)) Wd.heap.size mv ms xss) := F8.out.later BA.out
        have OA : Hid ((w8.alloc (.cells #[.slice aa l2.length ac] 22)).ownsRow U.heap.size 9 1 (.slice aa l2.length ac) l2.length (l2.map Value.string)) := O8.out.alloc _
        have HUD : Hid (Wd.heap.size ≤ U.heap.size) := BUD.out.size
        have HMU : Hid (∀ (t : Nat) (v : Value) (g : Nat), ms[t]? = some v → v.ownBlock = some g → g < U.heap.size) := fun t v g h1 h2 => Nat.lt_of_lt_of_le (HF.out.lt t v g h1 h2) BUR.out.size
        have BDA : Hid (Below Wd.heap.size Wd (w8.alloc (.cells #[.slice aa l2.length ac] 22))) := BD8.out.trans (BA.out.mono BD8.out.size)
        have HRW := FA.out.row
        rw [HML.out] at HRW
        have HRW2 : Hid (World.ownsRow _ _ _ _ _ _ _) := HRW
        have hff : (F2 == F2) = true := beq_iff_eq.2 rfl
        have hfn : ¬ F2 ≠ F2 := fun h => h rfl
        clear HRW
        go_wp2_with (at_builtin; refine wpList_append_own _ rfl _ _ 57 rfl Wd.heap.size 22 iL (.slice none 0 0) 1 24 Tryd.underlying57 HIL.out.1 HIL.out.2.1 HIL.out.2.2.1 HIL.out.2.2.2 rfl (by decide) _ 3 _ rfl HRW2.out ⟨w8.heap.size, 0, none⟩ 1 1 [.slice aa l2.length ac] rfl rfl (new_one _ _ _) (fun u hu => by simp at hu; subst hu; rfl) (by unfold maxLen; omega) (by omega) BDA.out.size ?_; intro mv' w9 hown' hgrow' hnil'; have F9 : Hid (Fam w9 Wd.heap.size mv' (ms ++ [.slice aa l2.length ac]) (xss ++ [l2])) := FA.out.put HML.out HUD.out HMU.out OA.out hown' hgrow'; have B9 : Hid (Below Wd.heap.size Wd w9) := BDA.out.grown hgrow' BDA.out.size (fun j hj => (HRW2.out.lt _ hj).1); clear hown' hgrow' hnil')
        go_roundw
        case rel =>
          refine ⟨3 + 1, ms ++ [Value.slice aa l2.length ac], xss ++ [l2], by omega, by go_num, by show _ = _; rw [List.length_append, HML.out]; rfl, F9.out, fun xs hx => ?_, B9.out⟩
          rcases List.mem_append.1 hx with h | h
          · exact HXL.out xs h
          · rw [List.mem_singleton.1 h]; exact HZL2.out
        case measure => first | (simp [intOf]; done) | (simp [intOf]; omega)
      · have g2 : ((k : Int) == 2) = false := beq_eq_false_iff_ne.2 (by omega)
        have g3 : ((k : Int) == 3) = false := beq_eq_false_iff_ne.2 (by omega)
        have g4 : ¬ (k : Int) = 2 := by omega
        have g5 : ¬ (k : Int) = 3 := by omega
        rw [HMV.out] at HF ⊢
        obtain ⟨x0, x1, x2⟩ := SC.out wr HB.out
        obtain ⟨y0, y1, y2⟩ := SD.out wr HB.out

        obtain ⟨V, HV⟩ : ∃ V, Hid (wr.alloc (.cells #[.int .i64 o1, .slice a1 l1.length c1, .string t1] 24) = V) := ⟨_, rfl⟩
        have BV : Hid (Below wr.heap.size wr V) := by rw [← HV.out]; exact (Below.refl _ _).alloc (Nat.le_refl _) _
        have HBV : Hid (V.heap[wr.heap.size]? = some (.cells #[.int .i64 o1, .slice a1 l1.length c1, .string t1] 24 (0, 0))) := by rw [← HV.out]; exact heap_alloc_new wr _
        have zV : Hid (V.heap.size = wr.heap.size + 1) := by show _ = _; rw [← HV.out]; simp
        obtain ⟨r, HRR⟩ : ∃ r, Hid (wr.heap.size = r) := ⟨_, rfl⟩
        have BVD : Hid (Below Wd.heap.size Wd V) := HB.out.trans (BV.out.mono HB.out.size)

        rw [HRR.out] at HBV
        obtain ⟨U, HU⟩ : ∃ U, Hid (V = U) := ⟨_, rfl⟩
        rw [HU.out] at HV BV HBV zV BVD
        have zU : Hid (r + 1 ≤ U.heap.size) := by show _ ≤ _; rw [zV.out, HRR.out]; exact Nat.le_refl _
        have SZ : Hid (∀ w', Below U.heap.size U w' → w'.cell? ⟨r, 0, none⟩ = some (.int .i64 o1) ∧ w'.cell? ⟨r, 1, none⟩ = some (.slice a1 l1.length c1) ∧ w'.cell? ⟨r, 2, none⟩ = some (.string t1)) := fun w' h => by
          have h2 := (h.block r (Nat.lt_of_succ_le zU.out)).trans HBV.out
          exact ⟨cell_of_row _ _ 0 _ _ _ h2, cell_of_row _ _ 1 _ _ _ h2, cell_of_row _ _ 2 _ _ _ h2⟩
        have BUD : Hid (Below Wd.heap.size Wd U) := BVD.out
        have BUR : Hid (Below wr.heap.size wr U) := BV.out

        have C7 : Hid (Calls Tryd.prog 6 #[.string b] U fun e w' => asR U w' (asP b) e ∧ Below U.heap.size U w') := askedC b hzb U (NW.out U BUD.out).out (MW.out U BUD.out).out
        go_upto_region 9 with fail
        go_upto_region 10 with fail
        rw [HV.out, HRR.out]
        clear x0 x1 x2 y0 y1 y2

        go_upto_region 16 with (go_at_call 6; refine C7.out.mono ?_; rintro e w7 ⟨ho, hb7⟩; obtain ⟨aa, ac, rfl, ho7⟩ := asR_any ho; have B7 : Hid (Below U.heap.size U w7) := hb7; have O7 : Hid (w7.ownsRow U.heap.size 9 1 _ _ _) := ho7; clear hb7 ho ho7)
        rw [HO1.out, HL1.out, HT1.out, HF1.out]
        rw [HL1.out] at O7
        obtain ⟨Y, HY⟩ : ∃ Y, Hid (w7.alloc (.cells #[.int .i64 o1, .slice aa l1.length ac, .string t1] 24) = Y) := ⟨_, rfl⟩
        have BY : Hid (Below w7.heap.size w7 Y) := by rw [← HY.out]; exact (Below.refl _ _).alloc (Nat.le_refl _) _
        have zY : Hid (w7.heap.size + 1 ≤ Y.heap.size) := by show _ ≤ _; rw [← HY.out]; simp
        have SY : Hid (∀ w', Below (w7.heap.size + 1) Y w' → w'.cell? ⟨w7.heap.size, 0, none⟩ = some (.int .i64 o1) ∧ w'.cell? ⟨w7.heap.size, 1, none⟩ = some (.slice aa l1.length ac) ∧ w'.cell? ⟨w7.heap.size, 2, none⟩ = some (.string t1)) := by
          rw [← HY.out]; exact fun w' h => box3 w7 w' _ _ _ _ h
        (try rw [HY.out])
        have BUY : Hid (Below U.heap.size U Y) := B7.out.trans (BY.out.mono B7.out.size)
        have OY : Hid (Y.ownsRow U.heap.size 9 1 (.slice aa l1.length ac) l1.length (l1.map Value.string)) := own_below O7.out BY.out
        have BYD : Hid (Below Wd.heap.size Wd Y) := BUD.out.trans (BUY.out.mono BUD.out.size)
        have CS : Hid (Calls _ _ _ _ _) := sameReqC o1 o1 l1 l1 t1 t1 aa a1 ac c1 Y (own_reads OY.out rfl) (R1.out Y BYD.out) (by have := HZL1.out; omega) (by have := HZL1.out; omega)
        obtain ⟨x0, x1, x2⟩ := SY.out Y (Below.refl _ _)
        obtain ⟨y0, y1, y2⟩ := SZ.out Y BUY.out
        have e1 : decide (l1 = l1) = true := decide_eq_true rfl
        have e2 : decide (o1 = o1) = true := decide_eq_true rfl
        have e3 : decide (t1 = t1) = true := decide_eq_true rfl
        go_upto_region 17 with (go_at_call 7; refine CS.out.mono ?_; rintro e w8 ⟨rfl, hb8⟩; have B8 : Hid (Below Y.heap.size Y w8) := hb8; clear hb8)
        clear x0 x1 x2 y0 y1 y2 CS
        obtain ⟨x0, x1, x2⟩ := SY.out w8 (B8.out.mono zY.out)
        have O8 : Hid (w8.ownsRow U.heap.size 9 1 (.slice aa l1.length ac) l1.length (l1.map Value.string)) := own_below OY.out B8.out
        have BU8 : Hid (Below U.heap.size U w8) := BUY.out.trans (B8.out.mono BUY.out.size)
        have BR8 : Hid (Below wr.heap.size wr w8) := BUR.out.trans (BU8.out.mono BUR.out.size)
        have F8 : Hid (Fam w8 Wd.heap.size mv ms xss) := HF.out.later BR8.out
        have BD8 : Hid (Below Wd.heap.size Wd w8) := BUD.out.trans (BU8.out.mono BUD.out.size)
        have BA : Hid (Below w8.heap.size w8 (w8.alloc (.cells #[.slice aa l1.length ac] 22))) := (Below.refl _ _).alloc (Nat.le_refl _) _
        have FA : Hid (Fam (w8.alloc (.cells #[.slice aa l1.length ac] 22)) Wd.heap.size mv ms xss) := F8.out.later BA.out
        have OA : Hid ((w8.alloc (.cells #[.slice aa l1.length ac] 22)).ownsRow U.heap.size 9 1 (.slice aa l1.length ac) l1.length (l1.map Value.string)) := O8.out.alloc _
        have HUD : Hid (Wd.heap.size ≤ U.heap.size) := BUD.out.size
        have HMU : Hid (∀ (t : Nat) (v : Value) (g : Nat), ms[t]? = some v → v.ownBlock = some g → g < U.heap.size) := fun t v g h1 h2 => Nat.lt_of_lt_of_le (HF.out.lt t v g h1 h2) BUR.out.size
        have BDA : Hid (Below Wd.heap.size Wd (w8.alloc (.cells #[.slice aa l1.length ac] 22))) := BD8.out.trans (BA.out.mono BD8.out.size)
        have HRW := FA.out.row
        rw [HML.out] at HRW
        have HRW2 : Hid (World.ownsRow _ _ _ _ _ _ _) := HRW
        have hff : (F1 == F1) = true := beq_iff_eq.2 rfl
        have hfn : ¬ F1 ≠ F1 := fun h => h rfl
        clear HRW
        go_wp2_with (at_builtin; refine wpList_append_own _ rfl _ _ 57 rfl Wd.heap.size 22 iL (.slice none 0 0) 1 24 Tryd.underlying57 HIL.out.1 HIL.out.2.1 HIL.out.2.2.1 HIL.out.2.2.2 rfl (by decide) _ k _ rfl HRW2.out ⟨w8.heap.size, 0, none⟩ 1 1 [.slice aa l1.length ac] rfl rfl (new_one _ _ _) (fun u hu => by simp at hu; subst hu; rfl) (by unfold maxLen; omega) (by omega) BDA.out.size ?_; intro mv' w9 hown' hgrow' hnil'; have F9 : Hid (Fam w9 Wd.heap.size mv' (ms ++ [.slice aa l1.length ac]) (xss ++ [l1])) := FA.out.put HML.out HUD.out HMU.out OA.out hown' hgrow'; have B9 : Hid (Below Wd.heap.size Wd w9) := BDA.out.grown hgrow' BDA.out.size (fun j hj => (HRW2.out.lt _ hj).1); clear hown' hgrow' hnil')
        go_roundw
        case rel =>
          refine ⟨k + 1, ms ++ [Value.slice aa l1.length ac], xss ++ [l1], by omega, by go_num, by show _ = _; rw [List.length_append, HML.out]; rfl, F9.out, fun xs hx => ?_, B9.out⟩
          rcases List.mem_append.1 hx with h | h
          · exact HXL.out xs h
          · rw [List.mem_singleton.1 h]; exact HZL1.out
        case measure => first | (simp [intOf]; done) | (simp [intOf]; omega)
    · have hlt' : ¬ (k : Int) < 5 := by omega
      have C9 : Hid (Calls _ _ _ _ _) := HAP.out wr Wd.heap.size u9 ms xss HF.out (by rw [HML.out]; omega) (by rw [HML.out]; omega) HXL.out HB.out.size
      go_wp2_with (go_at_call 23; refine C9.out.mono ?_; rintro e w9 ⟨rfl, hb9⟩; have B9 : Hid (Below Wd.heap.size Wd w9) := HB.out.trans hb9; clear hb9)
      go_ret
      exact ⟨rfl, FIN.out _ B9.out⟩
end Go.Proofs.YtpbapaghcabehaaDoor.e1
