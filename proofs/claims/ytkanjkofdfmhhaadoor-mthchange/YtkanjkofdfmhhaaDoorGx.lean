import Derived.Test.YtkanjkofdfmhhaaDoorGs
import Derived.Test.YtkanjkofdfmhhaaDoorKc
import Derived.Test.YtkanjkofdfmhhaaDoorGl
import Derived.Test.YtkanjkofdfmhhaaDoorGr
import Derived.Test.YtkanjkofdfmhhaaDoorGn
import Derived.Test.YtkanjkofdfmhhaaDoorCu
import Derived.Handy
import Derived.Deep.RegionHeld3
namespace Go.Proofs.YtkanjkofdfmhhaaDoor.gx
open Go.RowKit Go.PlainAid
open Go.Proofs.YtkanjkofdfmhhaaDoor.pl Go.Proofs.YtkanjkofdfmhhaaDoor.pi Go.Proofs.YtkanjkofdfmhhaaDoor.pj Go.Proofs.YtkanjkofdfmhhaaDoor.rf Go.Proofs.YtkanjkofdfmhhaaDoor.ca Go.Proofs.YtkanjkofdfmhhaaDoor.cb Go.Proofs.YtkanjkofdfmhhaaDoor.cp Go.Proofs.YtkanjkofdfmhhaaDoor.cu Go.Proofs.YtkanjkofdfmhhaaDoor.ka Go.Proofs.YtkanjkofdfmhhaaDoor.kb Go.Proofs.YtkanjkofdfmhhaaDoor.kc Go.Proofs.YtkanjkofdfmhhaaDoor.ga Go.Proofs.YtkanjkofdfmhhaaDoor.gb Go.Proofs.YtkanjkofdfmhhaaDoor.gs Go.Proofs.YtkanjkofdfmhhaaDoor.gl Go.Proofs.YtkanjkofdfmhhaaDoor.gr Go.Proofs.YtkanjkofdfmhhaaDoor.gn
set_option linter.unusedVariables false

-- a world that has gone on from another
structure Gd (T : World → Prop) (w w' : World) : Prop where
  later : ∀ {w w' : World}, T w → Below w.heap.size w w' → T w'
  t : T w'
  b : Below w.heap.size w w'
theorem Gd.on {T : World → Prop} {w w' w'' : World} (h : Gd T w w') (hb : Below w'.heap.size w' w'') : Gd T w w'' := ⟨h.later, h.later h.t hb, over h.b hb⟩
theorem Gd.drew {T : World → Prop} {w w' : World} (h : Gd T w w') : Gd T w w'.drew := h.on (below_dN (Below.refl _ _) 1)
theorem Gd.drewN {T : World → Prop} {w w' : World} (h : Gd T w w') (n : Nat) : Gd T w (w'.drewN n) := h.on (below_dN (Below.refl _ _) n)
theorem ne_empty (R : ByteArray) (h : 1 ≤ R.size) : (R.toList == (⟨#[]⟩ : ByteArray).toList) = false := by
  rw [beqL]
  apply decide_eq_false
  intro e
  rw [e] at h
  exact absurd h (by decide)
theorem ne_empty2 (R : ByteArray) (h : 1 ≤ R.size) : (R.toList == []) = false := by
  rw [beqLit]
  apply decide_eq_false
  intro e
  rw [e] at h
  exact absurd h (by decide)
set_option maxHeartbeats 800000 in
set_option maxRecDepth 100000 in
theorem split_c2 {T : World → Prop} (later : ∀ {w w' : World}, T w → Below w.heap.size w w' → T w') (tab : ∀ {w : World}, T w → Tab w) (RC : RootC T) (NC : NodeC T) (SP : SpanC) (wd L I : Int) (hwd : i64 wd) (h0 : i64 L) (h1 : i64 I) (v : Value) (xs : List ByteArray) (w : World) (hT : T w) (hR : ReadsT w v xs) (hf : Fits xs) (ho : ¬ okA L I) (hl : 2 ≤ xs.length) :
    Calls Tryd.prog 3 #[.int .i64 wd, v, .agg #[.int .i64 L, .int .i64 I]] w fun e w' => e = .returned (.bool true) ∧ Below w.heap.size w w' := by
  have hm := hf.many
  have HL : Hid (∀ {w w' : World}, T w → Below w.heap.size w w' → T w') := later
  have B0 : Below w.heap.size w (w.alloc (.cells #[.int .i64 L, .int .i64 I] 24)) := (Below.refl _ _).alloc (Nat.le_refl _) _
  have G0 : Hid (Gd T w (w.alloc (.cells #[.int .i64 L, .int .i64 I] 24))) := ⟨later, later hT B0, B0⟩
  have X0 : Hid (Bx (w.alloc (.cells #[.int .i64 L, .int .i64 I] 24)) w.heap.size L I) := bx_new _ _ _
  have HRD : Hid (ReadsT w v xs) := hR
  have CR : Hid (∀ u ys w', Gd T w w' → ReadsT w u ys → Fits ys → Calls _ _ _ _ _) := fun u ys w' g h hf => RC wd u ys w' hwd g.t (h.later g.b) hf
  have CN : Hid (∀ w', Gd T w w' → Calls _ _ _ _ _) := fun w' g => NC wd L I v xs w' hwd h0 h1 g.t (hR.later g.b) hf
  have CS : Hid (∀ w', Calls _ _ _ _ _) := fun w' => SP L I h0 h1 w'
  have HF : Hid (Fits xs) := hf
  obtain ⟨a, cap, rfl, hcap, hh⟩ := hR
  obtain ⟨R, HRR⟩ : ∃ R, Hid (RT wd xs = R) := ⟨_, rfl⟩
  have CR0 : Hid (∀ w', Gd T w w' → Calls _ _ _ _ _) := fun w' g => CR.out _ xs w' g HRD.out HF.out
  rw [HRR.out] at CR0
  have hR1 : 1 ≤ R.size := by rw [← HRR.out]; exact RT_pos _ _
  have qR : (R.toList == R.toList) = true := beq_self_eq_true _
  have qe := ne_empty R hR1
  have qe2 := ne_empty2 R hR1
  obtain ⟨n, HN⟩ : ∃ n, Hid (xs.length = n) := ⟨_, rfl⟩
  have HSP : Hid (spV L I = .tuple #[.int .i64 0, .int .i64 0, .int .i64 50]) := by show _ = _; unfold spV; rw [if_neg ho]
  rw [HSP.out] at CS
  obtain ⟨b, off, rfl, hq⟩ := hh.resolve_left (by omega)
  obtain ⟨t, HTT⟩ : ∃ t, Hid (half xs.length = t) := ⟨_, rfl⟩
  have hh2 := half_lt hl
  have SC : Hid (∀ w, Calls _ _ _ _ _) := fun w => split xs.length hl (by omega) w
  rw [HTT.out] at hh2 SC
  obtain ⟨ht1, htn, _⟩ := hh2
  obtain ⟨r1, HR1⟩ : ∃ r, Hid (RT wd (xs.take t) = r) := ⟨_, rfl⟩
  obtain ⟨r2, HR2⟩ : ∃ r, Hid (RT wd (xs.drop t) = r) := ⟨_, rfl⟩
  have HE : Hid (NF wd r1 r2 = R) := by
    show _ = _
    rw [← HRR.out, RT_half wd hl, HTT.out, HR1.out, HR2.out]
  have Z1 : r1.size ≤ 32 := by rw [← HR1.out]; exact RT_le _ _
  have Z2 : r2.size ≤ 32 := by rw [← HR2.out]; exact RT_le _ _
  have NN : Hid (∀ w', Gd T w w' → Calls _ _ _ _ _) := fun w' g => pNode wd r1 r2 (by omega) w' (tab g.t)
  rw [HE.out] at NN
  have R1 : Hid (ReadsT w (.slice (some ⟨b, off, none⟩) t cap) (xs.take t)) := HRD.out.front (by omega)
  have R2 : Hid (ReadsT w (.slice (some ⟨b, off + t, none⟩) (xs.length - t) (cap - t)) (xs.drop t)) := HRD.out.back (by omega)
  have KR : Hid (∀ (p m c : Nat) w', Gd T w w' → ((p = off ∧ m = t ∧ c = cap) ∨ (p = off + t ∧ m = xs.length - t ∧ c = cap - t)) → Calls Tryd.prog 9 #[.int .i64 wd, .slice (some ⟨b, p, none⟩) m c] w' fun e w'' => (∃ r, e = .returned (.string r) ∧ (p = off → r = r1) ∧ (p = off + t → r = r2)) ∧ Below w'.heap.size w' w'') := by
    intro p m c w' g h
    rcases h with ⟨rfl, rfl, rfl⟩ | ⟨rfl, rfl, rfl⟩
    · refine (CR.out _ _ w' g R1.out (HF.out.take _)).mono ?_
      rintro e w'' ⟨rfl, hb⟩
      exact ⟨⟨_, rfl, fun _ => HR1.out, fun e => by omega⟩, hb⟩
    · refine (CR.out _ _ w' g R2.out (HF.out.drop _)).mono ?_
      rintro e w'' ⟨rfl, hb⟩
      exact ⟨⟨_, rfl, fun e => by omega, fun _ => HR2.out⟩, hb⟩
  rw [HN.out] at hcap CR0 CN hl SC KR htn ⊢
  clear hq
  clear hh hT hf later RC NC SP hwd h0 h1 B0 hR1 CR
  go_enter Tryd.func3, Tryd.ntmps3
  go_wp2_with fail
  refine (CR0.out _ G0.out).mono ?_
  rintro e w1 ⟨rfl, hb⟩
  have G1 : Hid (Gd T w w1) := G0.out.on hb
  have X1 : Hid (Bx w1 w.heap.size L I) := X0.out.later hb
  obtain ⟨x1, x2⟩ := X1.out
  clear hb G0 X0
  go_wp2_with fail
  refine (CS.out _).mono ?_
  rintro e w2 ⟨rfl, hb⟩
  have G2 : Hid (Gd T w w2) := G1.out.on hb
  have X2 : Hid (Bx w2 w.heap.size L I) := X1.out.later hb
  clear hb G1 X1 x1 x2
  have q0 : ((n : Int) == 0) = false := by rw [beq_eq_false_iff_ne]; omega
  have q1 : ((n : Int) == 1) = false := by rw [beq_eq_false_iff_ne]; omega
  have htc : (t : Int) ≤ cap := by omega
  have htc2 : (t : Int) < cap := by omega
  have htn' : (t : Int) ≤ n := by omega
  have hnc : (n : Int) ≤ cap := by omega
  have ent : ((n - t : Nat) : Int) = (n : Int) - t := by omega
  clear hl Z1 Z2
  go_wp2_with fail
  refine (SC.out _).mono ?_
  rintro e w5 ⟨rfl, hw⟩
  subst hw
  go_wp2_with fail
  have g5 := G2.out
  go_region_held3 (fun w' => Gd T w w') (first | exact g5 | exact Gd.drew (by assumption) | exact Gd.on (by assumption) hb') (first | (go_at_call 9; refine (KR.out _ _ _ _ (by first | assumption | exact Gd.drew (by assumption)) (by first | exact .inl ⟨rfl, rfl, rfl⟩ | exact .inr ⟨rfl, rfl, rfl⟩)).mono ?_; rintro e w' ⟨⟨r, rfl, k1, k2⟩, hb'⟩; first | obtain rfl := k1 rfl | obtain rfl := k2 rfl) | (go_at_call 15; refine (NN.out _ (by first | assumption | exact Gd.drew (by assumption))).mono ?_; rintro e w' ⟨rfl, hb'⟩))
  have g9 : Gd T w w' := by assumption
  have G9 : Hid (Below w.heap.size w w') := g9.b
  go_wp2
  go_ret
  exact ⟨rfl, G9.out⟩
set_option maxHeartbeats 800000 in
set_option maxRecDepth 100000 in
theorem split_c1 {T : World → Prop} (later : ∀ {w w' : World}, T w → Below w.heap.size w w' → T w') (tab : ∀ {w : World}, T w → Tab w) (RC : RootC T) (NC : NodeC T) (SP : SpanC) (wd L I : Int) (hwd : i64 wd) (h0 : i64 L) (h1 : i64 I) (v : Value) (xs : List ByteArray) (w : World) (hT : T w) (hR : ReadsT w v xs) (hf : Fits xs) (ho : ¬ okA L I) (hl : xs.length = 1) :
    Calls Tryd.prog 3 #[.int .i64 wd, v, .agg #[.int .i64 L, .int .i64 I]] w fun e w' => e = .returned (.bool true) ∧ Below w.heap.size w w' := by
  have hm := hf.many
  have HL : Hid (∀ {w w' : World}, T w → Below w.heap.size w w' → T w') := later
  have B0 : Below w.heap.size w (w.alloc (.cells #[.int .i64 L, .int .i64 I] 24)) := (Below.refl _ _).alloc (Nat.le_refl _) _
  have G0 : Hid (Gd T w (w.alloc (.cells #[.int .i64 L, .int .i64 I] 24))) := ⟨later, later hT B0, B0⟩
  have X0 : Hid (Bx (w.alloc (.cells #[.int .i64 L, .int .i64 I] 24)) w.heap.size L I) := bx_new _ _ _
  have HRD : Hid (ReadsT w v xs) := hR
  have CR : Hid (∀ u ys w', Gd T w w' → ReadsT w u ys → Fits ys → Calls _ _ _ _ _) := fun u ys w' g h hf => RC wd u ys w' hwd g.t (h.later g.b) hf
  have CN : Hid (∀ w', Gd T w w' → Calls _ _ _ _ _) := fun w' g => NC wd L I v xs w' hwd h0 h1 g.t (hR.later g.b) hf
  have CS : Hid (∀ w', Calls _ _ _ _ _) := fun w' => SP L I h0 h1 w'
  have HF : Hid (Fits xs) := hf
  obtain ⟨a, cap, rfl, hcap, hh⟩ := hR
  obtain ⟨R, HRR⟩ : ∃ R, Hid (RT wd xs = R) := ⟨_, rfl⟩
  have CR0 : Hid (∀ w', Gd T w w' → Calls _ _ _ _ _) := fun w' g => CR.out _ xs w' g HRD.out HF.out
  rw [HRR.out] at CR0
  have hR1 : 1 ≤ R.size := by rw [← HRR.out]; exact RT_pos _ _
  have qR : (R.toList == R.toList) = true := beq_self_eq_true _
  have qe := ne_empty R hR1
  have qe2 := ne_empty2 R hR1
  obtain ⟨n, HN⟩ : ∃ n, Hid (xs.length = n) := ⟨_, rfl⟩
  have HSP : Hid (spV L I = .tuple #[.int .i64 0, .int .i64 0, .int .i64 50]) := by show _ = _; unfold spV; rw [if_neg ho]
  rw [HSP.out] at CS
  obtain ⟨b, off, rfl, hq⟩ := hh.resolve_left (by omega)
  obtain ⟨x, hx⟩ := List.length_eq_one_iff.1 hl
  have hxs : x.size ≤ 140737488352000 := HF.out.each x (by rw [hx]; simp)
  have c0 := hq 0 (by omega)
  rw [hx] at c0
  have HC0 : Hid (w.cell? ⟨b, off, none⟩ = some (.string x)) := c0
  have HE : Hid (LF wd x = R) := by show _ = _; rw [← HRR.out, hx, RT_one]
  have CE : Hid (∀ w', Gd T w w' → Calls _ _ _ _ _) := fun w' g => pLeaf wd x hxs w' (tab g.t)
  rw [HE.out] at CE
  rw [HN.out] at hcap CR0 CN hl ⊢
  have q0 : ((n : Int) == 0) = false := by rw [beq_eq_false_iff_ne]; omega
  have q1 : ((n : Int) == 1) = true := by rw [beq_iff_eq]; omega
  have hn1 : (0 : Int) < n := by omega
  clear hl hx hxs c0 hq
  clear hh hT hf later RC NC SP hwd h0 h1 B0 hR1 CR
  go_enter Tryd.func3, Tryd.ntmps3
  go_wp2_with fail
  refine (CR0.out _ G0.out).mono ?_
  rintro e w1 ⟨rfl, hb⟩
  have G1 : Hid (Gd T w w1) := G0.out.on hb
  have X1 : Hid (Bx w1 w.heap.size L I) := X0.out.later hb
  obtain ⟨x1, x2⟩ := X1.out
  clear hb G0 X0
  go_wp2_with fail
  refine (CS.out _).mono ?_
  rintro e w2 ⟨rfl, hb⟩
  have G2 : Hid (Gd T w w2) := G1.out.on hb
  have X2 : Hid (Bx w2 w.heap.size L I) := X1.out.later hb
  clear hb G1 X1 x1 x2
  have c1 : w2.cell? ⟨b, off, none⟩ = some (.string x) := (G2.out.b.cell (p := ⟨b, off, none⟩) (World.block_lt_of_cell? _ _ HC0.out)).trans HC0.out
  go_wp2_with fail
  refine (CE.out _ G2.out).mono ?_
  rintro e w9 ⟨rfl, hb⟩
  have G9 : Hid (Gd T w w9) := G2.out.on hb
  clear hb c1
  go_wp2
  go_ret
  exact ⟨rfl, G9.out.b⟩
set_option maxHeartbeats 800000 in
set_option maxRecDepth 100000 in
theorem split_c0 {T : World → Prop} (later : ∀ {w w' : World}, T w → Below w.heap.size w w' → T w') (tab : ∀ {w : World}, T w → Tab w) (RC : RootC T) (NC : NodeC T) (SP : SpanC) (wd L I : Int) (hwd : i64 wd) (h0 : i64 L) (h1 : i64 I) (v : Value) (xs : List ByteArray) (w : World) (hT : T w) (hR : ReadsT w v xs) (hf : Fits xs) (ho : ¬ okA L I) (hl : xs.length = 0) :
    Calls Tryd.prog 3 #[.int .i64 wd, v, .agg #[.int .i64 L, .int .i64 I]] w fun e w' => e = .returned (.bool true) ∧ Below w.heap.size w w' := by
  have hm := hf.many
  have HL : Hid (∀ {w w' : World}, T w → Below w.heap.size w w' → T w') := later
  have B0 : Below w.heap.size w (w.alloc (.cells #[.int .i64 L, .int .i64 I] 24)) := (Below.refl _ _).alloc (Nat.le_refl _) _
  have G0 : Hid (Gd T w (w.alloc (.cells #[.int .i64 L, .int .i64 I] 24))) := ⟨later, later hT B0, B0⟩
  have X0 : Hid (Bx (w.alloc (.cells #[.int .i64 L, .int .i64 I] 24)) w.heap.size L I) := bx_new _ _ _
  have HRD : Hid (ReadsT w v xs) := hR
  have CR : Hid (∀ u ys w', Gd T w w' → ReadsT w u ys → Fits ys → Calls _ _ _ _ _) := fun u ys w' g h hf => RC wd u ys w' hwd g.t (h.later g.b) hf
  have CN : Hid (∀ w', Gd T w w' → Calls _ _ _ _ _) := fun w' g => NC wd L I v xs w' hwd h0 h1 g.t (hR.later g.b) hf
  have CS : Hid (∀ w', Calls _ _ _ _ _) := fun w' => SP L I h0 h1 w'
  have HF : Hid (Fits xs) := hf
  obtain ⟨a, cap, rfl, hcap, hh⟩ := hR
  obtain ⟨R, HRR⟩ : ∃ R, Hid (RT wd xs = R) := ⟨_, rfl⟩
  have CR0 : Hid (∀ w', Gd T w w' → Calls _ _ _ _ _) := fun w' g => CR.out _ xs w' g HRD.out HF.out
  rw [HRR.out] at CR0
  have hR1 : 1 ≤ R.size := by rw [← HRR.out]; exact RT_pos _ _
  have qR : (R.toList == R.toList) = true := beq_self_eq_true _
  have qe := ne_empty R hR1
  have qe2 := ne_empty2 R hR1
  obtain ⟨n, HN⟩ : ∃ n, Hid (xs.length = n) := ⟨_, rfl⟩
  have HSP : Hid (spV L I = .tuple #[.int .i64 0, .int .i64 0, .int .i64 50]) := by show _ = _; unfold spV; rw [if_neg ho]
  rw [HSP.out] at CS
  have hx0 : xs = [] := List.length_eq_zero_iff.1 hl
  have HE : Hid (EF wd = R) := by show _ = _; rw [← HRR.out, hx0, RT_nil]
  have CE : Hid (∀ w', Gd T w w' → Calls _ _ _ _ _) := fun w' g => pEmpty wd w' (tab g.t)
  rw [HE.out] at CE
  rw [HN.out] at hcap CR0 CN hl ⊢
  have q0 : ((n : Int) == 0) = true := by rw [beq_iff_eq]; omega
  clear hl hx0
  clear hh hT hf later RC NC SP hwd h0 h1 B0 hR1 CR
  go_enter Tryd.func3, Tryd.ntmps3
  go_wp2_with fail
  refine (CR0.out _ G0.out).mono ?_
  rintro e w1 ⟨rfl, hb⟩
  have G1 : Hid (Gd T w w1) := G0.out.on hb
  have X1 : Hid (Bx w1 w.heap.size L I) := X0.out.later hb
  obtain ⟨x1, x2⟩ := X1.out
  clear hb G0 X0
  go_wp2_with fail
  refine (CS.out _).mono ?_
  rintro e w2 ⟨rfl, hb⟩
  have G2 : Hid (Gd T w w2) := G1.out.on hb
  have X2 : Hid (Bx w2 w.heap.size L I) := X1.out.later hb
  clear hb G1 X1 x1 x2
  go_wp2_with fail
  refine (CE.out _ G2.out).mono ?_
  rintro e w9 ⟨rfl, hb⟩
  have G9 : Hid (Gd T w w9) := G2.out.on hb
  clear hb
  go_wp2
  go_ret
  exact ⟨rfl, G9.out.b⟩
set_option maxHeartbeats 800000 in
set_option maxRecDepth 100000 in
theorem split_b2 {T : World → Prop} (later : ∀ {w w' : World}, T w → Below w.heap.size w w' → T w') (tab : ∀ {w : World}, T w → Tab w) (RC : RootC T) (NC : NodeC T) (SP : SpanC) (wd L I : Int) (hwd : i64 wd) (h0 : i64 L) (h1 : i64 I) (v : Value) (xs : List ByteArray) (w : World) (hT : T w) (hR : ReadsT w v xs) (hf : Fits xs) (ho : okA L I ∧ ¬ (I + 1) * 2 ^ L.toNat ≤ xs.length) (hl : 2 ≤ xs.length) :
    Calls Tryd.prog 3 #[.int .i64 wd, v, .agg #[.int .i64 L, .int .i64 I]] w fun e w' => e = .returned (.bool true) ∧ Below w.heap.size w w' := by
  have hm := hf.many
  have HL : Hid (∀ {w w' : World}, T w → Below w.heap.size w w' → T w') := later
  have B0 : Below w.heap.size w (w.alloc (.cells #[.int .i64 L, .int .i64 I] 24)) := (Below.refl _ _).alloc (Nat.le_refl _) _
  have G0 : Hid (Gd T w (w.alloc (.cells #[.int .i64 L, .int .i64 I] 24))) := ⟨later, later hT B0, B0⟩
  have X0 : Hid (Bx (w.alloc (.cells #[.int .i64 L, .int .i64 I] 24)) w.heap.size L I) := bx_new _ _ _
  have HRD : Hid (ReadsT w v xs) := hR
  have CR : Hid (∀ u ys w', Gd T w w' → ReadsT w u ys → Fits ys → Calls _ _ _ _ _) := fun u ys w' g h hf => RC wd u ys w' hwd g.t (h.later g.b) hf
  have CN : Hid (∀ w', Gd T w w' → Calls _ _ _ _ _) := fun w' g => NC wd L I v xs w' hwd h0 h1 g.t (hR.later g.b) hf
  have CS : Hid (∀ w', Calls _ _ _ _ _) := fun w' => SP L I h0 h1 w'
  have HF : Hid (Fits xs) := hf
  obtain ⟨a, cap, rfl, hcap, hh⟩ := hR
  obtain ⟨R, HRR⟩ : ∃ R, Hid (RT wd xs = R) := ⟨_, rfl⟩
  have CR0 : Hid (∀ w', Gd T w w' → Calls _ _ _ _ _) := fun w' g => CR.out _ xs w' g HRD.out HF.out
  rw [HRR.out] at CR0
  have hR1 : 1 ≤ R.size := by rw [← HRR.out]; exact RT_pos _ _
  have qR : (R.toList == R.toList) = true := beq_self_eq_true _
  have qe := ne_empty R hR1
  have qe2 := ne_empty2 R hR1
  obtain ⟨n, HN⟩ : ∃ n, Hid (xs.length = n) := ⟨_, rfl⟩
  obtain ⟨k, i, rfl, rfl, hk, hi2⟩ := okA_form ho.1
  have HSP : Hid (spV k i = .tuple #[.int .i64 ((i * 2 ^ k : Nat) : Int), .int .i64 (((i + 1) * 2 ^ k : Nat) : Int), .int .i64 0]) := spV_nat ho.1
  have hg : ¬ (i + 1) * 2 ^ k ≤ xs.length := by
    have h := ho.2
    rw [Int.toNat_natCast, cast_pow, show ((i : Int) + 1) = ((i + 1 : Nat) : Int) by omega, ← Int.natCast_mul] at h
    omega
  rw [HSP.out] at CS
  obtain ⟨f, HFF⟩ : ∃ f, Hid (i * 2 ^ k = f) := ⟨_, rfl⟩
  obtain ⟨g, HGG⟩ : ∃ g, Hid ((i + 1) * 2 ^ k = g) := ⟨_, rfl⟩
  rw [HFF.out, HGG.out] at CS
  rw [HGG.out] at hg
  obtain ⟨b, off, rfl, hq⟩ := hh.resolve_left (by omega)
  obtain ⟨t, HTT⟩ : ∃ t, Hid (half xs.length = t) := ⟨_, rfl⟩
  have hh2 := half_lt hl
  have SC : Hid (∀ w, Calls _ _ _ _ _) := fun w => split xs.length hl (by omega) w
  rw [HTT.out] at hh2 SC
  obtain ⟨ht1, htn, _⟩ := hh2
  obtain ⟨r1, HR1⟩ : ∃ r, Hid (RT wd (xs.take t) = r) := ⟨_, rfl⟩
  obtain ⟨r2, HR2⟩ : ∃ r, Hid (RT wd (xs.drop t) = r) := ⟨_, rfl⟩
  have HE : Hid (NF wd r1 r2 = R) := by
    show _ = _
    rw [← HRR.out, RT_half wd hl, HTT.out, HR1.out, HR2.out]
  have Z1 : r1.size ≤ 32 := by rw [← HR1.out]; exact RT_le _ _
  have Z2 : r2.size ≤ 32 := by rw [← HR2.out]; exact RT_le _ _
  have NN : Hid (∀ w', Gd T w w' → Calls _ _ _ _ _) := fun w' g => pNode wd r1 r2 (by omega) w' (tab g.t)
  rw [HE.out] at NN
  have R1 : Hid (ReadsT w (.slice (some ⟨b, off, none⟩) t cap) (xs.take t)) := HRD.out.front (by omega)
  have R2 : Hid (ReadsT w (.slice (some ⟨b, off + t, none⟩) (xs.length - t) (cap - t)) (xs.drop t)) := HRD.out.back (by omega)
  have KR : Hid (∀ (p m c : Nat) w', Gd T w w' → ((p = off ∧ m = t ∧ c = cap) ∨ (p = off + t ∧ m = xs.length - t ∧ c = cap - t)) → Calls Tryd.prog 9 #[.int .i64 wd, .slice (some ⟨b, p, none⟩) m c] w' fun e w'' => (∃ r, e = .returned (.string r) ∧ (p = off → r = r1) ∧ (p = off + t → r = r2)) ∧ Below w'.heap.size w' w'') := by
    intro p m c w' g h
    rcases h with ⟨rfl, rfl, rfl⟩ | ⟨rfl, rfl, rfl⟩
    · refine (CR.out _ _ w' g R1.out (HF.out.take _)).mono ?_
      rintro e w'' ⟨rfl, hb⟩
      exact ⟨⟨_, rfl, fun _ => HR1.out, fun e => by omega⟩, hb⟩
    · refine (CR.out _ _ w' g R2.out (HF.out.drop _)).mono ?_
      rintro e w'' ⟨rfl, hb⟩
      exact ⟨⟨_, rfl, fun e => by omega, fun _ => HR2.out⟩, hb⟩
  rw [HN.out] at hcap CR0 CN hl SC KR htn hg ⊢
  have hgn : ¬ (g : Int) ≤ n := by omega
  clear hg hk hi2 ho
  clear hq
  clear hh hT hf later RC NC SP hwd h0 h1 B0 hR1 CR
  go_enter Tryd.func3, Tryd.ntmps3
  go_wp2_with fail
  refine (CR0.out _ G0.out).mono ?_
  rintro e w1 ⟨rfl, hb⟩
  have G1 : Hid (Gd T w w1) := G0.out.on hb
  have X1 : Hid (Bx w1 w.heap.size (k : Int) (i : Int)) := X0.out.later hb
  obtain ⟨x1, x2⟩ := X1.out
  clear hb G0 X0
  go_wp2_with fail
  refine (CS.out _).mono ?_
  rintro e w2 ⟨rfl, hb⟩
  have G2 : Hid (Gd T w w2) := G1.out.on hb
  have X2 : Hid (Bx w2 w.heap.size (k : Int) (i : Int)) := X1.out.later hb
  clear hb G1 X1 x1 x2
  have q0 : ((n : Int) == 0) = false := by rw [beq_eq_false_iff_ne]; omega
  have q1 : ((n : Int) == 1) = false := by rw [beq_eq_false_iff_ne]; omega
  have htc : (t : Int) ≤ cap := by omega
  have htc2 : (t : Int) < cap := by omega
  have htn' : (t : Int) ≤ n := by omega
  have hnc : (n : Int) ≤ cap := by omega
  have ent : ((n - t : Nat) : Int) = (n : Int) - t := by omega
  clear hl Z1 Z2
  go_wp2_with fail
  refine (SC.out _).mono ?_
  rintro e w5 ⟨rfl, hw⟩
  subst hw
  go_wp2_with fail
  have g5 := G2.out
  go_region_held3 (fun w' => Gd T w w') (first | exact g5 | exact Gd.drew (by assumption) | exact Gd.on (by assumption) hb') (first | (go_at_call 9; refine (KR.out _ _ _ _ (by first | assumption | exact Gd.drew (by assumption)) (by first | exact .inl ⟨rfl, rfl, rfl⟩ | exact .inr ⟨rfl, rfl, rfl⟩)).mono ?_; rintro e w' ⟨⟨r, rfl, k1, k2⟩, hb'⟩; first | obtain rfl := k1 rfl | obtain rfl := k2 rfl) | (go_at_call 15; refine (NN.out _ (by first | assumption | exact Gd.drew (by assumption))).mono ?_; rintro e w' ⟨rfl, hb'⟩))
  have g9 : Gd T w w' := by assumption
  have G9 : Hid (Below w.heap.size w w') := g9.b
  go_wp2
  go_ret
  exact ⟨rfl, G9.out⟩
set_option maxHeartbeats 800000 in
set_option maxRecDepth 100000 in
theorem split_b1 {T : World → Prop} (later : ∀ {w w' : World}, T w → Below w.heap.size w w' → T w') (tab : ∀ {w : World}, T w → Tab w) (RC : RootC T) (NC : NodeC T) (SP : SpanC) (wd L I : Int) (hwd : i64 wd) (h0 : i64 L) (h1 : i64 I) (v : Value) (xs : List ByteArray) (w : World) (hT : T w) (hR : ReadsT w v xs) (hf : Fits xs) (ho : okA L I ∧ ¬ (I + 1) * 2 ^ L.toNat ≤ xs.length) (hl : xs.length = 1) :
    Calls Tryd.prog 3 #[.int .i64 wd, v, .agg #[.int .i64 L, .int .i64 I]] w fun e w' => e = .returned (.bool true) ∧ Below w.heap.size w w' := by
  have hm := hf.many
  have HL : Hid (∀ {w w' : World}, T w → Below w.heap.size w w' → T w') := later
  have B0 : Below w.heap.size w (w.alloc (.cells #[.int .i64 L, .int .i64 I] 24)) := (Below.refl _ _).alloc (Nat.le_refl _) _
  have G0 : Hid (Gd T w (w.alloc (.cells #[.int .i64 L, .int .i64 I] 24))) := ⟨later, later hT B0, B0⟩
  have X0 : Hid (Bx (w.alloc (.cells #[.int .i64 L, .int .i64 I] 24)) w.heap.size L I) := bx_new _ _ _
  have HRD : Hid (ReadsT w v xs) := hR
  have CR : Hid (∀ u ys w', Gd T w w' → ReadsT w u ys → Fits ys → Calls _ _ _ _ _) := fun u ys w' g h hf => RC wd u ys w' hwd g.t (h.later g.b) hf
  have CN : Hid (∀ w', Gd T w w' → Calls _ _ _ _ _) := fun w' g => NC wd L I v xs w' hwd h0 h1 g.t (hR.later g.b) hf
  have CS : Hid (∀ w', Calls _ _ _ _ _) := fun w' => SP L I h0 h1 w'
  have HF : Hid (Fits xs) := hf
  obtain ⟨a, cap, rfl, hcap, hh⟩ := hR
  obtain ⟨R, HRR⟩ : ∃ R, Hid (RT wd xs = R) := ⟨_, rfl⟩
  have CR0 : Hid (∀ w', Gd T w w' → Calls _ _ _ _ _) := fun w' g => CR.out _ xs w' g HRD.out HF.out
  rw [HRR.out] at CR0
  have hR1 : 1 ≤ R.size := by rw [← HRR.out]; exact RT_pos _ _
  have qR : (R.toList == R.toList) = true := beq_self_eq_true _
  have qe := ne_empty R hR1
  have qe2 := ne_empty2 R hR1
  obtain ⟨n, HN⟩ : ∃ n, Hid (xs.length = n) := ⟨_, rfl⟩
  obtain ⟨k, i, rfl, rfl, hk, hi2⟩ := okA_form ho.1
  have HSP : Hid (spV k i = .tuple #[.int .i64 ((i * 2 ^ k : Nat) : Int), .int .i64 (((i + 1) * 2 ^ k : Nat) : Int), .int .i64 0]) := spV_nat ho.1
  have hg : ¬ (i + 1) * 2 ^ k ≤ xs.length := by
    have h := ho.2
    rw [Int.toNat_natCast, cast_pow, show ((i : Int) + 1) = ((i + 1 : Nat) : Int) by omega, ← Int.natCast_mul] at h
    omega
  rw [HSP.out] at CS
  obtain ⟨f, HFF⟩ : ∃ f, Hid (i * 2 ^ k = f) := ⟨_, rfl⟩
  obtain ⟨g, HGG⟩ : ∃ g, Hid ((i + 1) * 2 ^ k = g) := ⟨_, rfl⟩
  rw [HFF.out, HGG.out] at CS
  rw [HGG.out] at hg
  obtain ⟨b, off, rfl, hq⟩ := hh.resolve_left (by omega)
  obtain ⟨x, hx⟩ := List.length_eq_one_iff.1 hl
  have hxs : x.size ≤ 140737488352000 := HF.out.each x (by rw [hx]; simp)
  have c0 := hq 0 (by omega)
  rw [hx] at c0
  have HC0 : Hid (w.cell? ⟨b, off, none⟩ = some (.string x)) := c0
  have HE : Hid (LF wd x = R) := by show _ = _; rw [← HRR.out, hx, RT_one]
  have CE : Hid (∀ w', Gd T w w' → Calls _ _ _ _ _) := fun w' g => pLeaf wd x hxs w' (tab g.t)
  rw [HE.out] at CE
  rw [HN.out] at hcap CR0 CN hl hg ⊢
  have hgn : ¬ (g : Int) ≤ n := by omega
  clear hg hk hi2 ho
  have q0 : ((n : Int) == 0) = false := by rw [beq_eq_false_iff_ne]; omega
  have q1 : ((n : Int) == 1) = true := by rw [beq_iff_eq]; omega
  have hn1 : (0 : Int) < n := by omega
  clear hl hx hxs c0 hq
  clear hh hT hf later RC NC SP hwd h0 h1 B0 hR1 CR
  go_enter Tryd.func3, Tryd.ntmps3
  go_wp2_with fail
  refine (CR0.out _ G0.out).mono ?_
  rintro e w1 ⟨rfl, hb⟩
  have G1 : Hid (Gd T w w1) := G0.out.on hb
  have X1 : Hid (Bx w1 w.heap.size (k : Int) (i : Int)) := X0.out.later hb
  obtain ⟨x1, x2⟩ := X1.out
  clear hb G0 X0
  go_wp2_with fail
  refine (CS.out _).mono ?_
  rintro e w2 ⟨rfl, hb⟩
  have G2 : Hid (Gd T w w2) := G1.out.on hb
  have X2 : Hid (Bx w2 w.heap.size (k : Int) (i : Int)) := X1.out.later hb
  clear hb G1 X1 x1 x2
  have c1 : w2.cell? ⟨b, off, none⟩ = some (.string x) := (G2.out.b.cell (p := ⟨b, off, none⟩) (World.block_lt_of_cell? _ _ HC0.out)).trans HC0.out
  go_wp2_with fail
  refine (CE.out _ G2.out).mono ?_
  rintro e w9 ⟨rfl, hb⟩
  have G9 : Hid (Gd T w w9) := G2.out.on hb
  clear hb c1
  go_wp2
  go_ret
  exact ⟨rfl, G9.out.b⟩
set_option maxHeartbeats 800000 in
set_option maxRecDepth 100000 in
theorem split_b0 {T : World → Prop} (later : ∀ {w w' : World}, T w → Below w.heap.size w w' → T w') (tab : ∀ {w : World}, T w → Tab w) (RC : RootC T) (NC : NodeC T) (SP : SpanC) (wd L I : Int) (hwd : i64 wd) (h0 : i64 L) (h1 : i64 I) (v : Value) (xs : List ByteArray) (w : World) (hT : T w) (hR : ReadsT w v xs) (hf : Fits xs) (ho : okA L I ∧ ¬ (I + 1) * 2 ^ L.toNat ≤ xs.length) (hl : xs.length = 0) :
    Calls Tryd.prog 3 #[.int .i64 wd, v, .agg #[.int .i64 L, .int .i64 I]] w fun e w' => e = .returned (.bool true) ∧ Below w.heap.size w w' := by
  have hm := hf.many
  have HL : Hid (∀ {w w' : World}, T w → Below w.heap.size w w' → T w') := later
  have B0 : Below w.heap.size w (w.alloc (.cells #[.int .i64 L, .int .i64 I] 24)) := (Below.refl _ _).alloc (Nat.le_refl _) _
  have G0 : Hid (Gd T w (w.alloc (.cells #[.int .i64 L, .int .i64 I] 24))) := ⟨later, later hT B0, B0⟩
  have X0 : Hid (Bx (w.alloc (.cells #[.int .i64 L, .int .i64 I] 24)) w.heap.size L I) := bx_new _ _ _
  have HRD : Hid (ReadsT w v xs) := hR
  have CR : Hid (∀ u ys w', Gd T w w' → ReadsT w u ys → Fits ys → Calls _ _ _ _ _) := fun u ys w' g h hf => RC wd u ys w' hwd g.t (h.later g.b) hf
  have CN : Hid (∀ w', Gd T w w' → Calls _ _ _ _ _) := fun w' g => NC wd L I v xs w' hwd h0 h1 g.t (hR.later g.b) hf
  have CS : Hid (∀ w', Calls _ _ _ _ _) := fun w' => SP L I h0 h1 w'
  have HF : Hid (Fits xs) := hf
  obtain ⟨a, cap, rfl, hcap, hh⟩ := hR
  obtain ⟨R, HRR⟩ : ∃ R, Hid (RT wd xs = R) := ⟨_, rfl⟩
  have CR0 : Hid (∀ w', Gd T w w' → Calls _ _ _ _ _) := fun w' g => CR.out _ xs w' g HRD.out HF.out
  rw [HRR.out] at CR0
  have hR1 : 1 ≤ R.size := by rw [← HRR.out]; exact RT_pos _ _
  have qR : (R.toList == R.toList) = true := beq_self_eq_true _
  have qe := ne_empty R hR1
  have qe2 := ne_empty2 R hR1
  obtain ⟨n, HN⟩ : ∃ n, Hid (xs.length = n) := ⟨_, rfl⟩
  obtain ⟨k, i, rfl, rfl, hk, hi2⟩ := okA_form ho.1
  have HSP : Hid (spV k i = .tuple #[.int .i64 ((i * 2 ^ k : Nat) : Int), .int .i64 (((i + 1) * 2 ^ k : Nat) : Int), .int .i64 0]) := spV_nat ho.1
  have hg : ¬ (i + 1) * 2 ^ k ≤ xs.length := by
    have h := ho.2
    rw [Int.toNat_natCast, cast_pow, show ((i : Int) + 1) = ((i + 1 : Nat) : Int) by omega, ← Int.natCast_mul] at h
    omega
  rw [HSP.out] at CS
  obtain ⟨f, HFF⟩ : ∃ f, Hid (i * 2 ^ k = f) := ⟨_, rfl⟩
  obtain ⟨g, HGG⟩ : ∃ g, Hid ((i + 1) * 2 ^ k = g) := ⟨_, rfl⟩
  rw [HFF.out, HGG.out] at CS
  rw [HGG.out] at hg
  have hx0 : xs = [] := List.length_eq_zero_iff.1 hl
  have HE : Hid (EF wd = R) := by show _ = _; rw [← HRR.out, hx0, RT_nil]
  have CE : Hid (∀ w', Gd T w w' → Calls _ _ _ _ _) := fun w' g => pEmpty wd w' (tab g.t)
  rw [HE.out] at CE
  rw [HN.out] at hcap CR0 CN hl hg ⊢
  have hgn : ¬ (g : Int) ≤ n := by omega
  clear hg hk hi2 ho
  have q0 : ((n : Int) == 0) = true := by rw [beq_iff_eq]; omega
  clear hl hx0
  clear hh hT hf later RC NC SP hwd h0 h1 B0 hR1 CR
  go_enter Tryd.func3, Tryd.ntmps3
  go_wp2_with fail
  refine (CR0.out _ G0.out).mono ?_
  rintro e w1 ⟨rfl, hb⟩
  have G1 : Hid (Gd T w w1) := G0.out.on hb
  have X1 : Hid (Bx w1 w.heap.size (k : Int) (i : Int)) := X0.out.later hb
  obtain ⟨x1, x2⟩ := X1.out
  clear hb G0 X0
  go_wp2_with fail
  refine (CS.out _).mono ?_
  rintro e w2 ⟨rfl, hb⟩
  have G2 : Hid (Gd T w w2) := G1.out.on hb
  have X2 : Hid (Bx w2 w.heap.size (k : Int) (i : Int)) := X1.out.later hb
  clear hb G1 X1 x1 x2
  go_wp2_with fail
  refine (CE.out _ G2.out).mono ?_
  rintro e w9 ⟨rfl, hb⟩
  have G9 : Hid (Gd T w w9) := G2.out.on hb
  clear hb
  go_wp2
  go_ret
  exact ⟨rfl, G9.out.b⟩
set_option maxHeartbeats 800000 in
set_option maxRecDepth 100000 in
theorem split_a2 {T : World → Prop} (later : ∀ {w w' : World}, T w → Below w.heap.size w w' → T w') (tab : ∀ {w : World}, T w → Tab w) (RC : RootC T) (NC : NodeC T) (SP : SpanC) (wd L I : Int) (hwd : i64 wd) (h0 : i64 L) (h1 : i64 I) (v : Value) (xs : List ByteArray) (w : World) (hT : T w) (hR : ReadsT w v xs) (hf : Fits xs) (ho : okA L I ∧ (I + 1) * 2 ^ L.toNat ≤ xs.length) (hl : 2 ≤ xs.length) :
    Calls Tryd.prog 3 #[.int .i64 wd, v, .agg #[.int .i64 L, .int .i64 I]] w fun e w' => e = .returned (.bool true) ∧ Below w.heap.size w w' := by
  have hm := hf.many
  have HL : Hid (∀ {w w' : World}, T w → Below w.heap.size w w' → T w') := later
  have B0 : Below w.heap.size w (w.alloc (.cells #[.int .i64 L, .int .i64 I] 24)) := (Below.refl _ _).alloc (Nat.le_refl _) _
  have G0 : Hid (Gd T w (w.alloc (.cells #[.int .i64 L, .int .i64 I] 24))) := ⟨later, later hT B0, B0⟩
  have X0 : Hid (Bx (w.alloc (.cells #[.int .i64 L, .int .i64 I] 24)) w.heap.size L I) := bx_new _ _ _
  have HRD : Hid (ReadsT w v xs) := hR
  have CR : Hid (∀ u ys w', Gd T w w' → ReadsT w u ys → Fits ys → Calls _ _ _ _ _) := fun u ys w' g h hf => RC wd u ys w' hwd g.t (h.later g.b) hf
  have CN : Hid (∀ w', Gd T w w' → Calls _ _ _ _ _) := fun w' g => NC wd L I v xs w' hwd h0 h1 g.t (hR.later g.b) hf
  have CS : Hid (∀ w', Calls _ _ _ _ _) := fun w' => SP L I h0 h1 w'
  have HF : Hid (Fits xs) := hf
  obtain ⟨a, cap, rfl, hcap, hh⟩ := hR
  obtain ⟨R, HRR⟩ : ∃ R, Hid (RT wd xs = R) := ⟨_, rfl⟩
  have CR0 : Hid (∀ w', Gd T w w' → Calls _ _ _ _ _) := fun w' g => CR.out _ xs w' g HRD.out HF.out
  rw [HRR.out] at CR0
  have hR1 : 1 ≤ R.size := by rw [← HRR.out]; exact RT_pos _ _
  have qR : (R.toList == R.toList) = true := beq_self_eq_true _
  have qe := ne_empty R hR1
  have qe2 := ne_empty2 R hR1
  obtain ⟨n, HN⟩ : ∃ n, Hid (xs.length = n) := ⟨_, rfl⟩
  obtain ⟨k, i, rfl, rfl, hk, hi2⟩ := okA_form ho.1
  have HSP : Hid (spV k i = .tuple #[.int .i64 ((i * 2 ^ k : Nat) : Int), .int .i64 (((i + 1) * 2 ^ k : Nat) : Int), .int .i64 0]) := spV_nat ho.1
  have HNE : Hid (NE k i xs = 0) := by show _ = _; unfold NE; rw [if_pos ho.1, if_pos ho.2]
  have hg : (i + 1) * 2 ^ k ≤ xs.length := by
    have h := ho.2
    rw [Int.toNat_natCast, cast_pow, show ((i : Int) + 1) = ((i + 1 : Nat) : Int) by omega, ← Int.natCast_mul] at h
    omega
  have HNT : Hid (NT wd k i xs = RT wd ((xs.drop (i * 2 ^ k)).take (2 ^ k))) := by
    show _ = _
    unfold NT
    rw [if_pos ho, Int.toNat_natCast, cast_pow, ← Int.natCast_mul, Int.toNat_natCast]
  obtain ⟨y, HY⟩ : ∃ y, Hid (RT wd ((xs.drop (i * 2 ^ k)).take (2 ^ k)) = y) := ⟨_, rfl⟩
  have qy : (y.toList == y.toList) = true := beq_self_eq_true _
  rw [HY.out] at HNT
  rw [HNE.out, HNT.out] at CN
  rw [HSP.out] at CS
  obtain ⟨b, off, rfl, hq⟩ := hh.resolve_left (by have := Nat.le_mul_of_pos_right (i + 1) (p2 k); omega)
  obtain ⟨f, HFF⟩ : ∃ f, Hid (i * 2 ^ k = f) := ⟨_, rfl⟩
  obtain ⟨g, HGG⟩ : ∃ g, Hid ((i + 1) * 2 ^ k = g) := ⟨_, rfl⟩
  obtain ⟨t2, HT2⟩ : ∃ t : Nat, Hid (2 ^ k = t) := ⟨_, rfl⟩
  have hgf : g = f + t2 := by rw [← HFF.out, ← HGG.out, ← HT2.out, Nat.add_mul, Nat.one_mul]
  rw [HFF.out, HT2.out] at HY
  rw [HFF.out, HGG.out] at CS
  rw [HGG.out] at hg
  have ht2 : 1 ≤ t2 := by rw [← HT2.out]; exact p2 k
  have RM : Hid (ReadsT w (.slice (some ⟨b, off + f, none⟩) t2 (cap - f)) ((xs.drop f).take t2)) := ReadsT.mid HRD.out (by omega)
  have CM : Hid (∀ w', Gd T w w' → Calls _ _ _ _ _) := fun w' gd => CR.out _ _ w' gd RM.out ((HF.out.drop f).take t2)
  rw [HY.out] at CM
  obtain ⟨t, HTT⟩ : ∃ t, Hid (half xs.length = t) := ⟨_, rfl⟩
  have hh2 := half_lt hl
  have SC : Hid (∀ w, Calls _ _ _ _ _) := fun w => split xs.length hl (by omega) w
  rw [HTT.out] at hh2 SC
  obtain ⟨ht1, htn, _⟩ := hh2
  obtain ⟨r1, HR1⟩ : ∃ r, Hid (RT wd (xs.take t) = r) := ⟨_, rfl⟩
  obtain ⟨r2, HR2⟩ : ∃ r, Hid (RT wd (xs.drop t) = r) := ⟨_, rfl⟩
  have HE : Hid (NF wd r1 r2 = R) := by
    show _ = _
    rw [← HRR.out, RT_half wd hl, HTT.out, HR1.out, HR2.out]
  have Z1 : r1.size ≤ 32 := by rw [← HR1.out]; exact RT_le _ _
  have Z2 : r2.size ≤ 32 := by rw [← HR2.out]; exact RT_le _ _
  have NN : Hid (∀ w', Gd T w w' → Calls _ _ _ _ _) := fun w' g => pNode wd r1 r2 (by omega) w' (tab g.t)
  rw [HE.out] at NN
  have R1 : Hid (ReadsT w (.slice (some ⟨b, off, none⟩) t cap) (xs.take t)) := HRD.out.front (by omega)
  have R2 : Hid (ReadsT w (.slice (some ⟨b, off + t, none⟩) (xs.length - t) (cap - t)) (xs.drop t)) := HRD.out.back (by omega)
  have KR : Hid (∀ (p m c : Nat) w', Gd T w w' → ((p = off ∧ m = t ∧ c = cap) ∨ (p = off + t ∧ m = xs.length - t ∧ c = cap - t)) → Calls Tryd.prog 9 #[.int .i64 wd, .slice (some ⟨b, p, none⟩) m c] w' fun e w'' => (∃ r, e = .returned (.string r) ∧ (p = off → r = r1) ∧ (p = off + t → r = r2)) ∧ Below w'.heap.size w' w'') := by
    intro p m c w' g h
    rcases h with ⟨rfl, rfl, rfl⟩ | ⟨rfl, rfl, rfl⟩
    · refine (CR.out _ _ w' g R1.out (HF.out.take _)).mono ?_
      rintro e w'' ⟨rfl, hb⟩
      exact ⟨⟨_, rfl, fun _ => HR1.out, fun e => by omega⟩, hb⟩
    · refine (CR.out _ _ w' g R2.out (HF.out.drop _)).mono ?_
      rintro e w'' ⟨rfl, hb⟩
      exact ⟨⟨_, rfl, fun e => by omega, fun _ => HR2.out⟩, hb⟩
  rw [HN.out] at hcap CR0 CN hl SC KR htn hg ⊢
  have hgn : (g : Int) ≤ n := by omega
  have hfg : (f : Int) ≤ g := by omega
  have hgc : (g : Int) ≤ cap := by omega
  have hfc : (f : Int) < cap := by omega
  have E9 : Hid (((g : Int) - f).toNat = t2) := by show _ = _; omega
  have E8 : Hid ((g - f) = t2) := by show _ = _; omega
  clear hgf hg ht2 hk hi2 ho
  clear hq
  clear hh hT hf later RC NC SP hwd h0 h1 B0 hR1 CR
  go_enter Tryd.func3, Tryd.ntmps3
  go_wp2_with fail
  refine (CR0.out _ G0.out).mono ?_
  rintro e w1 ⟨rfl, hb⟩
  have G1 : Hid (Gd T w w1) := G0.out.on hb
  have X1 : Hid (Bx w1 w.heap.size (k : Int) (i : Int)) := X0.out.later hb
  obtain ⟨x1, x2⟩ := X1.out
  clear hb G0 X0
  go_wp2_with fail
  refine (CS.out _).mono ?_
  rintro e w2 ⟨rfl, hb⟩
  have G2 : Hid (Gd T w w2) := G1.out.on hb
  have X2 : Hid (Bx w2 w.heap.size (k : Int) (i : Int)) := X1.out.later hb
  clear hb G1 X1 x1 x2
  obtain ⟨x1, x2⟩ := X2.out
  go_wp2_with fail
  refine (CN.out _ G2.out).mono ?_
  rintro e w3 ⟨rfl, hb⟩
  have G3 : Hid (Gd T w w3) := G2.out.on hb
  clear hb G2 X2 x1 x2
  have ent9 := E9.out
  have ent8 := E8.out
  go_wp2_with fail
  clear ent9 ent8
  refine (CM.out _ G3.out).mono ?_
  rintro e w4 ⟨rfl, hb⟩
  have G4 : Hid (Gd T w w4) := G3.out.on hb
  clear hb G3 hfg hgc hfc hgn qy
  have q0 : ((n : Int) == 0) = false := by rw [beq_eq_false_iff_ne]; omega
  have q1 : ((n : Int) == 1) = false := by rw [beq_eq_false_iff_ne]; omega
  have htc : (t : Int) ≤ cap := by omega
  have htc2 : (t : Int) < cap := by omega
  have htn' : (t : Int) ≤ n := by omega
  have hnc : (n : Int) ≤ cap := by omega
  have ent : ((n - t : Nat) : Int) = (n : Int) - t := by omega
  clear hl Z1 Z2
  go_wp2_with fail
  refine (SC.out _).mono ?_
  rintro e w5 ⟨rfl, hw⟩
  subst hw
  go_wp2_with fail
  have g5 := G4.out
  go_region_held3 (fun w' => Gd T w w') (first | exact g5 | exact Gd.drew (by assumption) | exact Gd.on (by assumption) hb') (first | (go_at_call 9; refine (KR.out _ _ _ _ (by first | assumption | exact Gd.drew (by assumption)) (by first | exact .inl ⟨rfl, rfl, rfl⟩ | exact .inr ⟨rfl, rfl, rfl⟩)).mono ?_; rintro e w' ⟨⟨r, rfl, k1, k2⟩, hb'⟩; first | obtain rfl := k1 rfl | obtain rfl := k2 rfl) | (go_at_call 15; refine (NN.out _ (by first | assumption | exact Gd.drew (by assumption))).mono ?_; rintro e w' ⟨rfl, hb'⟩))
  have g9 : Gd T w w' := by assumption
  have G9 : Hid (Below w.heap.size w w') := g9.b
  go_wp2
  go_ret
  exact ⟨rfl, G9.out⟩
set_option maxHeartbeats 800000 in
set_option maxRecDepth 100000 in
theorem split_a1 {T : World → Prop} (later : ∀ {w w' : World}, T w → Below w.heap.size w w' → T w') (tab : ∀ {w : World}, T w → Tab w) (RC : RootC T) (NC : NodeC T) (SP : SpanC) (wd L I : Int) (hwd : i64 wd) (h0 : i64 L) (h1 : i64 I) (v : Value) (xs : List ByteArray) (w : World) (hT : T w) (hR : ReadsT w v xs) (hf : Fits xs) (ho : okA L I ∧ (I + 1) * 2 ^ L.toNat ≤ xs.length) (hl : xs.length = 1) :
    Calls Tryd.prog 3 #[.int .i64 wd, v, .agg #[.int .i64 L, .int .i64 I]] w fun e w' => e = .returned (.bool true) ∧ Below w.heap.size w w' := by
  have hm := hf.many
  have HL : Hid (∀ {w w' : World}, T w → Below w.heap.size w w' → T w') := later
  have B0 : Below w.heap.size w (w.alloc (.cells #[.int .i64 L, .int .i64 I] 24)) := (Below.refl _ _).alloc (Nat.le_refl _) _
  have G0 : Hid (Gd T w (w.alloc (.cells #[.int .i64 L, .int .i64 I] 24))) := ⟨later, later hT B0, B0⟩
  have X0 : Hid (Bx (w.alloc (.cells #[.int .i64 L, .int .i64 I] 24)) w.heap.size L I) := bx_new _ _ _
  have HRD : Hid (ReadsT w v xs) := hR
  have CR : Hid (∀ u ys w', Gd T w w' → ReadsT w u ys → Fits ys → Calls _ _ _ _ _) := fun u ys w' g h hf => RC wd u ys w' hwd g.t (h.later g.b) hf
  have CN : Hid (∀ w', Gd T w w' → Calls _ _ _ _ _) := fun w' g => NC wd L I v xs w' hwd h0 h1 g.t (hR.later g.b) hf
  have CS : Hid (∀ w', Calls _ _ _ _ _) := fun w' => SP L I h0 h1 w'
  have HF : Hid (Fits xs) := hf
  obtain ⟨a, cap, rfl, hcap, hh⟩ := hR
  obtain ⟨R, HRR⟩ : ∃ R, Hid (RT wd xs = R) := ⟨_, rfl⟩
  have CR0 : Hid (∀ w', Gd T w w' → Calls _ _ _ _ _) := fun w' g => CR.out _ xs w' g HRD.out HF.out
  rw [HRR.out] at CR0
  have hR1 : 1 ≤ R.size := by rw [← HRR.out]; exact RT_pos _ _
  have qR : (R.toList == R.toList) = true := beq_self_eq_true _
  have qe := ne_empty R hR1
  have qe2 := ne_empty2 R hR1
  obtain ⟨n, HN⟩ : ∃ n, Hid (xs.length = n) := ⟨_, rfl⟩
  obtain ⟨k, i, rfl, rfl, hk, hi2⟩ := okA_form ho.1
  have HSP : Hid (spV k i = .tuple #[.int .i64 ((i * 2 ^ k : Nat) : Int), .int .i64 (((i + 1) * 2 ^ k : Nat) : Int), .int .i64 0]) := spV_nat ho.1
  have HNE : Hid (NE k i xs = 0) := by show _ = _; unfold NE; rw [if_pos ho.1, if_pos ho.2]
  have hg : (i + 1) * 2 ^ k ≤ xs.length := by
    have h := ho.2
    rw [Int.toNat_natCast, cast_pow, show ((i : Int) + 1) = ((i + 1 : Nat) : Int) by omega, ← Int.natCast_mul] at h
    omega
  have HNT : Hid (NT wd k i xs = RT wd ((xs.drop (i * 2 ^ k)).take (2 ^ k))) := by
    show _ = _
    unfold NT
    rw [if_pos ho, Int.toNat_natCast, cast_pow, ← Int.natCast_mul, Int.toNat_natCast]
  obtain ⟨y, HY⟩ : ∃ y, Hid (RT wd ((xs.drop (i * 2 ^ k)).take (2 ^ k)) = y) := ⟨_, rfl⟩
  have qy : (y.toList == y.toList) = true := beq_self_eq_true _
  rw [HY.out] at HNT
  rw [HNE.out, HNT.out] at CN
  rw [HSP.out] at CS
  obtain ⟨b, off, rfl, hq⟩ := hh.resolve_left (by have := Nat.le_mul_of_pos_right (i + 1) (p2 k); omega)
  obtain ⟨f, HFF⟩ : ∃ f, Hid (i * 2 ^ k = f) := ⟨_, rfl⟩
  obtain ⟨g, HGG⟩ : ∃ g, Hid ((i + 1) * 2 ^ k = g) := ⟨_, rfl⟩
  obtain ⟨t2, HT2⟩ : ∃ t : Nat, Hid (2 ^ k = t) := ⟨_, rfl⟩
  have hgf : g = f + t2 := by rw [← HFF.out, ← HGG.out, ← HT2.out, Nat.add_mul, Nat.one_mul]
  rw [HFF.out, HT2.out] at HY
  rw [HFF.out, HGG.out] at CS
  rw [HGG.out] at hg
  have ht2 : 1 ≤ t2 := by rw [← HT2.out]; exact p2 k
  have RM : Hid (ReadsT w (.slice (some ⟨b, off + f, none⟩) t2 (cap - f)) ((xs.drop f).take t2)) := ReadsT.mid HRD.out (by omega)
  have CM : Hid (∀ w', Gd T w w' → Calls _ _ _ _ _) := fun w' gd => CR.out _ _ w' gd RM.out ((HF.out.drop f).take t2)
  rw [HY.out] at CM
  obtain ⟨x, hx⟩ := List.length_eq_one_iff.1 hl
  have hxs : x.size ≤ 140737488352000 := HF.out.each x (by rw [hx]; simp)
  have c0 := hq 0 (by omega)
  rw [hx] at c0
  have HC0 : Hid (w.cell? ⟨b, off, none⟩ = some (.string x)) := c0
  have HE : Hid (LF wd x = R) := by show _ = _; rw [← HRR.out, hx, RT_one]
  have CE : Hid (∀ w', Gd T w w' → Calls _ _ _ _ _) := fun w' g => pLeaf wd x hxs w' (tab g.t)
  rw [HE.out] at CE
  rw [HN.out] at hcap CR0 CN hl hg ⊢
  have hgn : (g : Int) ≤ n := by omega
  have hfg : (f : Int) ≤ g := by omega
  have hgc : (g : Int) ≤ cap := by omega
  have hfc : (f : Int) < cap := by omega
  have E9 : Hid (((g : Int) - f).toNat = t2) := by show _ = _; omega
  have E8 : Hid ((g - f) = t2) := by show _ = _; omega
  clear hgf hg ht2 hk hi2 ho
  have q0 : ((n : Int) == 0) = false := by rw [beq_eq_false_iff_ne]; omega
  have q1 : ((n : Int) == 1) = true := by rw [beq_iff_eq]; omega
  have hn1 : (0 : Int) < n := by omega
  clear hl hx hxs c0 hq
  clear hh hT hf later RC NC SP hwd h0 h1 B0 hR1 CR
  go_enter Tryd.func3, Tryd.ntmps3
  go_wp2_with fail
  refine (CR0.out _ G0.out).mono ?_
  rintro e w1 ⟨rfl, hb⟩
  have G1 : Hid (Gd T w w1) := G0.out.on hb
  have X1 : Hid (Bx w1 w.heap.size (k : Int) (i : Int)) := X0.out.later hb
  obtain ⟨x1, x2⟩ := X1.out
  clear hb G0 X0
  go_wp2_with fail
  refine (CS.out _).mono ?_
  rintro e w2 ⟨rfl, hb⟩
  have G2 : Hid (Gd T w w2) := G1.out.on hb
  have X2 : Hid (Bx w2 w.heap.size (k : Int) (i : Int)) := X1.out.later hb
  clear hb G1 X1 x1 x2
  obtain ⟨x1, x2⟩ := X2.out
  go_wp2_with fail
  refine (CN.out _ G2.out).mono ?_
  rintro e w3 ⟨rfl, hb⟩
  have G3 : Hid (Gd T w w3) := G2.out.on hb
  clear hb G2 X2 x1 x2
  have ent9 := E9.out
  have ent8 := E8.out
  go_wp2_with fail
  clear ent9 ent8
  refine (CM.out _ G3.out).mono ?_
  rintro e w4 ⟨rfl, hb⟩
  have G4 : Hid (Gd T w w4) := G3.out.on hb
  clear hb G3 hfg hgc hfc hgn qy
  have c1 : w4.cell? ⟨b, off, none⟩ = some (.string x) := (G4.out.b.cell (p := ⟨b, off, none⟩) (World.block_lt_of_cell? _ _ HC0.out)).trans HC0.out
  go_wp2_with fail
  refine (CE.out _ G4.out).mono ?_
  rintro e w9 ⟨rfl, hb⟩
  have G9 : Hid (Gd T w w9) := G4.out.on hb
  clear hb c1
  go_wp2
  go_ret
  exact ⟨rfl, G9.out.b⟩
theorem mth_split {T : World → Prop} (later : ∀ {w w' : World}, T w → Below w.heap.size w w' → T w') (tab : ∀ {w : World}, T w → Tab w) (RC : RootC T) (NC : NodeC T) (SP : SpanC) (wd L I : Int) (hwd : i64 wd) (h0 : i64 L) (h1 : i64 I) (v : Value) (xs : List ByteArray) (w : World) (hT : T w) (hR : ReadsT w v xs) (hf : Fits xs) :
    Calls Tryd.prog 3 #[.int .i64 wd, v, .agg #[.int .i64 L, .int .i64 I]] w fun e w' => e = .returned (.bool true) ∧ Below w.heap.size w w' := by
  have hl : xs.length = 0 ∨ xs.length = 1 ∨ 2 ≤ xs.length := by omega
  by_cases ho : okA L I
  · by_cases hg : (I + 1) * 2 ^ L.toNat ≤ xs.length
    · rcases hl with h | h | h
      · obtain ⟨k, i, rfl, rfl, hk, hi2⟩ := okA_form ho
        rw [Int.toNat_natCast, cast_pow, show ((i : Int) + 1) = ((i + 1 : Nat) : Int) by omega, ← Int.natCast_mul] at hg
        have := Nat.le_mul_of_pos_right (i + 1) (p2 k)
        omega
      · exact split_a1 later tab RC NC SP wd L I hwd h0 h1 v xs w hT hR hf ⟨ho, hg⟩ h
      · exact split_a2 later tab RC NC SP wd L I hwd h0 h1 v xs w hT hR hf ⟨ho, hg⟩ h
    · rcases hl with h | h | h
      · exact split_b0 later tab RC NC SP wd L I hwd h0 h1 v xs w hT hR hf ⟨ho, hg⟩ h
      · exact split_b1 later tab RC NC SP wd L I hwd h0 h1 v xs w hT hR hf ⟨ho, hg⟩ h
      · exact split_b2 later tab RC NC SP wd L I hwd h0 h1 v xs w hT hR hf ⟨ho, hg⟩ h
  · rcases hl with h | h | h
    · exact split_c0 later tab RC NC SP wd L I hwd h0 h1 v xs w hT hR hf ho h
    · exact split_c1 later tab RC NC SP wd L I hwd h0 h1 v xs w hT hR hf ho h
    · exact split_c2 later tab RC NC SP wd L I hwd h0 h1 v xs w hT hR hf ho h
end Go.Proofs.YtkanjkofdfmhhaaDoor.gx
